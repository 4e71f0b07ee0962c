/-
  The walk of the law ValueDoes.
-/
import Derived.Test.YtkkjgiejnblopaaDoorVH
namespace Go.Proofs.YtkkjgiejnblopaaDoor
open Go.RowKit Vl

theorem vty : Sl Tryd.prog 22 27 (.agg #[.bool false, .int .i64 0, .string ⟨#[]⟩]) 3 32 := ⟨Tryd.underlying22, by kernel_rfl, rfl, by omega⟩
theorem RetD.parts {w : World} {t : Bool} {n : Int} {s : List UInt8} {x : Nat} {e : Ending} {w' : World} (h : RetD w (⟨t, n, s⟩, x) e w') : RetP w t n s x e w' := h
def VkRel (w : World) (n : Nat) (s i : Value) (wr : World) : Prop :=
  ∃ k q : Nat, s = .bool true ∧ i = .int .i64 (k : Int) ∧ k ≤ n ∧ wr = w.drewN q

set_option maxRecDepth 100000 in
set_option maxHeartbeats 4000000 in
theorem valueDoes_walk (op : Int) (A : Option Addr) (n c : Nat) (l : List V) (D : Option Addr) (m d : Nat) (L : List Bool) (w : World) (hop : I op) (hr : Rc 3 w w.heap.size A n c (vvs l)) (hn : n ≤ maxLen) (hI : ∀ v ∈ l, I v.n) (hd : Rc 1 w w.heap.size D m d (lvb L)) (hG : Gl w) :
    Calls Tryd.prog 3 #[.int .i64 op, .slice A n c, .slice D m d] w fun e w' => e = .returned (.bool true) ∧ Below w.heap.size w w' := by
  have hl : l.length = n := by have := hr.1; rw [vvs_len] at this; omega
  have Hsm := Lib.hid (small_c A n c l w hr hn)
  have Hr := Lib.hid hr; have HI := Lib.hid hI; have Hl := Lib.hid hl; have HG := Lib.hid hG; have Hd := Lib.hid hd
  clear hr hI hl hG hd
  obtain ⟨sm, hsm⟩ : ∃ sm, sm = smB l := ⟨_, rfl⟩
  rw [← hsm] at Hsm
  go_enter Tryd.func3, Tryd.ntmps3
  go_wp2_with fail
  refine Hsm.out.mono ?_
  rintro e w1 ⟨rfl, b1⟩
  have z1 := b1.size
  have B1 := Lib.hid b1
  clear b1
  cases sm with
  | false =>
    clear hsm
    go_wp2_with fail
    refine (alive13_c vls _ (HG.out.below' B1.out)).mono ?_
    rintro e wf ⟨rfl, bf⟩
    go_wp2
    go_ret
    exact ⟨rfl, B1.out.trans (bf.mono B1.out.size)⟩
  | true =>
    obtain ⟨hl8, hl21⟩ := smB_true.1 hsm.symm
    by_cases hm : (8 : Int) < (m : Int)
    · have d1 : decide ((8 : Int) < (m : Int)) = true := decide_eq_true hm
      clear hsm hl8 hl21
      go_wp2_with fail
      refine (alive13_c vls _ (HG.out.below' B1.out)).mono ?_
      rintro e wf ⟨rfl, bf⟩
      go_wp2
      go_ret
      exact ⟨rfl, B1.out.trans (bf.mono B1.out.size)⟩
    · have d1 : decide ((8 : Int) < (m : Int)) = false := decide_eq_false hm
      have hn8 : n ≤ 8 := by have := Hl.out; omega
      have hm8 : m ≤ 8 := by omega
      obtain ⟨w2, hw2⟩ : ∃ w2, w2 = w1.alloc (.cells #[] 27) := ⟨_, rfl⟩
      have b2 : Below w1.heap.size w1 w2 := by rw [hw2]; exact (Below.refl _ _).alloc (Nat.le_refl _) _
      have own2 : Oc 3 w2 27 w1.heap.size (some ⟨w1.heap.size, 0, none⟩) 0 0 [] := by rw [hw2]; exact Oc.made0 3 _ _
      have hr2 := ((Hr.out.below B1.out).more (B' := w1.heap.size) z1).below b2
      obtain ⟨W, hW⟩ : ∃ W, W = vvs l := ⟨_, rfl⟩
      have h1W : ∀ v ∈ W, v.oneCell' = true := by rw [hW]; exact vvs_one l
      have hWs : ([] : List Value) ++ W = W := rfl
      rw [← hW] at hr2
      have z2 := b2.size
      have W2 := Lib.hid hw2; have Own2 := Lib.hid own2; have Hr2 := Lib.hid hr2; have B2 := Lib.hid b2; have HW := Lib.hid hW; have Hl21 := Lib.hid hl21; have H1W := Lib.hid h1W; have HWs := Lib.hid hWs; have Z2 := Lib.hid z2
      clear hw2 own2 hr2 b2 hW hl21 hl8 hsm hm hn h1W hWs z2
      go_wp2_with (at_builtin; rw [← W2.out]; go_must (refine Sl.wpAppAt vty rfl (.tmp 27) (.tmp 28) rfl (n := 0) (m := n) (N := n) (ws := W) rfl rfl Own2.out Hr2.out ?hs1 (Nat.zero_add n) HWs.out ?hs4 ?hs5 Z2.out ?_))
      case hs1 => exact H1W.out
      case hs4 => omega
      case hs5 => omega
      intro A3 c3 w3 own3 g3
      have b3 := g3.belowC Own2.out Z2.out
      have bb3 := B1.out.trans ((B2.out.trans b3).mono z1)
      rw [HW.out] at own3
      have Own3 := Lib.hid own3; have BB3 := Lib.hid bb3
      have hdo := vls.do_ op A3 n c3 l w3 (HG.out.below' bb3) hop own3.rc (by omega) (fun v hv => ⟨HI.out v hv, by have := Hl21.out v hv; omega⟩)
      obtain ⟨⟨dt, dn, ds⟩, de, hD⟩ : ∃ x y, doV op l = (x, y) := ⟨_, _, rfl⟩
      rw [hD] at hdo
      obtain ⟨rt, re, hR⟩ : ∃ x y, res op L = (x, y) := ⟨_, _, rfl⟩
      have HD := Lib.hid hD; have HR := Lib.hid hR
      have Hdo := Lib.hid (show Calls Tryd.prog 10 #[.int .i64 op, .slice A3 n c3] w3 (RetP w3 dt dn ds de) from hdo)
      clear own3 g3 b3 bb3 hdo hD hR
      go_wp2_with fail
      refine Hdo.out.mono ?_
      rintro e w4 ⟨rfl, b4⟩
      obtain ⟨w5, hw5⟩ : ∃ w5, w5 = w4.alloc (.cells #[.bool dt, .int .i64 dn, .string ⟨ds.toArray⟩] 27) := ⟨_, rfl⟩
      have b5 : Below w4.heap.size w4 w5 := by rw [hw5]; exact (Below.refl _ _).alloc (Nat.le_refl _) _
      have x5 : Bx w5 w4.heap.size (.bool dt) (.int .i64 dn) (.string ⟨ds.toArray⟩) := by rw [hw5]; exact Bx.made _ _ _ _ _
      have b45 := b4.trans (b5.mono b4.size)
      have own5 := Own3.out.keep b45
      have bb5 := BB3.out.trans (b45.mono BB3.out.size)
      have hrd := do_c op A n c l w5 ((Hr.out.below bb5).more bb5.size) (by omega) HI.out
      rw [HD.out] at hrd
      have Hrd := Lib.hid (show Calls Tryd.prog 11 #[.int .i64 op, .slice A n c] w5 (RetP w5 dt dn ds de) from hrd)
      have W5 := Lib.hid hw5; have X5 := Lib.hid x5; have Own5 := Lib.hid own5; have BB5 := Lib.hid bb5
      clear hw5 b5 x5 b45 own5 bb5 hrd b4
      go_wp2_with (rw [← W5.out])
      refine Hrd.out.mono ?_
      rintro e w6 ⟨rfl, b6⟩
      obtain ⟨w7, hw7⟩ : ∃ w7, w7 = w6.alloc (.cells #[.bool dt, .int .i64 dn, .string ⟨ds.toArray⟩] 27) := ⟨_, rfl⟩
      have b7 : Below w6.heap.size w6 w7 := by rw [hw7]; exact (Below.refl _ _).alloc (Nat.le_refl _) _
      have y7 : Bx w7 w6.heap.size (.bool dt) (.int .i64 dn) (.string ⟨ds.toArray⟩) := by rw [hw7]; exact Bx.made _ _ _ _ _
      have b67 := b6.trans (b7.mono b6.size)
      have x7 := X5.out.below b67 X5.out.lt
      have own7 := Own5.out.keep b67
      have bb7 := BB5.out.trans (b67.mono BB5.out.size)
      have hrs := vls.result op D m d L w7 hop ((Hd.out.below bb7).more bb7.size) (by omega)
      rw [HR.out] at hrs
      have Hrs := Lib.hid hrs
      have W7 := Lib.hid hw7; have X7 := Lib.hid x7; have Y7 := Lib.hid y7; have Own7 := Lib.hid own7; have BB7 := Lib.hid bb7
      clear hw7 b7 y7 b67 x7 own7 bb7 hrs b6
      go_wp2_with (rw [← W7.out])
      refine Hrs.out.mono ?_
      rintro e w8 ⟨rfl, b8⟩
      have x8 := X7.out.below b8 X7.out.lt
      have y8 := Y7.out.below b8 Y7.out.lt
      have own8 := Own7.out.keep b8
      have bb8 := BB7.out.trans (b8.mono BB7.out.size)
      have hre := result_c op D m d L w8 ((Hd.out.below bb8).more bb8.size) (by omega)
      rw [HR.out] at hre
      have Hre := Lib.hid hre; have X8 := Lib.hid x8; have Y8 := Lib.hid y8; have Own8 := Lib.hid own8; have BB8 := Lib.hid bb8
      clear x8 y8 own8 bb8 hre b8
      dsimp only
      go_wp2_with fail
      refine Hre.out.mono ?_
      rintro e w9 ⟨rfl, q, hw9⟩
      dsimp only
      have x9 : Bx w9 w4.heap.size (.bool dt) (.int .i64 dn) (.string ⟨ds.toArray⟩) := by rw [hw9]; exact ⟨X8.out.c0, X8.out.c1, X8.out.c2, X8.out.f0, X8.out.f1, X8.out.f2, X8.out.lt⟩
      have y9 : Bx w9 w6.heap.size (.bool dt) (.int .i64 dn) (.string ⟨ds.toArray⟩) := by rw [hw9]; exact ⟨Y8.out.c0, Y8.out.c1, Y8.out.c2, Y8.out.f0, Y8.out.f1, Y8.out.f2, Y8.out.lt⟩
      have bb9 : Below w.heap.size w w9 := by rw [hw9]; exact below_drewN BB8.out q
      have hrow : Rc 3 w9 w9.heap.size A3 n c3 (vvs l) := by rw [hw9]; exact Own8.out.rc
      have hrl : Rc 3 w9 w.heap.size A n c (vvs l) := Hr.out.below bb9
      have Hrow := Lib.hid hrow; have Hrl := Lib.hid hrl; have X9 := Lib.hid x9; have Y9 := Lib.hid y9; have BB9 := Lib.hid bb9
      clear hrow hrl x9 y9 bb9 hw9
      go_wp2_with fail
      go_loopw [16, 17] (fun s i wr => VkRel w9 n s i wr) (fun _ i _ => n - (intOf i).toNat)
      case atStart => exact ⟨0, 0, rfl, rfl, Nat.zero_le _, rfl⟩
      case round =>
        obtain ⟨k, qq, rfl, rfl, hk, rfl⟩ := hrel
        by_cases hlt : k < n
        · obtain ⟨b, o, v, hA, hb, a0, a1, a2, hv⟩ := vvs_at Hrow.out hlt
          obtain ⟨b', o', v', hA', hb', e0, e1, e2, hv'⟩ := vvs_at Hrl.out hlt
          obtain rfl : v' = v := by rw [hv'] at hv; exact Option.some.inj hv
          subst hA hA'
          obtain ⟨t, x, s⟩ := v'
          dsimp only at a0 a1 a2 e0 e1 e2
          have tt : (t == t) = true := by cases t <;> rfl
          clear hv hv' hb hb'
          go_wp2_with fail
          go_quiet (fail)
          go_wp2
          go_roundw
          case rel => exact ⟨k + 1, _, by first | rfl | simp, by go_num, hlt, rfl⟩
          case measure => simp [intOf]; omega
        · obtain rfl : k = n := by omega
          have bbk := below_drewN BB9.out qq
          have Bk := Lib.hid bbk
          clear bbk
          go_wp2_with fail
          refine (alive13_c vls _ (HG.out.below' Bk.out)).mono ?_
          rintro e wa ⟨rfl, ba⟩
          have BBa := Lib.hid (Bk.out.trans (ba.mono Bk.out.size))
          have xk : Bx (w9.drewN qq) w4.heap.size (.bool dt) (.int .i64 dn) (.string ⟨ds.toArray⟩) := ⟨X9.out.c0, X9.out.c1, X9.out.c2, X9.out.f0, X9.out.f1, X9.out.f2, X9.out.lt⟩
          have yk : Bx (w9.drewN qq) w6.heap.size (.bool dt) (.int .i64 dn) (.string ⟨ds.toArray⟩) := ⟨Y9.out.c0, Y9.out.c1, Y9.out.c2, Y9.out.f0, Y9.out.f1, Y9.out.f2, Y9.out.lt⟩
          obtain ⟨a0, a1, a2, -, -, -, -⟩ := xk.below ba xk.lt
          obtain ⟨e0, e1, e2, -, -, -, -⟩ := yk.below ba yk.lt
          have tt : (dt == dt) = true := by cases dt <;> rfl
          have tr : (rt == rt) = true := by cases rt <;> rfl
          clear ba xk yk
          go_wp2_with fail
          refine (vls.arity op _ hop).mono ?_
          rintro e wb ⟨rfl, bb⟩
          have BBb := Lib.hid (BBa.out.trans (bb.mono BBa.out.size))
          clear bb a0 a1 a2 e0 e1 e2
          go_wp2_with fail
          refine (arity_c op _).mono ?_
          rintro e wc ⟨rfl, rfl⟩
          go_wp2
          go_ret
          exact ⟨rfl, BBb.out⟩
end Go.Proofs.YtkkjgiejnblopaaDoor
