/-
  Joined: P13.
-/
import Derived.Test.YtplkjljhpmldfaaJ24
import Derived.Test.YtplkjljhpmldfaaJ22
/-
  token.appended: the bytes so far, and those of a token.
-/
namespace Go.Proofs.Ytplkjljhpmldfaa
open Go.RowKit

theorem Box4.grownO {w w' : World} {g : Nat} {r : Option Nat} {v0 v1 v2 v3 : Value} (h : Box4 w g v0 v1 v2 v3) (hg : w.grownBy w' r) (hne : some g ≠ r) : Box4 w' g v0 v1 v2 v3 := by
  have hb : w'.heap[g]? = w.heap[g]? := hg.block g h.lt hne
  have c : ∀ i, w'.cell? ⟨g, i, none⟩ = w.cell? ⟨g, i, none⟩ := fun i => World.cell?_of_block hb
  have f : ∀ i, w'.frozen? ⟨g, i, none⟩ = w.frozen? ⟨g, i, none⟩ := fun i => World.frozen?_of_block hb
  exact ⟨(c 0).trans h.c0, (c 1).trans h.c1, (c 2).trans h.c2, (c 3).trans h.c3, (f 0).trans h.f0, (f 1).trans h.f1, (f 2).trans h.f2, (f 3).trans h.f3, Nat.lt_of_lt_of_le h.lt hg.size⟩
theorem getD_of' {l : List UInt8} {i : Nat} {x : UInt8} (h : l[i]? = some x) : l.getD i 0 = x := by simp [List.getD, h]
theorem own_alloc_ob {w : World} {e : TypeId} {base c : Nat} {A : Option Addr} {l : List UInt8} (h : Own w e base A c l) : ob A ≠ some w.heap.size := fun q => by have := (own_ob h _ q).2; omega
theorem Grows.pre' {a b c : World} {A B : Option Addr} (h : Below a.heap.size a b) (k : Grows b c A B) : Grows a c A B := Grows.pre h k

set_option maxRecDepth 100000 in
/-- token.appended: a literal token -/
theorem appended_lit (A : Option Addr) (c base : Nat) (o : List UInt8) (E : Option Addr) (K ec B d : Nat) (l : List UInt8) (w : World) (hown : Own w 5 base A c o) (hb : base ≤ w.heap.size) (hr : Rb w B E K ec l) (hB : B ≤ w.heap.size) (hs : o.length + l.length ≤ 140737488355328) :
    Calls Try.prog 96 #[tokV false K (.slice E K ec) d, .slice A o.length c] w (RetO base w A (o ++ l)) := by
  have Hr := Lib.hid hr; have Hown := Lib.hid hown; clear hr hown
  unfold tokV
  go_enter Try.func96, Try.ntmps96
  go_wp2_with (at_builtin; go_must (refine bty.wpAppAt rfl (.tmp 8) (.tmp 10) rfl (l := o) (r := l) rfl rfl (Hown.out.alloc _) (Hr.out.alloc hB _) ?hs1 ?hs2 ?_))
  case hs1 => omega
  case hs2 => simp; omega
  intro A2 c2 w2 hown2 hg2
  go_wp2
  go_ret
  exact ⟨A2, c2, ret_len (by simp), hown2, Grows.pre ((Below.refl _ _).alloc (Nat.le_refl _) _) hg2⟩

def AppRel (base g2 : Nat) (W : World) (A : Option Addr) (OUT : List UInt8) (K d olen : Nat) (v1 v2 : Value) (to tj : Value) (wr : World) : Prop :=
  ∃ A1 c1 o1 j, to = .slice A1 (o1 : List UInt8).length c1 ∧ tj = .int .u64 ((j : Nat) : Int) ∧ j ≤ K ∧ o1.length = olen + j ∧ Hid (Own wr 5 base A1 c1 o1) ∧ Hid (Pm.copyN (K - j) d o1 = OUT) ∧ Hid (Box4 wr g2 v1 (.int .u64 (K : Int)) v2 (.int .u64 (d : Int))) ∧ Hid (ob A1 ≠ some g2) ∧ Hid (Grows W wr A A1) ∧ base ≤ wr.heap.size

set_option maxRecDepth 100000 in
set_option maxHeartbeats 1000000 in
/-- token.appended: a match token -/
theorem appended_mat (A : Option Addr) (c base : Nat) (o : List UInt8) (K d : Nat) (w : World) (hown : Own w 5 base A c o) (hb : base ≤ w.heap.size) (hd : 1 ≤ d) (hd2 : d ≤ 4096) (hd3 : d ≤ o.length) (hs : o.length + K ≤ 2147483647) :
    Calls Try.prog 96 #[tokV true K (.slice none 0 0) d, .slice A o.length c] w (RetO base w A (Pm.copyN K d o)) := by
  obtain ⟨OUT, hOUT⟩ : ∃ OUT, OUT = Pm.copyN K d o := ⟨_, rfl⟩
  rw [← hOUT]
  have Hown := Lib.hid hown; have HOUT := Lib.hid hOUT
  have Hne := Lib.hid (own_alloc_ob hown); have Hbox := Lib.hid (Box4.made w 127 (.bool true) (.int .u64 (K : Int)) (.slice none 0 0) (.int .u64 (d : Int)))
  clear hown hOUT
  obtain ⟨ol, hol⟩ : ∃ ol, ol = o.length := ⟨_, rfl⟩
  rw [← hol] at hs hd3 ⊢
  have Hol := Lib.hid hol; clear hol
  unfold tokV
  go_enter Try.func96, Try.ntmps96
  go_wp2
  go_loopw [1, 14] (fun to tj wr => AppRel base w.heap.size w A OUT K d ol (.bool true) (.slice none 0 0) to tj wr) (fun _ tj _ => K - (intOf tj).toNat)
  case atStart => exact ⟨A, c, o, 0, by rw [Hol.out], rfl, by omega, by rw [Hol.out, Nat.add_zero], Lib.hid (Hown.out.alloc _), Lib.hid (by rw [HOUT.out, Nat.sub_zero]), Hbox, Hne, Lib.hid ⟨World.grownBy_alloc _ _ _, .inl rfl⟩, by simp; omega⟩
  case round =>
    obtain ⟨A1, c1, o1, j, rfl, rfl, hj, hlen, HO, HC, HB, HN, HG, hsz⟩ := hrel
    obtain ⟨t0, t1, t2, t3, k0, k1, k2, k3, hlt2⟩ := HB.out
    have Hlen := Lib.hid hlen; clear hlen
    by_cases hjK : j < K
    · have hpos : 0 < o1.length := by have := Hlen.out; omega
      have hdl : d ≤ o1.length := by have := Hlen.out; omega
      have hls : o1.length ≤ 2147483647 := by have := Hlen.out; omega
      obtain ⟨g, rfl, hgb⟩ := HO.out.at_base hpos
      obtain ⟨x, hx⟩ : ∃ x, o1[o1.length - d]? = some x := ⟨_, List.getElem?_eq_getElem (by omega)⟩
      have hc := HO.out.cellAt _ x hx
      have hcopy : Hid (Pm.copyN (K - (j + 1)) d (o1 ++ [x]) = OUT) := by
        have h1 := HC.out
        rw [show K - j = (K - (j + 1)) + 1 by omega, Pm.copyN, getD_of' hx] at h1
        exact h1
      have Hx := Lib.hid hx; clear hx HC
      have p1 : (0 : Int) ≤ (o1.length : Int) - (d : Int) := by omega
      have p2 : (o1.length : Int) - (d : Int) < (o1.length : Int) := by omega
      have e1 : ((o1.length : Int) - (d : Int)).toNat = o1.length - d := by omega
      go_wp2_with (at_builtin; go_must (refine bty.wpAppAt rfl (.tmp 16) (.tmp 26) rfl (l := o1) (r := [x]) rfl rfl (HO.out.alloc _) (Rb.one _ _ x) ?hs1 ?hs2 ?_))
      case hs1 => simp; omega
      case hs2 => simp; omega
      intro A2 c2 w2 hown2 hg2
      have hg3 : Grows wr w2 (some ⟨g, 0, none⟩) A2 := Grows.pre ((Below.refl _ _).alloc (Nat.le_refl _) _) hg2
      have hn2 : ob A2 ≠ some w.heap.size := fun q => by
        rcases hg3.2 with e | ⟨g', e, hge⟩
        · exact HN.out (e ▸ q)
        · rw [e] at q; cases q; omega
      have HB2 := Lib.hid (HB.out.grownO hg3.1 (fun e => HN.out e.symm))
      have HO2 := Lib.hid hown2; have HG2 := Lib.hid (HG.out.trans hg3); have HN2 := Lib.hid hn2
      have hs2 := hg3.size
      clear hg2 hg3 hown2 HO HB HG HN t0 t1 t2 t3 k0 k1 k2 k3 hc
      go_wp2
      go_roundw
      case rel => exact ⟨A2, c2, o1 ++ [x], j + 1, by simp, by go_num, by omega, by rw [List.length_append, Hlen.out]; simp; omega, HO2, hcopy, HB2, HN2, HG2, by omega⟩
      case measure => simp [intOf]; omega
    · go_wp2
      go_ret
      obtain rfl : j = K := by omega
      have h1 := HC.out
      rw [Nat.sub_self] at h1
      have h2 : o1 = OUT := h1
      subst h2
      exact ⟨A1, c1, rfl, HO.out, HG.out⟩
end Go.Proofs.Ytplkjljhpmldfaa
