/-
  The document's Depth, Needs.
-/
import Derived.Test.YthkjhenaicbepaaDoorKr
namespace Go.Proofs.YthkjhenaicbepaaDoor
open Go.RowKit Vl Cd Ck

def RdRel (w : World) (N : Nat) (f : List Bool) (p : List Ins) (v i : Value) (wr : World) : Prop :=
  ∃ (k q : Nat), k ≤ N + 1 ∧ i = .int .i64 (k : Int) ∧ v = .int .i64 (q : Int) ∧ Hid (q = dp (p.take (k - 1)) f) ∧ Hid (Below w.heap.size w wr)
set_option maxRecDepth 100000 in
set_option maxHeartbeats 2000000 in
theorem rdepth_c (A : Option Addr) (n c : Nat) (p : List Ins) (F : Option Addr) (m c' : Nat) (f : List Bool) (w : World) (hp : Rc 3 w w.heap.size A n c (ics p)) (hn : n ≤ 1000000) (hr : Rc 1 w w.heap.size F m c' (lvb f)) (hm : m ≤ 1000000) :
    Calls Tryd.prog 12 #[.slice A n c, .slice F m c'] w (RetV w (.int .i64 (dp p f : Int))) := by
  have hst := rstack_c A n c p F m c' f w hp hn hr hm
  have hpl := ics_num hp
  have hsl := sk_len p f
  have hall := dp_all p f
  obtain ⟨D, hD⟩ : ∃ D, D = dp p f := ⟨_, rfl⟩
  rw [← hD] at hall ⊢
  have hstep := fun i => @dp_step p f i
  have hsN := fun (k : Nat) (W : World) (hb : Below w.heap.size w W) (hk : k ≤ n) => rstack_c A k c (p.take k) F m c' f W (by
    have q := (hp.upto hk)
    rw [ics_take] at q
    exact (q.below hb).more hb.size) (by omega) ((hr.below hb).more hb.size) hm
  obtain ⟨G, hG⟩ : ∃ G, G = sk p f := ⟨_, rfl⟩
  simp only [← hG] at hst hsl hall hstep
  obtain ⟨s, N, er⟩ := G
  dsimp only at hsl hall hstep
  have hNn : N ≤ n := by omega
  have Hst := Lib.hid hst; have HsN := Lib.hid hsN; have Hall := Lib.hid hall; have Hstep := Lib.hid hstep; have HNn := Lib.hid hNn
  have Hc := Lib.hid hp.2.1
  clear hst hsN hall hstep hsl hpl hD hG hr hp hm hNn
  go_enter Tryd.func12, Tryd.ntmps12
  go_wp2_with fail
  refine Hst.out.mono ?_
  rintro e w1 ⟨A1, c1, rfl, ho, b1⟩
  have B1 := Lib.hid b1
  clear ho b1
  go_wp2
  go_loopw [8, 9] (fun v i wr => RdRel w N f p v i wr) (fun _ i _ => N + 1 - (intOf i).toNat)
  case atStart => exact ⟨0, 0, Nat.zero_le _, rfl, rfl, Lib.hid (by rw [List.take_zero]; unfold dp; split <;> rfl), B1⟩
  case round =>
    obtain ⟨k, q, hk, rfl, rfl, Hq, Hb⟩ := hrel
    by_cases hlt : k ≤ N
    · have hkn : k ≤ n := Nat.le_trans hlt HNn.out
      have hcut := Sl.upto ity A n c k hkn Hc.out (k : Int) rfl
      have h2 := Hstep.out k hlt
      have hs := HsN.out k wr Hb.out hkn
      have hs30 := (sk_len (p.take k) f).1
      rw [← Hq.out] at h2
      generalize sk (p.take k) f = T at *
      obtain ⟨u, i2, e2⟩ := T
      dsimp only at h2 hs30
      obtain ⟨z, hz⟩ : ∃ z, z = u.length := ⟨_, rfl⟩
      rw [← hz] at h2 hs30
      obtain ⟨r, hrr⟩ : ∃ r, r = max q z := ⟨_, rfl⟩
      have e1 : max (q : Int) (z : Int) = (r : Int) := by omega
      have Hs := Lib.hid hs; have HR := Lib.hid (show r = dp (p.take k) f by rw [hrr]; exact h2)
      have HZ := Lib.hid hz
      clear h2 hs hrr hs30 hz
      go_wp2_with fail
      refine Hs.out.mono ?_
      rintro e w2 ⟨A2, c2, rfl, ho, b2⟩
      have B2 := Lib.hid (Hb.out.trans (b2.mono Hb.out.size))
      dsimp only
      rw [← HZ.out]
      clear ho b2
      go_wp2
      go_roundw
      case rel => exact ⟨k + 1, r, by omega, by go_num, rfl, HR, B2⟩
      case measure => simp [intOf]; omega
    · obtain rfl : k = N + 1 := by omega
      have hq := Hq.out
      rw [Nat.add_sub_cancel, Hall.out] at hq
      subst hq
      have d9 : decide ((N : Int) + 1 ≤ (N : Int)) = false := decide_eq_false (by omega)
      clear Hq
      go_wp2
      go_ret
      exact ⟨rfl, Hb.out⟩
set_option maxRecDepth 100000 in
set_option maxHeartbeats 2000000 in
theorem rneeds_c (A : Option Addr) (n c : Nat) (p : List Ins) (w : World) (hp : Rc 3 w w.heap.size A n c (ics p)) (hn : n ≤ 1000000) :
    Calls Tryd.prog 14 #[.slice A n c] w (RetV w (.int .i64 (nd p 0 : Int))) := by
  have hpl := ics_num hp
  obtain ⟨N, hN⟩ : ∃ N, N = nd p 0 := ⟨_, rfl⟩
  rw [← hN]
  have HN := Lib.hid (show nd (p.drop 0) 0 = N from hN.symm)
  have HP := Lib.hid hp; have Hpl := Lib.hid hpl
  clear hp hpl hN
  go_enter Tryd.func14, Tryd.ntmps14
  go_wp2
  go_loopw [3, 4] (fun u i wr => NdRel w n p N u i wr) (fun _ i _ => n - (intOf i).toNat)
  case atStart => exact ⟨0, 0, Nat.zero_le _, rfl, rfl, HN, Lib.hid (by omega), Lib.hid (Below.refl _ _)⟩
  case round =>
    obtain ⟨k, q, hk, rfl, rfl, Hq, Hq50, Hb⟩ := hrel
    by_cases hlt : k < n
    · obtain ⟨b, o, x, rfl, hb, a0, a1, a2, hx⟩ := ics_at (HP.out.below Hb.out) hlt
      have hg := Hq.out
      rw [drop_cons' Hpl.out hlt hx, nd_cons] at hg
      have hfi := fun h h' => may_field (x := x) h h'
      obtain ⟨op, nn, t⟩ := x
      obtain ⟨X, hX, -, -, -⟩ := hide_st t
      dsimp only at a0 a1 a2 hfi hg
      unfold st at a2
      rw [← hX] at a2
      obtain ⟨M, hM⟩ : ∃ M, M = may ⟨op, nn, t⟩ := ⟨_, rfl⟩
      have hmay : ∀ W, Calls Tryd.prog 21 #[.agg #[.int .i64 op, .int .i64 nn, .string X]] W (RetV W (.bool M)) := fun W => by rw [hX, hM]; exact rmay_c ⟨op, nn, t⟩ W
      rw [← hM] at hg hfi
      have Hmay := Lib.hid hmay; have Hg := Lib.hid hg; have Hfi := Lib.hid hfi
      have hbl : b < wr.heap.size := Nat.lt_of_lt_of_le hb Hb.out.size
      clear hmay hM hX hx hg hfi
      by_cases h2 : op = 2
      · subst h2
        cases M
        · have h1 := Lib.hid (show nd (p.drop (k + 1)) q = N by have := Hg.out; rw [if_neg (by simp)] at this; exact this)
          clear Hfi
          go_wp2_with fail
          refine (Hmay.out wr).mono ?_
          rintro e w8 ⟨rfl, b8⟩
          have B8 := Lib.hid (Hb.out.trans (b8.mono Hb.out.size))
          clear b8
          go_wp2
          go_roundw
          case rel => exact ⟨k + 1, q, hlt, by go_num, rfl, h1, Hq50, B8⟩
          case measure => simp [intOf]; omega
        · have hf := Hfi.out rfl rfl
          obtain ⟨j, rfl⟩ : ∃ j : Nat, nn = (j : Int) := ⟨nn.toNat, by omega⟩
          have hq50 := Hq50.out
          obtain ⟨r, hr⟩ : ∃ r, r = max q (j + 1) := ⟨_, rfl⟩
          have h1 := Lib.hid (show nd (p.drop (k + 1)) r = N by have := Hg.out; rw [if_pos (by simp), Int.toNat_natCast, ← hr] at this; exact this)
          have H50 := Lib.hid (show r ≤ 50 by omega)
          have e1 : IntKind.i64.wrap ((j : Int) + 1) = (j : Int) + 1 := IntWalk.i64_in _ (by omega)
          have e2 : max (q : Int) ((j : Int) + 1) = (r : Int) := by omega
          clear Hfi hr hf hq50
          go_wp2_with fail
          refine (Hmay.out wr).mono ?_
          rintro e w8 ⟨rfl, b8⟩
          have B8 := Lib.hid (Hb.out.trans (b8.mono Hb.out.size))
          have a1' := (b8.cell (p := ⟨b, o + k * 3 + 1, none⟩) hbl).trans a1
          clear b8 a0 a1 a2
          go_wp2
          go_roundw
          case rel => exact ⟨k + 1, r, hlt, by go_num, rfl, h1, H50, B8⟩
          case measure => simp [intOf]; omega
      · have d2 : (op == 2) = false := beq_eq_false_iff_ne.2 h2
        have h1 := Lib.hid (show nd (p.drop (k + 1)) q = N by have := Hg.out; rw [if_neg (fun h => h2 h.1)] at this; exact this)
        clear h2
        go_wp2
        go_roundw
        case rel => exact ⟨k + 1, q, hlt, by go_num, rfl, h1, Hq50, Hb⟩
        case measure => simp [intOf]; omega
    · obtain rfl : k = n := by omega
      have hg := Hq.out
      rw [List.drop_of_length_le (by rw [Hpl.out]; exact Nat.le_refl _)] at hg
      obtain rfl : q = N := hg
      clear Hq
      go_wp2
      go_ret
      exact ⟨rfl, Hb.out⟩
end Go.Proofs.YthkjhenaicbepaaDoor
