/-
  The program's Needs.
-/
import Derived.Test.YthkjhenaicbepaaDoorKo
namespace Go.Proofs.YthkjhenaicbepaaDoor
open Go.RowKit Vl Cd Ck

def NdRel (w : World) (n : Nat) (p : List Ins) (N : Nat) (u i : Value) (wr : World) : Prop :=
  ∃ (k q : Nat), k ≤ n ∧ i = .int .i64 (k : Int) ∧ u = .int .i64 (q : Int) ∧ Hid (nd (p.drop k) q = N) ∧ Hid (q ≤ 50) ∧ Hid (Below w.heap.size w wr)
theorem nd_cons (x : Ins) (p : List Ins) (n : Nat) : nd (x :: p) n = nd p (if x.op = 2 ∧ may x = true then max n (x.n.toNat + 1) else n) := rfl
theorem may_field {x : Ins} (h : x.op = 2) (hm : may x = true) : 0 ≤ x.n ∧ x.n < 50 := by
  unfold may at hm
  rw [if_neg (by omega), if_neg (by omega), if_pos h] at hm
  simp at hm; exact ⟨hm.1.1, hm.1.2⟩
theorem drop_cons' {p : List Ins} {n k : Nat} {x : Ins} (hl : p.length = n) (hk : k < n) (hx : p[k]? = some x) : p.drop k = x :: p.drop (k + 1) := by
  have h2 : k < p.length := by omega
  rw [List.drop_eq_getElem_cons h2]
  rw [List.getElem?_eq_getElem h2] at hx
  injection hx with hx
  rw [hx]
set_option maxRecDepth 100000 in
set_option maxHeartbeats 2000000 in
theorem needs_c (A : Option Addr) (n c : Nat) (p : List Ins) (w : World) (hp : Rc 3 w w.heap.size A n c (ics p)) (hn : n ≤ 1000000) (hI : ∀ x ∈ p, I x.op) :
    Calls Tryd.prog 13 #[.slice A n c] w (RetV w (.int .i64 (nd p 0 : Int))) := by
  have hpl := ics_num hp
  obtain ⟨N, hN⟩ : ∃ N, N = nd p 0 := ⟨_, rfl⟩
  rw [← hN]
  have HN := Lib.hid (show nd (p.drop 0) 0 = N from hN.symm)
  have HP := Lib.hid hp; have HI := Lib.hid hI; have Hpl := Lib.hid hpl
  clear hp hI hpl hN
  go_enter Tryd.func13, Tryd.ntmps13
  go_wp2
  go_loopw [3, 8] (fun u i wr => NdRel w n p N u i wr) (fun _ i _ => n - (intOf i).toNat)
  case atStart => exact ⟨0, 0, Nat.zero_le _, rfl, rfl, HN, Lib.hid (by omega), Lib.hid (Below.refl _ _)⟩
  case round =>
    obtain ⟨k, q, hk, rfl, rfl, Hq, Hq50, Hb⟩ := hrel
    by_cases hlt : k < n
    · obtain ⟨b, o, x, rfl, hb, a0, a1, a2, hx⟩ := ics_at (HP.out.below Hb.out) hlt
      have hg := Hq.out
      rw [drop_cons' Hpl.out hlt hx, nd_cons] at hg
      have hxm : x ∈ p := List.mem_of_getElem? hx
      have hfi := fun h h' => may_field (x := x) h h'
      obtain ⟨op, nn, t⟩ := x
      obtain ⟨X, hX, -, -, -⟩ := hide_st t
      have hop : I op := HI.out _ hxm
      dsimp only at a0 a1 a2 hfi hg
      unfold st at a2
      rw [← hX] at a2
      obtain ⟨M, hM⟩ : ∃ M, M = may ⟨op, nn, t⟩ := ⟨_, rfl⟩
      have hmay : ∀ W, Calls Tryd.prog 20 #[.agg #[.int .i64 op, .int .i64 nn, .string X]] W (RetV W (.bool M)) := fun W => by rw [hX, hM]; exact may_c ⟨op, nn, t⟩ hop W
      rw [← hM] at hg hfi
      obtain ⟨w7, hw7⟩ : ∃ w7, w7 = wr.alloc (.cells #[.int .i64 op, .int .i64 nn, .string X] 37) := ⟨_, rfl⟩
      have b7 : Below wr.heap.size wr w7 := by rw [hw7]; exact (Below.refl _ _).alloc (Nat.le_refl _) _
      have x7 : Bx w7 wr.heap.size (.int .i64 op) (.int .i64 nn) (.string X) := by rw [hw7]; exact Bx.made _ _ _ _ _
      have W7 := Lib.hid hw7; have X7 := Lib.hid x7; have B7 := Lib.hid (Hb.out.trans (b7.mono Hb.out.size)); have Hmay := Lib.hid hmay; have Hg := Lib.hid hg; have Hfi := Lib.hid hfi
      clear hw7 x7 b7 hmay hM hX hxm hx hop hg hfi
      obtain ⟨c0, c1, c2, -, -, -, hlt7⟩ := X7.out
      by_cases h2 : op = 2
      · subst h2
        cases M
        · have h1 := Lib.hid (show nd (p.drop (k + 1)) q = N by have := Hg.out; rw [if_neg (by simp)] at this; exact this)
          clear Hfi
          go_wp2_with (rw [← W7.out])
          refine (Hmay.out w7).mono ?_
          rintro e w8 ⟨rfl, b8⟩
          have B8 := Lib.hid (B7.out.trans (b8.mono B7.out.size))
          clear b8
          go_wp2
          go_roundw
          case rel => exact ⟨k + 1, q, hlt, by go_num, rfl, h1, Hq50, B8⟩
          case measure => simp [intOf]; omega
        · have hf := Hfi.out rfl rfl
          obtain ⟨j, rfl⟩ : ∃ j : Nat, nn = (j : Int) := ⟨nn.toNat, by omega⟩
          have hq50 := Hq50.out
          obtain ⟨r, hr⟩ : ∃ r, r = max q (j + 1) := ⟨_, rfl⟩
          have h1 := Lib.hid (show nd (p.drop (k + 1)) r = N by have := Hg.out; rw [if_pos (by simp), Int.toNat_natCast, ← hr] at this; exact this)
          have H50 := Lib.hid (show r ≤ 50 by omega)
          have e1 : IntKind.i64.wrap ((j : Int) + 1) = (j : Int) + 1 := IntWalk.i64_in _ (by omega)
          have e2 : max (q : Int) ((j : Int) + 1) = (r : Int) := by omega
          clear Hfi hr hf hq50
          go_wp2_with (rw [← W7.out])
          refine (Hmay.out w7).mono ?_
          rintro e w8 ⟨rfl, b8⟩
          have B8 := Lib.hid (B7.out.trans (b8.mono B7.out.size))
          have x8 := X7.out.below b8 hlt7
          clear b8 c0 c1 c2
          obtain ⟨c0, c1, c2, -, -, -, -⟩ := x8
          go_wp2
          go_roundw
          case rel => exact ⟨k + 1, r, hlt, by go_num, rfl, h1, H50, B8⟩
          case measure => simp [intOf]; omega
      · have d2 : (op == 2) = false := beq_eq_false_iff_ne.2 h2
        have h1 := Lib.hid (show nd (p.drop (k + 1)) q = N by have := Hg.out; rw [if_neg (fun h => h2 h.1)] at this; exact this)
        clear h2
        go_wp2_with (rw [← W7.out])
        go_roundw
        case rel => exact ⟨k + 1, q, hlt, by go_num, rfl, h1, Hq50, B7⟩
        case measure => simp [intOf]; omega
    · obtain rfl : k = n := by omega
      have hg := Hq.out
      rw [List.drop_of_length_le (by rw [Hpl.out]; exact Nat.le_refl _)] at hg
      obtain rfl : q = N := hg
      clear Hq
      go_wp2
      go_ret
      exact ⟨rfl, Hb.out⟩
end Go.Proofs.YthkjhenaicbepaaDoor
