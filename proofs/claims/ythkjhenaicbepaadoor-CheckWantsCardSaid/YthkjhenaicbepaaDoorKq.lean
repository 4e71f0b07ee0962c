/-
  The document's step. (Printed by genkq.py.)
-/
import Derived.Test.YthkjhenaicbepaaDoorKp
import Derived.Test.YthkjhenaicbepaaDoorKc
namespace Go.Proofs.YthkjhenaicbepaaDoor
open Go.RowKit Vl Cd Ck

/-- What the document's step hands over. -/
def RetSt (w : World) (u : List Bool) (er : Nat) (e : Ending) (w' : World) : Prop :=
  Below w.heap.size w w' ∧ if er = 0 then ∃ A c, e = .returned (.tuple #[.slice A u.length c, .int .i64 0]) ∧ Oc 1 w' 4 w.heap.size A u.length c (lvb u) else e = .returned (.tuple #[.slice none 0 0, .int .i64 (er : Int)])
theorem RetSt.err {w w' : World} (u : List Bool) {er : Nat} (h : Below w.heap.size w w') (h0 : er ≠ 0) : RetSt w u er (.returned (.tuple #[.slice none 0 0, .int .i64 (er : Int)])) w' := ⟨h, by rw [if_neg h0]⟩
theorem RetSt.ok {w w' : World} {u : List Bool} {A : Option Addr} {n c : Nat} (h : Below w.heap.size w w') (hn : n = u.length) (ho : Oc 1 w' 4 w.heap.size A n c (lvb u)) : RetSt w u 0 (.returned (.tuple #[.slice A n c, .int .i64 0])) w' := ⟨h, by rw [if_pos rfl]; subst hn; exact ⟨A, c, rfl, ho⟩⟩

set_option maxRecDepth 100000 in
set_option maxHeartbeats 4000000 in
theorem rstep_c (A : Option Addr) (n c : Nat) (s : List Bool) (x : Ins) (F : Option Addr) (m c' : Nat) (f : List Bool) (w : World) (hs : Rc 1 w w.heap.size A n c (lvb s)) (hn : n ≤ 30) (hr : Rc 1 w w.heap.size F m c' (lvb f)) (hm : m = 0 ∨ m = 2) :
    Calls Tryd.prog 19 #[.slice A n c, iv x, .slice F m c'] w (RetSt w (stp f s x).1 (stp f s x).2) := by
  have hfl := lvb_len1 hr
  have hsl := lvb_len1 hs
  have hrange := @may_op x
  have hT : stp f s x = if may x = false ∨ 22 ≤ x.op ∧ f.length = 0 then (s, 1) else if ar x.op = 0 then (if 30 ≤ s.length then (s, 13) else (s ++ [pk f x.op], 0)) else opS x.op s := rfl
  generalize stp f s x = T at hT ⊢
  obtain ⟨op, nn, t⟩ := x
  obtain ⟨X, hX, -, -, -⟩ := hide_st t
  show Calls Tryd.prog _ #[_, .agg #[.int .i64 op, .int .i64 nn, .string ⟨t.toArray⟩], _] w _
  simp only [← hX]
  dsimp only at hT hrange
  obtain ⟨M, hM⟩ : ∃ M, M = may ⟨op, nn, t⟩ := ⟨_, rfl⟩
  have hmay : ∀ W, Calls Tryd.prog 21 #[.agg #[.int .i64 op, .int .i64 nn, .string X]] W (RetV W (.bool M)) := fun W => by rw [hX, hM]; exact rmay_c ⟨op, nn, t⟩ W
  rw [← hM] at hT hrange
  have har := fun W => arity_c op W
  obtain ⟨w0, hw0⟩ : ∃ w0, w0 = w.alloc (.cells #[.int .i64 op, .int .i64 nn, .string X] 37) := ⟨_, rfl⟩
  have b0 : Below w.heap.size w w0 := by rw [hw0]; exact (Below.refl _ _).alloc (Nat.le_refl _) _
  have x0 : Bx w0 w.heap.size (.int .i64 op) (.int .i64 nn) (.string X) := by rw [hw0]; exact Bx.made _ _ _ _ _
  have W0 := Lib.hid hw0; have B0 := Lib.hid b0; have X0 := Lib.hid x0; have HT := Lib.hid hT; have Hmay := Lib.hid hmay; have Hfl := Lib.hid hfl; have Hsl := Lib.hid hsl; have Hr := Lib.hid hr; have Hs := Lib.hid hs; have Har := Lib.hid har
  clear hw0 b0 x0 hT hmay hM hX hfl hsl hr hs har
  obtain ⟨c0, c1, c2, -, -, -, hlt⟩ := X0.out
  cases M
  · obtain rfl := HT.out.trans (if_pos (.inl rfl))
    clear hrange
    go_enter Tryd.func19, Tryd.ntmps19
    go_wp2_with (rw [← W0.out])
    refine (Hmay.out w0).mono ?_
    rintro e w1 ⟨rfl, b1⟩
    have B1 := Lib.hid (B0.out.trans (b1.mono B0.out.size))
    clear b1 c0 c1 c2
    go_wp2
    go_ret2
    exact RetSt.err s B1.out (by decide)
  · have hra := hrange rfl
    clear hrange
    have hrn : n ≤ n := Nat.le_refl n
    by_cases h0 : op = 0
    · subst h0
      clear hra
      have hS0 : s.take n = s := List.take_of_length_le (by rw [Hsl.out]; exact Nat.le_refl _)
      have hcut2 := Sl.upto kty A n c n (Nat.le_refl n) Hs.out.2.1 (n : Int) rfl
      have e0 : IntKind.i64.wrap (n : Int) = (n : Int) := IntWalk.i64_in _ (by omega)
      have har0 : ∀ W, Calls Tryd.prog 24 #[.int .i64 0] W fun e w' => e = .returned (.int .i64 0) ∧ W = w' := fun W => Har.out W
      have Har := Lib.hid har0
      have HS0 := Lib.hid hS0
      have Hsl2 := Lib.hid Hsl.out
      have d9 : decide ((n : Int) < 0) = false := decide_eq_false (by omega)
      clear har0 hS0
      by_cases h30 : 30 ≤ s.length
      · obtain rfl : T = (s, 13) := HT.out.trans ((if_neg (by simp)).trans ((if_pos (by decide)).trans (if_pos h30)))
        have h30n : 30 ≤ n := by have := Hsl2.out; omega
        clear h30 HT
        go_enter Tryd.func19, Tryd.ntmps19
        go_wp2_with (rw [← W0.out])
        refine (Hmay.out w0).mono ?_
        rintro e w1 ⟨rfl, b1⟩
        have x1 := X0.out.below b1 hlt
        have B1 := Lib.hid (B0.out.trans (b1.mono B0.out.size))
        clear b1 c0 c1 c2
        obtain ⟨c0, c1, c2, -, -, -, -⟩ := x1
        go_wp2_with fail
        refine (Har.out w1).mono ?_
        rintro e w2 ⟨rfl, rfl⟩
        have hS0 := HS0.out
        obtain ⟨w3, hw3⟩ : ∃ w3, w3 = (w1).alloc (.cells #[] 4) := ⟨_, rfl⟩
        have bw := B1.out
        have b3 : Below (w1).heap.size (w1) w3 := by rw [hw3]; exact (Below.refl _ _).alloc (Nat.le_refl _) _
        have hw : w.heap.size ≤ (w1).heap.size := bw.size
        have o3 : Oc 1 w3 4 w.heap.size (some ⟨(w1).heap.size, 0, none⟩) 0 0 [] := by rw [hw3]; exact (Oc.made0 1 _ _).mono hw
        have B3 := Lib.hid (bw.trans (b3.mono hw))
        have r3 : Rc 1 w3 w3.heap.size A n c (lvb s) := by
          have q := (((Hs.out.below B3.out).more B3.out.size).upto hrn)
          rw [lvb_take, hS0] at q
          exact q
        have W3 := Lib.hid hw3; have O3 := Lib.hid o3; have R3 := Lib.hid r3
        have h3s : w.heap.size ≤ w3.heap.size := B3.out.size
        clear hw3 b3 o3 r3 bw hw
        go_wp2_with (at_builtin; rw [← W3.out]; go_must (refine Sl.wpAppAt kty rfl (.tmp 68) (.tmp 74) rfl (n := 0) (m := n) (N := n) (ws := lvb s) rfl rfl O3.out R3.out (lvb_one _) (Nat.zero_add _) rfl ?hs4 ?hs5 h3s ?_))
        case hs4 => omega
        case hs5 => omega
        intro A4 c4 w4 ho4 hg4
        have B4 := Lib.hid (B3.out.trans ((hg4.belowC O3.out h3s).trans (Below.refl _ _)))
        obtain ⟨w5, hw5⟩ : ∃ w5, w5 = w4.alloc (.cells #[.bool false] 4) := ⟨_, rfl⟩
        have b5 : Below w4.heap.size w4 w5 := by rw [hw5]; exact (Below.refl _ _).alloc (Nat.le_refl _) _
        have o5 : Oc 1 w5 4 w.heap.size A4 n c4 (lvb s) := ho4.keep b5
        have r5 : Rc 1 w5 (w4.heap.size + 1) (some ⟨w4.heap.size, 0, none⟩) 1 1 (lvb [false]) := by rw [hw5]; exact Rc.lit w4 _ #[.bool false] 1 rfl (by simp [maxLen])
        have B5 := Lib.hid (B4.out.trans (b5.mono B4.out.size)); have W5 := Lib.hid hw5; have O5 := Lib.hid o5; have R5 := Lib.hid r5
        have h5s : w.heap.size ≤ w5.heap.size := B5.out.size
        clear hw5 b5 o5 r5 ho4 hg4
        go_wp2_with (at_builtin; rw [← W5.out]; go_must (refine Sl.wpAppAt kty rfl (.tmp 76) (.tmp 78) rfl (n := n) (m := 1) (N := n + 1) (ws := lvb (s ++ [false])) rfl rfl O5.out R5.out (lvb_one _) rfl (lvb_app _ _).symm ?hs4 ?hs5 h5s ?_))
        case hs4 => omega
        case hs5 => omega
        intro A6 c6 w6 ho6 hg6
        have B6 := Lib.hid (B5.out.trans ((hg6.belowC O5.out h5s).trans (Below.refl _ _)))
        clear ho6 hg6
        have dq : decide ((30 : Int) < (n : Int) + 1) = true := decide_eq_true (by omega)
        go_wp2
        go_ret2
        exact RetSt.err _ B6.out (by decide)
      · obtain rfl : T = (s ++ [false], 0) := HT.out.trans ((if_neg (by simp)).trans ((if_pos (by decide)).trans ((if_neg h30).trans (by rfl))))
        have h30n : n < 30 := by have := Hsl2.out; omega
        clear h30 HT
        go_enter Tryd.func19, Tryd.ntmps19
        go_wp2_with (rw [← W0.out])
        refine (Hmay.out w0).mono ?_
        rintro e w1 ⟨rfl, b1⟩
        have x1 := X0.out.below b1 hlt
        have B1 := Lib.hid (B0.out.trans (b1.mono B0.out.size))
        clear b1 c0 c1 c2
        obtain ⟨c0, c1, c2, -, -, -, -⟩ := x1
        go_wp2_with fail
        refine (Har.out w1).mono ?_
        rintro e w2 ⟨rfl, rfl⟩
        have hS0 := HS0.out
        obtain ⟨w3, hw3⟩ : ∃ w3, w3 = (w1).alloc (.cells #[] 4) := ⟨_, rfl⟩
        have bw := B1.out
        have b3 : Below (w1).heap.size (w1) w3 := by rw [hw3]; exact (Below.refl _ _).alloc (Nat.le_refl _) _
        have hw : w.heap.size ≤ (w1).heap.size := bw.size
        have o3 : Oc 1 w3 4 w.heap.size (some ⟨(w1).heap.size, 0, none⟩) 0 0 [] := by rw [hw3]; exact (Oc.made0 1 _ _).mono hw
        have B3 := Lib.hid (bw.trans (b3.mono hw))
        have r3 : Rc 1 w3 w3.heap.size A n c (lvb s) := by
          have q := (((Hs.out.below B3.out).more B3.out.size).upto hrn)
          rw [lvb_take, hS0] at q
          exact q
        have W3 := Lib.hid hw3; have O3 := Lib.hid o3; have R3 := Lib.hid r3
        have h3s : w.heap.size ≤ w3.heap.size := B3.out.size
        clear hw3 b3 o3 r3 bw hw
        go_wp2_with (at_builtin; rw [← W3.out]; go_must (refine Sl.wpAppAt kty rfl (.tmp 68) (.tmp 74) rfl (n := 0) (m := n) (N := n) (ws := lvb s) rfl rfl O3.out R3.out (lvb_one _) (Nat.zero_add _) rfl ?hs4 ?hs5 h3s ?_))
        case hs4 => omega
        case hs5 => omega
        intro A4 c4 w4 ho4 hg4
        have B4 := Lib.hid (B3.out.trans ((hg4.belowC O3.out h3s).trans (Below.refl _ _)))
        obtain ⟨w5, hw5⟩ : ∃ w5, w5 = w4.alloc (.cells #[.bool false] 4) := ⟨_, rfl⟩
        have b5 : Below w4.heap.size w4 w5 := by rw [hw5]; exact (Below.refl _ _).alloc (Nat.le_refl _) _
        have o5 : Oc 1 w5 4 w.heap.size A4 n c4 (lvb s) := ho4.keep b5
        have r5 : Rc 1 w5 (w4.heap.size + 1) (some ⟨w4.heap.size, 0, none⟩) 1 1 (lvb [false]) := by rw [hw5]; exact Rc.lit w4 _ #[.bool false] 1 rfl (by simp [maxLen])
        have B5 := Lib.hid (B4.out.trans (b5.mono B4.out.size)); have W5 := Lib.hid hw5; have O5 := Lib.hid o5; have R5 := Lib.hid r5
        have h5s : w.heap.size ≤ w5.heap.size := B5.out.size
        clear hw5 b5 o5 r5 ho4 hg4
        go_wp2_with (at_builtin; rw [← W5.out]; go_must (refine Sl.wpAppAt kty rfl (.tmp 76) (.tmp 78) rfl (n := n) (m := 1) (N := n + 1) (ws := lvb (s ++ [false])) rfl rfl O5.out R5.out (lvb_one _) rfl (lvb_app _ _).symm ?hs4 ?hs5 h5s ?_))
        case hs4 => omega
        case hs5 => omega
        intro A6 c6 w6 ho6 hg6
        have B6 := Lib.hid (B5.out.trans ((hg6.belowC O5.out h5s).trans (Below.refl _ _)))
        have HF := Lib.hid (RetSt.ok B6.out (show n + 1 = (s ++ [false]).length by rw [List.length_append, List.length_singleton]; exact congrArg (· + 1) Hsl2.out.symm) ho6)
        clear ho6 hg6
        have dq : decide ((30 : Int) < (n : Int) + 1) = false := decide_eq_false (by omega)
        go_wp2
        go_ret2
        exact HF.out
    have d0 : (op == 0) = false := beq_eq_false_iff_ne.2 h0
    by_cases h1 : op = 1
    · subst h1
      clear hra
      have hS0 : s.take n = s := List.take_of_length_le (by rw [Hsl.out]; exact Nat.le_refl _)
      have hcut2 := Sl.upto kty A n c n (Nat.le_refl n) Hs.out.2.1 (n : Int) rfl
      have e0 : IntKind.i64.wrap (n : Int) = (n : Int) := IntWalk.i64_in _ (by omega)
      have har0 : ∀ W, Calls Tryd.prog 24 #[.int .i64 1] W fun e w' => e = .returned (.int .i64 0) ∧ W = w' := fun W => Har.out W
      have Har := Lib.hid har0
      have HS0 := Lib.hid hS0
      have Hsl2 := Lib.hid Hsl.out
      have d9 : decide ((n : Int) < 0) = false := decide_eq_false (by omega)
      clear har0 hS0
      by_cases h30 : 30 ≤ s.length
      · obtain rfl : T = (s, 13) := HT.out.trans ((if_neg (by simp)).trans ((if_pos (by decide)).trans (if_pos h30)))
        have h30n : 30 ≤ n := by have := Hsl2.out; omega
        clear h30 HT
        go_enter Tryd.func19, Tryd.ntmps19
        go_wp2_with (rw [← W0.out])
        refine (Hmay.out w0).mono ?_
        rintro e w1 ⟨rfl, b1⟩
        have x1 := X0.out.below b1 hlt
        have B1 := Lib.hid (B0.out.trans (b1.mono B0.out.size))
        clear b1 c0 c1 c2
        obtain ⟨c0, c1, c2, -, -, -, -⟩ := x1
        go_wp2_with fail
        refine (Har.out w1).mono ?_
        rintro e w2 ⟨rfl, rfl⟩
        have hS0 := HS0.out
        obtain ⟨w3, hw3⟩ : ∃ w3, w3 = (w1).alloc (.cells #[] 4) := ⟨_, rfl⟩
        have bw := B1.out
        have b3 : Below (w1).heap.size (w1) w3 := by rw [hw3]; exact (Below.refl _ _).alloc (Nat.le_refl _) _
        have hw : w.heap.size ≤ (w1).heap.size := bw.size
        have o3 : Oc 1 w3 4 w.heap.size (some ⟨(w1).heap.size, 0, none⟩) 0 0 [] := by rw [hw3]; exact (Oc.made0 1 _ _).mono hw
        have B3 := Lib.hid (bw.trans (b3.mono hw))
        have r3 : Rc 1 w3 w3.heap.size A n c (lvb s) := by
          have q := (((Hs.out.below B3.out).more B3.out.size).upto hrn)
          rw [lvb_take, hS0] at q
          exact q
        have W3 := Lib.hid hw3; have O3 := Lib.hid o3; have R3 := Lib.hid r3
        have h3s : w.heap.size ≤ w3.heap.size := B3.out.size
        clear hw3 b3 o3 r3 bw hw
        go_wp2_with (at_builtin; rw [← W3.out]; go_must (refine Sl.wpAppAt kty rfl (.tmp 68) (.tmp 74) rfl (n := 0) (m := n) (N := n) (ws := lvb s) rfl rfl O3.out R3.out (lvb_one _) (Nat.zero_add _) rfl ?hs4 ?hs5 h3s ?_))
        case hs4 => omega
        case hs5 => omega
        intro A4 c4 w4 ho4 hg4
        have B4 := Lib.hid (B3.out.trans ((hg4.belowC O3.out h3s).trans (Below.refl _ _)))
        obtain ⟨w5, hw5⟩ : ∃ w5, w5 = w4.alloc (.cells #[.bool true] 4) := ⟨_, rfl⟩
        have b5 : Below w4.heap.size w4 w5 := by rw [hw5]; exact (Below.refl _ _).alloc (Nat.le_refl _) _
        have o5 : Oc 1 w5 4 w.heap.size A4 n c4 (lvb s) := ho4.keep b5
        have r5 : Rc 1 w5 (w4.heap.size + 1) (some ⟨w4.heap.size, 0, none⟩) 1 1 (lvb [true]) := by rw [hw5]; exact Rc.lit w4 _ #[.bool true] 1 rfl (by simp [maxLen])
        have B5 := Lib.hid (B4.out.trans (b5.mono B4.out.size)); have W5 := Lib.hid hw5; have O5 := Lib.hid o5; have R5 := Lib.hid r5
        have h5s : w.heap.size ≤ w5.heap.size := B5.out.size
        clear hw5 b5 o5 r5 ho4 hg4
        go_wp2_with (at_builtin; rw [← W5.out]; go_must (refine Sl.wpAppAt kty rfl (.tmp 76) (.tmp 78) rfl (n := n) (m := 1) (N := n + 1) (ws := lvb (s ++ [true])) rfl rfl O5.out R5.out (lvb_one _) rfl (lvb_app _ _).symm ?hs4 ?hs5 h5s ?_))
        case hs4 => omega
        case hs5 => omega
        intro A6 c6 w6 ho6 hg6
        have B6 := Lib.hid (B5.out.trans ((hg6.belowC O5.out h5s).trans (Below.refl _ _)))
        clear ho6 hg6
        have dq : decide ((30 : Int) < (n : Int) + 1) = true := decide_eq_true (by omega)
        go_wp2
        go_ret2
        exact RetSt.err _ B6.out (by decide)
      · obtain rfl : T = (s ++ [true], 0) := HT.out.trans ((if_neg (by simp)).trans ((if_pos (by decide)).trans ((if_neg h30).trans (by rfl))))
        have h30n : n < 30 := by have := Hsl2.out; omega
        clear h30 HT
        go_enter Tryd.func19, Tryd.ntmps19
        go_wp2_with (rw [← W0.out])
        refine (Hmay.out w0).mono ?_
        rintro e w1 ⟨rfl, b1⟩
        have x1 := X0.out.below b1 hlt
        have B1 := Lib.hid (B0.out.trans (b1.mono B0.out.size))
        clear b1 c0 c1 c2
        obtain ⟨c0, c1, c2, -, -, -, -⟩ := x1
        go_wp2_with fail
        refine (Har.out w1).mono ?_
        rintro e w2 ⟨rfl, rfl⟩
        have hS0 := HS0.out
        obtain ⟨w3, hw3⟩ : ∃ w3, w3 = (w1).alloc (.cells #[] 4) := ⟨_, rfl⟩
        have bw := B1.out
        have b3 : Below (w1).heap.size (w1) w3 := by rw [hw3]; exact (Below.refl _ _).alloc (Nat.le_refl _) _
        have hw : w.heap.size ≤ (w1).heap.size := bw.size
        have o3 : Oc 1 w3 4 w.heap.size (some ⟨(w1).heap.size, 0, none⟩) 0 0 [] := by rw [hw3]; exact (Oc.made0 1 _ _).mono hw
        have B3 := Lib.hid (bw.trans (b3.mono hw))
        have r3 : Rc 1 w3 w3.heap.size A n c (lvb s) := by
          have q := (((Hs.out.below B3.out).more B3.out.size).upto hrn)
          rw [lvb_take, hS0] at q
          exact q
        have W3 := Lib.hid hw3; have O3 := Lib.hid o3; have R3 := Lib.hid r3
        have h3s : w.heap.size ≤ w3.heap.size := B3.out.size
        clear hw3 b3 o3 r3 bw hw
        go_wp2_with (at_builtin; rw [← W3.out]; go_must (refine Sl.wpAppAt kty rfl (.tmp 68) (.tmp 74) rfl (n := 0) (m := n) (N := n) (ws := lvb s) rfl rfl O3.out R3.out (lvb_one _) (Nat.zero_add _) rfl ?hs4 ?hs5 h3s ?_))
        case hs4 => omega
        case hs5 => omega
        intro A4 c4 w4 ho4 hg4
        have B4 := Lib.hid (B3.out.trans ((hg4.belowC O3.out h3s).trans (Below.refl _ _)))
        obtain ⟨w5, hw5⟩ : ∃ w5, w5 = w4.alloc (.cells #[.bool true] 4) := ⟨_, rfl⟩
        have b5 : Below w4.heap.size w4 w5 := by rw [hw5]; exact (Below.refl _ _).alloc (Nat.le_refl _) _
        have o5 : Oc 1 w5 4 w.heap.size A4 n c4 (lvb s) := ho4.keep b5
        have r5 : Rc 1 w5 (w4.heap.size + 1) (some ⟨w4.heap.size, 0, none⟩) 1 1 (lvb [true]) := by rw [hw5]; exact Rc.lit w4 _ #[.bool true] 1 rfl (by simp [maxLen])
        have B5 := Lib.hid (B4.out.trans (b5.mono B4.out.size)); have W5 := Lib.hid hw5; have O5 := Lib.hid o5; have R5 := Lib.hid r5
        have h5s : w.heap.size ≤ w5.heap.size := B5.out.size
        clear hw5 b5 o5 r5 ho4 hg4
        go_wp2_with (at_builtin; rw [← W5.out]; go_must (refine Sl.wpAppAt kty rfl (.tmp 76) (.tmp 78) rfl (n := n) (m := 1) (N := n + 1) (ws := lvb (s ++ [true])) rfl rfl O5.out R5.out (lvb_one _) rfl (lvb_app _ _).symm ?hs4 ?hs5 h5s ?_))
        case hs4 => omega
        case hs5 => omega
        intro A6 c6 w6 ho6 hg6
        have B6 := Lib.hid (B5.out.trans ((hg6.belowC O5.out h5s).trans (Below.refl _ _)))
        have HF := Lib.hid (RetSt.ok B6.out (show n + 1 = (s ++ [true]).length by rw [List.length_append, List.length_singleton]; exact congrArg (· + 1) Hsl2.out.symm) ho6)
        clear ho6 hg6
        have dq : decide ((30 : Int) < (n : Int) + 1) = false := decide_eq_false (by omega)
        go_wp2
        go_ret2
        exact HF.out
    have d1 : (op == 1) = false := beq_eq_false_iff_ne.2 h1
    by_cases h2 : op = 2
    · subst h2
      clear hra
      have hS0 : s.take n = s := List.take_of_length_le (by rw [Hsl.out]; exact Nat.le_refl _)
      have hcut2 := Sl.upto kty A n c n (Nat.le_refl n) Hs.out.2.1 (n : Int) rfl
      have e0 : IntKind.i64.wrap (n : Int) = (n : Int) := IntWalk.i64_in _ (by omega)
      have har0 : ∀ W, Calls Tryd.prog 24 #[.int .i64 2] W fun e w' => e = .returned (.int .i64 0) ∧ W = w' := fun W => Har.out W
      have Har := Lib.hid har0
      have HS0 := Lib.hid hS0
      have Hsl2 := Lib.hid Hsl.out
      have d9 : decide ((n : Int) < 0) = false := decide_eq_false (by omega)
      clear har0 hS0
      by_cases h30 : 30 ≤ s.length
      · obtain rfl : T = (s, 13) := HT.out.trans ((if_neg (by simp)).trans ((if_pos (by decide)).trans (if_pos h30)))
        have h30n : 30 ≤ n := by have := Hsl2.out; omega
        clear h30 HT
        go_enter Tryd.func19, Tryd.ntmps19
        go_wp2_with (rw [← W0.out])
        refine (Hmay.out w0).mono ?_
        rintro e w1 ⟨rfl, b1⟩
        have x1 := X0.out.below b1 hlt
        have B1 := Lib.hid (B0.out.trans (b1.mono B0.out.size))
        clear b1 c0 c1 c2
        obtain ⟨c0, c1, c2, -, -, -, -⟩ := x1
        go_wp2_with fail
        refine (Har.out w1).mono ?_
        rintro e w2 ⟨rfl, rfl⟩
        have hS0 := HS0.out
        obtain ⟨w3, hw3⟩ : ∃ w3, w3 = (w1).alloc (.cells #[] 4) := ⟨_, rfl⟩
        have bw := B1.out
        have b3 : Below (w1).heap.size (w1) w3 := by rw [hw3]; exact (Below.refl _ _).alloc (Nat.le_refl _) _
        have hw : w.heap.size ≤ (w1).heap.size := bw.size
        have o3 : Oc 1 w3 4 w.heap.size (some ⟨(w1).heap.size, 0, none⟩) 0 0 [] := by rw [hw3]; exact (Oc.made0 1 _ _).mono hw
        have B3 := Lib.hid (bw.trans (b3.mono hw))
        have r3 : Rc 1 w3 w3.heap.size A n c (lvb s) := by
          have q := (((Hs.out.below B3.out).more B3.out.size).upto hrn)
          rw [lvb_take, hS0] at q
          exact q
        have W3 := Lib.hid hw3; have O3 := Lib.hid o3; have R3 := Lib.hid r3
        have h3s : w.heap.size ≤ w3.heap.size := B3.out.size
        clear hw3 b3 o3 r3 bw hw
        go_wp2_with (at_builtin; rw [← W3.out]; go_must (refine Sl.wpAppAt kty rfl (.tmp 68) (.tmp 74) rfl (n := 0) (m := n) (N := n) (ws := lvb s) rfl rfl O3.out R3.out (lvb_one _) (Nat.zero_add _) rfl ?hs4 ?hs5 h3s ?_))
        case hs4 => omega
        case hs5 => omega
        intro A4 c4 w4 ho4 hg4
        have B4 := Lib.hid (B3.out.trans ((hg4.belowC O3.out h3s).trans (Below.refl _ _)))
        obtain ⟨w5, hw5⟩ : ∃ w5, w5 = w4.alloc (.cells #[.bool true] 4) := ⟨_, rfl⟩
        have b5 : Below w4.heap.size w4 w5 := by rw [hw5]; exact (Below.refl _ _).alloc (Nat.le_refl _) _
        have o5 : Oc 1 w5 4 w.heap.size A4 n c4 (lvb s) := ho4.keep b5
        have r5 : Rc 1 w5 (w4.heap.size + 1) (some ⟨w4.heap.size, 0, none⟩) 1 1 (lvb [true]) := by rw [hw5]; exact Rc.lit w4 _ #[.bool true] 1 rfl (by simp [maxLen])
        have B5 := Lib.hid (B4.out.trans (b5.mono B4.out.size)); have W5 := Lib.hid hw5; have O5 := Lib.hid o5; have R5 := Lib.hid r5
        have h5s : w.heap.size ≤ w5.heap.size := B5.out.size
        clear hw5 b5 o5 r5 ho4 hg4
        go_wp2_with (at_builtin; rw [← W5.out]; go_must (refine Sl.wpAppAt kty rfl (.tmp 76) (.tmp 78) rfl (n := n) (m := 1) (N := n + 1) (ws := lvb (s ++ [true])) rfl rfl O5.out R5.out (lvb_one _) rfl (lvb_app _ _).symm ?hs4 ?hs5 h5s ?_))
        case hs4 => omega
        case hs5 => omega
        intro A6 c6 w6 ho6 hg6
        have B6 := Lib.hid (B5.out.trans ((hg6.belowC O5.out h5s).trans (Below.refl _ _)))
        clear ho6 hg6
        have dq : decide ((30 : Int) < (n : Int) + 1) = true := decide_eq_true (by omega)
        go_wp2
        go_ret2
        exact RetSt.err _ B6.out (by decide)
      · obtain rfl : T = (s ++ [true], 0) := HT.out.trans ((if_neg (by simp)).trans ((if_pos (by decide)).trans ((if_neg h30).trans (by rfl))))
        have h30n : n < 30 := by have := Hsl2.out; omega
        clear h30 HT
        go_enter Tryd.func19, Tryd.ntmps19
        go_wp2_with (rw [← W0.out])
        refine (Hmay.out w0).mono ?_
        rintro e w1 ⟨rfl, b1⟩
        have x1 := X0.out.below b1 hlt
        have B1 := Lib.hid (B0.out.trans (b1.mono B0.out.size))
        clear b1 c0 c1 c2
        obtain ⟨c0, c1, c2, -, -, -, -⟩ := x1
        go_wp2_with fail
        refine (Har.out w1).mono ?_
        rintro e w2 ⟨rfl, rfl⟩
        have hS0 := HS0.out
        obtain ⟨w3, hw3⟩ : ∃ w3, w3 = (w1).alloc (.cells #[] 4) := ⟨_, rfl⟩
        have bw := B1.out
        have b3 : Below (w1).heap.size (w1) w3 := by rw [hw3]; exact (Below.refl _ _).alloc (Nat.le_refl _) _
        have hw : w.heap.size ≤ (w1).heap.size := bw.size
        have o3 : Oc 1 w3 4 w.heap.size (some ⟨(w1).heap.size, 0, none⟩) 0 0 [] := by rw [hw3]; exact (Oc.made0 1 _ _).mono hw
        have B3 := Lib.hid (bw.trans (b3.mono hw))
        have r3 : Rc 1 w3 w3.heap.size A n c (lvb s) := by
          have q := (((Hs.out.below B3.out).more B3.out.size).upto hrn)
          rw [lvb_take, hS0] at q
          exact q
        have W3 := Lib.hid hw3; have O3 := Lib.hid o3; have R3 := Lib.hid r3
        have h3s : w.heap.size ≤ w3.heap.size := B3.out.size
        clear hw3 b3 o3 r3 bw hw
        go_wp2_with (at_builtin; rw [← W3.out]; go_must (refine Sl.wpAppAt kty rfl (.tmp 68) (.tmp 74) rfl (n := 0) (m := n) (N := n) (ws := lvb s) rfl rfl O3.out R3.out (lvb_one _) (Nat.zero_add _) rfl ?hs4 ?hs5 h3s ?_))
        case hs4 => omega
        case hs5 => omega
        intro A4 c4 w4 ho4 hg4
        have B4 := Lib.hid (B3.out.trans ((hg4.belowC O3.out h3s).trans (Below.refl _ _)))
        obtain ⟨w5, hw5⟩ : ∃ w5, w5 = w4.alloc (.cells #[.bool true] 4) := ⟨_, rfl⟩
        have b5 : Below w4.heap.size w4 w5 := by rw [hw5]; exact (Below.refl _ _).alloc (Nat.le_refl _) _
        have o5 : Oc 1 w5 4 w.heap.size A4 n c4 (lvb s) := ho4.keep b5
        have r5 : Rc 1 w5 (w4.heap.size + 1) (some ⟨w4.heap.size, 0, none⟩) 1 1 (lvb [true]) := by rw [hw5]; exact Rc.lit w4 _ #[.bool true] 1 rfl (by simp [maxLen])
        have B5 := Lib.hid (B4.out.trans (b5.mono B4.out.size)); have W5 := Lib.hid hw5; have O5 := Lib.hid o5; have R5 := Lib.hid r5
        have h5s : w.heap.size ≤ w5.heap.size := B5.out.size
        clear hw5 b5 o5 r5 ho4 hg4
        go_wp2_with (at_builtin; rw [← W5.out]; go_must (refine Sl.wpAppAt kty rfl (.tmp 76) (.tmp 78) rfl (n := n) (m := 1) (N := n + 1) (ws := lvb (s ++ [true])) rfl rfl O5.out R5.out (lvb_one _) rfl (lvb_app _ _).symm ?hs4 ?hs5 h5s ?_))
        case hs4 => omega
        case hs5 => omega
        intro A6 c6 w6 ho6 hg6
        have B6 := Lib.hid (B5.out.trans ((hg6.belowC O5.out h5s).trans (Below.refl _ _)))
        have HF := Lib.hid (RetSt.ok B6.out (show n + 1 = (s ++ [true]).length by rw [List.length_append, List.length_singleton]; exact congrArg (· + 1) Hsl2.out.symm) ho6)
        clear ho6 hg6
        have dq : decide ((30 : Int) < (n : Int) + 1) = false := decide_eq_false (by omega)
        go_wp2
        go_ret2
        exact HF.out
    have d2 : (op == 2) = false := beq_eq_false_iff_ne.2 h2
    by_cases h3 : op = 3
    · subst h3
      clear hra
      have hS0 : s.take n = s := List.take_of_length_le (by rw [Hsl.out]; exact Nat.le_refl _)
      have hcut2 := Sl.upto kty A n c n (Nat.le_refl n) Hs.out.2.1 (n : Int) rfl
      have e0 : IntKind.i64.wrap (n : Int) = (n : Int) := IntWalk.i64_in _ (by omega)
      have har0 : ∀ W, Calls Tryd.prog 24 #[.int .i64 3] W fun e w' => e = .returned (.int .i64 0) ∧ W = w' := fun W => Har.out W
      have Har := Lib.hid har0
      have HS0 := Lib.hid hS0
      have Hsl2 := Lib.hid Hsl.out
      have d9 : decide ((n : Int) < 0) = false := decide_eq_false (by omega)
      clear har0 hS0
      by_cases h30 : 30 ≤ s.length
      · obtain rfl : T = (s, 13) := HT.out.trans ((if_neg (by simp)).trans ((if_pos (by decide)).trans (if_pos h30)))
        have h30n : 30 ≤ n := by have := Hsl2.out; omega
        clear h30 HT
        go_enter Tryd.func19, Tryd.ntmps19
        go_wp2_with (rw [← W0.out])
        refine (Hmay.out w0).mono ?_
        rintro e w1 ⟨rfl, b1⟩
        have x1 := X0.out.below b1 hlt
        have B1 := Lib.hid (B0.out.trans (b1.mono B0.out.size))
        clear b1 c0 c1 c2
        obtain ⟨c0, c1, c2, -, -, -, -⟩ := x1
        go_wp2_with fail
        refine (Har.out w1).mono ?_
        rintro e w2 ⟨rfl, rfl⟩
        have hS0 := HS0.out
        obtain ⟨w3, hw3⟩ : ∃ w3, w3 = (w1).alloc (.cells #[] 4) := ⟨_, rfl⟩
        have bw := B1.out
        have b3 : Below (w1).heap.size (w1) w3 := by rw [hw3]; exact (Below.refl _ _).alloc (Nat.le_refl _) _
        have hw : w.heap.size ≤ (w1).heap.size := bw.size
        have o3 : Oc 1 w3 4 w.heap.size (some ⟨(w1).heap.size, 0, none⟩) 0 0 [] := by rw [hw3]; exact (Oc.made0 1 _ _).mono hw
        have B3 := Lib.hid (bw.trans (b3.mono hw))
        have r3 : Rc 1 w3 w3.heap.size A n c (lvb s) := by
          have q := (((Hs.out.below B3.out).more B3.out.size).upto hrn)
          rw [lvb_take, hS0] at q
          exact q
        have W3 := Lib.hid hw3; have O3 := Lib.hid o3; have R3 := Lib.hid r3
        have h3s : w.heap.size ≤ w3.heap.size := B3.out.size
        clear hw3 b3 o3 r3 bw hw
        go_wp2_with (at_builtin; rw [← W3.out]; go_must (refine Sl.wpAppAt kty rfl (.tmp 68) (.tmp 74) rfl (n := 0) (m := n) (N := n) (ws := lvb s) rfl rfl O3.out R3.out (lvb_one _) (Nat.zero_add _) rfl ?hs4 ?hs5 h3s ?_))
        case hs4 => omega
        case hs5 => omega
        intro A4 c4 w4 ho4 hg4
        have B4 := Lib.hid (B3.out.trans ((hg4.belowC O3.out h3s).trans (Below.refl _ _)))
        obtain ⟨w5, hw5⟩ : ∃ w5, w5 = w4.alloc (.cells #[.bool false] 4) := ⟨_, rfl⟩
        have b5 : Below w4.heap.size w4 w5 := by rw [hw5]; exact (Below.refl _ _).alloc (Nat.le_refl _) _
        have o5 : Oc 1 w5 4 w.heap.size A4 n c4 (lvb s) := ho4.keep b5
        have r5 : Rc 1 w5 (w4.heap.size + 1) (some ⟨w4.heap.size, 0, none⟩) 1 1 (lvb [false]) := by rw [hw5]; exact Rc.lit w4 _ #[.bool false] 1 rfl (by simp [maxLen])
        have B5 := Lib.hid (B4.out.trans (b5.mono B4.out.size)); have W5 := Lib.hid hw5; have O5 := Lib.hid o5; have R5 := Lib.hid r5
        have h5s : w.heap.size ≤ w5.heap.size := B5.out.size
        clear hw5 b5 o5 r5 ho4 hg4
        go_wp2_with (at_builtin; rw [← W5.out]; go_must (refine Sl.wpAppAt kty rfl (.tmp 76) (.tmp 78) rfl (n := n) (m := 1) (N := n + 1) (ws := lvb (s ++ [false])) rfl rfl O5.out R5.out (lvb_one _) rfl (lvb_app _ _).symm ?hs4 ?hs5 h5s ?_))
        case hs4 => omega
        case hs5 => omega
        intro A6 c6 w6 ho6 hg6
        have B6 := Lib.hid (B5.out.trans ((hg6.belowC O5.out h5s).trans (Below.refl _ _)))
        clear ho6 hg6
        have dq : decide ((30 : Int) < (n : Int) + 1) = true := decide_eq_true (by omega)
        go_wp2
        go_ret2
        exact RetSt.err _ B6.out (by decide)
      · obtain rfl : T = (s ++ [false], 0) := HT.out.trans ((if_neg (by simp)).trans ((if_pos (by decide)).trans ((if_neg h30).trans (by rfl))))
        have h30n : n < 30 := by have := Hsl2.out; omega
        clear h30 HT
        go_enter Tryd.func19, Tryd.ntmps19
        go_wp2_with (rw [← W0.out])
        refine (Hmay.out w0).mono ?_
        rintro e w1 ⟨rfl, b1⟩
        have x1 := X0.out.below b1 hlt
        have B1 := Lib.hid (B0.out.trans (b1.mono B0.out.size))
        clear b1 c0 c1 c2
        obtain ⟨c0, c1, c2, -, -, -, -⟩ := x1
        go_wp2_with fail
        refine (Har.out w1).mono ?_
        rintro e w2 ⟨rfl, rfl⟩
        have hS0 := HS0.out
        obtain ⟨w3, hw3⟩ : ∃ w3, w3 = (w1).alloc (.cells #[] 4) := ⟨_, rfl⟩
        have bw := B1.out
        have b3 : Below (w1).heap.size (w1) w3 := by rw [hw3]; exact (Below.refl _ _).alloc (Nat.le_refl _) _
        have hw : w.heap.size ≤ (w1).heap.size := bw.size
        have o3 : Oc 1 w3 4 w.heap.size (some ⟨(w1).heap.size, 0, none⟩) 0 0 [] := by rw [hw3]; exact (Oc.made0 1 _ _).mono hw
        have B3 := Lib.hid (bw.trans (b3.mono hw))
        have r3 : Rc 1 w3 w3.heap.size A n c (lvb s) := by
          have q := (((Hs.out.below B3.out).more B3.out.size).upto hrn)
          rw [lvb_take, hS0] at q
          exact q
        have W3 := Lib.hid hw3; have O3 := Lib.hid o3; have R3 := Lib.hid r3
        have h3s : w.heap.size ≤ w3.heap.size := B3.out.size
        clear hw3 b3 o3 r3 bw hw
        go_wp2_with (at_builtin; rw [← W3.out]; go_must (refine Sl.wpAppAt kty rfl (.tmp 68) (.tmp 74) rfl (n := 0) (m := n) (N := n) (ws := lvb s) rfl rfl O3.out R3.out (lvb_one _) (Nat.zero_add _) rfl ?hs4 ?hs5 h3s ?_))
        case hs4 => omega
        case hs5 => omega
        intro A4 c4 w4 ho4 hg4
        have B4 := Lib.hid (B3.out.trans ((hg4.belowC O3.out h3s).trans (Below.refl _ _)))
        obtain ⟨w5, hw5⟩ : ∃ w5, w5 = w4.alloc (.cells #[.bool false] 4) := ⟨_, rfl⟩
        have b5 : Below w4.heap.size w4 w5 := by rw [hw5]; exact (Below.refl _ _).alloc (Nat.le_refl _) _
        have o5 : Oc 1 w5 4 w.heap.size A4 n c4 (lvb s) := ho4.keep b5
        have r5 : Rc 1 w5 (w4.heap.size + 1) (some ⟨w4.heap.size, 0, none⟩) 1 1 (lvb [false]) := by rw [hw5]; exact Rc.lit w4 _ #[.bool false] 1 rfl (by simp [maxLen])
        have B5 := Lib.hid (B4.out.trans (b5.mono B4.out.size)); have W5 := Lib.hid hw5; have O5 := Lib.hid o5; have R5 := Lib.hid r5
        have h5s : w.heap.size ≤ w5.heap.size := B5.out.size
        clear hw5 b5 o5 r5 ho4 hg4
        go_wp2_with (at_builtin; rw [← W5.out]; go_must (refine Sl.wpAppAt kty rfl (.tmp 76) (.tmp 78) rfl (n := n) (m := 1) (N := n + 1) (ws := lvb (s ++ [false])) rfl rfl O5.out R5.out (lvb_one _) rfl (lvb_app _ _).symm ?hs4 ?hs5 h5s ?_))
        case hs4 => omega
        case hs5 => omega
        intro A6 c6 w6 ho6 hg6
        have B6 := Lib.hid (B5.out.trans ((hg6.belowC O5.out h5s).trans (Below.refl _ _)))
        have HF := Lib.hid (RetSt.ok B6.out (show n + 1 = (s ++ [false]).length by rw [List.length_append, List.length_singleton]; exact congrArg (· + 1) Hsl2.out.symm) ho6)
        clear ho6 hg6
        have dq : decide ((30 : Int) < (n : Int) + 1) = false := decide_eq_false (by omega)
        go_wp2
        go_ret2
        exact HF.out
    have d3 : (op == 3) = false := beq_eq_false_iff_ne.2 h3
    by_cases h22 : op = 22
    · subst h22
      clear hra h0 h1 h2 h3 d0 d1 d2 d3
      rcases hm with rfl | rfl
      · obtain rfl : T = (s, 1) := HT.out.trans (if_pos (.inr ⟨by omega, Hfl.out⟩))
        clear HT
        go_enter Tryd.func19, Tryd.ntmps19
        go_wp2_with (rw [← W0.out])
        refine (Hmay.out w0).mono ?_
        rintro e w1 ⟨rfl, b1⟩
        have x1 := X0.out.below b1 hlt
        have B1 := Lib.hid (B0.out.trans (b1.mono B0.out.size))
        clear b1 c0 c1 c2
        obtain ⟨c0, c1, c2, -, -, -, -⟩ := x1
        go_wp2
        go_ret2
        exact RetSt.err s B1.out (by decide)
      · obtain ⟨b, o, q, rfl, hb, hc, hq⟩ := lvb_at Hr.out (k := 0) (by omega)
        have hpk : pk f 22 = q := by
          show f.getD 0 false = q
          rw [List.getD_eq_getElem?_getD, hq]; rfl
        have hS0 : s.take n = s := List.take_of_length_le (by rw [Hsl.out]; exact Nat.le_refl _)
        have hcut2 := Sl.upto kty A n c n (Nat.le_refl n) Hs.out.2.1 (n : Int) rfl
        have e0 : IntKind.i64.wrap (n : Int) = (n : Int) := IntWalk.i64_in _ (by omega)
        have har0 : ∀ W, Calls Tryd.prog 24 #[.int .i64 22] W fun e w' => e = .returned (.int .i64 0) ∧ W = w' := fun W => Har.out W
        have Har := Lib.hid har0
        have HS0 := Lib.hid hS0
        have Hsl2 := Lib.hid Hsl.out
        have d9 : decide ((n : Int) < 0) = false := decide_eq_false (by omega)
        clear har0 hS0
        by_cases h30 : 30 ≤ s.length
        · obtain rfl : T = (s, 13) := HT.out.trans ((if_neg (by rw [Hfl.out]; simp)).trans ((if_pos (by decide)).trans (if_pos h30)))
          have h30n : 30 ≤ n := by have := Hsl2.out; omega
          clear h30 HT hpk hq
          go_enter Tryd.func19, Tryd.ntmps19
          go_wp2_with (rw [← W0.out])
          refine (Hmay.out w0).mono ?_
          rintro e w1 ⟨rfl, b1⟩
          have x1 := X0.out.below b1 hlt
          have B1 := Lib.hid (B0.out.trans (b1.mono B0.out.size))
          have k1 : w1.cell? ⟨b, o, none⟩ = some (.bool q) := (B1.out.cell (p := ⟨b, o + 0, none⟩) hb).trans hc
          clear hc
          clear b1 c0 c1 c2
          obtain ⟨c0, c1, c2, -, -, -, -⟩ := x1
          go_wp2_with fail
          refine (Har.out w1).mono ?_
          rintro e w2 ⟨rfl, rfl⟩
          have hS0 := HS0.out
          obtain ⟨w3, hw3⟩ : ∃ w3, w3 = (w1).alloc (.cells #[] 4) := ⟨_, rfl⟩
          have bw := B1.out
          have b3 : Below (w1).heap.size (w1) w3 := by rw [hw3]; exact (Below.refl _ _).alloc (Nat.le_refl _) _
          have hw : w.heap.size ≤ (w1).heap.size := bw.size
          have o3 : Oc 1 w3 4 w.heap.size (some ⟨(w1).heap.size, 0, none⟩) 0 0 [] := by rw [hw3]; exact (Oc.made0 1 _ _).mono hw
          have B3 := Lib.hid (bw.trans (b3.mono hw))
          have r3 : Rc 1 w3 w3.heap.size A n c (lvb s) := by
            have q := (((Hs.out.below B3.out).more B3.out.size).upto hrn)
            rw [lvb_take, hS0] at q
            exact q
          have W3 := Lib.hid hw3; have O3 := Lib.hid o3; have R3 := Lib.hid r3
          have h3s : w.heap.size ≤ w3.heap.size := B3.out.size
          clear hw3 b3 o3 r3 bw hw
          go_wp2_with (at_builtin; rw [← W3.out]; go_must (refine Sl.wpAppAt kty rfl (.tmp 68) (.tmp 74) rfl (n := 0) (m := n) (N := n) (ws := lvb s) rfl rfl O3.out R3.out (lvb_one _) (Nat.zero_add _) rfl ?hs4 ?hs5 h3s ?_))
          case hs4 => omega
          case hs5 => omega
          intro A4 c4 w4 ho4 hg4
          have B4 := Lib.hid (B3.out.trans ((hg4.belowC O3.out h3s).trans (Below.refl _ _)))
          obtain ⟨w5, hw5⟩ : ∃ w5, w5 = w4.alloc (.cells #[.bool q] 4) := ⟨_, rfl⟩
          have b5 : Below w4.heap.size w4 w5 := by rw [hw5]; exact (Below.refl _ _).alloc (Nat.le_refl _) _
          have o5 : Oc 1 w5 4 w.heap.size A4 n c4 (lvb s) := ho4.keep b5
          have r5 : Rc 1 w5 (w4.heap.size + 1) (some ⟨w4.heap.size, 0, none⟩) 1 1 (lvb [q]) := by rw [hw5]; exact Rc.lit w4 _ #[.bool q] 1 rfl (by simp [maxLen])
          have B5 := Lib.hid (B4.out.trans (b5.mono B4.out.size)); have W5 := Lib.hid hw5; have O5 := Lib.hid o5; have R5 := Lib.hid r5
          have h5s : w.heap.size ≤ w5.heap.size := B5.out.size
          clear hw5 b5 o5 r5 ho4 hg4
          go_wp2_with (at_builtin; rw [← W5.out]; go_must (refine Sl.wpAppAt kty rfl (.tmp 76) (.tmp 78) rfl (n := n) (m := 1) (N := n + 1) (ws := lvb (s ++ [q])) rfl rfl O5.out R5.out (lvb_one _) rfl (lvb_app _ _).symm ?hs4 ?hs5 h5s ?_))
          case hs4 => omega
          case hs5 => omega
          intro A6 c6 w6 ho6 hg6
          have B6 := Lib.hid (B5.out.trans ((hg6.belowC O5.out h5s).trans (Below.refl _ _)))
          clear ho6 hg6
          have dq : decide ((30 : Int) < (n : Int) + 1) = true := decide_eq_true (by omega)
          go_wp2
          go_ret2
          exact RetSt.err _ B6.out (by decide)
        · obtain rfl : T = (s ++ [q], 0) := HT.out.trans ((if_neg (by rw [Hfl.out]; simp)).trans ((if_pos (by decide)).trans ((if_neg h30).trans (by rw [hpk]))))
          have h30n : n < 30 := by have := Hsl2.out; omega
          clear h30 HT hpk hq
          go_enter Tryd.func19, Tryd.ntmps19
          go_wp2_with (rw [← W0.out])
          refine (Hmay.out w0).mono ?_
          rintro e w1 ⟨rfl, b1⟩
          have x1 := X0.out.below b1 hlt
          have B1 := Lib.hid (B0.out.trans (b1.mono B0.out.size))
          have k1 : w1.cell? ⟨b, o, none⟩ = some (.bool q) := (B1.out.cell (p := ⟨b, o + 0, none⟩) hb).trans hc
          clear hc
          clear b1 c0 c1 c2
          obtain ⟨c0, c1, c2, -, -, -, -⟩ := x1
          go_wp2_with fail
          refine (Har.out w1).mono ?_
          rintro e w2 ⟨rfl, rfl⟩
          have hS0 := HS0.out
          obtain ⟨w3, hw3⟩ : ∃ w3, w3 = (w1).alloc (.cells #[] 4) := ⟨_, rfl⟩
          have bw := B1.out
          have b3 : Below (w1).heap.size (w1) w3 := by rw [hw3]; exact (Below.refl _ _).alloc (Nat.le_refl _) _
          have hw : w.heap.size ≤ (w1).heap.size := bw.size
          have o3 : Oc 1 w3 4 w.heap.size (some ⟨(w1).heap.size, 0, none⟩) 0 0 [] := by rw [hw3]; exact (Oc.made0 1 _ _).mono hw
          have B3 := Lib.hid (bw.trans (b3.mono hw))
          have r3 : Rc 1 w3 w3.heap.size A n c (lvb s) := by
            have q := (((Hs.out.below B3.out).more B3.out.size).upto hrn)
            rw [lvb_take, hS0] at q
            exact q
          have W3 := Lib.hid hw3; have O3 := Lib.hid o3; have R3 := Lib.hid r3
          have h3s : w.heap.size ≤ w3.heap.size := B3.out.size
          clear hw3 b3 o3 r3 bw hw
          go_wp2_with (at_builtin; rw [← W3.out]; go_must (refine Sl.wpAppAt kty rfl (.tmp 68) (.tmp 74) rfl (n := 0) (m := n) (N := n) (ws := lvb s) rfl rfl O3.out R3.out (lvb_one _) (Nat.zero_add _) rfl ?hs4 ?hs5 h3s ?_))
          case hs4 => omega
          case hs5 => omega
          intro A4 c4 w4 ho4 hg4
          have B4 := Lib.hid (B3.out.trans ((hg4.belowC O3.out h3s).trans (Below.refl _ _)))
          obtain ⟨w5, hw5⟩ : ∃ w5, w5 = w4.alloc (.cells #[.bool q] 4) := ⟨_, rfl⟩
          have b5 : Below w4.heap.size w4 w5 := by rw [hw5]; exact (Below.refl _ _).alloc (Nat.le_refl _) _
          have o5 : Oc 1 w5 4 w.heap.size A4 n c4 (lvb s) := ho4.keep b5
          have r5 : Rc 1 w5 (w4.heap.size + 1) (some ⟨w4.heap.size, 0, none⟩) 1 1 (lvb [q]) := by rw [hw5]; exact Rc.lit w4 _ #[.bool q] 1 rfl (by simp [maxLen])
          have B5 := Lib.hid (B4.out.trans (b5.mono B4.out.size)); have W5 := Lib.hid hw5; have O5 := Lib.hid o5; have R5 := Lib.hid r5
          have h5s : w.heap.size ≤ w5.heap.size := B5.out.size
          clear hw5 b5 o5 r5 ho4 hg4
          go_wp2_with (at_builtin; rw [← W5.out]; go_must (refine Sl.wpAppAt kty rfl (.tmp 76) (.tmp 78) rfl (n := n) (m := 1) (N := n + 1) (ws := lvb (s ++ [q])) rfl rfl O5.out R5.out (lvb_one _) rfl (lvb_app _ _).symm ?hs4 ?hs5 h5s ?_))
          case hs4 => omega
          case hs5 => omega
          intro A6 c6 w6 ho6 hg6
          have B6 := Lib.hid (B5.out.trans ((hg6.belowC O5.out h5s).trans (Below.refl _ _)))
          have HF := Lib.hid (RetSt.ok B6.out (show n + 1 = (s ++ [q]).length by rw [List.length_append, List.length_singleton]; exact congrArg (· + 1) Hsl2.out.symm) ho6)
          clear ho6 hg6
          have dq : decide ((30 : Int) < (n : Int) + 1) = false := decide_eq_false (by omega)
          go_wp2
          go_ret2
          exact HF.out
    have d22 : (op == 22) = false := beq_eq_false_iff_ne.2 h22
    by_cases h23 : op = 23
    · subst h23
      clear hra h0 h1 h2 h3 d0 d1 d2 d3 h22 d22
      rcases hm with rfl | rfl
      · obtain rfl : T = (s, 1) := HT.out.trans (if_pos (.inr ⟨by omega, Hfl.out⟩))
        clear HT
        go_enter Tryd.func19, Tryd.ntmps19
        go_wp2_with (rw [← W0.out])
        refine (Hmay.out w0).mono ?_
        rintro e w1 ⟨rfl, b1⟩
        have x1 := X0.out.below b1 hlt
        have B1 := Lib.hid (B0.out.trans (b1.mono B0.out.size))
        clear b1 c0 c1 c2
        obtain ⟨c0, c1, c2, -, -, -, -⟩ := x1
        go_wp2
        go_ret2
        exact RetSt.err s B1.out (by decide)
      · obtain ⟨b, o, q, rfl, hb, hc, hq⟩ := lvb_at Hr.out (k := 1) (by omega)
        have hpk : pk f 23 = q := by
          show f.getD 1 false = q
          rw [List.getD_eq_getElem?_getD, hq]; rfl
        have hS0 : s.take n = s := List.take_of_length_le (by rw [Hsl.out]; exact Nat.le_refl _)
        have hcut2 := Sl.upto kty A n c n (Nat.le_refl n) Hs.out.2.1 (n : Int) rfl
        have e0 : IntKind.i64.wrap (n : Int) = (n : Int) := IntWalk.i64_in _ (by omega)
        have har0 : ∀ W, Calls Tryd.prog 24 #[.int .i64 23] W fun e w' => e = .returned (.int .i64 0) ∧ W = w' := fun W => Har.out W
        have Har := Lib.hid har0
        have HS0 := Lib.hid hS0
        have Hsl2 := Lib.hid Hsl.out
        have d9 : decide ((n : Int) < 0) = false := decide_eq_false (by omega)
        clear har0 hS0
        by_cases h30 : 30 ≤ s.length
        · obtain rfl : T = (s, 13) := HT.out.trans ((if_neg (by rw [Hfl.out]; simp)).trans ((if_pos (by decide)).trans (if_pos h30)))
          have h30n : 30 ≤ n := by have := Hsl2.out; omega
          clear h30 HT hpk hq
          go_enter Tryd.func19, Tryd.ntmps19
          go_wp2_with (rw [← W0.out])
          refine (Hmay.out w0).mono ?_
          rintro e w1 ⟨rfl, b1⟩
          have x1 := X0.out.below b1 hlt
          have B1 := Lib.hid (B0.out.trans (b1.mono B0.out.size))
          have k1 : w1.cell? ⟨b, o + 1, none⟩ = some (.bool q) := (B1.out.cell (p := ⟨b, o + 1, none⟩) hb).trans hc
          clear hc
          clear b1 c0 c1 c2
          obtain ⟨c0, c1, c2, -, -, -, -⟩ := x1
          go_wp2_with fail
          refine (Har.out w1).mono ?_
          rintro e w2 ⟨rfl, rfl⟩
          have hS0 := HS0.out
          obtain ⟨w3, hw3⟩ : ∃ w3, w3 = (w1).alloc (.cells #[] 4) := ⟨_, rfl⟩
          have bw := B1.out
          have b3 : Below (w1).heap.size (w1) w3 := by rw [hw3]; exact (Below.refl _ _).alloc (Nat.le_refl _) _
          have hw : w.heap.size ≤ (w1).heap.size := bw.size
          have o3 : Oc 1 w3 4 w.heap.size (some ⟨(w1).heap.size, 0, none⟩) 0 0 [] := by rw [hw3]; exact (Oc.made0 1 _ _).mono hw
          have B3 := Lib.hid (bw.trans (b3.mono hw))
          have r3 : Rc 1 w3 w3.heap.size A n c (lvb s) := by
            have q := (((Hs.out.below B3.out).more B3.out.size).upto hrn)
            rw [lvb_take, hS0] at q
            exact q
          have W3 := Lib.hid hw3; have O3 := Lib.hid o3; have R3 := Lib.hid r3
          have h3s : w.heap.size ≤ w3.heap.size := B3.out.size
          clear hw3 b3 o3 r3 bw hw
          go_wp2_with (at_builtin; rw [← W3.out]; go_must (refine Sl.wpAppAt kty rfl (.tmp 68) (.tmp 74) rfl (n := 0) (m := n) (N := n) (ws := lvb s) rfl rfl O3.out R3.out (lvb_one _) (Nat.zero_add _) rfl ?hs4 ?hs5 h3s ?_))
          case hs4 => omega
          case hs5 => omega
          intro A4 c4 w4 ho4 hg4
          have B4 := Lib.hid (B3.out.trans ((hg4.belowC O3.out h3s).trans (Below.refl _ _)))
          obtain ⟨w5, hw5⟩ : ∃ w5, w5 = w4.alloc (.cells #[.bool q] 4) := ⟨_, rfl⟩
          have b5 : Below w4.heap.size w4 w5 := by rw [hw5]; exact (Below.refl _ _).alloc (Nat.le_refl _) _
          have o5 : Oc 1 w5 4 w.heap.size A4 n c4 (lvb s) := ho4.keep b5
          have r5 : Rc 1 w5 (w4.heap.size + 1) (some ⟨w4.heap.size, 0, none⟩) 1 1 (lvb [q]) := by rw [hw5]; exact Rc.lit w4 _ #[.bool q] 1 rfl (by simp [maxLen])
          have B5 := Lib.hid (B4.out.trans (b5.mono B4.out.size)); have W5 := Lib.hid hw5; have O5 := Lib.hid o5; have R5 := Lib.hid r5
          have h5s : w.heap.size ≤ w5.heap.size := B5.out.size
          clear hw5 b5 o5 r5 ho4 hg4
          go_wp2_with (at_builtin; rw [← W5.out]; go_must (refine Sl.wpAppAt kty rfl (.tmp 76) (.tmp 78) rfl (n := n) (m := 1) (N := n + 1) (ws := lvb (s ++ [q])) rfl rfl O5.out R5.out (lvb_one _) rfl (lvb_app _ _).symm ?hs4 ?hs5 h5s ?_))
          case hs4 => omega
          case hs5 => omega
          intro A6 c6 w6 ho6 hg6
          have B6 := Lib.hid (B5.out.trans ((hg6.belowC O5.out h5s).trans (Below.refl _ _)))
          clear ho6 hg6
          have dq : decide ((30 : Int) < (n : Int) + 1) = true := decide_eq_true (by omega)
          go_wp2
          go_ret2
          exact RetSt.err _ B6.out (by decide)
        · obtain rfl : T = (s ++ [q], 0) := HT.out.trans ((if_neg (by rw [Hfl.out]; simp)).trans ((if_pos (by decide)).trans ((if_neg h30).trans (by rw [hpk]))))
          have h30n : n < 30 := by have := Hsl2.out; omega
          clear h30 HT hpk hq
          go_enter Tryd.func19, Tryd.ntmps19
          go_wp2_with (rw [← W0.out])
          refine (Hmay.out w0).mono ?_
          rintro e w1 ⟨rfl, b1⟩
          have x1 := X0.out.below b1 hlt
          have B1 := Lib.hid (B0.out.trans (b1.mono B0.out.size))
          have k1 : w1.cell? ⟨b, o + 1, none⟩ = some (.bool q) := (B1.out.cell (p := ⟨b, o + 1, none⟩) hb).trans hc
          clear hc
          clear b1 c0 c1 c2
          obtain ⟨c0, c1, c2, -, -, -, -⟩ := x1
          go_wp2_with fail
          refine (Har.out w1).mono ?_
          rintro e w2 ⟨rfl, rfl⟩
          have hS0 := HS0.out
          obtain ⟨w3, hw3⟩ : ∃ w3, w3 = (w1).alloc (.cells #[] 4) := ⟨_, rfl⟩
          have bw := B1.out
          have b3 : Below (w1).heap.size (w1) w3 := by rw [hw3]; exact (Below.refl _ _).alloc (Nat.le_refl _) _
          have hw : w.heap.size ≤ (w1).heap.size := bw.size
          have o3 : Oc 1 w3 4 w.heap.size (some ⟨(w1).heap.size, 0, none⟩) 0 0 [] := by rw [hw3]; exact (Oc.made0 1 _ _).mono hw
          have B3 := Lib.hid (bw.trans (b3.mono hw))
          have r3 : Rc 1 w3 w3.heap.size A n c (lvb s) := by
            have q := (((Hs.out.below B3.out).more B3.out.size).upto hrn)
            rw [lvb_take, hS0] at q
            exact q
          have W3 := Lib.hid hw3; have O3 := Lib.hid o3; have R3 := Lib.hid r3
          have h3s : w.heap.size ≤ w3.heap.size := B3.out.size
          clear hw3 b3 o3 r3 bw hw
          go_wp2_with (at_builtin; rw [← W3.out]; go_must (refine Sl.wpAppAt kty rfl (.tmp 68) (.tmp 74) rfl (n := 0) (m := n) (N := n) (ws := lvb s) rfl rfl O3.out R3.out (lvb_one _) (Nat.zero_add _) rfl ?hs4 ?hs5 h3s ?_))
          case hs4 => omega
          case hs5 => omega
          intro A4 c4 w4 ho4 hg4
          have B4 := Lib.hid (B3.out.trans ((hg4.belowC O3.out h3s).trans (Below.refl _ _)))
          obtain ⟨w5, hw5⟩ : ∃ w5, w5 = w4.alloc (.cells #[.bool q] 4) := ⟨_, rfl⟩
          have b5 : Below w4.heap.size w4 w5 := by rw [hw5]; exact (Below.refl _ _).alloc (Nat.le_refl _) _
          have o5 : Oc 1 w5 4 w.heap.size A4 n c4 (lvb s) := ho4.keep b5
          have r5 : Rc 1 w5 (w4.heap.size + 1) (some ⟨w4.heap.size, 0, none⟩) 1 1 (lvb [q]) := by rw [hw5]; exact Rc.lit w4 _ #[.bool q] 1 rfl (by simp [maxLen])
          have B5 := Lib.hid (B4.out.trans (b5.mono B4.out.size)); have W5 := Lib.hid hw5; have O5 := Lib.hid o5; have R5 := Lib.hid r5
          have h5s : w.heap.size ≤ w5.heap.size := B5.out.size
          clear hw5 b5 o5 r5 ho4 hg4
          go_wp2_with (at_builtin; rw [← W5.out]; go_must (refine Sl.wpAppAt kty rfl (.tmp 76) (.tmp 78) rfl (n := n) (m := 1) (N := n + 1) (ws := lvb (s ++ [q])) rfl rfl O5.out R5.out (lvb_one _) rfl (lvb_app _ _).symm ?hs4 ?hs5 h5s ?_))
          case hs4 => omega
          case hs5 => omega
          intro A6 c6 w6 ho6 hg6
          have B6 := Lib.hid (B5.out.trans ((hg6.belowC O5.out h5s).trans (Below.refl _ _)))
          have HF := Lib.hid (RetSt.ok B6.out (show n + 1 = (s ++ [q]).length by rw [List.length_append, List.length_singleton]; exact congrArg (· + 1) Hsl2.out.symm) ho6)
          clear ho6 hg6
          have dq : decide ((30 : Int) < (n : Int) + 1) = false := decide_eq_false (by omega)
          go_wp2
          go_ret2
          exact HF.out
    have d23 : (op == 23) = false := beq_eq_false_iff_ne.2 h23
    have d22' : decide (22 ≤ op) = false := decide_eq_false (by omega)
    have hnz : ar op ≠ 0 := ar_nonzero ⟨by omega, by omega⟩
    have ha3 := ar_le op
    have hT := HT.out.trans ((if_neg (by simp; omega)).trans (if_neg hnz))
    unfold opS at hT
    obtain ⟨a, ha⟩ : ∃ a, a = ar op := ⟨_, rfl⟩
    have har := Har.out
    simp only [← ha] at hT har
    rw [← ha] at ha3 hnz
    have HT2 := Lib.hid hT; have Har2 := Lib.hid har
    clear hra h0 h1 h2 h3 h22 h23 HT hT har Har ha hrn
    by_cases hna : n < a
    · obtain rfl : T = (s, 13) := HT2.out.trans (if_pos (by rw [Hsl.out]; exact hna))
      have d9 : decide ((n : Int) < (a : Int)) = true := decide_eq_true (by omega)
      have d9' : decide (n < a) = true := decide_eq_true (by omega)
      clear hna hnz
      go_enter Tryd.func19, Tryd.ntmps19
      go_wp2_with (rw [← W0.out])
      refine (Hmay.out w0).mono ?_
      rintro e w1 ⟨rfl, b1⟩
      have x1 := X0.out.below b1 hlt
      have B1 := Lib.hid (B0.out.trans (b1.mono B0.out.size))
      clear b1 c0 c1 c2
      obtain ⟨c0, c1, c2, -, -, -, -⟩ := x1
      go_wp2_with fail
      refine (Har2.out w1).mono ?_
      rintro e w2 ⟨rfl, rfl⟩
      go_wp2
      go_ret2
      exact RetSt.err s B1.out (by decide)
    have d9 : decide ((n : Int) < (a : Int)) = false := decide_eq_false (by omega)
    have d9' : decide (n < a) = false := decide_eq_false (by omega)
    have d8 : decide ((0 : Int) < (a : Int)) = true := decide_eq_true (by omega)
    have d8' : decide (0 < a) = true := decide_eq_true (by omega)
    obtain ⟨r, hr⟩ : ∃ r, r = n - a := ⟨_, rfl⟩
    have hrn : r ≤ n := by omega
    have hra : n - r = a := by omega
    have hr30 : r < 30 := by omega
    have hT := HT2.out.trans (if_neg (by rw [Hsl.out]; exact hna))
    rw [Hsl.out, ← hr] at hT
    obtain ⟨R, hR⟩ : ∃ R, R = res op (s.drop r) := ⟨_, rfl⟩
    rw [← hR] at hT
    have e1 : IntKind.i64.wrap ((n : Int) - (a : Int)) = (r : Int) := by rw [IntWalk.i64_in _ (by omega)]; omega
    have hcut := Sl.from_ kty A n c r hrn (r : Int) rfl
    have hres := fun (W : World) (h : Rc 1 W W.heap.size (if c = r then A else A.map (·.add (r * 1))) (n - r) (c - r) (lvb (s.drop r))) => result_c op (if c = r then A else A.map (·.add (r * 1))) (n - r) (c - r) (s.drop r) W h (by omega)
    have hrc := fun (W : World) (hb : Below w.heap.size w W) => ((Hs.out.from_ hrn).below hb).more hb.size
    obtain ⟨A1, hA1⟩ : ∃ A1, A1 = (if c = r then A else A.map (·.add (r * 1))) := ⟨_, rfl⟩
    obtain ⟨n1, hn1⟩ : ∃ n1, n1 = n - r := ⟨_, rfl⟩
    obtain ⟨c9, hc9⟩ : ∃ c9, c9 = c - r := ⟨_, rfl⟩
    simp only [← hA1, ← hn1, ← hc9, lvb_drop] at hcut hrc
    simp only [← hA1, ← hn1, ← hc9, ← hR] at hres
    have Hres := Lib.hid (fun (W : World) (hb : Below w.heap.size w W) => hres W (hrc W hb))
    have HT3 := Lib.hid hT
    have hl3 : (s.take r).length = r := by rw [List.length_take, Hsl.out]; exact Nat.min_eq_left hrn
    have HL3 := Lib.hid hl3
    clear hT HT2 hna hnz hr hra hR hres hrc hA1 hn1 hc9 hl3
    obtain ⟨b, er⟩ := R
    have HT4 := Lib.hid (show T = if er ≠ 0 then (s, er) else (s.take r ++ [b], 0) from HT3.out)
    clear HT3
    by_cases h0 : er = 0
    · subst h0
      obtain ⟨S, hS⟩ : ∃ S, S = s.take r := ⟨_, rfl⟩
      have hS0 : s.take r = S := hS.symm
      obtain rfl : T = (S ++ [b], 0) := (HT4.out.trans (if_neg (by simp))).trans (by rw [hS0])
      have HSL := Lib.hid (show S.length = r by rw [hS]; exact HL3.out)
      have hcut2 := Sl.upto kty A n c r hrn Hs.out.2.1 (r : Int) rfl
      clear hS HL3 HT4
      go_enter Tryd.func19, Tryd.ntmps19
      go_wp2_with (rw [← W0.out])
      refine (Hmay.out w0).mono ?_
      rintro e w1 ⟨rfl, b1⟩
      have x1 := X0.out.below b1 hlt
      have B1 := Lib.hid (B0.out.trans (b1.mono B0.out.size))
      clear b1 c0 c1 c2
      obtain ⟨c0, c1, c2, -, -, -, -⟩ := x1
      go_wp2_with fail
      refine (Har2.out w1).mono ?_
      rintro e w2 ⟨rfl, rfl⟩
      go_wp2_with fail
      go_quiet (first | (go_at_call 25; refine (Hres.out _ (below_drewN B1.out _)).mono ?_; rintro e w9 ⟨he, k, rfl⟩; exact ⟨he, _, World.drewN_drewN _ _ _⟩))
      obtain ⟨w2, hw2⟩ : ∃ w2, w2 = w1.drewN nq := ⟨_, rfl⟩
      have B2 := Lib.hid (show Below w.heap.size w w2 by rw [hw2]; exact below_drewN B1.out _)
      rw [← hw2]
      clear hw2 c0 c1 c2
      obtain ⟨w3, hw3⟩ : ∃ w3, w3 = (w2).alloc (.cells #[] 4) := ⟨_, rfl⟩
      have bw := B2.out
      have b3 : Below (w2).heap.size (w2) w3 := by rw [hw3]; exact (Below.refl _ _).alloc (Nat.le_refl _) _
      have hw : w.heap.size ≤ (w2).heap.size := bw.size
      have o3 : Oc 1 w3 4 w.heap.size (some ⟨(w2).heap.size, 0, none⟩) 0 0 [] := by rw [hw3]; exact (Oc.made0 1 _ _).mono hw
      have B3 := Lib.hid (bw.trans (b3.mono hw))
      have r3 : Rc 1 w3 w3.heap.size A r c (lvb S) := by
        have q := (((Hs.out.below B3.out).more B3.out.size).upto hrn)
        rw [lvb_take, hS0] at q
        exact q
      have W3 := Lib.hid hw3; have O3 := Lib.hid o3; have R3 := Lib.hid r3
      have h3s : w.heap.size ≤ w3.heap.size := B3.out.size
      clear hw3 b3 o3 r3 bw hw
      go_wp2_with (at_builtin; rw [← W3.out]; go_must (refine Sl.wpAppAt kty rfl (.tmp 68) (.tmp 74) rfl (n := 0) (m := r) (N := r) (ws := lvb S) rfl rfl O3.out R3.out (lvb_one _) (Nat.zero_add _) rfl ?hs4 ?hs5 h3s ?_))
      case hs4 => omega
      case hs5 => omega
      intro A4 c4 w4 ho4 hg4
      have B4 := Lib.hid (B3.out.trans ((hg4.belowC O3.out h3s).trans (Below.refl _ _)))
      obtain ⟨w5, hw5⟩ : ∃ w5, w5 = w4.alloc (.cells #[.bool b] 4) := ⟨_, rfl⟩
      have b5 : Below w4.heap.size w4 w5 := by rw [hw5]; exact (Below.refl _ _).alloc (Nat.le_refl _) _
      have o5 : Oc 1 w5 4 w.heap.size A4 r c4 (lvb S) := ho4.keep b5
      have r5 : Rc 1 w5 (w4.heap.size + 1) (some ⟨w4.heap.size, 0, none⟩) 1 1 (lvb [b]) := by rw [hw5]; exact Rc.lit w4 _ #[.bool b] 1 rfl (by simp [maxLen])
      have B5 := Lib.hid (B4.out.trans (b5.mono B4.out.size)); have W5 := Lib.hid hw5; have O5 := Lib.hid o5; have R5 := Lib.hid r5
      have h5s : w.heap.size ≤ w5.heap.size := B5.out.size
      clear hw5 b5 o5 r5 ho4 hg4
      go_wp2_with (at_builtin; rw [← W5.out]; go_must (refine Sl.wpAppAt kty rfl (.tmp 76) (.tmp 78) rfl (n := r) (m := 1) (N := r + 1) (ws := lvb (S ++ [b])) rfl rfl O5.out R5.out (lvb_one _) rfl (lvb_app _ _).symm ?hs4 ?hs5 h5s ?_))
      case hs4 => omega
      case hs5 => omega
      intro A6 c6 w6 ho6 hg6
      have B6 := Lib.hid (B5.out.trans ((hg6.belowC O5.out h5s).trans (Below.refl _ _)))
      have HF := Lib.hid (RetSt.ok B6.out (show r + 1 = (S ++ [b]).length by rw [List.length_append, List.length_singleton]; exact congrArg (· + 1) HSL.out.symm) ho6)
      clear ho6 hg6
      have dq : decide ((30 : Int) < (r : Int) + 1) = false := decide_eq_false (by omega)
      go_wp2
      go_ret2
      exact HF.out
    · obtain rfl : T = (s, er) := HT4.out.trans (if_pos h0)
      have e3 : ((er : Int) != 0) = true := by simp; omega
      have e4 : ((er : Int) == 0) = false := by simp; omega
      have H0 := Lib.hid h0
      clear h0 HT4
      go_enter Tryd.func19, Tryd.ntmps19
      go_wp2_with (rw [← W0.out])
      refine (Hmay.out w0).mono ?_
      rintro e w1 ⟨rfl, b1⟩
      have x1 := X0.out.below b1 hlt
      have B1 := Lib.hid (B0.out.trans (b1.mono B0.out.size))
      clear b1 c0 c1 c2
      obtain ⟨c0, c1, c2, -, -, -, -⟩ := x1
      go_wp2_with fail
      refine (Har2.out w1).mono ?_
      rintro e w2 ⟨rfl, rfl⟩
      go_wp2_with fail
      go_quiet (first | (go_at_call 25; refine (Hres.out _ (below_drewN B1.out _)).mono ?_; rintro e w9 ⟨he, k, rfl⟩; exact ⟨he, _, World.drewN_drewN _ _ _⟩))
      obtain ⟨w2, hw2⟩ : ∃ w2, w2 = w1.drewN nq := ⟨_, rfl⟩
      have B2 := Lib.hid (show Below w.heap.size w w2 by rw [hw2]; exact below_drewN B1.out _)
      rw [← hw2]
      clear hw2 c0 c1 c2
      go_wp2
      go_ret2
      exact RetSt.err s B2.out H0.out
end Go.Proofs.YthkjhenaicbepaaDoor
