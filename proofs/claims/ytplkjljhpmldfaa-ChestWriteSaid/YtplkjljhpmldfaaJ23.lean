/-
  Joined: P9.
-/
import Derived.Test.YtplkjljhpmldfaaJ7
import Derived.Test.YtplkjljhpmldfaaJ3
import Derived.Test.YtplkjljhpmldfaaJ1
import Derived.BigQuiet
/-
  press.takeNumber: the number that a row begins with, and the rest, which is not copied.
-/
namespace Go.Proofs.Ytplkjljhpmldfaa
open Go.RowKit

theorem pdn_take : ∀ (m i acc : Nat) (l : List UInt8), 10 ≤ m + i → i ≤ 9 → Vm.dn i acc (l.take m) = Vm.dn i acc l
  | 0, _, _, _, h, hi => by omega
  | m + 1, i, acc, [], _, _ => rfl
  | m + 1, i, acc, c :: r, h, hi => by
    rw [List.take_succ_cons]
    by_cases h1 : c.toNat < 128
    · by_cases h2 : 0 < i ∧ c.toNat = 0 ∨ i = 9 ∧ 1 < c.toNat
      · rw [Vm.dn_bad _ _ _ _ h1 h2, Vm.dn_bad _ _ _ _ h1 h2]
      · rw [Vm.dn_end _ _ _ _ h1 h2, Vm.dn_end _ _ _ _ h1 h2]
    · by_cases h9 : i = 9
      · subst h9; rw [Vm.dn_long _ _ _ (by omega), Vm.dn_long _ _ _ (by omega)]
      · rw [Vm.dn_step _ _ _ _ (by omega) h9, Vm.dn_step _ _ _ _ (by omega) h9]
        exact pdn_take m (i + 1) _ r (by omega) (by omega)
theorem ptk_take (l : List UInt8) : Vm.tk (l.take 10) = Vm.tk l := pdn_take 10 0 0 l (by omega) (by omega)
theorem ptk_head (l : List UInt8) (m : Nat) (h : l.length ≤ m ∨ m = 10) : Vm.tk (l.take m) = Vm.tk l := by
  rcases h with h | rfl
  · rw [List.take_of_length_le h]
  · exact ptk_take l

set_option maxRecDepth 100000 in
/-- press.takeNumber: a number is there -/
theorem takeNumber_ok (A : Option Addr) (n c B : Nat) (l : List UInt8) (a s : Nat) (w : World) (hr : Rb w B A n c l) (hB : B ≤ w.heap.size) (hn : n ≤ 1000000) (htk : Vm.tk l = (a, s, 0)) :
    Calls Try.prog 92 #[.slice A n c] w fun e w' => ∃ D, e = .returned (.tuple #[.int .u64 (a : Int), .slice D (n - s) (c - s), .int .i64 0]) ∧ Rb w' B D (n - s) (c - s) (l.drop s) ∧ Below w.heap.size w w' := by
  have hl := hr.len
  by_cases h10 : n ≤ 10
  · have h10' : (n : Int) ≤ 10 := by omega
    obtain ⟨E, hE, hrE⟩ := bty.upto_ hr (k := n) (by omega) (n : Int) rfl
    have ht : Vm.tk (l.take n) = (a, s, 0) := by rw [ptk_head l _ (by omega)]; exact htk
    have hsz := Vm.tk_size (l.take n)
    rw [ht] at hsz
    have hlt : (l.take n).length = n := by rw [List.length_take]; omega
    rw [hlt] at hsz
    have hs : s ≤ n := hsz.1
    obtain ⟨D, hD, hrD⟩ := bty.from_ hr (k := s) (by omega) (s : Int) rfl
    obtain ⟨R, hR⟩ : ∃ R, R = (l.take n).drop s := ⟨_, rfl⟩
    have hRl : R.length = n - s := by rw [hR, List.length_drop, hlt]
    have htake := take_c E n c (l.take n) w (hrE.more hB) (by omega)
    rw [takeS_ok _ a s ht] at htake
    rw [← hR] at htake
    have hidx : (n : Int) - ((n - s : Nat) : Int) = (s : Int) := by omega
    have Hr := Lib.hid hr; have HrD := Lib.hid hrD; have Htake := Lib.hid htake; have HR := Lib.hid hR; clear hr hrE hrD htake hR ht hsz hlt htk
    have Hidx := Lib.hid hidx; have HRl := Lib.hid hRl; clear hidx hRl
    go_enter Try.func92, Try.ntmps92
    go_wp2_with fail
    refine Htake.out.mono ?_
    rintro e w1 ⟨A1, c1, rfl, hown1, hb1⟩
    dsimp only
    rw [HRl.out]
    clear hown1
    have hidx := Hidx.out
    go_wp2_with fail
    go_quiet (fail)
    go_wp2
    go_ret3
    exact ⟨D, rfl, (HrD.out.below (hb1.mono hB)).drewN _, below_drewN hb1 _⟩
  · have h10' : (10 : Int) < (n : Int) := by omega
    obtain ⟨E, hE, hrE⟩ := bty.upto_ hr (k := 10) (by omega) (10 : Int) rfl
    have ht : Vm.tk (l.take 10) = (a, s, 0) := by rw [ptk_head l _ (by omega)]; exact htk
    have hsz := Vm.tk_size (l.take 10)
    rw [ht] at hsz
    have hlt : (l.take 10).length = 10 := by rw [List.length_take]; omega
    rw [hlt] at hsz
    have hs : s ≤ 10 := hsz.1
    obtain ⟨D, hD, hrD⟩ := bty.from_ hr (k := s) (by omega) (s : Int) rfl
    obtain ⟨R, hR⟩ : ∃ R, R = (l.take 10).drop s := ⟨_, rfl⟩
    have hRl : R.length = 10 - s := by rw [hR, List.length_drop, hlt]
    have htake := take_c E 10 c (l.take 10) w (hrE.more hB) (by omega)
    rw [takeS_ok _ a s ht] at htake
    rw [← hR] at htake
    have hidx : (10 : Int) - ((10 - s : Nat) : Int) = (s : Int) := by omega
    have Hr := Lib.hid hr; have HrD := Lib.hid hrD; have Htake := Lib.hid htake; have HR := Lib.hid hR; clear hr hrE hrD htake hR ht hsz hlt htk
    have Hidx := Lib.hid hidx; have HRl := Lib.hid hRl; clear hidx hRl
    go_enter Try.func92, Try.ntmps92
    go_wp2_with fail
    refine Htake.out.mono ?_
    rintro e w1 ⟨A1, c1, rfl, hown1, hb1⟩
    dsimp only
    rw [HRl.out]
    clear hown1
    have hidx := Hidx.out
    go_wp2_with fail
    go_quiet (fail)
    go_wp2
    go_ret3
    exact ⟨D, rfl, (HrD.out.below (hb1.mono hB)).drewN _, below_drewN hb1 _⟩

set_option maxRecDepth 100000 in
/-- press.takeNumber: none is there -/
theorem takeNumber_err (A : Option Addr) (n c B : Nat) (l : List UInt8) (x : Nat) (w : World) (hr : Rb w B A n c l) (hB : B ≤ w.heap.size) (hn : n ≤ 1000000) (htk : Vm.tk l = (0, 0, x)) (hx : x = 2 ∨ x = 3) :
    Calls Try.prog 92 #[.slice A n c] w fun e w' => e = .returned (.tuple #[.int .u64 0, .slice none 0 0, .int .i64 (x : Int)]) ∧ Below w.heap.size w w' := by
  have hl := hr.len
  have hx0 : ((x : Int) == 0) = false := by simp; omega
  by_cases h10 : n ≤ 10
  · have h10' : (n : Int) ≤ 10 := by omega
    obtain ⟨E, hE, hrE⟩ := bty.upto_ hr (k := n) (by omega) (n : Int) rfl
    have ht : Vm.tk (l.take n) = (0, 0, x) := by rw [ptk_head l _ (by omega)]; exact htk
    have htake := take_c E n c (l.take n) w (hrE.more hB) (by omega)
    rw [takeS_err _ x ht hx] at htake
    have Hr := Lib.hid hr; have Htake := Lib.hid htake; have Hx := Lib.hid hx; clear hr hrE htake ht htk hx
    go_enter Try.func92, Try.ntmps92
    go_wp2_with fail
    refine Htake.out.mono ?_
    rintro e w1 ⟨A1, c1, rfl, hown1, hb1⟩
    dsimp only
    clear hown1
    go_wp2
    go_ret3
    exact ⟨rfl, hb1⟩
  · have h10' : (10 : Int) < (n : Int) := by omega
    obtain ⟨E, hE, hrE⟩ := bty.upto_ hr (k := 10) (by omega) (10 : Int) rfl
    have ht : Vm.tk (l.take 10) = (0, 0, x) := by rw [ptk_head l _ (by omega)]; exact htk
    have htake := take_c E 10 c (l.take 10) w (hrE.more hB) (by omega)
    rw [takeS_err _ x ht hx] at htake
    have Hr := Lib.hid hr; have Htake := Lib.hid htake; have Hx := Lib.hid hx; clear hr hrE htake ht htk hx
    go_enter Try.func92, Try.ntmps92
    go_wp2_with fail
    refine Htake.out.mono ?_
    rintro e w1 ⟨A1, c1, rfl, hown1, hb1⟩
    dsimp only
    clear hown1
    go_wp2
    go_ret3
    exact ⟨rfl, hb1⟩

end Go.Proofs.Ytplkjljhpmldfaa
