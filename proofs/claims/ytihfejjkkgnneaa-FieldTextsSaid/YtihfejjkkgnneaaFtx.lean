/-
  The walk of the law FieldTexts.
-/
import Derived.Test.YtihfejjkkgnneaaAl
namespace Go.Proofs.Ytihfejjkkgnneaa
open Go.RowKit

theorem unE_name (o : Option (List UInt8)) : ∃ (T : List UInt8) (x : Nat), unE o = .returned (.tuple #[.string ⟨T.toArray⟩, .int .i64 (x : Int)]) := by
  cases o with
  | some t => exact ⟨t, 0, rfl⟩
  | none => exact ⟨[], 3, rfl⟩

set_option maxRecDepth 100000 in
set_option maxHeartbeats 2000000 in
theorem fieldTexts_walk (s : ByteArray) (w : World) (hs : s.size ≤ maxLen) :
    Calls Try.prog 4 #[.string s] w fun e w' => e = .returned (.bool true) ∧ Below w.heap.size w w' := by
  unfold maxLen at hs
  by_cases hbig : 4000 < s.size
  · go_enter Try.func4, Try.ntmps4
    go_wp2_with fail
    refine (alive_c _).mono ?_
    rintro e w2 ⟨rfl, hb2⟩
    go_wp2
    go_ret
    exact ⟨rfl, hb2⟩
  · obtain ⟨T, x, hE⟩ := unE_name (Fm.unesc s.data.toList)
    have c1 : ∀ W, Calls Try.prog 17 #[.string s] W fun e w' => e = .returned (.tuple #[.string ⟨T.toArray⟩, .int .i64 (x : Int)]) ∧ Below W.heap.size W w' := fun W => (unescape_c s W (by omega)).mono fun _ _ ⟨he, hb⟩ => ⟨he.trans hE, hb⟩
    have c2 : ∀ W, Calls Try.prog 18 #[.string s] W fun e w' => e = .returned (.tuple #[.string ⟨T.toArray⟩, .int .i64 (x : Int)]) ∧ Below W.heap.size W w' := fun W => (runescape_c s W (by omega)).mono fun _ _ ⟨he, hb⟩ => ⟨he.trans hE, hb⟩
    obtain ⟨E, hEe⟩ : ∃ E, E = Fm.esc s.data.toList := ⟨_, rfl⟩
    have c3 : ∀ W, Calls Try.prog 19 #[.string s] W (RetS W.heap.size W E) := fun W => by rw [hEe]; exact escape_c s W (by omega)
    have c4 : ∀ W, Calls Try.prog 20 #[.string s] W (RetS W.heap.size W E) := fun W => by rw [hEe]; exact rescape_c s W (by omega)
    obtain ⟨L, hL⟩ : ∃ L, L = Fm.words s.data.toList := ⟨_, rfl⟩
    have c5 : ∀ W, Calls Try.prog 22 #[.string s] W (RetW W.heap.size W L) := fun W => by rw [hL]; exact words_c s W (by omega)
    have c6 : ∀ W, Calls Try.prog 23 #[.string s] W (RetW W.heap.size W L) := fun W => by rw [hL]; exact rwords_c s W (by omega)
    have hLl : L.length ≤ 4000 := by
      rw [hL]
      have := words_len s.data.toList
      rw [str_len] at this
      omega
    have C1 := Lib.hid c1; have C2 := Lib.hid c2; have C3 := Lib.hid c3; have C4 := Lib.hid c4; have C5 := Lib.hid c5; have C6 := Lib.hid c6
    clear c1 c2 c3 c4 c5 c6 hE hEe hL
    go_enter Try.func4, Try.ntmps4
    go_wp2_with fail
    refine (C1.out _).mono ?_
    rintro e w1 ⟨rfl, b1⟩
    go_wp2_with fail
    refine (C2.out _).mono ?_
    rintro e w2 ⟨rfl, b2⟩
    go_wp2_with fail
    refine (alive_c _).mono ?_
    rintro e w3 ⟨rfl, b3⟩
    go_wp2_with fail
    refine (C3.out _).mono ?_
    rintro e w4 ⟨rfl, b4⟩
    go_wp2_with fail
    refine (C4.out _).mono ?_
    rintro e w5 ⟨rfl, b5⟩
    go_wp2_with fail
    refine (C5.out _).mono ?_
    rintro e w6 ⟨A6, c6, rfl, hown6, b6⟩
    go_wp2_with fail
    refine (C6.out _).mono ?_
    rintro e w7 ⟨A7, c7, rfl, hown7, b7⟩
    have z1 := b1.size
    have z2 := b2.size
    have z3 := b3.size
    have z4 := b4.size
    have z5 := b5.size
    have z6 := b6.size
    have z7 := b7.size
    have r6 := hown6.rc.below b7
    have r7 := hown7.rc
    have H6 := Lib.hid r6; have H7 := Lib.hid r7; clear hown6 hown7 r6 r7
    go_wp2_with fail
    refine (strings_c A6 A7 L.length c6 c7 _ _ L _ H6.out H7.out (by omega)).mono ?_
    rintro e w8 ⟨rfl, q, rfl⟩
    have bz : Below w.heap.size w w7 := (((((b1.trans (b2.mono z1)).trans (b3.mono (by omega))).trans (b4.mono (by omega))).trans (b5.mono (by omega))).trans (b6.mono (by omega))).trans (b7.mono (by omega))
    go_wp2
    go_ret
    exact ⟨rfl, below_drewN bz q⟩
end Go.Proofs.Ytihfejjkkgnneaa
