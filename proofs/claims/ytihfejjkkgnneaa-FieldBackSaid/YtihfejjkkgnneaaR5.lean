/-
  field's takeField: what the call returns and leaves.
-/
import Derived.Test.YtihfejjkkgnneaaR4
import Derived.Test.YtihfejjkkgnneaaTg
namespace Go.Proofs.Ytihfejjkkgnneaa
open Go.RowKit

/-- A frame within the first 1010 bytes is a frame of all. -/
theorem takeF_cases (l : List UInt8) (h : Nat) (hh : h = 1010 ∧ 1010 ≤ l.length ∨ h = l.length ∧ l.length ≤ 1010) :
    (∃ S s, Fm.takeF l = .ok (S, l.drop s) ∧ tframeS (l.take h) 1000 = (S, (l.take h).drop s, 0) ∧ s ≤ h) ∨
    (∃ x, Fm.takeF l = .error x ∧ tframeS (l.take h) 1000 = ([], [], x) ∧ (x = 2 ∨ x = 3 ∨ x = 5)) := by
  have htk : Vm.tk (l.take h) = Vm.tk l := tk_head l h 1010 (by omega) (by omega)
  have hlh : (l.take h).length = h := by rw [List.length_take]; omega
  rcases tk_cases l with ⟨a, s, ht, ha, hs, hs10⟩ | ⟨x, ht, hx⟩
  · rw [ht] at htk
    by_cases h1 : 1000 < a
    · refine .inr ⟨5, ?_, tframeS_err _ _ 5 (frameS_large _ _ a s htk (.inr (by omega))) (by omega), by omega⟩
      unfold Fm.takeF
      rw [ht]
      simp [h1]
    · by_cases h2 : l.length - s < a
      · refine .inr ⟨2, ?_, tframeS_err _ _ 2 (frameS_short _ _ a s htk (by omega) (by omega)) (by omega), by omega⟩
        unfold Fm.takeF
        rw [ht]
        simp [h1, h2]
      · refine .inl ⟨(l.drop s).take a, s + a, ?_, ?_, by omega⟩
        · unfold Fm.takeF
          rw [ht]
          simp [h1, h2, List.drop_drop]
        · rw [tframeS_ok _ _ _ _ (frameS_ok _ _ a s htk (by omega) (by omega))]
          have e : ((l.take h).take (s + a)).drop s = (l.drop s).take a := by
            rw [List.take_take, Nat.min_eq_left (by omega), List.drop_take]
            simp
          rw [e]
  · rw [ht] at htk
    refine .inr ⟨x, ?_, tframeS_err _ _ x (frameS_err _ _ x htk hx) (by omega), by omega⟩
    unfold Fm.takeF
    rw [ht]
    simp only
    rw [if_neg (by omega)]
theorem takeF_x {l : List UInt8} {x : Nat} (h : Fm.takeF l = .error x) : x = 2 ∨ x = 3 ∨ x = 5 := by
  rcases takeF_cases l (if 1010 ≤ l.length then 1010 else l.length) (by split <;> omega) with ⟨S, s, h1, _⟩ | ⟨y, h1, _, h3⟩
  · rw [h1] at h; cases h
  · rw [h1] at h; injection h with h; omega
theorem takeF_small {l S R : List UInt8} (h : Fm.takeF l = .ok (S, R)) : R.length ≤ l.length ∧ S.length ≤ 1000 := by
  obtain ⟨h1, h2⟩ := Fm.takeF_only h
  have := congrArg List.length h1
  rw [List.length_append] at this
  exact ⟨by omega, h2⟩

set_option maxRecDepth 100000 in
set_option maxHeartbeats 1000000 in
/-- takeField, a frame. -/
theorem takeField_ok (A : Option Addr) (n c B : Nat) (l S R : List UInt8) (w : World) (hr : Rb w B A n c l) (hB : B ≤ w.heap.size) (hn : n ≤ 1000000) (hok : Fm.takeF l = .ok (S, R)) :
    Calls Try.prog 57 #[.slice A n c] w fun e w' => ∃ D d, e = .returned (.tuple #[.string ⟨S.toArray⟩, .slice D R.length d, .int .i64 0]) ∧ Rb w' B D R.length d R ∧ Below w.heap.size w w' := by
  have hl := hr.len
  obtain ⟨h, hmin, hh⟩ : ∃ h : Nat, min (n : Int) 1010 = (h : Int) ∧ (h = 1010 ∧ 1010 ≤ l.length ∨ h = l.length ∧ l.length ≤ 1010) := by
    by_cases hc : n ≤ 1010
    · exact ⟨n, by omega, .inr ⟨by omega, by omega⟩⟩
    · exact ⟨1010, by omega, .inl ⟨rfl, by omega⟩⟩
  have hhn : h ≤ n := by omega
  obtain ⟨D, hD, hrD⟩ := bty.upto_ hr (k := h) hhn (min (n : Int) 1010) hmin
  have hDl := hrD.len
  have hrD' := hrD.more hB
  rcases takeF_cases l h hh with ⟨S', s, h1, h2, hsh⟩ | ⟨x, h1, _⟩
  · rw [h1] at hok
    injection hok with hok
    injection hok with e1 e2
    subst e1 e2
    obtain ⟨E, hE, hrE⟩ := bty.from_ hr (k := s) (by omega) (s : Int) rfl
    have hlen : ((l.take h).drop s).length = h - s := by rw [List.length_drop, hDl]
    have c1 : ∀ W, Rb W W.heap.size D h c (l.take h) → Calls Try.prog 65 #[.slice D h c, .int .i64 1000] W fun e w' => ∃ A c, e = .returned (.tuple #[.string ⟨S'.toArray⟩, .slice A (h - s) c, .int .i64 0]) ∧ Below W.heap.size W w' := fun W hW =>
      (takeFrame_c D h c (l.take h) 1000 W hW (by omega) (by unfold I64; omega)).mono fun e w' hp => by
        rw [h2] at hp
        obtain ⟨A, c, he, _, hb⟩ := hp
        refine ⟨A, c, ?_, hb⟩
        rw [he]
        simp only [hlen]
        rfl
    have hdl : (l.drop s).length = n - s := by rw [List.length_drop, hl]
    have f1 : IntKind.i64.wrap ((h : Int) - ((h - s : Nat) : Int)) = (s : Int) := by rw [IntWalk.i64_in _ (by omega)]; omega
    have f2 : ((h : Int) - ((h - s : Nat) : Int)) = (s : Int) := by omega
    have hsn : s ≤ n := by omega
    have HrD := Lib.hid hrD'; have C1 := Lib.hid c1; have Hl := Lib.hid hlen; have HrE := Lib.hid hrE; have Hdl := Lib.hid hdl
    clear hr hrD hrD' c1 hrE hlen hl hDl hh hmin hdl h1 h2
    go_enter Try.func57, Try.ntmps57
    go_wp2_with fail
    refine (C1.out _ HrD.out).mono ?_
    rintro e w1 ⟨A1, c1, rfl, hb1⟩
    go_wp2_with fail
    go_quiet (fail)
    go_wp2
    go_ret3
    refine ⟨E, c - s, ?_, ?_, below_drewN hb1 _⟩
    · rw [Hdl.out]; rfl
    · rw [Hdl.out]
      exact (HrE.out.keep fun p hp => hb1.cell (by omega)).drewN _
  · rw [h1] at hok; cases hok

set_option maxRecDepth 100000 in
set_option maxHeartbeats 1000000 in
/-- takeField, none. -/
theorem takeField_err (A : Option Addr) (n c B : Nat) (l : List UInt8) (x : Nat) (w : World) (hr : Rb w B A n c l) (hB : B ≤ w.heap.size) (hn : n ≤ 1000000) (hok : Fm.takeF l = .error x) :
    Calls Try.prog 57 #[.slice A n c] w fun e w' => e = .returned (.tuple #[.string ⟨#[]⟩, .slice none 0 0, .int .i64 (x : Int)]) ∧ Below w.heap.size w w' := by
  have hl := hr.len
  obtain ⟨h, hmin, hh⟩ : ∃ h : Nat, min (n : Int) 1010 = (h : Int) ∧ (h = 1010 ∧ 1010 ≤ l.length ∨ h = l.length ∧ l.length ≤ 1010) := by
    by_cases hc : n ≤ 1010
    · exact ⟨n, by omega, .inr ⟨by omega, by omega⟩⟩
    · exact ⟨1010, by omega, .inl ⟨rfl, by omega⟩⟩
  have hhn : h ≤ n := by omega
  obtain ⟨D, hD, hrD⟩ := bty.upto_ hr (k := h) hhn (min (n : Int) 1010) hmin
  have hrD' := hrD.more hB
  rcases takeF_cases l h hh with ⟨S', s, h1, _⟩ | ⟨y, h1, h2, hy⟩
  · rw [h1] at hok; cases hok
  · rw [h1] at hok
    injection hok with hok
    subst hok
    have c1 : ∀ W, Rb W W.heap.size D h c (l.take h) → Calls Try.prog 65 #[.slice D h c, .int .i64 1000] W fun e w' => ∃ A c, e = .returned (.tuple #[.string ⟨#[]⟩, .slice A 0 c, .int .i64 (y : Int)]) ∧ Below W.heap.size W w' := fun W hW =>
      (takeFrame_c D h c (l.take h) 1000 W hW (by omega) (by unfold I64; omega)).mono fun e w' hp => by
        rw [h2] at hp
        obtain ⟨A, c, he, _, hb⟩ := hp
        exact ⟨A, c, he, hb⟩
    have HrD := Lib.hid hrD'; have C1 := Lib.hid c1
    have hy1 : 2 ≤ y := by omega
    clear hr hrD hrD' c1 hl hh hmin h1 h2 hy
    go_enter Try.func57, Try.ntmps57
    go_wp2_with fail
    refine (C1.out _ HrD.out).mono ?_
    rintro e w1 ⟨A1, c1, rfl, hb1⟩
    go_wp2
    go_ret3
    exact ⟨rfl, hb1⟩
end Go.Proofs.Ytihfejjkkgnneaa
