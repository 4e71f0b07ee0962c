/-
  parse: the record with which a row of bytes begins.
-/
import Derived.Test.YtpjnkbfjnonkhaaDoorK2
import Derived.Shelf.Abstract
import Derived.BigQuiet
namespace Go.Proofs.YtpjnkbfjnonkhaaDoor
open Go.RowKit

theorem call_fnN (s : Cv.St) (args : Array Value) (w : World) : Sem.run Tryd.prog (callFunc (fnN s) args) w = .ok (.enter (fnN s) args) w := by
  cases s with
  | bg => exact enters_of Tryd.func31 (by kernel_rfl) rfl args w
  | un => exact enters_of Tryd.func41 (by kernel_rfl) rfl args w
  | qu => exact enters_of Tryd.func40 (by kernel_rfl) rfl args w
  | aq => exact enters_of Tryd.func57 (by kernel_rfl) rfl args w
  | ar => exact enters_of Tryd.func72 (by kernel_rfl) rfl args w
theorem wrap_u8 (x : UInt8) : wrap64 (x.toNat : Int) = (x.toNat : Int) := by
  have := x.toNat_lt
  simp only [wrap64]; omega

/-- What parse returns. -/
def RetP (w : World) (len : Nat) : Cv.Res → Ending → World → Prop
  | .ok r rest, e, w' => ∃ A c, e = .returned (.tuple #[.slice A r.length c, .int .i64 ((len - rest.length : Nat) : Int), .int .i64 0]) ∧ Oc 1 w' 9 w.heap.size A r.length c (lvs r) ∧ Below w.heap.size w w'
  | .err k, e, w' => ∃ n : Nat, e = .returned (.tuple #[.slice none 0 0, .int .i64 (n : Int), .int .i64 (k : Int)]) ∧ Below w.heap.size w w'
def PaRel (w : World) (l : List UInt8) (n : Nat) (R : Cv.Res) (t : Value) (wr : World) : Prop :=
  ∃ i : Nat, ∃ s r f, t = .int .i64 (i : Int) ∧ i ≤ n ∧ Pz wr w.heap.size (fnV s w.heap.size) r f ∧ Cv.run s r f (l.drop i) = R ∧ r.length < 50 ∧ (∀ x ∈ r, x.length ≤ 1000) ∧ f.length ≤ 1000 ∧ Below w.heap.size w wr

set_option maxRecDepth 100000 in
set_option maxHeartbeats 1000000 in
/-- parse -/
theorem parse_c (A : Option Addr) (n c : Nat) (l : List UInt8) (w : World) (h : Rb w w.heap.size A n c l) (hn : n ≤ 1000000) :
    Calls Tryd.prog 22 #[.slice A n c] w (RetP w n (Cv.run .bg [] [] l)) := by
  have hl := h.len
  obtain ⟨R, hR⟩ : ∃ R, R = Cv.run .bg [] [] l := ⟨_, rfl⟩
  rw [← hR]
  have hb0 := Box5.made w 58 (fnV .bg w.heap.size) (.slice none 0 0) (.slice none 0 0) (.bool false) (.int .i64 0)
  have hp0 : Pz (w.alloc (.cells #[fnV .bg w.heap.size, .slice none 0 0, .slice none 0 0, .bool false, .int .i64 0] 58)) w.heap.size (fnV .bg w.heap.size) [] [] :=
    ⟨none, 0, none, 0, hb0, Oc.nil 1 _ _ _, Own.nil _ _ _, .inl rfl⟩
  have hbel0 : Below w.heap.size w (w.alloc (.cells #[fnV .bg w.heap.size, .slice none 0 0, .slice none 0 0, .bool false, .int .i64 0] 58)) := (Below.refl _ _).alloc (Nat.le_refl _) _
  have H := Lib.hid h; have Hl := Lib.hid hl; have HR := Lib.hid hR; have Hp0 := Lib.hid hp0; have Hbel0 := Lib.hid hbel0; clear h hl hR hp0 hbel0 hb0
  have hlt : w.heap.size < w.heap.size + 1 := by omega
  go_enter Tryd.func22, Tryd.ntmps22
  go_wp2
  go_loopw [17] (fun t wr => PaRel w l n R t wr) (fun t _ => n - (intOf t).toNat)
  case atStart => exact ⟨0, .bg, [], [], rfl, Nat.zero_le _, Hp0.out, by rw [HR.out]; rfl, by simp, by simp, by simp, Hbel0.out⟩
  case round =>
    obtain ⟨i, s, r, f, rfl, hi, hp, hrun, q1, q2, q3, hbel⟩ := hrel
    rename World => wr
    have hz := hbel.size
    by_cases hin : i < n
    · obtain ⟨b, off, x, rfl, hb, hcx, hgx, hdx⟩ := (H.out.below hbel).at_ hin
      rw [hdx] at hrun
      have hst := step_c w.heap.size s r f (some x) _ hp (by omega) (by omega)
      obtain ⟨A1, a1, D1, d1, ⟨c0, c1, c2, c3, c4, f0, f1, f2, f3, f4, hlt⟩, _, _, _⟩ := hp
      have Hrun := Lib.hid hrun; have Hbel := Lib.hid hbel; have Hst := Lib.hid hst; clear hrun hbel hst
      simp only [fnV] at c0
      rcases e : Cv.stp s r f (some x) with ⟨s', r', f'⟩ | r' | k
      · rw [e] at Hst
        obtain ⟨g1, g2, g3⟩ := Cv.stp_small e q1 q2 q3
        have hrun' := Cv.run_go (l := l.drop (i + 1)) e
        rw [Hrun.out] at hrun'
        have Hrun' := Lib.hid hrun'; clear hrun'
        clear e
        go_wp2_with fail
        rw [call_fnN, Oper.upon_enter, wrap_u8]
        refine Hst.out.mono ?_
        rintro e w' ⟨rfl, h2, h3⟩
        have Hp := Lib.hid h2
        obtain ⟨A2, a2, D2, d2, ⟨c0, c1, c2, c3, c4, f0, f1, f2, f3, f4, hlt⟩, _, _, _⟩ := h2
        go_wp2
        go_roundw
        case rel => exact ⟨i + 1, s', r', f', by go_num, hin, Hp.out, Hrun'.out.symm, g1, g2, g3, Hbel.out.trans h3⟩
        case measure => simp [intOf]; omega
      · rw [e] at Hst
        have hrun' := Cv.run_fin (l := l.drop (i + 1)) e
        rw [Hrun.out] at hrun'
        have Hrun' := Lib.hid hrun'; clear hrun'
        clear e
        have q5 : IntKind.i64.wrap ((i : Int) + 1) = (i : Int) + 1 := IntWalk.i64_in _ (by omega)
        go_wp2_with fail
        rw [call_fnN, Oper.upon_enter, wrap_u8]
        refine Hst.out.mono ?_
        rintro e w' ⟨rfl, h2, h3⟩
        obtain ⟨nx, A2, a2, D2, ⟨c0, c1, c2, c3, c4, f0, f1, f2, f3, f4, hlt⟩, ho⟩ := h2
        have Ho := Lib.hid ho; clear ho
        go_wp2_with fail
        go_quiet (fail)
        go_wp2
        go_ret3
        rw [Hrun'.out]
        have hd : n - (l.drop (i + 1)).length = i + 1 := by rw [List.length_drop, Hl.out]; omega
        refine ⟨A2, a2, by rw [hd]; go_num, (Ho.out.mono (by omega)).drewN _, below_drewN (Hbel.out.trans h3) _⟩
      · rw [e] at Hst
        have hrun' := Cv.run_bad (l := l.drop (i + 1)) e
        rw [Hrun.out] at hrun'
        have Hrun' := Lib.hid hrun'; clear hrun'
        clear e
        have q5 : IntKind.i64.wrap ((i : Int) + 1) = (i : Int) + 1 := IntWalk.i64_in _ (by omega)
        go_wp2_with fail
        rw [call_fnN, Oper.upon_enter, wrap_u8]
        refine Hst.out.mono ?_
        rintro e w' ⟨rfl, h2, h3⟩
        obtain ⟨nx, D2, ⟨c0, c1, c2, c3, c4, f0, f1, f2, f3, f4, hlt⟩⟩ := h2
        go_wp2_with fail
        go_quiet (fail)
        go_wp2
        go_ret3
        rw [Hrun'.out]
        exact ⟨i + 1, by go_num, below_drewN (Hbel.out.trans h3) _⟩
    · have hin' : i = n := by omega
      rw [hin', ← Hl.out, List.drop_length] at hrun
      have hst := step_c w.heap.size s r f none _ hp (by omega) (by omega)
      obtain ⟨A1, a1, D1, d1, ⟨c0, c1, c2, c3, c4, f0, f1, f2, f3, f4, hlt⟩, _, _, _⟩ := hp
      have Hrun := Lib.hid hrun; have Hbel := Lib.hid hbel; have Hst := Lib.hid hst; clear hrun hbel hst
      simp only [fnV] at c0
      have hrn := Cv.run_none s r f
      rcases Cv.stp_none s r f with ⟨k, e, rfl⟩ | e
      · rw [e] at Hst hrn
        rw [Hrun.out] at hrn
        have Hrn := Lib.hid hrn; clear hrn e
        go_wp2_with fail
        rw [call_fnN, Oper.upon_enter]
        refine Hst.out.mono ?_
        rintro e w' ⟨rfl, h2, h3⟩
        obtain ⟨nx, D2, ⟨c0, c1, c2, c3, c4, f0, f1, f2, f3, f4, hlt⟩⟩ := h2
        go_wp2_with fail
        go_quiet (fail)
        go_wp2
        go_ret3
        rw [Hrn.out]
        exact ⟨n, rfl, below_drewN (Hbel.out.trans h3) _⟩
      · rw [e] at Hst hrn
        rw [Hrun.out] at hrn
        have Hrn := Lib.hid hrn; clear hrn e
        go_wp2_with fail
        rw [call_fnN, Oper.upon_enter]
        refine Hst.out.mono ?_
        rintro e w' ⟨rfl, h2, h3⟩
        obtain ⟨nx, A2, a2, D2, ⟨c0, c1, c2, c3, c4, f0, f1, f2, f3, f4, hlt⟩, ho⟩ := h2
        have Ho := Lib.hid ho; clear ho
        go_wp2_with fail
        go_quiet (fail)
        go_wp2
        go_ret3
        rw [Hrn.out]
        exact ⟨A2, a2, by rw [List.length_append]; rfl, (Ho.out.mono (by omega)).drewN _, below_drewN (Hbel.out.trans h3) _⟩
end Go.Proofs.YtpjnkbfjnonkhaaDoor
