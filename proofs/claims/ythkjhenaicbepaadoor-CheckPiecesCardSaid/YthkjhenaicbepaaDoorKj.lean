/-
  The program's operation on a stack.
-/
import Derived.Test.YthkjhenaicbepaaDoorKi
import Derived.Deep.RegionHeld3
namespace Go.Proofs.YthkjhenaicbepaaDoor
open Go.RowKit Vl Cd Ck

/-- What an operation comes to. -/
def opS (op : Int) (s : List Bool) : List Bool × Nat :=
  if s.length < ar op then (s, 13)
  else if (res op (s.drop (s.length - ar op))).2 ≠ 0 then (s, (res op (s.drop (s.length - ar op))).2)
  else (s.take (s.length - ar op) ++ [(res op (s.drop (s.length - ar op))).1], 0)
theorem ar_le (op : Int) : ar op ≤ 3 := (kd_mem op).2.2

set_option maxRecDepth 100000 in
set_option maxHeartbeats 1000000 in
theorem op_c (op : Int) (g : Nat) (s : List Bool) (d : Nat) (w : World) (h : St w g s d) (hs : s.length ≤ 30) :
    Calls Tryd.prog 31 #[.int .i64 op, .pointer (some ⟨g, 0, none⟩)] w (RetK w g (opS op s).1 d (opS op s).2) := by
  obtain ⟨A, c, hb, ho⟩ := h
  obtain ⟨a, ha⟩ : ∃ a, a = ar op := ⟨_, rfl⟩
  obtain ⟨n, hn⟩ : ∃ n, n = s.length := ⟨_, rfl⟩
  have ha3 := ar_le op
  have har := fun W => pArity_c op W
  unfold opS
  rw [← ha] at har ha3 ⊢
  rw [← hn] at hb ho hs ⊢
  have Har := Lib.hid har
  have HB := Lib.hid hb; have HO := Lib.hid ho; have Hn := Lib.hid hn
  clear har ha ho hn
  obtain ⟨c0, c1, f0, f1, hlt⟩ := hb
  by_cases hna : n < a
  · rw [if_pos hna]
    have e1 : IntKind.i64.wrap ((n : Int) - (a : Int)) = (n : Int) - (a : Int) := IntWalk.i64_in _ (by omega)
    have e2 : decide ((n : Int) - (a : Int) < 0) = true := decide_eq_true (by omega)
    clear hna
    go_enter Tryd.func31, Tryd.ntmps31
    go_wp2_with fail
    go_region_held3 (fun w' => w'.cell? ⟨g, 0, none⟩ = some (.slice A n c)) (go_keep) ((go_at_call 32; refine (Har.out _).mono ?_; rintro e w4 ⟨rfl, b4⟩; have hA : Below w.heap.size w w4 := (below_drewN (Below.refl _ _) 1).trans b4; have e3 := (HB.out.below hA hlt).c0))
    have HF := Lib.hid (show RetK w g s d 13 (.returned (.int .i64 13)) w4 from ⟨rfl, ⟨A, c, by rw [← Hn.out]; exact HB.out.below hA hlt, by rw [← Hn.out]; exact HO.out.keep hA⟩, hA.mono (Nat.le_of_lt hlt)⟩)
    clear b4 hA e3 c0 c1 f0 f1
    go_wp2
    go_ret
    exact HF.out
  · rw [if_neg hna]
    obtain ⟨r, hr⟩ : ∃ r, r = n - a := ⟨_, rfl⟩
    have hrn : r ≤ n := by omega
    have hra : n - r = a := by omega
    rw [← hr]
    obtain ⟨R, hR⟩ : ∃ R, R = res op (s.drop r) := ⟨_, rfl⟩
    rw [← hR]
    obtain ⟨Z, hZ⟩ : ∃ Z, Z = (if R.2 ≠ 0 then (s, R.2) else (s.take r ++ [R.1], 0)) := ⟨_, rfl⟩
    rw [← hZ]
    have HZ := Lib.hid hZ
    clear hZ
    have e1 : IntKind.i64.wrap ((n : Int) - (a : Int)) = (n : Int) - (a : Int) := IntWalk.i64_in _ (by omega)
    have E2 := Lib.hid (show (n : Int) - (a : Int) = (r : Int) by omega)
    have e2 : decide ((r : Int) < 0) = false := decide_eq_false (by omega)
    have hcut := Sl.from_ kty A n c r hrn (r : Int) rfl
    have hres := fun (W : World) (h : Rc 1 W W.heap.size (if c = r then A else A.map (·.add (r * 1))) (n - r) (c - r) (lvb (s.drop r))) => pResult_c op (if c = r then A else A.map (·.add (r * 1))) (n - r) (c - r) (s.drop r) W h (by omega)
    obtain ⟨A1, hA1⟩ : ∃ A1, A1 = (if c = r then A else A.map (·.add (r * 1))) := ⟨_, rfl⟩
    obtain ⟨n1, hn1⟩ : ∃ n1, n1 = n - r := ⟨_, rfl⟩
    obtain ⟨c1', hc1'⟩ : ∃ c1', c1' = c - r := ⟨_, rfl⟩
    rw [← hA1, ← hn1, ← hc1'] at hcut
    rw [← hA1, ← hn1, ← hc1', ← hR] at hres
    have hrc := fun (W : World) (hb : Below w.heap.size w W) => by
      have q := (HO.out.rc.from_ hrn)
      rw [← hA1, ← hn1, ← hc1', lvb_drop] at q
      exact (q.below hb).more hb.size
    have Hres := Lib.hid (fun (W : World) (hb : Below w.heap.size w W) => hres W (hrc W hb))
    have Hr := Lib.hid hr; have Hcut := Lib.hid hcut
    clear hcut hres hrc hna hra hr hR hA1 hn1 hc1'
    go_enter Tryd.func31, Tryd.ntmps31
    go_wp2_with fail
    go_region_held3 (fun w' => w'.cell? ⟨g, 0, none⟩ = some (.slice A n c)) (go_keep) ((go_at_call 32; refine (Har.out _).mono ?_; rintro e w4 ⟨rfl, b4⟩; have hA : Below w.heap.size w w4 := (below_drewN (Below.refl _ _) 1).trans b4; have e3 := (HB.out.below hA hlt).c0))
    have hb4 := HB.out.below hA hlt
    have BA := Lib.hid hA
    clear b4 hA e3 c0 c1 f0 f1
    obtain ⟨c0, c1, f0, f1, hlt4⟩ := hb4
    have hcut := Hcut.out
    rw [E2.out]
    go_wp2_with fail
    refine (Hres.out w4 BA.out).mono ?_
    rintro e w5 ⟨rfl, b5⟩
    have hb5 := (HB.out.below BA.out hlt).below b5 hlt4
    have BB := Lib.hid (BA.out.trans (b5.mono BA.out.size))
    clear b5 c0 c1 f0 f1
    have HB5 := Lib.hid hb5
    obtain ⟨c0, c1, f0, f1, hlt5⟩ := hb5
    obtain ⟨b, er⟩ := R
    by_cases h0 : er = 0
    · subst h0
      obtain rfl : Z = (s.take r ++ [b], 0) := HZ.out.trans (if_neg (by simp))
      have hcut2 := Sl.upto kty A n c r hrn HO.out.rc.2.1 (r : Int) rfl
      obtain ⟨w6, hw6⟩ : ∃ w6, w6 = w5.alloc (.cells #[.bool b] 4) := ⟨_, rfl⟩
      have b6 : Below w5.heap.size w5 w6 := by rw [hw6]; exact (Below.refl _ _).alloc (Nat.le_refl _) _
      have o6 : Oc 1 w6 4 (g + 1) A r c (lvb (s.take r)) := by
        have q := (HO.out.keep (BB.out.trans (b6.mono BB.out.size))).upto hrn
        rw [lvb_take] at q
        exact q
      have r6 : Rc 1 w6 (w5.heap.size + 1) (some ⟨w5.heap.size, 0, none⟩) 1 1 (lvb [b]) := by rw [hw6]; exact Rc.lit w5 _ #[.bool b] 1 rfl (by simp [maxLen])
      have BC := Lib.hid (BB.out.trans (b6.mono BB.out.size))
      have hb6 := HB5.out.below b6 hlt5
      have W6 := Lib.hid hw6; have O6 := Lib.hid o6; have R6 := Lib.hid r6; have HB6 := Lib.hid hb6
      have hg6 : g + 1 ≤ w6.heap.size := hb6.lt
      clear hw6 b6 o6 r6 hb6
      go_wp2_with (at_builtin; rw [← W6.out]; go_must (refine Sl.wpAppAt kty rfl (.tmp 38) (.tmp 40) rfl (n := r) (m := 1) (N := r + 1) (ws := lvb (s.take r ++ [b])) rfl rfl O6.out R6.out (lvb_one _) rfl (lvb_app _ _).symm ?hs4 ?hs5 hg6 ?_))
      case hs4 => omega
      case hs5 => omega
      intro A7 c7 w7 ho7 hg7
      have hb7 := HB6.out.grows hg7 (oc_low O6.out)
      have hl : (s.take r ++ [b]).length = r + 1 := by rw [List.length_append, List.length_singleton, List.length_take, Nat.min_eq_left (by rw [← Hn.out]; exact hrn)]
      have hbel : Below g w w7 := (BC.out.mono (Nat.le_of_lt hlt)).trans ((hg7.belowC O6.out hg6).mono (Nat.le_succ g))
      have HF := Lib.hid (show RetK w g (s.take r ++ [b]) d 0 (.returned (.int .i64 0)) (w7.setCell ⟨g, 0, none⟩ (.slice A7 (r + 1) c7)) from
        ⟨rfl, ⟨A7, c7, by rw [hl]; exact hb7.set0 _, by rw [hl]; exact oc_setLow ho7 (by show g < g + 1; omega) _⟩, below_set hbel (Nat.le_refl _) _ _⟩)
      clear ho7 hg7 hl hbel c0 c1 f0 f1
      obtain ⟨c0, c1, f0, f1, hlt7⟩ := hb7
      go_wp2
      go_ret
      exact HF.out
    · obtain rfl : Z = (s, er) := HZ.out.trans (if_pos h0)
      have e3 : ((er : Int) != 0) = true := by simp; omega
      have e4 : ((er : Int) == 0) = false := by simp; omega
      have HF := Lib.hid (show RetK w g s d er (.returned (.int .i64 (er : Int))) w5 from ⟨rfl, ⟨A, c, by rw [← Hn.out]; exact HB5.out, by rw [← Hn.out]; exact HO.out.keep BB.out⟩, BB.out.mono (Nat.le_of_lt hlt)⟩)
      clear h0
      go_wp2
      go_ret
      exact HF.out
end Go.Proofs.YthkjhenaicbepaaDoor
