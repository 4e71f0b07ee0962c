/-
  slices.IndexFunc with Find's literal; bundle.Find: what each call returns and leaves.
-/
import Derived.Test.YtdhbfoelpdoofaaQ7
namespace Go.Proofs.Ytdhbfoelpdoofaa
open Go.RowKit

theorem Sl.sz {P : Program} {t e : TypeId} {zv : Value} {z y : Nat} (u : Sl P t e zv z y) (W : World) : (sizeOf (P.elem t)).run P W = .ok z W := by
  obtain ⟨i, hi, hz0, hz1, hz2⟩ := info_parts u.inf
  have he : P.elem t = e := by simp [Program.elem, u.sl]
  simp [sizeOf, typeInfo, he, hi, hz1]
theorem Sl.sl' {P : Program} {t e : TypeId} {zv : Value} {z y : Nat} (u : Sl P t e zv z y) : P.underlying t = some (.slice (P.elem t)) := by
  have he : P.elem t = e := by simp [Program.elem, u.sl]
  rw [he]; exact u.sl
/-- 's[:k]' -/
theorem Sl.upto {P : Program} {t e : TypeId} {zv : Value} {z y : Nat} (u : Sl P t e zv z y) (A : Option Addr) (n c k : Nat) (hk : k ≤ n) (hn : n ≤ c) (K : Int) (hK : K = (k : Int)) :
    ∀ W kd, (Instr.slice t (.slice A n c) none (some (.int kd K)) none).run P W = .ok (.slice A k c) W := fun W kd => by
  subst hK
  rw [run_slice_h W t _ _ _ u.sl' kd (k : Int) (by omega) (by omega), u.sz]
  by_cases h0 : c = 0
  · subst h0
    obtain rfl : k = 0 := by omega
    simp [Result.andThen, sliced]
  · simp [Result.andThen, sliced, h0]
    cases A <;> simp [Addr.add]

/-- The literal that Find hands over: has the file the name? -/
theorem lit_c (a z s : Nat) (fn name : List UInt8) (g : Nat) (o : Bool) (ho : o = decide (fn = name)) (w : World) (hc : w.cell? ⟨g, 0, none⟩ = some (.string ⟨name.toArray⟩)) (hg : g < w.heap.size) :
    Calls Try.prog 26 #[.agg #[.int .i64 (a : Int), .string ⟨fn.toArray⟩, .int .i64 (z : Int), .int .i64 (s : Int)], .pointer (some ⟨g, 0, none⟩)] w fun e w' => e = .returned (.bool o) ∧ Below w.heap.size w w' := by
  have ho2 : (fn == name) = o := by
    rw [ho]
    by_cases h : fn = name
    · subst h; simp
    · have : (fn == name) = false := by rw [beq_eq_false_iff_ne]; exact h
      rw [this, decide_eq_false h]
  clear ho
  go_enter Try.func26, Try.ntmps26
  go_wp2
  go_ret
  exact ⟨by first | rfl | (rw [← ho2]; rfl), (Below.refl _ _).alloc (Nat.le_refl _) _⟩

/-- Where the name is first, or -1. -/
def fiI (n : List UInt8) (D : List Bm.F) : Int := match Bm.fi n D with
  | some i => (i : Int)
  | none => -1
def IxRel (base k : Nat) (w : World) (D : List Bm.F) (n : List UInt8) (i : Value) (wr : World) : Prop :=
  ∃ j : Nat, i = .int .i64 (j : Int) ∧ j ≤ k ∧ (∀ f ∈ D.take j, f.nm ≠ n) ∧ Below base w wr

set_option maxRecDepth 100000 in
set_option maxHeartbeats 2000000 in
/-- slices.IndexFunc -/
theorem ifunc_c (F : Option Addr) (k d g : Nat) (D : List Bm.F) (name : List UInt8) (w : World) (hF : Rf w w.heap.size F k d D) (hc : w.cell? ⟨g, 0, none⟩ = some (.string ⟨name.toArray⟩)) (hg : g < w.heap.size) (hk : k ≤ 1000) :
    Calls Try.prog 25 #[.slice F k d, .func (.func 26) #[] #[.pointer (some ⟨g, 0, none⟩)]] w fun e w' => e = .returned (.int .i64 (fiI name D)) ∧ Below w.heap.size w w' := by
  have hDl := hF.len
  have HF := Lib.hid hF; have HDl := Lib.hid hDl; have Hc := Lib.hid hc
  clear hF hDl hc
  go_enter Try.func25, Try.ntmps25
  go_wp2
  go_loopw [8] (fun i wr => IxRel w.heap.size k w D name i wr) (fun i _ => k - (intOf i).toNat)
  case atStart => exact ⟨0, rfl, Nat.zero_le _, fun f hf => by simp at hf, Below.refl _ _⟩
  case round =>
    obtain ⟨j, rfl, hj, hno, hbel⟩ := hrel
    have zr := hbel.size
    by_cases hlt : j < k
    · obtain ⟨b, off, f, rfl, hb, hf, e0, e1, e2, e3⟩ := (HF.out.below hbel).at_ hlt
      have hcr : wr.cell? ⟨g, 0, none⟩ = some (.string ⟨name.toArray⟩) := (hbel.cell (p := ⟨g, 0, none⟩) hg).trans Hc.out
      have Hcr := Lib.hid hcr
      obtain ⟨fa, hfa⟩ : ∃ x, x = f.at_ := ⟨_, rfl⟩
      obtain ⟨fn, hfn⟩ : ∃ x, x = f.nm := ⟨_, rfl⟩
      obtain ⟨fz, hfz⟩ : ∃ x, x = f.sz := ⟨_, rfl⟩
      obtain ⟨fs, hfs⟩ : ∃ x, x = f.st := ⟨_, rfl⟩
      rw [← hfa] at e0; rw [← hfn] at e1; rw [← hfz] at e2; rw [← hfs] at e3
      by_cases hn : f.nm = name
      · have hfi : fiI name D = (j : Int) := by
          obtain ⟨hjl, hfj⟩ := List.getElem?_eq_some_iff.1 hf
          unfold fiI
          rw [Bm.fi_drop name D j hno, List.drop_eq_getElem_cons hjl, hfj, Bm.fi, if_pos hn]
          simp
        have Hfi := Lib.hid hfi
        have ho : true = decide (fn = name) := by rw [hfn, hn]; simp
        have Ho := Lib.hid ho
        clear hfi ho hf hfa hfn hfz hfs hno hn hcr
        go_wp2_with fail
        refine (lit_c fa fz fs fn name g true Ho.out wr Hcr.out (by omega)).mono ?_
        rintro e w4 ⟨rfl, hb4⟩
        have b4 := hbel.trans (hb4.mono zr)
        go_wp2
        go_ret
        rw [Hfi.out]
        exact ⟨rfl, b4⟩
      · have hno2 : ∀ f ∈ D.take (j + 1), f.nm ≠ name := fun x hx => by
          rw [List.take_add_one, hf] at hx
          rcases List.mem_append.1 hx with hx | hx
          · exact hno x hx
          · simp at hx; subst hx; exact hn
        have Hno := Lib.hid hno2
        have ho : false = decide (fn = name) := by rw [hfn, decide_eq_false hn]
        have Ho := Lib.hid ho
        clear ho hf hfa hfn hfz hfs hno hno2 hn hcr
        go_wp2_with fail
        refine (lit_c fa fz fs fn name g false Ho.out wr Hcr.out (by omega)).mono ?_
        rintro e w4 ⟨rfl, hb4⟩
        have b4 := hbel.trans (hb4.mono zr)
        go_wp2
        go_roundw
        case rel => exact ⟨j + 1, by go_num, hlt, Hno.out, b4⟩
        case measure => simp [intOf]; omega
    · have hfi : fiI name D = -1 := by
        unfold fiI
        rw [Bm.fi_drop name D j hno, List.drop_of_length_le (by rw [HDl.out]; omega)]
        rfl
      have Hfi := Lib.hid hfi
      clear hno hfi
      go_wp2
      go_ret
      rw [Hfi.out]
      exact ⟨rfl, hbel⟩

theorem fnd_cases (l n : List UInt8) (D : List Bm.F) (e : Nat) (h : Bm.dir l = some (D, e)) :
    (Bm.fi n D = none ∧ Bm.fnd l n = ([], 6)) ∨ ∃ i, i < D.length ∧ Bm.fi n D = some i ∧ (((Bm.cts l D).length ≤ i ∧ Bm.fnd l n = ([], 16)) ∨ ∃ x, (Bm.cts l D)[i]? = some x ∧ Bm.fnd l n = (x, 0)) := by
  rcases hf : Bm.fi n D with _ | i
  · exact .inl ⟨rfl, Bm.fnd_no h hf⟩
  · obtain ⟨f, h1, _⟩ := Bm.fi_some n D i hf
    have hi : i < D.length := by
      rcases Nat.lt_or_ge i D.length with h' | h'
      · exact h'
      · rw [List.getElem?_eq_none h'] at h1; cases h1
    refine .inr ⟨i, hi, rfl, ?_⟩
    rcases hx : (Bm.cts l D)[i]? with _ | x
    · exact .inl ⟨List.getElem?_eq_none_iff.1 hx, Bm.fnd_bad h hf hx⟩
    · exact .inr ⟨x, rfl, Bm.fnd_ok h hf hx⟩

set_option maxRecDepth 100000 in
set_option maxHeartbeats 4000000 in
/-- Find -/
theorem find_c (A : Option Addr) (n c : Nat) (l name : List UInt8) (w : World) (hr : Rb w w.heap.size A n c l) (hn : n ≤ 90000) (x : List UInt8) (q : Nat) (hx : Bm.fnd l name = (x, q)) :
    Calls Try.prog 10 #[.slice A n c, .string ⟨name.toArray⟩] w fun e w' => e = .returned (.tuple #[.string ⟨x.toArray⟩, .int .i64 (q : Int)]) ∧ Below w.heap.size w w' := by
  have hl := hr.len
  obtain ⟨g0, hg0⟩ : ∃ g0, g0 = w.heap.size := ⟨_, rfl⟩
  obtain ⟨w0, hw0⟩ : ∃ w0, w0 = w.alloc (.cells #[.string ⟨name.toArray⟩] 9) := ⟨_, rfl⟩
  have b0 : Below w.heap.size w w0 := by rw [hw0]; exact (Below.refl _ _).alloc (Nat.le_refl _) _
  have z0 : w0.heap.size = g0 + 1 := by rw [hw0, hg0]; simp
  have k0 : w0.cell? ⟨g0, 0, none⟩ = some (.string ⟨name.toArray⟩) := by rw [hw0, hg0]; simp
  have hr0 := (hr.below b0).more b0.size
  have hdi := fun (T : Option Addr) (W : World) (hT : Rn W W.heap.size T 256 256 Cm.tab) (hW : Rb W W.heap.size A n c l) => directoryOf_c T A n c 256 l W hT hW hn
  have Hr0 := Lib.hid hr0; have Hl := Lib.hid hl; have Hdi := Lib.hid hdi; have W0 := Lib.hid hw0; have Hg0 := Lib.hid hg0; have Hx := Lib.hid hx; have Z0 := Lib.hid z0
  clear hr hl hdi hr0 hw0 hx hg0 z0
  rcases hI : Bm.dir l with _ | ⟨D, en⟩
  · have hres := Bm.fnd_none (n := name) hI
    rw [Hx.out] at hres
    injection hres with h1 h2
    subst h1 h2
    have HI := Lib.hid hI
    clear hI
    go_enter Try.func10, Try.ntmps10
    go_wp2_with fail
    rw [← W0.out]
    refine (table_c w0).mono ?_
    rintro e w1 ⟨rfl, hT, hb1, hz1⟩
    have hr1 := (Hr0.out.below hb1).more hb1.size
    have HT := Lib.hid hT; have Hr1 := Lib.hid hr1
    clear hT hr1
    go_wp2_with fail
    refine (Hdi.out _ _ HT.out Hr1.out).mono ?_
    rw [HI.out]
    rintro e w2 ⟨hb2, rfl⟩
    have b2 := (b0.trans (hb1.mono b0.size)).trans (hb2.mono (Nat.le_trans b0.size hb1.size))
    unfold dv
    go_wp2
    go_ret2
    exact ⟨rfl, b2.alloc b2.size _⟩
  · obtain ⟨hD, hen, hm⟩ := dir_files hI Hl.out hn
    obtain ⟨k, hk⟩ : ∃ k, D.length = k := ⟨_, rfl⟩
    have hfc := fnd_cases l name D en hI
    rw [Hx.out, hk] at hfc
    rw [hk] at hD
    have HI := Lib.hid hI; have Hm := Lib.hid hm; have Hk := Lib.hid hk; have Hfc := Lib.hid hfc
    clear hI hm hk hfc
    go_enter Try.func10, Try.ntmps10
    go_wp2_with fail
    rw [← W0.out]
    refine (table_c w0).mono ?_
    rintro e w1 ⟨rfl, hT, hb1, hz1⟩
    have hr1 := (Hr0.out.below hb1).more hb1.size
    have HT := Lib.hid hT; have Hr1 := Lib.hid hr1
    clear hT hr1
    go_wp2_with fail
    refine (Hdi.out _ _ HT.out Hr1.out).mono ?_
    rw [HI.out]
    rintro e w2 ⟨hb2, F, d, rfl, hF⟩
    have z1 := hb1.size
    have z2 := hb2.size
    unfold dv
    rw [Hk.out] at hF ⊢
    obtain ⟨g6, hg6⟩ : ∃ g6, g6 = w2.heap.size := ⟨_, rfl⟩
    obtain ⟨w3, hw3⟩ : ∃ w3, w3 = w2.alloc (.cells #[.slice F k d, .int .i64 (en : Int)] 57) := ⟨_, rfl⟩
    have b3 : Below w2.heap.size w2 w3 := by rw [hw3]; exact (Below.refl _ _).alloc (Nat.le_refl _) _
    have x3 : Box2 w3 g6 (.slice F k d) (.int .i64 (en : Int)) := by rw [hw3, hg6]; exact Box2.made _ _ _ _
    have z00 := b0.size
    have b02 := (hb1.trans (hb2.mono z1)).trans (b3.mono (Nat.le_trans z1 z2))
    have bw3 := b0.trans (b02.mono z00)
    have z3 := b3.size
    have hF3 : Rf w3 w3.heap.size F k d D := (Rf.below hF.rf b3).more z3
    have hr3 := (Hr0.out.below b02).more b02.size
    have hT3 := (HT.out.below (hb2.trans (b3.mono z2))).more (B' := w3.heap.size) (by omega)
    have k3 : w3.cell? ⟨g0, 0, none⟩ = some (.string ⟨name.toArray⟩) := (b02.cell (p := ⟨g0, 0, none⟩) (by show g0 < _; have := Z0.out; omega)).trans k0
    have hix := ifunc_c F k d g0 D name w3 hF3 k3 (by have := Z0.out; omega) hD
    have W3 := Lib.hid hw3; have HF3 := Lib.hid hF3; have Hix := Lib.hid hix; have X3 := Lib.hid x3; have Hg6 := Lib.hid hg6; have HT3 := Lib.hid hT3; have Hr3 := Lib.hid hr3
    have hkd : k ≤ d := hF3.2.1
    obtain ⟨c0, c1, -, -, hlt6⟩ := x3
    clear hw3 hF3 hF hix hT3 hr3 hg6 b3 k3
    go_wp2_with (rw [← W3.out, ← Hg6.out])
    try rw [← Hg0.out]
    refine Hix.out.mono ?_
    rintro e w4 ⟨rfl, hb4⟩
    have x4 := X3.out.below hb4 hlt6
    have z4 := hb4.size
    have bw4 := bw3.trans (hb4.mono (by omega))
    have hF4 := (HF3.out.below hb4).more z4
    have hT4 := (HT3.out.below hb4).more z4
    have hr4 := (Hr3.out.below hb4).more z4
    have HF4 := Lib.hid hF4; have HT4 := Lib.hid hT4; have Hr4 := Lib.hid hr4; have X4 := Lib.hid x4
    clear c0 c1 hF4 hT4 hr4
    obtain ⟨c0, c1, -, -, -⟩ := x4
    rcases Hfc.out with ⟨hfi, hres⟩ | ⟨i, hik, hfi, hres⟩
    · have he : fiI name D = -1 := by unfold fiI; rw [hfi]
      injection hres with h1 h2
      subst h1 h2
      rw [he]
      clear hfi he Hfc Hx
      go_wp2
      go_ret2
      exact ⟨rfl, bw4⟩
    · have he : fiI name D = (i : Int) := by unfold fiI; rw [hfi]
      rw [he]
      have hup := Sl.upto fty F k d (i + 1) (by omega) hkd
      have hF5 := HF4.out.head (k := i + 1) (by omega)
      have hco := contents_c _ A F n c 256 (i + 1) d l (D.take (i + 1)) w4 HT4.out Hr4.out hF5 (by omega) (fun f hf => by
        have hf2 := List.mem_of_mem_take hf
        exact ⟨(Hm.out f hf2).1, (Hm.out f hf2).2.1, (Hm.out f hf2).2.2.1⟩)
      rw [Bm.cts_take] at hco
      obtain ⟨V, hV⟩ : ∃ V, V = (Bm.cts l D).take (i + 1) := ⟨_, rfl⟩
      obtain ⟨vn, hvn⟩ : ∃ vn, V.length = vn := ⟨_, rfl⟩
      rw [← hV] at hco
      have hup2 := hup ((i : Int) + 1) (by omega)
      have Hco := Lib.hid hco; have Hvn := Lib.hid hvn
      rcases hres with ⟨hle, hres⟩ | ⟨x', hxi, hres⟩
      · injection hres with h1 h2
        subst h1 h2
        have hvi : vn ≤ i := by rw [← hvn, hV, List.length_take]; omega
        clear hfi he hup hF5 hco hV hvn hle Hfc Hx
        go_wp2_with fail
        refine Hco.out.mono ?_
        rintro e w5 ⟨G, gd, rfl, -, hb5⟩
        rw [Hvn.out]
        have b5 := bw4.trans (hb5.mono (by omega))
        have dv1 : decide ((vn : Int) ≤ (i : Int)) = true := by simp; omega
        clear hup2
        go_wp2
        go_ret2
        exact ⟨rfl, b5⟩
      · injection hres with h1 h2
        subst h1 h2
        have hlc : i < (Bm.cts l D).length := by
          rcases Nat.lt_or_ge i (Bm.cts l D).length with h' | h'
          · exact h'
          · rw [List.getElem?_eq_none h'] at hxi; cases hxi
        have hvi : i < vn := by rw [← hvn, hV, List.length_take]; omega
        have hvx : V[i]? = some x := by rw [hV, List.getElem?_take_of_lt (by omega)]; exact hxi
        have Hvx := Lib.hid hvx
        clear hfi he hup hF5 hco hV hvn hlc Hfc Hx hvx hxi
        go_wp2_with fail
        refine Hco.out.mono ?_
        rintro e w5 ⟨G, gd, rfl, hG, hb5⟩
        rw [Hvn.out] at hG ⊢
        have b5 := bw4.trans (hb5.mono (by omega))
        have hG5 := (hG.keep (stays_weak fr_lt)).rc
        obtain ⟨vb, vo, y, rfl, hvb, hvc, hvy, -⟩ := lvs_at hG5 hvi
        have hyx : y = x := by have := Hvx.out; rw [hvy] at this; injection this
        subst hyx
        have dv1 : decide ((vn : Int) ≤ (i : Int)) = false := by simp; omega
        clear hup2 hG hG5 hvy
        go_wp2
        go_ret2
        exact ⟨rfl, b5⟩
end Go.Proofs.Ytdhbfoelpdoofaa
