/-
  The walk of the law BundleFinds.
-/
import Derived.Test.YtdhbfoelpdoofaaQ9
import Derived.Test.YtdhbfoelpdoofaaQD
import Derived.Test.YtdhbfoelpdoofaaRg
import Derived.Deep.DeepCutAuto
import Derived.BigQuiet
import Derived.Deep.QuietTactic
namespace Go.Proofs.Ytdhbfoelpdoofaa
open Go.RowKit
set_option linter.unusedSimpArgs false

theorem str_list (s : ByteArray) : ∃ l : List UInt8, s = ⟨l.toArray⟩ := ⟨s.data.toList, by cases s; simp⟩
def hs (name : List UInt8) (D : List Bm.F) : Bool := D.any fun f => f.nm == name
theorem hs_next (name : List UInt8) (D : List Bm.F) (i : Nat) (f : Bm.F) (h : D[i]? = some f) : hs name (D.take (i + 1)) = (hs name (D.take i) || (f.nm == name)) := by
  unfold hs
  rw [List.take_add_one, h, List.any_append]
  simp
theorem hs_fi (name : List UInt8) (D : List Bm.F) : (hs name D = true → ∃ i, Bm.fi name D = some i) ∧ (hs name D = false → Bm.fi name D = none) := by
  induction D with
  | nil => exact ⟨fun h => (by cases h), fun _ => rfl⟩
  | cons f D ih =>
    by_cases h : f.nm = name
    · refine ⟨fun _ => ⟨0, by rw [Bm.fi, if_pos h]⟩, fun h2 => ?_⟩
      unfold hs at h2
      rw [List.any_cons, h] at h2
      simp at h2
    · have e : hs name (f :: D) = hs name D := by
        unfold hs
        rw [List.any_cons]
        have : (f.nm == name) = false := by rw [beq_eq_false_iff_ne]; exact h
        rw [this, Bool.false_or]
      rw [e, Bm.fi, if_neg h]
      refine ⟨fun h2 => ?_, fun h2 => ?_⟩
      · obtain ⟨i, hi⟩ := ih.1 h2
        exact ⟨i + 1, by rw [hi]; rfl⟩
      · rw [ih.2 h2]; rfl
def FiRel (dn : Nat) (w : World) (D : List Bm.F) (name : List UInt8) (o i : Value) (wr : World) : Prop :=
  ∃ j : Nat, o = .bool (hs name (D.take j)) ∧ i = .int .i64 (j : Int) ∧ j ≤ dn ∧ Below w.heap.size w wr
theorem Rc.str {w : World} {B : Nat} {A : Option Addr} {n c k : Nat} {l : List (List UInt8)} (h : Rc 1 w B A n c (lvs l)) (hk : k < n) (x : List UInt8) (hx : l[k]? = some x) : ∃ b off, A = some ⟨b, off, none⟩ ∧ b < B ∧ w.cell? ⟨b, off + k, none⟩ = some (.string ⟨x.toArray⟩) := by
  obtain ⟨b, off, y, e, hb, hc, hy, _⟩ := lvs_at h hk
  rw [hx] at hy
  injection hy with hy
  subst hy
  exact ⟨b, off, e, hb, hc⟩
theorem Rc.num {w : World} {B : Nat} {A : Option Addr} {n c k : Nat} {D : List Bm.F} (h : Rc 1 w B A n c (zvs D)) (hk : k < n) (f : Bm.F) (hf : D[k]? = some f) : ∃ b off, A = some ⟨b, off, none⟩ ∧ b < B ∧ w.cell? ⟨b, off + k, none⟩ = some (.int .i64 (f.sz : Int)) := by
  obtain ⟨b, off, v, e, hb, hc, hv⟩ := h.at_ hk
  have : v = .int .i64 (f.sz : Int) := by
    unfold zvs at hv
    rw [List.getElem?_map, hf] at hv
    injection hv with hv
    exact hv.symm
  subst this
  exact ⟨b, off, e, hb, hc⟩
/-- Find of a file's own name. -/
theorem fnd_own {l : List UInt8} {D : List Bm.F} {e i : Nat} {f : Bm.F} (h : Bm.dir l = some (D, e)) (hf : D[i]? = some f) :
    (∀ x, (Bm.cts l D)[i]? = some x → Bm.fnd l f.nm = (x, 0) ∧ x.length = f.sz) ∧ ((Bm.cts l D).length ≤ i → Bm.fnd l f.nm = ([], 16)) := by
  obtain ⟨y, _, _, ha, _⟩ := Bm.dir_inv h
  have hi := Bm.asc_fi D [] ha i f hf
  exact ⟨fun x hx => ⟨Bm.fnd_ok h hi hx, Bm.cts_sz l D i x f hx hf⟩, fun hl => Bm.fnd_bad h hi (List.getElem?_eq_none hl)⟩

set_option maxRecDepth 100000 in
set_option maxHeartbeats 8000000 in
theorem bundleFinds_walk (A : Option Addr) (n c : Nat) (l : List UInt8) (s : ByteArray) (w : World) (hr : Rb w w.heap.size A n c l) :
    Calls Try.prog 5 #[.slice A n c, .string s] w fun e w' => e = .returned (.bool true) ∧ Below w.heap.size w w' := by
  obtain ⟨name, rfl⟩ := str_list s
  have hnm : n ≤ 9223372036854775807 := by have h2 := hr.2.1; have h3 := hr.2.2.1; unfold maxLen at h3; omega
  by_cases hbig : 3000 < n
  · have db : decide ((3000 : Int) < (n : Int)) = true := by simp; omega
    clear hr
    go_enter Try.func5, Try.ntmps5
    go_wp2_with fail
    refine (alive_c _).mono ?_
    rintro e w1 ⟨rfl, hb1⟩
    go_wp2
    go_ret
    exact ⟨rfl, hb1⟩
  · have db : decide ((3000 : Int) < (n : Int)) = false := by simp; omega
    have hn9 : n ≤ 3000 := by omega
    have hl := hr.len
    have hnc := fun W (hW : Rb W W.heap.size A n c l) => names_c A n c l W hW (by omega)
    rcases hI : Bm.dir l with _ | ⟨D, en⟩
    · have hsc := fun W (hW : Rb W W.heap.size A n c l) => scan_lit A n c l W hW (by omega) [] 0 0 3 (Bm.scS_none hI) rfl
      have hfi := fun W (hW : Rb W W.heap.size A n c l) => find_c A n c l name W hW (by omega) [] 3 (Bm.fnd_none hI)
      rw [hI] at hnc
      have Hr := Lib.hid hr; have Hnc := Lib.hid hnc; have Hsc := Lib.hid hsc; have Hfi := Lib.hid hfi
      clear hr hnc hsc hfi hI hl
      go_enter Try.func5, Try.ntmps5
      go_wp2_with fail
      refine (Hsc.out w Hr.out).mono ?_
      rintro e w1 ⟨PA, pd, rfl, -, hb1⟩
      have z1 := hb1.size
      have Hr1 := Lib.hid ((Hr.out.below hb1).more z1)
      go_wp2_with fail
      refine (Hnc.out w1 Hr1.out).mono ?_
      rintro e w2 ⟨hb2, rfl⟩
      have z2 := hb2.size
      have Hr2 := Lib.hid ((Hr1.out.below hb2).more z2)
      have b2 := hb1.trans (hb2.mono z1)
      go_wp2
      go_loopw [11, 12] (fun o i wr => o = .bool false ∧ i = .int .i64 0 ∧ wr = w2) (fun _ _ _ => 0)
      case atStart => exact ⟨rfl, rfl, rfl⟩
      case round =>
        obtain ⟨rfl, rfl, rfl⟩ := hrel
        go_wp2_with fail
        refine (Hfi.out _ Hr2.out).mono ?_
        rintro e w3 ⟨rfl, hb3⟩
        have z3 := hb3.size
        have b3 := b2.trans (hb3.mono (Nat.le_trans z1 z2))
        go_wp2_with fail
        refine (alive_c _).mono ?_
        rintro e w4 ⟨rfl, hb4⟩
        have b4 := b3.trans (hb4.mono b3.size)
        go_wp2
        go_ret
        exact ⟨rfl, b4⟩
    · obtain ⟨hD, hen, hm⟩ := dir_files hI hl (by omega)
      obtain ⟨V, hV⟩ : ∃ V, V = Bm.cts l D := ⟨_, rfl⟩
      obtain ⟨dn, hdn⟩ : ∃ dn, D.length = dn := ⟨_, rfl⟩
      obtain ⟨vn, hvn⟩ : ∃ vn, V.length = vn := ⟨_, rfl⟩
      have hvd : vn ≤ dn := by rw [← hvn, ← hdn, hV]; exact Bm.cts_len l D
      obtain ⟨P, g, x, hS⟩ : ∃ P g x, Bm.scS l = (P, g, x) := ⟨_, _, _, rfl⟩
      have hP : P = Bm.pcs D V := by have := Bm.scS_pcs hI; rw [hS, ← hV] at this; exact this
      have hPl : P.length = vn := by rw [hP, Bm.pcs_len D V (by omega), hvn]
      have hsc := fun W (hW : Rb W W.heap.size A n c l) => scan_lit A n c l W hW (by omega) P vn g x hS hPl
      have hfn := fun (q : List UInt8) (x : List UInt8) (k : Nat) (hx : Bm.fnd l q = (x, k)) W (hW : Rb W W.heap.size A n c l) => find_c A n c l q W hW (by omega) x k hx
      have hfo := fun i f (hf : D[i]? = some f) => fnd_own hI hf
      rw [← hV] at hfo
      have hfc := fnd_cases l name D en hI
      rw [hI] at hnc
      rw [hdn] at hD
      have Hr := Lib.hid hr; have Hnc := Lib.hid hnc; have Hsc := Lib.hid hsc; have Hfn := Lib.hid hfn; have Hfo := Lib.hid hfo; have Hdn := Lib.hid hdn; have Hvn := Lib.hid hvn; have HP := Lib.hid hP; have Hfc := Lib.hid hfc; have Hm := Lib.hid hm
      clear hr hnc hsc hfn hfo hI hl hV hdn hvn hS hP hPl hfc hm
      go_enter Try.func5, Try.ntmps5
      go_wp2_with fail
      refine (Hsc.out w Hr.out).mono ?_
      rintro e w1 ⟨PA, pd, rfl, hP1, hb1⟩
      have z1 := hb1.size
      have Hr1 := Lib.hid ((Hr.out.below hb1).more z1)
      have HP1 := Lib.hid (show PL w1 w1.heap.size PA vn pd P from PLS.keep hP1 (stays_weak fr_lt))
      clear hP1
      go_wp2_with fail
      refine (Hnc.out w1 Hr1.out).mono ?_
      rintro e w2 ⟨hb2, NA, nd, ZA, zd, rfl, hN2, hZ2⟩
      rw [Hdn.out] at hN2 hZ2 ⊢
      have z2 := hb2.size
      have Hr2 := Lib.hid ((Hr1.out.below hb2).more z2)
      have HP2 := Lib.hid ((HP1.out.below hb2).more z2)
      have HN2 := Lib.hid hN2; have HZ2 := Lib.hid hZ2
      have b2 := hb1.trans (hb2.mono z1)
      have dvd : decide (dn < vn) = false := decide_eq_false (by omega)
      have dvd2 : ¬ dn < vn := by omega
      clear hN2 hZ2
      go_wp2
      go_loopw [11, 12] (fun o i wr => FiRel dn w2 D name o i wr) (fun _ i _ => dn - (intOf i).toNat)
      case atStart => exact ⟨0, rfl, rfl, Nat.zero_le _, Below.refl _ _⟩
      case round =>
        obtain ⟨j, rfl, rfl, hj, hbel⟩ := hrel
        have zr := hbel.size
        have bwr := b2.trans (hbel.mono b2.size)
        have Hrr := Lib.hid ((Hr2.out.below hbel).more zr)
        by_cases hlt : j < dn
        · have hjD : j < D.length := by have := Hdn.out; omega
          obtain ⟨f, hf⟩ : ∃ f, D[j]? = some f := ⟨D[j], List.getElem?_eq_getElem hjD⟩
          have hnf : (ns D)[j]? = some f.nm := by unfold ns; rw [List.getElem?_map, hf]; rfl
          obtain ⟨nb, no, rfl, hnb, hnc⟩ := (HN2.out.below hbel).str hlt f.nm hnf
          obtain ⟨ho1, ho2⟩ := Hfo.out j f hf
          obtain ⟨fn, hfn⟩ : ∃ x, x = f.nm := ⟨_, rfl⟩
          have hhs := hs_next name D j f hf
          rw [← hfn] at hnc ho1 ho2 hhs
          obtain ⟨e1, he1⟩ : ∃ e1, e1 = (fn == name) := ⟨_, rfl⟩
          obtain ⟨h0, hh0⟩ : ∃ h0, h0 = hs name (D.take j) := ⟨_, rfl⟩
          rw [← he1, ← hh0] at hhs
          rw [← hh0]
          have he1' := he1.symm
          clear hh0 he1
          by_cases hjv : j < vn
          · obtain ⟨x', hx'⟩ : ∃ x', V[j]? = some x' := by have := Hvn.out; exact ⟨V[j], List.getElem?_eq_getElem (by omega)⟩
            obtain ⟨hfx, hxs⟩ := ho1 x' hx'
            have hcf := Hfn.out fn x' 0 hfx wr Hrr.out
            obtain ⟨zb, zo, hZE, hzb, hzc⟩ := (HZ2.out.below hbel).num hlt f hf
            rw [← hxs] at hzc
            obtain ⟨pb, po, p, RD, rm, rd, hPE, hpb, hpc0, hpc, hpx, hpr⟩ := PLS.at_ (HP2.out.below hbel) hjv
            have hpp : P[j]? = some (f.at_, [[f.nm, x']]) := by rw [HP.out]; exact Bm.pcs_get D V j f x' hf hx'
            rw [hpp] at hpx
            injection hpx with hpx
            subst hpx
            rw [← hfn] at hpr
            obtain rfl : rm = 1 := hpr.len.symm
            subst hZE hPE
            have Hcf := Lib.hid hcf; have Hhs := Lib.hid hhs; have Hpr := Lib.hid hpr
            clear hfx hxs hcf ho1 ho2 hf hnf hfn hx' hhs hpr hpp hpc0
            go_wp2_with fail
            refine Hcf.out.mono ?_
            rintro e w5 ⟨rfl, hb5⟩
            have z5 := hb5.size
            have bw5 := bwr.trans (hb5.mono bwr.size)
            have hzd := (hb5.cell (p := ⟨zb, zo + j, none⟩) (by show zb < _; omega)).trans hzc
            have hpd := (hb5.cell (p := ⟨pb, po + j * 2 + 1, none⟩) (by show pb < _; omega)).trans hpc
            have hnd := (hb5.cell (p := ⟨nb, no + j, none⟩) (by show nb < _; omega)).trans hnc
            have hpr5 := (Hpr.out.keep (stays_below (hb5.mono (show w2.heap.size ≤ wr.heap.size from zr)) (Nat.le_refl _)))
            obtain ⟨W5, h5⟩ : ∃ W5, W5 = w5.alloc (.cells #[.string ⟨fn.toArray⟩, .string ⟨x'.toArray⟩] 9) := ⟨_, rfl⟩
            obtain ⟨W6, h6⟩ : ∃ W6, W6 = W5.alloc (.cells #[.slice (some ⟨w5.heap.size, 0, none⟩) 2 2] 33) := ⟨_, rfl⟩
            have hz5' : W5.heap.size = w5.heap.size + 1 := by rw [h5]; simp
            have hz6 : W6.heap.size = w5.heap.size + 2 := by rw [h6]; simp [hz5']
            have c5 : Below w5.heap.size w5 W5 := by rw [h5]; exact (Below.refl _ _).alloc (Nat.le_refl _) _
            have c6 : Below w5.heap.size W5 W6 := by rw [h6]; exact (Below.refl _ _).alloc (by omega) _
            have hb5d : Below w5.heap.size w5.drew (W5.drewN 1) := ⟨c5.os, c5.tape, c5.output, c5.size, c5.block⟩
            have hb6d : Below w5.heap.size (W5.drewN 1) (W6.drewN 1) := ⟨c6.os, c6.tape, c6.output, c6.size, c6.block⟩
            have o5 : Rc 1 W5 (w5.heap.size + 1) (some ⟨w5.heap.size, 0, none⟩) 2 2 (lvs [fn, x']) := by rw [h5]; exact Rc.lit (z := 1) w5 9 #[.string ⟨fn.toArray⟩, .string ⟨x'.toArray⟩] 2 rfl (by simp [maxLen])
            have o6 : Rc 1 W6 (W5.heap.size + 1) (some ⟨W5.heap.size, 0, none⟩) 1 1 [.slice (some ⟨w5.heap.size, 0, none⟩) 2 2] := by rw [h6]; exact Rc.lit (z := 1) W5 33 #[.slice (some ⟨w5.heap.size, 0, none⟩) 2 2] 1 rfl (by simp [maxLen])
            rw [hz5'] at o6
            have c56 : Below (w5.heap.size + 1) W5 W6 := by rw [h6]; exact (Below.refl _ _).alloc (by omega) _
            have hlitR : RL W6 W6.heap.size (some ⟨w5.heap.size + 1, 0, none⟩) 1 1 [[fn, x']] := ⟨_, o6.more (by omega), Rrs.snoc (Rrs.nil _ _) ⟨_, _, _, rfl, (o5.below c56).more (by omega)⟩⟩
            have hRR : RL W6 W6.heap.size RD 1 rd [[fn, x']] := (RL.below (show RL w5 w2.heap.size RD 1 rd [[fn, x']] from hpr5) ((c5.trans c6).mono (by omega))).more (by omega)
            have hrecs := recs_c RD (some ⟨w5.heap.size + 1, 0, none⟩) 1 rd 1 [[fn, x']] (W6.drewN 1) hRR hlitR (by omega) (by simp)
            have H5 := Lib.hid h5; have H6 := Lib.hid h6; have Hrecs := Lib.hid hrecs
            have hnbB : nb < w5.heap.size := by omega
            have hzbB : zb < w5.heap.size := by omega
            have hpbB : pb < w5.heap.size := by omega
            have dj1 : decide ((vn : Int) ≤ (j : Int)) = false := by simp; omega
            have hzd' : w5.drew.cell? ⟨zb, zo + j, none⟩ = some (.int .i64 (x'.length : Int)) := hzd
            have hpd' : w5.drew.cell? ⟨pb, po + j * 2 + 1, none⟩ = some (.slice RD 1 rd) := hpd
            have hnd' : w5.drew.cell? ⟨nb, no + j, none⟩ = some (.string ⟨fn.toArray⟩) := hnd
            clear h5 h6 hrecs hRR hlitR o5 o6 hpr5 hzc hpc hnc
            go_upto_region 12 with fail
            refine wp_region_schedG (w5.heap.size) [(false, 0), (false, 1), (false, 2), (false, 3), (false, 4), (false, 5), (false, 6), (false, 7), (false, 8), (false, 9), (false, 10), (false, 11), (false, 12), (false, 13), (false, 14), (false, 15), (false, 16), (false, 17), (false, 18), (false, 19), (false, 20), (false, 21), (false, 22), (false, 23), (false, 24), (false, 25), (false, 26), (true, 27), (true, 28), (true, 29), (false, 30), (false, 31), (false, 32), (false, 33), (false, 34), (false, 35), (false, 36), (false, 37), (false, 38), (false, 39), (false, 40), (false, 41), (false, 42)] (by kernel_rfl) (by kernel_rfl) (by kernel_rfl) (by kernel_rfl) (fun _ _ d _ _ h => by cases d <;> exact h) ?_
            refine wpG_read (o := { dst := some 69, op := Go.Op.move (Go.Operand.tmp 12), type := 3, pos := "law.go:113", after := #[], guard := none }) (v := ?_) rfl (by rfl) ?_ ?_
            rotate_left
            · intro w' hg; go_simp; try with_reducible rfl
            try simp only [Act.put, List.setIfInBounds_toArray, List.set_cons_zero, List.set_cons_succ]
            refine wpG_read (o := { dst := some 70, op := Go.Op.move (Go.Operand.tmp 5), type := 34, pos := "law.go:113", after := #[], guard := none }) (v := ?_) rfl (by rfl) ?_ ?_
            rotate_left
            · intro w' hg; go_simp; try with_reducible rfl
            try simp only [Act.put, List.setIfInBounds_toArray, List.set_cons_zero, List.set_cons_succ]
            refine wpG_read (o := { dst := some 71, op := Go.Op.call { callee := Go.Callee.builtin Go.Builtin.len, args := #[Go.Operand.tmp 70], argTypes := #[34] }, type := 3, pos := "law.go:113", after := #[{ on := 1, ground := Go.Ground.data }], guard := none }) (v := ?_) rfl (by rfl) ?_ ?_
            rotate_left
            · intro w' hg; go_simp; try with_reducible rfl
            try simp only [Act.put, List.setIfInBounds_toArray, List.set_cons_zero, List.set_cons_succ]
            refine wpG_read (o := { dst := some 72, op := Go.Op.binOp Go.BinOp.lss 3 (Go.Operand.tmp 69) (Go.Operand.tmp 71) 3, type := 4, pos := "law.go:113", after := #[{ on := 0, ground := Go.Ground.data }, { on := 2, ground := Go.Ground.data }], guard := none }) (v := ?_) rfl (by rfl) ?_ ?_
            rotate_left
            · intro w' hg; go_simp; try with_reducible rfl
            try simp only [Act.put, List.setIfInBounds_toArray, List.set_cons_zero, List.set_cons_succ]
            refine wpG_read (o := { dst := some 73, op := Go.Op.move (Go.Operand.tmp 72), type := 4, pos := "law.go:113", after := #[{ on := 3, ground := Go.Ground.data }], guard := none }) (v := ?_) rfl (by rfl) ?_ ?_
            rotate_left
            · intro w' hg; go_simp; try with_reducible rfl
            try simp only [Act.put, List.setIfInBounds_toArray, List.set_cons_zero, List.set_cons_succ]
            refine wpG_read (o := { dst := some 74, op := Go.Op.move (Go.Operand.tmp 14), type := 26, pos := "law.go:113", after := #[{ on := 4, ground := Go.Ground.guard }], guard := some (4, true) }) (v := ?_) rfl (by rfl) ?_ ?_
            rotate_left
            · intro w' hg; go_simp; try with_reducible rfl
            try simp only [Act.put, List.setIfInBounds_toArray, List.set_cons_zero, List.set_cons_succ]
            refine wpG_read (o := { dst := some 75, op := Go.Op.binOp Go.BinOp.neq 26 (Go.Operand.tmp 74) (Go.Operand.const (Go.Value.int Go.IntKind.i64 0)) 26, type := 4, pos := "law.go:113", after := #[{ on := 5, ground := Go.Ground.data }, { on := 4, ground := Go.Ground.guard }], guard := some (4, true) }) (v := ?_) rfl (by rfl) ?_ ?_
            rotate_left
            · intro w' hg; go_simp; try with_reducible rfl
            try simp only [Act.put, List.setIfInBounds_toArray, List.set_cons_zero, List.set_cons_succ]
            refine wpG_read (o := { dst := some 76, op := Go.Op.move (Go.Operand.tmp 75), type := 4, pos := "law.go:113", after := #[{ on := 6, ground := Go.Ground.data }, { on := 4, ground := Go.Ground.chain }, { on := 4, ground := Go.Ground.guard }], guard := some (4, true) }) (v := ?_) rfl (by rfl) ?_ ?_
            rotate_left
            · intro w' hg; go_simp; try with_reducible rfl
            try simp only [Act.put, List.setIfInBounds_toArray, List.set_cons_zero, List.set_cons_succ]
            refine wpG_read (o := { dst := some 77, op := Go.Op.move (Go.Operand.tmp 13), type := 9, pos := "law.go:113", after := #[{ on := 7, ground := Go.Ground.guard }], guard := some (7, false) }) (v := ?_) rfl (by rfl) ?_ ?_
            rotate_left
            · intro w' hg; go_simp; try with_reducible rfl
            try simp only [Act.put, List.setIfInBounds_toArray, List.set_cons_zero, List.set_cons_succ]
            refine wpG_read (o := { dst := some 78, op := Go.Op.call { callee := Go.Callee.builtin Go.Builtin.len, args := #[Go.Operand.tmp 77], argTypes := #[9] }, type := 3, pos := "law.go:113", after := #[{ on := 8, ground := Go.Ground.data }, { on := 7, ground := Go.Ground.guard }], guard := some (7, false) }) (v := ?_) rfl (by rfl) ?_ ?_
            rotate_left
            · intro w' hg; go_simp; try with_reducible rfl
            try simp only [Act.put, List.setIfInBounds_toArray, List.set_cons_zero, List.set_cons_succ]
            refine wpG_read (o := { dst := some 79, op := Go.Op.move (Go.Operand.tmp 9), type := 41, pos := "law.go:113", after := #[{ on := 7, ground := Go.Ground.guard }], guard := some (7, false) }) (v := ?_) rfl (by rfl) ?_ ?_
            rotate_left
            · intro w' hg; go_simp; try with_reducible rfl
            try simp only [Act.put, List.setIfInBounds_toArray, List.set_cons_zero, List.set_cons_succ]
            refine wpG_read (o := { dst := some 80, op := Go.Op.move (Go.Operand.tmp 12), type := 3, pos := "law.go:113", after := #[{ on := 7, ground := Go.Ground.guard }], guard := some (7, false) }) (v := ?_) rfl (by rfl) ?_ ?_
            rotate_left
            · intro w' hg; go_simp; try with_reducible rfl
            try simp only [Act.put, List.setIfInBounds_toArray, List.set_cons_zero, List.set_cons_succ]
            refine wpG_read (o := { dst := some 81, op := Go.Op.indexAddr 41 (Go.Operand.tmp 79) (Go.Operand.tmp 80), type := 0, pos := "law.go:113", after := #[{ on := 10, ground := Go.Ground.data }, { on := 11, ground := Go.Ground.data }, { on := 7, ground := Go.Ground.guard }], guard := some (7, false) }) (v := ?_) rfl (by rfl) ?_ ?_
            rotate_left
            · intro w' hg; go_simp; try with_reducible rfl
            try simp only [Act.put, List.setIfInBounds_toArray, List.set_cons_zero, List.set_cons_succ]
            refine wpG_read (o := { dst := some 82, op := Go.Op.load 3 (Go.Operand.tmp 81), type := 3, pos := "law.go:113", after := #[{ on := 12, ground := Go.Ground.data }, { on := 7, ground := Go.Ground.guard }], guard := some (7, false) }) (v := ?_) rfl (by rfl) ?_ ?_
            rotate_left
            · intro w' hg; have hcl := (hg.cell (p := ⟨zb, zo + j, none⟩) hzbB).trans hzd'; go_simp; try with_reducible rfl
            try simp only [Act.put, List.setIfInBounds_toArray, List.set_cons_zero, List.set_cons_succ]
            refine wpG_read (o := { dst := some 83, op := Go.Op.binOp Go.BinOp.neq 3 (Go.Operand.tmp 78) (Go.Operand.tmp 82) 3, type := 4, pos := "law.go:113", after := #[{ on := 9, ground := Go.Ground.data }, { on := 13, ground := Go.Ground.data }, { on := 7, ground := Go.Ground.guard }], guard := some (7, false) }) (v := ?_) rfl (by rfl) ?_ ?_
            rotate_left
            · intro w' hg; go_simp; try with_reducible rfl
            try simp only [Act.put, List.setIfInBounds_toArray, List.set_cons_zero, List.set_cons_succ]
            refine wpG_read (o := { dst := some 84, op := Go.Op.pick (Go.Operand.tmp 76) (Go.Operand.const (Go.Value.bool true)) (Go.Operand.tmp 83), type := 4, pos := "law.go:113", after := #[{ on := 7, ground := Go.Ground.data }, { on := 14, ground := Go.Ground.data }, { on := 4, ground := Go.Ground.guard }], guard := some (4, true) }) (v := ?_) rfl (by rfl) ?_ ?_
            rotate_left
            · intro w' hg; go_simp; try with_reducible rfl
            try simp only [Act.put, List.setIfInBounds_toArray, List.set_cons_zero, List.set_cons_succ]
            refine wpG_read (o := { dst := some 85, op := Go.Op.move (Go.Operand.tmp 84), type := 4, pos := "law.go:113", after := #[{ on := 15, ground := Go.Ground.data }, { on := 7, ground := Go.Ground.chain }, { on := 4, ground := Go.Ground.guard }], guard := some (4, true) }) (v := ?_) rfl (by rfl) ?_ ?_
            rotate_left
            · intro w' hg; go_simp; try with_reducible rfl
            try simp only [Act.put, List.setIfInBounds_toArray, List.set_cons_zero, List.set_cons_succ]
            refine wpG_read (o := { dst := some 86, op := Go.Op.move (Go.Operand.tmp 5), type := 34, pos := "law.go:113", after := #[{ on := 16, ground := Go.Ground.guard }], guard := some (16, false) }) (v := ?_) rfl (by rfl) ?_ ?_
            rotate_left
            · intro w' hg; go_simp; try with_reducible rfl
            try simp only [Act.put, List.setIfInBounds_toArray, List.set_cons_zero, List.set_cons_succ]
            refine wpG_read (o := { dst := some 87, op := Go.Op.move (Go.Operand.tmp 12), type := 3, pos := "law.go:113", after := #[{ on := 16, ground := Go.Ground.guard }], guard := some (16, false) }) (v := ?_) rfl (by rfl) ?_ ?_
            rotate_left
            · intro w' hg; go_simp; try with_reducible rfl
            try simp only [Act.put, List.setIfInBounds_toArray, List.set_cons_zero, List.set_cons_succ]
            refine wpG_read (o := { dst := some 88, op := Go.Op.indexAddr 34 (Go.Operand.tmp 86) (Go.Operand.tmp 87), type := 0, pos := "law.go:113", after := #[{ on := 17, ground := Go.Ground.data }, { on := 18, ground := Go.Ground.data }, { on := 16, ground := Go.Ground.guard }], guard := some (16, false) }) (v := ?_) rfl (by rfl) ?_ ?_
            rotate_left
            · intro w' hg; go_simp; try with_reducible rfl
            try simp only [Act.put, List.setIfInBounds_toArray, List.set_cons_zero, List.set_cons_succ]
            refine wpG_read (o := { dst := some 89, op := Go.Op.fieldAddr 45 (Go.Operand.tmp 88) 1, type := 0, pos := "law.go:113", after := #[{ on := 19, ground := Go.Ground.data }, { on := 16, ground := Go.Ground.guard }], guard := some (16, false) }) (v := ?_) rfl (by rfl) ?_ ?_
            rotate_left
            · intro w' hg; go_simp; try with_reducible rfl
            try simp only [Act.put, List.setIfInBounds_toArray, List.set_cons_zero, List.set_cons_succ]
            refine wpG_read (o := { dst := some 90, op := Go.Op.load 22 (Go.Operand.tmp 89), type := 22, pos := "law.go:113", after := #[{ on := 20, ground := Go.Ground.data }, { on := 16, ground := Go.Ground.guard }], guard := some (16, false) }) (v := ?_) rfl (by rfl) ?_ ?_
            rotate_left
            · intro w' hg; have hcl := (hg.cell (p := ⟨pb, po + j * 2 + 1, none⟩) hpbB).trans hpd'; go_simp; try with_reducible rfl
            try simp only [Act.put, List.setIfInBounds_toArray, List.set_cons_zero, List.set_cons_succ]
            refine wpG_read (o := { dst := some 91, op := Go.Op.move (Go.Operand.tmp 8), type := 32, pos := "law.go:113", after := #[{ on := 16, ground := Go.Ground.guard }], guard := some (16, false) }) (v := ?_) rfl (by rfl) ?_ ?_
            rotate_left
            · intro w' hg; go_simp; try with_reducible rfl
            try simp only [Act.put, List.setIfInBounds_toArray, List.set_cons_zero, List.set_cons_succ]
            refine wpG_read (o := { dst := some 92, op := Go.Op.move (Go.Operand.tmp 12), type := 3, pos := "law.go:113", after := #[{ on := 16, ground := Go.Ground.guard }], guard := some (16, false) }) (v := ?_) rfl (by rfl) ?_ ?_
            rotate_left
            · intro w' hg; go_simp; try with_reducible rfl
            try simp only [Act.put, List.setIfInBounds_toArray, List.set_cons_zero, List.set_cons_succ]
            refine wpG_read (o := { dst := some 93, op := Go.Op.indexAddr 32 (Go.Operand.tmp 91) (Go.Operand.tmp 92), type := 0, pos := "law.go:113", after := #[{ on := 22, ground := Go.Ground.data }, { on := 23, ground := Go.Ground.data }, { on := 16, ground := Go.Ground.guard }], guard := some (16, false) }) (v := ?_) rfl (by rfl) ?_ ?_
            rotate_left
            · intro w' hg; go_simp; try with_reducible rfl
            try simp only [Act.put, List.setIfInBounds_toArray, List.set_cons_zero, List.set_cons_succ]
            refine wpG_read (o := { dst := some 94, op := Go.Op.load 9 (Go.Operand.tmp 93), type := 9, pos := "law.go:113", after := #[{ on := 24, ground := Go.Ground.data }, { on := 16, ground := Go.Ground.guard }], guard := some (16, false) }) (v := ?_) rfl (by rfl) ?_ ?_
            rotate_left
            · intro w' hg; have hcl := (hg.cell (p := ⟨nb, no + j, none⟩) hnbB).trans hnd'; go_simp; try with_reducible rfl
            try simp only [Act.put, List.setIfInBounds_toArray, List.set_cons_zero, List.set_cons_succ]
            refine wpG_read (o := { dst := some 95, op := Go.Op.move (Go.Operand.tmp 13), type := 9, pos := "law.go:113", after := #[{ on := 16, ground := Go.Ground.guard }], guard := some (16, false) }) (v := ?_) rfl (by rfl) ?_ ?_
            rotate_left
            · intro w' hg; go_simp; try with_reducible rfl
            try simp only [Act.put, List.setIfInBounds_toArray, List.set_cons_zero, List.set_cons_succ]
            refine wpG_make (o := { dst := some 96, op := Go.Op.buildSlice 33 2 #[(0, Go.Operand.tmp 94), (1, Go.Operand.tmp 95)], type := 33, pos := "law.go:113", after := #[{ on := 25, ground := Go.Ground.data }, { on := 26, ground := Go.Ground.data }, { on := 16, ground := Go.Ground.guard }], guard := some (16, false) }) (v := .slice (some ⟨w5.heap.size, 0, none⟩) 2 2) (w1 := W5.drewN 1) rfl (by rfl) ?_ ?_ ?_
            · rw [H5.out]; go_simp; rfl
            · exact hb5d
            try simp only [Act.put, List.setIfInBounds_toArray, List.set_cons_zero, List.set_cons_succ]
            refine wpG_make (o := { dst := some 97, op := Go.Op.buildSlice 22 1 #[(0, Go.Operand.tmp 96)], type := 22, pos := "law.go:113", after := #[{ on := 27, ground := Go.Ground.data }, { on := 16, ground := Go.Ground.guard }], guard := some (16, false) }) (v := .slice (some ⟨w5.heap.size + 1, 0, none⟩) 1 1) (w1 := W6.drewN 1) rfl (by rfl) ?_ ?_ ?_
            · rw [H6.out]; go_simp; rfl
            · exact hb6d
            try simp only [Act.put, List.setIfInBounds_toArray, List.set_cons_zero, List.set_cons_succ]
            have hndv : (W6.drewN 1).cell? ⟨nb, no + j, none⟩ = some (.string ⟨fn.toArray⟩) := ((hb5d.trans hb6d).cell (p := ⟨nb, no + j, none⟩) hnbB).trans hnd'
            refine wpG_call (o := { dst := some 98, op := Go.Op.call { callee := Go.Callee.value (Go.Operand.func 13), args := #[Go.Operand.tmp 90, Go.Operand.tmp 97], argTypes := #[22, 22] }, type := 4, pos := "law.go:113", after := #[{ on := 21, ground := Go.Ground.data }, { on := 28, ground := Go.Ground.data }, { on := 16, ground := Go.Ground.chain }, { on := 16, ground := Go.Ground.guard }], guard := some (16, false) }) rfl (by rfl) (fun K hK => ?_)
            go_simp
            go_at_call 13
            with_reducible refine (Hrecs.out).mono ?_
            rintro e w9 ⟨rfl, qq, rfl⟩
            refine hK.out _ _ (below_drewN (Below.refl _ _) _) ?_
            clear hK K
            try simp only [Act.put, List.setIfInBounds_toArray, List.set_cons_zero, List.set_cons_succ]
            refine wpG_read (o := { dst := some 99, op := Go.Op.unOp Go.UnOp.not 4 (Go.Operand.tmp 98), type := 4, pos := "law.go:113", after := #[{ on := 29, ground := Go.Ground.data }, { on := 16, ground := Go.Ground.guard }], guard := some (16, false) }) (v := ?_) rfl (by rfl) ?_ ?_
            rotate_left
            · intro w' hg; go_simp; try with_reducible rfl
            try simp only [Act.put, List.setIfInBounds_toArray, List.set_cons_zero, List.set_cons_succ]
            refine wpG_read (o := { dst := some 100, op := Go.Op.pick (Go.Operand.tmp 85) (Go.Operand.const (Go.Value.bool true)) (Go.Operand.tmp 99), type := 4, pos := "law.go:113", after := #[{ on := 16, ground := Go.Ground.data }, { on := 30, ground := Go.Ground.data }, { on := 4, ground := Go.Ground.guard }], guard := some (4, true) }) (v := ?_) rfl (by rfl) ?_ ?_
            rotate_left
            · intro w' hg; go_simp; try with_reducible rfl
            try simp only [Act.put, List.setIfInBounds_toArray, List.set_cons_zero, List.set_cons_succ]
            refine wpG_read (o := { dst := some 101, op := Go.Op.pick (Go.Operand.tmp 73) (Go.Operand.tmp 100) (Go.Operand.const (Go.Value.bool false)), type := 4, pos := "law.go:113", after := #[{ on := 4, ground := Go.Ground.data }, { on := 31, ground := Go.Ground.data }], guard := none }) (v := ?_) rfl (by rfl) ?_ ?_
            rotate_left
            · intro w' hg; go_simp; try with_reducible rfl
            try simp only [Act.put, List.setIfInBounds_toArray, List.set_cons_zero, List.set_cons_succ]
            refine wpG_read (o := { dst := some 102, op := Go.Op.move (Go.Operand.tmp 101), type := 4, pos := "law.go:113", after := #[{ on := 32, ground := Go.Ground.data }, { on := 29, ground := Go.Ground.chain }], guard := none }) (v := ?_) rfl (by rfl) ?_ ?_
            rotate_left
            · intro w' hg; go_simp; try with_reducible rfl
            try simp only [Act.put, List.setIfInBounds_toArray, List.set_cons_zero, List.set_cons_succ]
            refine wpG_read (o := { dst := some 103, op := Go.Op.move (Go.Operand.tmp 12), type := 3, pos := "law.go:113", after := #[{ on := 33, ground := Go.Ground.guard }], guard := some (33, false) }) (v := ?_) rfl (by rfl) ?_ ?_
            rotate_left
            · intro w' hg; go_simp; try with_reducible rfl
            try simp only [Act.put, List.setIfInBounds_toArray, List.set_cons_zero, List.set_cons_succ]
            refine wpG_read (o := { dst := some 104, op := Go.Op.move (Go.Operand.tmp 5), type := 34, pos := "law.go:113", after := #[{ on := 33, ground := Go.Ground.guard }], guard := some (33, false) }) (v := ?_) rfl (by rfl) ?_ ?_
            rotate_left
            · intro w' hg; go_simp; try with_reducible rfl
            try simp only [Act.put, List.setIfInBounds_toArray, List.set_cons_zero, List.set_cons_succ]
            refine wpG_read (o := { dst := some 105, op := Go.Op.call { callee := Go.Callee.builtin Go.Builtin.len, args := #[Go.Operand.tmp 104], argTypes := #[34] }, type := 3, pos := "law.go:113", after := #[{ on := 35, ground := Go.Ground.data }, { on := 33, ground := Go.Ground.guard }], guard := some (33, false) }) (v := ?_) rfl (by rfl) ?_ ?_
            rotate_left
            · intro w' hg; go_simp; try with_reducible rfl
            try simp only [Act.put, List.setIfInBounds_toArray, List.set_cons_zero, List.set_cons_succ]
            refine wpG_read (o := { dst := some 106, op := Go.Op.binOp Go.BinOp.geq 3 (Go.Operand.tmp 103) (Go.Operand.tmp 105) 3, type := 4, pos := "law.go:113", after := #[{ on := 34, ground := Go.Ground.data }, { on := 36, ground := Go.Ground.data }, { on := 33, ground := Go.Ground.guard }], guard := some (33, false) }) (v := .bool false) rfl (by rfl) ?_ ?_
            · intro w' hg; go_simp
            try simp only [Act.put, List.setIfInBounds_toArray, List.set_cons_zero, List.set_cons_succ]
            refine wpG_read (o := { dst := some 107, op := Go.Op.move (Go.Operand.tmp 106), type := 4, pos := "law.go:113", after := #[{ on := 37, ground := Go.Ground.data }, { on := 33, ground := Go.Ground.chain }, { on := 33, ground := Go.Ground.guard }], guard := some (33, false) }) (v := ?_) rfl (by rfl) ?_ ?_
            rotate_left
            · intro w' hg; go_simp; try with_reducible rfl
            try simp only [Act.put, List.setIfInBounds_toArray, List.set_cons_zero, List.set_cons_succ]
            refine wpG_skip (o := { dst := some 108, op := Go.Op.move (Go.Operand.tmp 14), type := 26, pos := "law.go:113", after := #[{ on := 38, ground := Go.Ground.guard }], guard := some (38, true) }) rfl (by rfl) ?_
            try simp only [Act.put, List.setIfInBounds_toArray, List.set_cons_zero, List.set_cons_succ]
            refine wpG_skip (o := { dst := some 109, op := Go.Op.binOp Go.BinOp.neq 26 (Go.Operand.tmp 108) (Go.Operand.const (Go.Value.int Go.IntKind.i64 16)) 26, type := 4, pos := "law.go:113", after := #[{ on := 39, ground := Go.Ground.data }, { on := 38, ground := Go.Ground.guard }], guard := some (38, true) }) rfl (by rfl) ?_
            try simp only [Act.put, List.setIfInBounds_toArray, List.set_cons_zero, List.set_cons_succ]
            refine wpG_read (o := { dst := some 110, op := Go.Op.pick (Go.Operand.tmp 107) (Go.Operand.tmp 109) (Go.Operand.const (Go.Value.bool false)), type := 4, pos := "law.go:113", after := #[{ on := 38, ground := Go.Ground.data }, { on := 40, ground := Go.Ground.data }, { on := 33, ground := Go.Ground.guard }], guard := some (33, false) }) (v := ?_) rfl (by rfl) ?_ ?_
            rotate_left
            · intro w' hg; go_simp; try with_reducible rfl
            try simp only [Act.put, List.setIfInBounds_toArray, List.set_cons_zero, List.set_cons_succ]
            refine wpG_read (o := { dst := some 111, op := Go.Op.pick (Go.Operand.tmp 102) (Go.Operand.const (Go.Value.bool true)) (Go.Operand.tmp 110), type := 4, pos := "law.go:113", after := #[{ on := 33, ground := Go.Ground.data }, { on := 41, ground := Go.Ground.data }], guard := none }) (v := ?_) rfl (by rfl) ?_ ?_
            rotate_left
            · intro w' hg; go_simp; try with_reducible rfl
            try simp only [Act.put, List.setIfInBounds_toArray, List.set_cons_zero, List.set_cons_succ]
            refine wpG_done ?_
            have hnd9 : W6.cell? ⟨nb, no + j, none⟩ = some (.string ⟨fn.toArray⟩) := hndv
            have hjdn : (j : Int) < (dn : Int) := by omega
            have HB9 := Lib.hid (below_drewN ((hbel.trans (hb5.mono zr)).trans ((c5.trans c6).mono (show w2.heap.size ≤ w5.heap.size by omega))) (1 + qq))
            clear hzd hpd hnd hzd' hpd' hnd' hndv
            cases h0 with
            | true =>
              go_wp2
              go_roundw
              case rel => exact ⟨j + 1, by rw [Hhs.out]; rfl, by go_num, hlt, HB9.out⟩
              case measure => simp [intOf]; omega
            | false =>
              go_wp2
              go_roundw
              case rel => exact ⟨j + 1, by rw [Hhs.out]; rfl, by go_num, hlt, HB9.out⟩
              case measure => simp [intOf]; omega
          · have hcf := Hfn.out fn [] 16 (ho2 (by have := Hvn.out; omega)) wr Hrr.out
            have dj0 : decide (j < vn) = false := decide_eq_false hjv
            have hvj : vn ≤ j := by omega
            have Hcf := Lib.hid hcf; have Hhs := Lib.hid hhs
            clear hcf ho1 ho2 hf hnf hfn hhs
            go_wp2_with fail
            refine Hcf.out.mono ?_
            rintro e w5 ⟨rfl, hb5⟩
            have z5 := hb5.size
            have hnd := (hb5.cell (p := ⟨nb, no + j, none⟩) (by show nb < _; omega)).trans hnc
            have HB9 := Lib.hid (hbel.trans (hb5.mono zr))
            clear hnc
            go_wp2_with fail
            go_quiet (fail)
            cases h0 with
            | true =>
              go_wp2
              go_roundw
              case rel => exact ⟨j + 1, by rw [Hhs.out]; rfl, by go_num, hlt, below_drewN HB9.out _⟩
              case measure => simp [intOf]; omega
            | false =>
              go_wp2
              go_roundw
              case rel => exact ⟨j + 1, by rw [Hhs.out]; rfl, by go_num, hlt, below_drewN HB9.out _⟩
              case measure => simp [intOf]; omega
        · have htk : D.take j = D := List.take_of_length_le (by have := Hdn.out; omega)
          rw [htk]
          obtain ⟨h0, hh0⟩ : ∃ h0, h0 = hs name D := ⟨_, rfl⟩
          rw [← hh0]
          obtain ⟨q1, q2⟩ := hs_fi name D
          rw [← hh0] at q1 q2
          cases h0 with
          | true =>
            obtain ⟨i, hi⟩ := q1 rfl
            obtain ⟨y, k, hyk, hk6⟩ : ∃ y k, Bm.fnd l name = (y, k) ∧ k ≠ 6 := by
              rcases Hfc.out with ⟨h1, _⟩ | ⟨_, _, _, ⟨_, h1⟩ | ⟨y, _, h1⟩⟩
              · rw [hi] at h1; cases h1
              · exact ⟨_, _, h1, by omega⟩
              · exact ⟨_, _, h1, by omega⟩
            have hcf := Hfn.out name y k hyk wr Hrr.out
            have dk : ((k : Int) == 6) = false := by rw [beq_eq_false_iff_ne]; omega
            have Hcf := Lib.hid hcf
            clear hcf q1 q2 hh0 htk hi hyk hk6
            go_wp2_with fail
            refine Hcf.out.mono ?_
            rintro e w5 ⟨rfl, hb5⟩
            have b5 := bwr.trans (hb5.mono bwr.size)
            go_wp2_with fail
            refine (alive_c _).mono ?_
            rintro e w6 ⟨rfl, hb6⟩
            have b6 := b5.trans (hb6.mono b5.size)
            go_wp2
            go_ret
            exact ⟨rfl, b6⟩
          | false =>
            have hfi := q2 rfl
            have hyk : Bm.fnd l name = ([], 6) := by
              rcases Hfc.out with ⟨_, h1⟩ | ⟨i, _, h1, _⟩
              · exact h1
              · rw [hfi] at h1; cases h1
            have hcf := Hfn.out name [] 6 hyk wr Hrr.out
            have Hcf := Lib.hid hcf
            clear hcf q1 q2 hh0 htk hfi hyk
            go_wp2_with fail
            refine Hcf.out.mono ?_
            rintro e w5 ⟨rfl, hb5⟩
            have b5 := bwr.trans (hb5.mono bwr.size)
            go_wp2_with fail
            refine (alive_c _).mono ?_
            rintro e w6 ⟨rfl, hb6⟩
            have b6 := b5.trans (hb6.mono b5.size)
            go_wp2
            go_ret
            exact ⟨rfl, b6⟩
end Go.Proofs.Ytdhbfoelpdoofaa
