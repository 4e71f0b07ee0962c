/-
  The functions of package crc, and the document's answers, that sum and tell: what each call returns.
-/
import Derived.Test.YtcmagegcolcalabCw
namespace Go.Proofs.Ytcmagegcolcalab
open Go.RowKit

set_option maxRecDepth 100000 in
/-- crc.checksum -/
theorem checksum_c (A : Option Addr) (n c B : Nat) (t : List Nat) (D : Option Addr) (m d B2 : Nat) (l : List UInt8) (w : World) (ht : Rn w B A n c t) (hn : n = 256) (hl : Rb w B2 D m d l) (hm : m ≤ 1000000) :
    Calls Try.prog 22 #[.slice A n c, .slice D m d] w fun e w' => e = .returned (.int .u32 (Cm.sum t l : Nat)) ∧ w = w' := by
  have hlt := Cm.more_lt t ht.fits l 4294967295 (by omega)
  have Hlt := Lib.hid hlt; have Ht := Lib.hid ht; have Hl := Lib.hid hl; have Hn := Lib.hid hn; clear ht hl hn hlt
  obtain ⟨N, hN⟩ : ∃ N, N = Cm.more t 4294967295 l := ⟨_, rfl⟩
  go_enter Try.func22, Try.ntmps22
  go_wp2_with fail
  refine (updated_c A n c B t D m d B2 l 4294967295 _ Ht.out Hn.out Hl.out hm (by omega)).mono ?_
  rintro e w' ⟨rfl, rfl⟩
  rw [← hN] at Hlt ⊢
  have HN := Lib.hid hN; clear hN
  go_wp2
  go_ret
  refine ⟨ret_int ?_, rfl⟩
  unfold Cm.sum
  rw [← HN.out]
  exact xor32 (a := IntKind.u32.max) (b := (N : Int)) 4294967295 N rfl rfl (by omega) Hlt.out

set_option maxRecDepth 100000 in
/-- crc.sumByte -/
theorem sumByte_c (r i : Nat) (w : World) (hr : r < 4294967296) (hi : i < 4) :
    Calls Try.prog 23 #[.int .u32 (r : Int), .int .i64 (i : Int)] w fun e w' => e = .returned (.int .u8 ((Cm.byteAt r i).toNat : Int)) ∧ w = w' := by
  have hb := Cm.byteAt_nat r i
  obtain ⟨x, hx⟩ : ∃ x, x = (Cm.byteAt r i).toNat := ⟨_, rfl⟩
  rw [← hx] at hb ⊢
  have Hr := Lib.hid hr; have Hb := Lib.hid hb; clear hr hb hx
  match i, hi with
  | 0, _ =>
    go_enter Try.func23, Try.ntmps23
    go_wp2
    go_ret
    refine ⟨ret_int ?_, rfl⟩
    have h1 := Hb.out; have h2 := Hr.out
    simp only [Nat.pow_zero] at h1
    rw [h1]
    simp
  | 1, _ =>
    go_enter Try.func23, Try.ntmps23
    go_wp2
    go_ret
    refine ⟨ret_int ?_, rfl⟩
    have h1 := Hb.out; have h2 := Hr.out
    simp only [Nat.reducePow] at h1
    rw [h1]
    simp
  | 2, _ =>
    go_enter Try.func23, Try.ntmps23
    go_wp2
    go_ret
    refine ⟨ret_int ?_, rfl⟩
    have h1 := Hb.out; have h2 := Hr.out
    simp only [Nat.reducePow] at h1
    rw [h1]
    simp
  | 3, _ =>
    go_enter Try.func23, Try.ntmps23
    go_wp2
    go_ret
    refine ⟨ret_int ?_, rfl⟩
    have h1 := Hb.out; have h2 := Hr.out
    simp only [Nat.reducePow] at h1
    rw [h1]
    simp

/-- A number, and an error. -/
def numS (t : List Nat) (v : Nat) : Nat × Nat := if t.length = 256 then (v, 0) else (0, 1)
theorem numS_ok (t : List Nat) (v : Nat) (h : t.length = 256) : numS t v = (v, 0) := if_pos h
theorem numS_err (t : List Nat) (v : Nat) (h : t.length ≠ 256) : numS t v = (0, 1) := if_neg h
def retN (p : Nat × Nat) : Ending := .returned (.tuple #[.int .u32 (p.1 : Int), .int .i64 (p.2 : Int)])

set_option maxRecDepth 100000 in
/-- crc.More -/
theorem more_c (A : Option Addr) (n c B : Nat) (t : List Nat) (D : Option Addr) (m d B2 : Nat) (l : List UInt8) (r : Nat) (w : World) (ht : Rn w B A n c t) (hn : n ≤ 300) (hl : Rb w B2 D m d l) (hm : m ≤ 1000000) (hr : r < 4294967296) :
    Calls Try.prog 12 #[.slice A n c, .int .u32 (r : Int), .slice D m d] w fun e w' => e = retN (numS t (Cm.more t r l)) ∧ w = w' := by
  have hlen := ht.len
  by_cases h : n = 256
  · rw [numS_ok t _ (by omega)]
    have Ht := Lib.hid ht; have Hl := Lib.hid hl; have Hn := Lib.hid hn; have Hr := Lib.hid hr; clear ht hl hn hlen hr
    subst h
    go_enter Try.func12, Try.ntmps12
    go_wp2_with fail
    refine (updated_c A 256 c B t D m d B2 l r _ Ht.out rfl Hl.out hm Hr.out).mono ?_
    rintro e w' ⟨rfl, rfl⟩
    go_wp2
    go_ret2
    exact ⟨rfl, rfl⟩
  · rw [numS_err t _ (by omega)]
    have Ht := Lib.hid ht; have Hl := Lib.hid hl; have Hn := Lib.hid hn; have Hr := Lib.hid hr; clear ht hl hlen hr
    go_enter Try.func12, Try.ntmps12
    go_wp2
    go_ret2
    exact ⟨rfl, rfl⟩

set_option maxRecDepth 100000 in
/-- crc.Sum -/
theorem sum_c (A : Option Addr) (n c B : Nat) (t : List Nat) (D : Option Addr) (m d B2 : Nat) (l : List UInt8) (w : World) (ht : Rn w B A n c t) (hn : n ≤ 300) (hl : Rb w B2 D m d l) (hm : m ≤ 1000000) :
    Calls Try.prog 14 #[.slice A n c, .slice D m d] w fun e w' => e = retN (numS t (Cm.sum t l)) ∧ w = w' := by
  have hlen := ht.len
  by_cases h : n = 256
  · rw [numS_ok t _ (by omega)]
    have Ht := Lib.hid ht; have Hl := Lib.hid hl; have Hn := Lib.hid hn; clear ht hl hn hlen
    subst h
    go_enter Try.func14, Try.ntmps14
    go_wp2_with fail
    refine (checksum_c A 256 c B t D m d B2 l _ Ht.out rfl Hl.out hm).mono ?_
    rintro e w' ⟨rfl, rfl⟩
    go_wp2
    go_ret2
    exact ⟨rfl, rfl⟩
  · rw [numS_err t _ (by omega)]
    have Ht := Lib.hid ht; have Hl := Lib.hid hl; have Hn := Lib.hid hn; clear ht hl hlen
    go_enter Try.func14, Try.ntmps14
    go_wp2
    go_ret2
    exact ⟨rfl, rfl⟩

/-- A call hands back new numbers. -/
def RetTab (w : World) (e : Ending) (w' : World) : Prop :=
  e = .returned (.slice (some ⟨w.heap.size, 0, none⟩) 256 256) ∧ Rn w' w'.heap.size (some ⟨w.heap.size, 0, none⟩) 256 256 Cm.tab ∧ Below w.heap.size w w' ∧ w.heap.size < w'.heap.size

def TabRel (w : World) (i : Value) (wr : World) : Prop :=
  ∃ k : Nat, k ≤ 256 ∧ i = .int .i64 (k : Int) ∧ Tbl wr 25 w.heap.size 256 (Cm.tab.take k ++ List.replicate (256 - k) 0) ∧ Below w.heap.size w wr

theorem tab_next (k : Nat) (h : k < 256) : (Cm.tab.take k ++ List.replicate (256 - k) 0).set k (Cm.ent k) = Cm.tab.take (k + 1) ++ List.replicate (256 - (k + 1)) 0 := by
  have hl : (Cm.tab.take k).length = k := by rw [List.length_take, Cm.tab_len]; omega
  have ht : Cm.tab.take (k + 1) = Cm.tab.take k ++ [Cm.ent k] := by
    rw [List.take_add_one, Cm.tab_get k h]; rfl
  rw [List.set_append_right _ _ (by omega), hl, Nat.sub_self, show 256 - k = (256 - (k + 1)) + 1 by omega, List.replicate_succ, List.set_cons_zero, ht, List.append_assoc]
  rfl
theorem tab_some (k : Nat) (h : k < 256) : (Cm.tab.take k ++ List.replicate (256 - k) 0)[k]? = some 0 := by
  have hl : (Cm.tab.take k).length = k := by rw [List.length_take, Cm.tab_len]; omega
  rw [List.getElem?_append_right (by omega), hl, Nat.sub_self, show 256 - k = (256 - (k + 1)) + 1 by omega, List.replicate_succ]
  rfl

theorem tab_full {wr : World} {e : TypeId} {g : Nat} (h : Tbl wr e g 256 (Cm.tab.take 256 ++ List.replicate (256 - 256) 0)) : Tbl wr e g 256 Cm.tab := by
  rw [List.take_of_length_le (by rw [Cm.tab_len]; omega)] at h
  simpa using h

set_option maxRecDepth 100000 in
/-- crc.Table -/
theorem table_c (w : World) : Calls Try.prog 9 #[] w (RetTab w) := by
  have hmk := nty.make w 256 256 rfl (by omega)
  go_enter Try.func9, Try.ntmps9
  go_wp2
  go_loopw [6] (fun i wr => TabRel w i wr) (fun i _ => 256 - (intOf i).toNat)
  case atStart => exact ⟨0, by omega, rfl, Tbl.made w _ 256 (by omega), (Below.refl _ _).alloc (Nat.le_refl _) _⟩
  case round =>
    obtain ⟨k, hk, rfl, ht, hb⟩ := hrel
    clear hmk
    by_cases hlt : k < 256
    · have hcell := ht.cell k 0 (tab_some k hlt)
      have hfr := ht.frozen k
      have hu : IntKind.u32.wrap (k : Int) = (k : Int) := by rw [IntKind.wrap_u32']; omega
      have Ht := Lib.hid ht; clear ht
      go_wp2_with fail
      refine (entry_c k _ (by omega)).mono ?_
      rintro e w' ⟨rfl, rfl⟩
      go_wp2
      go_roundw
      case rel =>
        refine ⟨k + 1, by omega, by go_num, ?_, hb.setCell (Nat.le_refl _) _⟩
        rw [← tab_next k hlt]
        exact Ht.out.set k (Cm.ent k)
      case measure => simp [intOf]; omega
    · obtain rfl : k = 256 := by omega
      have h1 := tab_full ht
      have hlt := h1.lt
      have Ht := Lib.hid h1; clear ht h1
      go_wp2
      go_ret
      exact ⟨rfl, Ht.out.rn Cm.tab_lt (by omega), hb, hlt⟩

theorem all_take (t : List Nat) (k x : Nat) (hx : t[k]? = some x) : (t.take (k + 1) = Cm.tab.take (k + 1)) ↔ (t.take k = Cm.tab.take k ∧ Cm.tab[k]? = some x) := by
  have e1 : t.take (k + 1) = t.take k ++ [x] := by rw [List.take_add_one, hx]; rfl
  have hk : k < t.length := by
    rcases Nat.lt_or_ge k t.length with h' | h'
    · exact h'
    · rw [List.getElem?_eq_none h'] at hx; cases hx
  rw [e1]
  constructor
  · intro h
    have hlen := congrArg List.length h
    simp only [List.length_append, List.length_take, List.length_cons, List.length_nil] at hlen
    have hk2 : k < Cm.tab.length := by omega
    have e2 : Cm.tab.take (k + 1) = Cm.tab.take k ++ [Cm.tab[k]] := by rw [List.take_add_one, List.getElem?_eq_getElem hk2]; rfl
    rw [e2] at h
    have h1 := List.append_inj h (by simp; omega)
    refine ⟨h1.1, ?_⟩
    rw [List.getElem?_eq_getElem hk2]
    simpa using h1.2.symm
  · rintro ⟨h1, h2⟩
    rw [List.take_add_one, h2, h1]
    rfl

/-- Is it the table? -/
def rightB (t : List Nat) : Bool := decide (t = Cm.tab)

set_option maxRecDepth 100000 in
/-- crc.Right -/
theorem right_c (A : Option Addr) (n c B : Nat) (t : List Nat) (w : World) (ht : Rn w B A n c t) (hn : n ≤ 300) :
    Calls Try.prog 11 #[.slice A n c] w fun e w' => e = .returned (.bool (rightB t)) ∧ w = w' := by
  have hlen := ht.len
  by_cases h : n = 256
  · obtain ⟨R, hR⟩ : ∃ R, R = rightB t := ⟨_, rfl⟩
    rw [← hR]
    have Ht := Lib.hid ht; have HR := Lib.hid hR; have Hl := Lib.hid hlen; clear ht hR hlen
    subst h
    go_enter Try.func11, Try.ntmps11
    go_wp2
    go_loop [10] (fun i => ∃ k : Nat, k ≤ 256 ∧ i = .int .i64 (k : Int) ∧ Hid (t.take k = Cm.tab.take k)) (fun i => 256 - (intOf i).toNat)
    case atStart => exact ⟨0, by omega, rfl, Lib.hid rfl⟩
    case round =>
      obtain ⟨k, hk, rfl, H⟩ := hrel
      by_cases hlt : k < 256
      · obtain ⟨b, off, x, rfl, hb, hc, hx, hxl, hg⟩ := Ht.out.at_ hlt
        have hu : IntKind.u32.wrap (k : Int) = (k : Int) := by rw [IntKind.wrap_u32']; omega
        have ha := all_take t k x hx
        rw [Cm.tab_get k hlt] at ha
        have Ha := Lib.hid ha; have Hx := Lib.hid hx; clear ha hg hx
        have HE := Lib.hid (entry_c k w (by omega))
        obtain ⟨y, hy⟩ : ∃ y, y = Cm.ent k := ⟨_, rfl⟩
        rw [← hy] at HE Ha
        clear hy
        by_cases hxy : x = y
        · subst hxy
          go_wp2_with fail
          refine HE.out.mono ?_
          rintro e w' ⟨rfl, rfl⟩
          go_wp2
          go_round
          case rel => exact ⟨k + 1, by omega, by go_num, Lib.hid (Ha.out.2 ⟨H.out, by first | trivial | rfl⟩)⟩
          case measure => simp [intOf]; omega
        · have h1 : ((x : Int) == (y : Int)) = false := by simp; omega
          have h2 : ((x : Int) != (y : Int)) = true := by simp; omega
          go_wp2_with fail
          refine HE.out.mono ?_
          rintro e w' ⟨rfl, rfl⟩
          go_wp2
          go_ret
          have : R = false := by
            rw [HR.out]
            unfold rightB
            rw [decide_eq_false_iff_not]
            intro e
            have h3 := Ha.out.1 (by rw [e])
            exact hxy (by simpa using h3.2.symm)
          subst this
          exact ⟨rfl, rfl⟩
      · go_wp2
        go_ret
        obtain rfl : k = 256 := by omega
        have h1 := H.out
        rw [List.take_of_length_le (by rw [Hl.out]; omega), List.take_of_length_le (by rw [Cm.tab_len]; omega)] at h1
        have : R = true := by rw [HR.out]; unfold rightB; rw [decide_eq_true_iff]; exact h1
        subst this
        exact ⟨rfl, rfl⟩
  · have hf : rightB t = false := by
      unfold rightB
      rw [decide_eq_false_iff_not]
      intro e
      rw [e, Cm.tab_len] at hlen
      omega
    rw [hf]
    have Ht := Lib.hid ht; clear ht hf hlen
    go_enter Try.func11, Try.ntmps11
    go_wp2
    go_ret
    exact ⟨rfl, rfl⟩
end Go.Proofs.Ytcmagegcolcalab
