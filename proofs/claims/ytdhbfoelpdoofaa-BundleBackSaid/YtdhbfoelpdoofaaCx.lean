/-
  The functions of package crc, and the document's answers, that sum and tell: what each call returns.
-/
import Derived.Test.YtdhbfoelpdoofaaCw
namespace Go.Proofs.Ytdhbfoelpdoofaa
open Go.RowKit

set_option maxRecDepth 100000 in
/-- crc.checksum -/
theorem checksum_c (A : Option Addr) (n c B : Nat) (t : List Nat) (D : Option Addr) (m d B2 : Nat) (l : List UInt8) (w : World) (ht : Rn w B A n c t) (hn : n = 256) (hl : Rb w B2 D m d l) (hm : m ≤ 1000000) :
    Calls Try.prog 31 #[.slice A n c, .slice D m d] w fun e w' => e = .returned (.int .u32 (Cm.sum t l : Nat)) ∧ w = w' := by
  have hlt := Cm.more_lt t ht.fits l 4294967295 (by omega)
  have Hlt := Lib.hid hlt; have Ht := Lib.hid ht; have Hl := Lib.hid hl; have Hn := Lib.hid hn; clear ht hl hn hlt
  obtain ⟨N, hN⟩ : ∃ N, N = Cm.more t 4294967295 l := ⟨_, rfl⟩
  go_enter Try.func31, Try.ntmps31
  go_wp2_with fail
  refine (updated_c A n c B t D m d B2 l 4294967295 _ Ht.out Hn.out Hl.out hm (by omega)).mono ?_
  rintro e w' ⟨rfl, rfl⟩
  rw [← hN] at Hlt ⊢
  have HN := Lib.hid hN; clear hN
  go_wp2
  go_ret
  refine ⟨ret_int ?_, rfl⟩
  unfold Cm.sum
  rw [← HN.out]
  exact xor32 (a := IntKind.u32.max) (b := (N : Int)) 4294967295 N rfl rfl (by omega) Hlt.out

set_option maxRecDepth 100000 in
/-- crc.sumByte -/
theorem sumByte_c (r i : Nat) (w : World) (hr : r < 4294967296) (hi : i < 4) :
    Calls Try.prog 32 #[.int .u32 (r : Int), .int .i64 (i : Int)] w fun e w' => e = .returned (.int .u8 ((Cm.byteAt r i).toNat : Int)) ∧ w = w' := by
  have hb := Cm.byteAt_nat r i
  obtain ⟨x, hx⟩ : ∃ x, x = (Cm.byteAt r i).toNat := ⟨_, rfl⟩
  rw [← hx] at hb ⊢
  have Hr := Lib.hid hr; have Hb := Lib.hid hb; clear hr hb hx
  match i, hi with
  | 0, _ =>
    go_enter Try.func32, Try.ntmps32
    go_wp2
    go_ret
    refine ⟨ret_int ?_, rfl⟩
    have h1 := Hb.out; have h2 := Hr.out
    simp only [Nat.pow_zero] at h1
    rw [h1]
    simp
  | 1, _ =>
    go_enter Try.func32, Try.ntmps32
    go_wp2
    go_ret
    refine ⟨ret_int ?_, rfl⟩
    have h1 := Hb.out; have h2 := Hr.out
    simp only [Nat.reducePow] at h1
    rw [h1]
    simp
  | 2, _ =>
    go_enter Try.func32, Try.ntmps32
    go_wp2
    go_ret
    refine ⟨ret_int ?_, rfl⟩
    have h1 := Hb.out; have h2 := Hr.out
    simp only [Nat.reducePow] at h1
    rw [h1]
    simp
  | 3, _ =>
    go_enter Try.func32, Try.ntmps32
    go_wp2
    go_ret
    refine ⟨ret_int ?_, rfl⟩
    have h1 := Hb.out; have h2 := Hr.out
    simp only [Nat.reducePow] at h1
    rw [h1]
    simp

/-- A call hands back new numbers. -/
def RetTab (w : World) (e : Ending) (w' : World) : Prop :=
  e = .returned (.slice (some ⟨w.heap.size, 0, none⟩) 256 256) ∧ Rn w' w'.heap.size (some ⟨w.heap.size, 0, none⟩) 256 256 Cm.tab ∧ Below w.heap.size w w' ∧ w.heap.size < w'.heap.size

def TabRel (w : World) (i : Value) (wr : World) : Prop :=
  ∃ k : Nat, k ≤ 256 ∧ i = .int .i64 (k : Int) ∧ Tbl wr 67 w.heap.size 256 (Cm.tab.take k ++ List.replicate (256 - k) 0) ∧ Below w.heap.size w wr

theorem tab_next (k : Nat) (h : k < 256) : (Cm.tab.take k ++ List.replicate (256 - k) 0).set k (Cm.ent k) = Cm.tab.take (k + 1) ++ List.replicate (256 - (k + 1)) 0 := by
  have hl : (Cm.tab.take k).length = k := by rw [List.length_take, Cm.tab_len]; omega
  have ht : Cm.tab.take (k + 1) = Cm.tab.take k ++ [Cm.ent k] := by
    rw [List.take_add_one, Cm.tab_get k h]; rfl
  rw [List.set_append_right _ _ (by omega), hl, Nat.sub_self, show 256 - k = (256 - (k + 1)) + 1 by omega, List.replicate_succ, List.set_cons_zero, ht, List.append_assoc]
  rfl
theorem tab_some (k : Nat) (h : k < 256) : (Cm.tab.take k ++ List.replicate (256 - k) 0)[k]? = some 0 := by
  have hl : (Cm.tab.take k).length = k := by rw [List.length_take, Cm.tab_len]; omega
  rw [List.getElem?_append_right (by omega), hl, Nat.sub_self, show 256 - k = (256 - (k + 1)) + 1 by omega, List.replicate_succ]
  rfl

theorem tab_full {wr : World} {e : TypeId} {g : Nat} (h : Tbl wr e g 256 (Cm.tab.take 256 ++ List.replicate (256 - 256) 0)) : Tbl wr e g 256 Cm.tab := by
  rw [List.take_of_length_le (by rw [Cm.tab_len]; omega)] at h
  simpa using h

set_option maxRecDepth 100000 in
/-- crc.Table -/
theorem table_c (w : World) : Calls Try.prog 17 #[] w (RetTab w) := by
  have hmk := nty.make w 256 256 rfl (by omega)
  go_enter Try.func17, Try.ntmps17
  go_wp2
  go_loopw [6] (fun i wr => TabRel w i wr) (fun i _ => 256 - (intOf i).toNat)
  case atStart => exact ⟨0, by omega, rfl, Tbl.made w _ 256 (by omega), (Below.refl _ _).alloc (Nat.le_refl _) _⟩
  case round =>
    obtain ⟨k, hk, rfl, ht, hb⟩ := hrel
    clear hmk
    by_cases hlt : k < 256
    · have hcell := ht.cell k 0 (tab_some k hlt)
      have hfr := ht.frozen k
      have hu : IntKind.u32.wrap (k : Int) = (k : Int) := by rw [IntKind.wrap_u32']; omega
      have Ht := Lib.hid ht; clear ht
      go_wp2_with fail
      refine (entry_c k _ (by omega)).mono ?_
      rintro e w' ⟨rfl, rfl⟩
      go_wp2
      go_roundw
      case rel =>
        refine ⟨k + 1, by omega, by go_num, ?_, hb.setCell (Nat.le_refl _) _⟩
        rw [← tab_next k hlt]
        exact Ht.out.set k (Cm.ent k)
      case measure => simp [intOf]; omega
    · obtain rfl : k = 256 := by omega
      have h1 := tab_full ht
      have hlt := h1.lt
      have Ht := Lib.hid h1; clear ht h1
      go_wp2
      go_ret
      exact ⟨rfl, Ht.out.rn Cm.tab_lt (by omega), hb, hlt⟩
end Go.Proofs.Ytdhbfoelpdoofaa
