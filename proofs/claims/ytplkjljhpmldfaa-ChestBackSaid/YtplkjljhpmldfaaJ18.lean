/-
  Joined: Cw Cx.
-/
import Derived.Test.YtplkjljhpmldfaaJ6
import Derived.Test.YtplkjljhpmldfaaJ17
/-
  The functions of package crc that only compute: what each call returns.
-/
namespace Go.Proofs.Ytplkjljhpmldfaa
open Go.RowKit

theorem nty : N32 Try.prog 57 81 := ⟨Try.underlying57, Try.underlying81, by kernel_rfl⟩

set_option maxRecDepth 100000 in
/-- crc.entry -/
theorem entry_c (n : Nat) (w : World) (h : n < 4294967296) :
    Calls Try.prog 44 #[.int .u32 (n : Int)] w fun e w' => e = .returned (.int .u32 (Cm.ent n : Nat)) ∧ w = w' := by
  obtain ⟨N, hN⟩ : ∃ N, N = Cm.ent n := ⟨_, rfl⟩
  rw [← hN]
  have HN := Lib.hid hN; have Hn := Lib.hid h; clear hN h
  go_enter Try.func44, Try.ntmps44
  go_wp2
  go_loop [4, 0] (fun i t => ∃ k m : Nat, k ≤ 8 ∧ i = .int .i64 (k : Int) ∧ t = .int .u32 (m : Int) ∧ Hid (Cm.iter (8 - k) m = N ∧ m < 4294967296)) (fun i _ => 8 - (intOf i).toNat)
  case atStart => exact ⟨0, n, by omega, rfl, rfl, Lib.hid ⟨HN.out.symm, Hn.out⟩⟩
  case round =>
    obtain ⟨k, m, hk, rfl, rfl, H⟩ := hrel
    by_cases hlt : k < 8
    · have H2 : Cm.iter (8 - (k + 1)) (Cm.step m) = N := by
        have := H.out.1
        rw [show 8 - k = (8 - (k + 1)) + 1 by omega, Cm.iter_succ] at this
        exact this
      have H3 := Cm.step_lt m H.out.2
      have Hs := Lib.hid (And.intro H2 H3); clear H2 H3
      by_cases ho : m % 2 = 1
      · have hI : (m : Int) % 2 = 1 := by omega
        have Ho := Lib.hid ho; clear ho
        go_wp2
        go_round
        case rel =>
          refine ⟨k + 1, Cm.step m, by omega, by go_num, ?_, Hs⟩
          rw [Cm.step_odd m Ho.out, xor32 (a := (m : Int) / 2) (b := 3988292384) (m / 2) 3988292384 (by omega) rfl (by have := H.out.2; omega) (by omega)]
        case measure => simp [intOf]; omega
      · have hI : (m : Int) % 2 = 0 := by omega
        have Ho := Lib.hid ho; clear ho
        go_wp2
        go_round
        case rel =>
          refine ⟨k + 1, Cm.step m, by omega, by go_num, ?_, Hs⟩
          rw [Cm.step_even m (by have := Ho.out; omega)]
          go_num
        case measure => simp [intOf]; omega
    · go_wp2
      go_ret
      obtain rfl : k = 8 := by omega
      have h1 := H.out.1
      have h2 : m = N := h1
      subst h2
      exact ⟨rfl, rfl⟩

set_option maxRecDepth 100000 in
/-- the document's Entry -/
theorem rentry_c (n : Nat) (w : World) (h : n < 256) :
    Calls Try.prog 78 #[.int .i64 (n : Int)] w fun e w' => e = .returned (.int .u32 (Cm.ent n : Nat)) ∧ w = w' := by
  obtain ⟨N, hN⟩ : ∃ N, N = Cm.ent n := ⟨_, rfl⟩
  rw [← hN]
  have HN := Lib.hid hN; clear hN
  have hwr : IntKind.u32.wrap (n : Int) = (n : Int) := by rw [IntKind.wrap_u32']; omega
  go_enter Try.func78, Try.ntmps78
  go_wp2
  go_loop [4, 3] (fun i t => ∃ k m : Nat, k ≤ 8 ∧ i = .int .i64 (k : Int) ∧ t = .int .u32 (m : Int) ∧ Hid (Cm.iter (8 - k) m = N ∧ m < 4294967296)) (fun i _ => 8 - (intOf i).toNat)
  case atStart => exact ⟨0, n, by omega, rfl, rfl, Lib.hid ⟨HN.out.symm, by omega⟩⟩
  case round =>
    obtain ⟨k, m, hk, rfl, rfl, H⟩ := hrel
    clear hwr
    by_cases hlt : k < 8
    · have H2 : Cm.iter (8 - (k + 1)) (Cm.step m) = N := by
        have := H.out.1
        rw [show 8 - k = (8 - (k + 1)) + 1 by omega, Cm.iter_succ] at this
        exact this
      have H3 := Cm.step_lt m H.out.2
      have Hs := Lib.hid (And.intro H2 H3); clear H2 H3
      by_cases ho : m % 2 = 1
      · have hI : (m : Int) % 2 = 1 := by omega
        have Ho := Lib.hid ho; clear ho
        go_wp2
        go_round
        case rel =>
          refine ⟨k + 1, Cm.step m, by omega, by go_num, ?_, Hs⟩
          rw [Cm.step_odd m Ho.out, xor32 (a := (m : Int) / 2 % 4294967296) (b := 3988292384) (m / 2) 3988292384 (by have := H.out.2; omega) rfl (by have := H.out.2; omega) (by omega)]
        case measure => simp [intOf]; omega
      · have hI : (m : Int) % 2 = 0 := by omega
        have Ho := Lib.hid ho; clear ho
        go_wp2
        go_round
        case rel =>
          refine ⟨k + 1, Cm.step m, by omega, by go_num, ?_, Hs⟩
          rw [Cm.step_even m (by have := Ho.out; omega), show (m : Int) / 2 % 4294967296 = ((m / 2 : Nat) : Int) by have := H.out.2; omega]
        case measure => simp [intOf]; omega
    · go_wp2
      go_ret
      obtain rfl : k = 8 := by omega
      have h1 := H.out.1
      have h2 : m = N := h1
      subst h2
      exact ⟨rfl, rfl⟩

set_option maxRecDepth 100000 in
/-- crc.updated -/
theorem updated_c (A : Option Addr) (n c B : Nat) (t : List Nat) (D : Option Addr) (m d B2 : Nat) (l : List UInt8) (r : Nat) (w : World) (ht : Rn w B A n c t) (hn : n = 256) (hl : Rb w B2 D m d l) (hm : m ≤ 1000000) (hr : r < 4294967296) :
    Calls Try.prog 90 #[.slice A n c, .int .u32 (r : Int), .slice D m d] w fun e w' => e = .returned (.int .u32 (Cm.more t r l : Nat)) ∧ w = w' := by
  subst hn
  obtain ⟨N, hN⟩ : ∃ N, N = Cm.more t r l := ⟨_, rfl⟩
  rw [← hN]
  have HN := Lib.hid hN; have Hr := Lib.hid hr; have Ht := Lib.hid ht; have Hl := Lib.hid hl; clear hN hr ht hl
  go_enter Try.func90, Try.ntmps90
  go_wp2
  go_loop [11, 1] (fun i t' => ∃ k q : Nat, k ≤ m ∧ i = .int .i64 (k : Int) ∧ t' = .int .u32 (q : Int) ∧ Hid (Cm.more t q (l.drop k) = N ∧ q < 4294967296)) (fun i _ => m - (intOf i).toNat)
  case atStart => exact ⟨0, r, by omega, rfl, rfl, Lib.hid ⟨HN.out.symm, Hr.out⟩⟩
  case round =>
    obtain ⟨k, q, hk, rfl, rfl, H⟩ := hrel
    by_cases hlt : k < m
    · obtain ⟨b, off, x, rfl, hb, hc, hx, hd⟩ := Hl.out.at_ hlt
      have hix := Cm.idx_lt q x
      have hxl := x.toNat_lt
      have e1 : bits .xor .u8 ((q : Int) % 256) (x.toNat : Int) = ((q % 256 ^^^ x.toNat : Nat) : Int) := xor8 _ _ (by omega) rfl (by omega) (by omega)
      obtain ⟨j, hj⟩ : ∃ j, j = q % 256 ^^^ x.toNat := ⟨_, rfl⟩
      rw [← hj] at hix e1
      obtain ⟨b', off', y, rfl, hb', hc', hy, hyl, hg⟩ := Ht.out.at_ hix
      have Hd := Lib.hid hd; have Hx := Lib.hid hx; have Hy := Lib.hid hy; have Hg := Lib.hid hg; have Hj := Lib.hid hj; clear hd hx hy hg hj
      go_wp2
      go_round
      case rel =>
        refine ⟨k + 1, Cm.upd t q x, by omega, by go_num, ?_, Lib.hid ⟨?_, Cm.upd_lt t Ht.out.fits q H.out.2 x⟩⟩
        · unfold Cm.upd
          rw [← Hj.out, Hg.out, xor32 (a := (y : Int)) (b := (q : Int) / 256) y (q / 256) rfl (by omega) hyl (by have := H.out.2; omega)]
        · have := H.out.1
          rw [Hd.out, Cm.more_cons] at this
          exact this
      case measure => simp [intOf]; omega
    · go_wp2
      go_ret
      obtain rfl : k = m := by omega
      have h1 := H.out.1
      rw [List.drop_of_length_le (by rw [Hl.out.len]; omega)] at h1
      have h2 : q = N := h1
      subst h2
      exact ⟨rfl, rfl⟩
end Go.Proofs.Ytplkjljhpmldfaa

/-
  The functions of package crc, and the document's answers, that sum and tell: what each call returns.
-/
namespace Go.Proofs.Ytplkjljhpmldfaa
open Go.RowKit

set_option maxRecDepth 100000 in
/-- crc.checksum -/
theorem checksum_c (A : Option Addr) (n c B : Nat) (t : List Nat) (D : Option Addr) (m d B2 : Nat) (l : List UInt8) (w : World) (ht : Rn w B A n c t) (hn : n = 256) (hl : Rb w B2 D m d l) (hm : m ≤ 1000000) :
    Calls Try.prog 72 #[.slice A n c, .slice D m d] w fun e w' => e = .returned (.int .u32 (Cm.sum t l : Nat)) ∧ w = w' := by
  have hlt := Cm.more_lt t ht.fits l 4294967295 (by omega)
  have Hlt := Lib.hid hlt; have Ht := Lib.hid ht; have Hl := Lib.hid hl; have Hn := Lib.hid hn; clear ht hl hn hlt
  obtain ⟨N, hN⟩ : ∃ N, N = Cm.more t 4294967295 l := ⟨_, rfl⟩
  go_enter Try.func72, Try.ntmps72
  go_wp2_with fail
  refine (updated_c A n c B t D m d B2 l 4294967295 _ Ht.out Hn.out Hl.out hm (by omega)).mono ?_
  rintro e w' ⟨rfl, rfl⟩
  rw [← hN] at Hlt ⊢
  have HN := Lib.hid hN; clear hN
  go_wp2
  go_ret
  refine ⟨ret_int ?_, rfl⟩
  unfold Cm.sum
  rw [← HN.out]
  exact xor32 (a := IntKind.u32.max) (b := (N : Int)) 4294967295 N rfl rfl (by omega) Hlt.out

set_option maxRecDepth 100000 in
/-- crc.sumByte -/
theorem sumByte_c (r i : Nat) (w : World) (hr : r < 4294967296) (hi : i < 4) :
    Calls Try.prog 73 #[.int .u32 (r : Int), .int .i64 (i : Int)] w fun e w' => e = .returned (.int .u8 ((Cm.byteAt r i).toNat : Int)) ∧ w = w' := by
  have hb := Cm.byteAt_nat r i
  obtain ⟨x, hx⟩ : ∃ x, x = (Cm.byteAt r i).toNat := ⟨_, rfl⟩
  rw [← hx] at hb ⊢
  have Hr := Lib.hid hr; have Hb := Lib.hid hb; clear hr hb hx
  match i, hi with
  | 0, _ =>
    go_enter Try.func73, Try.ntmps73
    go_wp2
    go_ret
    refine ⟨ret_int ?_, rfl⟩
    have h1 := Hb.out; have h2 := Hr.out
    simp only [Nat.pow_zero] at h1
    rw [h1]
    simp
  | 1, _ =>
    go_enter Try.func73, Try.ntmps73
    go_wp2
    go_ret
    refine ⟨ret_int ?_, rfl⟩
    have h1 := Hb.out; have h2 := Hr.out
    simp only [Nat.reducePow] at h1
    rw [h1]
    simp
  | 2, _ =>
    go_enter Try.func73, Try.ntmps73
    go_wp2
    go_ret
    refine ⟨ret_int ?_, rfl⟩
    have h1 := Hb.out; have h2 := Hr.out
    simp only [Nat.reducePow] at h1
    rw [h1]
    simp
  | 3, _ =>
    go_enter Try.func73, Try.ntmps73
    go_wp2
    go_ret
    refine ⟨ret_int ?_, rfl⟩
    have h1 := Hb.out; have h2 := Hr.out
    simp only [Nat.reducePow] at h1
    rw [h1]
    simp

/-- A call hands back new numbers. -/
def RetTab (w : World) (e : Ending) (w' : World) : Prop :=
  e = .returned (.slice (some ⟨w.heap.size, 0, none⟩) 256 256) ∧ Rn w' w'.heap.size (some ⟨w.heap.size, 0, none⟩) 256 256 Cm.tab ∧ Below w.heap.size w w' ∧ w.heap.size < w'.heap.size

def TabRel (w : World) (i : Value) (wr : World) : Prop :=
  ∃ k : Nat, k ≤ 256 ∧ i = .int .i64 (k : Int) ∧ Tbl wr 81 w.heap.size 256 (Cm.tab.take k ++ List.replicate (256 - k) 0) ∧ Below w.heap.size w wr

theorem tab_next (k : Nat) (h : k < 256) : (Cm.tab.take k ++ List.replicate (256 - k) 0).set k (Cm.ent k) = Cm.tab.take (k + 1) ++ List.replicate (256 - (k + 1)) 0 := by
  have hl : (Cm.tab.take k).length = k := by rw [List.length_take, Cm.tab_len]; omega
  have ht : Cm.tab.take (k + 1) = Cm.tab.take k ++ [Cm.ent k] := by
    rw [List.take_add_one, Cm.tab_get k h]; rfl
  rw [List.set_append_right _ _ (by omega), hl, Nat.sub_self, show 256 - k = (256 - (k + 1)) + 1 by omega, List.replicate_succ, List.set_cons_zero, ht, List.append_assoc]
  rfl
theorem tab_some (k : Nat) (h : k < 256) : (Cm.tab.take k ++ List.replicate (256 - k) 0)[k]? = some 0 := by
  have hl : (Cm.tab.take k).length = k := by rw [List.length_take, Cm.tab_len]; omega
  rw [List.getElem?_append_right (by omega), hl, Nat.sub_self, show 256 - k = (256 - (k + 1)) + 1 by omega, List.replicate_succ]
  rfl

theorem tab_full {wr : World} {e : TypeId} {g : Nat} (h : Tbl wr e g 256 (Cm.tab.take 256 ++ List.replicate (256 - 256) 0)) : Tbl wr e g 256 Cm.tab := by
  rw [List.take_of_length_le (by rw [Cm.tab_len]; omega)] at h
  simpa using h

set_option maxRecDepth 100000 in
/-- crc.Table -/
theorem table_c (w : World) : Calls Try.prog 26 #[] w (RetTab w) := by
  have hmk := nty.make w 256 256 rfl (by omega)
  go_enter Try.func26, Try.ntmps26
  go_wp2
  go_loopw [6] (fun i wr => TabRel w i wr) (fun i _ => 256 - (intOf i).toNat)
  case atStart => exact ⟨0, by omega, rfl, Tbl.made w _ 256 (by omega), (Below.refl _ _).alloc (Nat.le_refl _) _⟩
  case round =>
    obtain ⟨k, hk, rfl, ht, hb⟩ := hrel
    clear hmk
    by_cases hlt : k < 256
    · have hcell := ht.cell k 0 (tab_some k hlt)
      have hfr := ht.frozen k
      have hu : IntKind.u32.wrap (k : Int) = (k : Int) := by rw [IntKind.wrap_u32']; omega
      have Ht := Lib.hid ht; clear ht
      go_wp2_with fail
      refine (entry_c k _ (by omega)).mono ?_
      rintro e w' ⟨rfl, rfl⟩
      go_wp2
      go_roundw
      case rel =>
        refine ⟨k + 1, by omega, by go_num, ?_, hb.setCell (Nat.le_refl _) _⟩
        rw [← tab_next k hlt]
        exact Ht.out.set k (Cm.ent k)
      case measure => simp [intOf]; omega
    · obtain rfl : k = 256 := by omega
      have h1 := tab_full ht
      have hlt := h1.lt
      have Ht := Lib.hid h1; clear ht h1
      go_wp2
      go_ret
      exact ⟨rfl, Ht.out.rn Cm.tab_lt (by omega), hb, hlt⟩
end Go.Proofs.Ytplkjljhpmldfaa
