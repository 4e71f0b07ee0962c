/-
  crc.Seal and crc.Open: what each call returns and leaves.
-/
import Derived.Test.YtdhbfoelpdoofaaCx
import Derived.Test.YtdhbfoelpdoofaaBy
import Derived.Deep.QuietTactic
import Derived.BigQuiet
import Derived.IntWalk
namespace Go.Proofs.Ytdhbfoelpdoofaa
open Go.RowKit

/-- New bytes, and an error. -/
def RetE (base : Nat) (w : World) (p : List UInt8 × Nat) (e : Ending) (w' : World) : Prop :=
  ∃ A c, e = .returned (.tuple #[.slice A p.1.length c, .int .i64 (p.2 : Int)]) ∧ Own w' 5 base A c p.1 ∧ Below base w w'
theorem ret2_len {v : Value} {A : Option Addr} {c n m : Nat} (h : n = m) : Ending.returned (.tuple #[.slice A n c, v]) = .returned (.tuple #[.slice A m c, v]) := by rw [h]

theorem sealS_ok (t : List Nat) (l : List UInt8) (h : t.length = 256) : Cm.sealS t l = (l ++ Cm.four (Cm.sum t l), 0) := if_pos h
theorem sealS_err (t : List Nat) (l : List UInt8) (h : t.length ≠ 256) : Cm.sealS t l = ([], 1) := if_neg h

def SealRel (w : World) (c : Nat) (l f : List UInt8) (i : Value) (wr : World) : Prop :=
  ∃ k : Nat, k ≤ 4 ∧ i = .int .i64 (k : Int) ∧ Own wr 5 w.heap.size (some ⟨w.heap.size, 0, none⟩) c (l ++ (f.take k ++ List.replicate (4 - k) 0)) ∧ Below w.heap.size w wr

theorem seal_next (l f : List UInt8) (hf : f.length = 4) (k : Nat) (h : k < 4) (x : UInt8) (hx : f[k]? = some x) : (l ++ (f.take k ++ List.replicate (4 - k) 0)).set (l.length + k) x = l ++ (f.take (k + 1) ++ List.replicate (4 - (k + 1)) 0) := by
  have hl : (f.take k).length = k := by rw [List.length_take]; omega
  rw [List.set_append_right _ _ (by omega), Nat.add_sub_cancel_left, List.set_append_right _ _ (by omega), hl, Nat.sub_self, show 4 - k = (4 - (k + 1)) + 1 by omega, List.replicate_succ, List.set_cons_zero, List.take_add_one, hx, List.append_assoc (f.take k)]
  rfl
theorem seal_some (l f : List UInt8) (hf : f.length = 4) (k : Nat) (h : k < 4) : (l ++ (f.take k ++ List.replicate (4 - k) 0))[l.length + k]? = some 0 := by
  have hl : (f.take k).length = k := by rw [List.length_take]; omega
  rw [List.getElem?_append_right (by omega), Nat.add_sub_cancel_left, List.getElem?_append_right (by omega), hl, Nat.sub_self, show 4 - k = (4 - (k + 1)) + 1 by omega, List.replicate_succ]
  rfl

set_option maxRecDepth 100000 in
/-- crc.Seal -/
theorem seal_c (A : Option Addr) (n c : Nat) (t : List Nat) (D : Option Addr) (m d : Nat) (l : List UInt8) (w : World) (ht : Rn w w.heap.size A n c t) (hn : n ≤ 300) (hl : Rb w w.heap.size D m d l) (hm : m ≤ 900000) :
    Calls Try.prog 18 #[.slice A n c, .slice D m d] w (RetE w.heap.size w (Cm.sealS t l)) := by
  have hlen := ht.len
  by_cases h : n = 256
  · rw [sealS_ok t l (by omega)]
    subst h
    have hmk := bty.make w (m + 4) ((m : Int) + 4) ((m : Int) + 4) (m + 4) (by omega) (by omega) (Nat.le_refl _) (by omega)
    have hsl := Cm.sum_lt t ht.fits l
    have hll := hl.len
    obtain ⟨S, hS⟩ : ∃ S, S = Cm.sum t l := ⟨_, rfl⟩
    rw [← hS] at hsl ⊢
    obtain ⟨f, hf⟩ : ∃ f, f = Cm.four S := ⟨_, rfl⟩
    have hf4 : f.length = 4 := by rw [hf]; rfl
    have hfg : ∀ k, k < 4 → f[k]? = some (Cm.byteAt S k) := fun k hk => by rw [hf]; exact Cm.four_get S k hk
    rw [← hf]
    have HS := Lib.hid hS; have HF := Lib.hid hf; have HFG := Lib.hid hfg; have Hsl := Lib.hid hsl; have HF4 := Lib.hid hf4; clear hS hf hfg hsl hf4
    have HLL := Lib.hid hll
    have Ht := Lib.hid ht; have Hl := Lib.hid hl; clear ht hl hn hlen hll
    go_enter Try.func18, Try.ntmps18
    go_wp2_with (with_reducible refine bty.wpCopyAny rfl (.tmp 16) (.tmp 17) rfl w.heap.size (m + 4) m (m + 4) d w.heap.size D l rfl rfl (heap_alloc_new w _) (Hl.out.alloc (Nat.le_refl _) _) ?h1 ?h2 ?_)
    case h1 => omega
    case h2 => simp only [maxLen]; omega
    intro w2 hown hb
    have hb2 : Below w.heap.size w w2 := ((Below.refl _ _).alloc (Nat.le_refl _) _).trans hb
    have hown' : Own w2 5 w.heap.size (some ⟨w.heap.size, 0, none⟩) (m + 4) (l ++ List.replicate 4 0) := by
      rw [List.take_of_length_le (by rw [HLL.out]; omega)] at hown
      simpa using hown
    clear hmk hown hb
    have HO := Lib.hid hown'; clear hown'
    go_wp2_with fail
    refine (checksum_c A 256 c w.heap.size t D m d w.heap.size l _ (Ht.out.below hb2) rfl (Hl.out.below hb2) (by omega)).mono ?_
    rintro e w' ⟨rfl, rfl⟩
    rw [← HS.out]
    go_wp2
    go_loopw [22] (fun i wr => SealRel w (m + 4) l f i wr) (fun i _ => 4 - (intOf i).toNat)
    case atStart => exact ⟨0, by omega, rfl, by simpa using HO.out, hb2⟩
    case round =>
      obtain ⟨k, hk, rfl, hown, hbb⟩ := hrel
      by_cases hlt : k < 4
      · have hfz := hown.frozenAt (m + k)
        have hcl := hown.cellAt (m + k) 0 (by have := seal_some l f HF4.out k hlt; rw [HLL.out] at this; exact this)
        have Hown := Lib.hid hown; clear hown
        go_wp2_with fail
        refine (sumByte_c S k _ Hsl.out hlt).mono ?_
        rintro e w' ⟨rfl, rfl⟩
        go_wp2
        go_roundw
        case rel =>
          refine ⟨k + 1, by omega, by go_num, ?_, hbb.setCell (Nat.le_refl _) _⟩
          have := Hown.out.set (l.length + k) (Cm.byteAt S k)
          rw [seal_next l f HF4.out k hlt _ (HFG.out k hlt), HLL.out] at this
          exact this
        case measure => simp [intOf]; omega
      · obtain rfl : k = 4 := by omega
        have Hown := Lib.hid hown; clear hown
        go_wp2
        go_ret2
        have h1 := Hown.out
        rw [List.take_of_length_le (by rw [HF4.out]; omega)] at h1
        refine ⟨_, _, ret2_len (by have := HLL.out; have := HF4.out; simp; omega), by simpa using h1, hbb⟩
  · rw [sealS_err t l (by omega)]
    have Ht := Lib.hid ht; have Hl := Lib.hid hl; clear ht hl hlen
    go_enter Try.func18, Try.ntmps18
    go_wp2
    go_ret2
    exact ⟨none, 0, rfl, Own.nil _ _ _, Below.refl _ _⟩

theorem openS_arg (t : List Nat) (l : List UInt8) (h : t.length ≠ 256) : Cm.openS t l = ([], 1) := if_neg h
theorem openS_short (t : List Nat) (l : List UInt8) (h : t.length = 256) (h2 : l.length < 4) : Cm.openS t l = ([], 2) := by unfold Cm.openS; rw [if_pos h, if_pos h2]
theorem openS_no (t : List Nat) (l : List UInt8) (h : t.length = 256) (h2 : ¬ l.length < 4) (h3 : l.drop (l.length - 4) ≠ Cm.four (Cm.sum t (l.take (l.length - 4)))) : Cm.openS t l = ([], 4) := by unfold Cm.openS; rw [if_pos h, if_neg h2, if_neg h3]
theorem openS_ok (t : List Nat) (l : List UInt8) (h : t.length = 256) (h2 : ¬ l.length < 4) (h3 : l.drop (l.length - 4) = Cm.four (Cm.sum t (l.take (l.length - 4)))) : Cm.openS t l = (l.take (l.length - 4), 0) := by unfold Cm.openS; rw [if_pos h, if_neg h2, if_pos h3]

def OpenRel (w : World) (l f : List UInt8) (i : Value) (wr : World) : Prop :=
  ∃ k : Nat, k ≤ 4 ∧ i = .int .i64 (k : Int) ∧ Hid ((l.drop (l.length - 4)).take k = f.take k) ∧ Below w.heap.size w wr

theorem take_more (a b : List UInt8) (k : Nat) (x y : UInt8) (ha : a[k]? = some x) (hb : b[k]? = some y) : a.take (k + 1) = b.take (k + 1) ↔ (a.take k = b.take k ∧ x = y) := by
  have hka : k < a.length := by
    rcases Nat.lt_or_ge k a.length with h' | h'
    · exact h'
    · rw [List.getElem?_eq_none h'] at ha; cases ha
  have hkb : k < b.length := by
    rcases Nat.lt_or_ge k b.length with h' | h'
    · exact h'
    · rw [List.getElem?_eq_none h'] at hb; cases hb
  rw [List.take_add_one, List.take_add_one, ha, hb]
  constructor
  · intro h
    have h1 := List.append_inj h (by simp; omega)
    exact ⟨h1.1, by simpa using h1.2⟩
  · rintro ⟨h1, rfl⟩
    rw [h1]

theorem sumByte_q (r i x : Nat) (w : World) (hr : r < 4294967296) (hi : i < 4) (hx : (Cm.byteAt r i).toNat = x) :
    Calls Try.prog 32 #[.int .u32 (r : Int), .int .i64 (i : Int)] w fun e w' => e = .returned (.int .u8 (x : Int)) ∧ w' = w :=
  (sumByte_c r i w hr hi).mono fun e w' ⟨he, hw⟩ => ⟨by rw [he, hx], hw.symm⟩

set_option maxRecDepth 100000 in
/-- crc.Open -/
theorem open_c (A : Option Addr) (n c : Nat) (t : List Nat) (D : Option Addr) (m d : Nat) (l : List UInt8) (w : World) (ht : Rn w w.heap.size A n c t) (hn : n ≤ 300) (hl : Rb w w.heap.size D m d l) (hm : m ≤ 900000) :
    Calls Try.prog 41 #[.slice A n c, .slice D m d] w (RetE w.heap.size w (Cm.openS t l)) := by
  have hlen := ht.len
  have hll := hl.len
  by_cases h : n = 256
  · subst h
    by_cases h4 : m < 4
    · rw [openS_short t l hlen (by omega)]
      have Ht := Lib.hid ht; have Hl := Lib.hid hl; clear ht hl hn hlen hll
      go_enter Try.func41, Try.ntmps41
      go_wp2
      go_ret2
      exact ⟨none, 0, rfl, Own.nil _ _ _, Below.refl _ _⟩
    · have hsl := Cm.sum_lt t ht.fits (l.take (l.length - 4))
      obtain ⟨z, hz⟩ : ∃ z, m = z + 4 := ⟨m - 4, by omega⟩
      obtain ⟨R, hR⟩ : ∃ R, R = Cm.openS t l := ⟨_, rfl⟩
      obtain ⟨S, hS⟩ : ∃ S, S = Cm.sum t (l.take (l.length - 4)) := ⟨_, rfl⟩
      obtain ⟨f, hf⟩ : ∃ f, f = Cm.four S := ⟨_, rfl⟩
      have hf4 : f.length = 4 := by rw [hf]; rfl
      have hfg : ∀ k, k < 4 → f[k]? = some (Cm.byteAt S k) := fun k hk => by rw [hf]; exact Cm.four_get S k hk
      have hno : l.drop (l.length - 4) ≠ f → R = ([], 4) := fun hne => by rw [hR]; exact openS_no t l hlen (by omega) (by rw [← hS, ← hf]; exact hne)
      have hyes : l.drop (l.length - 4) = f → R = (l.take (l.length - 4), 0) := fun he => by rw [hR]; exact openS_ok t l hlen (by omega) (by rw [← hS, ← hf]; exact he)
      rw [← hR]
      rw [← hS] at hsl
      subst hz
      have hz4 : l.length - 4 = z := by omega
      rw [hz4] at hS hno hyes
      obtain ⟨D2, hD2, hrD2⟩ := bty.upto_ hl (k := z) (by omega) (z : Int) rfl
      have HS := Lib.hid hS; have HF := Lib.hid hf; have HFG := Lib.hid hfg; have Hsl := Lib.hid hsl; have HF4 := Lib.hid hf4; have HNo := Lib.hid hno; have HYes := Lib.hid hyes; have Hz := Lib.hid hz4
      have Ht := Lib.hid ht; have Hl := Lib.hid hl; have HrD := Lib.hid hrD2; have HLL := Lib.hid hll; clear ht hl hn hlen hll hS hf hfg hsl hf4 hno hyes hR hrD2 hz4
      go_enter Try.func41, Try.ntmps41
      go_wp2_with fail
      refine (checksum_c A 256 c w.heap.size t D2 z d w.heap.size _ _ Ht.out rfl HrD.out (by omega)).mono ?_
      rintro e w' ⟨rfl, rfl⟩
      rw [← HS.out]
      clear hD2
      go_wp2
      go_loopw [24] (fun i wr => OpenRel w l f i wr) (fun i _ => 4 - (intOf i).toNat)
      case atStart => exact ⟨0, by omega, rfl, Lib.hid rfl, Below.refl _ _⟩
      case round =>
        obtain ⟨k, hk, rfl, H, hbb⟩ := hrel
        by_cases hlt : k < 4
        · obtain ⟨b, off, x, rfl, hb, hc, hx, hd⟩ := (Hl.out.below hbb).at_ (k := z + k) (by omega)
          have hxf := HFG.out k hlt
          have hx2 : (l.drop (l.length - 4))[k]? = some x := by rw [List.getElem?_drop, Hz.out]; exact hx
          have HM := Lib.hid (take_more _ f k x _ hx2 hxf)
          clear hx hd hxf hx2
          have hw1 : IntKind.i64.wrap ((z : Int) + (k : Int)) = (z : Int) + (k : Int) := IntWalk.i64_in _ (by omega)
          have hw2 : (0 : Int) ≤ (z : Int) + (k : Int) := by omega
          have hw3 : ((z : Int) + (k : Int)).toNat = z + k := by omega
          obtain ⟨y, hy⟩ : ∃ y, y = Cm.byteAt S k := ⟨_, rfl⟩
          rw [← hy] at HM
          have HC := Lib.hid (fun W => sumByte_q S k y.toNat W Hsl.out hlt (by rw [hy]))
          clear hy
          by_cases hxy : x = y
          · subst hxy
            have t1 : ((x.toNat : Int) != (x.toNat : Int)) = false := by simp
            go_wp2
            go_quiet ((go_at_call 32; exact Calls.quiet_of_same (HC.out _)))
            go_wp2
            go_roundw
            case rel => exact ⟨k + 1, by omega, by go_num, Lib.hid (HM.out.2 ⟨H.out, by first | trivial | rfl⟩), below_drewN hbb _⟩
            case measure => simp [intOf]; omega
          · have hne : x.toNat ≠ y.toNat := fun h => hxy (UInt8.toNat_inj.1 h)
            have t1 : ((x.toNat : Int) != (y.toNat : Int)) = true := by simp; omega
            have hR := HNo.out (fun e => hxy (HM.out.1 (by rw [Hz.out, e])).2)
            subst hR
            go_wp2
            go_quiet ((go_at_call 32; exact Calls.quiet_of_same (HC.out _)))
            go_wp2
            go_ret2
            exact ⟨none, 0, rfl, Own.nil _ _ _, below_drewN hbb _⟩
        · obtain rfl : k = 4 := by omega
          have hR := HYes.out (by
            have h1 := H.out
            rw [Hz.out, List.take_of_length_le (by rw [List.length_drop, HLL.out]; omega), List.take_of_length_le (by rw [HF4.out]; omega)] at h1
            exact h1)
          subst hR
          have hmk := bty.make wr z (z : Int) (z : Int) z rfl rfl (Nat.le_refl _) (by omega)
          have HrW := Lib.hid (Hl.out.below hbb)
          have hzw := hbb.size
          go_wp2_with (with_reducible refine bty.wpCopyAny rfl (.tmp 40) (.tmp 41) rfl wr.heap.size z (z + 4) z d w.heap.size D l rfl rfl (heap_alloc_new wr _) (HrW.out.alloc hzw _) (Nat.le_refl _) ?h2 ?_)
          case h2 => simp only [maxLen]; omega
          intro w2 hown hb
          go_wp2
          go_ret2
          have hown : Own w2 5 wr.heap.size (some ⟨wr.heap.size, 0, none⟩) z (l.take z) := by simpa using hown
          exact ⟨_, _, ret2_len (by rw [List.length_take, HLL.out]; omega), hown.mono hzw, hbb.trans ((((Below.refl _ _).alloc (Nat.le_refl _) _).trans hb).mono hzw)⟩
  · rw [openS_arg t l (by omega)]
    have Ht := Lib.hid ht; have Hl := Lib.hid hl; clear ht hl hlen
    go_enter Try.func41, Try.ntmps41
    go_wp2
    go_ret2
    exact ⟨none, 0, rfl, Own.nil _ _ _, Below.refl _ _⟩
end Go.Proofs.Ytdhbfoelpdoofaa
