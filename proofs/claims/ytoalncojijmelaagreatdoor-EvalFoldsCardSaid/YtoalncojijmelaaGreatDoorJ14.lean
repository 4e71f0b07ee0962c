/-
  Joined: PG.
-/
import Derived.Test.YtoalncojijmelaaGreatDoorJ13
import Derived.Lib.ConvBytes
/-
  The program's otherCase: a copy of the bytes, changed in place.
-/
namespace Go.Proofs.YtoalncojijmelaaGreatDoor
open Go.RowKit Vl

/-- A row of bytes in a block of the call's own, which may be written on. -/
structure Cr (w : World) (g : Nat) (l : List UInt8) : Prop where
  lt : g < w.heap.size
  at_ : ∀ j x, l[j]? = some x → w.cell? ⟨g, j, none⟩ = some (.int .u8 (x.toNat : Int))
  fr : ∀ j, j < l.length → w.frozen? ⟨g, j, none⟩ = false
theorem Cr.set {w : World} {g : Nat} {l : List UInt8} (h : Cr w g l) {k : Nat} (hk : k < l.length) (x : UInt8) : Cr (w.setCell ⟨g, k, none⟩ (.int .u8 (x.toNat : Int))) g (l.set k x) := by
  refine ⟨by simpa using h.lt, fun j y hy => ?_, fun j hj => ?_⟩
  · by_cases hjk : j = k
    · subst hjk
      rw [List.getElem?_set_self hk] at hy
      injection hy with hy
      subst hy
      exact World.cell?_setCell_same _ _ _ (h.at_ j _ (List.getElem?_eq_getElem hk))
    · rw [List.getElem?_set_ne (Ne.symm hjk)] at hy
      rw [World.cell?_setCell_other _ _ _ _ (by simp only [ne_eq, Addr.mk.injEq, true_and, and_true]; omega)]
      exact h.at_ j y hy
  · rw [World.frozen?_setCell]
    rw [List.length_set] at hj
    exact h.fr j hj
theorem Cr.rb {w : World} {g c : Nat} {l : List UInt8} (h : Cr w g l) (h1 : l.length ≤ c) (h2 : c ≤ maxLen) : Rb w w.heap.size (some ⟨g, 0, none⟩) l.length c l :=
  ⟨rfl, h1, h2, fun _ => ⟨g, 0, rfl, h.lt, fun j x hx => by rw [Nat.zero_add]; exact h.at_ j x hx⟩⟩
theorem conv_own (w : World) (s : ByteArray) (hs : s.size ≤ 1000000) : ∃ c w', (convert 9 114 (.string s)).run Tryz.prog w = .ok (.slice (some ⟨w.heap.size, 0, none⟩) s.size c) w' ∧ Cr w' w.heap.size s.data.toList ∧ Below w.heap.size w w' ∧ s.size ≤ c ∧ c ≤ maxLen := by
  refine ⟨_, _, Lib.run_convert_string_bytes w 9 114 5 s Tryz.underlying9 Tryz.underlying114 Tryz.underlying5, ⟨by rw [Lib.bytesWorld_size]; omega, fun j x hx => ?_, fun j hj => ?_⟩, ⟨rfl, rfl, rfl, by rw [Lib.bytesWorld_size]; omega, fun k hk => Lib.bytesWorld_at_old w _ s k hk⟩, grownCap_ge _ _ _ _, grownCap_le_maxLen _ _ _ _ (by unfold maxLen; omega)⟩
  · have hj : j < s.data.toList.length := by
      rcases Nat.lt_or_ge j s.data.toList.length with h' | h'
      · exact h'
      · rw [List.getElem?_eq_none h'] at hx; cases hx
    rw [Lib.bytesWorld_cell w _ s j (by rw [Array.length_toList] at hj; exact hj)]
    rw [List.getD_eq_getElem?_getD, hx]; rfl
  · have h1 : j < s.size := by rw [Array.length_toList] at hj; exact hj
    have h2 : s.size ≤ (Lib.bytesCells w 5 s).size := by
      unfold Lib.bytesCells
      rw [Array.size_append, Array.size_map]
      show s.size ≤ s.size + _
      omega
    simp [World.frozen?, Lib.bytesWorld_at_new]
    omega
theorem below_set1 (w : World) (g k : Nat) (v : Value) : Below g w (w.setCell ⟨g, k, none⟩ v) := (Below.refl g w).setCell (Nat.le_refl _) _
def OcRel (base : Nat) (w : World) (s : List UInt8) (f : UInt8) (i : Value) (wr : World) : Prop :=
  ∃ k : Nat, k ≤ s.length ∧ i = .int .i64 (k : Int) ∧ Cr wr base (turned (s.take k) f ++ s.drop k) ∧ Below base w wr

set_option maxRecDepth 100000 in
set_option maxHeartbeats 2000000 in
theorem otherCase_c (s : List UInt8) (hs1 : s.length ≤ 1000000) (f : UInt8) (F E : Nat) (hF : F = f.toNat) (hE : E = f.toNat + 25) (w : World) : Calls Tryz.prog 93 #[st s, .int .u8 (F : Int), .int .u8 (E : Int)] w (RetV w (st (turned s f))) := by
  obtain ⟨c, w1, hcv, hcr, b1, hc1, hc2⟩ := conv_own w ⟨s.toArray⟩ hs1
  obtain ⟨n, hn⟩ : ∃ n, n = s.length := ⟨_, rfl⟩
  have hcv' : (convert 9 114 (.string ⟨s.toArray⟩)).run Tryz.prog w = .ok (.slice (some ⟨w.heap.size, 0, none⟩) n c) w1 := by rw [hn]; exact hcv
  have hc1' : s.length ≤ c := hc1
  have Hcr := Lib.hid hcr; have B1 := Lib.hid b1; have Hn := Lib.hid hn; have Hc := Lib.hid (And.intro hc1' hc2); have HFE := Lib.hid (And.intro hF hE)
  have hn1 : n ≤ 1000000 := by omega
  clear hcv hcr b1 hn hc1 hc2 hc1' hF hE hs1
  go_enter Tryz.func93, Tryz.ntmps93
  go_wp2
  go_loopw [8, 9, 14] (fun _ _ i wr => OcRel w.heap.size w s f i wr) (fun _ _ i _ => n - (intOf i).toNat)
  case atStart => exact ⟨0, Nat.zero_le _, rfl, Hcr.out, B1.out⟩
  case round =>
    obtain ⟨k, hk, rfl, hcr, hbel⟩ := hrel
    rename World => wr
    by_cases hlt : k < n
    · have hks : k < s.length := by rw [← Hn.out]; exact hlt
      obtain ⟨x, hx⟩ : ∃ x, x = s[k] := ⟨_, rfl⟩
      obtain ⟨T, hT⟩ : ∃ T, T = turned (s.take k) f := ⟨_, rfl⟩
      have hTl : T.length = k := by rw [hT, turned_len, List.length_take]; omega
      have hd : s.drop k = x :: s.drop (k + 1) := by rw [hx]; exact List.drop_eq_getElem_cons hks
      have htk : turned (s.take (k + 1)) f = T ++ [trn f x] := by
        rw [List.take_add_one, List.getElem?_eq_getElem hks, ← hx, hT]; simp [turned]
      rw [← hT] at hcr
      have hcx : wr.cell? ⟨w.heap.size, k, none⟩ = some (.int .u8 (x.toNat : Int)) := hcr.at_ k x (by rw [List.getElem?_append_right (by omega), hTl, Nat.sub_self, hd]; rfl)
      have hfx : wr.frozen? ⟨w.heap.size, k, none⟩ = false := hcr.fr k (by rw [List.length_append, hTl, hd]; simp)
      have hxb := x.toNat_lt
      have Hcr := Lib.hid hcr; have Hbel := Lib.hid hbel; have Hd := Lib.hid hd; have Htk := Lib.hid htk; have HTl := Lib.hid hTl
      clear hcr hbel hd htk hTl hT hx
      by_cases hin : F ≤ x.toNat ∧ x.toNat ≤ E
      · obtain ⟨y, hy⟩ : ∃ y, y = trn f x := ⟨_, rfl⟩
        have hyx : y = x ^^^ 32 := by rw [hy]; unfold trn; rw [if_pos (by have h1 := HFE.out.1; have h2 := HFE.out.2; omega)]
        have hyn : (y.toNat : Int) = ((x.toNat ^^^ 32 : Nat) : Int) := by rw [hyx, UInt8.toNat_xor]; rfl
        have e1 : bits .xor .u8 (x.toNat : Int) 32 = (y.toNat : Int) := by rw [hyn]; exact xor8 _ 32 rfl rfl (by omega) (by omega)
        have d1 : decide ((F : Int) ≤ (x.toNat : Int)) = true := by simp; omega
        have d1' : decide (F ≤ x.toNat) = true := decide_eq_true hin.1
        have d2 : decide ((x.toNat : Int) ≤ (E : Int)) = true := by simp; omega
        have d2' : decide (x.toNat ≤ E) = true := decide_eq_true hin.2
        have Hy := Lib.hid hy
        clear hyx hyn hin hy
        go_wp2
        go_roundw
        case rel =>
          refine ⟨k + 1, by rw [← Hn.out]; omega, by go_num, ?_, Hbel.out.trans (below_set1 _ _ _ _)⟩
          have h := Hcr.out.set (k := k) (by rw [List.length_append, HTl.out, Hd.out]; simp) y
          have e : (T ++ s.drop k).set k y = turned (s.take (k + 1)) f ++ s.drop (k + 1) := by
            rw [Htk.out, Hd.out, List.set_append_right _ _ (by rw [HTl.out]; exact Nat.le_refl _), HTl.out, Nat.sub_self, ← Hy.out]; simp
          rw [e] at h
          exact h
        case measure => simp [intOf]; omega
      · have htx : trn f x = x := by unfold trn; rw [if_neg (by have h1 := HFE.out.1; have h2 := HFE.out.2; omega)]
        have hrow : T ++ s.drop k = turned (s.take (k + 1)) f ++ s.drop (k + 1) := by rw [Htk.out, htx, Hd.out]; simp
        have Hrow := Lib.hid hrow
        clear htx hrow
        by_cases hlo : F ≤ x.toNat
        · have hhi : ¬ x.toNat ≤ E := fun q => hin ⟨hlo, q⟩
          have d1 : decide ((F : Int) ≤ (x.toNat : Int)) = true := by simp; omega
          have d1' : decide (F ≤ x.toNat) = true := decide_eq_true hlo
          have d2 : decide ((x.toNat : Int) ≤ (E : Int)) = false := by simp; omega
          have d2' : decide (x.toNat ≤ E) = false := decide_eq_false hhi
          clear hin hlo hhi
          go_wp2
          go_roundw
          case rel => exact ⟨k + 1, by rw [← Hn.out]; omega, by go_num, by rw [← Hrow.out]; exact Hcr.out, Hbel.out⟩
          case measure => simp [intOf]; omega
        · have d1 : decide ((F : Int) ≤ (x.toNat : Int)) = false := by simp; omega
          have d1' : decide (F ≤ x.toNat) = false := decide_eq_false hlo
          clear hin hlo
          go_wp2
          go_roundw
          case rel => exact ⟨k + 1, by rw [← Hn.out]; omega, by go_num, by rw [← Hrow.out]; exact Hcr.out, Hbel.out⟩
          case measure => simp [intOf]; omega
    · obtain rfl : k = n := by have := Hn.out; omega
      rw [List.take_of_length_le (by rw [← Hn.out]; exact Nat.le_refl _), List.drop_of_length_le (by rw [← Hn.out]; exact Nat.le_refl _), List.append_nil] at hcr
      have hrb := hcr.rb (c := c) (by rw [turned_len]; exact Hc.out.1) Hc.out.2
      rw [turned_len, ← Hn.out] at hrb
      have hc := bty.conv hrb
      clear hcr hrb
      go_wp2
      go_ret
      exact ⟨rfl, hbel⟩
end Go.Proofs.YtoalncojijmelaaGreatDoor
