/-
  The document's turned, find.
-/
import Derived.Test.YtkkjgiejnblopaaDoorV6
import Derived.Test.YtkkjgiejnblopaaDoorGr
namespace Go.Proofs.YtkkjgiejnblopaaDoor
open Go.RowKit Vl

def TuRel (base : Nat) (w : World) (X : ByteArray) (f : UInt8) (o i : Value) (wr : World) : Prop :=
  ∃ A c, ∃ k : Nat, k ≤ X.size ∧ o = .slice A k c ∧ i = .int .i64 (k : Int) ∧ Own wr 5 base A c (turned (X.data.toList.take k) f) ∧ Below base w wr
theorem str_take (s : ByteArray) (k : Nat) (h : k < s.size) : s.data.toList.take (k + 1) = s.data.toList.take k ++ [s[k]] := by
  have h2 : k < s.data.toList.length := by rw [Array.length_toList]; exact h
  rw [List.take_add_one, List.getElem?_eq_getElem h2]
  rfl
theorem turned_snoc (l : List UInt8) (c f : UInt8) : turned (l ++ [c]) f = turned l f ++ [trn f c] := by simp [turned]

set_option maxRecDepth 100000 in
set_option maxHeartbeats 2000000 in
theorem turned_c (s : List UInt8) (hs1 : s.length ≤ 1000000) (f : UInt8) (hf : f.toNat + 26 < 256) (w : World) : Calls Tryd.prog 55 #[st s, .int .u8 (f.toNat : Int)] w (RetV w (st (turned s f))) := by
  obtain ⟨X, hX⟩ : ∃ X : ByteArray, X = ⟨s.toArray⟩ := ⟨_, rfl⟩
  have hXs : X.size = s.length := by rw [hX]; rfl
  have hXl : X.data.toList = s := by rw [hX]
  show Calls _ _ #[.string ⟨s.toArray⟩, _] _ _
  rw [← hX, ← hXl]
  have hz : X.size ≤ 1000000 := by omega
  have hXL : X.data.toList.length = X.size := by rw [Array.length_toList]; rfl
  have HXL := Lib.hid hXL
  clear hX hXs hXl hXL
  obtain ⟨F, hF⟩ : ∃ F, F = f.toNat := ⟨_, rfl⟩
  have HF := Lib.hid hF
  rw [← hF] at hf ⊢
  clear hF
  obtain ⟨w1, hw1⟩ : ∃ w1, w1 = w.alloc (.cells #[] 5) := ⟨_, rfl⟩
  have b1 : Below w.heap.size w w1 := by rw [hw1]; exact (Below.refl _ _).alloc (Nat.le_refl _) _
  have own1 : Own w1 5 w.heap.size (some ⟨w.heap.size, 0, none⟩) 0 [] := by rw [hw1]; exact Own.made0 w _
  have W1 := Lib.hid hw1; have B1 := Lib.hid b1; have Own1 := Lib.hid own1
  have e0 : IntKind.u8.wrap ((F : Int) + 26) = (F : Int) + 26 := IntWalk.u8_in _ (by omega)
  clear hw1 b1 own1
  go_enter Tryd.func55, Tryd.ntmps55
  go_wp2_with (rw [← W1.out])
  go_loopw [5, 6, 7] (fun o i _ wr => TuRel w.heap.size w X f o i wr) (fun _ i _ _ => X.size - (intOf i).toNat)
  case atStart => exact ⟨_, _, 0, Nat.zero_le _, rfl, rfl, Own1.out, B1.out⟩
  case round =>
    obtain ⟨A3, c3, k, hk, rfl, rfl, hown, hbel⟩ := hrel
    rename World => wr
    have z3 := hbel.size
    by_cases hlt : k < X.size
    · have hb := (X[k]).toNat_lt
      have htk := str_take X k hlt
      have hlen : (turned (X.data.toList.take k) f).length = k := by rw [turned_len, List.length_take, HXL.out]; omega
      obtain ⟨L, hL⟩ : ∃ L, L = turned (X.data.toList.take k) f := ⟨_, rfl⟩
      obtain ⟨y, hy⟩ : ∃ y, y = trn f X[k] := ⟨_, rfl⟩
      have hN : turned (X.data.toList.take (k + 1)) f = L ++ [y] := by rw [htk, turned_snoc, ← hL, ← hy]
      rw [← hL] at hown hlen
      obtain ⟨N, hNe⟩ : ∃ N, N = L ++ [y] := ⟨_, rfl⟩
      rw [← hNe] at hN
      have hNl : N.length = k + 1 := by rw [hNe, List.length_append, hlen]; rfl
      obtain ⟨w5, hw5⟩ : ∃ w5, w5 = wr.alloc (.cells #[.int .u8 (y.toNat : Int)] 5) := ⟨_, rfl⟩
      have b5 : Below wr.heap.size wr w5 := by rw [hw5]; exact (Below.refl _ _).alloc (Nat.le_refl _) _
      have hr5 : Rb w5 (wr.heap.size + 1) (some ⟨wr.heap.size, 0, none⟩) 1 1 [y] := by rw [hw5]; exact Rb.one wr _ y
      have own5 : Own w5 5 w.heap.size A3 c3 L := by rw [hw5]; exact hown.alloc _
      have bb5 := hbel.trans (b5.mono z3)
      have z5 := bb5.size
      have W5 := Lib.hid hw5; have Hr5 := Lib.hid hr5; have Own5 := Lib.hid own5; have BB5 := Lib.hid bb5; have HNe := Lib.hid hNe.symm; have HN := Lib.hid hN; have HNl := Lib.hid hNl; have Hlen := Lib.hid hlen; have Hy := Lib.hid hy
      have hNs : N.length ≤ 140737488355328 := by omega
      clear hw5 hr5 own5 bb5 hNe hN hNl htk hown hL b5 hbel
      by_cases hin : F ≤ (X[k]).toNat ∧ (X[k]).toNat < F + 26
      · have hyx : y = X[k] ^^^ 32 := by rw [Hy.out]; unfold trn; rw [if_pos (by rw [← HF.out]; exact hin)]
        have hyn : (y.toNat : Int) = (((X[k]).toNat ^^^ 32 : Nat) : Int) := by rw [hyx, UInt8.toNat_xor]; rfl
        have e1 : bits .xor .u8 ((X[k]).toNat : Int) 32 = (y.toNat : Int) := by rw [hyn]; exact xor8 _ 32 rfl rfl (by omega) (by omega)
        have d1 : decide ((F : Int) ≤ ((X[k]).toNat : Int)) = true := by simp; omega
        have d1' : decide (F ≤ (X[k]).toNat) = true := decide_eq_true hin.1
        have d2 : decide (((X[k]).toNat : Int) < (F : Int) + 26) = true := by simp; omega
        have d2' : decide ((X[k]).toNat < F + 26) = true := decide_eq_true hin.2
        clear hyx hyn hin hy
        go_wp2_with (at_builtin; rw [← W5.out]; go_must (refine bty.wpAppTo rfl (.tmp 29) (.tmp 31) rfl (l := L) (r := [y]) (N := N) ?hs0 rfl Own5.out Hr5.out HNe.out hNs ?hs2 ?_))
        case hs0 => rw [Hlen.out]; rfl
        case hs2 => exact z5
        intro A8 c8 w8 hown8 hg8
        have b8 := hg8.below Own5.out z5
        have bw8 := BB5.out.trans b8
        have Hown8 := Lib.hid hown8
        clear hown8 hg8
        go_wp2
        go_roundw
        case rel => exact ⟨A8, c8, k + 1, by omega, by rw [HNl.out], by go_num, by rw [HN.out]; exact Hown8.out, bw8⟩
        case measure => simp [intOf]; omega
      · have hyx : y = X[k] := by rw [Hy.out]; unfold trn; rw [if_neg (by rw [← HF.out]; exact hin)]
        clear hy
        rw [hyx] at W5
        by_cases hlo : F ≤ (X[k]).toNat
        · have hhi : ¬ (X[k]).toNat < F + 26 := fun q => hin ⟨hlo, q⟩
          have d1 : decide ((F : Int) ≤ ((X[k]).toNat : Int)) = true := by simp; omega
          have d1' : decide (F ≤ (X[k]).toNat) = true := decide_eq_true hlo
          have d2 : decide (((X[k]).toNat : Int) < (F : Int) + 26) = false := by simp; omega
          have d2' : decide ((X[k]).toNat < F + 26) = false := decide_eq_false hhi
          clear hyx hin hlo hhi
          go_wp2_with (at_builtin; rw [← W5.out]; go_must (refine bty.wpAppTo rfl (.tmp 29) (.tmp 31) rfl (l := L) (r := [y]) (N := N) ?hs0 rfl Own5.out Hr5.out HNe.out hNs ?hs2 ?_))
          case hs0 => rw [Hlen.out]; rfl
          case hs2 => exact z5
          intro A8 c8 w8 hown8 hg8
          have b8 := hg8.below Own5.out z5
          have bw8 := BB5.out.trans b8
          have Hown8 := Lib.hid hown8
          clear hown8 hg8
          go_wp2
          go_roundw
          case rel => exact ⟨A8, c8, k + 1, by omega, by rw [HNl.out], by go_num, by rw [HN.out]; exact Hown8.out, bw8⟩
          case measure => simp [intOf]; omega
        · have d1 : decide ((F : Int) ≤ ((X[k]).toNat : Int)) = false := by simp; omega
          have d1' : decide (F ≤ (X[k]).toNat) = false := decide_eq_false hlo
          clear hyx hin hlo
          go_wp2_with (at_builtin; rw [← W5.out]; go_must (refine bty.wpAppTo rfl (.tmp 29) (.tmp 31) rfl (l := L) (r := [y]) (N := N) ?hs0 rfl Own5.out Hr5.out HNe.out hNs ?hs2 ?_))
          case hs0 => rw [Hlen.out]; rfl
          case hs2 => exact z5
          intro A8 c8 w8 hown8 hg8
          have b8 := hg8.below Own5.out z5
          have bw8 := BB5.out.trans b8
          have Hown8 := Lib.hid hown8
          clear hown8 hg8
          go_wp2
          go_roundw
          case rel => exact ⟨A8, c8, k + 1, by omega, by rw [HNl.out], by go_num, by rw [HN.out]; exact Hown8.out, bw8⟩
          case measure => simp [intOf]; omega
    · obtain rfl : k = X.size := by omega
      rw [List.take_of_length_le (by rw [HXL.out]; exact Nat.le_refl _)] at hown
      have hlen : (turned X.data.toList f).length = X.size := by rw [turned_len, HXL.out]
      have hc := bty.conv (show Rb wr wr.heap.size A3 X.size c3 (turned X.data.toList f) by have h := hown.rb; rw [hlen] at h; exact h)
      clear hown hlen
      go_wp2
      go_ret
      exact ⟨rfl, hbel⟩
end Go.Proofs.YtkkjgiejnblopaaDoor
