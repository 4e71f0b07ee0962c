/-
  Joined: S1.
-/
import Derived.Test.YtknmhdkomjjneaaGreatDoorJW16
import Derived.Deep.RegionLaw
import Derived.Deep.DeepCutAuto
/-
  The document's Plain, Four, Sealed, Opened (threshingref02): what each call returns and leaves.
-/
namespace Go.Proofs.YtknmhdkomjjneaaGreatDoor
open Go.RowKit

set_option maxHeartbeats 1000000 in
set_option maxRecDepth 100000 in
theorem rplain_c (D : Option Addr) (m d B2 : Nat) (l : List UInt8) (w : World) (hl : Rb w B2 D m d l) (hm : m ≤ 1000000) (S : Nat) (hS : S = Cm.sum Cm.tab l) :
    Calls Tryz.prog 88 #[.slice D m d] w fun e w' => e = .returned (.int .u32 (S : Int)) ∧ w = w' := by
  obtain ⟨N, hN⟩ : ∃ N, N = Cm.more Cm.tab 4294967295 l := ⟨_, rfl⟩
  have hlt : N < 4294967296 := by rw [hN]; exact Cm.more_lt _ Cm.tab_lt l _ (by omega)
  have hSN : S = 4294967295 ^^^ N := by rw [hS, hN]; rfl
  have HN := Lib.hid hN; have Hl := Lib.hid hl; have HS := Lib.hid hSN; have Hlt := Lib.hid hlt; clear hN hl hS hSN hlt
  go_enter Tryz.func88, Tryz.ntmps88
  go_wp2
  go_loop [4, 3] (fun i t' => ∃ k q : Nat, k ≤ m ∧ i = .int .i64 (k : Int) ∧ t' = .int .u32 (q : Int) ∧ Hid (Cm.more Cm.tab q (l.drop k) = N ∧ q < 4294967296)) (fun i _ => m - (intOf i).toNat)
  case atStart => exact ⟨0, 4294967295, by omega, rfl, rfl, Lib.hid ⟨HN.out.symm, by omega⟩⟩
  case round =>
    obtain ⟨k, q, hk, rfl, rfl, H⟩ := hrel
    by_cases hlt : k < m
    · obtain ⟨b, off, x, rfl, hb, hc, hx, hd⟩ := Hl.out.at_ hlt
      have hix := Cm.idx_lt q x
      have hxl := x.toNat_lt
      have hq := H.out.2
      have hu : IntKind.u32.wrap (x.toNat : Int) = (x.toNat : Int) := by rw [IntKind.wrap_u32']; omega
      have e1 : bits .xor .u32 (q : Int) (x.toNat : Int) = ((q ^^^ x.toNat : Nat) : Int) := xor32 _ _ rfl rfl hq (by omega)
      obtain ⟨j, hj⟩ : ∃ j, j = q % 256 ^^^ x.toNat := ⟨_, rfl⟩
      obtain ⟨J, hJ⟩ : ∃ J, J = q ^^^ x.toNat := ⟨_, rfl⟩
      have hJj : J % 256 = j := by rw [hJ, hj]; exact Cm.idx_ref q x
      have hJl : J < 4294967296 := by rw [hJ]; exact Cm.xor_lt hq (by omega)
      rw [← hJ] at e1
      rw [← hj] at hix
      have e2 : ((J : Int) % 256) = (j : Int) := by omega
      have hy : Cm.tab.getD j 0 = Cm.ent j := Cm.tab_getD j hix
      obtain ⟨y, hye⟩ : ∃ y, y = Cm.ent j := ⟨_, rfl⟩
      have hyl : y < 4294967296 := by rw [hye]; exact Cm.ent_lt j (by omega)
      have hcall : ∀ W, Calls Tryz.prog 112 #[.int .i64 (j : Int)] W fun e w' => e = .returned (.int .u32 (y : Int)) ∧ W = w' := fun W => by rw [hye]; exact rentry_c j W hix
      rw [← hye] at hy
      have Hd := Lib.hid hd; have Hx := Lib.hid hx; have Hy := Lib.hid hy; have Hj := Lib.hid hj; have HJ := Lib.hid hJ; have HJj := Lib.hid hJj; have Hyl := Lib.hid hyl; have Hcall := Lib.hid hcall; clear hd hx hy hj hJ hJj hye hyl hcall
      go_wp2_with fail
      refine (Hcall.out _).mono ?_
      rintro e w' ⟨rfl, rfl⟩
      go_wp2
      go_round
      case rel =>
        refine ⟨k + 1, Cm.upd Cm.tab q x, by omega, by go_num, ?_, Lib.hid ⟨?_, Cm.upd_lt Cm.tab Cm.tab_lt q H.out.2 x⟩⟩
        · unfold Cm.upd
          rw [← Hj.out, Hy.out, xor32 (a := (y : Int)) (b := (q : Int) / 256) y (q / 256) rfl (by omega) Hyl.out (by have := H.out.2; omega)]
        · have := H.out.1
          rw [Hd.out, Cm.more_cons] at this
          exact this
      case measure => simp [intOf]; omega
    · go_wp2
      go_ret
      obtain rfl : k = m := by omega
      have h1 := H.out.1
      rw [List.drop_of_length_le (by rw [Hl.out.len]; omega)] at h1
      have h2 : q = N := h1
      subst h2
      refine ⟨ret_int ?_, rfl⟩
      rw [HS.out, Nat.xor_comm]
      exact xor32 (a := (q : Int)) (b := 4294967295) q 4294967295 rfl rfl Hlt.out (by omega)

def RetFour (w : World) (l : List UInt8) (e : Ending) (w' : World) : Prop :=
  ∃ A c, e = .returned (.slice A 4 c) ∧ (Own w' 5 w.heap.size A c l ∧ l.length = 4) ∧ Below w.heap.size w w'

theorem four_cells (r : Nat) (x0 x1 x2 x3 : Int) (h0 : x0 = ((r % 256 : Nat) : Int)) (h1 : x1 = ((r / 256 % 256 : Nat) : Int)) (h2 : x2 = ((r / 65536 % 256 : Nat) : Int)) (h3 : x3 = ((r / 16777216 % 256 : Nat) : Int)) :
    (#[Value.int .u8 x0, .int .u8 x1, .int .u8 x2, .int .u8 x3] : Array Value).toList = bvs (Cm.four r) := by
  subst h0 h1 h2 h3
  simp only [bvs, Cm.four, List.map_cons, List.map_nil, Cm.byteAt_nat]
  simp

set_option maxRecDepth 100000 in
theorem rfour_c (r : Nat) (w : World) (hr : r < 4294967296) :
    Calls Tryz.prog 87 #[.int .u32 (r : Int)] w (RetFour w (Cm.four r)) := by
  have Hr := Lib.hid hr; clear hr
  go_enter Tryz.func87, Tryz.ntmps87
  go_wp2
  go_ret
  exact ⟨_, _, rfl, ⟨Own.lit _ _ _ (Cm.four r) (four_cells r _ _ _ _ (by have := Hr.out; omega) (by have := Hr.out; omega) (by have := Hr.out; omega) (by have := Hr.out; omega)) (by simp [Cm.four_len]), rfl⟩, (Below.refl _ _).alloc (Nat.le_refl _) _⟩

set_option maxHeartbeats 1000000 in
set_option maxRecDepth 100000 in
theorem rsealed_c (D : Option Addr) (m d : Nat) (l : List UInt8) (w : World) (hl : Rb w w.heap.size D m d l) (hm : m ≤ 900000) :
    Calls Tryz.prog 71 #[.slice D m d] w (RetB w.heap.size w (l ++ Cm.four (Cm.sum Cm.tab l))) := by
  have hll := hl.len
  obtain ⟨S, hS⟩ : ∃ S, S = Cm.sum Cm.tab l := ⟨_, rfl⟩
  have hsl : S < 4294967296 := by rw [hS]; exact Cm.sum_lt _ Cm.tab_lt l
  rw [← hS]
  have Hl := Lib.hid hl; have HS := Lib.hid hS; have Hsl := Lib.hid hsl; have HLL := Lib.hid hll; clear hl hS hsl hll
  go_enter Tryz.func71, Tryz.ntmps71
  go_wp2_with (at_builtin; go_must (refine bty.wpApp rfl (.tmp 4) (.tmp 5) rfl (l := []) (r := l) rfl rfl (Own.made0 _ _) (Hl.out.alloc (Nat.le_refl _) _) ?hs1 ?hs2 ?_))
  case hs1 => rw [HLL.out]; simp; omega
  case hs2 => simp
  intro A2 c2 w2 hown2 hb2
  have hb0 : Below w.heap.size w w2 := ((Below.refl _ _).alloc (Nat.le_refl _) _).trans hb2
  have hsz := hb0.size
  have Hown2 := Lib.hid hown2; clear hown2 hb2
  go_wp2_with fail
  refine (rplain_c D m d _ l w2 (Hl.out.below hb0) (by omega) S HS.out).mono ?_
  rintro e w' ⟨rfl, rfl⟩
  go_wp2_with fail
  refine (rfour_c S _ Hsl.out).mono ?_
  rintro e w3 ⟨A3, c3, rfl, hown3, hb3⟩
  have hsz3 := hb3.size
  have Hr3 := Lib.hid (Own.rbl hown3); clear hown3
  go_wp2_with (at_builtin; go_must (refine bty.wpApp rfl (.tmp 7) (.tmp 10) rfl (l := l) (r := Cm.four S) ?e1 rfl (Hown2.out.keep hb3) Hr3.out ?hs3 ?hs4 ?_))
  case e1 => rfl
  case hs3 => rw [HLL.out, Cm.four_len]; omega
  case hs4 => omega
  intro A4 c4 w4 hown4 hb4
  go_wp2
  go_ret
  exact ⟨A4, c4, ret_len (by simp), hown4, (hb0.trans (hb3.mono hsz)).trans hb4⟩

end Go.Proofs.YtknmhdkomjjneaaGreatDoor
