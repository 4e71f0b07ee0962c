import Derived.Test.YtkekmokdlgocaaaGreatDoorJW8
import Derived.Deep.DeepCutAuto
set_option maxRecDepth 100000
set_option maxHeartbeats 4000000
namespace Go.Proofs.YtkekmokdlgocaaaGreatDoor
open Go.RowKit
theorem rplain_c (D : Option Addr) (m d B2 : Nat) (l : List UInt8) (w : World) (hl : Rb w B2 D m d l) (hm : m ≤ 1000000) (S : Nat) (hS : S = Cm.sum Cm.tab l) :
  Calls Tryz.prog 121 #[.slice D m d] w fun e w' => e = .returned (.int .u32 (S : Int)) ∧ w = w' := by
 obtain ⟨N, hN⟩ : ∃ N, N = Cm.more Cm.tab 4294967295 l := ⟨_, rfl⟩
 have hlt : N < 4294967296 := by rw [hN]; exact Cm.more_lt _ Cm.tab_lt l _ (by omega)
 have hSN : S = 4294967295 ^^^ N := by rw [hS, hN]; rfl
 have HN := ek hN; have Hl := ek hl; have HS := ek hSN; have Hlt := ek hlt; clear hN hl hS hSN hlt
 go_enter Tryz.func121, Tryz.ntmps121
 go_wp2
 go_loop [4, 3] (fun i t' => ∃ k q : Nat, k ≤ m ∧ i = .int .i64 (k : Int) ∧ t' = .int .u32 (q : Int) ∧ Hid (Cm.more Cm.tab q (l.drop k) = N ∧ q < 4294967296)) (fun i _ => m - (intOf i).toNat)
 case atStart => exact ⟨0, 4294967295, by omega, rfl, rfl, ek ⟨HN.out.symm, by omega⟩⟩
 case round =>
  obtain ⟨k, q, hk, rfl, rfl, H⟩ := hrel
  by_cases hlt : k < m
  ·obtain ⟨b, off, x, rfl, hb, hc, hx, hd⟩ := Hl.out.at_ hlt
   have hix := Cm.idx_lt q x
   have hxl := x.toNat_lt
   have hq := H.out.2
   have hu : IntKind.u32.wrap (x.toNat : Int) = (x.toNat : Int) := by rw [IntKind.wrap_u32']; omega
   have e1 : bits .xor .u32 (q : Int) (x.toNat : Int) = ((q ^^^ x.toNat : Nat) : Int) := xor32 _ _ rfl rfl hq (by omega)
   obtain ⟨j, hj⟩ : ∃ j, j = q % 256 ^^^ x.toNat := ⟨_, rfl⟩
   obtain ⟨J, hJ⟩ : ∃ J, J = q ^^^ x.toNat := ⟨_, rfl⟩
   have hJj : J % 256 = j := by rw [hJ, hj]; exact Cm.idx_ref q x
   have hJl : J < 4294967296 := by rw [hJ]; exact Cm.xor_lt hq (by omega)
   rw [← hJ] at e1
   rw [← hj] at hix
   have e2 : ((J : Int) % 256) = (j : Int) := by omega
   have hy : Cm.tab.getD j 0 = Cm.ent j := Cm.tab_getD j hix
   obtain ⟨y, hye⟩ : ∃ y, y = Cm.ent j := ⟨_, rfl⟩
   have hyl : y < 4294967296 := by rw [hye]; exact Cm.ent_lt j (by omega)
   have hcall : ∀ W, Calls Tryz.prog 158 #[.int .i64 (j : Int)] W fun e w' => e = .returned (.int .u32 (y : Int)) ∧ W = w' := fun W => by rw [hye]; exact rentry_c j W hix
   rw [← hye] at hy
   have Hd := ek hd; have Hx := ek hx; have Hy := ek hy; have Hj := ek hj; have HJ := ek hJ; have HJj := ek hJj; have Hyl := ek hyl; have Hcall := ek hcall; clear hd hx hy hj hJ hJj hye hyl hcall
   go_wp2_with fail
   refine (Hcall.out _).mono ?_
   rintro e w' ⟨rfl,rfl⟩
   go_wp2
   go_round
   case rel =>
    refine ⟨k + 1, Cm.upd Cm.tab q x, by omega, by go_num, ?_, ek ⟨?_, Cm.upd_lt Cm.tab Cm.tab_lt q H.out.2 x⟩⟩
    ·unfold Cm.upd
     rw [← Hj.out, Hy.out, xor32 (a := (y : Int)) (b := (q : Int) / 256) y (q / 256) rfl (by omega) Hyl.out (by have := H.out.2; omega)]
    ·have := H.out.1
     rw [Hd.out, Cm.more_cons] at this
     exact this
   case measure => simp [intOf]; omega
  ·go_wp2
   go_ret
   obtain rfl : k = m := by omega
   have h1 := H.out.1
   rw [List.drop_of_length_le (by rw [Hl.out.len]; omega)] at h1
   have h2 : q = N := h1
   subst h2
   refine ⟨ret_int ?_, rfl⟩
   rw [HS.out, Nat.xor_comm]
   exact xor32 (a := (q : Int)) (b := 4294967295) q 4294967295 rfl rfl Hlt.out (by omega)
def RetFour (w : World) (l : List UInt8) (e : Ending) (w' : World) : Prop :=
 ∃ A c, e = .returned (.slice A 4 c) ∧ (Own w' 5 w.heap.size A c l ∧ l.length = 4) ∧ Below w.heap.size w w'
theorem four_cells (r : Nat) (x0 x1 x2 x3 : Int) (h0 : x0 = ((r % 256 : Nat) : Int)) (h1 : x1 = ((r / 256 % 256 : Nat) : Int)) (h2 : x2 = ((r / 65536 % 256 : Nat) : Int)) (h3 : x3 = ((r / 16777216 % 256 : Nat) : Int)) :
  (#[Value.int .u8 x0, .int .u8 x1, .int .u8 x2, .int .u8 x3] : Array Value).toList = bvs (Cm.four r) := by
 subst h0 h1 h2 h3
 simp only [bvs, Cm.four, List.map_cons, List.map_nil, Cm.byteAt_nat]
 simp
theorem rfour_c (r : Nat) (w : World) (hr : r < 4294967296) :
  Calls Tryz.prog 120 #[.int .u32 (r : Int)] w (RetFour w (Cm.four r)) := by
 have Hr := ek hr; clear hr
 go_enter Tryz.func120, Tryz.ntmps120
 go_wp2
 go_ret
 exact ⟨_, _, rfl, ⟨Own.lit _ _ _ (Cm.four r) (four_cells r _ _ _ _ (by have := Hr.out; omega) (by have := Hr.out; omega) (by have := Hr.out; omega) (by have := Hr.out; omega)) (by simp [Cm.four_len]), rfl⟩, ej _ _⟩
theorem ropened_c (D : Option Addr) (m d : Nat) (l : List UInt8) (w : World) (hl : Rb w w.heap.size D m d l) (hm : m ≤ 900000) :
  Calls Tryz.prog 94 #[.slice D m d] w (RetE w.heap.size w (Cm.openS Cm.tab l)) := by
 have hll := hl.len
 by_cases h4 : m < 4
 ·rw [openS_short Cm.tab l Cm.tab_len (by omega)]
  have Hl := ek hl; clear hl hll
  go_enter Tryz.func94, Tryz.ntmps94
  go_wp2
  go_ret2
  exact ⟨none, 0, rfl, Own.nil _ _ _, Below.refl _ _⟩
 ·obtain ⟨z, hz⟩ : ∃ z, m = z + 4 := ⟨m - 4, by omega⟩
  subst hz
  have hz4 : l.length - 4 = z := by omega
  obtain ⟨S, hS⟩ : ∃ S, S = Cm.sum Cm.tab (l.take z) := ⟨_, rfl⟩
  have hsl : S < 4294967296 := by rw [hS]; exact Cm.sum_lt _ Cm.tab_lt _
  obtain ⟨f, hf⟩ : ∃ f, f = Cm.four S := ⟨_, rfl⟩
  obtain ⟨g, hg⟩ : ∃ g, g = l.drop z := ⟨_, rfl⟩
  have hno : f ≠ g → Cm.openS Cm.tab l = ([], 4) := fun hne => openS_no _ l Cm.tab_len (by omega) (by rw [hz4, ← hS, ← hf, ← hg]; exact fun e => hne e.symm)
  have hyes : f = g → Cm.openS Cm.tab l = (l.take z, 0) := fun he => by rw [← hz4]; exact openS_ok _ l Cm.tab_len (by omega) (by rw [hz4, ← hS, ← hf, ← hg, he])
  obtain ⟨D2, hD2, hrD2⟩ := bty.upto_ hl (k := z) (by omega) (z : Int) rfl
  obtain ⟨D3, hD3, hrD3⟩ := bty.from_ hl (k := z) (by omega) (z : Int) rfl
  rw [← hg] at hrD3
  have e4 : z + 4 - z = 4 := by omega
  rw [e4] at hrD3 hD3
  have hcv1 : (convert 22 9 (.slice D3 4 (d - z))).run Tryz.prog w.drew = .ok (.string ⟨g.toArray⟩) w.drew := bty.conv (hrD3.drewN 1)
  have hfour : ∀ W : World, Calls Tryz.prog 120 #[.int .u32 (S : Int)] W (RetFour W f) := fun W => by rw [hf]; exact rfour_c S W hsl
  have hplain : Calls Tryz.prog 121 #[.slice D2 z d] w.drew fun e w' => e = .returned (.int .u32 (S : Int)) ∧ w.drew = w' := rplain_c D2 z d _ _ w.drew (hrD2.drewN 1) (by omega) S hS
  have HrD2 := ek hrD2; have HrD3 := ek hrD3; have HLL := ek hll; have HFour := ek hfour; have HPlain := ek hplain
  clear hl hll hS hsl hf hg hrD2 hrD3 hz4 e4 hfour hplain
  by_cases hfg : f = g
  ·rw [hyes hfg]
   subst hfg
   clear hyes hno
   go_enter Tryz.func94, Tryz.ntmps94
   go_upto_region 4 with fail
   go_cut [20] (fun s wx => s = .bool false ∧ Below w.heap.size w wx)
   case first =>
    go_region_law (first | (go_simp; go_at_call 121; (with_reducible refine (HPlain.out).mono ?_); rintro e w3 ⟨rfl,rfl⟩) | (go_simp; go_at_call 120; (with_reducible refine (HFour.out _).mono ?_); rintro e w3 ⟨A3, c3, rfl, hown3, hb3⟩; have hb3' : Below w.heap.size w w3 := ⟨hb3.os, hb3.tape, hb3.output, hb3.size, hb3.block⟩; have hcvA := bty.conv (Own.rbl hown3); have hcvB := bty.conv (HrD3.out.below hb3')))
    all_goals (go_wp2_with fail; go_meet; exact ⟨by simp, hb3'⟩)
   case rest =>
    obtain ⟨rfl, hbx⟩ := hcut
    rename_i wx _
    have hzx := hbx.size
    have Hbx := ek hbx; clear hbx
    go_wp2_with (at_builtin; go_must (refine bty.wpApp rfl (.tmp 21) (.tmp 24) rfl (l := []) (r := l.take z) rfl rfl (Own.made0 _ _) ((HrD2.out.below Hbx.out).alloc hzx _) ?hs1 ?hs2 ?_))
    case hs1 => simp; omega
    case hs2 => simp
    intro A2 c2 w2 hown2 hb2
    go_wp2
    go_ret2
    refine ⟨A2, c2, ret2_len (by simp), hown2.mono hzx, Hbx.out.trans (((ej _ _).trans hb2).mono hzx)⟩
  ·rw [hno hfg]
   have Hfg := ek hfg
   clear hyes hno hfg
   go_enter Tryz.func94, Tryz.ntmps94
   go_upto_region 4 with fail
   go_cut [20] (fun s wx => s = .bool true ∧ Below w.heap.size w wx)
   case first =>
    go_region_law (first | (go_simp; go_at_call 121; (with_reducible refine (HPlain.out).mono ?_); rintro e w3 ⟨rfl,rfl⟩) | (go_simp; go_at_call 120; (with_reducible refine (HFour.out _).mono ?_); rintro e w3 ⟨A3, c3, rfl, hown3, hb3⟩; have hb3' : Below w.heap.size w w3 := ⟨hb3.os, hb3.tape, hb3.output, hb3.size, hb3.block⟩; have hcvA := bty.conv (Own.rbl hown3); have hcvB := bty.conv (HrD3.out.below hb3')))
    all_goals (go_wp2_with fail; go_meet; exact ⟨by simp [Hfg.out], hb3'⟩)
   case rest =>
    obtain ⟨rfl, hbx⟩ := hcut
    go_wp2
    go_ret2
    exact ⟨none, 0, rfl, Own.nil _ _ _, hbx⟩
end Go.Proofs.YtkekmokdlgocaaaGreatDoor
