import Derived.Test.YtkekmokdlgocaaaGreatDoorRows
import Derived.Test.YtkekmokdlgocaaaGreatDoorJW1
set_option maxRecDepth 100000
set_option maxHeartbeats 4000000
namespace Go.Proofs.YtkekmokdlgocaaaGreatDoor
open Go.RowKit
theorem bty : U8 Tryz.prog 22 5 9 := ⟨Tryz.underlying22, Tryz.underlying5, Tryz.underlying9, by kernel_rfl⟩
theorem size_c (n : Nat) (w : World) (h : n < 18446744073709551616) :
    Calls Tryz.prog 190 #[.int .u64 (n : Int)] w fun e w' => e = .returned (.int .i64 ((Vm.vb n).length : Int)) ∧ w = w' := by
  have hlen : (Vm.vb n).length ≤ 10 := Vm.vb_len_le 9 n (by have : (128 : Nat) ^ (9 + 1) = 1180591620717411303424 := by decide +kernel
                                                            omega)
  clear h
  obtain ⟨N, hN⟩ : ∃ N, N = (Vm.vb n).length := ⟨_, rfl⟩
  have hp := Vm.vb_pos n
  rw [← hN] at hlen hp ⊢
  have HN := ek hN; clear hN
  go_enter Tryz.func190, Tryz.ntmps190
  go_wp2
  go_loop [0, 3] (fun t s => ∃ m k : Nat, k + (Vm.vb m).length = N + 1 ∧ k ≤ N ∧ t = .int .u64 (m : Int) ∧ s = .int .i64 (k : Int)) (fun t _ => (intOf t).toNat)
  case atStart => exact ⟨n, 1, by rw [HN.out]; omega, hp, rfl, rfl⟩
  case round =>
    obtain ⟨m, k, hk, hk2, rfl, rfl⟩ := hrel
    have H := ek hk; clear hk
    by_cases hm : 128 ≤ m
    · go_wp2
      go_round
      case rel =>
        have h1 := H.out
        rw [Vm.vb_ge m hm, List.length_cons] at h1
        have h2 := Vm.vb_pos (m / 128)
        exact ⟨m / 128, k + 1, by omega, by omega, by go_num, by go_num⟩
      case measure => simp [intOf]; omega
    · go_wp2
      go_ret
      have h1 := H.out
      rw [Vm.vb_lt m (by omega)] at h1
      have h2 : k = N := by simp at h1; omega
      subst h2
      exact ⟨rfl,rfl⟩
def RetB (base : Nat) (w : World) (l : List UInt8) (e : Ending) (w' : World) : Prop :=
 ∃ A c, e = .returned (.slice A l.length c) ∧ Own w' 5 base A c l ∧ Below base w w'
theorem grown_c (A : Option Addr) (n c : Nat) (l : List UInt8) (k : Nat) (w : World) (hr : Rb w w.heap.size A n c l) (hn : n ≤ 1000000) (hk : k ≤ 1000000) :
  Calls Tryz.prog 206 #[.slice A n c, .int .i64 (k : Int)] w (RetB w.heap.size w l) := by
 have hmk := bty.make w n (n : Int) ((n : Int) + (k : Int)) (n + k) rfl (by omega) (by omega) (by omega)
 have Hr := ek hr; clear hr
 go_enter Tryz.func206, Tryz.ntmps206
 go_wp2_with (with_reducible refine bty.wpCopy rfl (.tmp 13) (.tmp 14) rfl w.heap.size n (n + k) c w.heap.size A l rfl rfl (heap_alloc_new w _) (Hr.out.alloc (Nat.le_refl _) _) ?h1 ?h2 ?_)
 case h1 => omega
 case h2 => simp only [maxLen]; omega
 intro w2 hown hb
 go_wp2
 go_ret
 have hl := Hr.out.len
 exact ⟨_, _, ret_len hl.symm, hown, (ej _ _).trans hb⟩
def AddRel2 (base : Nat) (w : World) (L : List UInt8) (o t : Value) (wr : World) : Prop :=
 ∃ A c l, ∃ m : Nat, o = .slice A l.length c ∧ t = .int .u64 (m : Int) ∧ Own wr 5 base A c l ∧ (l ++ Vm.vb m = L ∧ U64 (m : Int)) ∧ Below base w wr
theorem div_u64 (m : Nat) (h : U64 (m : Int)) : IntKind.u64.wrap ((m : Int) / 128) = ((m / 128 : Nat) : Int) := by
 unfold U64 at h
 rw [IntKind.wrap_u64]
 omega
theorem bytesOf_c (n : Nat) (w : World) (hN : n < 18446744073709551616) :
    Calls Tryz.prog 156 #[.int .u64 (n : Int)] w (RetB w.heap.size w (Vm.vb n)) := by
  have hlen : (Vm.vb n).length ≤ 10 := Vm.vb_len_le 9 n (by have : (128 : Nat) ^ (9 + 1) = 1180591620717411303424 := by decide +kernel
                                                            omega)
  have HN := ek hN; clear hN
  obtain ⟨L, hL⟩ : ∃ L, L = Vm.vb n := ⟨_, rfl⟩
  rw [← hL] at hlen ⊢
  have HL := ek hL; clear hL
  go_enter Tryz.func156, Tryz.ntmps156
  go_wp2
  go_loopw [3, 0] (fun o t wr => AddRel2 w.heap.size w L o t wr) (fun _ t _ => (intOf t).toNat)
  case atStart => exact ⟨_, _, [], n, rfl, rfl, Own.made0 _ _, ⟨by simpa using HL.out.symm, by have := HN.out; unfold U64; omega⟩, ej _ _⟩
  case round =>
    obtain ⟨A1, c1, l1, m, rfl, rfl, hown1, ⟨hl1, hu⟩, hbel⟩ := hrel
    have hlen1 := congrArg List.length hl1
    rw [List.length_append] at hlen1
    have hsz := hbel.size
    by_cases hm : 128 ≤ m
    · have HL1 := ek hl1; have Hlen := ek hlen1; clear hl1 hlen1
      have hll : l1.length ≤ 10 := by have := Hlen.out; omega
      obtain ⟨x, hx⟩ : ∃ x : UInt8, x = UInt8.ofNat (m % 128 + 128) := ⟨_, rfl⟩
      have Hx := ek hx; clear hx
      go_wp2_with (at_builtin; go_must (refine bty.wpApp rfl (.tmp 7) (.tmp 12) rfl (l := l1) rfl rfl (hown1.alloc _) (Rb.oneI _ _ _ x ?hz) ?hs1 ?hs2 ?_))
      case hz => rw [Hx.out, Vm.toNat_ofNat _ (by omega)]; omega
      case hs1 => simp; omega
      case hs2 => simp; omega
      intro A2 c2 w2 hown2 hbel2
      go_wp2
      go_roundw
      case rel =>
        refine ⟨A2, c2, l1 ++ [x], m / 128, by simp, ?_, hown2, ⟨?_, ?_⟩, hbel.trans ((((Below.refl _ _).alloc (by omega) _).trans hbel2))⟩
        · rw [div_u64 m hu]
        · rw [← HL1.out, Vm.vb_ge m hm, ← Hx.out]; simp
        · unfold U64 at hu ⊢; omega
      case measure => simp only [intOf]; rw [div_u64 m hu]; omega
    · have HL1 := ek hl1; have Hlen := ek hlen1; clear hl1 hlen1
      have hll : l1.length ≤ 10 := by have := Hlen.out; omega
      obtain ⟨x, hx⟩ : ∃ x : UInt8, x = UInt8.ofNat m := ⟨_, rfl⟩
      have Hx := ek hx; clear hx
      go_wp2_with (at_builtin; go_must (refine bty.wpApp rfl (.tmp 16) (.tmp 19) rfl (l := l1) rfl rfl (hown1.alloc _) (Rb.oneI _ _ _ x ?hz) ?hs1 ?hs2 ?_))
      case hz => rw [Hx.out, Vm.toNat_ofNat _ (by omega)]
      case hs1 => simp; omega
      case hs2 => simp; omega
      intro A2 c2 w2 hown2 hbel2
      go_wp2
      go_ret
      have e : l1 ++ [x] = L := by rw [← HL1.out, Vm.vb_lt m (by omega), Hx.out]
      have el : l1.length + 1 = L.length := by rw [← e]; simp
      rw [e] at hown2
      exact ⟨A2, c2, ret_len el, hown2, hbel.trans ((((Below.refl _ _).alloc (by omega) _).trans hbel2))⟩
def tkE (x : Nat × Nat × Nat) : Ending := .returned (.tuple #[.int .u64 (x.1 : Int), .int .i64 (x.2.1 : Int), .int .i64 (x.2.2 : Int)])
def NumRel (l : List UInt8) (n : Nat) (a i : Value) : Prop :=
 ∃ k acc : Nat, a = .int .u64 (acc : Int) ∧ i = .int .i64 (k : Int) ∧ k ≤ n ∧ k ≤ 9 ∧ Vm.tk l = Vm.dn k acc (l.drop k) ∧ acc < 128 ^ k
theorem shl_u64 (k X : Nat) : ((X : Int) * 2 ^ (7 * k)) = ((X * 128 ^ k : Nat) : Int) := by
 rw [← Vm.pow2]
 simp
theorem sum_u64 (k acc X : Nat) (h : acc + X * 128 ^ k < 18446744073709551616) :
  IntKind.u64.wrap ((acc : Int) + IntKind.u64.wrap ((X : Int) * 2 ^ (7 * k))) = ((acc + X * 128 ^ k : Nat) : Int) := by
 rw [shl_u64]
 generalize X * 128 ^ k = Y at h ⊢
 simp only [IntKind.wrap_u64]
 omega
theorem sum9 (k acc X : Nat) (hk : k = 9) (h : acc + X * 128 ^ k < 18446744073709551616) :
  IntKind.u64.wrap ((acc : Int) + (X : Int) * 9223372036854775808) = ((acc + X * 128 ^ k : Nat) : Int) := by
 subst hk
 have e : 128 ^ 9 = 9223372036854775808 := by decide +kernel
 rw [e] at h ⊢
 rw [IntKind.wrap_u64]
 omega
theorem tkE_of (x : Nat × Nat × Nat) (a b c : Nat) (h : x = (a, b, c)) (a' b' c' : Int) (ha : a' = (a : Int)) (hb : b' = (b : Int)) (hc : c' = (c : Int)) :
  Ending.returned (.tuple #[.int .u64 a', .int .i64 b', .int .i64 c']) = tkE x := by
 subst h ha hb hc
 rfl
theorem number_c (A : Option Addr) (n c B : Nat) (l : List UInt8) (w : World) (hr : Rb w B A n c l) (hn : n ≤ 1000000) :
  Calls Tryz.prog 222 #[.slice A n c] w fun e w' => e = tkE (Vm.tk l) ∧ w = w' := by
 have Hr := ek hr; clear hr
 go_enter Tryz.func222, Tryz.ntmps222
 go_wp2
 go_loop [5, 10] (fun a i => NumRel l n a i) (fun _ i => n - (intOf i).toNat)
 case atStart => exact ⟨0, 0, rfl, rfl, by omega, by omega, by simp [Vm.tk], by simp⟩
 case round =>
  obtain ⟨k, acc, rfl, rfl, hk, hk9, htk, hacc⟩ := hrel
  by_cases hlt : k < n
  ·obtain ⟨b, off, x, rfl, hb, hcell, hx, hdrop⟩ := Hr.out.at_ hlt
   rw [hdrop] at htk
   have Htk := ek htk; have Hacc := ek hacc; clear htk hacc
   clear hdrop hx
   have hx256 : x.toNat < 256 := x.toNat_lt
   by_cases h128 : x.toNat < 128
   ·by_cases hbad : 0 < k ∧ x.toNat = 0 ∨ k = 9 ∧ 1 < x.toNat
    ·have Hfin := ek (Htk.out.trans (Vm.dn_bad k acc x _ h128 hbad))
     by_cases h1 : 0 < k ∧ x.toNat ≤ 0
     ·obtain ⟨h2, h3⟩ := h1
      clear hbad
      go_wp2
      go_ret3
      exact ⟨tkE_of _ _ _ _ Hfin.out _ _ _ rfl rfl rfl, rfl⟩
     ·have h2 : 9 ≤ k := by omega
      have h3 : 1 < x.toNat := by omega
      clear hbad h1
      go_wp2
      go_ret3
      exact ⟨tkE_of _ _ _ _ Hfin.out _ _ _ rfl rfl rfl, rfl⟩
    ·have Hfin := ek (Htk.out.trans (Vm.dn_end k acc x _ h128 hbad))
     have Hend := ek (Vm.end_lt k acc x.toNat Hacc.out h128 hk9 (by omega))
     by_cases h1 : k ≤ 0
     ·clear hbad
      go_wp2
      go_ret3
      exact ⟨tkE_of _ _ _ _ Hfin.out _ _ _ (sum_u64 k acc x.toNat Hend.out) rfl rfl, rfl⟩
     ·have h2 : 0 < k := by omega
      have h3 : 0 < x.toNat := by omega
      by_cases h4 : k < 9
      ·clear hbad h1
       go_wp2
       go_ret3
       exact ⟨tkE_of _ _ _ _ Hfin.out _ _ _ (sum_u64 k acc x.toNat Hend.out) rfl rfl, rfl⟩
      ·have h5 : 9 ≤ k := by omega
       have h6 : x.toNat ≤ 1 := by omega
       have h7 : decide ((1 : Int) < (x.toNat : Int)) = false := by simp; omega
       clear hbad h1 h4
       go_wp2
       go_ret3
       exact ⟨tkE_of _ _ _ _ Hfin.out _ _ _ (sum9 k acc x.toNat (by omega) Hend.out) (by omega) rfl, rfl⟩
   ·have h129 : 128 ≤ x.toNat := by omega
    by_cases h9 : k = 9
    ·have h9' : 9 ≤ k := by omega
     have Hfin := ek (show Vm.tk l = (0, 0, 3) by rw [Htk.out, h9]; exact Vm.dn_long acc x _ h129)
     clear h9
     go_wp2
     go_ret3
     exact ⟨tkE_of _ _ _ _ Hfin.out _ _ _ rfl rfl rfl, rfl⟩
    ·have Hfin := ek (Htk.out.trans (Vm.dn_step k acc x _ h129 h9))
     have Hlt := ek (Vm.step_lt k acc (x.toNat - 128) Hacc.out (by omega))
     go_wp2
     go_round
     case rel =>
      refine ⟨k + 1, acc + (x.toNat - 128) * 128 ^ k, ?_, by go_num, by omega, by omega, Hfin.out, Hlt.out⟩
      have e := sum_u64 k acc (x.toNat - 128) (by have := Hlt.out; have := Vm.pow_le (k + 1) (by omega); omega)
      rw [show (x.toNat : Int) - 128 = ((x.toNat - 128 : Nat) : Int) by omega, e]
     case measure => simp [intOf]; omega
  ·have Hfin := ek (show Vm.tk l = (0, 0, 2) by rw [htk, List.drop_of_length_le (by rw [Hr.out.len]; omega)]; rfl)
   clear htk hacc
   go_wp2
   go_ret3
   exact ⟨tkE_of _ _ _ _ Hfin.out _ _ _ rfl rfl rfl, rfl⟩
theorem number_ok (A : Option Addr) (n c B : Nat) (l : List UInt8) (w : World) (hr : Rb w B A n c l) (hn : n ≤ 1000000) (a s : Nat) (h : Vm.tk l = (a, s, 0)) :
  Calls Tryz.prog 222 #[.slice A n c] w fun e w' => e = .returned (.tuple #[.int .u64 (a : Int), .int .i64 (s : Int), .int .i64 0]) ∧ w = w' :=
 (number_c A n c B l w hr hn).mono fun e w' ⟨he, hw⟩ => ⟨by rw [he, h]; rfl, hw⟩
theorem number_err (A : Option Addr) (n c B : Nat) (l : List UInt8) (w : World) (hr : Rb w B A n c l) (hn : n ≤ 1000000) (x : Nat) (h : Vm.tk l = (0, 0, x)) :
  Calls Tryz.prog 222 #[.slice A n c] w fun e w' => e = .returned (.tuple #[.int .u64 0, .int .i64 0, .int .i64 (x : Int)]) ∧ w = w' :=
 (number_c A n c B l w hr hn).mono fun e w' ⟨he, hw⟩ => ⟨by rw [he, h]; rfl, hw⟩
theorem ret3_len {u v : Value} {A : Option Addr} {c n m : Nat} (h : n = m) : Ending.returned (.tuple #[u, .slice A n c, v]) = .returned (.tuple #[u, .slice A m c, v]) := by rw [h]
theorem tk_cases (l : List UInt8) : (∃ a s, Vm.tk l = (a, s, 0) ∧ a < 18446744073709551616 ∧ s ≤ l.length ∧ s ≤ 10) ∨ (∃ x, Vm.tk l = (0, 0, x) ∧ (x = 2 ∨ x = 3)) := by
 have hs := Vm.tk_size l
 rcases h : Vm.tk l with ⟨a, s, x⟩
 rw [h] at hs
 by_cases h0 : x = 0
 ·subst h0
  exact .inl ⟨a, s, rfl, hs.2.2, hs.1, hs.2.1⟩
 ·have h1 := Vm.tk_err l (by rw [h]; exact h0)
  have h2 := Vm.tk_kinds l
  rw [h] at h1 h2
  obtain ⟨rfl,rfl⟩ : a = 0 ∧ s = 0 := h1
  exact .inr ⟨x, rfl, by simpa [h0] using h2⟩
def takeS (l : List UInt8) : Nat × List UInt8 × Nat := if (Vm.tk l).2.2 = 0 then ((Vm.tk l).1, l.drop (Vm.tk l).2.1, 0) else (0, [], (Vm.tk l).2.2)
theorem takeS_ok (l : List UInt8) (a s : Nat) (h : Vm.tk l = (a, s, 0)) : takeS l = (a, l.drop s, 0) := by unfold takeS; rw [h]; simp
theorem takeS_err (l : List UInt8) (x : Nat) (h : Vm.tk l = (0, 0, x)) (hx : x = 2 ∨ x = 3) : takeS l = (0, [], x) := by unfold takeS; rw [h]; simp; omega
def RetT (base : Nat) (w : World) (t : Nat × List UInt8 × Nat) (e : Ending) (w' : World) : Prop :=
 ∃ A c, e = .returned (.tuple #[.int .u64 (t.1 : Int), .slice A t.2.1.length c, .int .i64 (t.2.2 : Int)]) ∧ Own w' 5 base A c t.2.1 ∧ Below base w w'
theorem take_c (A : Option Addr) (n c : Nat) (l : List UInt8) (w : World) (hr : Rb w w.heap.size A n c l) (hn : n ≤ 1000000) :
  Calls Tryz.prog 188 #[.slice A n c] w (RetT w.heap.size w (takeS l)) := by
 have hl := hr.len
 rcases tk_cases l with ⟨a, s, htk, ha, hs, hs10⟩ | ⟨x, htk, hx⟩
 ·obtain ⟨D, hD, hrD⟩ := bty.from_ hr (k := s) (by omega) (s : Int) rfl
  rw [takeS_ok l a s htk]
  have Hr := ek hr; have Htk := ek htk; have HrD := ek hrD; have Hl := ek hl; clear hr htk hrD hl
  go_enter Tryz.func188, Tryz.ntmps188
  go_wp2_with fail
  refine (number_ok A n c _ l _ Hr.out hn a s Htk.out).mono ?_
  rintro e w' ⟨rfl,rfl⟩
  go_wp2_with fail
  refine (grown_c D (n - s) (c - s) _ 0 _ HrD.out (by omega) (by omega)).mono ?_
  rintro e w1 ⟨A1, c1, rfl, hown1, hb1⟩
  go_wp2
  go_ret3
  exact ⟨A1, c1, ret3_len (by simp), hown1, hb1⟩
 ·rw [takeS_err l x htk hx]
  have Hr := ek hr; have Htk := ek htk; clear hr htk hl
  have hx1 : 2 ≤ x := by omega
  clear hx
  go_enter Tryz.func188, Tryz.ntmps188
  go_wp2_with fail
  refine (number_err A n c _ l _ Hr.out hn x Htk.out).mono ?_
  rintro e w' ⟨rfl,rfl⟩
  go_wp2
  go_ret3
  exact ⟨none, 0, rfl, Own.nil _ _ _, Below.refl _ _⟩
def frameS (l : List UInt8) (most : Int) : List UInt8 × Nat × Nat :=
 if (Vm.tk l).2.2 = 0 then
  if most < 0 ∨ most < ((Vm.tk l).1 : Int) then ([], 0, 5)
  else if l.length - (Vm.tk l).2.1 < (Vm.tk l).1 then ([], 0, 2)
  else ((l.take ((Vm.tk l).2.1 + (Vm.tk l).1)).drop (Vm.tk l).2.1, (Vm.tk l).2.1 + (Vm.tk l).1, 0)
 else ([], 0, (Vm.tk l).2.2)
theorem frameS_err (l : List UInt8) (most : Int) (x : Nat) (h : Vm.tk l = (0, 0, x)) (hx : x = 2 ∨ x = 3) : frameS l most = ([], 0, x) := by
 unfold frameS; rw [h]; dsimp only; rw [if_neg (by omega)]
theorem frameS_large (l : List UInt8) (most : Int) (a s : Nat) (h : Vm.tk l = (a, s, 0)) (hm : most < 0 ∨ most < (a : Int)) : frameS l most = ([], 0, 5) := by
 unfold frameS; rw [h]; dsimp only; rw [if_pos rfl, if_pos hm]
theorem frameS_short (l : List UInt8) (most : Int) (a s : Nat) (h : Vm.tk l = (a, s, 0)) (hm : ¬ (most < 0 ∨ most < (a : Int))) (h2 : l.length - s < a) : frameS l most = ([], 0, 2) := by
 unfold frameS; rw [h]; dsimp only; rw [if_pos rfl, if_neg hm, if_pos h2]
theorem frameS_ok (l : List UInt8) (most : Int) (a s : Nat) (h : Vm.tk l = (a, s, 0)) (hm : ¬ (most < 0 ∨ most < (a : Int))) (h2 : ¬ l.length - s < a) : frameS l most = ((l.take (s + a)).drop s, s + a, 0) := by
 unfold frameS; rw [h]; dsimp only; rw [if_pos rfl, if_neg hm, if_neg h2]
def frameE (t : List UInt8 × Nat × Nat) : Ending := .returned (.tuple #[.string ⟨t.1.toArray⟩, .int .i64 (t.2.1 : Int), .int .i64 (t.2.2 : Int)])
theorem frame_c (A : Option Addr) (n c B : Nat) (l : List UInt8) (most : Int) (w : World) (hr : Rb w B A n c l) (hn : n ≤ 1000000) (hm : I64 most) :
  Calls Tryz.prog 239 #[.slice A n c, .int .i64 most] w fun e w' => e = frameE (frameS l most) ∧ w = w' := by
 have hl := hr.len
 rcases tk_cases l with ⟨a, s, htk, ha, hs, hs10⟩ | ⟨x, htk, hx⟩
 ·by_cases h1 : most < 0 ∨ most < (a : Int)
  ·rw [frameS_large l most a s htk h1]
   have Hr := ek hr; have Htk := ek htk; have Hl := ek hl; have Hm := ek hm; have Ha := ek ha; clear hr htk hl hm ha
   by_cases h2 : most < 0
   ·clear h1
    go_enter Tryz.func239, Tryz.ntmps239
    go_wp2_with fail
    refine (number_ok A n c _ l _ Hr.out hn a s Htk.out).mono ?_
    rintro e w' ⟨rfl,rfl⟩
    go_wp2
    go_ret3
    exact ⟨rfl,rfl⟩
   ·have h3 : 0 ≤ most := by omega
    have h4 : most < (a : Int) := by omega
    have hw : IntKind.u64.wrap most = most := by have := Hm.out; unfold I64 at this; rw [IntKind.wrap_u64]; omega
    clear h1 h2
    go_enter Tryz.func239, Tryz.ntmps239
    go_wp2_with fail
    refine (number_ok A n c _ l _ Hr.out hn a s Htk.out).mono ?_
    rintro e w' ⟨rfl,rfl⟩
    go_wp2
    go_ret3
    exact ⟨rfl,rfl⟩
  ·have h3 : 0 ≤ most := by omega
   have h4 : (a : Int) ≤ most := by omega
   have hw : IntKind.u64.wrap most = most := by unfold I64 at hm; rw [IntKind.wrap_u64]; omega
   have hns : ((n : Int) - (s : Int)) = ((n - s : Nat) : Int) := by omega
   by_cases h2 : l.length - s < a
   ·rw [frameS_short l most a s htk h1 h2]
    have h2' : n - s < a := by omega
    have Hr := ek hr; have Htk := ek htk; have Hl := ek hl; have Hm := ek hm; have Ha := ek ha; clear hr htk hl hm ha h1 h2
    have hw2 : IntKind.u64.wrap ((n : Int) - (s : Int)) = (n : Int) - (s : Int) := by rw [IntKind.wrap_u64]; omega
    clear hns
    go_enter Tryz.func239, Tryz.ntmps239
    go_wp2_with fail
    refine (number_ok A n c _ l _ Hr.out hn a s Htk.out).mono ?_
    rintro e w' ⟨rfl,rfl⟩
    go_wp2
    go_ret3
    exact ⟨rfl,rfl⟩
   ·rw [frameS_ok l most a s htk h1 h2]
    have h2' : (a : Int) ≤ (n : Int) - (s : Int) := by omega
    have h2s : s ≤ n := by omega
    obtain ⟨D, hD, hrD⟩ := bty.mid_ hr (i := s) (k := s + a) (by omega) (by omega) (s : Int) ((s : Int) + (a : Int)) rfl (by omega) a (by omega)
    have hcv := bty.conv hrD
    have Hr := ek hr; have Htk := ek htk; have Hl := ek hl; have Hm := ek hm; have Ha := ek ha; clear hr htk hl hm ha h1 h2 hrD
    have hw2 : IntKind.u64.wrap ((n : Int) - (s : Int)) = (n : Int) - (s : Int) := by rw [IntKind.wrap_u64]; omega
    clear hns
    go_enter Tryz.func239, Tryz.ntmps239
    go_wp2_with fail
    refine (number_ok A n c _ l _ Hr.out hn a s Htk.out).mono ?_
    rintro e w' ⟨rfl,rfl⟩
    go_wp2
    go_ret3
    exact ⟨rfl,rfl⟩
 ·rw [frameS_err l most x htk hx]
  have Hr := ek hr; have Htk := ek htk; clear hr htk hl
  have hx1 : 2 ≤ x := by omega
  clear hx
  go_enter Tryz.func239, Tryz.ntmps239
  go_wp2_with fail
  refine (number_err A n c _ l _ Hr.out hn x Htk.out).mono ?_
  rintro e w' ⟨rfl,rfl⟩
  go_wp2
  go_ret3
  exact ⟨rfl,rfl⟩
theorem frameS_cases (l : List UInt8) (most : Int) : (∃ t s, frameS l most = (t, s, 0) ∧ s ≤ l.length ∧ t.length ≤ s) ∨ (∃ x, frameS l most = ([], 0, x) ∧ (x = 2 ∨ x = 3 ∨ x = 5)) := by
 rcases tk_cases l with ⟨a, s, htk, ha, hs, hs10⟩ | ⟨x, htk, hx⟩
 ·by_cases h1 : most < 0 ∨ most < (a : Int)
  ·exact .inr ⟨5, frameS_large l most a s htk h1, by omega⟩
  ·by_cases h2 : l.length - s < a
   ·exact .inr ⟨2, frameS_short l most a s htk h1 h2, by omega⟩
   ·exact .inl ⟨_, _, frameS_ok l most a s htk h1 h2, by omega, by simp; omega⟩
 ·exact .inr ⟨x, frameS_err l most x htk hx, by omega⟩
theorem frame_ok (A : Option Addr) (n c B : Nat) (l : List UInt8) (most : Int) (w : World) (hr : Rb w B A n c l) (hn : n ≤ 1000000) (hm : I64 most) (t : List UInt8) (s : Nat) (h : frameS l most = (t, s, 0)) :
  Calls Tryz.prog 239 #[.slice A n c, .int .i64 most] w fun e w' => e = .returned (.tuple #[.string ⟨t.toArray⟩, .int .i64 (s : Int), .int .i64 0]) ∧ w = w' :=
 (frame_c A n c B l most w hr hn hm).mono fun e w' ⟨he, hw⟩ => ⟨by rw [he, h]; rfl, hw⟩
theorem frame_err (A : Option Addr) (n c B : Nat) (l : List UInt8) (most : Int) (w : World) (hr : Rb w B A n c l) (hn : n ≤ 1000000) (hm : I64 most) (x : Nat) (h : frameS l most = ([], 0, x)) :
  Calls Tryz.prog 239 #[.slice A n c, .int .i64 most] w fun e w' => e = .returned (.tuple #[.string ⟨#[]⟩, .int .i64 0, .int .i64 (x : Int)]) ∧ w = w' :=
 (frame_c A n c B l most w hr hn hm).mono fun e w' ⟨he, hw⟩ => ⟨by rw [he, h]; rfl, hw⟩
def tframeS (l : List UInt8) (most : Int) : List UInt8 × List UInt8 × Nat := if (frameS l most).2.2 = 0 then ((frameS l most).1, l.drop (frameS l most).2.1, 0) else ([], [], (frameS l most).2.2)
theorem tframeS_ok (l : List UInt8) (most : Int) (t : List UInt8) (s : Nat) (h : frameS l most = (t, s, 0)) : tframeS l most = (t, l.drop s, 0) := by unfold tframeS; rw [h]; simp
theorem tframeS_err (l : List UInt8) (most : Int) (x : Nat) (h : frameS l most = ([], 0, x)) (hx : x = 2 ∨ x = 3 ∨ x = 5) : tframeS l most = ([], [], x) := by unfold tframeS; rw [h]; dsimp only; rw [if_neg (by omega)]
def RetF (base : Nat) (w : World) (t : List UInt8 × List UInt8 × Nat) (e : Ending) (w' : World) : Prop :=
 ∃ A c, e = .returned (.tuple #[.string ⟨t.1.toArray⟩, .slice A t.2.1.length c, .int .i64 (t.2.2 : Int)]) ∧ Own w' 5 base A c t.2.1 ∧ Below base w w'
theorem takeFrame_c (A : Option Addr) (n c : Nat) (l : List UInt8) (most : Int) (w : World) (hr : Rb w w.heap.size A n c l) (hn : n ≤ 1000000) (hm : I64 most) :
  Calls Tryz.prog 215 #[.slice A n c, .int .i64 most] w (RetF w.heap.size w (tframeS l most)) := by
 have hl := hr.len
 rcases frameS_cases l most with ⟨t, s, hf, hs, ht⟩ | ⟨x, hf, hx⟩
 ·obtain ⟨D, hD, hrD⟩ := bty.from_ hr (k := s) (by omega) (s : Int) rfl
  rw [tframeS_ok l most t s hf]
  have hsn : s ≤ n := by omega
  have Hr := ek hr; have Hf := ek hf; have HrD := ek hrD; have Hl := ek hl; have Hm := ek hm; clear hr hf hrD hl hm
  go_enter Tryz.func215, Tryz.ntmps215
  go_wp2_with fail
  refine (frame_ok A n c _ l most _ Hr.out hn Hm.out t s Hf.out).mono ?_
  rintro e w' ⟨rfl,rfl⟩
  go_wp2_with fail
  refine (grown_c D (n - s) (c - s) _ 0 _ HrD.out (by omega) (by omega)).mono ?_
  rintro e w1 ⟨A1, c1, rfl, hown1, hb1⟩
  go_wp2
  go_ret3
  exact ⟨A1, c1, ret3_len (by simp), hown1, hb1⟩
 ·rw [tframeS_err l most x hf hx]
  have Hr := ek hr; have Hf := ek hf; have Hm := ek hm; clear hr hf hl hm
  have hx1 : 2 ≤ x := by omega
  clear hx
  go_enter Tryz.func215, Tryz.ntmps215
  go_wp2_with fail
  refine (frame_err A n c _ l most _ Hr.out hn Hm.out x Hf.out).mono ?_
  rintro e w' ⟨rfl,rfl⟩
  go_wp2
  go_ret3
  exact ⟨none, 0, rfl, Own.nil _ _ _, Below.refl _ _⟩
def fr (s : ByteArray) : List UInt8 := Vm.vb s.size ++ s.data.toList
theorem nty : N32 Tryz.prog 141 173 := ⟨Tryz.underlying141, Tryz.underlying173, by kernel_rfl⟩
theorem entry_c (n : Nat) (w : World) (h : n < 4294967296) :
  Calls Tryz.prog 138 #[.int .u32 (n : Int)] w fun e w' => e = .returned (.int .u32 (Cm.ent n : Nat)) ∧ w = w' := by
 obtain ⟨N, hN⟩ : ∃ N, N = Cm.ent n := ⟨_, rfl⟩
 rw [← hN]
 have HN := ek hN; have Hn := ek h; clear hN h
 go_enter Tryz.func138, Tryz.ntmps138
 go_wp2
 go_loop [4, 0] (fun i t => ∃ k m : Nat, k ≤ 8 ∧ i = .int .i64 (k : Int) ∧ t = .int .u32 (m : Int) ∧ Hid (Cm.iter (8 - k) m = N ∧ m < 4294967296)) (fun i _ => 8 - (intOf i).toNat)
 case atStart => exact ⟨0, n, by omega, rfl, rfl, ek ⟨HN.out.symm, Hn.out⟩⟩
 case round =>
  obtain ⟨k, m, hk, rfl, rfl, H⟩ := hrel
  by_cases hlt : k < 8
  ·have H2 : Cm.iter (8 - (k + 1)) (Cm.step m) = N := by
    have := H.out.1
    rw [show 8 - k = (8 - (k + 1)) + 1 by omega, Cm.iter_succ] at this
    exact this
   have H3 := Cm.step_lt m H.out.2
   have Hs := ek (And.intro H2 H3); clear H2 H3
   by_cases ho : m % 2 = 1
   ·have hI : (m : Int) % 2 = 1 := by omega
    have Ho := ek ho; clear ho
    go_wp2
    go_round
    case rel =>
     refine ⟨k + 1, Cm.step m, by omega, by go_num, ?_, Hs⟩
     rw [Cm.step_odd m Ho.out, xor32 (a := (m : Int) / 2) (b := 3988292384) (m / 2) 3988292384 (by omega) rfl (by have := H.out.2; omega) (by omega)]
    case measure => simp [intOf]; omega
   ·have hI : (m : Int) % 2 = 0 := by omega
    have Ho := ek ho; clear ho
    go_wp2
    go_round
    case rel =>
     refine ⟨k + 1, Cm.step m, by omega, by go_num, ?_, Hs⟩
     rw [Cm.step_even m (by have := Ho.out; omega)]
     go_num
    case measure => simp [intOf]; omega
  ·go_wp2
   go_ret
   obtain rfl : k = 8 := by omega
   have h1 := H.out.1
   have h2 : m = N := h1
   subst h2
   exact ⟨rfl,rfl⟩
theorem rentry_c (n : Nat) (w : World) (h : n < 256) :
  Calls Tryz.prog 158 #[.int .i64 (n : Int)] w fun e w' => e = .returned (.int .u32 (Cm.ent n : Nat)) ∧ w = w' := by
 obtain ⟨N, hN⟩ : ∃ N, N = Cm.ent n := ⟨_, rfl⟩
 rw [← hN]
 have HN := ek hN; clear hN
 have hwr : IntKind.u32.wrap (n : Int) = (n : Int) := by rw [IntKind.wrap_u32']; omega
 go_enter Tryz.func158, Tryz.ntmps158
 go_wp2
 go_loop [4, 3] (fun i t => ∃ k m : Nat, k ≤ 8 ∧ i = .int .i64 (k : Int) ∧ t = .int .u32 (m : Int) ∧ Hid (Cm.iter (8 - k) m = N ∧ m < 4294967296)) (fun i _ => 8 - (intOf i).toNat)
 case atStart => exact ⟨0, n, by omega, rfl, rfl, ek ⟨HN.out.symm, by omega⟩⟩
 case round =>
  obtain ⟨k, m, hk, rfl, rfl, H⟩ := hrel
  clear hwr
  by_cases hlt : k < 8
  ·have H2 : Cm.iter (8 - (k + 1)) (Cm.step m) = N := by
    have := H.out.1
    rw [show 8 - k = (8 - (k + 1)) + 1 by omega, Cm.iter_succ] at this
    exact this
   have H3 := Cm.step_lt m H.out.2
   have Hs := ek (And.intro H2 H3); clear H2 H3
   by_cases ho : m % 2 = 1
   ·have hI : (m : Int) % 2 = 1 := by omega
    have Ho := ek ho; clear ho
    go_wp2
    go_round
    case rel =>
     refine ⟨k + 1, Cm.step m, by omega, by go_num, ?_, Hs⟩
     rw [Cm.step_odd m Ho.out, xor32 (a := (m : Int) / 2 % 4294967296) (b := 3988292384) (m / 2) 3988292384 (by have := H.out.2; omega) rfl (by have := H.out.2; omega) (by omega)]
    case measure => simp [intOf]; omega
   ·have hI : (m : Int) % 2 = 0 := by omega
    have Ho := ek ho; clear ho
    go_wp2
    go_round
    case rel =>
     refine ⟨k + 1, Cm.step m, by omega, by go_num, ?_, Hs⟩
     rw [Cm.step_even m (by have := Ho.out; omega), show (m : Int) / 2 % 4294967296 = ((m / 2 : Nat) : Int) by have := H.out.2; omega]
    case measure => simp [intOf]; omega
  ·go_wp2
   go_ret
   obtain rfl : k = 8 := by omega
   have h1 := H.out.1
   have h2 : m = N := h1
   subst h2
   exact ⟨rfl,rfl⟩
theorem updated_c (A : Option Addr) (n c B : Nat) (t : List Nat) (D : Option Addr) (m d B2 : Nat) (l : List UInt8) (r : Nat) (w : World) (ht : Rn w B A n c t) (hn : n = 256) (hl : Rb w B2 D m d l) (hm : m ≤ 1000000) (hr : r < 4294967296) :
  Calls Tryz.prog 214 #[.slice A n c, .int .u32 (r : Int), .slice D m d] w fun e w' => e = .returned (.int .u32 (Cm.more t r l : Nat)) ∧ w = w' := by
 subst hn
 obtain ⟨N, hN⟩ : ∃ N, N = Cm.more t r l := ⟨_, rfl⟩
 rw [← hN]
 have HN := ek hN; have Hr := ek hr; have Ht := ek ht; have Hl := ek hl; clear hN hr ht hl
 go_enter Tryz.func214, Tryz.ntmps214
 go_wp2
 go_loop [11, 1] (fun i t' => ∃ k q : Nat, k ≤ m ∧ i = .int .i64 (k : Int) ∧ t' = .int .u32 (q : Int) ∧ Hid (Cm.more t q (l.drop k) = N ∧ q < 4294967296)) (fun i _ => m - (intOf i).toNat)
 case atStart => exact ⟨0, r, by omega, rfl, rfl, ek ⟨HN.out.symm, Hr.out⟩⟩
 case round =>
  obtain ⟨k, q, hk, rfl, rfl, H⟩ := hrel
  by_cases hlt : k < m
  ·obtain ⟨b, off, x, rfl, hb, hc, hx, hd⟩ := Hl.out.at_ hlt
   have hix := Cm.idx_lt q x
   have hxl := x.toNat_lt
   have e1 : bits .xor .u8 ((q : Int) % 256) (x.toNat : Int) = ((q % 256 ^^^ x.toNat : Nat) : Int) := xor8 _ _ (by omega) rfl (by omega) (by omega)
   obtain ⟨j, hj⟩ : ∃ j, j = q % 256 ^^^ x.toNat := ⟨_, rfl⟩
   rw [← hj] at hix e1
   obtain ⟨b', off', y, rfl, hb', hc', hy, hyl, hg⟩ := Ht.out.at_ hix
   have Hd := ek hd; have Hx := ek hx; have Hy := ek hy; have Hg := ek hg; have Hj := ek hj; clear hd hx hy hg hj
   go_wp2
   go_round
   case rel =>
    refine ⟨k + 1, Cm.upd t q x, by omega, by go_num, ?_, ek ⟨?_, Cm.upd_lt t Ht.out.fits q H.out.2 x⟩⟩
    ·unfold Cm.upd
     rw [← Hj.out, Hg.out, xor32 (a := (y : Int)) (b := (q : Int) / 256) y (q / 256) rfl (by omega) hyl (by have := H.out.2; omega)]
    ·have := H.out.1
     rw [Hd.out, Cm.more_cons] at this
     exact this
   case measure => simp [intOf]; omega
  ·go_wp2
   go_ret
   obtain rfl : k = m := by omega
   have h1 := H.out.1
   rw [List.drop_of_length_le (by rw [Hl.out.len]; omega)] at h1
   have h2 : q = N := h1
   subst h2
   exact ⟨rfl,rfl⟩
theorem checksum_c (A : Option Addr) (n c B : Nat) (t : List Nat) (D : Option Addr) (m d B2 : Nat) (l : List UInt8) (w : World) (ht : Rn w B A n c t) (hn : n = 256) (hl : Rb w B2 D m d l) (hm : m ≤ 1000000) :
  Calls Tryz.prog 177 #[.slice A n c, .slice D m d] w fun e w' => e = .returned (.int .u32 (Cm.sum t l : Nat)) ∧ w = w' := by
 have hlt := Cm.more_lt t ht.fits l 4294967295 (by omega)
 have Hlt := ek hlt; have Ht := ek ht; have Hl := ek hl; have Hn := ek hn; clear ht hl hn hlt
 obtain ⟨N, hN⟩ : ∃ N, N = Cm.more t 4294967295 l := ⟨_, rfl⟩
 go_enter Tryz.func177, Tryz.ntmps177
 go_wp2_with fail
 refine (updated_c A n c B t D m d B2 l 4294967295 _ Ht.out Hn.out Hl.out hm (by omega)).mono ?_
 rintro e w' ⟨rfl,rfl⟩
 rw [← hN] at Hlt ⊢
 have HN := ek hN; clear hN
 go_wp2
 go_ret
 refine ⟨ret_int ?_, rfl⟩
 unfold Cm.sum
 rw [← HN.out]
 exact xor32 (a := IntKind.u32.max) (b := (N : Int)) 4294967295 N rfl rfl (by omega) Hlt.out
theorem sumByte_c (r i : Nat) (w : World) (hr : r < 4294967296) (hi : i < 4) :
  Calls Tryz.prog 178 #[.int .u32 (r : Int), .int .i64 (i : Int)] w fun e w' => e = .returned (.int .u8 ((Cm.byteAt r i).toNat : Int)) ∧ w = w' := by
 have hb := Cm.byteAt_nat r i
 obtain ⟨x, hx⟩ : ∃ x, x = (Cm.byteAt r i).toNat := ⟨_, rfl⟩
 rw [← hx] at hb ⊢
 have Hr := ek hr; have Hb := ek hb; clear hr hb hx
 match i, hi with
 | 0, _ =>
  go_enter Tryz.func178, Tryz.ntmps178
  go_wp2
  go_ret
  refine ⟨ret_int ?_, rfl⟩
  have h1 := Hb.out; have h2 := Hr.out
  simp only [Nat.pow_zero] at h1
  rw [h1]
  simp
 | 1, _ =>
  go_enter Tryz.func178, Tryz.ntmps178
  go_wp2
  go_ret
  refine ⟨ret_int ?_, rfl⟩
  have h1 := Hb.out; have h2 := Hr.out
  simp only [Nat.reducePow] at h1
  rw [h1]
  simp
 | 2, _ =>
  go_enter Tryz.func178, Tryz.ntmps178
  go_wp2
  go_ret
  refine ⟨ret_int ?_, rfl⟩
  have h1 := Hb.out; have h2 := Hr.out
  simp only [Nat.reducePow] at h1
  rw [h1]
  simp
 | 3, _ =>
  go_enter Tryz.func178, Tryz.ntmps178
  go_wp2
  go_ret
  refine ⟨ret_int ?_, rfl⟩
  have h1 := Hb.out; have h2 := Hr.out
  simp only [Nat.reducePow] at h1
  rw [h1]
  simp
def RetTab (w : World) (e : Ending) (w' : World) : Prop :=
 e = .returned (.slice (some ⟨w.heap.size, 0,none⟩) 256 256) ∧ Rn w' w'.heap.size (some ⟨w.heap.size, 0,none⟩) 256 256 Cm.tab ∧ Below w.heap.size w w' ∧ w.heap.size < w'.heap.size
def TabRel (w : World) (i : Value) (wr : World) : Prop :=
 ∃ k : Nat, k ≤ 256 ∧ i = .int .i64 (k : Int) ∧ Tbl wr 173 w.heap.size 256 (Cm.tab.take k ++ List.replicate (256 - k) 0) ∧ Below w.heap.size w wr
theorem tab_next (k : Nat) (h : k < 256) : (Cm.tab.take k ++ List.replicate (256 - k) 0).set k (Cm.ent k) = Cm.tab.take (k + 1) ++ List.replicate (256 - (k + 1)) 0 := by
 have hl : (Cm.tab.take k).length = k := by rw [List.length_take, Cm.tab_len]; omega
 have ht : Cm.tab.take (k + 1) = Cm.tab.take k ++ [Cm.ent k] := by
  rw [List.take_add_one, Cm.tab_get k h]; rfl
 rw [List.set_append_right _ _ (by omega), hl, Nat.sub_self, show 256 - k = (256 - (k + 1)) + 1 by omega, List.replicate_succ, List.set_cons_zero, ht, List.append_assoc]
 rfl
theorem tab_some (k : Nat) (h : k < 256) : (Cm.tab.take k ++ List.replicate (256 - k) 0)[k]? = some 0 := by
 have hl : (Cm.tab.take k).length = k := by rw [List.length_take, Cm.tab_len]; omega
 rw [List.getElem?_append_right (by omega), hl, Nat.sub_self, show 256 - k = (256 - (k + 1)) + 1 by omega, List.replicate_succ]
 rfl
theorem tab_full {wr : World} {e : TypeId} {g : Nat} (h : Tbl wr e g 256 (Cm.tab.take 256 ++ List.replicate (256 - 256) 0)) : Tbl wr e g 256 Cm.tab := by
 rw [List.take_of_length_le (by rw [Cm.tab_len]; omega)] at h
 simpa using h
theorem table_c (w : World) : Calls Tryz.prog 101 #[] w (RetTab w) := by
 have hmk := nty.make w 256 256 rfl (by omega)
 go_enter Tryz.func101, Tryz.ntmps101
 go_wp2
 go_loopw [6] (fun i wr => TabRel w i wr) (fun i _ => 256 - (intOf i).toNat)
 case atStart => exact ⟨0, by omega, rfl, Tbl.made w _ 256 (by omega), ej _ _⟩
 case round =>
  obtain ⟨k, hk, rfl, ht, hb⟩ := hrel
  clear hmk
  by_cases hlt : k < 256
  ·have hcell := ht.cell k 0 (tab_some k hlt)
   have hfr := ht.frozen k
   have hu : IntKind.u32.wrap (k : Int) = (k : Int) := by rw [IntKind.wrap_u32']; omega
   have Ht := ek ht; clear ht
   go_wp2_with fail
   refine (entry_c k _ (by omega)).mono ?_
   rintro e w' ⟨rfl,rfl⟩
   go_wp2
   go_roundw
   case rel =>
    refine ⟨k + 1, by omega, by go_num, ?_, hb.setCell (Nat.le_refl _) _⟩
    rw [← tab_next k hlt]
    exact Ht.out.set k (Cm.ent k)
   case measure => simp [intOf]; omega
  ·obtain rfl : k = 256 := by omega
   have h1 := tab_full ht
   have hlt := h1.lt
   have Ht := ek h1; clear ht h1
   go_wp2
   go_ret
   exact ⟨rfl, Ht.out.rn Cm.tab_lt (by omega), hb, hlt⟩
def LeadRel (l : List UInt8) (n : Nat) (t : Value) : Prop := ∃ k : Nat, t = .int .i64 (k : Int) ∧ k ≤ n ∧ k ≤ 10 ∧ Vm.Lead k l
def HornRel (l : List UInt8) (k : Nat) (a t : Value) : Prop :=
 ∃ (j : Nat) (z : Int), t = .int .i64 z ∧ z = (j : Int) - 1 ∧ j ≤ k + 1 ∧ a = .int .u64 ((Vm.val ((l.take (k + 1)).drop j) % 18446744073709551616 : Nat) : Int)
theorem horn_step (V x : Nat) : IntKind.u64.wrap (IntKind.u64.wrap (((V % 18446744073709551616 : Nat) : Int) * 128) + (x % 128 : Nat)) = (((x % 128 + 128 * V) % 18446744073709551616 : Nat) : Int) := by
 simp only [IntKind.wrap_u64]
 omega
theorem rtake_c (A : Option Addr) (n c : Nat) (l : List UInt8) (w : World) (hr : Rb w w.heap.size A n c l) (hn : n ≤ 1000000) :
  Calls Tryz.prog 116 #[.slice A n c] w (RetT w.heap.size w (takeS l)) := by
 have hl := hr.len
 have Hr := ek hr; have Hl := ek hl; clear hr hl
 go_enter Tryz.func116, Tryz.ntmps116
 go_wp2
 go_loop [5] (fun t => LeadRel l n t) (fun t => 10 - (intOf t).toNat)
 case atStart => exact ⟨0, rfl, by omega, by omega, Vm.Lead.zero l⟩
 case round =>
  obtain ⟨k, rfl, hk, hk10, hlead⟩ := hrel
  have HL := ek hlead; clear hlead
  by_cases h10 : k = 10
  ·have h10' : 10 ≤ k := by omega
   have Hfin := ek (show takeS l = (0, [], 3) by
    have h := HL.out; rw [h10] at h
    exact takeS_err l 3 (Vm.tk_ten l h) (by omega))
   clear h10
   by_cases hkn : k < n
   ·have hd : decide ((k : Int) < 10) = false := by simp; omega
    go_wp2
    go_ret3
    rw [Hfin.out]
    exact ⟨none, 0, rfl, Own.nil _ _ _, Below.refl _ _⟩
   ·have hd : decide ((k : Int) < (n : Int)) = false := by simp; omega
    go_wp2
    go_ret3
    rw [Hfin.out]
    exact ⟨none, 0, rfl, Own.nil _ _ _, Below.refl _ _⟩
  ·have hk9 : k ≤ 9 := by omega
   by_cases hkn : k < n
   ·obtain ⟨b, off, x, rfl, hb, hcell, hx, hdrop⟩ := Hr.out.at_ hkn
    have Hx := ek hx; clear hx hdrop
    have hx256 : x.toNat < 256 := x.toNat_lt
    by_cases h128 : 128 ≤ x.toNat
    ·go_wp2
     go_round
     case rel => exact ⟨k + 1, by go_num, by omega, by omega, HL.out.succ Hx.out h128⟩
     case measure => simp [intOf]; omega
    ·have h128' : x.toNat < 128 := by omega
     clear h10
     have hd128 : decide ((128 : Int) ≤ (x.toNat : Int)) = false := by simp; omega
     go_wp2
     go_loop [6, 7] (fun a t => HornRel l k a t) (fun _ t => (intOf t + 1).toNat)
     case atStart => exact ⟨k + 1, k, rfl, by omega, by omega, by rw [List.drop_of_length_le (by simp; omega)]; rfl⟩
     case round =>
      obtain ⟨j, z, rfl, hz, hj, rfl⟩ := hrel
      rcases j with _ | i
      ·obtain rfl : z = -1 := by omega
       obtain ⟨M, hM⟩ : ∃ M, M = Vm.val ((l.take (k + 1)).drop 0) % 18446744073709551616 := ⟨_, rfl⟩
       have hM64 : M < 18446744073709551616 := by rw [hM]; exact Nat.mod_lt _ (by omega)
       rw [← hM]
       rw [List.drop_zero] at hM
       have told := Vm.tk_told l k HL.out hk9 x Hx.out h128'
       rw [← hM] at told
       have Told := ek told; have HM := ek hM64; clear told hM hM64 hz hj
       obtain ⟨D, hD, hrD⟩ := bty.upto_ Hr.out (k := k + 1) (by omega) ((k : Int) + 1) (by omega)
       have hcvb : ∀ q, (convert 22 9 (.slice D (k + 1) c)).run Tryz.prog (w.drewN q) = .ok (.string ⟨(l.take (k + 1)).toArray⟩) (w.drewN q) := fun q => bty.conv (hrD.drewN q)
       have hcvb1 : (convert 22 9 (.slice D (k + 1) c)).run Tryz.prog w.drew = .ok (.string ⟨(l.take (k + 1)).toArray⟩) w.drew := bty.conv (hrD.drewN 1)
       have HrD := ek hrD; clear hrD
       have hnlt : n < 140737488355328 := by omega
       by_cases hv : Vm.vb M = l.take (k + 1)
       ·have hbq : (Vm.vb M == l.take (k + 1)) = true := by simp [hv]
        have Hfin := ek (takeS_ok l M (k + 1) (Told.out.1 hv))
        clear hv
        obtain ⟨D2, hD2, hrD2⟩ := bty.from_ Hr.out (k := k + 1) (by omega) ((k : Int) + 1) (by omega)
        have HrD2 := ek hrD2; clear hrD2
        have hdl : (l.drop (k + 1)).length ≤ 1000000 := by rw [List.length_drop, Hl.out]; omega
        go_wp2
        have hwk : IntKind.i64.wrap ((k : Int) + 1) = (k : Int) + 1 := IntWalk.i64_in _ (by omega)
        go_region_with (go_at_call 156; refine (bytesOf_c M _ HM.out).mono ?_; rintro e w3 ⟨A3, c3, rfl, hown3, hb3⟩; have hb3' : Below w.heap.size w w3 := ⟨hb3.os, hb3.tape, hb3.output, hb3.size, hb3.block⟩; have hcv3 := bty.conv hown3.rb; have hcvb3 := bty.conv (HrD.out.below hb3'))
        all_goals
         clear hwk
         have hz3 := hb3'.size
         go_wp2_with (at_builtin; go_must (refine bty.wpApp rfl (.tmp 55) (.tmp 59) rfl (l := []) (r := l.drop (k + 1)) rfl rfl (Own.made0 _ _) ((HrD2.out.below hb3').alloc hz3 _) (by simp only [List.length_nil]; omega) (by simp) ?_); intro A4 c4 w4 hown4 hb4)
         go_ret3
         rw [Hfin.out]
         exact ⟨A4, c4, ret3_len (by simp), (by have := hown4.mono (base' := w.heap.size) hz3; simpa using this), (hb3'.alloc hz3 _).trans (hb4.mono hz3)⟩
       ·have hbq : (Vm.vb M == l.take (k + 1)) = false := by simp [hv]
        have Hfin := ek (takeS_err l 3 (Told.out.2 hv) (by omega))
        clear hv
        go_wp2
        have hwk : IntKind.i64.wrap ((k : Int) + 1) = (k : Int) + 1 := IntWalk.i64_in _ (by omega)
        go_region_with (go_at_call 156; refine (bytesOf_c M _ HM.out).mono ?_; rintro e w3 ⟨A3, c3, rfl, hown3, hb3⟩; have hb3' : Below w.heap.size w w3 := ⟨hb3.os, hb3.tape, hb3.output, hb3.size, hb3.block⟩; have hcv3 := bty.conv hown3.rb; have hcvb3 := bty.conv (HrD.out.below hb3'))
        all_goals
         go_wp2
         go_ret3
         rw [Hfin.out]
         exact ⟨none, 0, rfl, Own.nil _ _ _, hb3'⟩
      ·obtain rfl : z = (i : Int) := by omega
       obtain ⟨b', off', y, hA, hb', hcell', hy, hdrop'⟩ := Hr.out.at_ (k := i) (by omega)
       obtain ⟨rfl,rfl⟩ : b' = b ∧ off' = off := by injection hA with hA; injection hA with h1 h2; exact ⟨h1.symm, h2.symm⟩
       have hstep : (l.take (k + 1)).drop i = y :: (l.take (k + 1)).drop (i + 1) := by
        obtain ⟨hil, hiy⟩ := List.getElem?_eq_some_iff.1 hy
        rw [List.drop_eq_getElem_cons (by simp; omega), List.getElem_take, hiy]
       have Hstep := ek hstep; have HA := ek hA; clear hstep hA hy hdrop' hz
       have hin : i < n := by omega
       obtain ⟨V, hV⟩ : ∃ V, V = Vm.val ((l.take (k + 1)).drop (i + 1)) := ⟨_, rfl⟩
       rw [← hV]
       obtain ⟨V', hV'⟩ : ∃ V', V' = V % 18446744073709551616 := ⟨_, rfl⟩
       rw [← hV']
       have HV := ek hV; have HV' := ek hV'; clear hV hV'
       have hy256 : y.toNat < 256 := y.toNat_lt
       go_wp2
       go_round
       case rel =>
        refine ⟨i, (i : Int) - 1, rfl, rfl, by omega, ?_⟩
        rw [Hstep.out, Vm.val, ← HV.out, ← horn_step V y.toNat, ← HV'.out]
        rfl
       case measure => simp [intOf]
   ·have Hfin := ek (show takeS l = (0, [], 2) from takeS_err l 2 (Vm.tk_short l k HL.out (by rw [Hl.out]; omega) (by omega)) (by omega))
    have hd : decide ((k : Int) < (n : Int)) = false := by simp; omega
    have hkn' : n ≤ k := by omega
    go_wp2
    go_ret3
    rw [Hfin.out]
    exact ⟨none, 0, rfl, Own.nil _ _ _, Below.refl _ _⟩
theorem rtake_ok (A : Option Addr) (n c : Nat) (l : List UInt8) (w : World) (hr : Rb w w.heap.size A n c l) (hn : n ≤ 1000000) (a s : Nat) (h : Vm.tk l = (a, s, 0)) :
  Calls Tryz.prog 116 #[.slice A n c] w (RetT w.heap.size w (a, l.drop s, 0)) := by
 have h' := rtake_c A n c l w hr hn
 rw [takeS_ok l a s h] at h'
 exact h'
theorem rtake_err (A : Option Addr) (n c : Nat) (l : List UInt8) (w : World) (hr : Rb w w.heap.size A n c l) (hn : n ≤ 1000000) (x : Nat) (h : Vm.tk l = (0, 0, x)) (hx : x = 2 ∨ x = 3) :
  Calls Tryz.prog 116 #[.slice A n c] w (RetT w.heap.size w (0, [], x)) := by
 have h' := rtake_c A n c l w hr hn
 rw [takeS_err l x h hx] at h'
 exact h'
theorem rtakeFrame_c (A : Option Addr) (n c : Nat) (l : List UInt8) (most : Int) (w : World) (hr : Rb w w.heap.size A n c l) (hn : n ≤ 1000000) (hm : I64 most) :
  Calls Tryz.prog 119 #[.slice A n c, .int .i64 most] w (RetF w.heap.size w (tframeS l most)) := by
 have hl := hr.len
 rcases tk_cases l with ⟨a, s, htk, ha, hs, hs10⟩ | ⟨x, htk, hx⟩
 ·by_cases h1 : most < 0 ∨ most < (a : Int)
  ·rw [tframeS_err l most 5 (frameS_large l most a s htk h1) (by omega)]
   have Hr := ek hr; have Htk := ek htk; have Hl := ek hl; have Hm := ek hm; have Ha := ek ha; clear hr htk hl hm ha
   by_cases h2 : most < 0
   ·clear h1
    go_enter Tryz.func119, Tryz.ntmps119
    go_wp2_with fail
    refine (rtake_ok A n c l _ Hr.out hn a s Htk.out).mono ?_
    rintro e w1 ⟨A1, c1, rfl, hown1, hb1⟩
    go_wp2
    go_ret3
    exact ⟨none, 0, rfl, Own.nil _ _ _, hb1⟩
   ·have h3 : 0 ≤ most := by omega
    have h4 : most < (a : Int) := by omega
    have hw : IntKind.u64.wrap most = most := by have := Hm.out; unfold I64 at this; rw [IntKind.wrap_u64]; omega
    clear h1 h2
    go_enter Tryz.func119, Tryz.ntmps119
    go_wp2_with fail
    refine (rtake_ok A n c l _ Hr.out hn a s Htk.out).mono ?_
    rintro e w1 ⟨A1, c1, rfl, hown1, hb1⟩
    go_wp2
    go_ret3
    exact ⟨none, 0, rfl, Own.nil _ _ _, hb1⟩
  ·have h3 : 0 ≤ most := by omega
   have h4 : (a : Int) ≤ most := by omega
   have hw : IntKind.u64.wrap most = most := by unfold I64 at hm; rw [IntKind.wrap_u64]; omega
   have hdl : (l.drop s).length = l.length - s := List.length_drop
   obtain ⟨R, hR⟩ : ∃ R, R = l.drop s := ⟨_, rfl⟩
   rw [← hR] at hdl
   have hw2 : IntKind.u64.wrap (R.length : Int) = (R.length : Int) := by rw [IntKind.wrap_u64]; omega
   have take1 : ∀ W, Rb W W.heap.size A n c l → Calls Tryz.prog 116 #[.slice A n c] W (RetT W.heap.size W (a, R, 0)) := fun W h => by rw [hR]; exact rtake_ok A n c l W h hn a s htk
   have T1 := ek take1; clear take1
   by_cases h2 : l.length - s < a
   ·rw [tframeS_err l most 2 (frameS_short l most a s htk h1 h2) (by omega)]
    have h2' : R.length < a := by omega
    have Hr := ek hr; have Htk := ek htk; have Hl := ek hl; have Hm := ek hm; have Ha := ek ha; have HR := ek hR; clear hr htk hl hm ha h1 h2 hdl hR
    go_enter Tryz.func119, Tryz.ntmps119
    go_wp2_with fail
    refine (T1.out _ Hr.out).mono ?_
    rintro e w1 ⟨A1, c1, rfl, hown1, hb1⟩
    go_wp2
    go_ret3
    exact ⟨none, 0, rfl, Own.nil _ _ _, hb1⟩
   ·have hfin : tframeS l most = (R.take a, R.drop a, 0) := by
     rw [tframeS_ok l most _ _ (frameS_ok l most a s htk h1 h2), hR, List.drop_drop, List.drop_take]
     simp
    rw [hfin]
    have h2' : a ≤ R.length := by omega
    have hRl : R.length ≤ 1000000 := by omega
    have Hr := ek hr; have Htk := ek htk; have Hl := ek hl; have Hm := ek hm; have Ha := ek ha; have HR := ek hR; clear hr htk hl hm ha h1 h2 hdl hR hfin
    go_enter Tryz.func119, Tryz.ntmps119
    go_wp2_with fail
    refine (T1.out _ Hr.out).mono ?_
    rintro e w1 ⟨A1, c1, rfl, hown1, hb1⟩
    have hz1 := hb1.size
    obtain ⟨D, hD, hrD⟩ := bty.upto_ hown1.rb (k := a) h2' (a : Int) rfl
    obtain ⟨D2, hD2, hrD2⟩ := bty.from_ hown1.rb (k := a) h2' (a : Int) rfl
    have hcv1 : (convert 22 9 (.slice D a c1)).run Tryz.prog w1.drew = .ok (.string ⟨(R.take a).toArray⟩) w1.drew := bty.conv (hrD.drewN 1)
    have hcv2 : (convert 22 9 (.slice D a c1)).run Tryz.prog (w1.alloc (.cells #[] 5)).drew = .ok (.string ⟨(R.take a).toArray⟩) (w1.alloc (.cells #[] 5)).drew := bty.conv ((hrD.alloc (Nat.le_refl _) _).drewN 1)
    have HrD := ek hrD; have HrD2 := ek hrD2; clear hrD hrD2
    go_wp2
    go_region_law (refine bty.stepApp rfl (.tmp 36) (.tmp 39) rfl (l := []) (r := R.drop a) rfl rfl (base := w1.heap.size) ((Own.made0 w1 _).drewN 1) ((HrD2.out.alloc (Nat.le_refl _) _).drewN 1) (by simp; omega) (by simp) ?_; intro A4 c4 w4 hown4 hb4; have hb4' : Below w1.heap.size w1 w4 := (ej _ _).trans ⟨hb4.os, hb4.tape, hb4.output, hb4.size, hb4.block⟩; have hcv4 := bty.conv (HrD.out.below hb4'))
    all_goals
     go_wp2
     go_ret3
     exact ⟨A4, c4, ret3_len (by simp), (by have := hown4.mono (base' := w.heap.size) hz1; simpa using this), hb1.trans (hb4'.mono hz1)⟩
 ·rw [tframeS_err l most x (frameS_err l most x htk hx) (by omega)]
  have Hr := ek hr; have Htk := ek htk; have Hx := ek hx; clear hr htk hl
  have hx1 : 2 ≤ x := by omega
  clear hx
  go_enter Tryz.func119, Tryz.ntmps119
  go_wp2_with fail
  refine (rtake_err A n c l _ Hr.out hn x Htk.out Hx.out).mono ?_
  rintro e w1 ⟨A1, c1, rfl, hown1, hb1⟩
  go_wp2
  go_ret3
  exact ⟨none, 0, rfl, Own.nil _ _ _, hb1⟩
theorem rtf_ok (A : Option Addr) (n c : Nat) (l : List UInt8) (most : Int) (w : World) (hr : Rb w w.heap.size A n c l) (hn : n ≤ 1000000) (hm : I64 most) (t : List UInt8) (s : Nat) (h : frameS l most = (t, s, 0)) :
  Calls Tryz.prog 119 #[.slice A n c, .int .i64 most] w (RetF w.heap.size w (t, l.drop s, 0)) := by
 have h' := rtakeFrame_c A n c l most w hr hn hm
 rw [tframeS_ok l most t s h] at h'
 exact h'
theorem rtf_err (A : Option Addr) (n c : Nat) (l : List UInt8) (most : Int) (w : World) (hr : Rb w w.heap.size A n c l) (hn : n ≤ 1000000) (hm : I64 most) (x : Nat) (h : frameS l most = ([], 0, x)) (hx : x = 2 ∨ x = 3 ∨ x = 5) :
  Calls Tryz.prog 119 #[.slice A n c, .int .i64 most] w (RetF w.heap.size w ([], [], x)) := by
 have h' := rtakeFrame_c A n c l most w hr hn hm
 rw [tframeS_err l most x h hx] at h'
 exact h'
end Go.Proofs.YtkekmokdlgocaaaGreatDoor
namespace Go.Proofs.YtkekmokdlgocaaaGreatDoor.Cht
open Go.RowKit
def RetO (base : Nat) (w : World) (A : Option Addr) (L : List UInt8) (e : Ending) (w' : World) : Prop :=
 ∃ A' c', e = .returned (.slice A' L.length c') ∧ Own w' 5 base A' c' L ∧ Grows w w' A A'
def slen : Value → Nat | .slice _ n _ => n | _ => 0
end Go.Proofs.YtkekmokdlgocaaaGreatDoor.Cht
