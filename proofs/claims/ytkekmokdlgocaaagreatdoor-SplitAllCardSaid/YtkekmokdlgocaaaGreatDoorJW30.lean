import Derived.Test.YtkekmokdlgocaaaGreatDoorJW29
import Derived.Test.YtkekmokdlgocaaaGreatDoorJW13
set_option maxRecDepth 100000
set_option maxHeartbeats 4000000
namespace Go.Proofs.YtkekmokdlgocaaaGreatDoor.Cht
open Go.RowKit
def ev (x : Nat × Nat × Nat) : Value := .agg #[.int .i64 (x.1 : Int), .int .i64 (x.2.1 : Int), .int .i64 (x.2.2 : Int)]
theorem end_c (a s k : Nat) (v : Value) (w : World) (hv : v = ev (a, s, k)) (h : a + s ≤ 4000000000) :
  Calls Tryz.prog 148 #[v] w fun e w' => e = .returned (.int .i64 ((a + s : Nat) : Int)) ∧ Below w.heap.size w w' := by
 subst hv
 unfold ev
 go_enter Tryz.func148, Tryz.ntmps148
 go_wp2
 go_ret
 exact ⟨by first | rfl | (congr 2; omega), ej _ _⟩
structure Box3 (w : World) (g : Nat) (v0 v1 v2 : Value) : Prop where
 c0 : w.cell? ⟨g, 0,none⟩ = some v0
 c1 : w.cell? ⟨g, 1,none⟩ = some v1
 c2 : w.cell? ⟨g, 2,none⟩ = some v2
 f0 : w.frozen? ⟨g, 0,none⟩ = false
 f1 : w.frozen? ⟨g, 1,none⟩ = false
 f2 : w.frozen? ⟨g, 2,none⟩ = false
 lt : g < w.heap.size
theorem Box3.made (w : World) (T : TypeId) (v0 v1 v2 : Value) : Box3 (w.alloc (.cells #[v0, v1, v2] T)) w.heap.size v0 v1 v2 :=
 ⟨by simp, by simp, by simp, by simp, by simp, by simp, by simp⟩
theorem Box3.below {w w' : World} {B g : Nat} {v0 v1 v2 : Value} (h : Box3 w g v0 v1 v2) (hb : Below B w w') (hg : g < B) : Box3 w' g v0 v1 v2 :=
 ⟨(hb.cell hg).trans h.c0, (hb.cell hg).trans h.c1, (hb.cell hg).trans h.c2, (hb.frozen hg).trans h.f0, (hb.frozen hg).trans h.f1, (hb.frozen hg).trans h.f2, Nat.lt_of_lt_of_le h.lt hb.size⟩
theorem put3_at (w : World) (g : Nat) (v0 v1 v2 : Value) : Below g w (((w.setCell ⟨g, 0,none⟩ v0).setCell ⟨g, 1,none⟩ v1).setCell ⟨g, 2,none⟩ v2) :=
 (((Below.refl g w).setCell (Nat.le_refl _) _).setCell (Nat.le_refl _) _).setCell (Nat.le_refl _) _
def SzRel (l : List UInt8) (a t : Value) : Prop := ∃ k : Nat, t = .int .i64 (k : Int) ∧ k ≤ 4 ∧ a = .int .u64 (Hm.val4 (l.take k) : Int)
theorem val4_lt : ∀ (k : Nat) (l : List UInt8), Hm.val4 (l.take k) < 256 ^ k
 | 0, l => by simp [Hm.val4]
 | k + 1, [] => by simp [Hm.val4]; exact Nat.pos_of_ne_zero (by simp)
 | k + 1, x :: l => by
  have ih := val4_lt k l
  have hx := x.toNat_lt
  simp only [List.take_succ_cons, Hm.val4]
  rw [Nat.pow_succ]
  omega
theorem val4_step : ∀ (k : Nat) (l : List UInt8) (x : UInt8), l[k]? = some x → Hm.val4 (l.take (k + 1)) = Hm.val4 (l.take k) + x.toNat * 256 ^ k
 | 0, [], x, h => by simp at h
 | 0, y :: l, x, h => by simp at h; subst h; simp [Hm.val4]
 | k + 1, [], x, h => by simp at h
 | k + 1, y :: l, x, h => by
  have ih := val4_step k l x (by simpa using h)
  simp only [List.take_succ_cons, Hm.val4] at ih ⊢
  rw [ih, Nat.pow_succ, Nat.mul_add]
  have e : 256 * (x.toNat * 256 ^ k) = x.toNat * (256 ^ k * 256) := by rw [Nat.mul_comm 256, Nat.mul_assoc]
  omega
theorem or64_add (V x k : Nat) (hk : k < 4) (hV : V < 256 ^ k) (hx : x < 256) : bits .or .u64 (V : Int) (IntKind.u64.wrap ((x : Int) * 2 ^ (8 * k))) = ((V + x * 256 ^ k : Nat) : Int) := by
 have hp : (256 : Nat) ^ k = 2 ^ (8 * k) := by rw [Nat.pow_mul]
 have hle : (256 : Nat) ^ k ≤ 16777216 := by
  have : (256 : Nat) ^ k ≤ 256 ^ 3 := Nat.pow_le_pow_right (by omega) (by omega)
  omega
 have hx2 : x * 256 ^ k ≤ 256 * 16777216 := Nat.mul_le_mul (by omega) hle
 have e1 : ((x : Int) * 2 ^ (8 * k)) = ((x * 2 ^ (8 * k) : Nat) : Int) := by push_cast; rfl
 rw [hp] at hV hle hx2 ⊢
 rw [e1, show IntKind.u64.wrap ((x * 2 ^ (8 * k) : Nat) : Int) = ((x * 2 ^ (8 * k) : Nat) : Int) by rw [IntWalk.u64_in _ (by omega)], u64_or_nat V (x * 2 ^ (8 * k)) (by omega) (by omega), or_add V x (8 * k) hV]
theorem takeSize_c (A : Option Addr) (c B : Nat) (l : List UInt8) (w : World) (hr : Rb w B A 4 c l) :
  Calls Tryz.prog 146 #[.slice A 4 c] w fun e w' => e = .returned (.int .u64 (Hm.val4 l : Int)) ∧ ∃ q, w' = w.drewN q := by
 have hl := hr.len
 have Hr := ek hr; have Hl := ek hl; clear hr hl
 go_enter Tryz.func146, Tryz.ntmps146
 go_wp2
 go_loopw [3, 8] (fun a t wr => SzRel l a t ∧ ∃ q, wr = w.drewN q) (fun _ t _ => 4 - (intOf t).toNat)
 case atStart => exact ⟨⟨0, rfl, by omega, rfl⟩, 0, rfl⟩
 case round =>
  obtain ⟨⟨k, rfl, hk, rfl⟩, q, rfl⟩ := hrel
  by_cases hlt : k < 4
  ·obtain ⟨b, off, x, rfl, hb, hc, hx, _⟩ := Hr.out.at_ hlt
   have hor := or64_add (Hm.val4 (l.take k)) x.toNat k hlt (val4_lt k l) x.toNat_lt
   have hst := val4_step k l x hx
   rw [← hst] at hor
   obtain ⟨V, hV⟩ : ∃ V, V = Hm.val4 (l.take k) := ⟨_, rfl⟩
   rw [← hV] at hor ⊢
   have Hor := ek hor; have hxl := x.toNat_lt; clear hor hst hV hx
   go_wp2
   go_roundw
   case rel => exact ⟨⟨k + 1, by go_num, by omega, by rw [Hor.out]⟩, q, rfl⟩
   case measure => simp [intOf]; omega
  ·have e : l.take k = l := List.take_of_length_le (by have := Hl.out; omega)
   rw [e]
   go_wp2
   go_ret
   exact ⟨rfl, q, rfl⟩
def RetNu (B : Nat) (w : World) (t : Option (Nat × List UInt8)) (e : Ending) (w' : World) : Prop :=
 Below w.heap.size w w' ∧ match t with
 | some (a, r) => ∃ A c, e = .returned (.tuple #[.int .i64 (a : Int), .slice A r.length c, .bool true]) ∧ Rb w' B A r.length c r
 | none => e = .returned (.tuple #[.int .i64 0, .slice none 0 0, .bool false])
theorem takeNumber_c (A : Option Addr) (n c B : Nat) (l : List UInt8) (LO HI : Int) (lo hi : Nat) (w : World) (hr : Rb w B A n c l) (hB : B ≤ w.heap.size) (hn : n ≤ 1000000) (hLO : LO = (lo : Int)) (hHI : HI = (hi : Int)) (hhi : hi ≤ 100000) :
  Calls Tryz.prog 182 #[.slice A n c, .int .u64 LO, .int .u64 HI] w (RetNu B w (Hm.num lo hi l)) := by
 subst hLO hHI
 have hl := hr.len
 obtain ⟨h, hmin, hh⟩ : ∃ h : Nat, min (n : Int) 10 = (h : Int) ∧ (h = 10 ∧ 10 ≤ l.length ∨ h = l.length ∧ l.length ≤ 10) := by
  by_cases hc : n ≤ 10
  ·exact ⟨n, by omega, .inr ⟨by omega, by omega⟩⟩
  ·exact ⟨10, by omega, .inl ⟨rfl, by omega⟩⟩
 have hhn : h ≤ n := by omega
 have htk : Vm.tk (l.take h) = Vm.tk l := tk_head l h 10 (Nat.le_refl _) (by omega)
 obtain ⟨D, hD, hrD⟩ := bty.upto_ hr (k := h) hhn (min (n : Int) 10) hmin
 have hDl := hrD.len
 have hrD' := hrD.more hB
 rcases tk_cases (l.take h) with ⟨a, s, ht, ha, hs, hs10⟩ | ⟨x, ht, hx⟩
 ·have hsn : s ≤ n := by omega
  obtain ⟨E, hE, hrE⟩ := bty.from_ hr (k := s) hsn (s : Int) rfl
  have ct := take_c D h c (l.take h)
  have c1 : ∀ W, Rb W W.heap.size D h c (l.take h) → Calls Tryz.prog 188 #[.slice D h c] W (RetT W.heap.size W (a, (l.take h).drop s, 0)) := fun W hW => by
   have := ct W hW (by omega)
   rwa [takeS_ok _ a s ht] at this
  rw [htk] at ht
  have hlen : ((l.take h).drop s).length = h - s := by rw [List.length_drop, hDl]
  by_cases hsm : a < lo
  ·rw [Hm.num_out ht (by omega)]
   have d1 : decide ((a : Int) < (lo : Int)) = true := by simp; omega
   have HrD := ek hrD'; have C1 := ek c1; have Hl := ek hlen
   clear hr hrD hrD' c1 ct ht htk hE hrE hlen hl hDl hh ha hmin
   go_enter Tryz.func182, Tryz.ntmps182
   go_wp2_with fail
   refine (C1.out _ HrD.out).mono ?_
   rintro e w1 ⟨A1, c1, rfl, hown1, hb1⟩
   go_wp2
   go_ret3
   exact ⟨hb1, rfl⟩
  ·have d1 : decide ((a : Int) < (lo : Int)) = false := by simp; omega
   by_cases hbig : hi < a
   ·rw [Hm.num_out ht (by omega)]
    have d2 : decide ((hi : Int) < (a : Int)) = true := by simp; omega
    have HrD := ek hrD'; have C1 := ek c1; have Hl := ek hlen
    clear hr hrD hrD' c1 ct ht htk hE hrE hlen hl hDl hh ha hmin
    go_enter Tryz.func182, Tryz.ntmps182
    go_wp2_with fail
    refine (C1.out _ HrD.out).mono ?_
    rintro e w1 ⟨A1, c1, rfl, hown1, hb1⟩
    go_wp2
    go_ret3
    exact ⟨hb1, rfl⟩
   ·rw [Hm.num_ok ht (by omega) (by omega)]
    have d2 : decide ((hi : Int) < (a : Int)) = false := by simp; omega
    have hdl : (l.drop s).length = n - s := by rw [List.length_drop, hl]
    have hsh : s ≤ h := by have := Vm.tk_size (l.take h); rw [htk, ht, hDl] at this; exact this.1
    have ha2 : a ≤ 100000 := by omega
    have e1 : IntKind.i64.wrap ((h : Int) - ((h - s : Nat) : Int)) = (s : Int) := by rw [IntWalk.i64_in _ (by omega)]; omega
    have e2 : ((h : Int) - ((h - s : Nat) : Int)) = (s : Int) := by omega
    have HrD := ek hrD'; have C1 := ek c1; have Hl := ek hlen; have HrE := ek hrE; have Hdl := ek hdl
    clear hr hrD hrD' c1 ct ht htk hrE hlen hl hDl hh ha hmin hdl
    go_enter Tryz.func182, Tryz.ntmps182
    go_wp2_with fail
    refine (C1.out _ HrD.out).mono ?_
    rw [show (RetT w.heap.size w (a, (l.take h).drop s, 0)) = fun e w' => ∃ A c, e = .returned (.tuple #[.int .u64 (a : Int), .slice A (h - s) c, .int .i64 0]) ∧ Own w' 5 w.heap.size A c ((l.take h).drop s) ∧ Below w.heap.size w w' by unfold RetT; rw [Hl.out]; rfl]
    rintro e w1 ⟨A1, c1, rfl, hown1, hb1⟩
    clear hown1
    go_wp2_with fail
    go_quiet (fail)
    go_wp2
    go_ret3
    refine ⟨below_drewN hb1 _, E, c - s, ?_, ?_⟩
    ·rw [Hdl.out]; rfl
    ·rw [Hdl.out]
     exact (HrE.out.keep fun p hp => hb1.cell (by omega)).drewN _
 ·rw [htk] at ht
  rw [Hm.num_err ht (by omega)]
  have ct := take_c D h c (l.take h)
  have c1 : ∀ W, Rb W W.heap.size D h c (l.take h) → Calls Tryz.prog 188 #[.slice D h c] W (RetT W.heap.size W (0, [], x)) := fun W hW => by
   have := ct W hW (by omega)
   rwa [takeS_err _ x (by rw [htk]; exact ht) hx] at this
  have HrD := ek hrD'; have C1 := ek c1
  have hx1 : 2 ≤ x := by omega
  clear hr hrD hrD' c1 ct ht htk hl hDl hh hmin hx
  go_enter Tryz.func182, Tryz.ntmps182
  go_wp2_with fail
  refine (C1.out _ HrD.out).mono ?_
  rintro e w1 ⟨A1, c1, rfl, hown1, hb1⟩
  go_wp2
  go_ret3
  exact ⟨hb1, rfl⟩
theorem cnumber_ok (A : Option Addr) (n c B : Nat) (l : List UInt8) (LO HI : Int) (lo hi a : Nat) (r : List UInt8) (w : World) (hr : Rb w B A n c l) (hB : B ≤ w.heap.size) (hn : n ≤ 1000000) (hLO : LO = (lo : Int)) (hHI : HI = (hi : Int)) (hhi : hi ≤ 100000) (h : Hm.num lo hi l = some (a, r)) :
  Calls Tryz.prog 182 #[.slice A n c, .int .u64 LO, .int .u64 HI] w fun e w' => ∃ D d, e = .returned (.tuple #[.int .i64 (a : Int), .slice D r.length d, .bool true]) ∧ Rb w' B D r.length d r ∧ Below w.heap.size w w' :=
 (takeNumber_c A n c B l LO HI lo hi w hr hB hn hLO hHI hhi).mono fun e w' hp => by
  rw [h] at hp
  obtain ⟨hb, D, d, he, hr'⟩ := hp
  exact ⟨D, d, he, hr', hb⟩
theorem cnumber_err (A : Option Addr) (n c B : Nat) (l : List UInt8) (LO HI : Int) (lo hi : Nat) (w : World) (hr : Rb w B A n c l) (hB : B ≤ w.heap.size) (hn : n ≤ 1000000) (hLO : LO = (lo : Int)) (hHI : HI = (hi : Int)) (hhi : hi ≤ 100000) (h : Hm.num lo hi l = none) :
  Calls Tryz.prog 182 #[.slice A n c, .int .u64 LO, .int .u64 HI] w fun e w' => e = .returned (.tuple #[.int .i64 0, .slice none 0 0, .bool false]) ∧ Below w.heap.size w w' :=
 (takeNumber_c A n c B l LO HI lo hi w hr hB hn hLO hHI hhi).mono fun e w' hp => by
  rw [h] at hp
  exact ⟨hp.2, hp.1⟩
theorem num_len {lo hi a : Nat} {l r : List UInt8} (h : Hm.num lo hi l = some (a, r)) : r.length ≤ l.length ∧ lo ≤ a ∧ a ≤ hi := by
 obtain ⟨s, _, h2, h3, h4, _, _⟩ := Hm.num_inv h
 dsimp only at h2 h3 h4
 exact ⟨by rw [h2, List.length_drop]; omega, h3, h4⟩
def RetEn1 (B at_ : Nat) (w : World) (t : Option ((Nat × Nat) × List UInt8)) (e : Ending) (w' : World) : Prop :=
 Below w.heap.size w w' ∧ match t with
 | some (x, r) => ∃ A c, e = .returned (.tuple #[ev (at_, x.1, x.2), .slice A r.length c, .bool true]) ∧ Rb w' B A r.length c r
 | none => e = .returned (.tuple #[ev (0, 0, 0), .slice none 0 0, .bool false])
theorem takeEntry_c (A : Option Addr) (n c B at_ : Nat) (l : List UInt8) (w : World) (hr : Rb w B A n c l) (hB : B ≤ w.heap.size) (hn : n ≤ 1000000) :
  Calls Tryz.prog 183 #[.slice A n c, .int .i64 (at_ : Int)] w (RetEn1 B at_ w (Hm.ent1 l)) := by
 have hl := hr.len
 rcases h1 : Hm.num 1 20000 l with _ | ⟨s, r⟩
 ·rw [Hm.ent1_none1 h1]
  have c1 : ∀ W, Rb W B A n c l → B ≤ W.heap.size → _ := fun W hW hBW => cnumber_err A n c B l 1 20000 1 20000 W hW hBW hn rfl rfl (by omega) h1
  have Hr := ek hr; have C1 := ek c1; clear hr c1 h1
  obtain ⟨w1, hw1⟩ : ∃ w1, w1 = w.alloc (.cells #[.int .i64 0, .int .i64 0, .int .i64 0] 151) := ⟨_, rfl⟩
  have hx1 : Box3 w1 w.heap.size (.int .i64 0) (.int .i64 0) (.int .i64 0) := by rw [hw1]; exact Box3.made _ _ _ _ _
  have b1 : Below w.heap.size w w1 := by rw [hw1]; exact ej _ _
  have z1 : w1.heap.size = w.heap.size + 1 := by rw [hw1]; simp
  go_enter Tryz.func183, Tryz.ntmps183
  go_wp2_with fail
  rw [← hw1]
  refine (C1.out w1 (Hr.out.below (b1.mono hB)) (by omega)).mono ?_
  rintro e w2 ⟨rfl, hb2⟩
  have hx2 := hx1.below hb2 (by omega)
  obtain ⟨c0, c1, c2, f0, f1, f2, hlt⟩ := hx2
  clear hx1 hw1
  go_wp2
  refine bodyPost_ret (v := .tuple #[ev (0, 0, 0), .slice none 0 0, .bool false]) ?_ rfl ⟨?_, rfl⟩
  ·simp [results, Tryz.results183, go_sem, ev, c0, c1, c2]
  ·exact (b1.trans (hb2.mono (by omega))).trans (((put3_at w2 w.heap.size _ _ _).mono (Nat.le_refl _)))
 ·obtain ⟨hr1, hs1, hs2⟩ := num_len h1
  have c1 : ∀ W, Rb W B A n c l → B ≤ W.heap.size → _ := fun W hW hBW => cnumber_ok A n c B l 1 20000 1 20000 s r W hW hBW hn rfl rfl (by omega) h1
  obtain ⟨w1, hw1⟩ : ∃ w1, w1 = w.alloc (.cells #[.int .i64 0, .int .i64 0, .int .i64 0] 151) := ⟨_, rfl⟩
  have hx1 : Box3 w1 w.heap.size (.int .i64 0) (.int .i64 0) (.int .i64 0) := by rw [hw1]; exact Box3.made _ _ _ _ _
  have b1 : Below w.heap.size w w1 := by rw [hw1]; exact ej _ _
  have z1 : w1.heap.size = w.heap.size + 1 := by rw [hw1]; simp
  rcases h2 : Hm.num 1 5000 r with _ | ⟨k, r2⟩
  ·rw [Hm.ent1_none2 h1 h2]
   have c2 : ∀ W D d, Rb W B D r.length d r → B ≤ W.heap.size → _ := fun W D d hW hBW => cnumber_err D r.length d B r 1 5000 1 5000 W hW hBW (by omega) rfl rfl (by omega) h2
   have Hr := ek hr; have C1 := ek c1; have C2 := ek c2; clear hr c1 c2 h1 h2
   go_enter Tryz.func183, Tryz.ntmps183
   go_wp2_with fail
   rw [← hw1]
   refine (C1.out w1 (Hr.out.below (b1.mono hB)) (by omega)).mono ?_
   rintro e w2 ⟨D, d, rfl, hr2, hb2⟩
   have z2 := hb2.size
   have Hr2 := ek hr2; clear hr2
   go_wp2_with fail
   refine (C2.out w2 D d Hr2.out (by omega)).mono ?_
   rintro e w3 ⟨rfl, hb3⟩
   have hx3 := (hx1.below hb2 (by omega)).below hb3 (by omega)
   obtain ⟨c0, c1, c2, f0, f1, f2, hlt⟩ := hx3
   clear hx1 hw1
   go_wp2
   refine bodyPost_ret (v := .tuple #[ev (0, 0, 0), .slice none 0 0, .bool false]) ?_ rfl ⟨?_, rfl⟩
   ·simp [results, Tryz.results183, go_sem, ev, c0, c1, c2]
   ·exact ((b1.trans (hb2.mono (by omega))).trans (hb3.mono (by omega))).trans (((put3_at w3 w.heap.size _ _ _).mono (Nat.le_refl _)))
  ·rw [Hm.ent1_ok h1 h2]
   have c2 : ∀ W D d, Rb W B D r.length d r → B ≤ W.heap.size → _ := fun W D d hW hBW => cnumber_ok D r.length d B r 1 5000 1 5000 k r2 W hW hBW (by omega) rfl rfl (by omega) h2
   have Hr := ek hr; have C1 := ek c1; have C2 := ek c2; clear hr c1 c2 h1 h2
   go_enter Tryz.func183, Tryz.ntmps183
   go_wp2_with fail
   rw [← hw1]
   refine (C1.out w1 (Hr.out.below (b1.mono hB)) (by omega)).mono ?_
   rintro e w2 ⟨D, d, rfl, hr2, hb2⟩
   have z2 := hb2.size
   have Hr2 := ek hr2; clear hr2
   go_wp2_with fail
   refine (C2.out w2 D d Hr2.out (by omega)).mono ?_
   rintro e w3 ⟨E, x, rfl, hr3, hb3⟩
   have hx3 := (hx1.below hb2 (by omega)).below hb3 (by omega)
   obtain ⟨c0, c1, c2, f0, f1, f2, hlt⟩ := hx3
   have Hr3 := ek hr3; clear hx1 hw1 hr3
   go_wp2
   refine bodyPost_ret (v := .tuple #[ev (at_, s, k), .slice E r2.length x, .bool true]) ?_ rfl ⟨?_, E, x, rfl, ?_⟩
   ·simp [results, Tryz.results183, go_sem, ev, c0, c1, c2]
   ·exact ((b1.trans (hb2.mono (by omega))).trans (hb3.mono (by omega))).trans (((put3_at w3 w.heap.size _ _ _).mono (Nat.le_refl _)))
   ·exact Hr3.out.below ((put3_at w3 w.heap.size _ _ _).mono hB)
def evs : List (Nat × Nat × Nat) → List Value
 | [] => []
 | x :: X => .int .i64 (x.1 : Int) :: .int .i64 (x.2.1 : Int) :: .int .i64 (x.2.2 : Int) :: evs X
theorem evs_len : ∀ X : List (Nat × Nat × Nat), (evs X).length = X.length * 3
 | [] => rfl
 | x :: X => by simp only [evs, List.length_cons, evs_len X]; omega
theorem evs_get : ∀ (X : List (Nat × Nat × Nat)) (k : Nat) (x : Nat × Nat × Nat), X[k]? = some x →
  (evs X)[k * 3]? = some (.int .i64 (x.1 : Int)) ∧ (evs X)[k * 3 + 1]? = some (.int .i64 (x.2.1 : Int)) ∧ (evs X)[k * 3 + 2]? = some (.int .i64 (x.2.2 : Int))
 | [], k, x, h => by simp at h
 | y :: X, 0, x, h => by simp at h; subst h; exact ⟨rfl, rfl, rfl⟩
 | y :: X, k + 1, x, h => by
  have ih := evs_get X k x (by simpa using h)
  rw [show (k + 1) * 3 = k * 3 + 3 by omega]
  exact ih
theorem evs_set : ∀ (X : List (Nat × Nat × Nat)) (k : Nat) (x : Nat × Nat × Nat), k < X.length →
  (((evs X).set (k * 3) (.int .i64 (x.1 : Int))).set (k * 3 + 1) (.int .i64 (x.2.1 : Int))).set (k * 3 + 2) (.int .i64 (x.2.2 : Int)) = evs (X.set k x)
 | [], k, x, h => by simp at h
 | y :: X, 0, x, h => rfl
 | y :: X, k + 1, x, h => by
  have ih := evs_set X k x (by simpa using h)
  rw [show (k + 1) * 3 = k * 3 + 3 by omega, List.set_cons_succ]
  simp only [evs]
  rw [← ih]
  rfl
theorem evs_zero : ∀ n : Nat, evs (List.replicate n (0, 0, 0)) = List.replicate (n * 3) (.int .i64 0)
 | 0 => rfl
 | n + 1 => by
  rw [List.replicate_succ, show (n + 1) * 3 = n * 3 + 1 + 1 + 1 by omega, List.replicate_succ, List.replicate_succ, List.replicate_succ, ← evs_zero n]
  rfl
def Re (w : World) (B : Nat) (A : Option Addr) (n c : Nat) (X : List (Nat × Nat × Nat)) : Prop := Rc 3 w B A n c (evs X)
theorem Re.len {w : World} {B n c : Nat} {A : Option Addr} {X : List (Nat × Nat × Nat)} (h : Re w B A n c X) : X.length = n := by
 have h1 := h.1
 rw [evs_len] at h1
 omega
theorem Re.at_ {w : World} {B n c k : Nat} {A : Option Addr} {X : List (Nat × Nat × Nat)} (h : Re w B A n c X) (hk : k < n) :
  ∃ b off x, A = some ⟨b, off,none⟩ ∧ b < B ∧ X[k]? = some x ∧ w.cell? ⟨b, off + k * 3,none⟩ = some (.int .i64 (x.1 : Int)) ∧ w.cell? ⟨b, off + k * 3 + 1,none⟩ = some (.int .i64 (x.2.1 : Int)) ∧ w.cell? ⟨b, off + k * 3 + 2,none⟩ = some (.int .i64 (x.2.2 : Int)) := by
 have hl := h.len
 obtain ⟨h1, h2, h3, h4⟩ := h
 obtain ⟨b, off, rfl, hb, hc⟩ := h4 (by omega)
 have hx : X[k]? = some X[k] := List.getElem?_eq_getElem (by omega)
 obtain ⟨a1, a2, a3⟩ := evs_get X k _ hx
 exact ⟨b, off, X[k], rfl, hb, hx, hc _ _ a1, by rw [Nat.add_assoc]; exact hc _ _ a2, by rw [Nat.add_assoc]; exact hc _ _ a3⟩
theorem Re.below {w w' : World} {B n c : Nat} {A : Option Addr} {X : List (Nat × Nat × Nat)} (h : Re w B A n c X) (hb : Below B w w') : Re w' B A n c X := Rc.below h hb
theorem ety : Sl Tryz.prog 147 151 (.agg #[.int .i64 0, .int .i64 0, .int .i64 0]) 3 24 := ⟨Tryz.underlying147, by kernel_rfl, rfl, by omega⟩
def zent (n : Nat) : Array Value := (List.replicate n (Value.int .i64 0)).toArray
theorem zent_made (N : Nat) : madeCells (Value.agg #[.int .i64 0, .int .i64 0, .int .i64 0]).cells N = zent N := by
 apply Array.toList_inj.1
 apply List.ext_getElem?
 intro j
 have hz : ∀ i, i < 3 → (#[Value.int .i64 0, .int .i64 0, .int .i64 0] : Array Value)[i]! = .int .i64 0 := fun i hi => by
  match i, hi with
  | 0, _ => rfl
  | 1, _ => rfl
  | 2, _ => rfl
 have hc : (Value.agg #[.int .i64 0, .int .i64 0, .int .i64 0]).cells = #[.int .i64 0, .int .i64 0, .int .i64 0] := rfl
 rw [hc]
 by_cases hj : j < N
 ·have e := hz (j % 3) (Nat.mod_lt _ (by omega))
  simp only [madeCells, zent, Array.getElem?_toList, Array.getElem?_map, Array.getElem?_range, hj, if_true, Option.map_some, List.getElem?_replicate]
  exact congrArg some e
 ·simp [madeCells, zent, hj]
theorem make_ents (w : World) (n : Nat) (L : Int) (hL : L = (n : Int)) (hn : n ≤ 100000) :
  (Instr.makeSlice 147 (.int .i64 L) (.int .i64 L)).run Tryz.prog w = .ok (.slice (some ⟨w.heap.size, 0,none⟩) n n) (w.alloc (.cells (zent (n * 3)) 151)) := by
 subst hL
 obtain ⟨i, hi, hz0, hz1, hz2⟩ := info_parts ety.inf
 have h := run_make (P := Tryz.prog) w 147 151 i _ Tryz.underlying147 hi hz0 .i64 .i64 (n : Int) (n : Int) (by omega) (by omega) (by rw [hz2]; omega) (by omega)
 simp only [Int.toNat_natCast, hz1, zent_made] at h
 exact h
def RetTe (w : World) (t : Option (List (Nat × Nat))) (e : Ending) (w' : World) : Prop :=
 Below w.heap.size w w' ∧ match t with
 | some L => ∃ A c, e = .returned (.tuple #[.slice A L.length c, .bool true]) ∧ Re w' w'.heap.size A L.length c (Hm.plc 0 L)
 | none => e = .returned (.tuple #[.slice none 0 0, .bool false])
def Ens (m : Nat) (T : List UInt8) (k : Nat) (D : List (Nat × Nat)) (R : List UInt8) : Prop := Hm.ents m T = (Hm.ents (m - k) R).map fun q => (D ++ q.1, q.2)
theorem Ens.start (m : Nat) (T : List UInt8) : Ens m T 0 [] T := by
 unfold Ens
 rw [Nat.sub_zero]
 cases Hm.ents m T with
 | none => rfl
 | some p => rfl
theorem Ens.step {m k : Nat} {T R S : List UInt8} {D : List (Nat × Nat)} {x : Nat × Nat} (h : Ens m T k D R) (hk : k < m) (hf : Hm.ent1 R = some (x, S)) : Ens m T (k + 1) (D ++ [x]) S := by
 unfold Ens at h ⊢
 obtain ⟨j, hj⟩ : ∃ j, m - k = j + 1 := ⟨m - k - 1, by omega⟩
 have hj2 : m - (k + 1) = j := by omega
 rw [h, hj, hj2, Hm.ents, hf, Option.bind_some]
 cases Hm.ents j S with
 | none => rfl
 | some p => simp
theorem Ens.err {m k : Nat} {T R : List UInt8} {D : List (Nat × Nat)} (h : Ens m T k D R) (hk : k < m) (hf : Hm.ent1 R = none) : Hm.ents m T = none := by
 unfold Ens at h
 obtain ⟨j, hj⟩ : ∃ j, m - k = j + 1 := ⟨m - k - 1, by omega⟩
 rw [h, hj, Hm.ents, hf]
 rfl
theorem Ens.end_ {m : Nat} {T R : List UInt8} {D : List (Nat × Nat)} (h : Ens m T m D R) : Hm.ents m T = some (D, R) := by
 unfold Ens at h
 rw [h, Nat.sub_self]
 simp [Hm.ents]
theorem plc_app : ∀ (D : List (Nat × Nat)) (a : Nat) (x : Nat × Nat), Hm.plc a (D ++ [x]) = Hm.plc a D ++ [(a + Hm.tot D, x.1, x.2)]
 | [], a, x => by simp [Hm.plc, Hm.tot]
 | y :: D, a, x => by
  rw [List.cons_append, Hm.plc, Hm.plc, plc_app D, Hm.tot_cons, List.cons_append, Nat.add_assoc]
def ents0 (D : List (Nat × Nat)) (j : Nat) : List (Nat × Nat × Nat) := Hm.plc 0 D ++ List.replicate j (0, 0, 0)
theorem ents0_len (D : List (Nat × Nat)) (j : Nat) : (ents0 D j).length = D.length + j := by simp [ents0, Hm.plc_len]
theorem ents0_old (D : List (Nat × Nat)) (j : Nat) : (ents0 D (j + 1))[D.length]? = some (0, 0, 0) := by
 unfold ents0
 rw [List.getElem?_append_right (by rw [Hm.plc_len]; omega), Hm.plc_len, Nat.sub_self]
 rfl
theorem ents0_set (D : List (Nat × Nat)) (j : Nat) (x : Nat × Nat) : (ents0 D (j + 1)).set D.length (Hm.tot D, x.1, x.2) = ents0 (D ++ [x]) j := by
 unfold ents0
 rw [plc_app, List.set_append_right _ _ (by rw [Hm.plc_len]; omega), Hm.plc_len, Nat.sub_self, List.replicate_succ, List.set_cons_zero, Nat.zero_add, List.append_assoc]
 rfl
theorem ent1_len {l r : List UInt8} {x : Nat × Nat} (h : Hm.ent1 l = some (x, r)) : r.length ≤ l.length ∧ 1 ≤ x.1 ∧ x.1 ≤ 20000 ∧ x.2 ≤ 5000 := by
 obtain ⟨u, hu, h3⟩ := Option.bind_eq_some_iff.1 h
 obtain ⟨v, hv, e⟩ := Option.map_eq_some_iff.1 h3
 obtain ⟨a1, a2, a3⟩ := num_len (a := u.1) (r := u.2) hu
 obtain ⟨b1, b2, b3⟩ := num_len (a := v.1) (r := v.2) hv
 injection e with e1 e2
 subst e1 e2
 exact ⟨by omega, a2, a3, b3⟩
theorem put3_k (w : World) (g i : Nat) (u0 u1 u2 v0 v1 v2 : Value) (c0 : w.cell? ⟨g, i,none⟩ = some u0) (c1 : w.cell? ⟨g, i + 1,none⟩ = some u1) (c2 : w.cell? ⟨g, i + 2,none⟩ = some u2) (w' : World)
  (h : w' = ((w.setCell ⟨g, i,none⟩ v0).setCell ⟨g, i + 1,none⟩ v1).setCell ⟨g, i + 2,none⟩ v2) :
  w'.cell? ⟨g, i,none⟩ = some v0 ∧ w'.cell? ⟨g, i + 1,none⟩ = some v1 ∧ w'.cell? ⟨g, i + 2,none⟩ = some v2 := by
 subst h
 have o : ∀ (W : World) (i j : Nat) (u : Value), i ≠ j → (W.setCell ⟨g, i,none⟩ u).cell? ⟨g, j,none⟩ = W.cell? ⟨g, j,none⟩ := fun W i j u hij => World.cell?_setCell_other W _ _ _ (by simp)
 have s : ∀ (W : World) (i : Nat) (u v : Value), W.cell? ⟨g, i,none⟩ = some v → (W.setCell ⟨g, i,none⟩ u).cell? ⟨g, i,none⟩ = some u := fun W i u v h => World.cell?_setCell_same W _ _ h
 refine ⟨?_, ?_, ?_⟩
 ·rw [o _ (i + 2) i _ (by omega), o _ (i + 1) i _ (by omega)]; exact s _ i _ _ c0
 ·rw [o _ (i + 2) (i + 1) _ (by omega)]; exact s _ (i + 1) _ u1 (by rw [o _ i (i + 1) _ (by omega)]; exact c1)
 ·exact s _ (i + 2) _ u2 (by rw [o _ (i + 1) (i + 2) _ (by omega), o _ i (i + 2) _ (by omega)]; exact c2)
theorem ents_set_row {w : World} {e : TypeId} {base g n c : Nat} {X : List (Nat × Nat × Nat)} {k : Nat} (h : Oc 3 w e base (some ⟨g, 0,none⟩) n c (evs X)) (hk : k < X.length) (x : Nat × Nat × Nat) (w' : World)
  (hw : w' = ((w.setCell ⟨g, k * 3,none⟩ (.int .i64 (x.1 : Int))).setCell ⟨g, k * 3 + 1,none⟩ (.int .i64 (x.2.1 : Int))).setCell ⟨g, k * 3 + 2,none⟩ (.int .i64 (x.2.2 : Int))) :
  Oc 3 w' e base (some ⟨g, 0,none⟩) n c (evs (X.set k x)) := by
 subst hw
 have h1 := (World.ownsRow.stored h (k * 3) (.int .i64 (x.1 : Int))).1
 have h2 := (World.ownsRow.stored h1 (k * 3 + 1) (.int .i64 (x.2.1 : Int))).1
 have h3 := (World.ownsRow.stored h2 (k * 3 + 2) (.int .i64 (x.2.2 : Int))).1
 rw [evs_set X k x hk] at h3
 exact h3
def TeRel (B base : Nat) (w : World) (g m : Nat) (T : List UInt8) (r a i : Value) (wr : World) : Prop :=
 ∃ E d R D, ∃ k : Nat, r = .slice E R.length d ∧ a = .int .i64 ((Hm.tot D : Nat) : Int) ∧ i = .int .i64 (k : Int) ∧ k ≤ m ∧ D.length = k ∧ Hm.tot D ≤ 20000 * k ∧ Rb wr B E R.length d R ∧ R.length ≤ 1000000 ∧
  Oc 3 wr 151 base (some ⟨g, 0,none⟩) m m (evs (ents0 D (m - k))) ∧ Ens m T k D R ∧ Below base w wr
theorem takeEntries_c (A : Option Addr) (n c B M : Nat) (l : List UInt8) (w : World) (hr : Rb w B A n c l) (hB : B ≤ w.heap.size) (hn : n ≤ 1000000) :
  Calls Tryz.prog 147 #[.slice A n c, .int .i64 (M : Int)] w (RetTe w (Hm.idx l M)) := by
 have hl := hr.len
 rcases h1 : Hm.num 0 5000 l with _ | ⟨m, T⟩
 ·rw [show Hm.idx l M = none by unfold Hm.idx; rw [h1]; rfl]
  have Hr := ek hr; have H1 := ek h1; clear hr h1 hl
  go_enter Tryz.func147, Tryz.ntmps147
  go_wp2_with fail
  refine (cnumber_err A n c B l 0 5000 0 5000 w Hr.out hB hn rfl rfl (by omega) H1.out).mono ?_
  rintro e w1 ⟨rfl, hb1⟩
  go_wp2
  go_ret2
  exact ⟨hb1, rfl⟩
 ·obtain ⟨hT, _, hm⟩ := num_len h1
  have hi : Hm.idx l M = (Hm.ents m T).bind fun q => if q.2 = [] ∧ Hm.tot q.1 = M then some q.1 else none := by unfold Hm.idx; rw [h1]; rfl
  rw [hi]
  have hTl : T.length ≤ 1000000 := by omega
  have hmk := fun w => make_ents w m (m : Int) rfl (by omega)
  have Hr := ek hr; have H1 := ek h1; clear hr h1 hl hi hT
  go_enter Tryz.func147, Tryz.ntmps147
  go_wp2_with fail
  refine (cnumber_ok A n c B l 0 5000 0 5000 m T w Hr.out hB hn rfl rfl (by omega) H1.out).mono ?_
  rintro e w1 ⟨E, d, rfl, hrE, hb1⟩
  have z1 := hb1.size
  have HrE := ek hrE; clear hrE
  go_wp2
  go_loopw [0, 9, 23] (fun r a i wr => TeRel B w1.heap.size w1 w1.heap.size m T r a i wr) (fun _ _ i _ => m - (intOf i).toNat)
  case atStart =>
   refine ⟨E, d, T, [], 0, rfl, rfl, rfl, Nat.zero_le _, rfl, Nat.zero_le _, HrE.out.alloc (by omega) _, hTl, ?_, Ens.start m T, ej _ _⟩
   have h := Oc.lit (z := 3) w1 151 (zent (m * 3)) m (by simp [zent]) (by simp [maxLen]; omega)
   have e : (zent (m * 3)).toList = evs (ents0 [] (m - 0)) := by
    show _ = evs ([] ++ List.replicate m (0, 0, 0))
    rw [List.nil_append, evs_zero]
    simp [zent]
   rw [e] at h
   exact h
  case round =>
   obtain ⟨E3, d3, R, D, k, rfl, rfl, rfl, hk, hdk, htk, hr3, hRl, hrow, hst, hbel3⟩ := hrel
   have z3 := hbel3.size
   clear hmk
   by_cases hlt : k < m
   ·rcases hf : Hm.ent1 R with _ | ⟨x, S⟩
    ·have Hf := ek (hst.err hlt hf)
     have hc := fun W (hW : Rb W B E3 R.length d3 R) hBW => takeEntry_c E3 R.length d3 B (Hm.tot D) R W hW hBW hRl
     rw [hf] at hc
     have Hc := ek hc; have Hr3 := ek hr3; have Hrow := ek hrow; have Hdk := ek hdk; clear hst hf hr3 hrow hdk hc
     go_wp2_with fail
     refine (Hc.out wr Hr3.out (by omega)).mono ?_
     rintro e w4 ⟨hb4, rfl⟩
     have hrow4 := Oc.keep Hrow.out hb4
     unfold ev
     obtain ⟨j, hj⟩ : ∃ j, m - k = j + 1 := ⟨m - k - 1, by omega⟩
     obtain ⟨a1, a2, a3⟩ := evs_get _ _ _ (ents0_old D j)
     rw [← hj, Hdk.out] at a1 a2 a3
     have c0 : w4.cell? ⟨w1.heap.size, k * 3,none⟩ = some (.int .i64 0) := by rw [World.ownsRow.cellAt hrow4 _ (by omega)]; exact a1
     have c1 : w4.cell? ⟨w1.heap.size, k * 3 + 1,none⟩ = some (.int .i64 0) := by rw [World.ownsRow.cellAt hrow4 _ (by omega)]; exact a2
     have c2 : w4.cell? ⟨w1.heap.size, k * 3 + 2,none⟩ = some (.int .i64 0) := by rw [World.ownsRow.cellAt hrow4 _ (by omega)]; exact a3
     have f0 := World.ownsRow.frozenAt hrow4 (k * 3)
     have f1 := World.ownsRow.frozenAt hrow4 (k * 3 + 1)
     have f2 := World.ownsRow.frozenAt hrow4 (k * 3 + 2)
     have z4 := hb4.size
     have bz : Below w.heap.size w w4 := (hb1.trans (hbel3.mono z1)).trans (hb4.mono (by omega))
     clear hrow4 a1 a2 a3 hj
     go_wp2
     go_ret2
     rw [Hf.out]
     exact ⟨((bz.setCell (by simpa using z1) _).setCell (by simpa using z1) _).setCell (by simpa using z1) _, rfl⟩
    ·obtain ⟨hSl, hx1, hx2, hx3⟩ := ent1_len hf
     have hst' := hst.step hlt hf
     have hc : ∀ W, Rb W B E3 R.length d3 R → B ≤ W.heap.size → Calls Tryz.prog 183 #[.slice E3 R.length d3, .int .i64 ((Hm.tot D : Nat) : Int)] W fun e w' => Below W.heap.size W w' ∧ ∃ A c, e = .returned (.tuple #[.agg #[.int .i64 ((Hm.tot D : Nat) : Int), .int .i64 (x.1 : Int), .int .i64 (x.2 : Int)], .slice A S.length c, .bool true]) ∧ Rb w' B A S.length c S := fun W hW hBW => by
      have h := takeEntry_c E3 R.length d3 B (Hm.tot D) R W hW hBW hRl
      rw [hf] at h
      exact h
     have hten : ∀ W, Calls Tryz.prog 148 #[.agg #[.int .i64 ((Hm.tot D : Nat) : Int), .int .i64 (x.1 : Int), .int .i64 (x.2 : Int)]] W fun e w' => e = .returned (.int .i64 ((Hm.tot (D ++ [x]) : Nat) : Int)) ∧ Below W.heap.size W w' := fun W => by
      have h := end_c (Hm.tot D) x.1 x.2 _ W rfl (by omega)
      rw [show Hm.tot D + x.1 = Hm.tot (D ++ [x]) by rw [Hm.tot_app, Hm.tot_cons, Hm.tot_nil, Nat.add_zero]] at h
      exact h
     have htk' : Hm.tot (D ++ [x]) ≤ 20000 * (k + 1) := by rw [Hm.tot_app, Hm.tot_cons, Hm.tot_nil]; omega
     have hS2 : S.length ≤ 1000000 := by omega
     have Hst := ek hst'; have Hten := ek hten; have Htk := ek htk'
     have Hc := ek hc; have Hr3 := ek hr3; have Hrow := ek hrow; have Hdk := ek hdk; clear hst hst' hf hr3 hrow hdk hc hten htk htk' hSl hx1 hx2 hx3
     go_wp2_with fail
     refine (Hc.out wr Hr3.out (by omega)).mono ?_
     rintro e w4 ⟨hb4, E4, d4, rfl, hr4⟩
     have hrow4 := Oc.keep Hrow.out hb4
     obtain ⟨j, hj⟩ : ∃ j, m - k = j + 1 := ⟨m - k - 1, by omega⟩
     obtain ⟨a1, a2, a3⟩ := evs_get _ _ _ (ents0_old D j)
     rw [← hj, Hdk.out] at a1 a2 a3
     have c0 : w4.cell? ⟨w1.heap.size, k * 3,none⟩ = some (.int .i64 0) := by rw [World.ownsRow.cellAt hrow4 _ (by omega)]; exact a1
     have c1 : w4.cell? ⟨w1.heap.size, k * 3 + 1,none⟩ = some (.int .i64 0) := by rw [World.ownsRow.cellAt hrow4 _ (by omega)]; exact a2
     have c2 : w4.cell? ⟨w1.heap.size, k * 3 + 2,none⟩ = some (.int .i64 0) := by rw [World.ownsRow.cellAt hrow4 _ (by omega)]; exact a3
     have f0 := World.ownsRow.frozenAt hrow4 (k * 3)
     have f1 := World.ownsRow.frozenAt hrow4 (k * 3 + 1)
     have f2 := World.ownsRow.frozenAt hrow4 (k * 3 + 2)
     have z4 := hb4.size
     obtain ⟨w5, h5⟩ : ∃ w5, w5 = ((w4.setCell ⟨w1.heap.size, k * 3,none⟩ (.int .i64 ((Hm.tot D : Nat) : Int))).setCell ⟨w1.heap.size, k * 3 + 1,none⟩ (.int .i64 (x.1 : Int))).setCell ⟨w1.heap.size, k * 3 + 2,none⟩ (.int .i64 (x.2 : Int)) := ⟨_, rfl⟩
     obtain ⟨g0, g1, g2⟩ := put3_k w4 _ _ _ _ _ _ _ _ c0 c1 c2 w5 h5
     have hrow5 := ents_set_row hrow4 (k := k) (by rw [ents0_len]; have := Hdk.out; omega) (Hm.tot D, x.1, x.2) w5 h5
     rw [hj, ← Hdk.out, ents0_set D j x] at hrow5
     have b5 : Below w1.heap.size w1 w5 := by
      rw [h5]
      exact (((hbel3.trans (hb4.mono z3)).setCell (Nat.le_refl _) _).setCell (Nat.le_refl _) _).setCell (Nat.le_refl _) _
     have hr5 : Rb w5 B E4 S.length d4 S := by
      have hB1 : B ≤ w1.heap.size := by omega
      rw [h5]
      exact ((hr4.setCell hB1 _).setCell hB1 _).setCell hB1 _
     have z5 := b5.size
     rw [show j = m - (k + 1) by omega] at hrow5
     have Hrow5 := ek hrow5; have Hr5 := ek hr5
     clear hrow4 a1 a2 a3 hj hrow5 hr5 hr4
     go_wp2_with fail
     rw [← h5]
     clear h5 c0 c1 c2 f0 f1 f2
     go_wp2_with fail
     refine (Hten.out w5).mono ?_
     rintro e w6 ⟨rfl, hb6⟩
     have hr6 := Hr5.out.below (hb6.mono (by omega))
     have hrow6 := Hrow5.out.keep hb6
     have Hr6 := ek hr6; have Hrow6 := ek hrow6; clear hr6 hrow6
     go_wp2
     go_roundw
     case rel => exact ⟨E4, d4, S, D ++ [x], k + 1, rfl, rfl, by go_num, by omega, by rw [List.length_append, Hdk.out]; rfl, Htk.out, Hr6.out, hS2, Hrow6.out, Hst.out, b5.trans (hb6.mono z5)⟩
     case measure => simp [intOf]; omega
   ·have hkm : k = m := by omega
    subst hkm
    have he := hst.end_
    rw [Nat.sub_self] at hrow
    have e0 : ents0 D 0 = Hm.plc 0 D := by simp [ents0]
    rw [e0] at hrow
    have hrl := hr3.len
    have hre : Re wr wr.heap.size (some ⟨w1.heap.size, 0,none⟩) k k (Hm.plc 0 D) := Oc.rc hrow
    have bz : Below w.heap.size w wr := hb1.trans (hbel3.mono z1)
    have ht2 : Hm.tot D ≤ 100000000 := by omega
    by_cases hR : R = []
    ·by_cases hM : Hm.tot D = M
     ·have Hres : Hid (((Hm.ents k T).bind fun q => if q.2 = [] ∧ Hm.tot q.1 = M then some q.1 else none) = some D) := ek (by rw [he, Option.bind_some, if_pos ⟨hR, hM⟩])
      have d1 : R.length = 0 := by rw [hR]; rfl
      rw [d1]
      have d2 : (((Hm.tot D : Nat) : Int) == (M : Int)) = true := by simp; omega
      have Hre := ek hre; have Hdk := ek hdk; clear hrow hre hst he hr3 e0 hdk hR hM d1 hrl
      go_wp2
      go_ret2
      rw [Hres.out]
      refine ⟨bz, ?_⟩
      show ∃ A c, _ ∧ Re wr wr.heap.size A D.length c (Hm.plc 0 D)
      rw [Hdk.out]
      exact ⟨_, _, rfl, Hre.out⟩
     ·have Hres : Hid (((Hm.ents k T).bind fun q => if q.2 = [] ∧ Hm.tot q.1 = M then some q.1 else none) = none) := ek (by rw [he, Option.bind_some, if_neg fun h => hM h.2])
      have d1 : R.length = 0 := by rw [hR]; rfl
      rw [d1]
      have d2 : (((Hm.tot D : Nat) : Int) == (M : Int)) = false := by simp; omega
      clear hrow hre hst he hr3 e0 hdk hR hM d1 hrl
      go_wp2
      go_ret2
      rw [Hres.out]
      exact ⟨bz, rfl⟩
    ·have Hres : Hid (((Hm.ents k T).bind fun q => if q.2 = [] ∧ Hm.tot q.1 = M then some q.1 else none) = none) := ek (by rw [he, Option.bind_some, if_neg fun h => hR h.1])
     have hp := List.length_pos_iff.2 hR
     obtain ⟨q, hq⟩ : ∃ q, R.length = q := ⟨_, rfl⟩
     rw [hq] at hp hRl ⊢
     have d1 : decide ((0 : Int) < (q : Int)) = true := by simp; omega
     clear hrow hre hst he hr3 e0 hdk hR hrl hq
     go_wp2
     go_ret2
     rw [Hres.out]
     exact ⟨bz, rfl⟩
theorem equal_c (A D : Option Addr) (n c m d B B' : Nat) (l r : List UInt8) (w : World) (h1 : Rb w B A n c l) (h2 : Rb w B' D m d r) (o : Bool) (ho : o = (l == r)) :
  Calls Tryz.prog 198 #[.slice A n c, .slice D m d] w fun e w' => e = .returned (.bool o) ∧ w = w' := by
 have cv1 := bty.conv h1
 have cv2 := bty.conv h2
 clear h1 h2
 by_cases h : l = r
 ·subst h
  obtain rfl : o = true := by rw [ho]; simp
  clear ho
  go_enter Tryz.func198, Tryz.ntmps198
  go_wp2
  go_ret
  exact ⟨rfl,rfl⟩
 ·obtain rfl : o = false := by rw [ho]; simpa using h
  clear ho
  go_enter Tryz.func198, Tryz.ntmps198
  go_wp2
  go_ret
  exact ⟨by first | rfl | simp [h], rfl⟩
theorem hass_c (A D : Option Addr) (n c k d B B' : Nat) (l r : List UInt8) (w : World) (h1 : Rb w B A n c l) (h2 : Rb w B' D k d r) (hn : n ≤ 1000000) (hk : k ≤ 1000000) (o : Bool) (ho : o = (decide (k ≤ n) && decide (l.drop (n - k) = r))) :
  Calls Tryz.prog 181 #[.slice A n c, .slice D k d] w fun e w' => e = .returned (.bool o) ∧ w = w' := by
 by_cases h : k ≤ n
 ·obtain ⟨m, hm⟩ : ∃ m, m = n - k := ⟨_, rfl⟩
  rw [← hm] at ho
  obtain ⟨E, hE, hrE⟩ := bty.from_ h1 (k := m) (by omega) (m : Int) rfl
  have hnm : n - m = k := by omega
  rw [hnm] at hrE
  rw [hnm] at hE
  have he := equal_c E D k (c - m) k d B B' (l.drop m) r w hrE h2 o (by rw [ho, Bool.eq_iff_iff]; simp [h])
  have H := ek he
  have hle : (k : Int) ≤ (n : Int) := by omega
  have e1 : IntKind.i64.wrap ((n : Int) - (k : Int)) = (m : Int) := by rw [IntWalk.i64_in _ (by omega)]; omega
  have e2 : ((n : Int) - (k : Int)) = (m : Int) := by omega
  clear he hrE h1 h2 ho hm hnm h hk
  go_enter Tryz.func181, Tryz.ntmps181
  go_wp2_with fail
  refine H.out.mono ?_
  rintro e w' ⟨rfl,rfl⟩
  go_wp2
  go_ret
  exact ⟨rfl,rfl⟩
 ·obtain rfl : o = false := by
   rw [ho]
   simp [h]
  have hle : ¬ (k : Int) ≤ (n : Int) := by omega
  clear ho h1 h2 h
  go_enter Tryz.func181, Tryz.ntmps181
  go_wp2
  go_ret
  exact ⟨rfl,rfl⟩
theorem cuts_yes (A D : Option Addr) (n c k d B B' : Nat) (l r : List UInt8) (w : World) (h1 : Rb w B A n c l) (h2 : Rb w B' D k d r) (hn : n ≤ 1000000) (hk : k ≤ n) (ho : l.drop (n - k) = r) :
  Calls Tryz.prog 145 #[.slice A n c, .slice D k d] w fun e w' => (∃ E, e = .returned (.tuple #[.slice E (n - k) c, .bool true]) ∧ Rb w B E (n - k) c (l.take (n - k))) ∧ w = w' := by
 have H := ek (hass_c A D n c k d B B' l r w h1 h2 hn (by omega) true (by rw [ho]; simp [hk]))
 obtain ⟨m, hm⟩ : ∃ m, m = n - k := ⟨_, rfl⟩
 rw [← hm]
 obtain ⟨E, hE, hrE⟩ := bty.upto_ h1 (k := m) (by omega) (m : Int) rfl
 have e1 : IntKind.i64.wrap ((n : Int) - (k : Int)) = (m : Int) := by rw [IntWalk.i64_in _ (by omega)]; omega
 have e2 : ((n : Int) - (k : Int)) = (m : Int) := by omega
 have HrE := ek hrE
 clear h1 h2 ho hrE hm hk
 go_enter Tryz.func145, Tryz.ntmps145
 go_wp2_with fail
 refine H.out.mono ?_
 rintro e w' ⟨rfl,rfl⟩
 go_wp2
 go_ret2
 exact ⟨⟨E, rfl, HrE.out⟩, rfl⟩
theorem cuts_no (A D : Option Addr) (n c k d B B' : Nat) (l r : List UInt8) (w : World) (h1 : Rb w B A n c l) (h2 : Rb w B' D k d r) (hn : n ≤ 1000000) (hk : k ≤ 1000000) (ho : ¬ (k ≤ n ∧ l.drop (n - k) = r)) :
  Calls Tryz.prog 145 #[.slice A n c, .slice D k d] w fun e w' => e = .returned (.tuple #[.slice A n c, .bool false]) ∧ w = w' := by
 have H := ek (hass_c A D n c k d B B' l r w h1 h2 hn hk false (by
  cases h : (decide (k ≤ n) && decide (l.drop (n - k) = r)) with
  | false => rfl
  | true => simp at h; exact absurd h ho))
 clear h1 h2 ho hk
 go_enter Tryz.func145, Tryz.ntmps145
 go_wp2_with fail
 refine H.out.mono ?_
 rintro e w' ⟨rfl,rfl⟩
 go_wp2
 go_ret2
 exact ⟨rfl,rfl⟩
theorem takeF_all (l : List UInt8) : (∃ S R, Fm.takeF l = .ok (S, R) ∧ tframeS l 1000 = (S, R, 0)) ∨ (∃ x, Fm.takeF l = .error x ∧ tframeS l 1000 = ([], [], x) ∧ (x = 2 ∨ x = 3 ∨ x = 5)) := by
 rcases tk_cases l with ⟨a, s, ht, ha, hs, hs10⟩ | ⟨x, ht, hx⟩
 ·by_cases h1 : 1000 < a
  ·refine .inr ⟨5, ?_, tframeS_err _ _ 5 (frameS_large _ _ a s ht (.inr (by omega))) (by omega), by omega⟩
   unfold Fm.takeF
   rw [ht]
   simp [h1]
  ·by_cases h2 : l.length - s < a
   ·refine .inr ⟨2, ?_, tframeS_err _ _ 2 (frameS_short _ _ a s ht (by omega) h2) (by omega), by omega⟩
    unfold Fm.takeF
    rw [ht]
    simp [h1, h2]
   ·refine .inl ⟨(l.drop s).take a, (l.drop s).drop a, ?_, ?_⟩
    ·unfold Fm.takeF
     rw [ht]
     simp [h1, h2]
    ·rw [tframeS_ok _ _ _ _ (frameS_ok _ _ a s ht (by omega) h2)]
     rw [List.drop_take, List.drop_drop]
     simp
 ·refine .inr ⟨x, ?_, tframeS_err _ _ x (frameS_err _ _ x ht hx) (by omega), by omega⟩
  unfold Fm.takeF
  rw [ht]
  simp only
  rw [if_neg (by omega)]
theorem rtf_n (A : Option Addr) (n c : Nat) (l S R : List UInt8) (y : Nat) (w : World) (hr : Rb w w.heap.size A n c l) (hn : n ≤ 1000000) (h : tframeS l 1000 = (S, R, y)) :
  Calls Tryz.prog 119 #[.slice A n c, .int .i64 1000] w (RetF w.heap.size w (S, R, y)) := by
 have := rtakeFrame_c A n c l 1000 w hr hn (by unfold I64; omega)
 rwa [h] at this
theorem sty2 : Sl Tryz.prog 77 9 (.string ⟨#[]⟩) 1 16 := ⟨Tryz.underlying77, by kernel_rfl, rfl, by omega⟩
theorem own_beside {w w' : World} {e : TypeId} {base c : Nat} {A D D' : Option Addr} {l : List UInt8} (h : Own w e base A c l) (hg : Grows w w' D D') (hne : ob A = none ∨ ob A ≠ ob D) : Own w' e base A c l :=
 World.ownsRow.kept h hg.1 (by rw [ownBlock_slice]; exact hne)
theorem ob_apart {A D : Option Addr} {b : Nat} (hA : ∀ g, ob A = some g → b ≤ g) (hD : ∀ g, ob D = some g → g < b) : ob A = none ∨ ob A ≠ ob D := by
 cases h : ob A with
 | none => exact .inl rfl
 | some g =>
  refine .inr fun e => ?_
  have h1 := hA g h
  have h2 := hD g e.symm
  omega
def RdIn (b3 base : Nat) (w : World) (m : Nat) (T : List UInt8) (r o i : Value) (wr : World) : Prop :=
 ∃ E d D A c done, ∃ k : Nat, r = .slice E D.length d ∧ o = .slice A k c ∧ i = .int .u64 (k : Int) ∧ k ≤ m ∧ done.length = k ∧ Own wr 5 b3 E d D ∧ D.length ≤ 1000000 ∧
  Oc 1 wr 9 base A k c (lvs done) ∧ Dst m T k done D ∧ Below base w wr
def RdOut (base : Nat) (w : World) (m : Nat) (T : List UInt8) (r o i : Value) (wr : World) : Prop :=
 ∃ E d D A c vs done, ∃ k : Nat, r = .slice E D.length d ∧ o = .slice A k c ∧ i = .int .u64 (k : Int) ∧ k ≤ m ∧ done.length = k ∧ Rb wr wr.heap.size E D.length d D ∧ D.length ≤ 1000000 ∧
  Oc 1 wr 77 base A k c vs ∧ Rx wr base (ob A) vs done ∧ Dss m T k done D ∧ Below base w wr
theorem rdecode_c (A : Option Addr) (n c : Nat) (l : List UInt8) (w : World) (hr : Rb w w.heap.size A n c l) (hn : n ≤ 1000000) :
  Calls Tryz.prog 118 #[.slice A n c] w (RetD w (decS l)) := by
 have hl := hr.len
 rcases tk_cases l with ⟨a, s, ht, ha, hs, hs10⟩ | ⟨x, ht, hx⟩
 ·by_cases hbig : 5000 < a
  ·have Hf := ek (decS_cnt (cnt_large ht hbig))
   have Hr := ek hr; have Ht := ek ht; clear hr ht hl ha
   go_enter Tryz.func118, Tryz.ntmps118
   go_wp2_with fail
   refine (rtake_ok A n c l _ Hr.out hn a s Ht.out).mono ?_
   rintro e w1 ⟨A1, c1, rfl, hown1, hb1⟩
   clear hown1
   go_wp2
   go_ret2
   rw [Hf.out]
   exact ⟨none, 0, rfl, RLS.nil, hb1⟩
  ·have hc := cnt_ok (most := 5000) ht (by omega)
   obtain ⟨T, hT⟩ : ∃ T, l.drop s = T := ⟨_, rfl⟩
   have hTl : T.length ≤ 1000000 := by rw [← hT, List.length_drop]; omega
   rw [hT] at hc
   have c1 : ∀ W, Rb W W.heap.size A n c l → Calls Tryz.prog 116 #[.slice A n c] W (RetT W.heap.size W (a, T, 0)) := fun W hW => by rw [← hT]; exact rtake_ok A n c l W hW hn a s ht
   have Hr := ek hr; have Hc := ek hc; have C1 := ek c1; clear hr ht hl ha hT hc c1 hs
   go_enter Tryz.func118, Tryz.ntmps118
   go_wp2_with fail
   refine (C1.out _ Hr.out).mono ?_
   rintro e w1 ⟨E, d, rfl, hownE, hb1⟩
   have z1 := hb1.size
   have hrE := hownE.rb
   have HrE := ek hrE; clear hrE hownE
   go_wp2
   go_loopw [0, 6, 7] (fun r o i wr => RdOut w1.heap.size w1 a T r o i wr) (fun _ _ i _ => a - (intOf i).toNat)
   case atStart => exact ⟨E, d, T, _, _, [], [], 0, rfl, rfl, rfl, Nat.zero_le _, rfl, (HrE.out.alloc (Nat.le_refl _) _).more (by simp), hTl, Oc.made0 1 _ _, Rx.nil _ _ _, Dss.start a T, ej _ _⟩
   case round =>
    obtain ⟨E3, d3, D, A3, c3, vs, done, k, rfl, rfl, rfl, hk, hdk, hr3, hDl, hrow, hrx, hst, hbel3⟩ := hrel
    have z3 := hbel3.size
    rename World => wr3
    by_cases hlt : k < a
    ·rcases tk_cases D with ⟨m, s2, ht, ha2, hs2, hs210⟩ | ⟨x, ht, hx⟩
     ·by_cases hbig2 : 50 < m
      ·have hcR : Fm.decR D = .error 5 := by rw [decR_cnt, cnt_large ht hbig2]
       have Hf := ek (decS_rs Hc.out (hst.err hlt hcR))
       have Hr3 := ek hr3; have Ht := ek ht; clear hr3 ht hst hrow hrx hdk hcR
       go_wp2_with fail
       refine (rtake_ok E3 D.length d3 D _ Hr3.out hDl m s2 Ht.out).mono ?_
       rintro e w4 ⟨A4, c4, rfl, hown4, hb4⟩
       clear hown4
       go_wp2
       go_ret2
       rw [Hf.out]
       exact ⟨none, 0, rfl, RLS.nil, (hb1.trans (hbel3.mono z1)).trans (hb4.mono (by omega))⟩
      ·obtain ⟨T2, hT2⟩ : ∃ T2, D.drop s2 = T2 := ⟨_, rfl⟩
       have hT2l : T2.length ≤ 1000000 := by rw [← hT2, List.length_drop]; omega
       have hcR : Fm.decR D = Fm.decFs m T2 := by rw [decR_cnt, cnt_ok ht (by omega), hT2]
       have c2 : ∀ W, Rb W W.heap.size E3 D.length d3 D → Calls Tryz.prog 116 #[.slice E3 D.length d3] W (RetT W.heap.size W (m, T2, 0)) := fun W hW => by rw [← hT2]; exact rtake_ok E3 D.length d3 D W hW hDl m s2 ht
       have Hr3 := ek hr3; have C2 := ek c2; have Hrow := ek hrow; have Hrx := ek hrx; have Hst := ek hst; have Hdk := ek hdk; have HcR := ek hcR
       clear hr3 ht hst hrow hrx hdk hcR c2 hT2 ha2 hs2 hDl
       go_wp2_with fail
       refine (C2.out _ Hr3.out).mono ?_
       rintro e w4 ⟨E4, d4, rfl, hown4, hb4⟩
       have z4 := hb4.size
       have Hr4 := ek hown4; clear hown4
       go_wp2
       go_loopw [9, 11, 12] (fun r o i wr => RdIn wr3.heap.size w4.heap.size w4 m T2 r o i wr) (fun _ _ i _ => m - (intOf i).toNat)
       case atStart => exact ⟨E4, d4, T2, _, _, [], 0, rfl, rfl, rfl, Nat.zero_le _, rfl, Hr4.out.alloc _, hT2l, Oc.made0 1 _ _, Dst.start m T2, ej _ _⟩
       case round =>
        obtain ⟨E5, d5, D5, A5, c5, fs, j, rfl, rfl, rfl, hj, hfj, hr5, hD5l, hrow5, hst5, hbel5⟩ := hrel
        have z5 := hbel5.size
        rename World => wr5
        by_cases hjt : j < m
        ·rcases takeF_all D5 with ⟨S, R, hf, htf⟩ | ⟨x, hf, htf, hx⟩
         ·have hRl : R.length ≤ 1000000 := by have := (takeF_small hf).1; omega
          have Hst5 := ek (hst5.step hjt hf)
          have Hr5 := ek hr5; have Htf := ek htf; have Hrow5 := ek hrow5; have Hfj := ek hfj; clear hr5 htf hrow5 hst5 hf hfj
          go_wp2_with fail
          refine (rtf_n E5 D5.length d5 D5 S R 0 _ Hr5.out.rb hD5l Htf.out).mono ?_
          rintro e w6 ⟨E6, d6, rfl, hown6, hb6⟩
          have z6 := hb6.size
          have hrow6 := Hrow5.out.keep hb6
          have hap : ob E6 = none ∨ ob E6 ≠ ob A5 := ob_apart (b := wr5.heap.size) (fun g hg => (own_ob hown6 g hg).1) (fun g hg => (oc_ob Hrow5.out g hg).2)
          have Hr6 := ek hown6; have Hrow6 := ek hrow6; have Hap := ek hap; clear hrow6 hown6 hap
          have hj50 : j ≤ 50 := by omega
          go_wp2_with (at_builtin; go_must (refine Sl.wpAppAt sty2 rfl (.tmp 59) (.tmp 61) rfl (n := j) (m := 1) (N := j + 1) (ws := lvs (fs ++ [S])) rfl rfl (Hrow6.out.alloc _) (Rc.litAt (z := 1) _ _ _ 1 w6.heap.size rfl rfl (by simp [maxLen])) ?hs1 rfl ?hs3 ?hs4 ?hs5 ?hs6 ?_))
          case hs1 => simp [Value.oneCell']
          case hs3 => simp [lvs]
          case hs4 => omega
          case hs5 => omega
          case hs6 => simp; omega
          intro A7 c7 w7 hown7 hg7
          have b7 : Below w4.heap.size w4 w7 := (hbel5.trans (hb6.mono z5)).trans (((Below.refl _ _).alloc (by omega) _).trans (hg7.belowC (Hrow6.out.alloc _) (by simp; omega)))
          have hr7 := (own_beside (Hr6.out.alloc _) hg7 Hap.out).mono (base' := wr3.heap.size) (by omega)
          have Hr7 := ek hr7; have Hown7 := ek hown7; clear hr7 hown7 hg7
          go_wp2
          go_roundw
          case rel => exact ⟨E6, d6, R, A7, c7, fs ++ [S], j + 1, rfl, rfl, by go_num, by omega, by rw [List.length_append, Hfj.out]; rfl, Hr7.out, hRl, Hown7.out, Hst5.out, b7⟩
          case measure => simp [intOf]; omega
         ·have hcR2 : Fm.decR D = .error x := by rw [HcR.out]; exact hst5.err hjt hf
          have Hf := ek (decS_rs Hc.out (Hst.out.err hlt hcR2))
          have hx1 : 2 ≤ x := by omega
          have Hr5 := ek hr5; have Htf := ek htf; clear hr5 htf hrow5 hst5 hf hfj hcR2 hx
          go_wp2_with fail
          refine (rtf_n E5 D5.length d5 D5 [] [] x _ Hr5.out.rb hD5l Htf.out).mono ?_
          rintro e w6 ⟨E6, d6, rfl, hown6, hb6⟩
          clear hown6
          have bz : Below w.heap.size w w6 := (((hb1.trans (hbel3.mono z1)).trans (hb4.mono (by omega))).trans (hbel5.mono (by omega))).trans (hb6.mono (by omega))
          go_wp2
          go_ret2
          rw [Hf.out]
          exact ⟨none, 0, rfl, RLS.nil, bz⟩
        ·have hjm : j = m := by omega
         subst hjm
         have hcR2 : Fm.decR D = .ok (fs, D5) := by rw [HcR.out]; exact hst5.end_
         have Hst2 := ek (Hst.out.step hlt hcR2)
         obtain ⟨w6, hw6⟩ : ∃ w6, w6 = wr5.alloc (.cells #[.slice A5 j c5] 77) := ⟨_, rfl⟩
         have b56 : Below wr5.heap.size wr5 w6 := by rw [hw6]; exact ej _ _
         have b35 : Below wr3.heap.size wr3 wr5 := hb4.trans (hbel5.mono z4)
         have hrow5' := Hrow.out.keep b35
         have hlt3 : ∀ g, ob A3 = some g → g < wr3.heap.size := fun g hg => (oc_ob Hrow.out g hg).2
         have hapR : ob A5 = none ∨ ob A5 ≠ ob A3 := ob_apart (b := wr3.heap.size) (fun g hg => Nat.le_trans z4 (oc_ob hrow5 g hg).1) hlt3
         have hapE : ob E5 = none ∨ ob E5 ≠ ob A3 := ob_apart (b := wr3.heap.size) (fun g hg => (own_ob hr5 g hg).1) hlt3
         have hfr : Oc 1 wr5 9 w1.heap.size A5 fs.length c5 (lvs fs) := by rw [hfj]; exact hrow5.mono (by omega)
         have hrx5 := (Hrx.out.below b35).snoc hfr hapR
         rw [hfj] at hrx5
         have hrx6 := hrx5.below b56
         have hrow6 := hrow5'.keep b56
         have hr6 := hr5.keep b56
         have hlit : Rc 1 w6 (wr5.heap.size + 1) (some ⟨wr5.heap.size, 0,none⟩) 1 1 [.slice A5 j c5] := by rw [hw6]; exact Rc.lit wr5 _ #[.slice A5 j c5] 1 rfl (by simp [maxLen])
         have z6 := b56.size
         have b6 : Below w1.heap.size w1 w6 := (hbel3.trans (b35.mono (by omega))).trans (b56.mono (by omega))
         have Hlit := ek hlit; have Hrow6 := ek hrow6; have Hrx6 := ek hrx6; have Hr6 := ek hr6; have W6 := ek hw6; have HapE := ek hapE
         clear hlit hrow6 hrx6 hr6 hw6 hapE hapR hrow5' hrx5 hfr hlt3 hcR2 hr5 hrow5 hst5 hfj b56 b35
         go_wp2_with (at_builtin; rw [← W6.out]; go_must (refine Sl.wpAppAt rty rfl (.tmp 64) (.tmp 66) rfl (n := k) (m := 1) (N := k + 1) (ws := vs ++ [.slice A5 j c5]) rfl rfl Hrow6.out Hlit.out ?hs7 rfl rfl ?hs10 ?hs11 ?hs12 ?_))
         case hs7 => simp [Value.oneCell']
         case hs10 => omega
         case hs11 => omega
         case hs12 => omega
         intro A7 c7 w7 hown7 hg7
         have b7 := b6.trans (hg7.belowC Hrow6.out (by omega))
         have hrx7 := Hrx6.out.grow hg7
         have hr7 := (own_beside Hr6.out hg7 HapE.out).rb
         have Hown7 := ek hown7; have Hrx7 := ek hrx7; have Hr7 := ek hr7; clear hown7 hrx7 hr7 hg7
         go_wp2
         go_roundw
         case rel => exact ⟨E5, d5, D5, A7, c7, vs ++ [.slice A5 j c5], done ++ [fs], k + 1, rfl, rfl, by go_num, by omega, by rw [List.length_append, Hdk.out]; rfl, Hr7.out, hD5l, Hown7.out, Hrx7.out, Hst2.out, b7⟩
         case measure => simp [intOf]; omega
     ·have hcR : Fm.decR D = .error x := by rw [decR_cnt, cnt_err ht hx]
      have Hf := ek (decS_rs Hc.out (hst.err hlt hcR))
      have hx1 : 2 ≤ x := by omega
      have Hr3 := ek hr3; have Ht := ek ht; have Hx := ek hx; clear hr3 ht hst hrow hrx hdk hcR hx
      go_wp2_with fail
      refine (rtake_err E3 D.length d3 D _ Hr3.out hDl x Ht.out Hx.out).mono ?_
      rintro e w4 ⟨A4, c4, rfl, hown4, hb4⟩
      clear hown4
      go_wp2
      go_ret2
      rw [Hf.out]
      exact ⟨none, 0, rfl, RLS.nil, (hb1.trans (hbel3.mono z1)).trans (hb4.mono (by omega))⟩
    ·have hkm : k = a := by omega
     subst hkm
     have bz : Below w.heap.size w wr3 := hb1.trans (hbel3.mono z1)
     have hrl := hrx.rls hrow (b := w.heap.size) z1 z1
     have He := hst.end_
     by_cases hD : D = []
     ·have Hf := ek (decS_ok Hc.out He hD)
      subst hD
      have Hrl := ek hrl; have Hdk := ek hdk; clear hst hrow hrx hr3 hdk He hrl
      go_wp2
      go_ret2
      rw [Hf.out]
      show ∃ A c, _ ∧ RLS wr3 (Fr w.heap.size wr3) A done.length c done ∧ _
      rw [Hdk.out]
      exact ⟨A3, c3, rfl, Hrl.out, bz⟩
     ·have Hf := ek (decS_left Hc.out He hD)
      have hp : 0 < D.length := List.length_pos_iff.2 hD
      clear hst hrow hrx hr3 hdk He hrl hD
      go_wp2
      go_ret2
      rw [Hf.out]
      exact ⟨none, 0, rfl, RLS.nil, bz⟩
 ·have Hf := ek (decS_cnt (cnt_err (most := 5000) ht hx))
  have Hr := ek hr; have Ht := ek ht; have Hx := ek hx; clear hr ht hl
  have hx1 : 2 ≤ x := by omega
  clear hx
  go_enter Tryz.func118, Tryz.ntmps118
  go_wp2_with fail
  refine (rtake_err A n c l _ Hr.out hn x Ht.out Hx.out).mono ?_
  rintro e w1 ⟨A1, c1, rfl, hown1, hb1⟩
  clear hown1
  go_wp2
  go_ret2
  rw [Hf.out]
  exact ⟨none, 0, rfl, RLS.nil, hb1⟩
end Go.Proofs.YtkekmokdlgocaaaGreatDoor.Cht
namespace Go.Proofs.YtkekmokdlgocaaaGreatDoor.Fix
open Go.RowKit Go.Maps
theorem isw_c (k : Int) (o : Bool) (ho : o = decide (1 ≤ k ∧ k ≤ 1000)) (w : World) : Calls Tryz.prog 79 #[.int .i64 k] w fun e w' => e = .returned (.bool o) ∧ w = w' := by
 by_cases h1 : 1 ≤ k
 ·by_cases h2 : k ≤ 1000
  ·obtain rfl : o = true := by rw [ho]; simp; omega
   clear ho
   go_enter Tryz.func79, Tryz.ntmps79
   go_wp2
   go_ret
   exact ⟨rfl,rfl⟩
  ·obtain rfl : o = false := by rw [ho]; simp; omega
   clear ho
   go_enter Tryz.func79, Tryz.ntmps79
   go_wp2
   go_ret
   exact ⟨rfl,rfl⟩
 ·obtain rfl : o = false := by rw [ho]; simp; omega
  clear ho
  go_enter Tryz.func79, Tryz.ntmps79
  go_wp2
  go_ret
  exact ⟨rfl,rfl⟩
theorem is_c (k : Int) (o : Bool) (ho : o = decide (1 ≤ k ∧ k ≤ 1000)) (w : World) : Calls Tryz.prog 92 #[.int .i64 k] w fun e w' => e = .returned (.bool o) ∧ w = w' := by
 by_cases h1 : 1 ≤ k
 ·by_cases h2 : k ≤ 1000
  ·obtain rfl : o = true := by rw [ho]; simp; omega
   clear ho
   go_enter Tryz.func92, Tryz.ntmps92
   go_wp2
   go_ret
   exact ⟨rfl,rfl⟩
  ·obtain rfl : o = false := by rw [ho]; simp; omega
   clear ho
   go_enter Tryz.func92, Tryz.ntmps92
   go_wp2
   go_ret
   exact ⟨rfl,rfl⟩
 ·obtain rfl : o = false := by rw [ho]; simp; omega
  clear ho
  go_enter Tryz.func92, Tryz.ntmps92
  go_wp2
  go_ret
  exact ⟨rfl,rfl⟩
theorem tmod_nat (n k : Nat) : (n : Int).tmod (k : Int) = ((n % k : Nat) : Int) := by rw [Int.tmod_eq_emod_of_nonneg (by omega)]; rfl
theorem tdiv_nat (n k : Nat) : (n : Int).tdiv (k : Int) = ((n / k : Nat) : Int) := by rw [Int.tdiv_eq_ediv_of_nonneg (by omega)]; rfl
theorem vsize_c (A : Option Addr) (n c k : Nat) (w : World) (hn : n ≤ 1000000) (hk : 1 ≤ k) (hk2 : k ≤ 1000) : Calls Tryz.prog 80 #[.slice A n c, .int .i64 (k : Int)] w fun e w' => e = .returned (.int .i64 ((n / k * k : Nat) : Int)) ∧ w = w' := by
 have h0 : (k : Int) ≠ 0 := by omega
 have hm := tmod_nat n k
 have hv := Fx.vs_eq n k
 have hml := Nat.mod_le n k
 have hle := Fx.vs_le n k
 obtain ⟨m, hmm⟩ : ∃ m, m = n % k := ⟨_, rfl⟩
 obtain ⟨v, hvv⟩ : ∃ v, v = n / k * k := ⟨_, rfl⟩
 rw [← hmm] at hm hv hml
 rw [← hvv] at hv hle
 rw [← hvv]
 have hw : IntKind.i64.wrap ((m : Nat) : Int) = (m : Int) := IntWalk.i64_in _ (by omega)
 have hw2 : IntKind.i64.wrap ((n : Int) - (m : Int)) = (v : Int) := by rw [IntWalk.i64_in _ (by omega)]; omega
 have Hv := ek hv; clear hv hmm hvv
 go_enter Tryz.func80, Tryz.ntmps80
 go_wp2
 go_ret
 refine ⟨?_, rfl⟩
 have := Hv.out
 first | rfl | (congr 2; omega)
theorem bty : U8 Tryz.prog 22 5 9 := ⟨Tryz.underlying22, Tryz.underlying5, Tryz.underlying9, by kernel_rfl⟩
theorem fstart_c (f k : Nat) (w : World) (hf : f ≤ 1000000) (hk : 1 ≤ k) (hk2 : k ≤ 1000) : Calls Tryz.prog 81 #[.int .i64 (f : Int), .int .i64 (k : Int)] w fun e w' => e = .returned (.int .i64 ((Fx.cd f k * k : Nat) : Int)) ∧ w = w' := by
 have h0 : (k : Int) ≠ 0 := by omega
 have e1 : (f : Int) + (k : Int) - 1 = ((f + k - 1 : Nat) : Int) := by omega
 have hd := tdiv_nat (f + k - 1) k
 have hle := Fx.vs_le (f + k - 1) k
 have hle2 := Nat.div_le_self (f + k - 1) k
 unfold Fx.cd
 obtain ⟨m, hm⟩ : ∃ m, m = f + k - 1 := ⟨_, rfl⟩
 rw [← hm] at e1 hd hle hle2 ⊢
 obtain ⟨q, hq⟩ : ∃ q, q = m / k := ⟨_, rfl⟩
 rw [← hq] at hd hle hle2 ⊢
 have hmul : (q : Int) * (k : Int) = ((q * k : Nat) : Int) := by simp
 obtain ⟨v, hv⟩ : ∃ v, v = q * k := ⟨_, rfl⟩
 rw [← hv] at hmul hle ⊢
 have q1 : IntKind.i64.wrap ((f : Int) + (k : Int)) = (f : Int) + (k : Int) := IntWalk.i64_in _ (by omega)
 have q2 : IntKind.i64.wrap ((f : Int) + (k : Int) - 1) = (m : Int) := by rw [IntWalk.i64_in _ (by omega)]; exact e1
 have q3 : IntKind.i64.wrap (q : Int) = (q : Int) := IntWalk.i64_in _ (by omega)
 have q4 : IntKind.i64.wrap ((q : Int) * (k : Int)) = (v : Int) := by rw [hmul]; exact IntWalk.i64_in _ (by omega)
 clear hm hq hv hmul e1 hle hle2
 go_enter Tryz.func81, Tryz.ntmps81
 go_wp2
 go_ret
 first | exact ⟨rfl,rfl⟩ | (refine ⟨?_, rfl⟩; simp [q1, q2, hd, q3, q4])
theorem record_c (A : Option Addr) (n c B k i : Nat) (l : List UInt8) (w : World) (hr : Rb w B A n c l) (hi : i * k + k ≤ n) (hn : n ≤ 1000000) :
  Calls Tryz.prog 82 #[.slice A n c, .int .i64 ((i * k : Nat) : Int), .int .i64 (k : Int)] w fun e w' => e = .returned (.slice (some ⟨w.heap.size, 0,none⟩) 1 1) ∧ w' = w.alloc (.cells #[.string ⟨(Fx.seg l k i).toArray⟩] 9) := by
 obtain ⟨a, ha⟩ : ∃ a, a = i * k := ⟨_, rfl⟩
 unfold Fx.seg
 rw [← ha] at hi ⊢
 obtain ⟨E, hE, hrE⟩ := bty.mid_ hr (i := a) (k := a + k) (by omega) hi (a : Int) ((a : Int) + (k : Int)) rfl (by omega) k (by omega)
 have hcvE := bty.conv hrE
 have q1 : IntKind.i64.wrap ((a : Int) + (k : Int)) = (a : Int) + (k : Int) := IntWalk.i64_in _ (by omega)
 clear ha hr
 have HrE := ek hrE; clear hrE
 go_enter Tryz.func82, Tryz.ntmps82
 go_wp2
 go_ret
 exact ⟨rfl,rfl⟩
theorem oc_lt {z : Nat} {w : World} {e : TypeId} {base n c : Nat} {A : Option Addr} {vs : List Value} (h : Oc z w e base A n c vs) : ∀ g, ob A = some g → g < w.heap.size := fun g hg => (oc_ob h g hg).2
def scE (n k : Nat) : Nat := if n / k * k < n then 2 else 0
def RetP (w : World) (l : List UInt8) (k : Nat) (e : Ending) (w' : World) : Prop :=
 ∃ A c, e = .returned (.tuple #[.slice A (Fx.ch l k).length c, .int .i64 ((l.length / k * k : Nat) : Int), .int .i64 (scE l.length k : Int)]) ∧ PLS w' (Fr w.heap.size w') A (Fx.ch l k).length c ((Fx.ch l k).map Tm.pc) ∧ Below w.heap.size w w'
def ScanRel (base m k : Nat) (w : World) (l : List UInt8) (o t : Value) (wr : World) : Prop :=
 ∃ A c vs, ∃ i : Nat, o = .slice A i c ∧ t = .int .i64 ((i * k : Nat) : Int) ∧ i ≤ m ∧ Oc 2 wr 81 base A i c vs ∧ PsS wr (Sf base wr A) vs ((Fx.rs l k 0 i).map Tm.pc) ∧ Below base w wr
theorem scan_c (A : Option Addr) (n c k : Nat) (l : List UInt8) (w : World) (hr : Rb w w.heap.size A n c l) (hn : n ≤ 1000000) (hk : 1 ≤ k) (hk2 : k ≤ 1000) :
  Calls Tryz.prog 123 #[.slice A n c, .int .i64 (k : Int)] w (RetP w l k) := by
 have hl := hr.len
 unfold RetP
 rw [Fx.ch_len, hl]
 obtain ⟨m, hm⟩ : ∃ m, m = n / k := ⟨_, rfl⟩
 have hlt : ∀ i, i * k < m * k ↔ i < m := fun i => by rw [hm]; exact Fx.lt_vs n k i hk
 have hle : ∀ i, i * k + k ≤ n ↔ i < m := fun i => by rw [hm]; exact Fx.le_vs n k i hk
 have hv := Fx.vs_le n k
 have hml : m ≤ n := by rw [hm]; exact Nat.div_le_self _ _
 obtain ⟨E, hE0⟩ : ∃ E, E = scE n k := ⟨_, rfl⟩
 have hE : E = if m * k < n then 2 else 0 := by rw [hE0, hm]; rfl
 have hch : (Fx.ch l k) = Fx.rs l k 0 m := by rw [Fx.ch, hl, hm]
 have hvs : ∀ W, Calls Tryz.prog 80 #[.slice A n c, .int .i64 (k : Int)] W fun e w' => e = .returned (.int .i64 ((m * k : Nat) : Int)) ∧ W = w' := fun W => by rw [hm]; exact vsize_c A n c k W hn hk hk2
 rw [hch, ← hE0, ← hm]
 rw [← hm] at hv
 obtain ⟨V, hV⟩ : ∃ V, V = m * k := ⟨_, rfl⟩
 rw [← hV] at hv
 simp only [← hV] at hvs hlt hE ⊢
 have hyes := (isw_c (k : Int) true (by simp; omega))
 have Hr := ek hr; have Hl := ek hl; have Hvs := ek hvs; have Hlt := ek hlt; have Hle := ek hle; have Hyes := ek hyes; have HV := ek hV; have HE := ek hE; clear hr hl hm hlt hle hE hE0 hch hvs hyes hV
 go_enter Tryz.func123, Tryz.ntmps123
 go_wp2_with fail
 refine (Hyes.out _).mono ?_
 rintro e w1 ⟨rfl,rfl⟩
 go_wp2_with fail
 refine (Hvs.out _).mono ?_
 rintro e w1 ⟨rfl,rfl⟩
 go_wp2
 go_loopw [7, 9] (fun o t wr => ScanRel w.heap.size m k w l o t wr) (fun _ t _ => V - (intOf t).toNat)
 case atStart => exact ⟨none, 0, [], 0, rfl, by simp, Nat.zero_le _, Oc.nil _ _ _ _, by simp [Fx.rs]; exact PsS.nil, Below.refl _ _⟩
 case round =>
  obtain ⟨A3, c3, vs, i, rfl, rfl, hi, hown, hps, hbel⟩ := hrel
  have z3 := hbel.size
  rename World => wr
  have hlt := Hlt.out i
  have hle := Hle.out i
  have hnx : (i + 1) * k = i * k + k := Nat.succ_mul i k
  obtain ⟨a, ha⟩ : ∃ a, a = i * k := ⟨_, rfl⟩
  rw [← ha] at hlt hle hnx ⊢
  by_cases hc : i < m
  ·have hlt' : a < V := hlt.2 hc
   have hle' : a + k ≤ n := hle.2 hc
   clear hlt hle
   have hr3 := Hr.out.below hbel
   have hrc : Calls Tryz.prog 82 #[.slice A n c, .int .i64 (a : Int), .int .i64 (k : Int)] wr fun e w' => e = .returned (.slice (some ⟨wr.heap.size, 0,none⟩) 1 1) ∧ w' = wr.alloc (.cells #[.string ⟨(Fx.seg l k i).toArray⟩] 9) := by rw [ha]; exact record_c A n c w.heap.size k i l wr hr3 (by omega) hn
   obtain ⟨K, hK⟩ : ∃ K, K = Fx.seg l k i := ⟨_, rfl⟩
   have hst := Fx.rs_snoc l k 0 i (Nat.zero_le _)
   rw [show Fx.pi l k i = (a, K) by rw [hK, ha]; rfl] at hst
   rw [← hK] at hrc
   obtain ⟨w5, h5⟩ : ∃ w5, w5 = wr.alloc (.cells #[.string ⟨K.toArray⟩] 9) := ⟨_, rfl⟩
   obtain ⟨w6, h6⟩ : ∃ w6, w6 = w5.alloc (.cells #[.slice (some ⟨wr.heap.size, 0,none⟩) 1 1] 77) := ⟨_, rfl⟩
   obtain ⟨w7, h7⟩ : ∃ w7, w7 = w6.alloc (.cells #[.int .i64 (a : Int), .slice (some ⟨wr.heap.size + 1, 0,none⟩) 1 1] 81) := ⟨_, rfl⟩
   obtain ⟨z7, b7, hlit, hpr⟩ := piece_lit wr K a A3 w.heap.size _ _ _ z3 (oc_lt hown) w5 w6 w7 h5 h6 h7
   have hown7 := hown.keep b7
   have hps7 := (hps.keep (sf_below b7)).snoc hpr
   have bw7 := hbel.trans (b7.mono z3)
   have H5 := ek h5; have H6 := ek h6; have H7 := ek h7; have Hlit := ek hlit; have Hown7 := ek hown7; have Hps7 := ek hps7; have Z7 := ek z7; have Hrc := ek hrc; have Hst := ek hst; have Hnx := ek hnx
   clear h5 h6 h7 hlit hpr hown7 hps7 z7 b7 hrc hst hK ha hnx hr3 hown hps
   go_wp2_with fail
   refine Hrc.out.mono ?_
   rintro e w4 ⟨rfl,rfl⟩
   go_wp2_with (at_builtin; rw [← H5.out, ← H6.out, ← H7.out]; go_must (refine Sl.wpAppAt pty rfl (.tmp 22) (.tmp 30) rfl (n := i) (m := 1) (N := i + 1) (ws := vs ++ [.int .i64 (a : Int), .slice (some ⟨wr.heap.size + 1, 0,none⟩) 1 1]) rfl rfl Hown7.out Hlit.out ?hs1 rfl rfl ?hs4 ?hs5 ?hs6 ?_))
   case hs1 => simp [Value.oneCell']
   case hs4 => omega
   case hs5 => omega
   case hs6 => have := Z7.out; omega
   intro A8 c8 w8 hown8 hg8
   have bw8 := bw7.trans (hg8.belowC Hown7.out (by have := Z7.out; omega))
   have hps8 := Hps7.out.keep (sf_grow hg8)
   have Hown8 := ek hown8; have Hps8 := ek hps8; clear hown8 hps8 hg8
   go_wp2
   go_roundw
   case rel => exact ⟨A8, c8, vs ++ [.int .i64 (a : Int), .slice (some ⟨wr.heap.size + 1, 0,none⟩) 1 1], i + 1, rfl, by rw [Hnx.out]; go_num, hc, Hown8.out, by rw [Hst.out, List.map_append]; exact Hps8.out, bw8⟩
   case measure => simp [intOf]; omega
  ·obtain rfl : i = m := by omega
   obtain rfl : a = V := by rw [ha, HV.out]
   have hfin : PLS wr (Fr w.heap.size wr) A3 i c3 ((Fx.rs l k 0 i).map Tm.pc) := ⟨vs, hown.rcS, hps.keep (stays_weak sf_fr)⟩
   have Hfin := ek hfin; clear hfin hown hps hlt hle hnx ha
   by_cases hs : a < n
   ·have hE := HE.out
    rw [if_pos hs] at hE
    subst hE
    go_wp2
    go_ret3
    exact ⟨A3, c3, rfl, Hfin.out, hbel⟩
   ·have hE := HE.out
    rw [if_neg hs] at hE
    subst hE
    go_wp2
    go_ret3
    exact ⟨A3, c3, rfl, Hfin.out, hbel⟩
theorem rscan_c (A : Option Addr) (n c k : Nat) (l : List UInt8) (w : World) (hr : Rb w w.heap.size A n c l) (hn : n ≤ 1000000) (hk : 1 ≤ k) (hk2 : k ≤ 1000) :
  Calls Tryz.prog 64 #[.slice A n c, .int .i64 (k : Int)] w (RetP w l k) := by
 have hl := hr.len
 unfold RetP
 rw [Fx.ch_len, hl]
 obtain ⟨m, hm⟩ : ∃ m, m = n / k := ⟨_, rfl⟩
 have hle : ∀ i, i * k + k ≤ n ↔ i < m := fun i => by rw [hm]; exact Fx.le_vs n k i hk
 have hv := Fx.vs_le n k
 have hml : m ≤ n := by rw [hm]; exact Nat.div_le_self _ _
 obtain ⟨E, hE0⟩ : ∃ E, E = scE n k := ⟨_, rfl⟩
 have hE : E = if m * k < n then 2 else 0 := by rw [hE0, hm]; rfl
 have hch : (Fx.ch l k) = Fx.rs l k 0 m := by rw [Fx.ch, hl, hm]
 have hmle : ∀ i, i ≤ m → i * k ≤ n := fun i hi => by rw [hm] at hi; exact Nat.le_trans (Nat.mul_le_mul_right k hi) hv
 rw [hch, ← hE0, ← hm]
 rw [← hm] at hv
 obtain ⟨V, hV⟩ : ∃ V, V = m * k := ⟨_, rfl⟩
 rw [← hV] at hv
 simp only [← hV] at hE ⊢
 have hyes := (is_c (k : Int) true (by simp; omega))
 have Hr := ek hr; have Hl := ek hl; have Hle := ek hle; have Hyes := ek hyes; have HV := ek hV; have HE := ek hE; have Hmle := ek hmle; clear hr hl hm hle hE hE0 hch hyes hV hmle
 go_enter Tryz.func64, Tryz.ntmps64
 go_wp2_with fail
 refine (Hyes.out _).mono ?_
 rintro e w1 ⟨rfl,rfl⟩
 go_wp2
 go_loopw [7, 8] (fun o t wr => ScanRel w.heap.size m k w l o t wr) (fun _ t _ => n - (intOf t).toNat)
 case atStart => exact ⟨some ⟨w.heap.size, 0,none⟩, 0, [], 0, rfl, by simp, Nat.zero_le _, Oc.made0 2 _ _, by simp [Fx.rs]; exact PsS.nil, ej _ _⟩
 case round =>
  obtain ⟨A3, c3, vs, i, rfl, rfl, hi, hown, hps, hbel⟩ := hrel
  have z3 := hbel.size
  rename World => wr
  have hle := Hle.out i
  have hmle := Hmle.out i hi
  have hnx : (i + 1) * k = i * k + k := Nat.succ_mul i k
  have hsg : Fx.seg l k i = (l.take (i * k + k)).drop (i * k) := rfl
  obtain ⟨a, ha⟩ : ∃ a, a = i * k := ⟨_, rfl⟩
  rw [← ha] at hle hnx hmle hsg ⊢
  have q1 : IntKind.i64.wrap ((a : Int) + (k : Int)) = (a : Int) + (k : Int) := IntWalk.i64_in _ (by omega)
  by_cases hc : i < m
  ·have hle' : a + k ≤ n := hle.2 hc
   clear hle
   have hr3 := Hr.out.below hbel
   obtain ⟨E5, hE5, hrE⟩ := bty.mid_ hr3 (i := a) (k := a + k) (by omega) hle' (a : Int) ((a : Int) + (k : Int)) rfl (by omega) k (by omega)
   have hcvE : (convert 22 9 (.slice E5 k (c - a))).run Tryz.prog wr = .ok (.string ⟨((l.take (a + k)).drop a).toArray⟩) wr := bty.conv hrE
   obtain ⟨K, hK⟩ : ∃ K, K = Fx.seg l k i := ⟨_, rfl⟩
   have hst := Fx.rs_snoc l k 0 i (Nat.zero_le _)
   rw [show Fx.pi l k i = (a, K) by rw [hK, ha]; rfl] at hst
   rw [← hsg, ← hK] at hcvE
   obtain ⟨w5, h5⟩ : ∃ w5, w5 = wr.alloc (.cells #[.string ⟨K.toArray⟩] 9) := ⟨_, rfl⟩
   obtain ⟨w6, h6⟩ : ∃ w6, w6 = w5.alloc (.cells #[.slice (some ⟨wr.heap.size, 0,none⟩) 1 1] 77) := ⟨_, rfl⟩
   obtain ⟨w7, h7⟩ : ∃ w7, w7 = w6.alloc (.cells #[.int .i64 (a : Int), .slice (some ⟨wr.heap.size + 1, 0,none⟩) 1 1] 81) := ⟨_, rfl⟩
   obtain ⟨z7, b7, hlit, hpr⟩ := piece_lit wr K a A3 w.heap.size _ _ _ z3 (oc_lt hown) w5 w6 w7 h5 h6 h7
   have hown7 := hown.keep b7
   have hps7 := (hps.keep (sf_below b7)).snoc hpr
   have bw7 := hbel.trans (b7.mono z3)
   have H5 := ek h5; have H6 := ek h6; have H7 := ek h7; have Hlit := ek hlit; have Hown7 := ek hown7; have Hps7 := ek hps7; have Z7 := ek z7; have Hst := ek hst; have Hnx := ek hnx
   clear h5 h6 h7 hlit hpr hown7 hps7 z7 b7 hst hK ha hnx hr3 hown hps hrE hsg
   go_wp2_with (at_builtin; rw [← H5.out, ← H6.out, ← H7.out]; go_must (refine Sl.wpAppAt pty rfl (.tmp 19) (.tmp 31) rfl (n := i) (m := 1) (N := i + 1) (ws := vs ++ [.int .i64 (a : Int), .slice (some ⟨wr.heap.size + 1, 0,none⟩) 1 1]) rfl rfl Hown7.out Hlit.out ?hs1 rfl rfl ?hs4 ?hs5 ?hs6 ?_))
   case hs1 => simp [Value.oneCell']
   case hs4 => omega
   case hs5 => omega
   case hs6 => have := Z7.out; omega
   intro A8 c8 w8 hown8 hg8
   have bw8 := bw7.trans (hg8.belowC Hown7.out (by have := Z7.out; omega))
   have hps8 := Hps7.out.keep (sf_grow hg8)
   have Hown8 := ek hown8; have Hps8 := ek hps8; clear hown8 hps8 hg8
   go_wp2
   go_roundw
   case rel => exact ⟨A8, c8, vs ++ [.int .i64 (a : Int), .slice (some ⟨wr.heap.size + 1, 0,none⟩) 1 1], i + 1, rfl, by rw [Hnx.out]; go_num, hc, Hown8.out, by rw [Hst.out, List.map_append]; exact Hps8.out, bw8⟩
   case measure => simp [intOf]; omega
  ·have hle' : ¬ a + k ≤ n := fun h => hc (hle.1 h)
   obtain rfl : i = m := by omega
   obtain rfl : a = V := by rw [ha, HV.out]
   have hfin : PLS wr (Fr w.heap.size wr) A3 i c3 ((Fx.rs l k 0 i).map Tm.pc) := ⟨vs, hown.rcS, hps.keep (stays_weak sf_fr)⟩
   have Hfin := ek hfin; clear hfin hown hps hle hnx ha hsg
   by_cases hs : a < n
   ·have hE := HE.out
    rw [if_pos hs] at hE
    subst hE
    go_wp2
    go_ret3
    exact ⟨A3, c3, rfl, Hfin.out, hbel⟩
   ·have hE := HE.out
    rw [if_neg hs] at hE
    subst hE
    go_wp2
    go_ret3
    exact ⟨A3, c3, rfl, Hfin.out, hbel⟩
def rdE (n k t : Nat) : Nat := if n / k * k < t then 2 else 0
def RetR (w : World) (L : List (List (List UInt8))) (E : Nat) (e : Ending) (w' : World) : Prop :=
 ∃ A c, e = .returned (.tuple #[.slice A L.length c, .int .i64 (E : Int)]) ∧ RLS w' (Fr w.heap.size w') A L.length c L ∧ Below w.heap.size w w'
def ReadRel (base s0 e0 k : Nat) (w : World) (l : List UInt8) (o p : Value) (wr : World) : Prop :=
 ∃ A c vs, ∃ j : Nat, o = .slice A j c ∧ p = .int .i64 (((s0 + j) * k : Nat) : Int) ∧ (s0 + j ≤ e0 ∨ j = 0) ∧ Oc 1 wr 77 base A j c vs ∧ RrsS wr (Sf base wr A) vs ((Fx.rs l k s0 (s0 + j)).map Tm.rc) ∧ Below base w wr
theorem read_ok (A : Option Addr) (n c k : Nat) (l : List UInt8) (f t : Nat) (w : World) (hr : Rb w w.heap.size A n c l) (hn : n ≤ 1000000) (hk : 1 ≤ k) (hk2 : k ≤ 1000) (hft : f ≤ t) (htn : t ≤ n) :
  Calls Tryz.prog 56 #[.slice A n c, .int .i64 (f : Int), .int .i64 (t : Int), .int .i64 (k : Int)] w (RetR w ((Fx.rd l k f t).map Tm.rc) (rdE n k t)) := by
 have hl := hr.len
 have hyes := (isw_c (k : Int) true (by simp; omega))
 have hvs := fun W => vsize_c A n c k W hn hk hk2
 have hfs := fun W => fstart_c f k W (by omega) hk hk2
 obtain ⟨s0, hs0⟩ : ∃ s0, s0 = Fx.cd f k := ⟨_, rfl⟩
 obtain ⟨e0, he0⟩ : ∃ e0, e0 = min (n / k) (Fx.cd t k) := ⟨_, rfl⟩
 have hrd : Fx.rd l k f t = Fx.rs l k s0 e0 := by rw [Fx.rd, hs0, he0, hl]
 obtain ⟨V, hV⟩ : ∃ V, V = n / k * k := ⟨_, rfl⟩
 obtain ⟨q, hq⟩ : ∃ q, q = min t V := ⟨_, rfl⟩
 have hcond : ∀ i, i * k < q ↔ i < e0 := fun i => by
  have h1 := Fx.lt_vs n k i hk
  have h2 := Fx.lt_cd t k i hk
  rw [hq, he0, hV]; omega
 have hend : ∀ i, i < e0 → i * k + k ≤ n := fun i hi => (Fx.le_vs n k i hk).2 (by rw [he0] at hi; omega)
 have hen : e0 ≤ n := by rw [he0]; have := Nat.div_le_self n k; omega
 have hst0 : s0 * k ≤ n + k := by rw [hs0]; unfold Fx.cd; have := Fx.vs_le (f + k - 1) k; omega
 have hmin : min (t : Int) (V : Int) = (q : Int) := by rw [hq]; omega
 have hqn : q ≤ n := by rw [hq]; omega
 obtain ⟨E, hE0⟩ : ∃ E, E = rdE n k t := ⟨_, rfl⟩
 have hE : E = if V < t then 2 else 0 := by rw [hE0, hV]; rfl
 have hVn : V ≤ n := by rw [hV]; exact Fx.vs_le n k
 simp only [← hV] at hvs
 simp only [← hs0] at hfs
 rw [hrd, ← hE0]
 have d1 : decide ((f : Int) < 0) = false := by simp
 have d2 : decide (t < f) = false := by simp; omega
 have d3 : decide (n < t) = false := by simp; omega
 have Hr := ek hr; have Hl := ek hl; have Hyes := ek hyes; have Hvs := ek hvs; have Hfs := ek hfs; have Hcond := ek hcond; have Hend := ek hend; have HE := ek hE; have Hst0 := ek hst0; have Hen := ek hen
 clear hr hl hyes hvs hfs hcond hend hE hst0 hen hs0 he0 hrd hV hq hE0
 go_enter Tryz.func56, Tryz.ntmps56
 go_wp2_with fail
 refine (Hyes.out _).mono ?_
 rintro e w1 ⟨rfl,rfl⟩
 go_wp2_with fail
 refine (Hvs.out _).mono ?_
 rintro e w1 ⟨rfl,rfl⟩
 go_wp2_with fail
 refine (Hfs.out _).mono ?_
 rintro e w1 ⟨rfl,rfl⟩
 go_wp2
 clear d1 d2 d3
 go_loopw [10, 12] (fun o p wr => ReadRel w.heap.size s0 e0 k w l o p wr) (fun _ p _ => n - (intOf p).toNat)
 case atStart => exact ⟨none, 0, [], 0, rfl, rfl, .inr rfl, Oc.nil _ _ _ _, by rw [Fx.rs_nil _ _ _ _ (by omega)]; exact RrsS.nil, Below.refl _ _⟩
 case round =>
  obtain ⟨A3, c3, vs, j, rfl, rfl, hj, hown, hps, hbel⟩ := hrel
  have z3 := hbel.size
  rename World => wr
  have hcnd := Hcond.out (s0 + j)
  have hnd := Hend.out (s0 + j)
  have hen := Hen.out
  have hst0 := Hst0.out
  have hnx : (s0 + (j + 1)) * k = (s0 + j) * k + k := by rw [← Nat.add_assoc, Nat.succ_mul]
  have hst := Fx.rs_snoc l k s0 (s0 + j) (by omega)
  have hstl := Fx.rs_len l k s0 (s0 + j)
  have hrc : s0 + j < e0 → Calls Tryz.prog 82 #[.slice A n c, .int .i64 (((s0 + j) * k : Nat) : Int), .int .i64 (k : Int)] wr fun e w' => e = .returned (.slice (some ⟨wr.heap.size, 0,none⟩) 1 1) ∧ w' = wr.alloc (.cells #[.string ⟨(Fx.seg l k (s0 + j)).toArray⟩] 9) := fun h => record_c A n c w.heap.size k (s0 + j) l wr (Hr.out.below hbel) (hnd h) hn
  have hpi : Fx.pi l k (s0 + j) = ((s0 + j) * k, Fx.seg l k (s0 + j)) := rfl
  have hsz : j = 0 → (s0 + j) * k ≤ n + k := fun h => by rw [h]; exact hst0
  have hsz2 : 0 < j → (s0 + j) * k ≤ n + k := fun h => by
   have h2 := Hend.out (s0 + (j - 1)) (by omega)
   have h3 : (s0 + (j - 1)) * k + k = (s0 + j) * k := by rw [← Nat.succ_mul]; congr 1; omega
   omega
  obtain ⟨a, ha⟩ : ∃ a, a = (s0 + j) * k := ⟨_, rfl⟩
  rw [← ha] at hcnd hnd hnx hrc hpi hsz hsz2 ⊢
  have han : a ≤ n + k := by omega
  clear hsz hsz2
  by_cases hc : s0 + j < e0
  ·have hlt' : a < q := hcnd.2 hc
   have hle' : a + k ≤ n := hnd hc
   have hrc := hrc hc
   have hjn : j + 1 ≤ n := by omega
   clear hcnd hnd
   obtain ⟨K, hK⟩ : ∃ K, K = Fx.seg l k (s0 + j) := ⟨_, rfl⟩
   rw [← hK] at hrc hpi
   rw [hpi] at hst
   obtain ⟨w5, h5⟩ : ∃ w5, w5 = wr.alloc (.cells #[.string ⟨K.toArray⟩] 9) := ⟨_, rfl⟩
   obtain ⟨w6, h6⟩ : ∃ w6, w6 = w5.alloc (.cells #[.slice (some ⟨wr.heap.size, 0,none⟩) 1 1] 77) := ⟨_, rfl⟩
   obtain ⟨z6, b6, hlit, hpr⟩ := rec_lit wr K A3 w.heap.size _ _ z3 (oc_lt hown) w5 w6 h5 h6
   have hown6 := hown.keep b6
   have hps6 := (hps.keep (sf_below b6)).snoc hpr
   have bw6 := hbel.trans (b6.mono z3)
   have hj2 : s0 + (j + 1) ≤ e0 ∨ j + 1 = 0 := .inl (by omega)
   have H5 := ek h5; have H6 := ek h6; have Hlit := ek hlit; have Hown6 := ek hown6; have Hps6 := ek hps6; have Z6 := ek z6; have Hrc := ek hrc; have Hst := ek hst; have Hnx := ek hnx; have Hj2 := ek hj2
   clear h5 h6 hlit hpr hown6 hps6 z6 b6 hrc hst hstl hK ha hnx hown hps hpi hj hj2 hen hst0 hc
   go_wp2_with fail
   refine Hrc.out.mono ?_
   rintro e w4 ⟨rfl,rfl⟩
   go_wp2_with (at_builtin; rw [← H5.out, ← H6.out]; go_must (refine Sl.wpAppAt rty rfl (.tmp 45) (.tmp 50) rfl (n := j) (m := 1) (N := j + 1) (ws := vs ++ [.slice (some ⟨wr.heap.size, 0,none⟩) 1 1]) rfl rfl Hown6.out Hlit.out ?hs1 rfl rfl ?hs4 ?hs5 ?hs6 ?_))
   case hs1 => simp [Value.oneCell']
   case hs4 => omega
   case hs5 => omega
   case hs6 => have := Z6.out; omega
   intro A8 c8 w8 hown8 hg8
   have bw8 := bw6.trans (hg8.belowC Hown6.out (by have := Z6.out; omega))
   have hps8 := Hps6.out.keep (sf_grow hg8)
   have Hown8 := ek hown8; have Hps8 := ek hps8; clear hown8 hps8 hg8
   go_wp2
   go_roundw
   case rel => exact ⟨A8, c8, vs ++ [.slice (some ⟨wr.heap.size, 0,none⟩) 1 1], j + 1, rfl, by rw [Hnx.out]; go_num, Hj2.out, Hown8.out, by rw [← Nat.add_assoc, Hst.out, List.map_append]; exact Hps8.out, bw8⟩
   case measure => simp [intOf]; omega
  ·have hge : ¬ a < q := fun h => hc (hcnd.1 h)
   have hd : Fx.rs l k s0 (s0 + j) = Fx.rs l k s0 e0 := by
    rcases hj with hj | hj
    ·rw [show s0 + j = e0 by omega]
    ·rw [Fx.rs_nil _ _ _ _ (by omega), Fx.rs_nil _ _ _ _ (by omega)]
   have hjl : ((Fx.rs l k s0 e0).map Tm.rc).length = j := by rw [← hd, List.length_map, hstl]; omega
   rw [hd] at hps
   have hfin : RLS wr (Fr w.heap.size wr) A3 j c3 ((Fx.rs l k s0 e0).map Tm.rc) := ⟨vs, hown.rcS, hps.keep (stays_weak sf_fr)⟩
   have Hfin := ek hfin; have Hjl := ek hjl
   clear hfin hown hps hd hjl hcnd hnd hnx hst hstl hrc hpi ha hc hj hen hst0
   by_cases hs : V < t
   ·have hE := HE.out
    rw [if_pos hs] at hE
    subst hE
    go_wp2
    go_ret2
    exact ⟨A3, c3, by rw [Hjl.out]; rfl, by rw [Hjl.out]; exact Hfin.out, hbel⟩
   ·have hE := HE.out
    rw [if_neg hs] at hE
    subst hE
    go_wp2
    go_ret2
    exact ⟨A3, c3, by rw [Hjl.out]; rfl, by rw [Hjl.out]; exact Hfin.out, hbel⟩
end Go.Proofs.YtkekmokdlgocaaaGreatDoor.Fix
