import Derived.Test.YtkekmokdlgocaaaGreatDoorJW2
import Derived.Lib.MinMax
set_option maxRecDepth 100000
set_option maxHeartbeats 4000000
namespace Go.Proofs.YtkekmokdlgocaaaGreatDoor.Cht
open Go.RowKit
theorem dn_take : ∀ (j i acc : Nat) (l : List UInt8), i + j = 10 → 1 ≤ j → Vm.dn i acc (l.take j) = Vm.dn i acc l
 | 0, _, _, _, _, h => by omega
 | j + 1, i, acc, [], _, _ => by simp
 | j + 1, i, acc, c :: r, hij, _ => by
  rw [List.take_succ_cons]
  by_cases h : c.toNat < 128
  ·by_cases h2 : 0 < i ∧ c.toNat = 0 ∨ i = 9 ∧ 1 < c.toNat
   ·rw [Vm.dn_bad i acc c _ h h2, Vm.dn_bad i acc c _ h h2]
   ·rw [Vm.dn_end i acc c _ h h2, Vm.dn_end i acc c _ h h2]
  ·by_cases h9 : i = 9
   ·subst h9
    rw [Vm.dn_long acc c _ (by omega), Vm.dn_long acc c _ (by omega)]
   ·rw [Vm.dn_step i acc c _ (by omega) h9, Vm.dn_step i acc c _ (by omega) h9]
    exact dn_take j (i + 1) _ r (by omega) (by omega)
theorem tk_ten_ (l : List UInt8) : Vm.tk (l.take 10) = Vm.tk l := dn_take 10 0 0 l (by omega) (by omega)
theorem tk_take (l : List UInt8) (k : Nat) (hk : 10 ≤ k) : Vm.tk (l.take k) = Vm.tk l := by
 rw [← tk_ten_ (l.take k), List.take_take, Nat.min_eq_left hk, tk_ten_]
theorem tk_head (l : List UInt8) (h k : Nat) (hk : 10 ≤ k) (hh : h = k ∧ k ≤ l.length ∨ h = l.length) : Vm.tk (l.take h) = Vm.tk l := by
 rcases hh with ⟨rfl, _⟩ | rfl
 ·exact tk_take l h hk
 ·rw [List.take_length]
def cnt (l : List UInt8) (most : Nat) : Except Nat (Nat × List UInt8) :=
 if (Vm.tk l).2.2 = 0 then (if most < (Vm.tk l).1 then .error 5 else .ok ((Vm.tk l).1, l.drop (Vm.tk l).2.1)) else .error (Vm.tk l).2.2
theorem cnt_ok {l : List UInt8} {a s most : Nat} (h : Vm.tk l = (a, s, 0)) (hm : a ≤ most) : cnt l most = .ok (a, l.drop s) := by
 unfold cnt; rw [h]; simp only [if_true]; rw [if_neg (by omega)]
theorem cnt_large {l : List UInt8} {a s most : Nat} (h : Vm.tk l = (a, s, 0)) (hm : most < a) : cnt l most = .error 5 := by
 unfold cnt; rw [h]; simp only [if_true]; rw [if_pos hm]
theorem cnt_err {l : List UInt8} {x most : Nat} (h : Vm.tk l = (0, 0, x)) (hx : x = 2 ∨ x = 3) : cnt l most = .error x := by
 unfold cnt; rw [h]; simp only; rw [if_neg (by omega)]
theorem decR_cnt (b : List UInt8) : Fm.decR b = match cnt b 50 with | .error x => .error x | .ok (a, t) => Fm.decFs a t := by
 unfold Fm.decR cnt
 by_cases h : (Vm.tk b).2.2 = 0
 ·by_cases h2 : 50 < (Vm.tk b).1
  ·simp [h, h2]
  ·simp [h, h2]
 ·simp [h]
theorem dec_cnt (b : List UInt8) : Fm.dec b = match cnt b 5000 with | .error x => .error x | .ok (a, t) => (match Fm.decRs a t with | .error x => .error x | .ok (l, b') => if b' = [] then .ok l else .error 3) := by
 unfold Fm.dec cnt
 by_cases h : (Vm.tk b).2.2 = 0
 ·by_cases h2 : 5000 < (Vm.tk b).1
  ·simp [h, h2]
  ·simp [h, h2]
   rfl
 ·simp [h]
def RetCt (B : Nat) (w : World) (t : Except Nat (Nat × List UInt8)) (e : Ending) (w' : World) : Prop :=
 Below w.heap.size w w' ∧ match t with
 | .ok (a, r) => ∃ A c, e = .returned (.tuple #[.int .i64 (a : Int), .slice A r.length c, .int .i64 0]) ∧ Rb w' B A r.length c r
 | .error x => e = .returned (.tuple #[.int .i64 0, .slice none 0 0, .int .i64 (x : Int)])
theorem takeCount_c (A : Option Addr) (n c B : Nat) (l : List UInt8) (M : Int) (most : Nat) (w : World) (hr : Rb w B A n c l) (hB : B ≤ w.heap.size) (hn : n ≤ 1000000) (hM : M = (most : Int)) (hmost : most ≤ 10000) :
  Calls Tryz.prog 186 #[.slice A n c, .int .u64 M] w (RetCt B w (cnt l most)) := by
 subst hM
 have hl := hr.len
 obtain ⟨h, hmin, hh⟩ : ∃ h : Nat, min (n : Int) 10 = (h : Int) ∧ (h = 10 ∧ 10 ≤ l.length ∨ h = l.length ∧ l.length ≤ 10) := by
  by_cases hc : n ≤ 10
  ·exact ⟨n, by omega, .inr ⟨by omega, by omega⟩⟩
  ·exact ⟨10, by omega, .inl ⟨rfl, by omega⟩⟩
 have hhn : h ≤ n := by omega
 have htk : Vm.tk (l.take h) = Vm.tk l := tk_head l h 10 (Nat.le_refl _) (by omega)
 obtain ⟨D, hD, hrD⟩ := bty.upto_ hr (k := h) hhn (min (n : Int) 10) hmin
 have hDl := hrD.len
 have hrD' := hrD.more hB
 rcases tk_cases (l.take h) with ⟨a, s, ht, ha, hs, hs10⟩ | ⟨x, ht, hx⟩
 ·have hsn : s ≤ n := by omega
  obtain ⟨E, hE, hrE⟩ := bty.from_ hr (k := s) hsn (s : Int) rfl
  have ct := take_c D h c (l.take h)
  have c1 : ∀ W, Rb W W.heap.size D h c (l.take h) → Calls Tryz.prog 188 #[.slice D h c] W (RetT W.heap.size W (a, (l.take h).drop s, 0)) := fun W hW => by
   have := ct W hW (by omega)
   rwa [takeS_ok _ a s ht] at this
  rw [htk] at ht
  have hlen : ((l.take h).drop s).length = h - s := by rw [List.length_drop, hDl]
  by_cases hbig : most < a
  ·rw [cnt_large ht hbig]
   have HrD := ek hrD'; have C1 := ek c1; have Hl := ek hlen
   clear hr hrD hrD' c1 ct ht htk hE hrE hlen hl hDl hh ha hmin
   go_enter Tryz.func186, Tryz.ntmps186
   go_wp2_with fail
   refine (C1.out _ HrD.out).mono ?_
   rintro e w1 ⟨A1, c1, rfl, hown1, hb1⟩
   go_wp2
   go_ret3
   exact ⟨hb1, rfl⟩
  ·rw [cnt_ok ht (by omega)]
   have hdl : (l.drop s).length = n - s := by rw [List.length_drop, hl]
   have hsh : s ≤ h := by have := Vm.tk_size (l.take h); rw [htk, ht, hDl] at this; exact this.1
   have ha2 : a ≤ 10000 := by omega
   have e1 : IntKind.i64.wrap ((h : Int) - ((h - s : Nat) : Int)) = (s : Int) := by rw [IntWalk.i64_in _ (by omega)]; omega
   have e2 : ((h : Int) - ((h - s : Nat) : Int)) = (s : Int) := by omega
   have HrD := ek hrD'; have C1 := ek c1; have Hl := ek hlen; have HrE := ek hrE; have Hdl := ek hdl
   clear hr hrD hrD' c1 ct ht htk hrE hlen hl hDl hh ha hmin hdl
   go_enter Tryz.func186, Tryz.ntmps186
   go_wp2_with fail
   refine (C1.out _ HrD.out).mono ?_
   rw [show (RetT w.heap.size w (a, (l.take h).drop s, 0)) = fun e w' => ∃ A c, e = .returned (.tuple #[.int .u64 (a : Int), .slice A (h - s) c, .int .i64 0]) ∧ Own w' 5 w.heap.size A c ((l.take h).drop s) ∧ Below w.heap.size w w' by unfold RetT; rw [Hl.out]; rfl]
   rintro e w1 ⟨A1, c1, rfl, hown1, hb1⟩
   clear hown1
   go_wp2_with fail
   go_quiet (fail)
   go_wp2
   go_ret3
   refine ⟨below_drewN hb1 _, E, c - s, ?_, ?_⟩
   ·rw [Hdl.out]; rfl
   ·rw [Hdl.out]
    exact (HrE.out.keep fun p hp => hb1.cell (by omega)).drewN _
 ·rw [htk] at ht
  rw [cnt_err ht hx]
  have ct := take_c D h c (l.take h)
  have c1 : ∀ W, Rb W W.heap.size D h c (l.take h) → Calls Tryz.prog 188 #[.slice D h c] W (RetT W.heap.size W (0, [], x)) := fun W hW => by
   have := ct W hW (by omega)
   rwa [takeS_err _ x (by rw [htk]; exact ht) hx] at this
  have HrD := ek hrD'; have C1 := ek c1
  have hx1 : 2 ≤ x := by omega
  clear hr hrD hrD' c1 ct ht htk hl hDl hh hmin hx
  go_enter Tryz.func186, Tryz.ntmps186
  go_wp2_with fail
  refine (C1.out _ HrD.out).mono ?_
  rintro e w1 ⟨A1, c1, rfl, hown1, hb1⟩
  go_wp2
  go_ret3
  exact ⟨hb1, rfl⟩
theorem takeCount_ok (A : Option Addr) (n c B : Nat) (l : List UInt8) (M : Int) (most a : Nat) (r : List UInt8) (w : World) (hr : Rb w B A n c l) (hB : B ≤ w.heap.size) (hn : n ≤ 1000000) (hM : M = (most : Int)) (hmost : most ≤ 10000) (h : cnt l most = .ok (a, r)) :
  Calls Tryz.prog 186 #[.slice A n c, .int .u64 M] w fun e w' => ∃ D d, e = .returned (.tuple #[.int .i64 (a : Int), .slice D r.length d, .int .i64 0]) ∧ Rb w' B D r.length d r ∧ Below w.heap.size w w' :=
 (takeCount_c A n c B l M most w hr hB hn hM hmost).mono fun e w' hp => by
  rw [h] at hp
  obtain ⟨hb, D, d, he, hr'⟩ := hp
  exact ⟨D, d, he, hr', hb⟩
theorem takeCount_err (A : Option Addr) (n c B : Nat) (l : List UInt8) (M : Int) (most x : Nat) (w : World) (hr : Rb w B A n c l) (hB : B ≤ w.heap.size) (hn : n ≤ 1000000) (hM : M = (most : Int)) (hmost : most ≤ 10000) (h : cnt l most = .error x) :
  Calls Tryz.prog 186 #[.slice A n c, .int .u64 M] w fun e w' => e = .returned (.tuple #[.int .i64 0, .slice none 0 0, .int .i64 (x : Int)]) ∧ Below w.heap.size w w' :=
 (takeCount_c A n c B l M most w hr hB hn hM hmost).mono fun e w' hp => by
  rw [h] at hp
  exact ⟨hp.2, hp.1⟩
theorem cnt_small {l : List UInt8} {most a : Nat} {r : List UInt8} (h : cnt l most = .ok (a, r)) : a ≤ most ∧ r.length ≤ l.length := by
 unfold cnt at h
 split at h
 ·split at h
  ·cases h
  ·injection h with h
   injection h with h1 h2
   subst h1 h2
   exact ⟨by omega, by rw [List.length_drop]; omega⟩
 ·cases h
theorem cnt_x {l : List UInt8} {most x : Nat} (h : cnt l most = .error x) : 2 ≤ x ∧ x ≤ 5 := by
 unfold cnt at h
 have hk := Vm.tk_kinds l
 split at h
 ·split at h
  ·injection h with h; omega
  ·cases h
 ·injection h with h; omega
theorem takeF_cases (l : List UInt8) (h : Nat) (hh : h = 1010 ∧ 1010 ≤ l.length ∨ h = l.length ∧ l.length ≤ 1010) :
  (∃ S s, Fm.takeF l = .ok (S, l.drop s) ∧ tframeS (l.take h) 1000 = (S, (l.take h).drop s, 0) ∧ s ≤ h) ∨
  (∃ x, Fm.takeF l = .error x ∧ tframeS (l.take h) 1000 = ([], [], x) ∧ (x = 2 ∨ x = 3 ∨ x = 5)) := by
 have htk : Vm.tk (l.take h) = Vm.tk l := tk_head l h 1010 (by omega) (by omega)
 have hlh : (l.take h).length = h := by rw [List.length_take]; omega
 rcases tk_cases l with ⟨a, s, ht, ha, hs, hs10⟩ | ⟨x, ht, hx⟩
 ·rw [ht] at htk
  by_cases h1 : 1000 < a
  ·refine .inr ⟨5, ?_, tframeS_err _ _ 5 (frameS_large _ _ a s htk (.inr (by omega))) (by omega), by omega⟩
   unfold Fm.takeF
   rw [ht]
   simp [h1]
  ·by_cases h2 : l.length - s < a
   ·refine .inr ⟨2, ?_, tframeS_err _ _ 2 (frameS_short _ _ a s htk (by omega) (by omega)) (by omega), by omega⟩
    unfold Fm.takeF
    rw [ht]
    simp [h1, h2]
   ·refine .inl ⟨(l.drop s).take a, s + a, ?_, ?_, by omega⟩
    ·unfold Fm.takeF
     rw [ht]
     simp [h1, h2, List.drop_drop]
    ·rw [tframeS_ok _ _ _ _ (frameS_ok _ _ a s htk (by omega) (by omega))]
     have e : ((l.take h).take (s + a)).drop s = (l.drop s).take a := by
      rw [List.take_take, Nat.min_eq_left (by omega), List.drop_take]
      simp
     rw [e]
 ·rw [ht] at htk
  refine .inr ⟨x, ?_, tframeS_err _ _ x (frameS_err _ _ x htk hx) (by omega), by omega⟩
  unfold Fm.takeF
  rw [ht]
  simp only
  rw [if_neg (by omega)]
theorem takeF_x {l : List UInt8} {x : Nat} (h : Fm.takeF l = .error x) : x = 2 ∨ x = 3 ∨ x = 5 := by
 rcases takeF_cases l (if 1010 ≤ l.length then 1010 else l.length) (by split <;> omega) with ⟨S, s, h1, _⟩ | ⟨y, h1, _, h3⟩
 ·rw [h1] at h; cases h
 ·rw [h1] at h; injection h with h; omega
theorem takeF_small {l S R : List UInt8} (h : Fm.takeF l = .ok (S, R)) : R.length ≤ l.length ∧ S.length ≤ 1000 := by
 obtain ⟨h1, h2⟩ := Fm.takeF_only h
 have := congrArg List.length h1
 rw [List.length_append] at this
 exact ⟨by omega, h2⟩
theorem takeField_ok (A : Option Addr) (n c B : Nat) (l S R : List UInt8) (w : World) (hr : Rb w B A n c l) (hB : B ≤ w.heap.size) (hn : n ≤ 1000000) (hok : Fm.takeF l = .ok (S, R)) :
  Calls Tryz.prog 221 #[.slice A n c] w fun e w' => ∃ D d, e = .returned (.tuple #[.string ⟨S.toArray⟩, .slice D R.length d, .int .i64 0]) ∧ Rb w' B D R.length d R ∧ Below w.heap.size w w' := by
 have hl := hr.len
 obtain ⟨h, hmin, hh⟩ : ∃ h : Nat, min (n : Int) 1010 = (h : Int) ∧ (h = 1010 ∧ 1010 ≤ l.length ∨ h = l.length ∧ l.length ≤ 1010) := by
  by_cases hc : n ≤ 1010
  ·exact ⟨n, by omega, .inr ⟨by omega, by omega⟩⟩
  ·exact ⟨1010, by omega, .inl ⟨rfl, by omega⟩⟩
 have hhn : h ≤ n := by omega
 obtain ⟨D, hD, hrD⟩ := bty.upto_ hr (k := h) hhn (min (n : Int) 1010) hmin
 have hDl := hrD.len
 have hrD' := hrD.more hB
 rcases takeF_cases l h hh with ⟨S', s, h1, h2, hsh⟩ | ⟨x, h1, _⟩
 ·rw [h1] at hok
  injection hok with hok
  injection hok with e1 e2
  subst e1 e2
  obtain ⟨E, hE, hrE⟩ := bty.from_ hr (k := s) (by omega) (s : Int) rfl
  have hlen : ((l.take h).drop s).length = h - s := by rw [List.length_drop, hDl]
  have c1 : ∀ W, Rb W W.heap.size D h c (l.take h) → Calls Tryz.prog 215 #[.slice D h c, .int .i64 1000] W fun e w' => ∃ A c, e = .returned (.tuple #[.string ⟨S'.toArray⟩, .slice A (h - s) c, .int .i64 0]) ∧ Below W.heap.size W w' := fun W hW =>
   (takeFrame_c D h c (l.take h) 1000 W hW (by omega) (by unfold I64; omega)).mono fun e w' hp => by
    rw [h2] at hp
    obtain ⟨A, c, he, _, hb⟩ := hp
    refine ⟨A, c, ?_, hb⟩
    rw [he]
    simp only [hlen]
    rfl
  have hdl : (l.drop s).length = n - s := by rw [List.length_drop, hl]
  have f1 : IntKind.i64.wrap ((h : Int) - ((h - s : Nat) : Int)) = (s : Int) := by rw [IntWalk.i64_in _ (by omega)]; omega
  have f2 : ((h : Int) - ((h - s : Nat) : Int)) = (s : Int) := by omega
  have hsn : s ≤ n := by omega
  have HrD := ek hrD'; have C1 := ek c1; have Hl := ek hlen; have HrE := ek hrE; have Hdl := ek hdl
  clear hr hrD hrD' c1 hrE hlen hl hDl hh hmin hdl h1 h2
  go_enter Tryz.func221, Tryz.ntmps221
  go_wp2_with fail
  refine (C1.out _ HrD.out).mono ?_
  rintro e w1 ⟨A1, c1, rfl, hb1⟩
  go_wp2_with fail
  go_quiet (fail)
  go_wp2
  go_ret3
  refine ⟨E, c - s, ?_, ?_, below_drewN hb1 _⟩
  ·rw [Hdl.out]; rfl
  ·rw [Hdl.out]
   exact (HrE.out.keep fun p hp => hb1.cell (by omega)).drewN _
 ·rw [h1] at hok; cases hok
theorem takeField_err (A : Option Addr) (n c B : Nat) (l : List UInt8) (x : Nat) (w : World) (hr : Rb w B A n c l) (hB : B ≤ w.heap.size) (hn : n ≤ 1000000) (hok : Fm.takeF l = .error x) :
  Calls Tryz.prog 221 #[.slice A n c] w fun e w' => e = .returned (.tuple #[.string ⟨#[]⟩, .slice none 0 0, .int .i64 (x : Int)]) ∧ Below w.heap.size w w' := by
 have hl := hr.len
 obtain ⟨h, hmin, hh⟩ : ∃ h : Nat, min (n : Int) 1010 = (h : Int) ∧ (h = 1010 ∧ 1010 ≤ l.length ∨ h = l.length ∧ l.length ≤ 1010) := by
  by_cases hc : n ≤ 1010
  ·exact ⟨n, by omega, .inr ⟨by omega, by omega⟩⟩
  ·exact ⟨1010, by omega, .inl ⟨rfl, by omega⟩⟩
 have hhn : h ≤ n := by omega
 obtain ⟨D, hD, hrD⟩ := bty.upto_ hr (k := h) hhn (min (n : Int) 1010) hmin
 have hrD' := hrD.more hB
 rcases takeF_cases l h hh with ⟨S', s, h1, _⟩ | ⟨y, h1, h2, hy⟩
 ·rw [h1] at hok; cases hok
 ·rw [h1] at hok
  injection hok with hok
  subst hok
  have c1 : ∀ W, Rb W W.heap.size D h c (l.take h) → Calls Tryz.prog 215 #[.slice D h c, .int .i64 1000] W fun e w' => ∃ A c, e = .returned (.tuple #[.string ⟨#[]⟩, .slice A 0 c, .int .i64 (y : Int)]) ∧ Below W.heap.size W w' := fun W hW =>
   (takeFrame_c D h c (l.take h) 1000 W hW (by omega) (by unfold I64; omega)).mono fun e w' hp => by
    rw [h2] at hp
    obtain ⟨A, c, he, _, hb⟩ := hp
    exact ⟨A, c, he, hb⟩
  have HrD := ek hrD'; have C1 := ek c1
  have hy1 : 2 ≤ y := by omega
  clear hr hrD hrD' c1 hl hh hmin h1 h2 hy
  go_enter Tryz.func221, Tryz.ntmps221
  go_wp2_with fail
  refine (C1.out _ HrD.out).mono ?_
  rintro e w1 ⟨A1, c1, rfl, hb1⟩
  go_wp2
  go_ret3
  exact ⟨rfl, hb1⟩
theorem sty : Sl Tryz.prog 77 9 (.string ⟨#[]⟩) 1 16 := ⟨Tryz.underlying77, by kernel_rfl, rfl, by omega⟩
def srow (n : Nat) : Array Value := (List.replicate n (Value.string ⟨#[]⟩)).toArray
theorem make_rec (w : World) (n : Nat) (L : Int) (hL : L = (n : Int)) (hn : n ≤ 1000) :
  (Instr.makeSlice 77 (.int .i64 L) (.int .i64 L)).run Tryz.prog w = .ok (.slice (some ⟨w.heap.size, 0,none⟩) n n) (w.alloc (.cells (srow n) 9)) := by
 subst hL
 obtain ⟨i, hi, hz0, hz1, hz2⟩ := info_parts sty.inf
 have h := run_make (P := Tryz.prog) w 77 9 i (.string ⟨#[]⟩) Tryz.underlying77 hi hz0 .i64 .i64 (n : Int) (n : Int) (by omega) (by omega) (by rw [hz2]; omega) (by omega)
 simp only [Int.toNat_natCast, hz1, Nat.mul_one] at h
 rw [h]
 have e1 : madeCells (Value.string ⟨#[]⟩).cells n = srow n := by
  apply Array.toList_inj.1
  have hcells : (Value.string ⟨#[]⟩).cells = #[.string ⟨#[]⟩] := rfl
  rw [hcells, toList_madeCells_one]
  simp [srow]
 rw [e1]
def preF (d : List (List UInt8)) : Except Nat (List (List UInt8) × List UInt8) → Except Nat (List (List UInt8) × List UInt8)
 | .error x => .error x
 | .ok (r, t) => .ok (d ++ r, t)
def Dst (m : Nat) (T : List UInt8) (k : Nat) (done : List (List UInt8)) (D : List UInt8) : Prop := Fm.decFs m T = preF done (Fm.decFs (m - k) D)
theorem Dst.start (m : Nat) (T : List UInt8) : Dst m T 0 [] T := by
 unfold Dst
 rw [Nat.sub_zero]
 cases Fm.decFs m T with
 | error x => rfl
 | ok p => rfl
theorem Dst.step {m k : Nat} {T D S R : List UInt8} {done : List (List UInt8)} (h : Dst m T k done D) (hk : k < m) (hf : Fm.takeF D = .ok (S, R)) : Dst m T (k + 1) (done ++ [S]) R := by
 unfold Dst at h ⊢
 obtain ⟨j, hj⟩ : ∃ j, m - k = j + 1 := ⟨m - k - 1, by omega⟩
 have hj2 : m - (k + 1) = j := by omega
 rw [h, hj, hj2]
 show preF done (Fm.decFs (j + 1) D) = _
 rw [Fm.decFs, hf]
 dsimp only
 cases Fm.decFs j R with
 | error x => rfl
 | ok p => obtain ⟨r, t⟩ := p; simp [preF]
theorem Dst.err {m k x : Nat} {T D : List UInt8} {done : List (List UInt8)} (h : Dst m T k done D) (hk : k < m) (hf : Fm.takeF D = .error x) : Fm.decFs m T = .error x := by
 unfold Dst at h
 obtain ⟨j, hj⟩ : ∃ j, m - k = j + 1 := ⟨m - k - 1, by omega⟩
 rw [h, hj, Fm.decFs, hf]
 rfl
theorem Dst.end_ {m : Nat} {T D : List UInt8} {done : List (List UInt8)} (h : Dst m T m done D) : Fm.decFs m T = .ok (done, D) := by
 unfold Dst at h
 rw [h, Nat.sub_self]
 simp [Fm.decFs, preF]
def RetTr (B : Nat) (w : World) (t : Except Nat (List (List UInt8) × List UInt8)) (e : Ending) (w' : World) : Prop :=
 Below w.heap.size w w' ∧ match t with
 | .ok (r, s) => ∃ A c D d, e = .returned (.tuple #[.slice A r.length c, .slice D s.length d, .int .i64 0]) ∧ Oc 1 w' 9 w.heap.size A r.length c (lvs r) ∧ Rb w' B D s.length d s
 | .error x => e = .returned (.tuple #[.slice none 0 0, .slice none 0 0, .int .i64 (x : Int)])
def TrRel (B base : Nat) (w : World) (g m : Nat) (T : List UInt8) (r i : Value) (wr : World) : Prop :=
 ∃ E d D done, ∃ k : Nat, r = .slice E D.length d ∧ i = .int .i64 (k : Int) ∧ k ≤ m ∧ done.length = k ∧ Rb wr B E D.length d D ∧ D.length ≤ 1000000 ∧
  Oc 1 wr 9 base (some ⟨g, 0,none⟩) m m (lvs (done ++ List.replicate (m - k) [])) ∧ Dst m T k done D ∧ Below base w wr
theorem lvs_set (done : List (List UInt8)) (S : List UInt8) (j : Nat) : (lvs (done ++ List.replicate (j + 1) [])).set done.length (.string ⟨S.toArray⟩) = lvs ((done ++ [S]) ++ List.replicate j []) := by
 simp [lvs, List.replicate_succ]
theorem lvs_old (done : List (List UInt8)) (j : Nat) : (lvs (done ++ List.replicate (j + 1) []))[done.length]? = some (.string ⟨#[]⟩) := by
 simp [lvs, List.replicate_succ]
theorem takeRecord_c (A : Option Addr) (n c B : Nat) (l : List UInt8) (w : World) (hr : Rb w B A n c l) (hB : B ≤ w.heap.size) (hn : n ≤ 1000000) :
  Calls Tryz.prog 187 #[.slice A n c] w (RetTr B w (Fm.decR l)) := by
 have hl := hr.len
 rw [decR_cnt]
 cases hc : cnt l 50 with
 | error x =>
  have hx := cnt_x hc
  have Hr := ek hr; have Hc := ek hc; clear hr hc hl
  go_enter Tryz.func187, Tryz.ntmps187
  go_wp2_with fail
  refine (takeCount_err A n c B l 50 50 x _ Hr.out hB hn rfl (by omega) Hc.out).mono ?_
  rintro e w1 ⟨rfl, hb1⟩
  have hx2 := hx.1
  go_wp2
  go_ret3
  exact ⟨hb1, rfl⟩
 | ok p =>
  obtain ⟨m, T⟩ := p
  obtain ⟨hm, hTl⟩ := cnt_small hc
  have hT : T.length ≤ 1000000 := by omega
  show Calls _ _ _ _ (RetTr B w (Fm.decFs m T))
  have hmk := fun w => make_rec w m (m : Int) rfl (by omega)
  have Hr := ek hr; have Hc := ek hc; clear hr hc hl
  go_enter Tryz.func187, Tryz.ntmps187
  go_wp2_with fail
  refine (takeCount_ok A n c B l 50 50 m T _ Hr.out hB hn rfl (by omega) Hc.out).mono ?_
  rintro e w1 ⟨E, d, rfl, hrE, hb1⟩
  have z1 := hb1.size
  have HrE := ek hrE; clear hrE
  go_wp2
  go_loopw [6, 23] (fun r i wr => TrRel B w1.heap.size w1 w1.heap.size m T r i wr) (fun _ i _ => m - (intOf i).toNat)
  case atStart =>
   refine ⟨E, d, T, [], 0, rfl, rfl, Nat.zero_le _, rfl, HrE.out.alloc (by omega) _, hT, ?_, Dst.start m T, ej _ _⟩
   have h := Oc.lit (z := 1) w1 9 (srow m) m (by simp [srow]) (by simp [maxLen]; omega)
   have e : (srow m).toList = lvs ([] ++ List.replicate (m - 0) []) := by simp [srow, lvs]
   rw [e] at h
   exact h
  case round =>
   obtain ⟨E3, d3, D, done, k, rfl, rfl, hk, hdk, hr3, hDl, hrow, hst, hbel3⟩ := hrel
   have z3 := hbel3.size
   clear hmk
   by_cases hlt : k < m
   ·cases hf : Fm.takeF D with
    | error x =>
     have hx := takeF_x hf
     have Hf := ek (hst.err hlt hf)
     have Hr3 := ek hr3; have Htf := ek hf; have Hrow := ek hrow; have Hdk := ek hdk; clear hst hf hr3 hrow hdk
     have hx2 : 2 ≤ x := by omega
     clear hx
     go_wp2_with fail
     refine (takeField_err E3 D.length d3 B D x _ Hr3.out (by omega) hDl Htf.out).mono ?_
     rintro e w4 ⟨rfl, hb4⟩
     have hrow4 := Oc.keep Hrow.out hb4
     have hcA : w4.cell? ⟨w1.heap.size, k,none⟩ = some (.string ⟨#[]⟩) := by
      obtain ⟨j, hj⟩ : ∃ j, m - k = j + 1 := ⟨m - k - 1, by omega⟩
      rw [World.ownsRow.cellAt hrow4 k (by omega), hj, ← Hdk.out]
      exact lvs_old done j
     have hfA := World.ownsRow.frozenAt hrow4 k
     have z4 := hb4.size
     have bz : Below w.heap.size w w4 := (hb1.trans (hbel3.mono z1)).trans (hb4.mono (by omega))
     clear hrow4
     go_wp2
     go_ret3
     rw [Hf.out]
     exact ⟨bz.setCell (by simpa using z1) _, rfl⟩
    | ok p =>
     obtain ⟨S, R⟩ := p
     obtain ⟨hRl, hSl⟩ := takeF_small hf
     have hRl2 : R.length ≤ 1000000 := by omega
     have Hst := ek (hst.step hlt hf)
     have Hr3 := ek hr3; have Htf := ek hf; have Hrow := ek hrow; have Hdk := ek hdk; clear hst hf hr3 hrow hdk
     go_wp2_with fail
     refine (takeField_ok E3 D.length d3 B D S R _ Hr3.out (by omega) hDl Htf.out).mono ?_
     rintro e w4 ⟨E4, d4, rfl, hr4, hb4⟩
     have hrow4 := Oc.keep Hrow.out hb4
     obtain ⟨j, hj⟩ : ∃ j, m - k = j + 1 := ⟨m - k - 1, by omega⟩
     have hcA : w4.cell? ⟨w1.heap.size, k,none⟩ = some (.string ⟨#[]⟩) := by
      rw [World.ownsRow.cellAt hrow4 k (by omega), hj, ← Hdk.out]
      exact lvs_old done j
     have hfA := World.ownsRow.frozenAt hrow4 k
     have hrow5 : Oc 1 (w4.setCell ⟨w1.heap.size, k,none⟩ (.string ⟨S.toArray⟩)) 9 w1.heap.size (some ⟨w1.heap.size, 0,none⟩) m m (lvs ((done ++ [S]) ++ List.replicate (m - (k + 1)) [])) := by
      have h5 := (World.ownsRow.stored hrow4 k (.string ⟨S.toArray⟩)).1
      have e : (lvs (done ++ List.replicate (m - k) [])).set k (.string ⟨S.toArray⟩) = lvs ((done ++ [S]) ++ List.replicate (m - (k + 1)) []) := by
       rw [show m - (k + 1) = j by omega, hj, ← Hdk.out]
       exact lvs_set done S j
      rw [e] at h5
      exact h5
     have z4 := hb4.size
     have b4 : Below w1.heap.size w1 w4 := hbel3.trans (hb4.mono (by omega))
     have Hr4 := ek hr4; have Hrow5 := ek hrow5; have Hj := ek hj; clear hrow4 hr4 hrow5 hj
     go_wp2
     go_roundw
     case rel => exact ⟨E4, d4, R, done ++ [S], k + 1, rfl, by go_num, by omega, by rw [List.length_append, Hdk.out]; rfl, Hr4.out.setCell (by show B ≤ w1.heap.size; omega) _, hRl2, Hrow5.out, Hst.out, b4.setCell (by simp) _⟩
     case measure => simp [intOf]; omega
   ·have hkm : k = m := by omega
    subst hkm
    have Hf := ek hst.end_
    have hrow' := hrow.mono z1
    rw [Nat.sub_self, List.replicate_zero, List.append_nil] at hrow'
    have bz : Below w.heap.size w wr := hb1.trans (hbel3.mono z1)
    have Hrow := ek hrow'; have Hr3 := ek hr3; have Hdk := ek hdk; clear hst hrow hrow' hr3 hdk
    go_wp2
    go_ret3
    rw [Hf.out]
    refine ⟨bz, ?_⟩
    show ∃ A c E d, _ ∧ Oc 1 wr 9 w.heap.size A done.length c (lvs done) ∧ Rb wr B E D.length d D
    rw [Hdk.out]
    exact ⟨some ⟨w1.heap.size, 0,none⟩, k, E3, d3, rfl, Hrow.out, Hr3.out⟩
theorem takeRecord_ok (A : Option Addr) (n c B : Nat) (l s : List UInt8) (r : List (List UInt8)) (w : World) (hr : Rb w B A n c l) (hB : B ≤ w.heap.size) (hn : n ≤ 1000000) (h : Fm.decR l = .ok (r, s)) :
  Calls Tryz.prog 187 #[.slice A n c] w fun e w' => ∃ A c D d, e = .returned (.tuple #[.slice A r.length c, .slice D s.length d, .int .i64 0]) ∧ Oc 1 w' 9 w.heap.size A r.length c (lvs r) ∧ Rb w' B D s.length d s ∧ Below w.heap.size w w' :=
 (takeRecord_c A n c B l w hr hB hn).mono fun e w' hp => by
  rw [h] at hp
  obtain ⟨hb, A, c, D, d, h1, h2, h3⟩ := hp
  exact ⟨A, c, D, d, h1, h2, h3, hb⟩
theorem takeRecord_err (A : Option Addr) (n c B : Nat) (l : List UInt8) (x : Nat) (w : World) (hr : Rb w B A n c l) (hB : B ≤ w.heap.size) (hn : n ≤ 1000000) (h : Fm.decR l = .error x) :
  Calls Tryz.prog 187 #[.slice A n c] w fun e w' => e = .returned (.tuple #[.slice none 0 0, .slice none 0 0, .int .i64 (x : Int)]) ∧ Below w.heap.size w w' :=
 (takeRecord_c A n c B l w hr hB hn).mono fun e w' hp => by
  rw [h] at hp
  exact ⟨hp.2, hp.1⟩
theorem decFs_x : ∀ (k : Nat) (b : List UInt8) (x : Nat), Fm.decFs k b = .error x → x = 2 ∨ x = 3 ∨ x = 5
 | 0, b, x, h => by simp [Fm.decFs] at h
 | k + 1, b, x, h => by
  rw [Fm.decFs] at h
  cases hf : Fm.takeF b with
  | error y => rw [hf] at h; injection h with h; have := takeF_x hf; omega
  | ok p =>
   obtain ⟨s, b'⟩ := p
   rw [hf] at h
   dsimp only at h
   cases hd : Fm.decFs k b' with
   | error y => rw [hd] at h; injection h with h; have := decFs_x k b' y hd; omega
   | ok q => rw [hd] at h; cases h
theorem decFs_small : ∀ (k : Nat) (b : List UInt8) (r : List (List UInt8)) (t : List UInt8), Fm.decFs k b = .ok (r, t) → t.length ≤ b.length
 | 0, b, r, t, h => by simp [Fm.decFs] at h; rw [h.2]; exact Nat.le_refl _
 | k + 1, b, r, t, h => by
  rw [Fm.decFs] at h
  cases hf : Fm.takeF b with
  | error y => rw [hf] at h; cases h
  | ok p =>
   obtain ⟨s, b'⟩ := p
   rw [hf] at h
   dsimp only at h
   have h1 := (takeF_small hf).1
   cases hd : Fm.decFs k b' with
   | error y => rw [hd] at h; cases h
   | ok q =>
    obtain ⟨r', t'⟩ := q
    rw [hd] at h
    injection h with h
    injection h with _ h
    subst h
    have := decFs_small k b' r' _ hd
    omega
theorem decR_x {b : List UInt8} {x : Nat} (h : Fm.decR b = .error x) : 2 ≤ x ∧ x ≤ 5 := by
 rw [decR_cnt] at h
 cases hc : cnt b 50 with
 | error y => rw [hc] at h; injection h with h; have := cnt_x hc; omega
 | ok p =>
  rw [hc] at h
  have := decFs_x _ _ _ h
  omega
theorem decR_small {b t : List UInt8} {r : List (List UInt8)} (h : Fm.decR b = .ok (r, t)) : t.length ≤ b.length := by
 rw [decR_cnt] at h
 cases hc : cnt b 50 with
 | error y => rw [hc] at h; cases h
 | ok p =>
  obtain ⟨a, b'⟩ := p
  rw [hc] at h
  have h1 := (cnt_small hc).2
  have := decFs_small a b' r t h
  omega
theorem Rx.rls {w : World} {base bo b n c : Nat} {av : Option Nat} {A : Option Addr} {vs : List Value} {l : List (List (List UInt8))} (h : Rx w base av vs l) (ho : Oc 1 w 77 bo A n c vs) (hb : b ≤ base) (hbo : b ≤ bo) : RLS w (Fr b w) A n c l :=
 ⟨vs, (ho.mono hbo).rcS, h.1, fun j v r h1 h2 => by
  obtain ⟨D, d, e, hr, _⟩ := h.2 j v r h1 h2
  exact ⟨D, _, d, e, (hr.mono hb).rcS⟩⟩
def preR (d : List (List (List UInt8))) : Except Nat (List (List (List UInt8)) × List UInt8) → Except Nat (List (List (List UInt8)) × List UInt8)
 | .error x => .error x
 | .ok (r, t) => .ok (d ++ r, t)
def Dss (m : Nat) (T : List UInt8) (k : Nat) (done : List (List (List UInt8))) (D : List UInt8) : Prop := Fm.decRs m T = preR done (Fm.decRs (m - k) D)
theorem Dss.start (m : Nat) (T : List UInt8) : Dss m T 0 [] T := by
 unfold Dss
 rw [Nat.sub_zero]
 cases Fm.decRs m T with
 | error x => rfl
 | ok p => rfl
theorem Dss.step {m k : Nat} {T D R : List UInt8} {S : List (List UInt8)} {done : List (List (List UInt8))} (h : Dss m T k done D) (hk : k < m) (hf : Fm.decR D = .ok (S, R)) : Dss m T (k + 1) (done ++ [S]) R := by
 unfold Dss at h ⊢
 obtain ⟨j, hj⟩ : ∃ j, m - k = j + 1 := ⟨m - k - 1, by omega⟩
 have hj2 : m - (k + 1) = j := by omega
 rw [h, hj, hj2]
 show preR done (Fm.decRs (j + 1) D) = _
 rw [Fm.decRs, hf]
 dsimp only
 cases Fm.decRs j R with
 | error x => rfl
 | ok p => obtain ⟨r, t⟩ := p; simp [preR]
theorem Dss.err {m k x : Nat} {T D : List UInt8} {done : List (List (List UInt8))} (h : Dss m T k done D) (hk : k < m) (hf : Fm.decR D = .error x) : Fm.decRs m T = .error x := by
 unfold Dss at h
 obtain ⟨j, hj⟩ : ∃ j, m - k = j + 1 := ⟨m - k - 1, by omega⟩
 rw [h, hj, Fm.decRs, hf]
 rfl
theorem Dss.end_ {m : Nat} {T D : List UInt8} {done : List (List (List UInt8))} (h : Dss m T m done D) : Fm.decRs m T = .ok (done, D) := by
 unfold Dss at h
 rw [h, Nat.sub_self]
 simp [Fm.decRs, preR]
def decS (T : List UInt8) : List (List (List UInt8)) × Nat := match Fm.dec T with | .ok l => (l, 0) | .error x => ([], x)
theorem decS_cnt {l : List UInt8} {x : Nat} (h : cnt l 5000 = .error x) : decS l = ([], x) := by unfold decS; rw [dec_cnt, h]
theorem decS_rs {l T : List UInt8} {m x : Nat} (h : cnt l 5000 = .ok (m, T)) (h2 : Fm.decRs m T = .error x) : decS l = ([], x) := by unfold decS; rw [dec_cnt, h]; dsimp only; rw [h2]
theorem decS_left {l T D : List UInt8} {m : Nat} {L : List (List (List UInt8))} (h : cnt l 5000 = .ok (m, T)) (h2 : Fm.decRs m T = .ok (L, D)) (hD : D ≠ []) : decS l = ([], 3) := by unfold decS; rw [dec_cnt, h]; dsimp only; rw [h2]; dsimp only; rw [if_neg hD]
theorem decS_ok {l T D : List UInt8} {m : Nat} {L : List (List (List UInt8))} (h : cnt l 5000 = .ok (m, T)) (h2 : Fm.decRs m T = .ok (L, D)) (hD : D = []) : decS l = (L, 0) := by unfold decS; rw [dec_cnt, h]; dsimp only; rw [h2]; dsimp only; rw [if_pos hD]
def RetD (w : World) (t : List (List (List UInt8)) × Nat) (e : Ending) (w' : World) : Prop :=
 ∃ A c, e = .returned (.tuple #[.slice A t.1.length c, .int .i64 (t.2 : Int)]) ∧ RLS w' (Fr w.heap.size w') A t.1.length c t.1 ∧ Below w.heap.size w w'
def DecRel (B base : Nat) (w : World) (m : Nat) (T : List UInt8) (r o i : Value) (wr : World) : Prop :=
 ∃ E d D A c vs done, ∃ k : Nat, r = .slice E D.length d ∧ o = .slice A k c ∧ i = .int .i64 (k : Int) ∧ k ≤ m ∧ done.length = k ∧ Rb wr B E D.length d D ∧ D.length ≤ 1000000 ∧
  Oc 1 wr 77 base A k c vs ∧ Rx wr base (ob A) vs done ∧ Dss m T k done D ∧ Below base w wr
theorem decode_c (A : Option Addr) (n c : Nat) (l : List UInt8) (w : World) (hr : Rb w w.heap.size A n c l) (hn : n ≤ 1000000) :
  Calls Tryz.prog 150 #[.slice A n c] w (RetD w (decS l)) := by
 have hl := hr.len
 cases hc : cnt l 5000 with
 | error x =>
  have hx := cnt_x hc
  have Hf := ek (decS_cnt hc)
  have Hr := ek hr; have Hc := ek hc; clear hr hc hl
  go_enter Tryz.func150, Tryz.ntmps150
  go_wp2_with fail
  refine (takeCount_err A n c _ l 5000 5000 x _ Hr.out (Nat.le_refl _) hn rfl (by omega) Hc.out).mono ?_
  rintro e w1 ⟨rfl, hb1⟩
  have hx2 := hx.1
  go_wp2
  go_ret2
  rw [Hf.out]
  exact ⟨none, 0, rfl, RLS.nil, hb1⟩
 | ok p =>
  obtain ⟨m, T⟩ := p
  obtain ⟨hm, hTl⟩ := cnt_small hc
  have hT : T.length ≤ 1000000 := by omega
  have Hr := ek hr; have Hc := ek hc; clear hr hc hl
  go_enter Tryz.func150, Tryz.ntmps150
  go_wp2_with fail
  refine (takeCount_ok A n c _ l 5000 5000 m T _ Hr.out (Nat.le_refl _) hn rfl (by omega) Hc.out).mono ?_
  rintro e w1 ⟨E, d, rfl, hrE, hb1⟩
  have z1 := hb1.size
  have HrE := ek hrE; clear hrE
  go_wp2
  go_loopw [5, 7, 19] (fun r o i wr => DecRel w.heap.size w1.heap.size w1 m T r o i wr) (fun _ _ i _ => m - (intOf i).toNat)
  case atStart => exact ⟨E, d, T, none, 0, [], [], 0, rfl, rfl, rfl, Nat.zero_le _, rfl, HrE.out, hT, Oc.nil _ _ _ _, Rx.nil _ _ _, Dss.start m T, Below.refl _ _⟩
  case round =>
   obtain ⟨E3, d3, D, A3, c3, vs, done, k, rfl, rfl, rfl, hk, hdk, hr3, hDl, hrow, hrx, hst, hbel3⟩ := hrel
   have z3 := hbel3.size
   by_cases hlt : k < m
   ·cases hf : Fm.decR D with
    | error x =>
     have hx := decR_x hf
     have Hf := ek (decS_rs Hc.out (hst.err hlt hf))
     have Hr3 := ek hr3; have Htf := ek hf; clear hst hf hr3 hrow hrx hdk
     have hx2 := hx.1
     clear hx
     go_wp2_with fail
     refine (takeRecord_err E3 D.length d3 _ D x _ Hr3.out (by omega) hDl Htf.out).mono ?_
     rintro e w4 ⟨rfl, hb4⟩
     have bz : Below w.heap.size w w4 := (hb1.trans (hbel3.mono z1)).trans (hb4.mono (by omega))
     go_wp2
     go_ret2
     rw [Hf.out]
     exact ⟨none, 0, rfl, RLS.nil, bz⟩
    | ok p =>
     obtain ⟨S, R⟩ := p
     have hRl := decR_small hf
     have hRl2 : R.length ≤ 1000000 := by omega
     have Hst := ek (hst.step hlt hf)
     have hrv := hrx.1
     have Hr3 := ek hr3; have Htf := ek hf; have Hrow := ek hrow; have Hrx := ek hrx; have Hdk := ek hdk; clear hst hf hr3 hrow hrx hdk
     go_wp2_with fail
     refine (takeRecord_ok E3 D.length d3 _ D R S _ Hr3.out (by omega) hDl Htf.out).mono ?_
     rintro e w4 ⟨D4, d4, E4, e4, rfl, hs4, hr4, hb4⟩
     have z4 := hb4.size
     obtain ⟨w5, hw5⟩ : ∃ w5, w5 = w4.alloc (.cells #[.slice D4 S.length d4] 77) := ⟨_, rfl⟩
     have b45 : Below w4.heap.size w4 w5 := by rw [hw5]; exact ej _ _
     have hrow4 := Hrow.out.keep hb4
     have hrow5 := hrow4.keep b45
     have hnD : ob D4 = none ∨ ob D4 ≠ ob A3 := by
      cases hD : ob D4 with
      | none => exact .inl rfl
      | some b =>
       refine .inr fun e2 => ?_
       have h1 := (oc_ob hs4 b hD).1
       have h2 := (oc_ob Hrow.out b e2.symm).2
       omega
     have hrx5 := ((Hrx.out.below hb4).snoc (hs4.mono (by omega)) hnD).below b45
     have hr5 := hr4.below (b45.mono (by omega))
     have b5 : Below w1.heap.size w1 w5 := (hbel3.trans (hb4.mono (by omega))).trans (b45.mono (by omega))
     have z5 := b45.size
     have hlit : Rc 1 w5 (w4.heap.size + 1) (some ⟨w4.heap.size, 0,none⟩) 1 1 [.slice D4 S.length d4] := by rw [hw5]; exact Rc.lit w4 _ #[.slice D4 S.length d4] 1 rfl (by simp [maxLen])
     have Hlit := ek hlit; have Hrow5 := ek hrow5; have Hrx5 := ek hrx5; have Hr5 := ek hr5; have W5 := ek hw5
     clear hlit hrow5 hrow4 hrx5 hr5 hr4 hw5 hs4 hnD b45
     go_wp2_with (at_builtin; rw [← W5.out]; go_must (refine Sl.wpAppAt rty rfl (.tmp 30) (.tmp 32) rfl (n := k) (m := 1) (N := k + 1) (ws := vs ++ [.slice D4 S.length d4]) rfl rfl Hrow5.out Hlit.out ?hs1 rfl rfl ?hs4 ?hs5 ?hs6 ?_))
     case hs1 => simp [Value.oneCell']
     case hs4 => omega
     case hs5 => omega
     case hs6 => omega
     intro A6 c6 w6 hown6 hg6
     have b6 := b5.trans (hg6.belowC Hrow5.out (by omega))
     have hrx6 := Hrx5.out.grow hg6
     have hr6 := Hr5.out.below ((hg6.belowC Hrow5.out (by omega)).mono z1)
     have Hown6 := ek hown6; have Hrx6 := ek hrx6; have Hr6 := ek hr6; clear hown6 hrx6 hr6 hg6
     go_wp2
     go_roundw
     case rel => exact ⟨E4, e4, R, A6, c6, vs ++ [.slice D4 S.length d4], done ++ [S], k + 1, rfl, rfl, by go_num, by omega, by rw [List.length_append, Hdk.out]; rfl, Hr6.out, hRl2, Hown6.out, Hrx6.out, Hst.out, b6⟩
     case measure => simp [intOf]; omega
   ·have hkm : k = m := by omega
    subst hkm
    have bz : Below w.heap.size w wr := hb1.trans (hbel3.mono z1)
    have hrl := hrx.rls hrow (b := w.heap.size) z1 z1
    have He := hst.end_
    by_cases hD : D = []
    ·have Hf := ek (decS_ok Hc.out He hD)
     subst hD
     have Hrl := ek hrl; have Hdk := ek hdk; clear hst hrow hrx hr3 hdk He hrl
     go_wp2
     go_ret2
     rw [Hf.out]
     show ∃ A c, _ ∧ RLS wr (Fr w.heap.size wr) A done.length c done ∧ _
     rw [Hdk.out]
     exact ⟨A3, c3, rfl, Hrl.out, bz⟩
    ·have Hf := ek (decS_left Hc.out He hD)
     have hp : 0 < D.length := List.length_pos_iff.2 hD
     clear hst hrow hrx hr3 hdk He hrl hD
     go_wp2
     go_ret2
     rw [Hf.out]
     exact ⟨none, 0, rfl, RLS.nil, bz⟩
end Go.Proofs.YtkekmokdlgocaaaGreatDoor.Cht
