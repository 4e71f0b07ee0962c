import Derived.Test.YtkekmokdlgocaaaGreatDoorJW25
import Derived.Test.YtkekmokdlgocaaaGreatDoorJW26
import Derived.Deep.RegionHeld
import Derived.Test.YtkekmokdlgocaaaGreatDoorJW33
set_option maxRecDepth 100000
set_option maxHeartbeats 4000000
namespace Go.Proofs.YtkekmokdlgocaaaGreatDoor.Sq
open Go.RowKit
theorem equal_c (A D : Option Addr) (n c m d B B' : Nat) (l r : List UInt8) (w : World) (h1 : Rb w B A n c l) (h2 : Rb w B' D m d r) (o : Bool) (ho : o = (l == r)) :
  Calls Tryz.prog 198 #[.slice A n c, .slice D m d] w fun e w' => e = .returned (.bool o) ∧ w = w' := by
 have cv1 := bty.conv h1
 have cv2 := bty.conv h2
 clear h1 h2
 by_cases h : l = r
 ·subst h
  obtain rfl : o = true := by rw [ho]; simp
  clear ho
  go_enter Tryz.func198, Tryz.ntmps198
  go_wp2
  go_ret
  exact ⟨rfl,rfl⟩
 ·obtain rfl : o = false := by rw [ho]; simpa using h
  clear ho
  go_enter Tryz.func198, Tryz.ntmps198
  go_wp2
  go_ret
  exact ⟨by first | rfl | simp [h], rfl⟩
theorem hasp_c (A D : Option Addr) (n c k d B B' : Nat) (l r : List UInt8) (w : World) (h1 : Rb w B A n c l) (h2 : Rb w B' D k d r) (o : Bool) (ho : o = decide (l.take k = r)) :
  Calls Tryz.prog 164 #[.slice A n c, .slice D k d] w fun e w' => e = .returned (.bool o) ∧ w = w' := by
 have hl := h1.len
 have hr := h2.len
 by_cases h : k ≤ n
 ·obtain ⟨E, hE, hrE⟩ := bty.upto_ h1 h (k : Int) rfl
  have he := equal_c E D k c k d B B' (l.take k) r w hrE h2 o (by rw [ho, Bool.eq_iff_iff]; simp)
  have H := ek he
  have hle : (k : Int) ≤ (n : Int) := by omega
  clear he hrE h1 h2 ho hl hr
  go_enter Tryz.func164, Tryz.ntmps164
  go_wp2_with fail
  refine H.out.mono ?_
  rintro e w' ⟨rfl,rfl⟩
  go_wp2
  go_ret
  exact ⟨rfl,rfl⟩
 ·obtain rfl : o = false := by
   rw [ho]
   refine decide_eq_false fun e => ?_
   have := congrArg List.length e
   rw [List.length_take] at this
   omega
  have hle : ¬ (k : Int) ≤ (n : Int) := by omega
  clear ho h1 h2 hl hr
  go_enter Tryz.func164, Tryz.ntmps164
  go_wp2
  go_ret
  exact ⟨rfl,rfl⟩
theorem cutp_yes (A D : Option Addr) (n c k d B B' : Nat) (l r : List UInt8) (w : World) (h1 : Rb w B A n c l) (h2 : Rb w B' D k d r) (ho : l.take k = r) :
  Calls Tryz.prog 141 #[.slice A n c, .slice D k d] w fun e w' => (∃ E, e = .returned (.tuple #[.slice E (n - k) (c - k), .bool true]) ∧ Rb w B E (n - k) (c - k) (l.drop k)) ∧ w = w' := by
 have hl := h1.len
 have hr := h2.len
 have hk : k ≤ n := by
  have := congrArg List.length ho
  rw [List.length_take] at this
  omega
 obtain ⟨E, hE, hrE⟩ := bty.from_ h1 hk (k : Int) rfl
 have H := ek (hasp_c A D n c k d B B' l r w h1 h2 true (by rw [ho]; simp))
 have HrE := ek hrE
 clear h1 h2 ho hl hr hrE
 go_enter Tryz.func141, Tryz.ntmps141
 go_wp2_with fail
 refine H.out.mono ?_
 rintro e w' ⟨rfl,rfl⟩
 go_wp2
 go_ret2
 exact ⟨⟨E, rfl, HrE.out⟩, rfl⟩
theorem cutp_no (A D : Option Addr) (n c k d B B' : Nat) (l r : List UInt8) (w : World) (h1 : Rb w B A n c l) (h2 : Rb w B' D k d r) (ho : l.take k ≠ r) :
  Calls Tryz.prog 141 #[.slice A n c, .slice D k d] w fun e w' => e = .returned (.tuple #[.slice A n c, .bool false]) ∧ w = w' := by
 have H := ek (hasp_c A D n c k d B B' l r w h1 h2 false (by simp [ho]))
 clear h1 h2 ho
 go_enter Tryz.func141, Tryz.ntmps141
 go_wp2_with fail
 refine H.out.mono ?_
 rintro e w' ⟨rfl,rfl⟩
 go_wp2
 go_ret2
 exact ⟨rfl,rfl⟩
theorem takeCount_yes (A : Option Addr) (n c B : Nat) (l : List UInt8) (w : World) (hr : Rb w B A n c l) (hB : B ≤ w.heap.size) (hn : n ≤ 1000000) (a s : Nat) (ht : Vm.tk l = (a, s, 0)) (ha1 : 1 ≤ a) (ha : a ≤ 100) :
  Calls Tryz.prog 179 #[.slice A n c] w fun e w' => ∃ E d, e = .returned (.tuple #[.int .i64 (a : Int), .slice E (l.drop s).length d, .bool true]) ∧ Rb w' B E (l.drop s).length d (l.drop s) ∧ Below w.heap.size w w' := by
 have hl := hr.len
 obtain ⟨h, hmin, hh⟩ : ∃ h : Nat, min (n : Int) 10 = (h : Int) ∧ (h = 10 ∨ h = l.length) := by
  by_cases hc : n ≤ 10
  ·exact ⟨n, by omega, .inr (by omega)⟩
  ·exact ⟨10, by omega, .inl rfl⟩
 have hhn : h ≤ n := by omega
 have hs0 := Vm.tk_size l
 rw [ht] at hs0
 dsimp only at hs0
 have htk : Vm.tk (l.take h) = (a, s, 0) := by
  rcases hh with rfl | rfl
  ·exact Sm.tk_take l 10 (Nat.le_refl _) a s ht
  ·rw [List.take_of_length_le (Nat.le_refl _)]; exact ht
 obtain ⟨D, hD, hrD⟩ := bty.upto_ hr (k := h) hhn (min (n : Int) 10) hmin
 have hDl := hrD.len
 have hrD' := hrD.more hB
 have hsn : s ≤ n := by omega
 obtain ⟨E, hE, hrE⟩ := bty.from_ hr (k := s) hsn (s : Int) rfl
 have ct := take_c D h c (l.take h)
 have c1 : ∀ W, Rb W W.heap.size D h c (l.take h) → Calls Tryz.prog 188 #[.slice D h c] W (RetT W.heap.size W (a, (l.take h).drop s, 0)) := fun W hW => by
  have := ct W hW (by omega)
  rwa [takeS_ok _ a s htk] at this
 have hlen : ((l.take h).drop s).length = h - s := by rw [List.length_drop, hDl]
 have hdl : (l.drop s).length = n - s := by rw [List.length_drop, hl]
 have hsh : s ≤ h := by have := Vm.tk_size (l.take h); rw [htk, hDl] at this; exact this.1
 have e1 : IntKind.i64.wrap ((h : Int) - ((h - s : Nat) : Int)) = (s : Int) := by rw [IntWalk.i64_in _ (by omega)]; omega
 have e2 : ((h : Int) - ((h - s : Nat) : Int)) = (s : Int) := by omega
 have e3 : decide ((a : Int) < 1) = false := decide_eq_false (by omega)
 have e4 : decide ((a : Int) > 100) = false := decide_eq_false (by omega)
 have HrD := ek hrD'; have C1 := ek c1; have Hl := ek hlen; have HrE := ek hrE; have Hdl := ek hdl
 clear hr hrD hrD' c1 ct ht htk hrE hlen hl hDl hh hmin hdl hs0
 go_enter Tryz.func179, Tryz.ntmps179
 go_wp2_with fail
 refine (C1.out _ HrD.out).mono ?_
 rw [show (RetT w.heap.size w (a, (l.take h).drop s, 0)) = fun e w' => ∃ A c, e = .returned (.tuple #[.int .u64 (a : Int), .slice A (h - s) c, .int .i64 0]) ∧ Own w' 5 w.heap.size A c ((l.take h).drop s) ∧ Below w.heap.size w w' by unfold RetT; rw [Hl.out]; rfl]
 rintro e w1 ⟨A1, c1, rfl, hown1, hb1⟩
 clear hown1
 go_wp2_with fail
 go_quiet (fail)
 go_wp2
 go_ret3
 refine ⟨E, c - s, ?_, ?_, below_drewN hb1 _⟩
 ·rw [Hdl.out]; rfl
 ·rw [Hdl.out]
  exact (HrE.out.keep fun p hp => hb1.cell (by omega)).drewN _
theorem takeCount_no (A : Option Addr) (n c B : Nat) (l : List UInt8) (w : World) (hr : Rb w B A n c l) (hB : B ≤ w.heap.size) (hn : n ≤ 1000000) (hno : ∀ a s, Vm.tk l = (a, s, 0) → ¬ (1 ≤ a ∧ a ≤ 100)) :
  Calls Tryz.prog 179 #[.slice A n c] w fun e w' => e = .returned (.tuple #[.int .i64 0, .slice none 0 0, .bool false]) ∧ Below w.heap.size w w' := by
 have hl := hr.len
 obtain ⟨h, hmin, hh⟩ : ∃ h : Nat, min (n : Int) 10 = (h : Int) ∧ (h = 10 ∨ h = l.length) := by
  by_cases hc : n ≤ 10
  ·exact ⟨n, by omega, .inr (by omega)⟩
  ·exact ⟨10, by omega, .inl rfl⟩
 have hhn : h ≤ n := by omega
 obtain ⟨D, hD, hrD⟩ := bty.upto_ hr (k := h) hhn (min (n : Int) 10) hmin
 have hrD' := hrD.more hB
 have ct := take_c D h c (l.take h)
 rcases tk_cases (l.take h) with ⟨a, s, ht, ha, hs, hs10⟩ | ⟨x, ht, hx⟩
 ·have ht2 : Vm.tk l = (a, s, 0) := by
   have := Sm.tk_app _ (l.drop h) a s ht
   rwa [List.take_append_drop] at this
  have hn2 := hno a s ht2
  have c1 : ∀ W, Rb W W.heap.size D h c (l.take h) → Calls Tryz.prog 188 #[.slice D h c] W fun e w' => ∃ A m c, e = .returned (.tuple #[.int .u64 (a : Int), .slice A m c, .int .i64 0]) ∧ Below W.heap.size W w' := fun W hW => by
   have := ct W hW (by omega)
   rw [takeS_ok _ a s ht] at this
   exact this.mono fun e w' ⟨A, c, he, ho, hb⟩ => ⟨A, _, c, he, hb⟩
  have HrD := ek hrD'; have C1 := ek c1
  clear hr hrD hrD' c1 ct ht hl hh hmin hno ht2
  by_cases h1 : a < 1
  ·have e3 : ((a : Int) < 1) := by omega
   clear hn2
   go_enter Tryz.func179, Tryz.ntmps179
   go_wp2_with fail
   refine (C1.out _ HrD.out).mono ?_
   rintro e w1 ⟨A1, m1, c1, rfl, hb1⟩
   go_wp2
   go_ret3
   exact ⟨rfl, hb1⟩
  ·have e3 : ¬ ((a : Int) < 1) := by omega
   have e4 : (100 : Int) < (a : Int) := by omega
   clear hn2
   go_enter Tryz.func179, Tryz.ntmps179
   go_wp2_with fail
   refine (C1.out _ HrD.out).mono ?_
   rintro e w1 ⟨A1, m1, c1, rfl, hb1⟩
   go_wp2
   go_ret3
   exact ⟨rfl, hb1⟩
 ·have c1 : ∀ W, Rb W W.heap.size D h c (l.take h) → Calls Tryz.prog 188 #[.slice D h c] W (RetT W.heap.size W (0, [], x)) := fun W hW => by
   have := ct W hW (by omega)
   rwa [takeS_err _ x ht hx] at this
  have HrD := ek hrD'; have C1 := ek c1
  have hx1 : 2 ≤ x := by omega
  clear hr hrD hrD' c1 ct ht hl hh hmin hx hno
  go_enter Tryz.func179, Tryz.ntmps179
  go_wp2_with fail
  refine (C1.out _ HrD.out).mono ?_
  rintro e w1 ⟨A1, c1, rfl, hown1, hb1⟩
  go_wp2
  go_ret3
  exact ⟨rfl, hb1⟩
theorem sty : Sl Tryz.prog 77 9 (.string ⟨#[]⟩) 1 16 := ⟨Tryz.underlying77, by kernel_rfl, rfl, by omega⟩
def srow (n : Nat) : Array Value := (List.replicate n (Value.string ⟨#[]⟩)).toArray
theorem make_rec (w : World) (n : Nat) (L : Int) (hL : L = (n : Int)) (hn : n ≤ 1000) :
  (Instr.makeSlice 77 (.int .i64 L) (.int .i64 L)).run Tryz.prog w = .ok (.slice (some ⟨w.heap.size, 0,none⟩) n n) (w.alloc (.cells (srow n) 9)) := by
 subst hL
 obtain ⟨i, hi, hz0, hz1, hz2⟩ := info_parts sty.inf
 have h := run_make (P := Tryz.prog) w 77 9 i (.string ⟨#[]⟩) Tryz.underlying77 hi hz0 .i64 .i64 (n : Int) (n : Int) (by omega) (by omega) (by rw [hz2]; omega) (by omega)
 simp only [Int.toNat_natCast, hz1, Nat.mul_one] at h
 rw [h]
 have e1 : madeCells (Value.string ⟨#[]⟩).cells n = srow n := by
  apply Array.toList_inj.1
  have hcells : (Value.string ⟨#[]⟩).cells = #[.string ⟨#[]⟩] := rfl
  rw [hcells, toList_madeCells_one]
  simp [srow]
 rw [e1]
theorem lvs_set (done : List (List UInt8)) (S : List UInt8) (j : Nat) : (lvs (done ++ List.replicate (j + 1) [])).set done.length (.string ⟨S.toArray⟩) = lvs ((done ++ [S]) ++ List.replicate j []) := by
 simp [lvs, List.replicate_succ]
theorem lvs_old (done : List (List UInt8)) (j : Nat) : (lvs (done ++ List.replicate (j + 1) []))[done.length]? = some (.string ⟨#[]⟩) := by
 simp [lvs, List.replicate_succ]
theorem tframe_head (D : Option Addr) (h c : Nat) (l : List UInt8) (w : World) (hr : Rb w w.heap.size D h c (l.take h)) (hh : h = 1010 ∨ h = l.length) (hn : h ≤ 1000000) :
  Calls Tryz.prog 215 #[.slice D h c, .int .i64 1000] w fun e w' => Below w.heap.size w w' ∧ match Sm.ok3 (frameS l 1000) with
   | some (t, s) => ∃ A c, e = .returned (.tuple #[.string ⟨t.toArray⟩, .slice A (h - s) c, .int .i64 0]) ∧ s ≤ h ∧ s ≤ l.length
   | none => ∃ A x c, e = .returned (.tuple #[.string ⟨#[]⟩, .slice A 0 c, .int .i64 x]) ∧ x ≠ 0 := by
 have hf := takeFrame_c D h c (l.take h) 1000 w hr hn (by unfold I64; omega)
 have hhl : h ≤ l.length := by have := hr.len; rw [List.length_take] at this; omega
 have hlen : (l.take h).length = h := by rw [List.length_take]; omega
 have hcut : (frameS (l.take h) 1000).2.2 = 0 ↔ (frameS l 1000).2.2 = 0 := by
  rcases hh with rfl | rfl
  ·exact Sm.frameS_cut l 1010 (Nat.le_refl _)
  ·rw [List.take_of_length_le (Nat.le_refl _)]
 rcases frameS_cases (l.take h) 1000 with ⟨t, s, h1, hs, ht⟩ | ⟨x, h1, hx⟩
 ·have h2 : frameS l 1000 = (t, s, 0) := by
   have := Sm.frameS_app (l.drop h) h1
   rwa [List.take_append_drop] at this
  rw [tframeS_ok _ _ t s h1] at hf
  rw [hlen] at hs
  rw [Sm.ok3_some.2 h2]
  refine hf.mono fun e w' ⟨A, c, he, _, hb⟩ => ⟨hb, A, c, ?_, hs, by omega⟩
  rw [he]
  dsimp only
  rw [List.length_drop, hlen]
  rfl
 ·have h2 : Sm.ok3 (frameS l 1000) = none := by
   unfold Sm.ok3
   rw [if_neg (fun e => ?_)]
   have := hcut.2 e
   rw [h1] at this
   dsimp only at this
   omega
  rw [tframeS_err _ _ x h1 hx] at hf
  rw [h2]
  exact hf.mono fun e w' ⟨A, c, he, _, hb⟩ => ⟨hb, A, _, c, he, by dsimp only; omega⟩
def St (l : List UInt8) (k : Nat) (done : List (List UInt8)) (D : List UInt8) : Prop :=
 (k = 0 ∧ done = [] ∧ D = l) ∨ (k = 1 ∧ ∃ t s, frameS l 1000 = (t, s, 0) ∧ done = [t] ∧ D = l.drop s) ∨ (k = 2 ∧ ∃ s, Sm.rec1 l = some (done, s) ∧ D = l.drop s)
theorem St.next {l D : List UInt8} {k s : Nat} {done : List (List UInt8)} {t : List UInt8} (h : St l k done D) (hk : k < 2) (hf : Sm.ok3 (frameS D 1000) = some (t, s)) : St l (k + 1) (done ++ [t]) (D.drop s) := by
 rcases h with ⟨rfl, rfl, rfl⟩ | ⟨rfl, u, m, h1, rfl, rfl⟩ | ⟨rfl, _⟩
 ·exact .inr (.inl ⟨rfl, t, s, Sm.ok3_some.1 hf, rfl, rfl⟩)
 ·refine .inr (.inr ⟨rfl, m + s, ?_, by rw [List.drop_drop]⟩)
  unfold Sm.rec1
  rw [Sm.ok3_some.2 h1]
  dsimp only [Option.bind_some]
  rw [hf]
  rfl
 ·omega
theorem St.none_ {l D : List UInt8} {k : Nat} {done : List (List UInt8)} (h : St l k done D) (hk : k < 2) (hf : Sm.ok3 (frameS D 1000) = none) : Sm.rec1 l = none := by
 rcases h with ⟨rfl, rfl, rfl⟩ | ⟨rfl, u, m, h1, rfl, rfl⟩ | ⟨rfl, _⟩
 ·unfold Sm.rec1; rw [hf]; rfl
 ·unfold Sm.rec1
  rw [Sm.ok3_some.2 h1]
  dsimp only [Option.bind_some]
  rw [hf]
  rfl
 ·omega
theorem St.end_ {l D : List UInt8} {done : List (List UInt8)} (h : St l 2 done D) : ∃ s, Sm.rec1 l = some (done, s) ∧ D = l.drop s := by
 rcases h with ⟨h, _⟩ | ⟨h, _⟩ | ⟨_, h⟩
 ·omega
 ·omega
 ·exact h
def RetTr (B : Nat) (w : World) (l : List UInt8) (t : Option (Sm.R × Nat)) (e : Ending) (w' : World) : Prop :=
 Below w.heap.size w w' ∧ match t with
 | some (r, s) => ∃ A c E d, e = .returned (.tuple #[.slice A 2 c, .slice E (l.drop s).length d, .bool true]) ∧ Oc 1 w' 9 w.heap.size A 2 c (lvs r) ∧ Rb w' B E (l.drop s).length d (l.drop s)
 | none => e = .returned (.tuple #[.slice none 0 0, .slice none 0 0, .bool false])
def TrRel (B base : Nat) (w : World) (l : List UInt8) (r i : Value) (wr : World) : Prop :=
 ∃ E d D done, ∃ k : Nat, r = .slice E D.length d ∧ i = .int .i64 (k : Int) ∧ k ≤ 2 ∧ done.length = k ∧ Rb wr B E D.length d D ∧ D.length ≤ 1000000 ∧
  Oc 1 wr 9 base (some ⟨base, 0,none⟩) 2 2 (lvs (done ++ List.replicate (2 - k) [])) ∧ St l k done D ∧ Below base w wr
theorem takeRecord_c (A : Option Addr) (n c B : Nat) (l : List UInt8) (w : World) (hr : Rb w B A n c l) (hB : B ≤ w.heap.size) (hn : n ≤ 1000000) :
  Calls Tryz.prog 180 #[.slice A n c] w (RetTr B w l (Sm.rec1 l)) := by
 have hl := hr.len
 have hmk := make_rec w 2 2 rfl (by omega)
 obtain ⟨w1, hw1⟩ : ∃ w1, w1 = w.alloc (.cells (srow 2) 9) := ⟨_, rfl⟩
 rw [← hw1] at hmk
 have b1 : Below w.heap.size w w1 := by rw [hw1]; exact ej _ _
 have hrow0 : Oc 1 w1 9 w.heap.size (some ⟨w.heap.size, 0,none⟩) 2 2 (lvs ([] ++ List.replicate (2 - 0) [])) := by
  have h := Oc.lit (z := 1) w 9 (srow 2) 2 (by simp [srow]) (by simp [maxLen])
  have e : (srow 2).toList = lvs ([] ++ List.replicate (2 - 0) []) := by simp [srow, lvs]
  rw [e, ← hw1] at h
  exact h
 have hr1 : Rb w1 B A n c l := by rw [hw1]; exact hr.alloc hB _
 obtain ⟨U, hU⟩ : ∃ U, U = Sm.rec1 l := ⟨_, rfl⟩
 rw [← hU]
 have HU := ek hU; have Hr1 := ek hr1; have Hrow0 := ek hrow0; clear hU hr hr1 hrow0 hw1
 go_enter Tryz.func180, Tryz.ntmps180
 go_wp2
 go_loopw [0, 14] (fun r i wr => TrRel B w.heap.size w l r i wr) (fun _ i _ => 2 - (intOf i).toNat)
 case atStart => exact ⟨A, c, l, [], 0, by rw [hl], rfl, by omega, rfl, by rw [hl]; exact Hr1.out, by omega, Hrow0.out, .inl ⟨rfl, rfl, rfl⟩, b1⟩
 case round =>
  obtain ⟨E3, d3, D, done, k, rfl, rfl, hk, hdk, hr3, hDl, hrow, hst, hbel3⟩ := hrel
  have z3 := hbel3.size
  clear hmk
  by_cases hlt : k < 2
  ·obtain ⟨h, hmin, hh⟩ : ∃ h : Nat, min (D.length : Int) 1010 = (h : Int) ∧ (h = 1010 ∨ h = D.length) := by
    by_cases hc : D.length ≤ 1010
    ·exact ⟨D.length, by omega, .inr rfl⟩
    ·exact ⟨1010, by omega, .inl rfl⟩
   have hhn : h ≤ D.length := by omega
   obtain ⟨F, hF, hrF⟩ := bty.upto_ hr3 (k := h) hhn (min (D.length : Int) 1010) hmin
   have hcall := tframe_head F h d3 D wr (hrF.more (by omega)) hh (by omega)
   obtain ⟨j, hj⟩ : ∃ j, 2 - k = j + 1 := ⟨2 - k - 1, by omega⟩
   rcases hok : Sm.ok3 (frameS D 1000) with _ | ⟨t, s⟩
   ·rw [hok] at hcall
    obtain rfl : U = none := by rw [HU.out]; exact hst.none_ hlt hok
    have Hcall := ek hcall; clear hcall hst hok hrF hr3 hrow hdk HU hmin hh
    go_wp2_with fail
    refine Hcall.out.mono ?_
    rintro e w4 ⟨hb4, A4, x, c4, rfl, hx⟩
    have hx1 : (x != 0) = true := by simp [hx]
    have hx2 : (x == 0) = false := by simp [hx]
    have b4 := hbel3.trans (hb4.mono z3)
    go_wp2
    go_ret3
    exact ⟨b4, rfl⟩
   ·rw [hok] at hcall
    have Hst := ek (hst.next hlt hok)
    have hsD : s ≤ D.length := by
     have := Sm.frameS_inv (Sm.ok3_some.1 hok)
     obtain ⟨a, q, _, _, _, g4, _, g6, _⟩ := this
     omega
    obtain ⟨G, hG, hrG⟩ := bty.from_ hr3 (k := s) hsD (s : Int) rfl
    have hdl : (D.drop s).length = D.length - s := List.length_drop ..
    rw [← hdl] at hrG
    have Hcall := ek hcall; have HrG := ek hrG; have Hrow := ek hrow; have Hdk := ek hdk; have Hj := ek hj; have Hdl := ek hdl; clear hcall hst hok hrF hr3 hrow hdk hj hmin hh hrG hdl
    go_wp2_with fail
    refine Hcall.out.mono ?_
    rintro e w4 ⟨hb4, A4, c4, rfl, hsh, _⟩
    have hrow4 := Oc.keep Hrow.out hb4
    have hcA : w4.cell? ⟨w.heap.size, k,none⟩ = some (.string ⟨#[]⟩) := by
     rw [World.ownsRow.cellAt hrow4 k (by omega), Hj.out, ← Hdk.out]
     exact lvs_old done j
    have hfA := World.ownsRow.frozenAt hrow4 k
    have hrow5 : Oc 1 (w4.setCell ⟨w.heap.size, k,none⟩ (.string ⟨t.toArray⟩)) 9 w.heap.size (some ⟨w.heap.size, 0,none⟩) 2 2 (lvs ((done ++ [t]) ++ List.replicate (2 - (k + 1)) [])) := by
     have h5 := (World.ownsRow.stored hrow4 k (.string ⟨t.toArray⟩)).1
     have e : (lvs (done ++ List.replicate (2 - k) [])).set k (.string ⟨t.toArray⟩) = lvs ((done ++ [t]) ++ List.replicate (2 - (k + 1)) []) := by
      rw [show 2 - (k + 1) = j by have := Hj.out; omega, Hj.out, ← Hdk.out]
      exact lvs_set done t j
     rw [e] at h5
     exact h5
    have e2 : ((h : Int) - ((h - s : Nat) : Int)) = (s : Int) := by omega
    have b4 : Below w.heap.size w w4 := hbel3.trans (hb4.mono z3)
    have hr4 := HrG.out.below (hb4.mono (by omega))
    have hr5 := hr4.setCell (p := ⟨w.heap.size, k,none⟩) (by show B ≤ w.heap.size; omega) (.string ⟨t.toArray⟩)
    have Hr5 := ek hr5; have Hrow5 := ek hrow5; clear hrow4 hr4 hr5 hrow5
    go_wp2
    go_roundw
    case rel => exact ⟨G, d3 - s, D.drop s, done ++ [t], k + 1, by rw [Hdl.out], by go_num, by omega, by rw [List.length_append, Hdk.out]; rfl, Hr5.out, by have := Hdl.out; omega, Hrow5.out, Hst.out, b4.setCell (by simp) _⟩
    case measure => simp [intOf]; omega
  ·have hk2 : k = 2 := by omega
   subst hk2
   obtain ⟨s, hs, rfl⟩ := hst.end_
   obtain rfl : U = some (done, s) := by rw [HU.out, hs]
   rw [Nat.sub_self, List.replicate_zero, List.append_nil] at hrow
   have Hrow := ek hrow; have Hr3 := ek hr3; clear hst hrow hr3 hs HU hdk
   go_wp2
   go_ret3
   exact ⟨hbel3, _, _, E3, d3, rfl, Hrow.out, Hr3.out⟩
def rrow (n : Nat) : Array Value := (List.replicate n (Value.slice none 0 0)).toArray
theorem make_recs (w : World) (n : Nat) (L : Int) (hL : L = (n : Int)) (hn : n ≤ 1000) :
  (Instr.makeSlice 30 (.int .i64 L) (.int .i64 L)).run Tryz.prog w = .ok (.slice (some ⟨w.heap.size, 0,none⟩) n n) (w.alloc (.cells (rrow n) 77)) := by
 subst hL
 obtain ⟨i, hi, hz0, hz1, hz2⟩ := info_parts rty.inf
 have h := run_make (P := Tryz.prog) w 30 77 i (.slice none 0 0) Tryz.underlying30 hi hz0 .i64 .i64 (n : Int) (n : Int) (by omega) (by omega) (by rw [hz2]; omega) (by omega)
 simp only [Int.toNat_natCast, hz1, Nat.mul_one] at h
 rw [h]
 have e1 : madeCells (Value.slice none 0 0).cells n = rrow n := by
  apply Array.toList_inj.1
  have hcells : (Value.slice none 0 0).cells = #[.slice none 0 0] := rfl
  rw [hcells, toList_madeCells_one]
  simp [rrow]
 rw [e1]
theorem rec_sf {w' : World} {base g : Nat} {e : TypeId} {A D : Option Addr} {n c : Nat} {r : List (List UInt8)} (hD : Oc 1 w' e g D n c (lvs r)) (hg : base ≤ g) (hA : ∀ k, ob A = some k → k < g) : RrS w' (Sf base w' A) (.slice D n c) r :=
 ⟨D, n, c, rfl, hD.rcS.keep (stays_weak fun b hb => ⟨Nat.le_trans hg hb.1, hb.2, fun e => by have := hA b e.symm; have := hb.1; omega⟩)⟩
theorem sf_set {w : World} {base g k : Nat} (v : Value) : Stays w (w.setCell ⟨g, k,none⟩ v) (Sf base w (some ⟨g, 0,none⟩)) (Sf base (w.setCell ⟨g, k,none⟩ v) (some ⟨g, 0,none⟩)) :=
 ⟨fun b ⟨h1, h2, h3⟩ => ⟨h1, by simpa using h2, h3⟩, fun p ⟨_, _, h3⟩ => World.cell?_setCell_other w _ _ v (fun e => by subst e; exact h3 rfl)⟩
def Dn (m : Nat) (T : List UInt8) (k : Nat) (done : List Sm.R) (D : List UInt8) : Prop := Sm.recN m T = (Sm.recN (m - k) D).map fun q => (done ++ q.1, q.2)
theorem Dn.start (m : Nat) (T : List UInt8) : Dn m T 0 [] T := by
 unfold Dn
 rw [Nat.sub_zero]
 cases Sm.recN m T <;> rfl
theorem Dn.next {m k s : Nat} {T D : List UInt8} {done : List Sm.R} {r : Sm.R} (h : Dn m T k done D) (hk : k < m) (hr : Sm.rec1 D = some (r, s)) : Dn m T (k + 1) (done ++ [r]) (D.drop s) := by
 unfold Dn at h ⊢
 obtain ⟨j, hj⟩ : ∃ j, m - k = j + 1 := ⟨m - k - 1, by omega⟩
 rw [h, hj, show m - (k + 1) = j by omega, Sm.recN, hr]
 dsimp only [Option.bind_some]
 cases Sm.recN j (D.drop s) <;> simp
theorem Dn.none_ {m k : Nat} {T D : List UInt8} {done : List Sm.R} (h : Dn m T k done D) (hk : k < m) (hr : Sm.rec1 D = none) : Sm.recN m T = none := by
 unfold Dn at h
 obtain ⟨j, hj⟩ : ∃ j, m - k = j + 1 := ⟨m - k - 1, by omega⟩
 rw [h, hj, Sm.recN, hr]
 rfl
theorem Dn.end_ {m : Nat} {T D : List UInt8} {done : List Sm.R} (h : Dn m T m done D) : Sm.recN m T = some (done, D) := by
 unfold Dn at h
 rw [h, Nat.sub_self, Sm.recN]
 simp
theorem cont_none {l : List UInt8} {a s : Nat} (h : Vm.tk l = (a, s, 0)) (hr : Sm.recN a (l.drop s) = none) : Sm.cont l = none := by
 unfold Sm.cont
 rw [Sm.ok3_some.2 h]
 dsimp only [Option.bind_some]
 split
 ·rw [hr]; rfl
 ·rfl
theorem cont_left {l D : List UInt8} {a s : Nat} {rs : List Sm.R} (h : Vm.tk l = (a, s, 0)) (hr : Sm.recN a (l.drop s) = some (rs, D)) (hD : D ≠ []) : Sm.cont l = none := by
 unfold Sm.cont
 rw [Sm.ok3_some.2 h]
 dsimp only [Option.bind_some]
 split
 ·rw [hr]
  dsimp only [Option.bind_some]
  rw [if_neg hD]
 ·rfl
theorem cont_count {l : List UInt8} (hno : ∀ a s, Vm.tk l = (a, s, 0) → ¬ (1 ≤ a ∧ a ≤ 100)) : Sm.cont l = none := by
 rcases h : Sm.cont l with _ | rs
 ·rfl
 ·obtain ⟨n, s, h1, h2, h3, _⟩ := Sm.cont_inv h
  exact absurd ⟨h2, h3⟩ (hno n s h1)
def RetRc (w : World) (t : Option (List Sm.R)) (e : Ending) (w' : World) : Prop :=
 Below w.heap.size w w' ∧ ∃ A k c o, e = .returned (.tuple #[.slice A k c, .bool o]) ∧ match t with
 | some rs => o = true ∧ k = rs.length ∧ RLS w' (Fr w.heap.size w') A k c rs
 | none => o = false
def TcRel (B base g m : Nat) (w : World) (T : List UInt8) (r i : Value) (wr : World) : Prop :=
 ∃ E d D vs done, ∃ k : Nat, r = .slice E D.length d ∧ i = .int .i64 (k : Int) ∧ k ≤ m ∧ done.length = k ∧ Rb wr B E D.length d D ∧ D.length ≤ 1000000 ∧
  Oc 1 wr 77 base (some ⟨g, 0,none⟩) m m vs ∧ RrsS wr (Sf base wr (some ⟨g, 0,none⟩)) (vs.take k) done ∧ Dn m T k done D ∧ Below base w wr
theorem takeContents_c (A : Option Addr) (n c B : Nat) (l : List UInt8) (w : World) (hr : Rb w B A n c l) (hB : B ≤ w.heap.size) (hn : n ≤ 1000000) :
  Calls Tryz.prog 144 #[.slice A n c] w (RetRc w (Sm.cont l)) := by
 have hl := hr.len
 obtain ⟨U, hU⟩ : ∃ U, U = Sm.cont l := ⟨_, rfl⟩
 rw [← hU]
 by_cases hyes : ∃ a s, Vm.tk l = (a, s, 0) ∧ 1 ≤ a ∧ a ≤ 100
 ·obtain ⟨m, s, ht, ha1, ha⟩ := hyes
  have hcall := takeCount_yes A n c B l w hr hB hn m s ht ha1 ha
  obtain ⟨T, hT⟩ : ∃ T, T = l.drop s := ⟨_, rfl⟩
  rw [← hT] at hcall
  have hTl : T.length ≤ 1000000 := by rw [hT, List.length_drop]; omega
  have hmk := fun w => make_recs w m (m : Int) rfl (by omega)
  have HU := ek hU; have Hcall := ek hcall; have Ht := ek ht; have HT := ek hT; clear hU hcall hr hl ht hT
  go_enter Tryz.func144, Tryz.ntmps144
  go_wp2_with fail
  refine Hcall.out.mono ?_
  rintro e w1 ⟨E, d, rfl, hrE, hb1⟩
  have z1 := hb1.size
  obtain ⟨w2, hw2⟩ : ∃ w2, w2 = w1.alloc (.cells (rrow m) 77) := ⟨_, rfl⟩
  have hmk2 := hmk w1
  rw [← hw2] at hmk2
  have b12 : Below w1.heap.size w1 w2 := by rw [hw2]; exact ej _ _
  have hrow0 : Oc 1 w2 77 w.heap.size (some ⟨w1.heap.size, 0,none⟩) m m (rrow m).toList := by
   have h := Oc.lit (z := 1) w1 77 (rrow m) m (by simp [rrow]) (by simp [maxLen]; omega)
   rw [← hw2] at h
   exact h.mono z1
  have hr2 := hrE.below (b12.mono (by omega))
  have b2 := hb1.trans (b12.mono z1)
  have z12 : w1.heap.size < w2.heap.size := by rw [hw2]; simp
  have Hr2 := ek hr2; have Hrow0 := ek hrow0; clear hr2 hrow0 hrE hw2 hmk b12 hb1
  go_wp2
  go_loopw [5, 21] (fun r i wr => TcRel B w.heap.size w1.heap.size m w T r i wr) (fun _ i _ => m - (intOf i).toNat)
  case atStart => exact ⟨E, d, T, _, [], 0, rfl, rfl, Nat.zero_le _, rfl, Hr2.out, hTl, Hrow0.out, RrsS.nil, Dn.start m T, b2⟩
  case round =>
   obtain ⟨E3, d3, D, vs, done, k, rfl, rfl, hk, hdk, hr3, hDl, hrow, hrs, hst, hbel3⟩ := hrel
   have z3 := hbel3.size
   clear hmk2
   by_cases hlt : k < m
   ·have hcall := takeRecord_c E3 D.length d3 B D wr hr3 (by omega) hDl
    have hg := (oc_ob hrow w1.heap.size rfl).2
    have hvl := hrow.1
    rw [Nat.mul_one] at hvl
    rcases hrec : Sm.rec1 D with _ | ⟨r, s3⟩
    ·rw [hrec] at hcall
     obtain rfl : U = none := by rw [HU.out]; exact cont_none Ht.out (by rw [← HT.out]; exact hst.none_ hlt hrec)
     have Hcall3 := ek hcall; have Hrow := ek hrow; clear hcall hst hrec hr3 hrow hrs hdk HU
     go_wp2_with fail
     refine Hcall3.out.mono ?_
     rintro e w4 ⟨hb4, rfl⟩
     have hrow4 := Hrow.out.keep hb4
     have hcA : w4.cell? ⟨w1.heap.size, k,none⟩ = some vs[k] := by
      rw [World.ownsRow.cellAt hrow4 k (by omega)]
      exact List.getElem?_eq_getElem (by omega)
     have hfA := World.ownsRow.frozenAt hrow4 k
     have b4 := (hbel3.trans (hb4.mono z3)).setCell (p := ⟨w1.heap.size, k,none⟩) (by show w.heap.size ≤ w1.heap.size; omega) (.slice none 0 0)
     clear hrow4
     go_wp2
     go_ret2
     exact ⟨b4, none, 0, 0, false, rfl, rfl⟩
    ·rw [hrec] at hcall
     have Hst := ek (hst.next hlt hrec)
     have hsl : (D.drop s3).length ≤ 1000000 := by rw [List.length_drop]; omega
     have Hcall3 := ek hcall; have Hrow := ek hrow; have Hrs := ek hrs; have Hdk := ek hdk; have Hvl := ek hvl
     clear hcall hst hrec hr3 hrow hrs hdk hvl
     go_wp2_with fail
     refine Hcall3.out.mono ?_
     rintro e w4 ⟨hb4, A4, c4, E4, d4, rfl, hown4, hr4⟩
     have hrow4 := Hrow.out.keep hb4
     have hcA : w4.cell? ⟨w1.heap.size, k,none⟩ = some (vs[k]'(by have := Hvl.out; omega)) := by
      rw [World.ownsRow.cellAt hrow4 k (by omega)]
      exact List.getElem?_eq_getElem (by have := Hvl.out; omega)
     have hfA := World.ownsRow.frozenAt hrow4 k
     have hrow5 : Oc 1 (w4.setCell ⟨w1.heap.size, k,none⟩ (.slice A4 2 c4)) 77 w.heap.size (some ⟨w1.heap.size, 0,none⟩) m m (vs.set k (.slice A4 2 c4)) := (World.ownsRow.stored hrow4 k (.slice A4 2 c4)).1
     have hrs4 := (Hrs.out.keep (sf_below hb4)).snoc (rec_sf hown4 z3 (fun q hq => by cases hq; exact hg))
     have hrs5 := hrs4.keep (sf_set (k := k) (.slice A4 2 c4))
     have etk : (vs.set k (.slice A4 2 c4)).take (k + 1) = vs.take k ++ [.slice A4 2 c4] := by
      rw [List.take_add_one, List.getElem?_set_self (by have := Hvl.out; omega), List.take_set_of_le (Nat.le_refl _)]
      rfl
     rw [← etk] at hrs5
     have hr5 := hr4.setCell (p := ⟨w1.heap.size, k,none⟩) (by show B ≤ w1.heap.size; omega) (.slice A4 2 c4)
     have b4 := (hbel3.trans (hb4.mono z3)).setCell (p := ⟨w1.heap.size, k,none⟩) (by show w.heap.size ≤ w1.heap.size; omega) (.slice A4 2 c4)
     have Hrow5 := ek hrow5; have Hrs5 := ek hrs5; have Hr5 := ek hr5
     clear hrow4 hrow5 hrs4 hrs5 hr4 hr5 hown4 etk
     go_wp2
     go_roundw
     case rel => exact ⟨E4, d4, D.drop s3, _, done ++ [r], k + 1, by rw [List.length_drop], by go_num, by omega, by rw [List.length_append, Hdk.out]; rfl, Hr5.out, hsl, Hrow5.out, Hrs5.out, Hst.out, b4⟩
     case measure => simp [intOf]; omega
   ·have hkm : k = m := by omega
    subst hkm
    have he := hst.end_
    rw [HT.out] at he
    by_cases hD : D = []
    ·subst hD
     have hUs : U = some done := by rw [HU.out]; exact Sm.cont_mk Ht.out ha1 ha he
     have hvl := hrow.1
     rw [Nat.mul_one] at hvl
     rw [List.take_of_length_le (by omega)] at hrs
     have hrls : RLS wr (Fr w.heap.size wr) (some ⟨w1.heap.size, 0,none⟩) k k done := ⟨vs, hrow.rcS, hrs.keep (stays_weak fun b hb => sf_fr b hb)⟩
     subst hUs
     have Hrls := ek hrls; have Hdk := ek hdk; clear hst hrow hrs hr3 he hvl hrls HU hdk
     go_wp2
     go_ret2
     exact ⟨hbel3, _, _, _, true, rfl, rfl, Hdk.out.symm, Hrls.out⟩
    ·obtain rfl : U = none := by rw [HU.out]; exact cont_left Ht.out he hD
     have hp : 0 < D.length := List.length_pos_iff.2 hD
     have hp2 : ((D.length : Int) == 0) = false := by simp; omega
     clear hst hrow hrs hr3 he HU hD hdk
     go_wp2
     go_ret2
     exact ⟨hbel3, _, _, _, false, by first | rfl | (rw [hp2]), rfl⟩
 ·have hno : ∀ a s, Vm.tk l = (a, s, 0) → ¬ (1 ≤ a ∧ a ≤ 100) := fun a s h1 h2 => hyes ⟨a, s, h1, h2.1, h2.2⟩
  obtain rfl : U = none := by rw [hU]; exact cont_count hno
  have Hcall := ek (takeCount_no A n c B l w hr hB hn hno)
  clear hr hl hU hyes hno
  go_enter Tryz.func144, Tryz.ntmps144
  go_wp2_with fail
  refine Hcall.out.mono ?_
  rintro e w1 ⟨rfl, hb1⟩
  go_wp2
  go_ret2
  exact ⟨hb1, none, 0, 0, false, rfl, rfl⟩
theorem blk_no {x : List UInt8} (h : x.take 2 ≠ [255, 83]) : Sm.blk x = none := by unfold Sm.blk; rw [if_neg h]
theorem blk_yes {x : List UInt8} (h : x.take 2 = [255, 83]) : Sm.blk x = (Sm.une (x.drop 2)).bind fun s => (Sm.opn s).bind Sm.cont := by unfold Sm.blk; rw [if_pos h]
theorem openS_cases (l : List UInt8) : (∃ c, Sm.opn l = some c ∧ Cm.openS Cm.tab l = (c, 0) ∧ c.length ≤ l.length) ∨ (∃ x, Sm.opn l = none ∧ Cm.openS Cm.tab l = ([], x) ∧ x ≠ 0) := by
 rcases h : Sm.opn l with _ | c
 ·refine .inr ?_
  have h0 : (Cm.openS Cm.tab l).2 ≠ 0 := fun e => by unfold Sm.opn at h; rw [if_pos e] at h; cases h
  by_cases h4 : l.length < 4
  ·exact ⟨2, rfl, openS_short Cm.tab l Cm.tab_len h4, by omega⟩
  ·by_cases h3 : l.drop (l.length - 4) = Cm.four (Cm.sum Cm.tab (l.take (l.length - 4)))
   ·rw [openS_ok Cm.tab l Cm.tab_len h4 h3] at h0; exact absurd rfl h0
   ·exact ⟨4, rfl, openS_no Cm.tab l Cm.tab_len h4 h3, by omega⟩
 ·have h1 := Sm.opn_take h
  exact .inl ⟨c, rfl, Sm.opn_some h, by rw [h1.2, List.length_take]; omega⟩
theorem records_c (At : Option Addr) (ct : Nat) (A : Option Addr) (n c : Nat) (x : List UInt8) (w : World) (ht : Rn w w.heap.size At 256 ct Cm.tab) (hr : Rb w w.heap.size A n c x) (hn : n ≤ 900000) :
  Calls Tryz.prog 104 #[.slice At 256 ct, .slice A n c] w (RetRc w (Sm.blk x)) := by
 have hl := hr.len
 obtain ⟨U, hU⟩ : ∃ U, U = Sm.blk x := ⟨_, rfl⟩
 rw [← hU]
 obtain ⟨w1, hw1⟩ : ∃ w1, w1 = w.alloc (.cells #[.int .u8 255, .int .u8 83] 5 (2, 3)) := ⟨_, rfl⟩
 have hb1 : Below w.heap.size w w1 := by rw [hw1]; exact ej _ _
 have z1 := hb1.size
 have hlit : Rb w1 (w.heap.size + 1) (some ⟨w.heap.size, 0,none⟩) 2 2 [255, 83] := by rw [hw1]; exact Rb.lit w _ _ _ _ 2 rfl rfl (by omega)
 have hcv : (convert 22 22 (.slice (some ⟨w.heap.size, 0,none⟩) 2 2)).run Tryz.prog (w.alloc (.cells #[.int .u8 255, .int .u8 83] 5)) = .ok (.slice (some ⟨w.heap.size, 0,none⟩) 2 2) w1 := by
  rw [hw1]; exact Lib.run_convert_bytes_const (P := Tryz.prog) w 22 5 #[.int .u8 255, .int .u8 83] 2 2 Tryz.underlying22 Tryz.underlying5
 have hr1 := hr.below hb1
 have ht1 := ht.below hb1
 by_cases hm : x.take 2 = [255, 83]
 ·have hcut := cutp_yes A (some ⟨w.heap.size, 0,none⟩) n c 2 2 _ _ x [255, 83] w1 hr1 hlit hm
  rw [blk_yes hm] at hU
  have hdl : (x.drop 2).length = n - 2 := by rw [List.length_drop, hl]
  obtain ⟨X, hX⟩ : ∃ X, X = x.drop 2 := ⟨_, rfl⟩
  rw [← hX] at hcut hU hdl
  have Hcut := ek hcut; have HU := ek hU; have Hdl := ek hdl; have Ht1 := ek ht1; have Hb1 := ek hb1
  clear hcut hU hdl hr ht hlit hr1 ht1 hw1 hX hm hl hb1
  rcases hune : Sm.une X with _ | u
  ·obtain rfl : U = none := by rw [HU.out, hune]; rfl
   clear HU
   go_enter Tryz.func104, Tryz.ntmps104
   go_wp2_with fail
   refine Hcut.out.mono ?_
   rintro e w2 ⟨⟨E, rfl, hrE⟩, rfl⟩
   have HrE := ek hrE; clear hrE
   go_wp2_with fail
   refine (unesc_c E (n - 2) (c - 2) X _ (HrE.out.more z1) (by omega)).mono ?_
   rw [unS_none hune]
   rintro e w2 ⟨A2, c2, rfl, ho2, hb2⟩
   have bz := Hb1.out.trans (hb2.mono z1)
   go_wp2
   go_ret2
   exact ⟨bz, none, 0, 0, false, rfl, rfl⟩
  ·have hul : u.length ≤ X.length := Sm.une_len _ X u (Nat.le_refl _) hune
   have hul2 : u.length ≤ 900000 := by have := Hdl.out; omega
   rcases openS_cases u with ⟨y, ho, hop, hyl⟩ | ⟨y, ho, hop, hy⟩
   ·have hUc : U = Sm.cont y := by rw [HU.out, hune]; dsimp only [Option.bind_some]; rw [ho]; rfl
    have HUc := ek hUc
    clear HU hUc
    go_enter Tryz.func104, Tryz.ntmps104
    go_wp2_with fail
    refine Hcut.out.mono ?_
    rintro e w2 ⟨⟨E, rfl, hrE⟩, rfl⟩
    have HrE := ek hrE; clear hrE
    go_wp2_with fail
    refine (unesc_c E (n - 2) (c - 2) X _ (HrE.out.more z1) (by omega)).mono ?_
    rw [unS_some hune]
    rintro e w2 ⟨A2, c2, rfl, ho2, hb2⟩
    have z2 := hb2.size
    have Hb2 := ek (Hb1.out.trans (hb2.mono z1))
    have hop2 := open_c At 256 ct Cm.tab A2 u.length c2 u w2 ((Ht1.out.below (hb2.mono z1)).more (by omega)) (by omega) ho2.rb (by omega)
    rw [hop] at hop2
    have Hop2 := ek hop2; clear hop2 ho2 hb2
    go_wp2_with fail
    refine Hop2.out.mono ?_
    rintro e w3 ⟨A3, c3, rfl, ho3, hb3⟩
    have z3 := hb3.size
    have Hb3 := ek (Hb2.out.trans (hb3.mono (by omega)))
    have htc := takeContents_c A3 y.length c3 _ y w3 ho3.rb (Nat.le_refl _) (by omega)
    rw [← HUc.out] at htc
    have Htc := ek htc; clear htc ho3 hb3
    go_wp2_with fail
    refine Htc.out.mono ?_
    rintro e w4 ⟨hb4, A4, k4, c4, o4, rfl, hm4⟩
    have z4 := hb4.size
    have bz := Hb3.out.trans (hb4.mono (by omega))
    have Hm4 := ek hm4; clear hm4
    go_wp2
    go_ret2
    refine ⟨bz, A4, k4, c4, o4, rfl, ?_⟩
    have hm := Hm4.out
    rcases U with _ | rs
    ·exact hm
    ·exact ⟨hm.1, hm.2.1, hm.2.2.keep (stays_weak fun b hb => ⟨Nat.le_trans (by omega) hb.1, hb.2⟩)⟩
   ·obtain rfl : U = none := by rw [HU.out, hune]; dsimp only [Option.bind_some]; rw [ho]; rfl
    clear HU
    have hy2 : ((y : Int) == 0) = false := by simp [hy]
    have hy3 : ((y : Int) != 0) = true := by simp [hy]
    go_enter Tryz.func104, Tryz.ntmps104
    go_wp2_with fail
    refine Hcut.out.mono ?_
    rintro e w2 ⟨⟨E, rfl, hrE⟩, rfl⟩
    have HrE := ek hrE; clear hrE
    go_wp2_with fail
    refine (unesc_c E (n - 2) (c - 2) X _ (HrE.out.more z1) (by omega)).mono ?_
    rw [unS_some hune]
    rintro e w2 ⟨A2, c2, rfl, ho2, hb2⟩
    have z2 := hb2.size
    have Hb2 := ek (Hb1.out.trans (hb2.mono z1))
    have hop2 := open_c At 256 ct Cm.tab A2 u.length c2 u w2 ((Ht1.out.below (hb2.mono z1)).more (by omega)) (by omega) ho2.rb (by omega)
    rw [hop] at hop2
    have Hop2 := ek hop2; clear hop2 ho2 hb2
    go_wp2_with fail
    refine Hop2.out.mono ?_
    rintro e w3 ⟨A3, c3, rfl, ho3, hb3⟩
    have z3 := hb3.size
    have bz := Hb2.out.trans (hb3.mono (by omega))
    go_wp2
    go_ret2
    exact ⟨bz, none, 0, 0, false, rfl, rfl⟩
 ·obtain rfl : U = none := by rw [hU, blk_no hm]
  have Hcut := ek (cutp_no A (some ⟨w.heap.size, 0,none⟩) n c 2 2 _ _ x [255, 83] w1 hr1 hlit hm)
  clear hr ht hlit hr1 ht1 hw1 hm hl hU
  go_enter Tryz.func104, Tryz.ntmps104
  go_wp2_with fail
  refine Hcut.out.mono ?_
  rintro e w2 ⟨rfl,rfl⟩
  go_wp2
  go_ret2
  exact ⟨hb1, none, 0, 0, false, rfl, rfl⟩
def tpairS (l : List UInt8) (most : Int) : (List UInt8 × List UInt8) × List UInt8 × Nat :=
 if (frameS l most).2.2 = 0 then
  if (frameS (l.drop (frameS l most).2.1) most).2.2 = 0 then
   (((frameS l most).1, (frameS (l.drop (frameS l most).2.1) most).1), l.drop ((frameS l most).2.1 + (frameS (l.drop (frameS l most).2.1) most).2.1), 0)
  else (([], []), [], (frameS (l.drop (frameS l most).2.1) most).2.2)
 else (([], []), [], (frameS l most).2.2)
theorem tpairS_ok (l : List UInt8) (most : Int) (t t2 : List UInt8) (s s2 : Nat) (h : frameS l most = (t, s, 0)) (h2 : frameS (l.drop s) most = (t2, s2, 0)) : tpairS l most = ((t, t2), l.drop (s + s2), 0) := by
 unfold tpairS; rw [h]; dsimp only; rw [h2]; simp
theorem tpairS_err2 (l : List UInt8) (most : Int) (t : List UInt8) (s x : Nat) (h : frameS l most = (t, s, 0)) (h2 : frameS (l.drop s) most = ([], 0, x)) (hx : x = 2 ∨ x = 3 ∨ x = 5) : tpairS l most = (([], []), [], x) := by
 unfold tpairS; rw [h]; dsimp only; rw [h2]; dsimp only; rw [if_pos rfl, if_neg (by omega)]
theorem tpairS_err1 (l : List UInt8) (most : Int) (x : Nat) (h : frameS l most = ([], 0, x)) (hx : x = 2 ∨ x = 3 ∨ x = 5) : tpairS l most = (([], []), [], x) := by
 unfold tpairS; rw [h]; dsimp only; rw [if_neg (by omega)]
def RetPr (base : Nat) (w : World) (t : (List UInt8 × List UInt8) × List UInt8 × Nat) (e : Ending) (w' : World) : Prop :=
 ∃ A c, e = .returned (.tuple #[.agg #[.string ⟨t.1.1.toArray⟩, .string ⟨t.1.2.toArray⟩], .slice A t.2.1.length c, .int .i64 (t.2.2 : Int)]) ∧ Own w' 5 base A c t.2.1 ∧ Below base w w'
theorem box_kept {w w1 : World} {T : TypeId} (hb : Below (w.alloc (.cells #[.string ⟨#[]⟩, .string ⟨#[]⟩] T)).heap.size (w.alloc (.cells #[.string ⟨#[]⟩, .string ⟨#[]⟩] T)) w1) :
  w1.cell? ⟨w.heap.size, 0,none⟩ = some (.string ⟨#[]⟩) ∧ w1.cell? ⟨w.heap.size, 1,none⟩ = some (.string ⟨#[]⟩) ∧ w1.frozen? ⟨w.heap.size, 0,none⟩ = false ∧ w1.frozen? ⟨w.heap.size, 1,none⟩ = false ∧ w.heap.size < w1.heap.size ∧ Below w.heap.size w w1 := by
 refine ⟨(hb.cell (by simp)).trans (by simp), (hb.cell (by simp)).trans (by simp), (hb.frozen (by simp)).trans (by simp), (hb.frozen (by simp)).trans (by simp), by have := hb.size; simp at this; omega, (ej _ _).trans (hb.mono (by simp))⟩
theorem rtakePair_c (A : Option Addr) (n c : Nat) (l : List UInt8) (most : Int) (w : World) (hr : Rb w w.heap.size A n c l) (hn : n ≤ 1000000) (hm : I64 most) :
  Calls Tryz.prog 155 #[.slice A n c, .int .i64 most] w (RetPr w.heap.size w (tpairS l most)) := by
 have hl := hr.len
 rcases frameS_cases l most with ⟨t, s, hf, hs, ht⟩ | ⟨x, hf, hx⟩
 ·have hd1 : (l.drop s).length ≤ 1000000 := by rw [List.length_drop]; omega
  rcases frameS_cases (l.drop s) most with ⟨t2, s2, hf2, hs2, ht2⟩ | ⟨x, hf2, hx⟩
  ·rw [tpairS_ok l most t t2 s s2 hf hf2]
   have Hr := ek hr; have Hf := ek hf; have Hl := ek hl; have Hm := ek hm; have Hf2 := ek hf2; clear hr hf hl hm hf2
   go_enter Tryz.func155, Tryz.ntmps155
   go_wp2_with fail
   refine (rtf_ok A n c l most _ ((Hr.out.alloc (Nat.le_refl _) _).more (by simp)) hn Hm.out t s Hf.out).mono ?_
   rintro e w1 ⟨A1, c1, rfl, hown1, hb1⟩
   obtain ⟨hc0, hc1, hz0, hz1, hsz, hbb⟩ := box_kept hb1
   go_wp2_with fail
   refine (rtf_ok A1 _ c1 (l.drop s) most _ (rb_len hown1.rb (by simp)) (by simpa using hd1) Hm.out t2 s2 Hf2.out).mono ?_
   rintro e w2 ⟨A2, c2, rfl, hown2, hb2⟩
   have hd0 := (hb2.cell (p := ⟨w.heap.size, 0,none⟩) hsz).trans hc0
   have hd1' := (hb2.cell (p := ⟨w.heap.size, 1,none⟩) hsz).trans hc1
   have hy0 := (hb2.frozen (p := ⟨w.heap.size, 0,none⟩) hsz).trans hz0
   have hy1 := (hb2.frozen (p := ⟨w.heap.size, 1,none⟩) hsz).trans hz1
   have hsz2 : w.heap.size < w2.heap.size := Nat.lt_of_lt_of_le hsz hb2.size
   clear hc0 hc1 hz0 hz1
   go_wp2
   refine bodyPost_ret (v := .tuple #[.agg #[.string ⟨t.toArray⟩, .string ⟨t2.toArray⟩], .slice A2 (l.drop (s + s2)).length c2, .int .i64 0]) ?_ rfl ⟨A2, c2, rfl, ?_, ?_⟩
   ·simp [results, Tryz.results155, go_sem, hd0, hd1']
   ·have e : (l.drop s).drop s2 = l.drop (s + s2) := List.drop_drop ..
    rw [e] at hown2
    exact (((hown2.setLow (by simpa using hsz) _).setLow (by simpa using hsz) _).mono (by omega))
   ·exact (((hbb.trans (hb2.mono (by omega))).setCell (by simp) _).setCell (by simp) _)
  ·rw [tpairS_err2 l most t s x hf hf2 hx]
   have Hr := ek hr; have Hf := ek hf; have Hl := ek hl; have Hm := ek hm; have Hf2 := ek hf2; have Hx := ek hx; clear hr hf hl hm hf2
   have hx1 : 2 ≤ x := by omega
   clear hx
   go_enter Tryz.func155, Tryz.ntmps155
   go_wp2_with fail
   refine (rtf_ok A n c l most _ ((Hr.out.alloc (Nat.le_refl _) _).more (by simp)) hn Hm.out t s Hf.out).mono ?_
   rintro e w1 ⟨A1, c1, rfl, hown1, hb1⟩
   obtain ⟨hc0, hc1, hz0, hz1, hsz, hbb⟩ := box_kept hb1
   go_wp2_with fail
   refine (rtf_err A1 _ c1 (l.drop s) most _ (rb_len hown1.rb (by simp)) (by simpa using hd1) Hm.out x Hf2.out Hx.out).mono ?_
   rintro e w2 ⟨A2, c2, rfl, hown2, hb2⟩
   have hd0 := (hb2.cell (p := ⟨w.heap.size, 0,none⟩) hsz).trans hc0
   have hd1' := (hb2.cell (p := ⟨w.heap.size, 1,none⟩) hsz).trans hc1
   have hy0 := (hb2.frozen (p := ⟨w.heap.size, 0,none⟩) hsz).trans hz0
   have hy1 := (hb2.frozen (p := ⟨w.heap.size, 1,none⟩) hsz).trans hz1
   have hsz2 : w.heap.size < w2.heap.size := Nat.lt_of_lt_of_le hsz hb2.size
   clear hc0 hc1 hz0 hz1
   go_wp2
   refine bodyPost_ret (v := .tuple #[.agg #[.string ⟨#[]⟩, .string ⟨#[]⟩], .slice none 0 0, .int .i64 (x : Int)]) ?_ rfl ⟨none, 0, rfl, Own.nil _ _ _, ?_⟩
   ·simp [results, Tryz.results155, go_sem, hd0, hd1']
   ·exact (((hbb.trans (hb2.mono (by omega))).setCell (by simp) _).setCell (by simp) _)
 ·rw [tpairS_err1 l most x hf hx]
  have Hr := ek hr; have Hf := ek hf; have Hm := ek hm; have Hx := ek hx; clear hr hf hl hm
  have hx1 : 2 ≤ x := by omega
  clear hx
  go_enter Tryz.func155, Tryz.ntmps155
  go_wp2_with fail
  refine (rtf_err A n c l most _ ((Hr.out.alloc (Nat.le_refl _) _).more (by simp)) hn Hm.out x Hf.out Hx.out).mono ?_
  rintro e w1 ⟨A1, c1, rfl, hown1, hb1⟩
  obtain ⟨hc0, hc1, hz0, hz1, hsz, hbb⟩ := box_kept hb1
  go_wp2
  refine bodyPost_ret (v := .tuple #[.agg #[.string ⟨#[]⟩, .string ⟨#[]⟩], .slice none 0 0, .int .i64 (x : Int)]) ?_ rfl ⟨none, 0, rfl, Own.nil _ _ _, ?_⟩
  ·simp [results, Tryz.results155, go_sem, hc0, hc1]
  ·exact ((hbb.setCell (by simp) _).setCell (by simp) _)
theorem rec_two (w : World) (s t : List UInt8) (A : Option Addr) (base : Nat) (te tr : TypeId) (hb : base ≤ w.heap.size) (hA : ∀ g, ob A = some g → g < w.heap.size) (w5 w6 : World)
  (h5 : w5 = w.alloc (.cells #[.string ⟨s.toArray⟩, .string ⟨t.toArray⟩] te)) (h6 : w6 = w5.alloc (.cells #[.slice (some ⟨w.heap.size, 0,none⟩) 2 2] tr)) :
  w6.heap.size = w.heap.size + 2 ∧ Below w.heap.size w w6 ∧ Rc 1 w6 w6.heap.size (some ⟨w.heap.size + 1, 0,none⟩) 1 1 [.slice (some ⟨w.heap.size, 0,none⟩) 2 2] ∧
  RrS w6 (Sf base w6 A) (.slice (some ⟨w.heap.size, 0,none⟩) 2 2) [s, t] := by
 have z5 : w5.heap.size = w.heap.size + 1 := by rw [h5]; simp
 have z6 : w6.heap.size = w.heap.size + 2 := by rw [h6]; simp [z5]
 have b6 : Below w.heap.size w w6 := by
  rw [h6, h5]
  exact (ej _ _).alloc (by simp) _
 have hrow : Rc 1 w5 (w.heap.size + 1) (some ⟨w.heap.size, 0,none⟩) 2 2 (lvs [s, t]) := by
  rw [h5]; exact Rc.lit (z := 1) w te #[.string ⟨s.toArray⟩, .string ⟨t.toArray⟩] 2 rfl (by simp [maxLen])
 have b56 : Below w5.heap.size w5 w6 := by rw [h6]; exact ej _ _
 have hrow6 := hrow.below (b56.mono (by omega))
 refine ⟨z6, b6, ?_, _, _, _, rfl, hrow6.1, hrow6.2.1, hrow6.2.2.1, fun _ => ?_⟩
 ·have h := Rc.lit (z := 1) w5 tr #[.slice (some ⟨w.heap.size, 0,none⟩) 2 2] 1 rfl (by simp [maxLen])
  rw [← h6, z5] at h
  exact h.more (by omega)
 ·obtain ⟨b, off, e, hb2, hc⟩ := hrow6.2.2.2 (by omega)
  injection e with e
  injection e with e1 e2 _
  subst e1 e2
  exact ⟨_, _, rfl, ⟨by omega, by omega, fun e => by have := hA _ e.symm; omega⟩, hc⟩
def RrRel (base m : Nat) (w : World) (T : List UInt8) (o i r : Value) (wr : World) : Prop :=
 ∃ A c vs E d D done, ∃ k : Nat, o = .slice A (List.length done) c ∧ i = .int .u64 (k : Int) ∧ r = .slice E (List.length D) d ∧ k ≤ m ∧ done.length = k ∧ Rb wr wr.heap.size E (List.length D) d D ∧ D.length ≤ 1000000 ∧
  Oc 1 wr 77 base A (List.length done) c vs ∧ RrsS wr (Sf base wr A) vs done ∧ Dn m T k done D ∧ Below base w wr
theorem rrecords_c (A : Option Addr) (n c : Nat) (l : List UInt8) (w : World) (hr : Rb w w.heap.size A n c l) (hn : n ≤ 1000000) :
  Calls Tryz.prog 115 #[.slice A n c] w (RetRc w (Sm.cont l)) := by
 have hl := hr.len
 obtain ⟨U, hU⟩ : ∃ U, U = Sm.cont l := ⟨_, rfl⟩
 rw [← hU]
 rcases tk_cases l with ⟨m, s, ht, _, hs, _⟩ | ⟨x, ht, hx⟩
 ·have hcall := rtake_ok A n c l w hr hn m s ht
  by_cases hyes : 1 ≤ m ∧ m ≤ 100
  ·obtain ⟨ha1, ha⟩ := hyes
   obtain ⟨T, hT⟩ : ∃ T, T = l.drop s := ⟨_, rfl⟩
   rw [← hT] at hcall
   have hTl : T.length ≤ 1000000 := by rw [hT, List.length_drop]; omega
   have HU := ek hU; have Hcall := ek hcall; have Ht := ek ht; have HT := ek hT; clear hU hcall hr hl ht hT hs
   go_enter Tryz.func115, Tryz.ntmps115
   go_wp2_with fail
   refine Hcall.out.mono ?_
   rintro e w1 ⟨E, d, rfl, hoE, hb1⟩
   have z1 := hb1.size
   have hrE := hoE.rb.alloc (Nat.le_refl _) (.cells #[] 77)
   obtain ⟨w2, hw2⟩ : ∃ w2, w2 = w1.alloc (.cells #[] 77) := ⟨_, rfl⟩
   have ho2 : Oc 1 w2 77 w.heap.size (some ⟨w1.heap.size, 0,none⟩) 0 0 [] := by rw [hw2]; exact (Oc.made0 1 w1 77).mono z1
   rw [← hw2] at hrE
   have z2 : w2.heap.size = w1.heap.size + 1 := by rw [hw2]; simp
   have b2 : Below w.heap.size w w2 := hb1.trans (by rw [hw2]; exact ((Below.refl _ _).alloc z1 _))
   have HrE := ek (hrE.more (show w1.heap.size ≤ w2.heap.size by omega)); have Ho2 := ek ho2; have HW2 := ek hw2
   clear hrE ho2 hoE hw2 hb1
   go_wp2_with fail
   rw [← HW2.out]
   go_loopw [6, 7, 0] (fun o i r wr => RrRel w.heap.size m w T o i r wr) (fun _ i _ _ => m - (intOf i).toNat)
   case atStart => exact ⟨some ⟨w1.heap.size, 0,none⟩, 0, [], E, d, T, [], 0, rfl, rfl, rfl, Nat.zero_le _, rfl, HrE.out, hTl, Ho2.out, RrsS.nil, Dn.start m T, b2⟩
   case round =>
    obtain ⟨A3, c3, vs, E3, d3, D, done, k, rfl, rfl, rfl, hk, hdk, hr3, hDl, hown, hrs, hst, hbel3⟩ := hrel
    rename World => wr
    have z3 := hbel3.size
    by_cases hlt : k < m
    ·have hA3 : ∀ g, ob A3 = some g → g < wr.heap.size := fun g hg => (oc_ob hown g hg).2
     have hpair := rtakePair_c E3 D.length d3 D 1000 wr hr3 (by omega) (by unfold I64; omega)
     have hku : IntKind.u64.wrap ((k : Int) + 1) = ((k + 1 : Nat) : Int) := by rw [IntKind.wrap_u64]; omega
     rcases hrec : Sm.rec1 D with _ | ⟨r, s3⟩
     ·obtain rfl : U = none := by rw [HU.out]; exact cont_none Ht.out (by rw [← HT.out]; exact hst.none_ hlt hrec)
      obtain ⟨x, hx, hx1⟩ : ∃ x, tpairS D 1000 = (([], []), [], x) ∧ 2 ≤ x := by
       rcases frameS_cases D 1000 with ⟨t, s1, hf, hs1, _⟩ | ⟨x, hf, hx⟩
       ·rcases frameS_cases (D.drop s1) 1000 with ⟨t2, s2, hf2, _, _⟩ | ⟨x, hf2, hx⟩
        ·exfalso
         unfold Sm.rec1 at hrec
         rw [Sm.ok3_some.2 hf] at hrec
         dsimp only [Option.bind_some] at hrec
         rw [Sm.ok3_some.2 hf2] at hrec
         cases hrec
        ·exact ⟨x, tpairS_err2 D 1000 t s1 x hf hf2 hx, by omega⟩
       ·exact ⟨x, tpairS_err1 D 1000 x hf hx, by omega⟩
      rw [hx] at hpair
      have hx2 : ((x : Int) != 0) = true := by simp; omega
      have hx0 : ((x : Int) == 0) = false := by simp; omega
      have Hpair := ek hpair
      clear hpair hx hst hrec hr3 hown hrs hdk hA3 HU hku
      go_wp2_with fail
      refine Hpair.out.mono ?_
      rintro e w4 ⟨A4, c4, rfl, ho4, hb4⟩
      clear ho4
      have b4 := hbel3.trans (hb4.mono z3)
      go_wp2
      go_ret2
      exact ⟨b4.trans ((Below.refl _ _).alloc b4.size _), none, 0, 0, false, rfl, rfl⟩
     ·obtain ⟨t, k1, u, k2, hf1, hf2, rfl, hs3, hsl, htl, hul, _, _⟩ := Sm.rec1_inv hrec
      rw [tpairS_ok D 1000 t u k1 k2 hf1 hf2, ← hs3] at hpair
      obtain ⟨D', hD'⟩ : ∃ D', D' = D.drop s3 := ⟨_, rfl⟩
      have hst' := hst.next hlt hrec
      rw [← hD'] at hpair hst'
      have hDl' : D'.length ≤ 1000000 := by rw [hD', List.length_drop]; omega
      have Hst := ek hst'; have Hpair := ek hpair; have Hown := ek hown; have Hrs := ek hrs; have Hdk := ek hdk; have HA3 := ek hA3
      have hdl : done.length ≤ 100 := by omega
      clear hst hst' hpair hown hrs hdk hrec hr3 hf1 hf2 hs3 hsl hD' hA3
      go_wp2_with fail
      refine Hpair.out.mono ?_
      rintro e w4 ⟨A4, c4, rfl, ho4, hb4⟩
      have z4 := hb4.size
      obtain ⟨w5, hw5⟩ : ∃ w5, w5 = w4.alloc (.cells #[.string ⟨t.toArray⟩, .string ⟨u.toArray⟩] 193) := ⟨_, rfl⟩
      have z5 : w5.heap.size = w4.heap.size + 1 := by rw [hw5]; simp
      have b5 : Below w4.heap.size w4 w5 := by rw [hw5]; exact ej _ _
      obtain ⟨w6, hw6⟩ : ∃ w6, w6 = w5.alloc (.cells #[.string ⟨t.toArray⟩, .string ⟨u.toArray⟩] 9) := ⟨_, rfl⟩
      obtain ⟨w7, hw7⟩ : ∃ w7, w7 = w6.alloc (.cells #[.slice (some ⟨w4.heap.size + 1, 0,none⟩) 2 2] 77) := ⟨_, rfl⟩
      obtain ⟨z7, b7, hlit, hpr⟩ := rec_two w5 t u A3 w.heap.size _ _ (by omega) (fun g hg => by have := HA3.out g hg; omega) w6 w7 hw6 (by rw [z5]; exact hw7)
      rw [z5] at hlit hpr
      have b47 : Below w4.heap.size w4 w7 := b5.trans (b7.mono (by omega))
      have b37 : Below wr.heap.size wr w7 := hb4.trans (b47.mono z4)
      have hown7 := Hown.out.keep b37
      have hps7 := (Hrs.out.keep (sf_below b37)).snoc hpr
      have hr7 := ho4.keep b47
      have hne : ob A4 = none ∨ ob A4 ≠ ob A3 := by
       rcases h5 : ob A4 with _ | g5
       ·exact .inl rfl
       ·refine .inr fun e => ?_
        have h6 := own_ob ho4 g5 h5
        have h7 := HA3.out g5 e.symm
        omega
      have Hne := ek hne
      have HW5 := ek hw5; have HW6 := ek hw6; have HW7 := ek hw7; have Hlit := ek hlit; have Hown7 := ek hown7; have Hps7 := ek hps7; have Hr7 := ek hr7; have Z5 := ek z5
      clear hw5 hw6 hw7 hlit hpr hown7 hps7 hr7 ho4 z5 hne
      go_wp2_with (at_builtin; rw [← HW5.out, ← HW6.out, ← HW7.out]; go_must (refine Sl.wpAppAt rty rfl (.tmp 41) (.tmp 47) rfl (n := done.length) (m := 1) (N := done.length + 1) (ws := vs ++ [.slice (some ⟨w4.heap.size + 1, 0,none⟩) 2 2]) rfl rfl Hown7.out Hlit.out ?hs1 rfl rfl ?hs4 ?hs5 ?hs6 ?_))
      case hs1 => simp [Value.oneCell']
      case hs4 => omega
      case hs5 => omega
      case hs6 => have := Z5.out; omega
      intro A8 c8 w8 hown8 hg8
      have b8 := (hbel3.trans (b37.mono z3)).trans (hg8.belowC Hown7.out (by have := Z5.out; omega))
      have hps8 := Hps7.out.keep (sf_grow hg8)
      have hno8 : Own w8 5 wr.heap.size A4 c4 D' := World.ownsRow.kept Hr7.out hg8.1 (by rw [ownBlock_slice]; exact Hne.out)
      have hne8 := hno8.rb
      have Hown8 := ek hown8; have Hps8 := ek hps8; have Hne8 := ek hne8; clear hown8 hps8 hg8 hno8 hne8
      go_wp2
      go_roundw
      case rel => exact ⟨A8, c8, vs ++ [.slice (some ⟨w4.heap.size + 1, 0,none⟩) 2 2], A4, c4, D', done ++ [[t, u]], k + 1, by simp, by go_num, rfl, by omega, by rw [List.length_append, Hdk.out]; rfl, Hne8.out, hDl', by rw [List.length_append]; exact Hown8.out, Hps8.out, Hst.out, b8⟩
      case measure => simp [intOf]; omega
    ·have hkm : k = m := by omega
     subst hkm
     have he := hst.end_
     rw [HT.out] at he
     by_cases hD : D = []
     ·subst hD
      have hUs : U = some done := by rw [HU.out]; exact Sm.cont_mk Ht.out ha1 ha he
      have hrls : RLS wr (Fr w.heap.size wr) A3 done.length c3 done := ⟨vs, hown.rcS, hrs.keep (stays_weak fun b hb => sf_fr b hb)⟩
      subst hUs
      have Hrls := ek hrls; clear hst hown hrs hr3 he hrls HU hdk
      go_wp2
      go_ret2
      exact ⟨hbel3, _, _, _, true, rfl, rfl, rfl, Hrls.out⟩
     ·obtain rfl : U = none := by rw [HU.out]; exact cont_left Ht.out he hD
      have hp : 0 < D.length := List.length_pos_iff.2 hD
      have hp2 : ((D.length : Int) == 0) = false := by simp; omega
      clear hst hown hrs hr3 he HU hD hdk
      go_wp2
      go_ret2
      exact ⟨hbel3, _, _, _, false, by first | rfl | (rw [hp2]), rfl⟩
  ·have hU2 : U = none := by rw [hU]; exact cont_count fun a s2 h1 => by rw [ht] at h1; injection h1 with h1 h2; subst h1; exact hyes
   subst hU2
   have Hcall := ek hcall
   clear hr hl hU hcall ht
   by_cases h1 : m < 1
   ·obtain rfl : m = 0 := by omega
    go_enter Tryz.func115, Tryz.ntmps115
    go_wp2_with fail
    refine Hcall.out.mono ?_
    rintro e w1 ⟨E, d, rfl, hoE, hb1⟩
    clear hoE
    go_wp2
    go_ret2
    exact ⟨hb1, none, 0, 0, false, rfl, rfl⟩
   ·have d1 : decide ((m : Int) < 1) = false := by simp; omega
    have d2 : decide ((100 : Int) < (m : Int)) = true := by simp; omega
    go_enter Tryz.func115, Tryz.ntmps115
    go_wp2_with fail
    refine Hcall.out.mono ?_
    rintro e w1 ⟨E, d, rfl, hoE, hb1⟩
    clear hoE
    go_wp2
    go_ret2
    exact ⟨hb1, none, 0, 0, false, rfl, rfl⟩
 ·have hU2 : U = none := by rw [hU]; exact cont_count fun a s2 h1 => by rw [ht] at h1; injection h1 with h1 h2; injection h2 with h2 h3; omega
  subst hU2
  have hcall := rtake_err A n c l w hr hn x ht hx
  have Hcall := ek hcall
  clear hr hl hU hcall ht
  have hx1 : ((x : Int) != 0) = true := by rcases hx with rfl | rfl <;> rfl
  have hx0 : ((x : Int) == 0) = false := by rcases hx with rfl | rfl <;> rfl
  go_enter Tryz.func115, Tryz.ntmps115
  go_wp2_with fail
  refine Hcall.out.mono ?_
  rintro e w1 ⟨E, d, rfl, hoE, hb1⟩
  clear hoE
  go_wp2
  go_ret2
  exact ⟨hb1, none, 0, 0, false, rfl, rfl⟩
def RetBk (w : World) (t : Option (List Sm.R)) (g : Nat) (e : Ending) (w' : World) : Prop :=
 Below w.heap.size w w' ∧ ∃ A k c E o, e = .returned (.tuple #[.slice A k c, .int .i64 E, .bool o]) ∧ match t with
 | some rs => o = true ∧ k = rs.length ∧ E = (g : Int) ∧ RLS w' (Fr w.heap.size w') A k c rs
 | none => o = false
theorem ret_none {w w' : World} (h : Below w.heap.size w w') (g : Nat) (A : Option Addr) (k c : Nat) (E : Int) : RetBk w none g (.returned (.tuple #[.slice A k c, .int .i64 E, .bool false])) w' := ⟨h, A, k, c, E, false, rfl, rfl⟩
theorem rblock_c (A : Option Addr) (n c : Nat) (l : List UInt8) (f : Nat) (w : World) (hr : Rb w w.heap.size A n c l) (hn : n ≤ 900000) (hf : f ≤ n) (G : Nat) (hG : G = Sm.nxt l (f + 1)) :
  Calls Tryz.prog 89 #[.slice A n c, .int .i64 (f : Int)] w (RetBk w (Sm.val l (f, G)) G) := by
 have hl := hr.len
 have hno : ¬ Sm.isM l f → Sm.val l (f, G) = none := fun h => by
  rcases hv : Sm.val l (f, G) with _ | rs
  ·rfl
  ·exact absurd (Sm.isM_of_take (Sm.val_isM (p := (f, G)) (by rw [hv]; rfl)).2) h
 by_cases h1 : n ≤ f + 1
 ·rw [hno fun h => by have := Sm.isM_lt h; omega]
  have d1 : decide ((n : Int) ≤ (f : Int) + 1) = true := by simp; omega
  clear hno hr hl hG
  go_enter Tryz.func89, Tryz.ntmps89
  go_wp2
  go_ret3
  exact ret_none (Below.refl _ _) _ _ _ _ _
 ·have hf1 : f + 1 < n := by omega
  have d1 : decide ((n : Int) ≤ (f : Int) + 1) = false := by simp; omega
  obtain ⟨b, off, x, rfl, hb, hcx, hx, _⟩ := hr.at_ (k := f) (by omega)
  obtain ⟨b2, off2, y, e2, hb2, hcy, hy, _⟩ := hr.at_ (k := f + 1) hf1
  injection e2 with e2
  injection e2 with e21 e22 _
  subst e21 e22
  have Hr := ek hr; have Hl := ek hl
  clear hr hl
  have e255 : ∀ z : UInt8, z.toNat = 255 ↔ z = 255 := fun z => ⟨fun h => UInt8.toNat_inj.1 h, fun h => by rw [h]; rfl⟩
  have e83 : ∀ z : UInt8, z.toNat = 83 ↔ z = 83 := fun z => ⟨fun h => UInt8.toNat_inj.1 h, fun h => by rw [h]; rfl⟩
  by_cases hx255 : x = 255
  ·subst hx255
   have g1 : (((255 : UInt8).toNat : Int) != 255) = false := rfl
   by_cases hy83 : y = 83
   ·subst hy83
    have hM : Sm.isM l f := ⟨hx, hy⟩
    have hG2 : G = Sm.nxt l (f + 2) := by rw [hG, Sm.nxt_two' hM]
    have hGb := Sm.nxt_le (b := l) (k := f + 2) (by have := Hl.out; omega)
    rw [← hG2, Hl.out] at hGb
    obtain ⟨X, hX⟩ : ∃ X, X = (l.take G).drop (f + 2) := ⟨_, rfl⟩
    have hXl : X.length ≤ 900000 := by rw [hX, List.length_drop, List.length_take]; omega
    have hval : Sm.val l (f, G) = (Sm.une X).bind fun s => (Sm.opn s).bind Sm.cont := by
     have e : (l.take G).drop f = 255 :: 83 :: X := by
      have hlt : (l.take G).length = G := by rw [List.length_take, Hl.out]; omega
      rw [hX, List.drop_eq_getElem_cons (by omega), List.drop_eq_getElem_cons (by omega)]
      obtain ⟨q1, q2⟩ := List.getElem?_eq_some_iff.1 hx
      obtain ⟨q3, q4⟩ := List.getElem?_eq_some_iff.1 hy
      rw [List.getElem_take, List.getElem_take, q2, q4]
     unfold Sm.val
     dsimp only
     rw [e, Sm.blk_mk]
    obtain ⟨U, hU⟩ : ∃ U, U = Sm.val l (f, G) := ⟨_, rfl⟩
    rw [← hU] at hval ⊢
    have hmk := rmarker_c (some ⟨b, off,none⟩) n c _ l (f + 2) w Hr.out (by omega) (by omega) G hG2
    obtain ⟨D, hD, hrD⟩ := bty.mid_ Hr.out (i := f + 2) (k := G) hGb.1 hGb.2 ((f : Int) + 2) (G : Int) (by omega) rfl (G - (f + 2)) rfl
    rw [← hX] at hrD
    have Hmk := ek hmk; have HrD := ek hrD; have HU := ek hval; have HX := ek hX
    clear hmk hrD hval hX hM hG2 hG hU hno hx hy e255 e83
    rcases hune : Sm.une X with _ | u
    ·obtain rfl : U = none := by rw [HU.out, hune]; rfl
     clear HU
     go_enter Tryz.func89, Tryz.ntmps89
     go_wp2_with fail
     refine Hmk.out.mono ?_
     rintro e w1 ⟨rfl,rfl⟩
     go_wp2_with fail
     refine (runesc_c D (G - (f + 2)) (c - (f + 2)) X _ HrD.out (by omega)).mono ?_
     rw [unS_none hune]
     rintro e w2 ⟨A2, c2, rfl, ho2, hb2⟩
     clear ho2
     go_wp2
     go_ret3
     exact ret_none hb2 _ _ _ _ _
    ·have hul : u.length ≤ X.length := Sm.une_len _ X u (Nat.le_refl _) hune
     have hul2 : u.length ≤ 900000 := by omega
     rcases openS_cases u with ⟨y, ho, hop, hyl⟩ | ⟨y, ho, hop, hy⟩
     ·have hUc : U = Sm.cont y := by rw [HU.out, hune]; dsimp only [Option.bind_some]; rw [ho]; rfl
      have HUc := ek hUc
      clear HU hUc
      go_enter Tryz.func89, Tryz.ntmps89
      go_wp2_with fail
      refine Hmk.out.mono ?_
      rintro e w1 ⟨rfl,rfl⟩
      go_wp2_with fail
      refine (runesc_c D (G - (f + 2)) (c - (f + 2)) X _ HrD.out (by omega)).mono ?_
      rw [unS_some hune]
      rintro e w2 ⟨A2, c2, rfl, ho2, hb2⟩
      have z2 := hb2.size
      have hop2 := ropened_c A2 u.length c2 u w2 ho2.rb (by omega)
      rw [hop] at hop2
      have Hop2 := ek hop2; clear hop2 ho2
      go_wp2_with fail
      refine Hop2.out.mono ?_
      rintro e w3 ⟨A3, c3, rfl, ho3, hb3⟩
      have z3 := hb3.size
      have b3 := hb2.trans (hb3.mono z2)
      have htc := rrecords_c A3 y.length c3 y w3 ho3.rb (by omega)
      rw [← HUc.out] at htc
      have Htc := ek htc; clear htc ho3
      go_wp2_with fail
      refine Htc.out.mono ?_
      rintro e w4 ⟨hb4, A4, k4, c4, o4, rfl, hm4⟩
      have z4 := hb4.size
      have bz := b3.trans (hb4.mono (by omega))
      have Hm4 := ek hm4; clear hm4
      go_wp2
      go_ret3
      refine ⟨bz, A4, k4, c4, (G : Int), o4, rfl, ?_⟩
      have hm := Hm4.out
      rcases U with _ | rs
      ·exact hm
      ·exact ⟨hm.1, hm.2.1, rfl, hm.2.2.keep (stays_weak fun b hb => ⟨Nat.le_trans (by omega) hb.1, hb.2⟩)⟩
     ·obtain rfl : U = none := by rw [HU.out, hune]; dsimp only [Option.bind_some]; rw [ho]; rfl
      clear HU
      have hy2 : ((y : Int) == 0) = false := by simp [hy]
      have hy3 : ((y : Int) != 0) = true := by simp [hy]
      go_enter Tryz.func89, Tryz.ntmps89
      go_wp2_with fail
      refine Hmk.out.mono ?_
      rintro e w1 ⟨rfl,rfl⟩
      go_wp2_with fail
      refine (runesc_c D (G - (f + 2)) (c - (f + 2)) X _ HrD.out (by omega)).mono ?_
      rw [unS_some hune]
      rintro e w2 ⟨A2, c2, rfl, ho2, hb2⟩
      have z2 := hb2.size
      have hop2 := ropened_c A2 u.length c2 u w2 ho2.rb (by omega)
      rw [hop] at hop2
      have Hop2 := ek hop2; clear hop2 ho2
      go_wp2_with fail
      refine Hop2.out.mono ?_
      rintro e w3 ⟨A3, c3, rfl, ho3, hb3⟩
      have b3 := hb2.trans (hb3.mono z2)
      clear ho3
      go_wp2
      go_ret3
      exact ret_none b3 _ _ _ _ _
   ·have hM : ¬ Sm.isM l f := fun h => hy83 (by have := h.2; rw [hy] at this; injection this)
    rw [hno hM]
    have g2 : ((y.toNat : Int) != 83) = true := by rw [bne_iff_ne]; intro e; exact hy83 ((e83 y).1 (by omega))
    have g3 : ((y.toNat : Int) == 83) = false := by rw [beq_eq_false_iff_ne]; intro e; exact hy83 ((e83 y).1 (by omega))
    clear hno hM hG hx hy hy83 e255 e83
    go_enter Tryz.func89, Tryz.ntmps89
    go_wp2
    go_ret3
    exact ret_none (Below.refl _ _) _ _ _ _ _
  ·have hM : ¬ Sm.isM l f := fun h => hx255 (by have := h.1; rw [hx] at this; injection this)
   rw [hno hM]
   have g2 : ((x.toNat : Int) != 255) = true := by rw [bne_iff_ne]; intro e; exact hx255 ((e255 x).1 (by omega))
   have g3 : ((x.toNat : Int) == 255) = false := by rw [beq_eq_false_iff_ne]; intro e; exact hx255 ((e255 x).1 (by omega))
   clear hno hM hG hx hy hx255 e255 e83
   go_enter Tryz.func89, Tryz.ntmps89
   go_wp2
   go_ret3
   exact ret_none (Below.refl _ _) _ _ _ _ _
end Go.Proofs.YtkekmokdlgocaaaGreatDoor.Sq
