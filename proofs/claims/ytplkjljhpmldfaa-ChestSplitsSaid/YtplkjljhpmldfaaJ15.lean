/-
  Joined: Z1.
-/
import Derived.Test.YtplkjljhpmldfaaJ10
import Derived.Test.YtplkjljhpmldfaaJ13
import Derived.Test.YtplkjljhpmldfaaJ14
import Derived.RegionTactic
/-
  chest: end, takeSize, takeNumber, takeEntry: what each call returns and leaves.
-/
namespace Go.Proofs.Ytplkjljhpmldfaa
open Go.RowKit

/-- An entry as a value: the block's place, its size, its number of records. -/
def ev (x : Nat × Nat × Nat) : Value := .agg #[.int .i64 (x.1 : Int), .int .i64 (x.2.1 : Int), .int .i64 (x.2.2 : Int)]

set_option maxRecDepth 100000 in
/-- entry.end -/
theorem end_c (a s k : Nat) (v : Value) (w : World) (hv : v = ev (a, s, k)) (h : a + s ≤ 4000000000) :
    Calls Try.prog 43 #[v] w fun e w' => e = .returned (.int .i64 ((a + s : Nat) : Int)) ∧ Below w.heap.size w w' := by
  subst hv
  unfold ev
  go_enter Try.func43, Try.ntmps43
  go_wp2
  go_ret
  exact ⟨by first | rfl | (congr 2; omega), (Below.refl _ _).alloc (Nat.le_refl _) _⟩

/-- A block of three cells. -/
structure Box3 (w : World) (g : Nat) (v0 v1 v2 : Value) : Prop where
  c0 : w.cell? ⟨g, 0, none⟩ = some v0
  c1 : w.cell? ⟨g, 1, none⟩ = some v1
  c2 : w.cell? ⟨g, 2, none⟩ = some v2
  f0 : w.frozen? ⟨g, 0, none⟩ = false
  f1 : w.frozen? ⟨g, 1, none⟩ = false
  f2 : w.frozen? ⟨g, 2, none⟩ = false
  lt : g < w.heap.size
theorem Box3.made (w : World) (T : TypeId) (v0 v1 v2 : Value) : Box3 (w.alloc (.cells #[v0, v1, v2] T)) w.heap.size v0 v1 v2 :=
  ⟨by simp, by simp, by simp, by simp, by simp, by simp, by simp⟩
theorem Box3.below {w w' : World} {B g : Nat} {v0 v1 v2 : Value} (h : Box3 w g v0 v1 v2) (hb : Below B w w') (hg : g < B) : Box3 w' g v0 v1 v2 :=
  ⟨(hb.cell hg).trans h.c0, (hb.cell hg).trans h.c1, (hb.cell hg).trans h.c2, (hb.frozen hg).trans h.f0, (hb.frozen hg).trans h.f1, (hb.frozen hg).trans h.f2, Nat.lt_of_lt_of_le h.lt hb.size⟩
theorem put3_at (w : World) (g : Nat) (v0 v1 v2 : Value) : Below g w (((w.setCell ⟨g, 0, none⟩ v0).setCell ⟨g, 1, none⟩ v1).setCell ⟨g, 2, none⟩ v2) :=
  (((Below.refl g w).setCell (Nat.le_refl _) _).setCell (Nat.le_refl _) _).setCell (Nat.le_refl _) _
/-- So many bytes of a number have been read. -/
def SzRel (l : List UInt8) (a t : Value) : Prop := ∃ k : Nat, t = .int .i64 (k : Int) ∧ k ≤ 4 ∧ a = .int .u64 (Hm.val4 (l.take k) : Int)
theorem val4_lt : ∀ (k : Nat) (l : List UInt8), Hm.val4 (l.take k) < 256 ^ k
  | 0, l => by simp [Hm.val4]
  | k + 1, [] => by simp [Hm.val4]; exact Nat.pos_of_ne_zero (by simp)
  | k + 1, x :: l => by
    have ih := val4_lt k l
    have hx := x.toNat_lt
    simp only [List.take_succ_cons, Hm.val4]
    rw [Nat.pow_succ]
    omega
theorem val4_step : ∀ (k : Nat) (l : List UInt8) (x : UInt8), l[k]? = some x → Hm.val4 (l.take (k + 1)) = Hm.val4 (l.take k) + x.toNat * 256 ^ k
  | 0, [], x, h => by simp at h
  | 0, y :: l, x, h => by simp at h; subst h; simp [Hm.val4]
  | k + 1, [], x, h => by simp at h
  | k + 1, y :: l, x, h => by
    have ih := val4_step k l x (by simpa using h)
    simp only [List.take_succ_cons, Hm.val4] at ih ⊢
    rw [ih, Nat.pow_succ, Nat.mul_add]
    have e : 256 * (x.toNat * 256 ^ k) = x.toNat * (256 ^ k * 256) := by rw [Nat.mul_comm 256, Nat.mul_assoc]
    omega
theorem or64_add (V x k : Nat) (hk : k < 4) (hV : V < 256 ^ k) (hx : x < 256) : bits .or .u64 (V : Int) (IntKind.u64.wrap ((x : Int) * 2 ^ (8 * k))) = ((V + x * 256 ^ k : Nat) : Int) := by
  have hp : (256 : Nat) ^ k = 2 ^ (8 * k) := by rw [Nat.pow_mul]
  have hle : (256 : Nat) ^ k ≤ 16777216 := by
    have : (256 : Nat) ^ k ≤ 256 ^ 3 := Nat.pow_le_pow_right (by omega) (by omega)
    omega
  have hx2 : x * 256 ^ k ≤ 256 * 16777216 := Nat.mul_le_mul (by omega) hle
  have e1 : ((x : Int) * 2 ^ (8 * k)) = ((x * 2 ^ (8 * k) : Nat) : Int) := by push_cast; rfl
  rw [hp] at hV hle hx2 ⊢
  rw [e1, show IntKind.u64.wrap ((x * 2 ^ (8 * k) : Nat) : Int) = ((x * 2 ^ (8 * k) : Nat) : Int) by rw [IntWalk.u64_in _ (by omega)], u64_or_nat V (x * 2 ^ (8 * k)) (by omega) (by omega), or_add V x (8 * k) hV]

set_option maxRecDepth 100000 in
set_option maxHeartbeats 1000000 in
/-- takeSize -/
theorem takeSize_c (A : Option Addr) (c B : Nat) (l : List UInt8) (w : World) (hr : Rb w B A 4 c l) :
    Calls Try.prog 59 #[.slice A 4 c] w fun e w' => e = .returned (.int .u64 (Hm.val4 l : Int)) ∧ ∃ q, w' = w.drewN q := by
  have hl := hr.len
  have Hr := Lib.hid hr; have Hl := Lib.hid hl; clear hr hl
  go_enter Try.func59, Try.ntmps59
  go_wp2
  go_loopw [3, 8] (fun a t wr => SzRel l a t ∧ ∃ q, wr = w.drewN q) (fun _ t _ => 4 - (intOf t).toNat)
  case atStart => exact ⟨⟨0, rfl, by omega, rfl⟩, 0, rfl⟩
  case round =>
    obtain ⟨⟨k, rfl, hk, rfl⟩, q, rfl⟩ := hrel
    by_cases hlt : k < 4
    · obtain ⟨b, off, x, rfl, hb, hc, hx, _⟩ := Hr.out.at_ hlt
      have hor := or64_add (Hm.val4 (l.take k)) x.toNat k hlt (val4_lt k l) x.toNat_lt
      have hst := val4_step k l x hx
      rw [← hst] at hor
      obtain ⟨V, hV⟩ : ∃ V, V = Hm.val4 (l.take k) := ⟨_, rfl⟩
      rw [← hV] at hor ⊢
      have Hor := Lib.hid hor; have hxl := x.toNat_lt; clear hor hst hV hx
      go_wp2
      go_roundw
      case rel => exact ⟨⟨k + 1, by go_num, by omega, by rw [Hor.out]⟩, q, rfl⟩
      case measure => simp [intOf]; omega
    · have e : l.take k = l := List.take_of_length_le (by have := Hl.out; omega)
      rw [e]
      go_wp2
      go_ret
      exact ⟨rfl, q, rfl⟩

/-- What takeNumber comes to. -/
def RetNu (B : Nat) (w : World) (t : Option (Nat × List UInt8)) (e : Ending) (w' : World) : Prop :=
  Below w.heap.size w w' ∧ match t with
  | some (a, r) => ∃ A c, e = .returned (.tuple #[.int .i64 (a : Int), .slice A r.length c, .bool true]) ∧ Rb w' B A r.length c r
  | none => e = .returned (.tuple #[.int .i64 0, .slice none 0 0, .bool false])

set_option maxRecDepth 100000 in
set_option maxHeartbeats 1000000 in
/-- takeNumber -/
theorem takeNumber_c (A : Option Addr) (n c B : Nat) (l : List UInt8) (LO HI : Int) (lo hi : Nat) (w : World) (hr : Rb w B A n c l) (hB : B ≤ w.heap.size) (hn : n ≤ 1000000) (hLO : LO = (lo : Int)) (hHI : HI = (hi : Int)) (hhi : hi ≤ 100000) :
    Calls Try.prog 80 #[.slice A n c, .int .u64 LO, .int .u64 HI] w (RetNu B w (Hm.num lo hi l)) := by
  subst hLO hHI
  have hl := hr.len
  obtain ⟨h, hmin, hh⟩ : ∃ h : Nat, min (n : Int) 10 = (h : Int) ∧ (h = 10 ∧ 10 ≤ l.length ∨ h = l.length ∧ l.length ≤ 10) := by
    by_cases hc : n ≤ 10
    · exact ⟨n, by omega, .inr ⟨by omega, by omega⟩⟩
    · exact ⟨10, by omega, .inl ⟨rfl, by omega⟩⟩
  have hhn : h ≤ n := by omega
  have htk : Vm.tk (l.take h) = Vm.tk l := tk_head l h 10 (Nat.le_refl _) (by omega)
  obtain ⟨D, hD, hrD⟩ := bty.upto_ hr (k := h) hhn (min (n : Int) 10) hmin
  have hDl := hrD.len
  have hrD' := hrD.more hB
  rcases tk_cases (l.take h) with ⟨a, s, ht, ha, hs, hs10⟩ | ⟨x, ht, hx⟩
  · have hsn : s ≤ n := by omega
    obtain ⟨E, hE, hrE⟩ := bty.from_ hr (k := s) hsn (s : Int) rfl
    have ct := take_c D h c (l.take h)
    have c1 : ∀ W, Rb W W.heap.size D h c (l.take h) → Calls Try.prog 91 #[.slice D h c] W (RetT W.heap.size W (a, (l.take h).drop s, 0)) := fun W hW => by
      have := ct W hW (by omega)
      rwa [takeS_ok _ a s ht] at this
    rw [htk] at ht
    have hlen : ((l.take h).drop s).length = h - s := by rw [List.length_drop, hDl]
    by_cases hsm : a < lo
    · rw [Hm.num_out ht (by omega)]
      have d1 : decide ((a : Int) < (lo : Int)) = true := by simp; omega
      have HrD := Lib.hid hrD'; have C1 := Lib.hid c1; have Hl := Lib.hid hlen
      clear hr hrD hrD' c1 ct ht htk hE hrE hlen hl hDl hh ha hmin
      go_enter Try.func80, Try.ntmps80
      go_wp2_with fail
      refine (C1.out _ HrD.out).mono ?_
      rintro e w1 ⟨A1, c1, rfl, hown1, hb1⟩
      go_wp2
      go_ret3
      exact ⟨hb1, rfl⟩
    · have d1 : decide ((a : Int) < (lo : Int)) = false := by simp; omega
      by_cases hbig : hi < a
      · rw [Hm.num_out ht (by omega)]
        have d2 : decide ((hi : Int) < (a : Int)) = true := by simp; omega
        have HrD := Lib.hid hrD'; have C1 := Lib.hid c1; have Hl := Lib.hid hlen
        clear hr hrD hrD' c1 ct ht htk hE hrE hlen hl hDl hh ha hmin
        go_enter Try.func80, Try.ntmps80
        go_wp2_with fail
        refine (C1.out _ HrD.out).mono ?_
        rintro e w1 ⟨A1, c1, rfl, hown1, hb1⟩
        go_wp2
        go_ret3
        exact ⟨hb1, rfl⟩
      · rw [Hm.num_ok ht (by omega) (by omega)]
        have d2 : decide ((hi : Int) < (a : Int)) = false := by simp; omega
        have hdl : (l.drop s).length = n - s := by rw [List.length_drop, hl]
        have hsh : s ≤ h := by have := Vm.tk_size (l.take h); rw [htk, ht, hDl] at this; exact this.1
        have ha2 : a ≤ 100000 := by omega
        have e1 : IntKind.i64.wrap ((h : Int) - ((h - s : Nat) : Int)) = (s : Int) := by rw [IntWalk.i64_in _ (by omega)]; omega
        have e2 : ((h : Int) - ((h - s : Nat) : Int)) = (s : Int) := by omega
        have HrD := Lib.hid hrD'; have C1 := Lib.hid c1; have Hl := Lib.hid hlen; have HrE := Lib.hid hrE; have Hdl := Lib.hid hdl
        clear hr hrD hrD' c1 ct ht htk hrE hlen hl hDl hh ha hmin hdl
        go_enter Try.func80, Try.ntmps80
        go_wp2_with fail
        refine (C1.out _ HrD.out).mono ?_
        rw [show (RetT w.heap.size w (a, (l.take h).drop s, 0)) = fun e w' => ∃ A c, e = .returned (.tuple #[.int .u64 (a : Int), .slice A (h - s) c, .int .i64 0]) ∧ Own w' 5 w.heap.size A c ((l.take h).drop s) ∧ Below w.heap.size w w' by unfold RetT; rw [Hl.out]; rfl]
        rintro e w1 ⟨A1, c1, rfl, hown1, hb1⟩
        clear hown1
        go_wp2_with fail
        go_quiet (fail)
        go_wp2
        go_ret3
        refine ⟨below_drewN hb1 _, E, c - s, ?_, ?_⟩
        · rw [Hdl.out]; rfl
        · rw [Hdl.out]
          exact (HrE.out.keep fun p hp => hb1.cell (by omega)).drewN _
  · rw [htk] at ht
    rw [Hm.num_err ht (by omega)]
    have ct := take_c D h c (l.take h)
    have c1 : ∀ W, Rb W W.heap.size D h c (l.take h) → Calls Try.prog 91 #[.slice D h c] W (RetT W.heap.size W (0, [], x)) := fun W hW => by
      have := ct W hW (by omega)
      rwa [takeS_err _ x (by rw [htk]; exact ht) hx] at this
    have HrD := Lib.hid hrD'; have C1 := Lib.hid c1
    have hx1 : 2 ≤ x := by omega
    clear hr hrD hrD' c1 ct ht htk hl hDl hh hmin hx
    go_enter Try.func80, Try.ntmps80
    go_wp2_with fail
    refine (C1.out _ HrD.out).mono ?_
    rintro e w1 ⟨A1, c1, rfl, hown1, hb1⟩
    go_wp2
    go_ret3
    exact ⟨hb1, rfl⟩
theorem cnumber_ok (A : Option Addr) (n c B : Nat) (l : List UInt8) (LO HI : Int) (lo hi a : Nat) (r : List UInt8) (w : World) (hr : Rb w B A n c l) (hB : B ≤ w.heap.size) (hn : n ≤ 1000000) (hLO : LO = (lo : Int)) (hHI : HI = (hi : Int)) (hhi : hi ≤ 100000) (h : Hm.num lo hi l = some (a, r)) :
    Calls Try.prog 80 #[.slice A n c, .int .u64 LO, .int .u64 HI] w fun e w' => ∃ D d, e = .returned (.tuple #[.int .i64 (a : Int), .slice D r.length d, .bool true]) ∧ Rb w' B D r.length d r ∧ Below w.heap.size w w' :=
  (takeNumber_c A n c B l LO HI lo hi w hr hB hn hLO hHI hhi).mono fun e w' hp => by
    rw [h] at hp
    obtain ⟨hb, D, d, he, hr'⟩ := hp
    exact ⟨D, d, he, hr', hb⟩
theorem cnumber_err (A : Option Addr) (n c B : Nat) (l : List UInt8) (LO HI : Int) (lo hi : Nat) (w : World) (hr : Rb w B A n c l) (hB : B ≤ w.heap.size) (hn : n ≤ 1000000) (hLO : LO = (lo : Int)) (hHI : HI = (hi : Int)) (hhi : hi ≤ 100000) (h : Hm.num lo hi l = none) :
    Calls Try.prog 80 #[.slice A n c, .int .u64 LO, .int .u64 HI] w fun e w' => e = .returned (.tuple #[.int .i64 0, .slice none 0 0, .bool false]) ∧ Below w.heap.size w w' :=
  (takeNumber_c A n c B l LO HI lo hi w hr hB hn hLO hHI hhi).mono fun e w' hp => by
    rw [h] at hp
    exact ⟨hp.2, hp.1⟩
theorem num_len {lo hi a : Nat} {l r : List UInt8} (h : Hm.num lo hi l = some (a, r)) : r.length ≤ l.length ∧ lo ≤ a ∧ a ≤ hi := by
  obtain ⟨s, _, h2, h3, h4, _, _⟩ := Hm.num_inv h
  dsimp only at h2 h3 h4
  exact ⟨by rw [h2, List.length_drop]; omega, h3, h4⟩

/-- What takeEntry comes to. -/
def RetEn1 (B at_ : Nat) (w : World) (t : Option ((Nat × Nat) × List UInt8)) (e : Ending) (w' : World) : Prop :=
  Below w.heap.size w w' ∧ match t with
  | some (x, r) => ∃ A c, e = .returned (.tuple #[ev (at_, x.1, x.2), .slice A r.length c, .bool true]) ∧ Rb w' B A r.length c r
  | none => e = .returned (.tuple #[ev (0, 0, 0), .slice none 0 0, .bool false])

set_option maxRecDepth 100000 in
set_option maxHeartbeats 1000000 in
/-- takeEntry -/
theorem takeEntry_c (A : Option Addr) (n c B at_ : Nat) (l : List UInt8) (w : World) (hr : Rb w B A n c l) (hB : B ≤ w.heap.size) (hn : n ≤ 1000000) :
    Calls Try.prog 81 #[.slice A n c, .int .i64 (at_ : Int)] w (RetEn1 B at_ w (Hm.ent1 l)) := by
  have hl := hr.len
  rcases h1 : Hm.num 1 20000 l with _ | ⟨s, r⟩
  · rw [Hm.ent1_none1 h1]
    have c1 : ∀ W, Rb W B A n c l → B ≤ W.heap.size → _ := fun W hW hBW => cnumber_err A n c B l 1 20000 1 20000 W hW hBW hn rfl rfl (by omega) h1
    have Hr := Lib.hid hr; have C1 := Lib.hid c1; clear hr c1 h1
    obtain ⟨w1, hw1⟩ : ∃ w1, w1 = w.alloc (.cells #[.int .i64 0, .int .i64 0, .int .i64 0] 65) := ⟨_, rfl⟩
    have hx1 : Box3 w1 w.heap.size (.int .i64 0) (.int .i64 0) (.int .i64 0) := by rw [hw1]; exact Box3.made _ _ _ _ _
    have b1 : Below w.heap.size w w1 := by rw [hw1]; exact (Below.refl _ _).alloc (Nat.le_refl _) _
    have z1 : w1.heap.size = w.heap.size + 1 := by rw [hw1]; simp
    go_enter Try.func81, Try.ntmps81
    go_wp2_with fail
    rw [← hw1]
    refine (C1.out w1 (Hr.out.below (b1.mono hB)) (by omega)).mono ?_
    rintro e w2 ⟨rfl, hb2⟩
    have hx2 := hx1.below hb2 (by omega)
    obtain ⟨c0, c1, c2, f0, f1, f2, hlt⟩ := hx2
    clear hx1 hw1
    go_wp2
    refine bodyPost_ret (v := .tuple #[ev (0, 0, 0), .slice none 0 0, .bool false]) ?_ rfl ⟨?_, rfl⟩
    · simp [results, Try.results81, go_sem, ev, c0, c1, c2]
    · exact (b1.trans (hb2.mono (by omega))).trans (((put3_at w2 w.heap.size _ _ _).mono (Nat.le_refl _)))
  · obtain ⟨hr1, hs1, hs2⟩ := num_len h1
    have c1 : ∀ W, Rb W B A n c l → B ≤ W.heap.size → _ := fun W hW hBW => cnumber_ok A n c B l 1 20000 1 20000 s r W hW hBW hn rfl rfl (by omega) h1
    obtain ⟨w1, hw1⟩ : ∃ w1, w1 = w.alloc (.cells #[.int .i64 0, .int .i64 0, .int .i64 0] 65) := ⟨_, rfl⟩
    have hx1 : Box3 w1 w.heap.size (.int .i64 0) (.int .i64 0) (.int .i64 0) := by rw [hw1]; exact Box3.made _ _ _ _ _
    have b1 : Below w.heap.size w w1 := by rw [hw1]; exact (Below.refl _ _).alloc (Nat.le_refl _) _
    have z1 : w1.heap.size = w.heap.size + 1 := by rw [hw1]; simp
    rcases h2 : Hm.num 1 5000 r with _ | ⟨k, r2⟩
    · rw [Hm.ent1_none2 h1 h2]
      have c2 : ∀ W D d, Rb W B D r.length d r → B ≤ W.heap.size → _ := fun W D d hW hBW => cnumber_err D r.length d B r 1 5000 1 5000 W hW hBW (by omega) rfl rfl (by omega) h2
      have Hr := Lib.hid hr; have C1 := Lib.hid c1; have C2 := Lib.hid c2; clear hr c1 c2 h1 h2
      go_enter Try.func81, Try.ntmps81
      go_wp2_with fail
      rw [← hw1]
      refine (C1.out w1 (Hr.out.below (b1.mono hB)) (by omega)).mono ?_
      rintro e w2 ⟨D, d, rfl, hr2, hb2⟩
      have z2 := hb2.size
      have Hr2 := Lib.hid hr2; clear hr2
      go_wp2_with fail
      refine (C2.out w2 D d Hr2.out (by omega)).mono ?_
      rintro e w3 ⟨rfl, hb3⟩
      have hx3 := (hx1.below hb2 (by omega)).below hb3 (by omega)
      obtain ⟨c0, c1, c2, f0, f1, f2, hlt⟩ := hx3
      clear hx1 hw1
      go_wp2
      refine bodyPost_ret (v := .tuple #[ev (0, 0, 0), .slice none 0 0, .bool false]) ?_ rfl ⟨?_, rfl⟩
      · simp [results, Try.results81, go_sem, ev, c0, c1, c2]
      · exact ((b1.trans (hb2.mono (by omega))).trans (hb3.mono (by omega))).trans (((put3_at w3 w.heap.size _ _ _).mono (Nat.le_refl _)))
    · rw [Hm.ent1_ok h1 h2]
      have c2 : ∀ W D d, Rb W B D r.length d r → B ≤ W.heap.size → _ := fun W D d hW hBW => cnumber_ok D r.length d B r 1 5000 1 5000 k r2 W hW hBW (by omega) rfl rfl (by omega) h2
      have Hr := Lib.hid hr; have C1 := Lib.hid c1; have C2 := Lib.hid c2; clear hr c1 c2 h1 h2
      go_enter Try.func81, Try.ntmps81
      go_wp2_with fail
      rw [← hw1]
      refine (C1.out w1 (Hr.out.below (b1.mono hB)) (by omega)).mono ?_
      rintro e w2 ⟨D, d, rfl, hr2, hb2⟩
      have z2 := hb2.size
      have Hr2 := Lib.hid hr2; clear hr2
      go_wp2_with fail
      refine (C2.out w2 D d Hr2.out (by omega)).mono ?_
      rintro e w3 ⟨E, x, rfl, hr3, hb3⟩
      have hx3 := (hx1.below hb2 (by omega)).below hb3 (by omega)
      obtain ⟨c0, c1, c2, f0, f1, f2, hlt⟩ := hx3
      have Hr3 := Lib.hid hr3; clear hx1 hw1 hr3
      go_wp2
      refine bodyPost_ret (v := .tuple #[ev (at_, s, k), .slice E r2.length x, .bool true]) ?_ rfl ⟨?_, E, x, rfl, ?_⟩
      · simp [results, Try.results81, go_sem, ev, c0, c1, c2]
      · exact ((b1.trans (hb2.mono (by omega))).trans (hb3.mono (by omega))).trans (((put3_at w3 w.heap.size _ _ _).mono (Nat.le_refl _)))
      · exact Hr3.out.below ((put3_at w3 w.heap.size _ _ _).mono hB)
end Go.Proofs.Ytplkjljhpmldfaa
