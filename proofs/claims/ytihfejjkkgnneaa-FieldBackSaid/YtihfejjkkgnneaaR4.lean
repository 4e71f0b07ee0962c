/-
  field's takeCount, takeField: what each call returns and leaves.
-/
import Derived.Test.YtihfejjkkgnneaaR3
import Derived.BigQuiet
import Derived.Deep.QuietTactic
import Derived.IntWalk
namespace Go.Proofs.Ytihfejjkkgnneaa
open Go.RowKit

/-- A number looks at ten bytes at most. -/
theorem dn_take : ∀ (j i acc : Nat) (l : List UInt8), i + j = 10 → 1 ≤ j → Vm.dn i acc (l.take j) = Vm.dn i acc l
  | 0, _, _, _, _, h => by omega
  | j + 1, i, acc, [], _, _ => by simp
  | j + 1, i, acc, c :: r, hij, _ => by
    rw [List.take_succ_cons]
    by_cases h : c.toNat < 128
    · by_cases h2 : 0 < i ∧ c.toNat = 0 ∨ i = 9 ∧ 1 < c.toNat
      · rw [Vm.dn_bad i acc c _ h h2, Vm.dn_bad i acc c _ h h2]
      · rw [Vm.dn_end i acc c _ h h2, Vm.dn_end i acc c _ h h2]
    · by_cases h9 : i = 9
      · subst h9
        rw [Vm.dn_long acc c _ (by omega), Vm.dn_long acc c _ (by omega)]
      · rw [Vm.dn_step i acc c _ (by omega) h9, Vm.dn_step i acc c _ (by omega) h9]
        exact dn_take j (i + 1) _ r (by omega) (by omega)
theorem tk_ten_ (l : List UInt8) : Vm.tk (l.take 10) = Vm.tk l := dn_take 10 0 0 l (by omega) (by omega)
theorem tk_take (l : List UInt8) (k : Nat) (hk : 10 ≤ k) : Vm.tk (l.take k) = Vm.tk l := by
  rw [← tk_ten_ (l.take k), List.take_take, Nat.min_eq_left hk, tk_ten_]
theorem tk_head (l : List UInt8) (h k : Nat) (hk : 10 ≤ k) (hh : h = k ∧ k ≤ l.length ∨ h = l.length) : Vm.tk (l.take h) = Vm.tk l := by
  rcases hh with ⟨rfl, _⟩ | rfl
  · exact tk_take l h hk
  · rw [List.take_length]

/-- A count that is at most 'most', and the rest; or the error. -/
def cnt (l : List UInt8) (most : Nat) : Except Nat (Nat × List UInt8) :=
  if (Vm.tk l).2.2 = 0 then (if most < (Vm.tk l).1 then .error 5 else .ok ((Vm.tk l).1, l.drop (Vm.tk l).2.1)) else .error (Vm.tk l).2.2
theorem cnt_ok {l : List UInt8} {a s most : Nat} (h : Vm.tk l = (a, s, 0)) (hm : a ≤ most) : cnt l most = .ok (a, l.drop s) := by
  unfold cnt; rw [h]; simp only [if_true]; rw [if_neg (by omega)]
theorem cnt_large {l : List UInt8} {a s most : Nat} (h : Vm.tk l = (a, s, 0)) (hm : most < a) : cnt l most = .error 5 := by
  unfold cnt; rw [h]; simp only [if_true]; rw [if_pos hm]
theorem cnt_err {l : List UInt8} {x most : Nat} (h : Vm.tk l = (0, 0, x)) (hx : x = 2 ∨ x = 3) : cnt l most = .error x := by
  unfold cnt; rw [h]; simp only; rw [if_neg (by omega)]
theorem decR_cnt (b : List UInt8) : Fm.decR b = match cnt b 50 with | .error x => .error x | .ok (a, t) => Fm.decFs a t := by
  unfold Fm.decR cnt
  by_cases h : (Vm.tk b).2.2 = 0
  · by_cases h2 : 50 < (Vm.tk b).1
    · simp [h, h2]
    · simp [h, h2]
  · simp [h]
theorem dec_cnt (b : List UInt8) : Fm.dec b = match cnt b 5000 with | .error x => .error x | .ok (a, t) => (match Fm.decRs a t with | .error x => .error x | .ok (l, b') => if b' = [] then .ok l else .error 3) := by
  unfold Fm.dec cnt
  by_cases h : (Vm.tk b).2.2 = 0
  · by_cases h2 : 5000 < (Vm.tk b).1
    · simp [h, h2]
    · simp [h, h2]
      rfl
  · simp [h]

/-- What takeCount comes to. -/
def RetCt (B : Nat) (w : World) (t : Except Nat (Nat × List UInt8)) (e : Ending) (w' : World) : Prop :=
  Below w.heap.size w w' ∧ match t with
  | .ok (a, r) => ∃ A c, e = .returned (.tuple #[.int .i64 (a : Int), .slice A r.length c, .int .i64 0]) ∧ Rb w' B A r.length c r
  | .error x => e = .returned (.tuple #[.int .i64 0, .slice none 0 0, .int .i64 (x : Int)])

set_option maxRecDepth 100000 in
set_option maxHeartbeats 1000000 in
/-- takeCount -/
theorem takeCount_c (A : Option Addr) (n c B : Nat) (l : List UInt8) (M : Int) (most : Nat) (w : World) (hr : Rb w B A n c l) (hB : B ≤ w.heap.size) (hn : n ≤ 1000000) (hM : M = (most : Int)) (hmost : most ≤ 10000) :
    Calls Try.prog 36 #[.slice A n c, .int .u64 M] w (RetCt B w (cnt l most)) := by
  subst hM
  have hl := hr.len
  obtain ⟨h, hmin, hh⟩ : ∃ h : Nat, min (n : Int) 10 = (h : Int) ∧ (h = 10 ∧ 10 ≤ l.length ∨ h = l.length ∧ l.length ≤ 10) := by
    by_cases hc : n ≤ 10
    · exact ⟨n, by omega, .inr ⟨by omega, by omega⟩⟩
    · exact ⟨10, by omega, .inl ⟨rfl, by omega⟩⟩
  have hhn : h ≤ n := by omega
  have htk : Vm.tk (l.take h) = Vm.tk l := tk_head l h 10 (Nat.le_refl _) (by omega)
  obtain ⟨D, hD, hrD⟩ := bty.upto_ hr (k := h) hhn (min (n : Int) 10) hmin
  have hDl := hrD.len
  have hrD' := hrD.more hB
  rcases tk_cases (l.take h) with ⟨a, s, ht, ha, hs, hs10⟩ | ⟨x, ht, hx⟩
  · have hsn : s ≤ n := by omega
    obtain ⟨E, hE, hrE⟩ := bty.from_ hr (k := s) hsn (s : Int) rfl
    have ct := take_c D h c (l.take h)
    have c1 : ∀ W, Rb W W.heap.size D h c (l.take h) → Calls Try.prog 56 #[.slice D h c] W (RetT W.heap.size W (a, (l.take h).drop s, 0)) := fun W hW => by
      have := ct W hW (by omega)
      rwa [takeS_ok _ a s ht] at this
    rw [htk] at ht
    have hlen : ((l.take h).drop s).length = h - s := by rw [List.length_drop, hDl]
    by_cases hbig : most < a
    · rw [cnt_large ht hbig]
      have HrD := Lib.hid hrD'; have C1 := Lib.hid c1; have Hl := Lib.hid hlen
      clear hr hrD hrD' c1 ct ht htk hE hrE hlen hl hDl hh ha hmin
      go_enter Try.func36, Try.ntmps36
      go_wp2_with fail
      refine (C1.out _ HrD.out).mono ?_
      rintro e w1 ⟨A1, c1, rfl, hown1, hb1⟩
      go_wp2
      go_ret3
      exact ⟨hb1, rfl⟩
    · rw [cnt_ok ht (by omega)]
      have hdl : (l.drop s).length = n - s := by rw [List.length_drop, hl]
      have hsh : s ≤ h := by have := Vm.tk_size (l.take h); rw [htk, ht, hDl] at this; exact this.1
      have ha2 : a ≤ 10000 := by omega
      have e1 : IntKind.i64.wrap ((h : Int) - ((h - s : Nat) : Int)) = (s : Int) := by rw [IntWalk.i64_in _ (by omega)]; omega
      have e2 : ((h : Int) - ((h - s : Nat) : Int)) = (s : Int) := by omega
      have HrD := Lib.hid hrD'; have C1 := Lib.hid c1; have Hl := Lib.hid hlen; have HrE := Lib.hid hrE; have Hdl := Lib.hid hdl
      clear hr hrD hrD' c1 ct ht htk hrE hlen hl hDl hh ha hmin hdl
      go_enter Try.func36, Try.ntmps36
      go_wp2_with fail
      refine (C1.out _ HrD.out).mono ?_
      rw [show (RetT w.heap.size w (a, (l.take h).drop s, 0)) = fun e w' => ∃ A c, e = .returned (.tuple #[.int .u64 (a : Int), .slice A (h - s) c, .int .i64 0]) ∧ Own w' 5 w.heap.size A c ((l.take h).drop s) ∧ Below w.heap.size w w' by unfold RetT; rw [Hl.out]; rfl]
      rintro e w1 ⟨A1, c1, rfl, hown1, hb1⟩
      clear hown1
      go_wp2_with fail
      go_quiet (fail)
      go_wp2
      go_ret3
      refine ⟨below_drewN hb1 _, E, c - s, ?_, ?_⟩
      · rw [Hdl.out]; rfl
      · rw [Hdl.out]
        exact (HrE.out.keep fun p hp => hb1.cell (by omega)).drewN _
  · rw [htk] at ht
    rw [cnt_err ht hx]
    have ct := take_c D h c (l.take h)
    have c1 : ∀ W, Rb W W.heap.size D h c (l.take h) → Calls Try.prog 56 #[.slice D h c] W (RetT W.heap.size W (0, [], x)) := fun W hW => by
      have := ct W hW (by omega)
      rwa [takeS_err _ x (by rw [htk]; exact ht) hx] at this
    have HrD := Lib.hid hrD'; have C1 := Lib.hid c1
    have hx1 : 2 ≤ x := by omega
    clear hr hrD hrD' c1 ct ht htk hl hDl hh hmin hx
    go_enter Try.func36, Try.ntmps36
    go_wp2_with fail
    refine (C1.out _ HrD.out).mono ?_
    rintro e w1 ⟨A1, c1, rfl, hown1, hb1⟩
    go_wp2
    go_ret3
    exact ⟨hb1, rfl⟩

theorem takeCount_ok (A : Option Addr) (n c B : Nat) (l : List UInt8) (M : Int) (most a : Nat) (r : List UInt8) (w : World) (hr : Rb w B A n c l) (hB : B ≤ w.heap.size) (hn : n ≤ 1000000) (hM : M = (most : Int)) (hmost : most ≤ 10000) (h : cnt l most = .ok (a, r)) :
    Calls Try.prog 36 #[.slice A n c, .int .u64 M] w fun e w' => ∃ D d, e = .returned (.tuple #[.int .i64 (a : Int), .slice D r.length d, .int .i64 0]) ∧ Rb w' B D r.length d r ∧ Below w.heap.size w w' :=
  (takeCount_c A n c B l M most w hr hB hn hM hmost).mono fun e w' hp => by
    rw [h] at hp
    obtain ⟨hb, D, d, he, hr'⟩ := hp
    exact ⟨D, d, he, hr', hb⟩
theorem takeCount_err (A : Option Addr) (n c B : Nat) (l : List UInt8) (M : Int) (most x : Nat) (w : World) (hr : Rb w B A n c l) (hB : B ≤ w.heap.size) (hn : n ≤ 1000000) (hM : M = (most : Int)) (hmost : most ≤ 10000) (h : cnt l most = .error x) :
    Calls Try.prog 36 #[.slice A n c, .int .u64 M] w fun e w' => e = .returned (.tuple #[.int .i64 0, .slice none 0 0, .int .i64 (x : Int)]) ∧ Below w.heap.size w w' :=
  (takeCount_c A n c B l M most w hr hB hn hM hmost).mono fun e w' hp => by
    rw [h] at hp
    exact ⟨hp.2, hp.1⟩
theorem cnt_small {l : List UInt8} {most a : Nat} {r : List UInt8} (h : cnt l most = .ok (a, r)) : a ≤ most ∧ r.length ≤ l.length := by
  unfold cnt at h
  split at h
  · split at h
    · cases h
    · injection h with h
      injection h with h1 h2
      subst h1 h2
      exact ⟨by omega, by rw [List.length_drop]; omega⟩
  · cases h
theorem cnt_x {l : List UInt8} {most x : Nat} (h : cnt l most = .error x) : 2 ≤ x ∧ x ≤ 5 := by
  unfold cnt at h
  have hk := Vm.tk_kinds l
  split at h
  · split at h
    · injection h with h; omega
    · cases h
  · injection h with h; omega
end Go.Proofs.Ytihfejjkkgnneaa
