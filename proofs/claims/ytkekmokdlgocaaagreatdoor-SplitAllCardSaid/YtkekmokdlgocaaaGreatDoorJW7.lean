import Derived.Test.YtkekmokdlgocaaaGreatDoorJW2
import Derived.Test.YtkekmokdlgocaaaGreatDoorJW5
import Derived.Test.YtkekmokdlgocaaaGreatDoorJW6
import Derived.Lib.MinMax
set_option maxRecDepth 100000
set_option maxHeartbeats 4000000
namespace Go.Proofs.YtkekmokdlgocaaaGreatDoor.Bun
open Go.RowKit
theorem follow_c (a b : List UInt8) (o : Bool) (ho : o = (Op.bytesLess b a && decide (a.length ≤ 100))) (w : World) :
  Calls Tryz.prog 192 #[.string ⟨a.toArray⟩, .string ⟨b.toArray⟩] w fun e w' => e = .returned (.bool o) ∧ w' = w := by
 have hg := Bm.gt_less a b
 rw [← hg] at ho
 cases hx : (Op.bytesLess a b || a == b) with
 | true =>
  rw [hx] at ho
  subst ho
  clear hg
  go_enter Tryz.func192, Tryz.ntmps192
  go_wp2
  go_ret
  exact ⟨rfl,rfl⟩
 | false =>
  rw [hx] at ho
  simp only [Bool.not_false, Bool.true_and] at ho
  subst ho
  clear hg
  have e1 : decide ((a.length : Int) ≤ 100) = decide (a.length ≤ 100) := by simp; omega
  go_enter Tryz.func192, Tryz.ntmps192
  go_wp2
  go_ret
  exact ⟨by rw [← e1]; rfl, rfl⟩
theorem fend_c (a z s : Nat) (n : ByteArray) (v : Value) (w : World) (hv : v = .agg #[.int .i64 (a : Int), .string n, .int .i64 (z : Int), .int .i64 (s : Int)]) (E : Nat) (hE : s + z + 4 = E) (h : E ≤ 4000000000) :
  Calls Tryz.prog 154 #[v] w fun e w' => e = .returned (.int .i64 (E : Int)) ∧ w' = w.alloc (.cells #[.int .i64 (a : Int), .string n, .int .i64 (z : Int), .int .i64 (s : Int)] 161) := by
 subst hv
 have e1 : (s : Int) + (z : Int) + 4 = (E : Int) := by omega
 have e2 : IntKind.i64.wrap ((s : Int) + (z : Int)) = (s : Int) + (z : Int) := by rw [IntWalk.i64_in _ (by omega)]
 go_enter Tryz.func154, Tryz.ntmps154
 go_wp2
 go_ret
 exact ⟨by first | rfl | (congr 2; omega), rfl⟩
structure Box3 (w : World) (g : Nat) (v0 v1 v2 : Value) : Prop where
 c0 : w.cell? ⟨g, 0,none⟩ = some v0
 c1 : w.cell? ⟨g, 1,none⟩ = some v1
 c2 : w.cell? ⟨g, 2,none⟩ = some v2
 f0 : w.frozen? ⟨g, 0,none⟩ = false
 f1 : w.frozen? ⟨g, 1,none⟩ = false
 f2 : w.frozen? ⟨g, 2,none⟩ = false
 lt : g < w.heap.size
theorem Box3.made (w : World) (T : TypeId) (v0 v1 v2 : Value) : Box3 (w.alloc (.cells #[v0, v1, v2] T)) w.heap.size v0 v1 v2 :=
 ⟨by simp, by simp, by simp, by simp, by simp, by simp, by simp⟩
theorem Box3.keep {w w' : World} {g : Nat} {v0 v1 v2 : Value} (h : Box3 w g v0 v1 v2) (hs : w.heap.size ≤ w'.heap.size) (hg : w'.heap[g]? = w.heap[g]?) : Box3 w' g v0 v1 v2 := by
 have c : ∀ k, w'.cell? ⟨g, k,none⟩ = w.cell? ⟨g, k,none⟩ := fun k => by unfold World.cell?; rw [hg]
 have f : ∀ k, w'.frozen? ⟨g, k,none⟩ = w.frozen? ⟨g, k,none⟩ := fun k => by unfold World.frozen?; rw [hg]
 exact ⟨(c 0).trans h.c0, (c 1).trans h.c1, (c 2).trans h.c2, (f 0).trans h.f0, (f 1).trans h.f1, (f 2).trans h.f2, Nat.lt_of_lt_of_le h.lt hs⟩
theorem Box3.below {w w' : World} {B g : Nat} {v0 v1 v2 : Value} (h : Box3 w g v0 v1 v2) (hb : Below B w w') (hg : g < B) : Box3 w' g v0 v1 v2 := h.keep hb.size (hb.block g hg)
theorem Box3.drewN {w : World} {g : Nat} {v0 v1 v2 : Value} (h : Box3 w g v0 v1 v2) (k : Nat) : Box3 (w.drewN k) g v0 v1 v2 := ⟨h.c0, h.c1, h.c2, h.f0, h.f1, h.f2, h.lt⟩
theorem Box3.set1 {w : World} {g : Nat} {v0 v1 v2 : Value} (h : Box3 w g v0 v1 v2) (v : Value) : Box3 (w.setCell ⟨g, 1,none⟩ v) g v0 v v2 := by
 have o : ∀ j, j ≠ 1 → (w.setCell ⟨g, 1,none⟩ v).cell? ⟨g, j,none⟩ = w.cell? ⟨g, j,none⟩ := fun j hj => World.cell?_setCell_other w _ _ _ (by simp)
 have f : ∀ j, (w.setCell ⟨g, 1,none⟩ v).frozen? ⟨g, j,none⟩ = w.frozen? ⟨g, j,none⟩ := fun j => by simp
 exact ⟨(o 0 (by omega)).trans h.c0, World.cell?_setCell_same w _ _ h.c1, (o 2 (by omega)).trans h.c2, (f 0).trans h.f0, (f 1).trans h.f1, (f 2).trans h.f2, by simpa using h.lt⟩
theorem Box3.set2 {w : World} {g : Nat} {v0 v1 v2 : Value} (h : Box3 w g v0 v1 v2) (v : Value) : Box3 (w.setCell ⟨g, 2,none⟩ v) g v0 v1 v := by
 have o : ∀ j, j ≠ 2 → (w.setCell ⟨g, 2,none⟩ v).cell? ⟨g, j,none⟩ = w.cell? ⟨g, j,none⟩ := fun j hj => World.cell?_setCell_other w _ _ _ (by simp)
 have f : ∀ j, (w.setCell ⟨g, 2,none⟩ v).frozen? ⟨g, j,none⟩ = w.frozen? ⟨g, j,none⟩ := fun j => by simp
 exact ⟨(o 0 (by omega)).trans h.c0, (o 1 (by omega)).trans h.c1, World.cell?_setCell_same w _ _ h.c2, (f 0).trans h.f0, (f 1).trans h.f1, (f 2).trans h.f2, by simpa using h.lt⟩
def Rd (w : World) (g : Nat) (A : Option Addr) (n c p : Nat) (fl : Bool) : Prop := Box3 w g (.slice A n c) (.int .i64 (p : Int)) (.bool fl)
theorem next_c (g : Nat) (A : Option Addr) (n c p B : Nat) (fl : Bool) (M : Int) (m : Nat) (l : List UInt8) (w : World) (hx : Rd w g A n c p fl) (hr : Rb w B A n c l) (hn : n ≤ 1000000) (hp : p ≤ n) (hM : M = (m : Int)) (hm : m ≤ 1000) :
  Calls Tryz.prog 189 #[.pointer (some ⟨g, 0,none⟩), .int .i64 M] w fun e w' => (∃ D k, e = .returned (.slice D k (c - p)) ∧ Rb w B D k (c - p) ((l.drop p).take m) ∧ k ≤ 1000) ∧ ∃ q, w' = w.drewN q := by
 subst hM
 have hl := hr.len
 obtain ⟨c0, c1, c2, f0, f1, f2, hlt⟩ := hx
 obtain ⟨k, hk, hkc⟩ : ∃ k : Nat, min (n : Int) ((p : Int) + (m : Int)) = (k : Int) ∧ (k = p + m ∧ p + m ≤ n ∨ k = n ∧ n ≤ p + m) := by
  by_cases h : n ≤ p + m
  ·exact ⟨n, by omega, .inr ⟨rfl, h⟩⟩
  ·exact ⟨p + m, by omega, .inl ⟨rfl, by omega⟩⟩
 have hkn : k ≤ n := by omega
 have hpk : p ≤ k := by omega
 obtain ⟨D, hD, hrD⟩ := bty.mid_ hr (i := p) (k := k) hpk hkn (p : Int) (k : Int) rfl rfl (k - p) rfl
 have e1 : (l.take k).drop p = (l.drop p).take m := by
  rw [List.drop_take]
  rcases hkc with ⟨rfl, _⟩ | ⟨rfl, h⟩
  ·rw [Nat.add_sub_cancel_left]
  ·rw [List.take_of_length_le (by rw [List.length_drop]; omega), List.take_of_length_le (by rw [List.length_drop]; omega)]
 rw [e1] at hrD
 have hk1 : k - p ≤ 1000 := by omega
 have HrD := ek hrD
 clear hr hrD hkc e1 hl
 go_enter Tryz.func189, Tryz.ntmps189
 go_wp2_with fail
 go_quiet (fail)
 go_wp2
 go_ret
 exact ⟨⟨D, k - p, rfl, HrD.out, hk1⟩, _, rfl⟩
theorem dn_take : ∀ (j i acc : Nat) (l : List UInt8), i + j = 10 → 1 ≤ j → Vm.dn i acc (l.take j) = Vm.dn i acc l
 | 0, _, _, _, _, h => by omega
 | j + 1, i, acc, [], _, _ => by simp
 | j + 1, i, acc, c :: r, hij, _ => by
  rw [List.take_succ_cons]
  by_cases h : c.toNat < 128
  ·by_cases h2 : 0 < i ∧ c.toNat = 0 ∨ i = 9 ∧ 1 < c.toNat
   ·rw [Vm.dn_bad i acc c _ h h2, Vm.dn_bad i acc c _ h h2]
   ·rw [Vm.dn_end i acc c _ h h2, Vm.dn_end i acc c _ h h2]
  ·by_cases h9 : i = 9
   ·subst h9
    rw [Vm.dn_long acc c _ (by omega), Vm.dn_long acc c _ (by omega)]
   ·rw [Vm.dn_step i acc c _ (by omega) h9, Vm.dn_step i acc c _ (by omega) h9]
    exact dn_take j (i + 1) _ r (by omega) (by omega)
theorem tk_ten_ (l : List UInt8) : Vm.tk (l.take 10) = Vm.tk l := dn_take 10 0 0 l (by omega) (by omega)
theorem tk_take (l : List UInt8) (k : Nat) (hk : 10 ≤ k) : Vm.tk (l.take k) = Vm.tk l := by
 rw [← tk_ten_ (l.take k), List.take_take, Nat.min_eq_left hk, tk_ten_]
theorem nam_some {l a : List UInt8} {s : Nat} (h : Bm.nam l = some (a, s)) : frameS (l.take 110) 100 = (a, s, 0) := by
 obtain ⟨⟨n, k⟩, hq, h2⟩ := Option.bind_eq_some_iff.1 h
 obtain ⟨ht, hm⟩ := Bm.num_inv hq
 obtain ⟨_, _, _, h6, h7, _⟩ := Bm.num_only hq
 dsimp only at h2
 split at h2
 ·rename_i hc
  injection h2 with h2
  injection h2 with e1 e2
  have hl : (l.take 110).length = min 110 l.length := List.length_take
  rw [frameS_ok (l.take 110) 100 n k (by rw [tk_take l 110 (by omega)]; exact ht) (by omega) (by omega)]
  rw [List.take_take, Nat.min_eq_left (by omega), List.drop_take, Nat.add_sub_cancel_left, e1, e2]
 ·cases h2
theorem nam_no {l : List UInt8} (h : Bm.nam l = none) : ∃ x, frameS (l.take 110) 100 = ([], 0, x) ∧ (x = 2 ∨ x = 3 ∨ x = 5) := by
 rcases tk_cases l with ⟨a, s, ht, ha, hs, hs10⟩ | ⟨x, ht, hx⟩
 ·have ht' : Vm.tk (l.take 110) = (a, s, 0) := by rw [tk_take l 110 (by omega)]; exact ht
  by_cases h1 : a ≤ 100
  ·by_cases h2 : a ≤ l.length - s
   ·rw [Bm.nam_ok (Bm.num_ok ht h1) h2] at h; cases h
   ·have hl : (l.take 110).length = min 110 l.length := List.length_take
    exact ⟨2, frameS_short _ 100 a s ht' (by omega) (by omega), by omega⟩
  ·exact ⟨5, frameS_large _ 100 a s ht' (by omega), by omega⟩
 ·exact ⟨x, frameS_err _ 100 x (by rw [tk_take l 110 (by omega)]; exact ht) hx, by omega⟩
def Tn (g : Nat) (w w' : World) : Prop := w.grownBy w' (some g)
theorem Tn.of_below {g : Nat} {w w' : World} (h : Below w.heap.size w w') : Tn g w w' := ⟨h.os, h.tape, h.output, h.size, fun k hk _ => h.block k hk⟩
theorem Tn.trans {g : Nat} {a b c : World} (h : Tn g a b) (k : Tn g b c) : Tn g a c := World.grownBy.trans h k
theorem Tn.set {g i : Nat} {w w' : World} (h : Tn g w w') (u : Value) : Tn g w (w'.setCell ⟨g, i,none⟩ u) :=
 h.trans ⟨rfl, rfl, rfl, by simp, fun k _ hne => heap_setCell_other w' ⟨g, i,none⟩ k u (fun e => hne (by rw [e]))⟩
theorem Tn.drewN {g : Nat} {w w' : World} (h : Tn g w w') (n : Nat) : Tn g w (w'.drewN n) := ⟨h.os, h.tape, h.output, h.size, h.block⟩
theorem Tn.size {g : Nat} {w w' : World} (h : Tn g w w') : w.heap.size ≤ w'.heap.size := World.grownBy.size h
theorem Tn.below {g B : Nat} {w w' : World} (h : Tn g w w') (hB : B ≤ g) (hz : B ≤ w.heap.size) : Below B w w' := ⟨h.os, h.tape, h.output, h.size, fun k hk => h.block k (by omega) (by intro e; injection e with e; omega)⟩
theorem Tn.heap {g k : Nat} {w w' : World} (h : Tn g w w') (hk : k < w.heap.size) (hne : k ≠ g) : w'.heap[k]? = w.heap[k]? := h.block k hk (by intro e; injection e with e; exact hne e)
theorem Tn.cell {g : Nat} {w w' : World} (h : Tn g w w') (p : Addr) (hk : p.block < w.heap.size) (hne : p.block ≠ g) : w'.cell? p = w.cell? p := by
 have := h.heap hk hne
 unfold World.cell?
 rw [this]
theorem take_lit (A : Option Addr) (n c : Nat) (l : List UInt8) (w : World) (hr : Rb w w.heap.size A n c l) (hn : n ≤ 1000000) (a s : Nat) (h : Vm.tk l = (a, s, 0)) (r : List UInt8) (k : Nat) (hr2 : l.drop s = r) (hk : r.length = k) :
  Calls Tryz.prog 188 #[.slice A n c] w fun e w' => ∃ D d, e = .returned (.tuple #[.int .u64 (a : Int), .slice D k d, .int .i64 0]) ∧ Below w.heap.size w w' :=
 (take_c A n c l w hr hn).mono fun e w' hp => by
  rw [takeS_ok l a s h, hr2] at hp
  obtain ⟨D, d, he, _, hb⟩ := hp
  exact ⟨D, d, by rw [he, ← hk]; rfl, hb⟩
theorem take_no (A : Option Addr) (n c : Nat) (l : List UInt8) (w : World) (hr : Rb w w.heap.size A n c l) (hn : n ≤ 1000000) (x : Nat) (h : Vm.tk l = (0, 0, x)) (hx : x = 2 ∨ x = 3) :
  Calls Tryz.prog 188 #[.slice A n c] w fun e w' => ∃ D d, e = .returned (.tuple #[.int .u64 0, .slice D 0 d, .int .i64 (x : Int)]) ∧ Below w.heap.size w w' :=
 (take_c A n c l w hr hn).mono fun e w' hp => by
  rw [takeS_err l x h hx] at hp
  obtain ⟨D, d, he, _, hb⟩ := hp
  exact ⟨D, d, he, hb⟩
theorem takef_lit (A : Option Addr) (n c : Nat) (l : List UInt8) (w : World) (hr : Rb w w.heap.size A n c l) (hn : n ≤ 1000000) (t : List UInt8) (s : Nat) (h : frameS l 100 = (t, s, 0)) (r : List UInt8) (k : Nat) (hr2 : l.drop s = r) (hk : r.length = k) :
  Calls Tryz.prog 215 #[.slice A n c, .int .i64 100] w fun e w' => ∃ D d, e = .returned (.tuple #[.string ⟨t.toArray⟩, .slice D k d, .int .i64 0]) ∧ Below w.heap.size w w' :=
 (takeFrame_c A n c l 100 w hr hn (by unfold I64; omega)).mono fun e w' hp => by
  rw [tframeS_ok l 100 t s h, hr2] at hp
  obtain ⟨D, d, he, _, hb⟩ := hp
  exact ⟨D, d, by rw [he, ← hk]; rfl, hb⟩
theorem takef_no (A : Option Addr) (n c : Nat) (l : List UInt8) (w : World) (hr : Rb w w.heap.size A n c l) (hn : n ≤ 1000000) (x : Nat) (h : frameS l 100 = ([], 0, x)) (hx : x = 2 ∨ x = 3 ∨ x = 5) :
  Calls Tryz.prog 215 #[.slice A n c, .int .i64 100] w fun e w' => ∃ D d, e = .returned (.tuple #[.string ⟨#[]⟩, .slice D 0 d, .int .i64 (x : Int)]) ∧ Below w.heap.size w w' :=
 (takeFrame_c A n c l 100 w hr hn (by unfold I64; omega)).mono fun e w' hp => by
  rw [tframeS_err l 100 x h hx] at hp
  obtain ⟨D, d, he, _, hb⟩ := hp
  exact ⟨D, d, he, hb⟩
def RetRd (g : Nat) (A : Option Addr) (n c p : Nat) (fl : Bool) (w : World) (v : Value) (e : Ending) (w' : World) : Prop := e = .returned v ∧ Rd w' g A n c p fl ∧ Tn g w w'
theorem number_some (g : Nat) (A : Option Addr) (n c p B : Nat) (fl : Bool) (M : Int) (m : Nat) (l : List UInt8) (w : World) (hx : Rd w g A n c p fl) (hr : Rb w B A n c l) (hB : B ≤ g) (hn : n ≤ 1000000) (hp : p ≤ n) (hM : M = (m : Int)) (hm : m ≤ 1000000)
  (a s : Nat) (h : Bm.num m (l.drop p) = some (a, s)) :
  Calls Tryz.prog 152 #[.pointer (some ⟨g, 0,none⟩), .int .i64 M] w (RetRd g A n c (p + s) fl w (.int .i64 (a : Int))) := by
 subst hM
 have hlt := hx.lt
 obtain ⟨ht, ham⟩ := Bm.num_inv h
 obtain ⟨_, hs, _, hsl, hs10, ha64⟩ := Bm.num_only h
 have ht10 : Vm.tk ((l.drop p).take 10) = (a, s, 0) := by rw [tk_take _ 10 (by omega)]; exact ht
 have hsz := fun w => size_c a w ha64
 rw [← hs] at hsz
 have hnx := fun W (hW : Rd W g A n c p fl) (hR : Rb W B A n c l) => next_c g A n c p B fl 10 10 l W hW hR hn hp rfl (by omega)
 obtain ⟨r, hr2⟩ : ∃ r, ((l.drop p).take 10).drop s = r := ⟨_, rfl⟩
 obtain ⟨rk, hrk⟩ : ∃ rk, r.length = rk := ⟨_, rfl⟩
 have htk := fun D k W (hW : Rb W W.heap.size D k (c - p) ((l.drop p).take 10)) (hk : k ≤ 1000) => take_lit D k (c - p) _ W hW (by omega) a s ht10 r rk hr2 hrk
 have dm : decide ((m : Int) < (a : Int)) = false := by simp; omega
 have em : IntKind.u64.wrap (m : Int) = (m : Int) := by rw [IntKind.wrap_u64]; omega
 have hsl2 : p + s ≤ 1000000 := by rw [List.length_drop, hr.len] at hsl; omega
 have Hx := ek hx; have Hr := ek hr; have Hsz := ek hsz; have Hnx := ek hnx; have Htk := ek htk
 clear hx hr hsz hnx htk ht ht10 h hs hsl hr2 hrk
 go_enter Tryz.func152, Tryz.ntmps152
 go_wp2_with fail
 refine (Hnx.out w Hx.out Hr.out).mono ?_
 rintro e w1 ⟨⟨D, k, rfl, hrD, hk⟩, q, rfl⟩
 have hrD' := hrD.more (B' := w.heap.size) (by omega)
 have HrD := ek hrD'; clear hrD hrD'
 go_wp2_with fail
 refine (Htk.out D k (w.drewN q) (HrD.out.drewN q) hk).mono ?_
 rintro e w2 ⟨A2, c2, rfl, hb2⟩
 have hx2 : Rd w2 g A n c p fl := (Hx.out.drewN q).below hb2 hlt
 have t2 : Tn g w w2 := (Tn.of_below (g := g) (Below.refl _ w)).drewN q |>.trans (Tn.of_below hb2)
 have hx2' := hx2
 obtain ⟨c0, c1, c2', f0, f1, f2, hlt2⟩ := hx2'
 have Hx2 := ek hx2; have T2 := ek t2
 clear hx2 t2 HrD hb2
 go_wp2_with fail
 go_region_with (go_at_call 190; refine (Hsz.out _).mono ?_; rintro e w3 ⟨rfl,rfl⟩)
 all_goals
  go_wp2
  go_ret
  exact ⟨rfl, (Hx2.out.set1 _).drewN _, (T2.out.set _).drewN _⟩
theorem number_none (g : Nat) (A : Option Addr) (n c p B : Nat) (fl : Bool) (M : Int) (m : Nat) (l : List UInt8) (w : World) (hx : Rd w g A n c p fl) (hr : Rb w B A n c l) (hB : B ≤ g) (hn : n ≤ 1000000) (hp : p ≤ n) (hM : M = (m : Int)) (hm : m ≤ 1000000)
  (h : Bm.num m (l.drop p) = none) :
  Calls Tryz.prog 152 #[.pointer (some ⟨g, 0,none⟩), .int .i64 M] w (RetRd g A n c p true w (.int .i64 0)) := by
 subst hM
 have hlt := hx.lt
 have hnx := fun W (hW : Rd W g A n c p fl) (hR : Rb W B A n c l) => next_c g A n c p B fl 10 10 l W hW hR hn hp rfl (by omega)
 have em : IntKind.u64.wrap (m : Int) = (m : Int) := by rw [IntKind.wrap_u64]; omega
 rcases tk_cases (l.drop p) with ⟨a, s, ht, ha, hs, hs10⟩ | ⟨x, ht, hxx⟩
 ·have hbig : m < a := by
   rcases Nat.lt_or_ge m a with h' | h'
   ·exact h'
   ·rw [Bm.num_ok ht h'] at h; cases h
  have ht10 : Vm.tk ((l.drop p).take 10) = (a, s, 0) := by rw [tk_take _ 10 (by omega)]; exact ht
  obtain ⟨r, hr2⟩ : ∃ r, ((l.drop p).take 10).drop s = r := ⟨_, rfl⟩
  obtain ⟨rk, hrk⟩ : ∃ rk, r.length = rk := ⟨_, rfl⟩
  have htk := fun D k W (hW : Rb W W.heap.size D k (c - p) ((l.drop p).take 10)) (hk : k ≤ 1000) => take_lit D k (c - p) _ W hW (by omega) a s ht10 r rk hr2 hrk
  have dm : decide ((m : Int) < (a : Int)) = true := by simp; omega
  have Hx := ek hx; have Hr := ek hr; have Hnx := ek hnx; have Htk := ek htk
  clear hx hr hnx htk ht ht10 h hs hr2 hrk
  go_enter Tryz.func152, Tryz.ntmps152
  go_wp2_with fail
  refine (Hnx.out w Hx.out Hr.out).mono ?_
  rintro e w1 ⟨⟨D, k, rfl, hrD, hk⟩, q, rfl⟩
  have hrD' := hrD.more (B' := w.heap.size) (by omega)
  have HrD := ek hrD'; clear hrD hrD'
  go_wp2_with fail
  refine (Htk.out D k (w.drewN q) (HrD.out.drewN q) hk).mono ?_
  rintro e w2 ⟨A2, c2, rfl, hb2⟩
  have hx2 : Rd w2 g A n c p fl := (Hx.out.drewN q).below hb2 hlt
  have t2 : Tn g w w2 := (Tn.of_below (g := g) (Below.refl _ w)).drewN q |>.trans (Tn.of_below hb2)
  have hx2' := hx2
  obtain ⟨c0, c1, c2', f0, f1, f2, hlt2⟩ := hx2'
  have Hx2 := ek hx2; have T2 := ek t2
  clear hx2 t2 HrD hb2
  go_wp2
  go_ret
  exact ⟨rfl, Hx2.out.set2 _, T2.out.set _⟩
 ·have ht10 : Vm.tk ((l.drop p).take 10) = (0, 0, x) := by rw [tk_take _ 10 (by omega)]; exact ht
  have htk := fun D k W (hW : Rb W W.heap.size D k (c - p) ((l.drop p).take 10)) (hk : k ≤ 1000) => take_no D k (c - p) _ W hW (by omega) x ht10 hxx
  have hx0 : 0 < x := by omega
  have hx4 : x < 4 := by omega
  have Hx := ek hx; have Hr := ek hr; have Hnx := ek hnx; have Htk := ek htk
  clear hx hr hnx htk ht ht10 h hxx
  go_enter Tryz.func152, Tryz.ntmps152
  go_wp2_with fail
  refine (Hnx.out w Hx.out Hr.out).mono ?_
  rintro e w1 ⟨⟨D, k, rfl, hrD, hk⟩, q, rfl⟩
  have hrD' := hrD.more (B' := w.heap.size) (by omega)
  have HrD := ek hrD'; clear hrD hrD'
  go_wp2_with fail
  refine (Htk.out D k (w.drewN q) (HrD.out.drewN q) hk).mono ?_
  rintro e w2 ⟨A2, c2, rfl, hb2⟩
  have hx2 : Rd w2 g A n c p fl := (Hx.out.drewN q).below hb2 hlt
  have t2 : Tn g w w2 := (Tn.of_below (g := g) (Below.refl _ w)).drewN q |>.trans (Tn.of_below hb2)
  have hx2' := hx2
  obtain ⟨c0, c1, c2', f0, f1, f2, hlt2⟩ := hx2'
  have Hx2 := ek hx2; have T2 := ek t2
  clear hx2 t2 HrD hb2
  go_wp2
  go_ret
  exact ⟨rfl, Hx2.out.set2 _, T2.out.set _⟩
theorem name_some (g : Nat) (A : Option Addr) (n c p B : Nat) (fl : Bool) (l : List UInt8) (w : World) (hx : Rd w g A n c p fl) (hr : Rb w B A n c l) (hB : B ≤ g) (hn : n ≤ 1000000) (hp : p ≤ n)
  (a : List UInt8) (s : Nat) (h : Bm.nam (l.drop p) = some (a, s)) :
  Calls Tryz.prog 191 #[.pointer (some ⟨g, 0,none⟩)] w (RetRd g A n c (p + s) fl w (.string ⟨a.toArray⟩)) := by
 have hlt := hx.lt
 have hf := nam_some h
 obtain ⟨_, hs, hal, hsl⟩ := Bm.nam_only h
 obtain ⟨al, hall⟩ : ∃ al, a.length = al := ⟨_, rfl⟩
 rw [hall] at hs hal
 obtain ⟨vl, hvl⟩ : ∃ vl, (Vm.vb al).length = vl := ⟨_, rfl⟩
 have hsz := fun w => size_c al w (by omega)
 rw [hvl] at hsz hs
 have hnx := fun W (hW : Rd W g A n c p fl) (hR : Rb W B A n c l) => next_c g A n c p B fl 110 110 l W hW hR hn hp rfl (by omega)
 obtain ⟨r, hr2⟩ : ∃ r, ((l.drop p).take 110).drop s = r := ⟨_, rfl⟩
 obtain ⟨rk, hrk⟩ : ∃ rk, r.length = rk := ⟨_, rfl⟩
 have htk := fun D k W (hW : Rb W W.heap.size D k (c - p) ((l.drop p).take 110)) (hk : k ≤ 1000) => takef_lit D k (c - p) _ W hW (by omega) a s hf r rk hr2 hrk
 have hsl2 : p + s ≤ 1000000 := by rw [List.length_drop, hr.len] at hsl; omega
 have ew : IntKind.u64.wrap (a.length : Int) = (al : Int) := by rw [hall, IntKind.wrap_u64]; omega
 have e1 : (vl : Int) + (a.length : Int) = (s : Int) := by rw [hall]; omega
 have e2 : IntKind.i64.wrap ((vl : Int) + (a.length : Int)) = (s : Int) := by rw [e1]; exact IntWalk.i64_in _ (by omega)
 have e3 : IntKind.i64.wrap (s : Int) = (s : Int) := IntWalk.i64_in _ (by omega)
 have E4 : Hid (IntKind.i64.wrap ((p : Int) + (s : Int)) = ((p + s : Nat) : Int)) := ek (by rw [IntWalk.i64_in _ (by omega)]; omega)
 have Hx := ek hx; have Hr := ek hr; have Hsz := ek hsz; have Hnx := ek hnx; have Htk := ek htk
 clear hx hr hsz hnx htk hf h hs hsl hr2 hrk hall hvl
 go_enter Tryz.func191, Tryz.ntmps191
 go_wp2_with fail
 refine (Hnx.out w Hx.out Hr.out).mono ?_
 rintro e w1 ⟨⟨D, k, rfl, hrD, hk⟩, q, rfl⟩
 have hrD' := hrD.more (B' := w.heap.size) (by omega)
 have HrD := ek hrD'; clear hrD hrD'
 go_wp2_with fail
 refine (Htk.out D k (w.drewN q) (HrD.out.drewN q) hk).mono ?_
 rintro e w2 ⟨A2, c2, rfl, hb2⟩
 have hx2 : Rd w2 g A n c p fl := (Hx.out.drewN q).below hb2 hlt
 have t2 : Tn g w w2 := (Tn.of_below (g := g) (Below.refl _ w)).drewN q |>.trans (Tn.of_below hb2)
 have hx2' := hx2
 obtain ⟨c0, c1, c2', f0, f1, f2, hlt2⟩ := hx2'
 have Hx2 := ek hx2; have T2 := ek t2
 clear hx2 t2 HrD hb2
 go_wp2_with fail
 go_region_with (go_at_call 190; refine (Hsz.out _).mono ?_; rintro e w3 ⟨rfl,rfl⟩)
 all_goals
  go_wp2
  go_ret
  rw [E4.out]
  exact ⟨rfl, (Hx2.out.set1 _).drewN _, (T2.out.set _).drewN _⟩
theorem name_none (g : Nat) (A : Option Addr) (n c p B : Nat) (fl : Bool) (l : List UInt8) (w : World) (hx : Rd w g A n c p fl) (hr : Rb w B A n c l) (hB : B ≤ g) (hn : n ≤ 1000000) (hp : p ≤ n)
  (h : Bm.nam (l.drop p) = none) :
  Calls Tryz.prog 191 #[.pointer (some ⟨g, 0,none⟩)] w (RetRd g A n c p true w (.string ⟨#[]⟩)) := by
 have hlt := hx.lt
 obtain ⟨x, hf, hxx⟩ := nam_no h
 have hnx := fun W (hW : Rd W g A n c p fl) (hR : Rb W B A n c l) => next_c g A n c p B fl 110 110 l W hW hR hn hp rfl (by omega)
 have htk := fun D k W (hW : Rb W W.heap.size D k (c - p) ((l.drop p).take 110)) (hk : k ≤ 1000) => takef_no D k (c - p) _ W hW (by omega) x hf hxx
 have hx0 : 0 < x := by omega
 have hx4 : x < 6 := by omega
 have Hx := ek hx; have Hr := ek hr; have Hnx := ek hnx; have Htk := ek htk
 clear hx hr hnx htk hf h hxx
 go_enter Tryz.func191, Tryz.ntmps191
 go_wp2_with fail
 refine (Hnx.out w Hx.out Hr.out).mono ?_
 rintro e w1 ⟨⟨D, k, rfl, hrD, hk⟩, q, rfl⟩
 have hrD' := hrD.more (B' := w.heap.size) (by omega)
 have HrD := ek hrD'; clear hrD hrD'
 go_wp2_with fail
 refine (Htk.out D k (w.drewN q) (HrD.out.drewN q) hk).mono ?_
 rintro e w2 ⟨A2, c2, rfl, hb2⟩
 have hx2 : Rd w2 g A n c p fl := (Hx.out.drewN q).below hb2 hlt
 have t2 : Tn g w w2 := (Tn.of_below (g := g) (Below.refl _ w)).drewN q |>.trans (Tn.of_below hb2)
 have hx2' := hx2
 obtain ⟨c0, c1, c2', f0, f1, f2, hlt2⟩ := hx2'
 have Hx2 := ek hx2; have T2 := ek t2
 clear hx2 t2 HrD hb2
 go_wp2
 go_ret
 exact ⟨rfl, Hx2.out.set2 _, T2.out.set _⟩
structure Box2 (w : World) (g : Nat) (v0 v1 : Value) : Prop where
 c0 : w.cell? ⟨g, 0,none⟩ = some v0
 c1 : w.cell? ⟨g, 1,none⟩ = some v1
 f0 : w.frozen? ⟨g, 0,none⟩ = false
 f1 : w.frozen? ⟨g, 1,none⟩ = false
 lt : g < w.heap.size
structure Box4 (w : World) (g : Nat) (v0 v1 v2 v3 : Value) : Prop where
 c0 : w.cell? ⟨g, 0,none⟩ = some v0
 c1 : w.cell? ⟨g, 1,none⟩ = some v1
 c2 : w.cell? ⟨g, 2,none⟩ = some v2
 c3 : w.cell? ⟨g, 3,none⟩ = some v3
 f0 : w.frozen? ⟨g, 0,none⟩ = false
 f1 : w.frozen? ⟨g, 1,none⟩ = false
 f2 : w.frozen? ⟨g, 2,none⟩ = false
 f3 : w.frozen? ⟨g, 3,none⟩ = false
 lt : g < w.heap.size
theorem cell_eq {w w' : World} {g : Nat} (h : w'.heap[g]? = w.heap[g]?) (k : Nat) : w'.cell? ⟨g, k,none⟩ = w.cell? ⟨g, k,none⟩ := by unfold World.cell?; rw [h]
theorem frozen_eq {w w' : World} {g : Nat} (h : w'.heap[g]? = w.heap[g]?) (k : Nat) : w'.frozen? ⟨g, k,none⟩ = w.frozen? ⟨g, k,none⟩ := by unfold World.frozen?; rw [h]
section
variable {w w' : World} {g k B : Nat} {v0 v1 v2 v3 : Value}
theorem Box2.made (w : World) (T : TypeId) (v0 v1 : Value) : Box2 (w.alloc (.cells #[v0, v1] T)) w.heap.size v0 v1 := ⟨by simp, by simp, by simp, by simp, by simp⟩
theorem Box4.made (w : World) (T : TypeId) (v0 v1 v2 v3 : Value) : Box4 (w.alloc (.cells #[v0, v1, v2, v3] T)) w.heap.size v0 v1 v2 v3 := ⟨by simp, by simp, by simp, by simp, by simp, by simp, by simp, by simp, by simp⟩
theorem Box2.keep (h : Box2 w g v0 v1) (hs : w.heap.size ≤ w'.heap.size) (hg : w'.heap[g]? = w.heap[g]?) : Box2 w' g v0 v1 :=
 ⟨(cell_eq hg 0).trans h.c0, (cell_eq hg 1).trans h.c1, (frozen_eq hg 0).trans h.f0, (frozen_eq hg 1).trans h.f1, Nat.lt_of_lt_of_le h.lt hs⟩
theorem Box4.keep (h : Box4 w g v0 v1 v2 v3) (hs : w.heap.size ≤ w'.heap.size) (hg : w'.heap[g]? = w.heap[g]?) : Box4 w' g v0 v1 v2 v3 :=
 ⟨(cell_eq hg 0).trans h.c0, (cell_eq hg 1).trans h.c1, (cell_eq hg 2).trans h.c2, (cell_eq hg 3).trans h.c3, (frozen_eq hg 0).trans h.f0, (frozen_eq hg 1).trans h.f1, (frozen_eq hg 2).trans h.f2, (frozen_eq hg 3).trans h.f3, Nat.lt_of_lt_of_le h.lt hs⟩
theorem Box2.below (h : Box2 w g v0 v1) (hb : Below B w w') (hg : g < B) : Box2 w' g v0 v1 := h.keep hb.size (hb.block g hg)
theorem Box4.below (h : Box4 w g v0 v1 v2 v3) (hb : Below B w w') (hg : g < B) : Box4 w' g v0 v1 v2 v3 := h.keep hb.size (hb.block g hg)
theorem Box2.tn (h : Box2 w g v0 v1) (ht : Tn k w w') (hg : g ≠ k) : Box2 w' g v0 v1 := h.keep ht.size (ht.heap h.lt hg)
theorem Box3.tn (h : Box3 w g v0 v1 v2) (ht : Tn k w w') (hg : g ≠ k) : Box3 w' g v0 v1 v2 := h.keep ht.size (ht.heap h.lt hg)
theorem Box4.tn (h : Box4 w g v0 v1 v2 v3) (ht : Tn k w w') (hg : g ≠ k) : Box4 w' g v0 v1 v2 v3 := h.keep ht.size (ht.heap h.lt hg)
theorem Box2.set0 (h : Box2 w g v0 v1) (v : Value) : Box2 (w.setCell ⟨g, 0,none⟩ v) g v v1 := by
 have f : ∀ j, (w.setCell ⟨g, 0,none⟩ v).frozen? ⟨g, j,none⟩ = w.frozen? ⟨g, j,none⟩ := fun j => by simp
 exact ⟨World.cell?_setCell_same w _ _ h.c0, (World.cell?_setCell_other w _ _ _ (by simp)).trans h.c1, (f 0).trans h.f0, (f 1).trans h.f1, by simp; exact h.lt⟩
theorem Box2.set1 (h : Box2 w g v0 v1) (v : Value) : Box2 (w.setCell ⟨g, 1,none⟩ v) g v0 v := by
 have f : ∀ j, (w.setCell ⟨g, 1,none⟩ v).frozen? ⟨g, j,none⟩ = w.frozen? ⟨g, j,none⟩ := fun j => by simp
 exact ⟨(World.cell?_setCell_other w _ _ _ (by simp)).trans h.c0, World.cell?_setCell_same w _ _ h.c1, (f 0).trans h.f0, (f 1).trans h.f1, by simp; exact h.lt⟩
theorem Box4.set1 (h : Box4 w g v0 v1 v2 v3) (v : Value) : Box4 (w.setCell ⟨g, 1,none⟩ v) g v0 v v2 v3 := by
 have o : ∀ j, j ≠ 1 → (w.setCell ⟨g, 1,none⟩ v).cell? ⟨g, j,none⟩ = w.cell? ⟨g, j,none⟩ := fun j hj => World.cell?_setCell_other w _ _ _ (by simp)
 have f : ∀ j, (w.setCell ⟨g, 1,none⟩ v).frozen? ⟨g, j,none⟩ = w.frozen? ⟨g, j,none⟩ := fun j => by simp
 exact ⟨(o 0 (by omega)).trans h.c0, World.cell?_setCell_same w _ _ h.c1, (o 2 (by omega)).trans h.c2, (o 3 (by omega)).trans h.c3, (f 0).trans h.f0, (f 1).trans h.f1, (f 2).trans h.f2, (f 3).trans h.f3, by simp; exact h.lt⟩
theorem Box4.set2 (h : Box4 w g v0 v1 v2 v3) (v : Value) : Box4 (w.setCell ⟨g, 2,none⟩ v) g v0 v1 v v3 := by
 have o : ∀ j, j ≠ 2 → (w.setCell ⟨g, 2,none⟩ v).cell? ⟨g, j,none⟩ = w.cell? ⟨g, j,none⟩ := fun j hj => World.cell?_setCell_other w _ _ _ (by simp)
 have f : ∀ j, (w.setCell ⟨g, 2,none⟩ v).frozen? ⟨g, j,none⟩ = w.frozen? ⟨g, j,none⟩ := fun j => by simp
 exact ⟨(o 0 (by omega)).trans h.c0, (o 1 (by omega)).trans h.c1, World.cell?_setCell_same w _ _ h.c2, (o 3 (by omega)).trans h.c3, (f 0).trans h.f0, (f 1).trans h.f1, (f 2).trans h.f2, (f 3).trans h.f3, by simp; exact h.lt⟩
end
theorem put2_at (w : World) (g : Nat) (v0 v1 : Value) : Below g w ((w.setCell ⟨g, 0,none⟩ v0).setCell ⟨g, 1,none⟩ v1) := ((Below.refl g w).setCell (Nat.le_refl _) _).setCell (Nat.le_refl _) _
theorem tn_put2 (w : World) (g : Nat) (v0 v1 : Value) : Tn g w ((w.setCell ⟨g, 0,none⟩ v0).setCell ⟨g, 1,none⟩ v1) := ((Tn.of_below (Below.refl _ w)).set v0).set v1
def fvs : List Bm.F → List Value
 | [] => []
 | f :: D => .int .i64 (f.at_ : Int) :: .string ⟨f.nm.toArray⟩ :: .int .i64 (f.sz : Int) :: .int .i64 (f.st : Int) :: fvs D
theorem fvs_len : ∀ D : List Bm.F, (fvs D).length = D.length * 4
 | [] => rfl
 | f :: D => by simp only [fvs, List.length_cons, fvs_len D]; omega
theorem fvs_app : ∀ D E : List Bm.F, fvs (D ++ E) = fvs D ++ fvs E
 | [], _ => rfl
 | f :: D, E => by simp only [List.cons_append, fvs, fvs_app D E]
theorem fvs_get : ∀ (D : List Bm.F) (i : Nat) (f : Bm.F), D[i]? = some f → (fvs D)[i * 4]? = some (.int .i64 (f.at_ : Int)) ∧ (fvs D)[i * 4 + 1]? = some (.string ⟨f.nm.toArray⟩) ∧ (fvs D)[i * 4 + 2]? = some (.int .i64 (f.sz : Int)) ∧ (fvs D)[i * 4 + 3]? = some (.int .i64 (f.st : Int))
 | [], i, f, h => by simp at h
 | g :: D, i, f, h => by
  cases i with
  | zero => simp at h; subst h; exact ⟨rfl, rfl, rfl, rfl⟩
  | succ i =>
   obtain ⟨a, b, c, d⟩ := fvs_get D i f (by simpa using h)
   have e : ∀ j, (fvs (g :: D))[(i + 1) * 4 + j]? = (fvs D)[i * 4 + j]? := fun j => by
    rw [show (i + 1) * 4 + j = (i * 4 + j) + 1 + 1 + 1 + 1 by omega]; simp only [fvs, List.getElem?_cons_succ]
   exact ⟨(e 0).trans a, (e 1).trans b, (e 2).trans c, (e 3).trans d⟩
theorem fty : Sl Tryz.prog 154 161 (.agg #[.int .i64 0, .string ⟨#[]⟩, .int .i64 0, .int .i64 0]) 4 40 := ⟨Tryz.underlying154, by kernel_rfl, rfl, by omega⟩
def Rf (w : World) (B : Nat) (A : Option Addr) (n c : Nat) (D : List Bm.F) : Prop := Rc 4 w B A n c (fvs D)
theorem Rf.len {w : World} {B : Nat} {A : Option Addr} {n c : Nat} {D : List Bm.F} (h : Rf w B A n c D) : D.length = n := by
 have := h.1
 rw [fvs_len] at this
 omega
theorem Rf.below {w w' : World} {B : Nat} {A : Option Addr} {n c : Nat} {D : List Bm.F} (h : Rf w B A n c D) (hb : Below B w w') : Rf w' B A n c D := Rc.below h hb
theorem Rf.more {w : World} {B B' : Nat} {A : Option Addr} {n c : Nat} {D : List Bm.F} (h : Rf w B A n c D) (hB : B ≤ B') : Rf w B' A n c D := Rc.more h hB
theorem Rf.at_ {w : World} {B : Nat} {A : Option Addr} {n c k : Nat} {D : List Bm.F} (h : Rf w B A n c D) (hk : k < n) :
  ∃ b off f, A = some ⟨b, off,none⟩ ∧ b < B ∧ D[k]? = some f ∧ w.cell? ⟨b, off + k * 4,none⟩ = some (.int .i64 (f.at_ : Int)) ∧ w.cell? ⟨b, off + k * 4 + 1,none⟩ = some (.string ⟨f.nm.toArray⟩) ∧ w.cell? ⟨b, off + k * 4 + 2,none⟩ = some (.int .i64 (f.sz : Int)) ∧ w.cell? ⟨b, off + k * 4 + 3,none⟩ = some (.int .i64 (f.st : Int)) := by
 have hl := h.len
 obtain ⟨h1, h2, h3, h4⟩ := h
 obtain ⟨b, off, rfl, hb, hc⟩ := h4 (by omega)
 have hkl : k < D.length := by omega
 obtain ⟨a0, a1, a2, a3⟩ := fvs_get D k D[k] (List.getElem?_eq_getElem hkl)
 exact ⟨b, off, D[k], rfl, hb, List.getElem?_eq_getElem hkl, hc _ _ a0, by rw [Nat.add_assoc]; exact hc _ _ a1, by rw [Nat.add_assoc]; exact hc _ _ a2, by rw [Nat.add_assoc]; exact hc _ _ a3⟩
theorem _root_.Go.Proofs.YtkekmokdlgocaaaGreatDoor.Oc.tn {z k : Nat} {w w' : World} {e : TypeId} {base n c : Nat} {A : Option Addr} {vs : List Value} (h : Oc z w e base A n c vs) (ht : Tn k w w') (hk : k < base ∨ ∀ g, ob A = some g → g ≠ k) : Oc z w' e base A n c vs :=
 h.other fun g hA => by
  have hg := oc_ob h g (by rw [hA]; rfl)
  refine ht.heap hg.2 ?_
  rcases hk with hk | hk
  ·omega
  ·exact hk g (by rw [hA]; rfl)
theorem _root_.Go.Proofs.YtkekmokdlgocaaaGreatDoor.Grows.keepH {w w' : World} {A A' : Option Addr} (h : Grows w w' A A') {g : Nat} (hg : g < w.heap.size) (hne : some g ≠ ob A) : w'.heap[g]? = w.heap[g]? := h.1.block g hg hne
theorem oc_low {z : Nat} {w : World} {e : TypeId} {base n c g : Nat} {A : Option Addr} {vs : List Value} (h : Oc z w e base A n c vs) (hg : g < base) : some g ≠ ob A := fun q => by
 have := (oc_ob h g q.symm).1
 omega
theorem _root_.Go.Proofs.YtkekmokdlgocaaaGreatDoor.RcS.rf {w : World} {base n c : Nat} {A : Option Addr} {D : List Bm.F} (h : RcS 4 w (Fr base w) A n c (fvs D)) : Rf w w.heap.size A n c D := (h.keep (stays_weak fr_lt)).rc
def dv (A : Option Addr) (n c e : Nat) : Value := .agg #[.slice A n c, .int .i64 (e : Int)]
def RetDir (w : World) (t : Option (List Bm.F × Nat)) (e : Ending) (w' : World) : Prop :=
 Below w.heap.size w w' ∧ match t with
 | some (D, en) => ∃ A c, e = .returned (.tuple #[dv A D.length c en, .bool true]) ∧ RcS 4 w' (Fr w.heap.size w') A D.length c (fvs D)
 | none => e = .returned (.tuple #[dv none 0 0 0, .bool false])
def Ti (AT s st m : Nat) (b : List UInt8) (k p e : Nat) (D : List Bm.F) (N : List UInt8) : Prop := Bm.rdE m AT s st [] b = (Bm.rdE (m - k) AT p e N b).map (fun y => (D ++ y.1, y.2))
section
variable {AT s st m k p e : Nat} {b : List UInt8} {D : List Bm.F} {N : List UInt8}
theorem Ti.start : Ti AT s st m b 0 s st [] [] := by
 unfold Ti
 rw [Nat.sub_zero]
 cases Bm.rdE m AT s st [] b with
 | none => rfl
 | some y => simp
theorem Ti.step {a : List UInt8} {s1 z s2 : Nat} (h : Ti AT s st m b k p e D N) (hk : k < m) (h1 : Bm.nam (b.drop p) = some (a, s1)) (h2 : Bm.num 1000 (b.drop (p + s1)) = some (z, s2)) (h3 : Op.bytesLess N a = true) :
  Ti AT s st m b (k + 1) (p + s1 + s2) (e + z + 4) (D ++ [⟨AT + p, a, z, e⟩]) a := by
 unfold Ti at h ⊢
 obtain ⟨j, hj⟩ : ∃ j, m - k = j + 1 := ⟨m - k - 1, by omega⟩
 rw [h, hj, Bm.rdE_step h1 h2 h3, show m - (k + 1) = j by omega, Option.map_map]
 cases Bm.rdE j AT (p + s1 + s2) (e + z + 4) a b with
 | none => rfl
 | some y => simp
theorem Ti.bad (h : Ti AT s st m b k p e D N) (hk : k < m) (hb : ∀ j, Bm.rdE (j + 1) AT p e N b = none) : Bm.rdE m AT s st [] b = none := by
 unfold Ti at h
 obtain ⟨j, hj⟩ : ∃ j, m - k = j + 1 := ⟨m - k - 1, by omega⟩
 rw [h, hj, hb]
 rfl
theorem Ti.end_ (h : Ti AT s st m b k p e D N) (hk : k = m) : Bm.rdE m AT s st [] b = some (D, p, e) := by
 unfold Ti at h
 rw [h, hk, Nat.sub_self]
 simp [Bm.rdE]
end
def BadAt (l : List UInt8) (p : Nat) (fl : Bool) : Prop := fl = true ∨ Bm.num 1000 (l.drop p) = none
theorem name_bad (g : Nat) (A : Option Addr) (n c p B : Nat) (l : List UInt8) (w : World) (hx : Rd w g A n c p false) (hr : Rb w B A n c l) (hB : B ≤ g) (hn : n ≤ 1000000) (hp : p ≤ n)
  (h : Bm.nam (l.drop p) = none ∨ ∃ a s, Bm.nam (l.drop p) = some (a, s) ∧ Bm.num 1000 (l.drop (p + s)) = none) :
  Calls Tryz.prog 191 #[.pointer (some ⟨g, 0,none⟩)] w fun e w' => ∃ (v : ByteArray) (p' : Nat) (fl : Bool), e = .returned (.string v) ∧ Rd w' g A n c p' fl ∧ p' ≤ n ∧ BadAt l p' fl ∧ Tn g w w' := by
 rcases h with h | ⟨a, s, h, h2⟩
 ·exact (name_none g A n c p B false l w hx hr hB hn hp h).mono fun e w' ⟨h1, h2, h3⟩ => ⟨_, p, true, h1, h2, hp, .inl rfl, h3⟩
 ·have hs := (Bm.nam_only h).2.2.2
  rw [List.length_drop, hr.len] at hs
  exact (name_some g A n c p B false l w hx hr hB hn hp a s h).mono fun e w' ⟨h1, h3, h4⟩ => ⟨_, p + s, false, h1, h3, by omega, .inr h2, h4⟩
theorem number_bad (g : Nat) (A : Option Addr) (n c p B : Nat) (fl : Bool) (l : List UInt8) (w : World) (hx : Rd w g A n c p fl) (hr : Rb w B A n c l) (hB : B ≤ g) (hn : n ≤ 1000000) (hp : p ≤ n) (h : BadAt l p fl) :
  Calls Tryz.prog 152 #[.pointer (some ⟨g, 0,none⟩), .int .i64 1000] w fun e w' => ∃ v p' : Nat, e = .returned (.int .i64 (v : Int)) ∧ Rd w' g A n c p' true ∧ Tn g w w' := by
 rcases h1 : Bm.num 1000 (l.drop p) with _ | ⟨a, s⟩
 ·exact (number_none g A n c p B fl 1000 1000 l w hx hr hB hn hp rfl (by omega) h1).mono fun e w' ⟨h1, h2, h3⟩ => ⟨0, p, h1, h2, h3⟩
 ·rcases h with rfl | h
  ·exact (number_some g A n c p B true 1000 1000 l w hx hr hB hn hp rfl (by omega) a s h1).mono fun e w' ⟨h1, h2, h3⟩ => ⟨a, p + s, h1, h2, h3⟩
  ·rw [h] at h1; cases h1
def TeRel (base : Nat) (w : World) (A : Option Addr) (n c AT s st m : Nat) (l : List UInt8) (o i : Value) (wr : World) : Prop :=
 ∃ N D F d, ∃ k p e : Nat, o = .string ⟨N.toArray⟩ ∧ i = .int .i64 (k : Int) ∧ k ≤ m ∧ p ≤ n ∧ e ≤ st + k * 1004 ∧ Rd wr (base + 1) A n c p false ∧ Box2 wr (base + 1 + 1) (.slice F k d) (.int .i64 (e : Int)) ∧ Box2 wr base (.slice none 0 0) (.int .i64 0) ∧
  Oc 4 wr 161 (base + 3) F k d (fvs D) ∧ Ti AT s st m l k p e D N ∧ Below base w wr ∧ base + 3 ≤ wr.heap.size
theorem takeEntries_c (A : Option Addr) (n c B AT st : Nat) (l : List UInt8) (w : World) (hr : Rb w B A n c l) (hB : B ≤ w.heap.size) (hn : n ≤ 100000) (hAT : AT ≤ 100000) (hst : st ≤ 100000) :
  Calls Tryz.prog 153 #[.slice A n c, .int .i64 (AT : Int), .int .i64 (st : Int)] w (RetDir w (Bm.takeE AT st l)) := by
 have hl := hr.len
 obtain ⟨base, hbase⟩ : ∃ base, base = w.heap.size := ⟨_, rfl⟩
 obtain ⟨w3, hw3⟩ : ∃ w3, w3 = ((w.alloc (.cells #[.slice none 0 0, .int .i64 0] 156)).alloc (.cells #[.slice A n c, .int .i64 0, .bool false] 189)).alloc (.cells #[.slice none 0 0, .int .i64 (st : Int)] 156) := ⟨_, rfl⟩
 have z3 : w3.heap.size = base + 3 := by rw [hw3, hbase]; simp
 have b3 : Below base w w3 := by
  rw [hw3, hbase]
  exact ((ej _ _).alloc (by simp) _).alloc (by simp; omega) _
 have x0 : Box2 w3 base (.slice none 0 0) (.int .i64 0) := by
  have h1 := Box2.made w 156 (.slice none 0 0) (.int .i64 0)
  rw [← hbase] at h1
  rw [hw3]
  refine (h1.below (w' := (w.alloc (.cells #[.slice none 0 0, .int .i64 0] 156)).alloc (.cells #[.slice A n c, .int .i64 0, .bool false] 189)) (B := base + 1) ((Below.refl _ _).alloc (by simp [hbase]) _) (by omega)).below (B := base + 1) ((Below.refl _ _).alloc (by simp [hbase]) _) (by omega)
 have x1 : Rd w3 (base + 1) A n c 0 false := by
  have h1 := Box3.made (w.alloc (.cells #[.slice none 0 0, .int .i64 0] 156)) 189 (.slice A n c) (.int .i64 0) (.bool false)
  have e1 : (w.alloc (.cells #[.slice none 0 0, .int .i64 0] 156)).heap.size = base + 1 := by rw [hbase]; simp
  rw [e1] at h1
  rw [hw3]
  exact h1.below (B := base + 2) ((Below.refl _ _).alloc (by simp [hbase]) _) (by omega)
 have x2 : Box2 w3 (base + 2) (.slice none 0 0) (.int .i64 (st : Int)) := by
  have h1 := Box2.made ((w.alloc (.cells #[.slice none 0 0, .int .i64 0] 156)).alloc (.cells #[.slice A n c, .int .i64 0, .bool false] 189)) 156 (.slice none 0 0) (.int .i64 (st : Int))
  have e1 : ((w.alloc (.cells #[.slice none 0 0, .int .i64 0] 156)).alloc (.cells #[.slice A n c, .int .i64 0, .bool false] 189)).heap.size = base + 2 := by rw [hbase]; simp
  rw [e1] at h1
  rw [hw3]
  exact h1
 have hrB : B ≤ base := by omega
 have Hr := ek hr; have Hl := ek hl; have W3 := ek hw3; have Hbase := ek hbase
 clear hr hl hw3 hbase hB
 rcases h1 : Bm.num 1000 l with _ | ⟨m, s⟩
 ·rw [Bm.takeE_nonum h1]
  have h1' : Bm.num 1000 (l.drop 0) = none := h1
  have hc := number_none (base + 1) A n c 0 B false 1000 1000 l w3 x1 (Hr.out.below (b3.mono hrB)) (by omega) (by omega) (Nat.zero_le _) rfl (by omega) h1'
  have Hc := ek hc
  clear hc h1 h1'
  go_enter Tryz.func153, Tryz.ntmps153
  go_wp2_with fail
  rw [← Hbase.out, ← W3.out]
  refine Hc.out.mono ?_
  rintro e w4 ⟨rfl, hx4, t4⟩
  have x04 := x0.tn t4 (by omega)
  have b4 := b3.trans (t4.below (B := base) (by omega) (by omega))
  have X4 := ek hx4
  obtain ⟨c0, c1, c2, f0, f1, f2, hlt⟩ := hx4
  obtain ⟨y0, y1, g0, g1, hlt0⟩ := x04
  clear x0 x1 x2 t4
  go_wp2
  go_loopw [10, 17] (fun o i wr => o = .string ⟨#[]⟩ ∧ i = .int .i64 0 ∧ wr = w4) (fun _ _ _ => 0)
  case atStart => exact ⟨rfl, rfl, rfl⟩
  case round =>
   obtain ⟨rfl, rfl, rfl⟩ := hrel
   go_wp2
   refine bodyPost_ret (v := .tuple #[dv none 0 0 0, .bool false]) ?_ rfl ⟨?_, rfl⟩
   ·simp [results, Tryz.results153, go_sem, dv, y0, y1]
   ·rw [← Hbase.out]; exact b4.trans (put2_at _ _ _ _)
 ·obtain ⟨-, -, hm, hsl, -, -⟩ := Bm.num_only h1
  have hsn : s ≤ n := by have := Hl.out; omega
  have h1' : Bm.num 1000 (l.drop 0) = some (m, s) := h1
  have hc := number_some (base + 1) A n c 0 B false 1000 1000 l w3 x1 (Hr.out.below (b3.mono hrB)) (by omega) (by omega) (Nat.zero_le _) rfl (by omega) m s h1'
  rw [Nat.zero_add] at hc
  have Hc := ek hc; have H1 := ek h1
  clear hc h1 h1' hsl
  go_enter Tryz.func153, Tryz.ntmps153
  go_wp2_with fail
  rw [← Hbase.out, ← W3.out]
  refine Hc.out.mono ?_
  rintro e w4 ⟨rfl, hx4, t4⟩
  have x04 := x0.tn t4 (by omega)
  have x24 := x2.tn t4 (by omega)
  have b4 := b3.trans (t4.below (B := base) (by omega) (by omega))
  have z4 := t4.size
  rw [z3] at z4
  have X4 := ek hx4; have X04 := ek x04; have X24 := ek x24
  clear x0 x1 x2 t4 hx4 x04 x24
  go_wp2
  go_loopw [10, 17] (fun o i wr => TeRel base w A n c AT s st m l o i wr) (fun _ i _ => m - (intOf i).toNat)
  case atStart => exact ⟨[], [], none, 0, 0, s, st, rfl, rfl, Nat.zero_le _, hsn, by omega, X4.out, X24.out, X04.out, Oc.nil _ _ _ _, Ti.start, b4, z4⟩
  case round =>
   obtain ⟨N, D, F, d, k, p, en, rfl, rfl, hk, hp, hen, hx, h2, h0, hrow, hti, hbel, hz⟩ := hrel
   have hen2 : en ≤ 2000000 := by
    have : k * 1004 ≤ 1000 * 1004 := Nat.mul_le_mul_right _ (by omega)
    omega
   by_cases hlt : k < m
   ·obtain ⟨q, hq⟩ : ∃ q, AT + p = q := ⟨_, rfl⟩
    have eq1 : (AT : Int) + (p : Int) = (q : Int) := by omega
    have hq2 : q ≤ 300000 := by omega
    have Hq := ek hq
    obtain ⟨gf, hgf⟩ : ∃ gf, gf = wr.heap.size := ⟨_, rfl⟩
    obtain ⟨w5, hw5⟩ : ∃ w5, w5 = wr.alloc (.cells #[.int .i64 (q : Int), .string ⟨#[]⟩, .int .i64 0, .int .i64 (en : Int)] 161) := ⟨_, rfl⟩
    have b5 : Below wr.heap.size wr w5 := by rw [hw5]; exact ej _ _
    have z5 : w5.heap.size = gf + 1 := by rw [hw5, hgf]; simp
    have bf5 : Box4 w5 gf (.int .i64 (q : Int)) (.string ⟨#[]⟩) (.int .i64 0) (.int .i64 (en : Int)) := by rw [hw5, hgf]; exact Box4.made _ _ _ _ _ _
    have x5 : Rd w5 (base + 1) A n c p false := hx.below b5 (by omega)
    have h25 := h2.below b5 (by omega)
    have h05 := h0.below b5 (by omega)
    have row5 := hrow.keep b5
    have bw5 := hbel.trans (b5.mono (by omega))
    have hgz : base + 3 ≤ gf := by omega
    have rb5 := Hr.out.below (bw5.mono hrB)
    have hFg : ∀ g, ob F = some g → g < gf := fun g hg => by rw [hgf]; exact (oc_ob hrow g hg).2
    obtain ⟨c0, c1, c2, f0, f1, f2, hlt1⟩ := hx
    obtain ⟨u0, u1, -, -, -⟩ := h2
    have W5 := ek hw5; have Hgf := ek hgf; have H05 := ek h05; have HFg := ek hFg; have Row5 := ek row5; have H25 := ek h25; have Bf5 := ek bf5
    clear hw5 hgf h0 h05 hFg hq hrow row5 b5 h25 bf5
    by_cases hbad : Bm.nam (l.drop p) = none ∨ ∃ a s, Bm.nam (l.drop p) = some (a, s) ∧ Bm.num 1000 (l.drop (p + s)) = none
    ·have hno := hti.bad hlt fun j => by
      rcases hbad with h | ⟨a, s1, h, h2⟩
      ·exact Bm.rdE_nonam h
      ·exact Bm.rdE_nonum h h2
     have HT := ek (Bm.takeE_none (AT := AT) (st := st) H1.out hno)
     have Hc1 := ek (name_bad (base + 1) A n c p B l w5 x5 rb5 (by omega) (by omega) hp hbad)
     clear hno hti hbad
     go_wp2_with fail
     rw [← Hgf.out, ← W5.out]
     refine Hc1.out.mono ?_
     rintro e w6 ⟨v6, p6, fl6, rfl, x6, hp6, bad6, t6⟩
     have bf6 := Bf5.out.tn t6 (by omega)
     have h06 := H05.out.tn t6 (by omega)
     have bw6 := bw5.trans (t6.below (B := base) (by omega) (by omega))
     have z6 := t6.size
     obtain ⟨w7, hw7⟩ : ∃ w7, w7 = w6.setCell ⟨gf, 1,none⟩ (.string v6) := ⟨_, rfl⟩
     have t67 : Tn gf w6 w7 := by rw [hw7]; exact (Tn.of_below (Below.refl _ _)).set _
     have bf7 := bf6.set1 (.string v6)
     rw [← hw7] at bf7
     have x7 : Rd w7 (base + 1) A n c p6 fl6 := x6.tn t67 (by omega)
     have h07 := h06.tn t67 (by omega)
     have bw7 := bw6.trans (t67.below (B := base) (by omega) (by omega))
     have z7 := t67.size
     have rb7 := Hr.out.below (bw7.mono hrB)
     have Hc2 := ek (number_bad (base + 1) A n c p6 B fl6 l w7 x7 rb7 (by omega) (by omega) hp6 bad6)
     have Hw7 := ek hw7
     obtain ⟨d0, d1, d2, d3, k0, k1, k2, k3, hltf⟩ := bf6
     have Bf7 := ek bf7
     clear hw7 x7 x6 bad6 bf7 t6
     go_wp2_with fail
     rw [← Hw7.out]
     refine Hc2.out.mono ?_
     rintro e w8 ⟨v8, p8, rfl, x8, t8⟩
     have bf8 := Bf7.out.tn t8 (by omega)
     have h08 := h07.tn t8 (by omega)
     have bw8 := bw7.trans (t8.below (B := base) (by omega) (by omega))
     have z8 := t8.size
     obtain ⟨w9, hw9⟩ : ∃ w9, w9 = w8.setCell ⟨gf, 2,none⟩ (.int .i64 (v8 : Int)) := ⟨_, rfl⟩
     have t89 : Tn gf w8 w9 := by rw [hw9]; exact (Tn.of_below (Below.refl _ _)).set _
     have x9 : Rd w9 (base + 1) A n c p8 true := x8.tn t89 (by omega)
     have h09 := h08.tn t89 (by omega)
     have bw9 := bw8.trans (t89.below (B := base) (by omega) (by omega))
     clear d0 d1 d2 d3 k0 k1 k2 k3 hltf
     obtain ⟨d0, d1, d2, d3, k0, k1, k2, k3, hltf⟩ := bf8
     obtain ⟨c0, c1, c2, f0, f1, f2, hlt1⟩ := x9
     obtain ⟨y0, y1, g0, g1, hlt0⟩ := h09
     have Hw9 := ek hw9
     clear hw9 x8 t8 t89 h08 h07 h06
     go_wp2_with (rw [← Hw9.out])
     refine bodyPost_ret (v := .tuple #[dv none 0 0 0, .bool false]) ?_ rfl ⟨?_, ?_⟩
     ·simp [results, Tryz.results153, go_sem, dv, y0, y1]
     ·rw [← Hbase.out]; exact bw9.trans (put2_at _ _ _ _)
     ·rw [HT.out]
    ·obtain ⟨a, s1, hn1⟩ : ∃ a s1, Bm.nam (l.drop p) = some (a, s1) := by
      rcases h : Bm.nam (l.drop p) with _ | ⟨a, s1⟩
      ·exact absurd (.inl h) hbad
      ·exact ⟨a, s1, rfl⟩
     obtain ⟨z, s2, hn2⟩ : ∃ z s2, Bm.num 1000 (l.drop (p + s1)) = some (z, s2) := by
      rcases h : Bm.num 1000 (l.drop (p + s1)) with _ | ⟨z, s2⟩
      ·exact absurd (.inr ⟨a, s1, hn1, h⟩) hbad
      ·exact ⟨z, s2, rfl⟩
     obtain ⟨-, -, hal, hs1⟩ := Bm.nam_only hn1
     obtain ⟨-, -, hz1, hs2, -, -⟩ := Bm.num_only hn2
     rw [List.length_drop] at hs1 hs2
     have hs1n : p + s1 ≤ n := by have := Hl.out; omega
     have hs2n : p + s1 + s2 ≤ n := by have := Hl.out; omega
     have Hc1 := ek (name_some (base + 1) A n c p B false l w5 x5 rb5 (by omega) (by omega) hp a s1 hn1)
     obtain ⟨o, ho⟩ : ∃ o, o = Op.bytesLess N a := ⟨_, rfl⟩
     have Hfo := ek (fun W => follow_c a N o (by rw [ho, decide_eq_true hal, Bool.and_true]) W)
     have hno := fun h3 => hti.bad hlt fun j => Bm.rdE_noasc hn1 hn2 h3
     have hst2 := fun h3 => hti.step hlt hn1 hn2 h3
     rw [← ho] at hno hst2
     have Hno := ek hno; have Hst := ek hst2; have Hn2 := ek hn2; have Ho := ek ho; have Hal := ek hal
     clear hno hst2 hti hbad hs1 hs2 hn1 hn2 ho hal
     go_wp2_with fail
     rw [← Hgf.out, ← W5.out]
     refine Hc1.out.mono ?_
     rintro e w6 ⟨rfl, x6, t6⟩
     have bf6 := Bf5.out.tn t6 (by omega)
     have h06 := H05.out.tn t6 (by omega)
     have h26 := H25.out.tn t6 (by omega)
     have row6 := Row5.out.tn t6 (.inl (by omega))
     have bw6 := bw5.trans (t6.below (B := base) (by omega) (by omega))
     have z6 := t6.size
     obtain ⟨w7, hw7⟩ : ∃ w7, w7 = w6.setCell ⟨gf, 1,none⟩ (.string ⟨a.toArray⟩) := ⟨_, rfl⟩
     have t67 : Tn gf w6 w7 := by rw [hw7]; exact (Tn.of_below (Below.refl _ _)).set _
     have bf7 := bf6.set1 (.string ⟨a.toArray⟩)
     rw [← hw7] at bf7
     have x7 : Rd w7 (base + 1) A n c (p + s1) false := x6.tn t67 (by omega)
     have h07 := h06.tn t67 (by omega)
     have h27 := h26.tn t67 (by omega)
     have row7 := row6.tn t67 (.inr fun g hg => by have := HFg.out g hg; omega)
     have bw7 := bw6.trans (t67.below (B := base) (by omega) (by omega))
     have z7 := t67.size
     have rb7 := Hr.out.below (bw7.mono hrB)
     have Hc2 := ek (number_some (base + 1) A n c (p + s1) B false 1000 1000 l w7 x7 rb7 (by omega) (by omega) hs1n rfl (by omega) z s2 Hn2.out)
     have Hw7 := ek hw7
     obtain ⟨d0, d1, d2, d3, k0, k1, k2, k3, hltf⟩ := bf6
     have Bf7 := ek bf7; have Row7 := ek row7; have H27 := ek h27
     clear hw7 x7 x6 bf7 t6 row6 row7 h26 h27
     go_wp2_with fail
     rw [← Hw7.out]
     refine Hc2.out.mono ?_
     rintro e w8 ⟨rfl, x8, t8⟩
     have bf8 := Bf7.out.tn t8 (by omega)
     have h08 := h07.tn t8 (by omega)
     have h28 := H27.out.tn t8 (by omega)
     have row8 := Row7.out.tn t8 (.inl (by omega))
     have bw8 := bw7.trans (t8.below (B := base) (by omega) (by omega))
     have z8 := t8.size
     obtain ⟨w9, hw9⟩ : ∃ w9, w9 = w8.setCell ⟨gf, 2,none⟩ (.int .i64 (z : Int)) := ⟨_, rfl⟩
     have t89 : Tn gf w8 w9 := by rw [hw9]; exact (Tn.of_below (Below.refl _ _)).set _
     have z9 := t89.size
     have bf9 := bf8.set2 (.int .i64 (z : Int))
     rw [← hw9] at bf9
     have x9 : Rd w9 (base + 1) A n c (p + s1 + s2) false := x8.tn t89 (by omega)
     have h09 := h08.tn t89 (by omega)
     have h29 := h28.tn t89 (by omega)
     have row9 := row8.tn t89 (.inr fun g hg => by have := HFg.out g hg; omega)
     have bw9 := bw8.trans (t89.below (B := base) (by omega) (by omega))
     have X9 := ek x9; have Row9 := ek row9; have H29 := ek h29; have H09 := ek h09; have Bf9 := ek bf9
     clear d0 d1 d2 d3 k0 k1 k2 k3 hltf
     obtain ⟨d0, d1, d2, d3, k0, k1, k2, k3, hltf⟩ := bf8
     obtain ⟨c0, c1, c2, f0, f1, f2, hlt1⟩ := x9
     obtain ⟨e0, e1, e2, e3, -, -, -, -, hltf9⟩ := bf9
     obtain ⟨y0, y1, g0, g1, hlt0⟩ := h09
     clear u0 u1
     obtain ⟨u0, u1, v0, v1, hlt2⟩ := h29
     have Hw9 := ek hw9
     clear hw9 x8 t8 t89 h08 h07 h06 row8 row9 h28
     cases o with
     | false =>
      have HT := ek (Bm.takeE_none (AT := AT) (st := st) H1.out (Hno.out rfl))
      go_wp2_with (rw [← Hw9.out])
      refine (Hfo.out _).mono ?_
      rintro e w10 ⟨rfl,rfl⟩
      clear d0 d1 d2 d3 k0 k1 k2 k3 hltf
      go_wp2
      refine bodyPost_ret (v := .tuple #[dv none 0 0 0, .bool false]) ?_ rfl ⟨?_, ?_⟩
      ·simp [results, Tryz.results153, go_sem, dv, y0, y1]
      ·rw [← Hbase.out]; exact bw9.trans (put2_at _ _ _ _)
      ·rw [HT.out]
     | true =>
      obtain ⟨E, hE⟩ : ∃ E, en + z + 4 = E := ⟨_, rfl⟩
      have hE3 : E ≤ 3000000 := by omega
      have HE := ek hE
      have hfe := fun W => fend_c q z en ⟨a.toArray⟩ _ W rfl E hE (by omega)
      have hfe2 : ∀ W, Calls Tryz.prog 154 #[.agg #[.int .i64 (q : Int), .string ⟨a.toArray⟩, .int .i64 (z : Int), .int .i64 (en : Int)]] W fun e w' => e = .returned (.int .i64 (E : Int)) ∧ Below W.heap.size W w' := fun W => (hfe W).mono fun e w' ⟨h1, h2⟩ => ⟨h1, by rw [h2]; exact ej _ _⟩
      have Hfe := ek hfe2
      clear hfe hfe2 hE
      obtain ⟨w10, hw10⟩ : ∃ w10, w10 = w9.alloc (.cells #[.int .i64 (q : Int), .string ⟨a.toArray⟩, .int .i64 (z : Int), .int .i64 (en : Int)] 161) := ⟨_, rfl⟩
      have b10 : Below w9.heap.size w9 w10 := by rw [hw10]; exact ej _ _
      have hlit : Rc 4 w10 (w9.heap.size + 1) (some ⟨w9.heap.size, 0,none⟩) 1 1 [.int .i64 (q : Int), .string ⟨a.toArray⟩, .int .i64 (z : Int), .int .i64 (en : Int)] := by
       rw [hw10]; exact Rc.lit (z := 4) w9 _ #[.int .i64 (q : Int), .string ⟨a.toArray⟩, .int .i64 (z : Int), .int .i64 (en : Int)] 1 rfl (by simp [maxLen])
      have row10 := Row9.out.keep b10
      have x10 : Rd w10 (base + 1) A n c (p + s1 + s2) false := X9.out.below b10 (by omega)
      have h210 := H29.out.below b10 (by omega)
      have h010 := H09.out.below b10 (by omega)
      have bf10 := Bf9.out.below b10 (by omega)
      have bw10 := bw9.trans (b10.mono (by omega))
      have z10 := b10.size
      have W10 := ek hw10; have Hlit := ek hlit; have Row10 := ek row10
      clear hw10 hlit row10 b10
      go_wp2_with (rw [← Hw9.out])
      refine (Hfo.out _).mono ?_
      rintro e w10' ⟨rfl,rfl⟩
      clear d0 d1 d2 d3 k0 k1 k2 k3 hltf
      go_wp2_with (at_builtin; rw [← W10.out]; go_must (refine Sl.wpAppAt fty rfl (.tmp 41) (.tmp 43) rfl (n := k) (m := 1) (N := k + 1) (base := base + 3) (ws := fvs D ++ [.int .i64 (q : Int), .string ⟨a.toArray⟩, .int .i64 (z : Int), .int .i64 (en : Int)]) rfl rfl Row10.out Hlit.out ?hs1 rfl rfl ?hs4 ?hs5 ?hs6 ?_))
      case hs1 => simp [Value.oneCell']
      case hs4 => omega
      case hs5 => omega
      case hs6 => omega
      intro F11 d11 w11 row11 g11
      have z11 := g11.size
      have x11 : Rd w11 (base + 1) A n c (p + s1 + s2) false := x10.keep z11 (g11.keepH (by omega) (oc_low Row10.out (by omega)))
      have h211 := h210.keep z11 (g11.keepH (by omega) (oc_low Row10.out (by omega)))
      have h011 := h010.keep z11 (g11.keepH (by omega) (oc_low Row10.out (by omega)))
      have bf11 := bf10.keep z11 (g11.keepH (by omega) (fun q => by have := HFg.out gf q.symm; omega))
      have bw11 := bw10.trans ((g11.belowC Row10.out (by omega)).mono (show base ≤ base + 3 by omega))
      obtain ⟨w12, hw12⟩ : ∃ w12, w12 = w11.setCell ⟨base + 1 + 1, 0,none⟩ (.slice F11 (k + 1) d11) := ⟨_, rfl⟩
      have t12 : Tn (base + 1 + 1) w11 w12 := by rw [hw12]; exact (Tn.of_below (Below.refl _ _)).set _
      have z12 := t12.size
      have x12 : Rd w12 (base + 1) A n c (p + s1 + s2) false := x11.tn t12 (by omega)
      have h212 := h211.set0 (.slice F11 (k + 1) d11)
      rw [← hw12] at h212
      have h012 := h011.tn t12 (by omega)
      have bf12 := bf11.tn t12 (by omega)
      have row12 := row11.tn t12 (.inl (by omega))
      have bw12 := bw11.trans (t12.below (B := base) (by omega) (by omega))
      have X12 := ek x12; have H212 := ek h212; have H012 := ek h012; have Row12 := ek row12; have Bf12 := ek bf12
      have Hw12 := ek hw12
      clear e0 e1 e2 e3 c0 c1 c2 f0 f1 f2 hlt1 y0 y1 g0 g1 hlt0 u0 u1 v0 v1 hlt2
      obtain ⟨e0, e1, e2, e3, -, -, -, -, hltf12⟩ := bf12
      obtain ⟨u0, u1, v0, v1, hlt2⟩ := h211
      clear x10 h210 h010 bf10 x11 h011 bf11 row11 g11 hw12 t12 x12 h212 h012 row12
      go_wp2_with (rw [← Hw12.out])
      refine (Hfe.out _).mono ?_
      rintro e w13 ⟨rfl, b13⟩
      have x13 : Rd w13 (base + 1) A n c (p + s1 + s2) false := X12.out.below b13 (by omega)
      have h213 := H212.out.below b13 (by omega)
      have h013 := H012.out.below b13 (by omega)
      have bf13 := Bf12.out.below b13 (by omega)
      have row13 := Row12.out.keep b13
      have z13 := b13.size
      have bw13 := bw12.trans (b13.mono (by omega))
      obtain ⟨w14, hw14⟩ : ∃ w14, w14 = w13.setCell ⟨base + 1 + 1, 1,none⟩ (.int .i64 (E : Int)) := ⟨_, rfl⟩
      have t14 : Tn (base + 1 + 1) w13 w14 := by rw [hw14]; exact (Tn.of_below (Below.refl _ _)).set _
      have z14 := t14.size
      have x14 : Rd w14 (base + 1) A n c (p + s1 + s2) false := x13.tn t14 (by omega)
      have h214 := h213.set1 (.int .i64 (E : Int))
      rw [← hw14] at h214
      have h014 := h013.tn t14 (by omega)
      have bf14 := bf13.tn t14 (by omega)
      have row14 := row13.tn t14 (.inl (by omega))
      have bw14 := bw13.trans (t14.below (B := base) (by omega) (by omega))
      have X14 := ek x14; have H214 := ek h214; have H014 := ek h014; have Row14 := ek row14
      have Hw14 := ek hw14
      clear e0 e1 e2 e3 u0 u1 v0 v1 hlt2 hltf12
      obtain ⟨e0, e1, e2, e3, -, -, -, -, hltf14⟩ := bf14
      obtain ⟨u0, u1, v0, v1, hlt2⟩ := h213
      clear x13 h013 bf13 row13 hw14 t14 x14 h214 h014 row14
      go_wp2_with (rw [← Hw14.out])
      go_roundw
      case rel =>
       refine ⟨a, D ++ [⟨AT + p, a, z, en⟩], F11, d11, k + 1, p + s1 + s2, E, rfl, by go_num, by omega, hs2n, ?_, X14.out, H214.out, H014.out, ?_, by have := Hst.out trivial; rwa [HE.out] at this, bw14, by omega⟩
       ·rw [Nat.succ_mul]; have := HE.out; omega
       ·have e1 : fvs (D ++ [⟨AT + p, a, z, en⟩]) = fvs D ++ [.int .i64 (q : Int), .string ⟨a.toArray⟩, .int .i64 (z : Int), .int .i64 (en : Int)] := by rw [fvs_app, Hq.out]; rfl
        rw [e1]
        exact Row14.out
      case measure => simp [intOf]; omega
   ·have hkm : k = m := by omega
    have hfin := hti.end_ hkm
    subst hkm
    obtain ⟨c0, c1, c2, f0, f1, f2, hlt1⟩ := hx
    obtain ⟨y0, y1, g0, g1, hlt0⟩ := h0
    obtain ⟨u0, u1, -, -, -⟩ := h2
    have hDl0 : D.length = k := by have := hrow.1; rw [fvs_len] at this; omega
    have hrf : RcS 4 ((wr.setCell ⟨base, 0,none⟩ (.slice F k d)).setCell ⟨base, 1,none⟩ (.int .i64 (en : Int))) (Fr w.heap.size ((wr.setCell ⟨base, 0,none⟩ (.slice F k d)).setCell ⟨base, 1,none⟩ (.int .i64 (en : Int)))) F k d (fvs D) := ((hrow.tn (tn_put2 wr base _ _) (.inl (by omega))).rcS).keep (stays_weak fun b hb => ⟨by have := hb.1; have := Hbase.out; omega, hb.2⟩)
    by_cases hpn : p = n
    ·have hT := Bm.takeE_ok H1.out hfin (by rw [hpn, Hl.out])
     have hDl := hDl0
     subst hpn
     have Hrf := ek hrf; have HT := ek hT; have HDl := ek hDl
     clear hrf hT hfin hrow hti hDl hDl0
     go_wp2
     refine bodyPost_ret (v := .tuple #[dv F k d en, .bool true]) ?_ rfl ⟨?_, ?_⟩
     ·simp [results, Tryz.results153, go_sem, dv, y0, y1]
     ·rw [← Hbase.out]; exact hbel.trans (put2_at _ _ _ _)
     ·rw [HT.out]
      refine ⟨F, d, by rw [HDl.out], ?_⟩
      rw [HDl.out]
      exact Hrf.out
    ·have HT := ek (Bm.takeE_more (AT := AT) (st := st) H1.out hfin (by rw [Hl.out]; exact hpn))
     have hpn2 : p < n := by omega
     have dp : decide ((p : Int) < (n : Int)) = true := by simp; omega
     clear hrf hfin hrow hti hpn hDl0
     go_wp2
     refine bodyPost_ret (v := .tuple #[dv none 0 0 0, .bool false]) ?_ rfl ⟨?_, ?_⟩
     ·simp [results, Tryz.results153, go_sem, dv, y0, y1]
     ·rw [← Hbase.out]; exact hbel.trans (put2_at _ _ _ _)
     ·rw [HT.out]
end Go.Proofs.YtkekmokdlgocaaaGreatDoor.Bun
