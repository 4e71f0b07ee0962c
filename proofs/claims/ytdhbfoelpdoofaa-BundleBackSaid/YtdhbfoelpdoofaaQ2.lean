/-
  bundle's reader: number, name: what each call returns and leaves.
-/
import Derived.Test.YtdhbfoelpdoofaaQ1
import Derived.Deep.RegionWith
import Derived.Maps.AppendAt
import Derived.Maps.Range
namespace Go.Proofs.Ytdhbfoelpdoofaa
open Go.RowKit

theorem dn_take : ∀ (j i acc : Nat) (l : List UInt8), i + j = 10 → 1 ≤ j → Vm.dn i acc (l.take j) = Vm.dn i acc l
  | 0, _, _, _, _, h => by omega
  | j + 1, i, acc, [], _, _ => by simp
  | j + 1, i, acc, c :: r, hij, _ => by
    rw [List.take_succ_cons]
    by_cases h : c.toNat < 128
    · by_cases h2 : 0 < i ∧ c.toNat = 0 ∨ i = 9 ∧ 1 < c.toNat
      · rw [Vm.dn_bad i acc c _ h h2, Vm.dn_bad i acc c _ h h2]
      · rw [Vm.dn_end i acc c _ h h2, Vm.dn_end i acc c _ h h2]
    · by_cases h9 : i = 9
      · subst h9
        rw [Vm.dn_long acc c _ (by omega), Vm.dn_long acc c _ (by omega)]
      · rw [Vm.dn_step i acc c _ (by omega) h9, Vm.dn_step i acc c _ (by omega) h9]
        exact dn_take j (i + 1) _ r (by omega) (by omega)
theorem tk_ten_ (l : List UInt8) : Vm.tk (l.take 10) = Vm.tk l := dn_take 10 0 0 l (by omega) (by omega)
theorem tk_take (l : List UInt8) (k : Nat) (hk : 10 ≤ k) : Vm.tk (l.take k) = Vm.tk l := by
  rw [← tk_ten_ (l.take k), List.take_take, Nat.min_eq_left hk, tk_ten_]
/-- A name, as TakeFrame has it. -/
theorem nam_some {l a : List UInt8} {s : Nat} (h : Bm.nam l = some (a, s)) : frameS (l.take 110) 100 = (a, s, 0) := by
  obtain ⟨⟨n, k⟩, hq, h2⟩ := Option.bind_eq_some_iff.1 h
  obtain ⟨ht, hm⟩ := Bm.num_inv hq
  obtain ⟨_, _, _, h6, h7, _⟩ := Bm.num_only hq
  dsimp only at h2
  split at h2
  · rename_i hc
    injection h2 with h2
    injection h2 with e1 e2
    have hl : (l.take 110).length = min 110 l.length := List.length_take
    rw [frameS_ok (l.take 110) 100 n k (by rw [tk_take l 110 (by omega)]; exact ht) (by omega) (by omega)]
    rw [List.take_take, Nat.min_eq_left (by omega), List.drop_take, Nat.add_sub_cancel_left, e1, e2]
  · cases h2
theorem nam_no {l : List UInt8} (h : Bm.nam l = none) : ∃ x, frameS (l.take 110) 100 = ([], 0, x) ∧ (x = 2 ∨ x = 3 ∨ x = 5) := by
  rcases tk_cases l with ⟨a, s, ht, ha, hs, hs10⟩ | ⟨x, ht, hx⟩
  · have ht' : Vm.tk (l.take 110) = (a, s, 0) := by rw [tk_take l 110 (by omega)]; exact ht
    by_cases h1 : a ≤ 100
    · by_cases h2 : a ≤ l.length - s
      · rw [Bm.nam_ok (Bm.num_ok ht h1) h2] at h; cases h
      · have hl : (l.take 110).length = min 110 l.length := List.length_take
        exact ⟨2, frameS_short _ 100 a s ht' (by omega) (by omega), by omega⟩
    · exact ⟨5, frameS_large _ 100 a s ht' (by omega), by omega⟩
  · exact ⟨x, frameS_err _ 100 x (by rw [tk_take l 110 (by omega)]; exact ht) hx, by omega⟩

/-- Only block g has turned, and blocks were made. -/
def Tn (g : Nat) (w w' : World) : Prop := w.grownBy w' (some g)
theorem Tn.of_below {g : Nat} {w w' : World} (h : Below w.heap.size w w') : Tn g w w' := ⟨h.os, h.tape, h.output, h.size, fun k hk _ => h.block k hk⟩
theorem Tn.trans {g : Nat} {a b c : World} (h : Tn g a b) (k : Tn g b c) : Tn g a c := World.grownBy.trans h k
theorem Tn.set {g i : Nat} {w w' : World} (h : Tn g w w') (u : Value) : Tn g w (w'.setCell ⟨g, i, none⟩ u) :=
  h.trans ⟨rfl, rfl, rfl, by simp, fun k _ hne => heap_setCell_other w' ⟨g, i, none⟩ k u (fun e => hne (by rw [e]))⟩
theorem Tn.drewN {g : Nat} {w w' : World} (h : Tn g w w') (n : Nat) : Tn g w (w'.drewN n) := ⟨h.os, h.tape, h.output, h.size, h.block⟩
theorem Tn.size {g : Nat} {w w' : World} (h : Tn g w w') : w.heap.size ≤ w'.heap.size := World.grownBy.size h
theorem Tn.below {g B : Nat} {w w' : World} (h : Tn g w w') (hB : B ≤ g) (hz : B ≤ w.heap.size) : Below B w w' := ⟨h.os, h.tape, h.output, h.size, fun k hk => h.block k (by omega) (by intro e; injection e with e; omega)⟩
theorem Tn.heap {g k : Nat} {w w' : World} (h : Tn g w w') (hk : k < w.heap.size) (hne : k ≠ g) : w'.heap[k]? = w.heap[k]? := h.block k hk (by intro e; injection e with e; exact hne e)
theorem Tn.cell {g : Nat} {w w' : World} (h : Tn g w w') (p : Addr) (hk : p.block < w.heap.size) (hne : p.block ≠ g) : w'.cell? p = w.cell? p := by
  have := h.heap hk hne
  unfold World.cell?
  rw [this]
/-- Take, its results written out. -/
theorem take_lit (A : Option Addr) (n c : Nat) (l : List UInt8) (w : World) (hr : Rb w w.heap.size A n c l) (hn : n ≤ 1000000) (a s : Nat) (h : Vm.tk l = (a, s, 0)) (r : List UInt8) (k : Nat) (hr2 : l.drop s = r) (hk : r.length = k) :
    Calls Try.prog 48 #[.slice A n c] w fun e w' => ∃ D d, e = .returned (.tuple #[.int .u64 (a : Int), .slice D k d, .int .i64 0]) ∧ Below w.heap.size w w' :=
  (take_c A n c l w hr hn).mono fun e w' hp => by
    rw [takeS_ok l a s h, hr2] at hp
    obtain ⟨D, d, he, _, hb⟩ := hp
    exact ⟨D, d, by rw [he, ← hk]; rfl, hb⟩
theorem take_no (A : Option Addr) (n c : Nat) (l : List UInt8) (w : World) (hr : Rb w w.heap.size A n c l) (hn : n ≤ 1000000) (x : Nat) (h : Vm.tk l = (0, 0, x)) (hx : x = 2 ∨ x = 3) :
    Calls Try.prog 48 #[.slice A n c] w fun e w' => ∃ D d, e = .returned (.tuple #[.int .u64 0, .slice D 0 d, .int .i64 (x : Int)]) ∧ Below w.heap.size w w' :=
  (take_c A n c l w hr hn).mono fun e w' hp => by
    rw [takeS_err l x h hx] at hp
    obtain ⟨D, d, he, _, hb⟩ := hp
    exact ⟨D, d, he, hb⟩
theorem takef_lit (A : Option Addr) (n c : Nat) (l : List UInt8) (w : World) (hr : Rb w w.heap.size A n c l) (hn : n ≤ 1000000) (t : List UInt8) (s : Nat) (h : frameS l 100 = (t, s, 0)) (r : List UInt8) (k : Nat) (hr2 : l.drop s = r) (hk : r.length = k) :
    Calls Try.prog 52 #[.slice A n c, .int .i64 100] w fun e w' => ∃ D d, e = .returned (.tuple #[.string ⟨t.toArray⟩, .slice D k d, .int .i64 0]) ∧ Below w.heap.size w w' :=
  (takeFrame_c A n c l 100 w hr hn (by unfold I64; omega)).mono fun e w' hp => by
    rw [tframeS_ok l 100 t s h, hr2] at hp
    obtain ⟨D, d, he, _, hb⟩ := hp
    exact ⟨D, d, by rw [he, ← hk]; rfl, hb⟩
theorem takef_no (A : Option Addr) (n c : Nat) (l : List UInt8) (w : World) (hr : Rb w w.heap.size A n c l) (hn : n ≤ 1000000) (x : Nat) (h : frameS l 100 = ([], 0, x)) (hx : x = 2 ∨ x = 3 ∨ x = 5) :
    Calls Try.prog 52 #[.slice A n c, .int .i64 100] w fun e w' => ∃ D d, e = .returned (.tuple #[.string ⟨#[]⟩, .slice D 0 d, .int .i64 (x : Int)]) ∧ Below w.heap.size w w' :=
  (takeFrame_c A n c l 100 w hr hn (by unfold I64; omega)).mono fun e w' hp => by
    rw [tframeS_err l 100 x h hx] at hp
    obtain ⟨D, d, he, _, hb⟩ := hp
    exact ⟨D, d, he, hb⟩
/-- What a reader's method comes to. -/
def RetRd (g : Nat) (A : Option Addr) (n c p : Nat) (fl : Bool) (w : World) (v : Value) (e : Ending) (w' : World) : Prop := e = .returned v ∧ Rd w' g A n c p fl ∧ Tn g w w'

set_option maxRecDepth 100000 in
set_option maxHeartbeats 1000000 in
/-- number, if there is one -/
theorem number_some (g : Nat) (A : Option Addr) (n c p B : Nat) (fl : Bool) (M : Int) (m : Nat) (l : List UInt8) (w : World) (hx : Rd w g A n c p fl) (hr : Rb w B A n c l) (hB : B ≤ g) (hn : n ≤ 1000000) (hp : p ≤ n) (hM : M = (m : Int)) (hm : m ≤ 1000000)
    (a s : Nat) (h : Bm.num m (l.drop p) = some (a, s)) :
    Calls Try.prog 40 #[.pointer (some ⟨g, 0, none⟩), .int .i64 M] w (RetRd g A n c (p + s) fl w (.int .i64 (a : Int))) := by
  subst hM
  have hlt := hx.lt
  obtain ⟨ht, ham⟩ := Bm.num_inv h
  obtain ⟨_, hs, _, hsl, hs10, ha64⟩ := Bm.num_only h
  have ht10 : Vm.tk ((l.drop p).take 10) = (a, s, 0) := by rw [tk_take _ 10 (by omega)]; exact ht
  have hsz := fun w => size_c a w ha64
  rw [← hs] at hsz
  have hnx := fun W (hW : Rd W g A n c p fl) (hR : Rb W B A n c l) => next_c g A n c p B fl 10 10 l W hW hR hn hp rfl (by omega)
  obtain ⟨r, hr2⟩ : ∃ r, ((l.drop p).take 10).drop s = r := ⟨_, rfl⟩
  obtain ⟨rk, hrk⟩ : ∃ rk, r.length = rk := ⟨_, rfl⟩
  have htk := fun D k W (hW : Rb W W.heap.size D k (c - p) ((l.drop p).take 10)) (hk : k ≤ 1000) => take_lit D k (c - p) _ W hW (by omega) a s ht10 r rk hr2 hrk
  have dm : decide ((m : Int) < (a : Int)) = false := by simp; omega
  have em : IntKind.u64.wrap (m : Int) = (m : Int) := by rw [IntKind.wrap_u64]; omega
  have hsl2 : p + s ≤ 1000000 := by rw [List.length_drop, hr.len] at hsl; omega
  have Hx := Lib.hid hx; have Hr := Lib.hid hr; have Hsz := Lib.hid hsz; have Hnx := Lib.hid hnx; have Htk := Lib.hid htk
  clear hx hr hsz hnx htk ht ht10 h hs hsl hr2 hrk
  go_enter Try.func40, Try.ntmps40
  go_wp2_with fail
  refine (Hnx.out w Hx.out Hr.out).mono ?_
  rintro e w1 ⟨⟨D, k, rfl, hrD, hk⟩, q, rfl⟩
  have hrD' := hrD.more (B' := w.heap.size) (by omega)
  have HrD := Lib.hid hrD'; clear hrD hrD'
  go_wp2_with fail
  refine (Htk.out D k (w.drewN q) (HrD.out.drewN q) hk).mono ?_
  rintro e w2 ⟨A2, c2, rfl, hb2⟩
  have hx2 : Rd w2 g A n c p fl := (Hx.out.drewN q).below hb2 hlt
  have t2 : Tn g w w2 := (Tn.of_below (g := g) (Below.refl _ w)).drewN q |>.trans (Tn.of_below hb2)
  have hx2' := hx2
  obtain ⟨c0, c1, c2', f0, f1, f2, hlt2⟩ := hx2'
  have Hx2 := Lib.hid hx2; have T2 := Lib.hid t2
  clear hx2 t2 HrD hb2
  go_wp2_with fail
  go_region_with (go_at_call 36; refine (Hsz.out _).mono ?_; rintro e w3 ⟨rfl, rfl⟩)
  all_goals
    go_wp2
    go_ret
    exact ⟨rfl, (Hx2.out.set1 _).drewN _, (T2.out.set _).drewN _⟩

set_option maxRecDepth 100000 in
set_option maxHeartbeats 1000000 in
/-- number, if there is none -/
theorem number_none (g : Nat) (A : Option Addr) (n c p B : Nat) (fl : Bool) (M : Int) (m : Nat) (l : List UInt8) (w : World) (hx : Rd w g A n c p fl) (hr : Rb w B A n c l) (hB : B ≤ g) (hn : n ≤ 1000000) (hp : p ≤ n) (hM : M = (m : Int)) (hm : m ≤ 1000000)
    (h : Bm.num m (l.drop p) = none) :
    Calls Try.prog 40 #[.pointer (some ⟨g, 0, none⟩), .int .i64 M] w (RetRd g A n c p true w (.int .i64 0)) := by
  subst hM
  have hlt := hx.lt
  have hnx := fun W (hW : Rd W g A n c p fl) (hR : Rb W B A n c l) => next_c g A n c p B fl 10 10 l W hW hR hn hp rfl (by omega)
  have em : IntKind.u64.wrap (m : Int) = (m : Int) := by rw [IntKind.wrap_u64]; omega
  rcases tk_cases (l.drop p) with ⟨a, s, ht, ha, hs, hs10⟩ | ⟨x, ht, hxx⟩
  · have hbig : m < a := by
      rcases Nat.lt_or_ge m a with h' | h'
      · exact h'
      · rw [Bm.num_ok ht h'] at h; cases h
    have ht10 : Vm.tk ((l.drop p).take 10) = (a, s, 0) := by rw [tk_take _ 10 (by omega)]; exact ht
    obtain ⟨r, hr2⟩ : ∃ r, ((l.drop p).take 10).drop s = r := ⟨_, rfl⟩
    obtain ⟨rk, hrk⟩ : ∃ rk, r.length = rk := ⟨_, rfl⟩
    have htk := fun D k W (hW : Rb W W.heap.size D k (c - p) ((l.drop p).take 10)) (hk : k ≤ 1000) => take_lit D k (c - p) _ W hW (by omega) a s ht10 r rk hr2 hrk
    have dm : decide ((m : Int) < (a : Int)) = true := by simp; omega
    have Hx := Lib.hid hx; have Hr := Lib.hid hr; have Hnx := Lib.hid hnx; have Htk := Lib.hid htk
    clear hx hr hnx htk ht ht10 h hs hr2 hrk
    go_enter Try.func40, Try.ntmps40
    go_wp2_with fail
    refine (Hnx.out w Hx.out Hr.out).mono ?_
    rintro e w1 ⟨⟨D, k, rfl, hrD, hk⟩, q, rfl⟩
    have hrD' := hrD.more (B' := w.heap.size) (by omega)
    have HrD := Lib.hid hrD'; clear hrD hrD'
    go_wp2_with fail
    refine (Htk.out D k (w.drewN q) (HrD.out.drewN q) hk).mono ?_
    rintro e w2 ⟨A2, c2, rfl, hb2⟩
    have hx2 : Rd w2 g A n c p fl := (Hx.out.drewN q).below hb2 hlt
    have t2 : Tn g w w2 := (Tn.of_below (g := g) (Below.refl _ w)).drewN q |>.trans (Tn.of_below hb2)
    have hx2' := hx2
    obtain ⟨c0, c1, c2', f0, f1, f2, hlt2⟩ := hx2'
    have Hx2 := Lib.hid hx2; have T2 := Lib.hid t2
    clear hx2 t2 HrD hb2
    go_wp2
    go_ret
    exact ⟨rfl, Hx2.out.set2 _, T2.out.set _⟩
  · have ht10 : Vm.tk ((l.drop p).take 10) = (0, 0, x) := by rw [tk_take _ 10 (by omega)]; exact ht
    have htk := fun D k W (hW : Rb W W.heap.size D k (c - p) ((l.drop p).take 10)) (hk : k ≤ 1000) => take_no D k (c - p) _ W hW (by omega) x ht10 hxx
    have hx0 : 0 < x := by omega
    have hx4 : x < 4 := by omega
    have Hx := Lib.hid hx; have Hr := Lib.hid hr; have Hnx := Lib.hid hnx; have Htk := Lib.hid htk
    clear hx hr hnx htk ht ht10 h hxx
    go_enter Try.func40, Try.ntmps40
    go_wp2_with fail
    refine (Hnx.out w Hx.out Hr.out).mono ?_
    rintro e w1 ⟨⟨D, k, rfl, hrD, hk⟩, q, rfl⟩
    have hrD' := hrD.more (B' := w.heap.size) (by omega)
    have HrD := Lib.hid hrD'; clear hrD hrD'
    go_wp2_with fail
    refine (Htk.out D k (w.drewN q) (HrD.out.drewN q) hk).mono ?_
    rintro e w2 ⟨A2, c2, rfl, hb2⟩
    have hx2 : Rd w2 g A n c p fl := (Hx.out.drewN q).below hb2 hlt
    have t2 : Tn g w w2 := (Tn.of_below (g := g) (Below.refl _ w)).drewN q |>.trans (Tn.of_below hb2)
    have hx2' := hx2
    obtain ⟨c0, c1, c2', f0, f1, f2, hlt2⟩ := hx2'
    have Hx2 := Lib.hid hx2; have T2 := Lib.hid t2
    clear hx2 t2 HrD hb2
    go_wp2
    go_ret
    exact ⟨rfl, Hx2.out.set2 _, T2.out.set _⟩

set_option maxRecDepth 100000 in
set_option maxHeartbeats 1000000 in
/-- name, if there is one -/
theorem name_some (g : Nat) (A : Option Addr) (n c p B : Nat) (fl : Bool) (l : List UInt8) (w : World) (hx : Rd w g A n c p fl) (hr : Rb w B A n c l) (hB : B ≤ g) (hn : n ≤ 1000000) (hp : p ≤ n)
    (a : List UInt8) (s : Nat) (h : Bm.nam (l.drop p) = some (a, s)) :
    Calls Try.prog 50 #[.pointer (some ⟨g, 0, none⟩)] w (RetRd g A n c (p + s) fl w (.string ⟨a.toArray⟩)) := by
  have hlt := hx.lt
  have hf := nam_some h
  obtain ⟨_, hs, hal, hsl⟩ := Bm.nam_only h
  obtain ⟨al, hall⟩ : ∃ al, a.length = al := ⟨_, rfl⟩
  rw [hall] at hs hal
  obtain ⟨vl, hvl⟩ : ∃ vl, (Vm.vb al).length = vl := ⟨_, rfl⟩
  have hsz := fun w => size_c al w (by omega)
  rw [hvl] at hsz hs
  have hnx := fun W (hW : Rd W g A n c p fl) (hR : Rb W B A n c l) => next_c g A n c p B fl 110 110 l W hW hR hn hp rfl (by omega)
  obtain ⟨r, hr2⟩ : ∃ r, ((l.drop p).take 110).drop s = r := ⟨_, rfl⟩
  obtain ⟨rk, hrk⟩ : ∃ rk, r.length = rk := ⟨_, rfl⟩
  have htk := fun D k W (hW : Rb W W.heap.size D k (c - p) ((l.drop p).take 110)) (hk : k ≤ 1000) => takef_lit D k (c - p) _ W hW (by omega) a s hf r rk hr2 hrk
  have hsl2 : p + s ≤ 1000000 := by rw [List.length_drop, hr.len] at hsl; omega
  have ew : IntKind.u64.wrap (a.length : Int) = (al : Int) := by rw [hall, IntKind.wrap_u64]; omega
  have e1 : (vl : Int) + (a.length : Int) = (s : Int) := by rw [hall]; omega
  have e2 : IntKind.i64.wrap ((vl : Int) + (a.length : Int)) = (s : Int) := by rw [e1]; exact IntWalk.i64_in _ (by omega)
  have e3 : IntKind.i64.wrap (s : Int) = (s : Int) := IntWalk.i64_in _ (by omega)
  have E4 : Hid (IntKind.i64.wrap ((p : Int) + (s : Int)) = ((p + s : Nat) : Int)) := Lib.hid (by rw [IntWalk.i64_in _ (by omega)]; omega)
  have Hx := Lib.hid hx; have Hr := Lib.hid hr; have Hsz := Lib.hid hsz; have Hnx := Lib.hid hnx; have Htk := Lib.hid htk
  clear hx hr hsz hnx htk hf h hs hsl hr2 hrk hall hvl
  go_enter Try.func50, Try.ntmps50
  go_wp2_with fail
  refine (Hnx.out w Hx.out Hr.out).mono ?_
  rintro e w1 ⟨⟨D, k, rfl, hrD, hk⟩, q, rfl⟩
  have hrD' := hrD.more (B' := w.heap.size) (by omega)
  have HrD := Lib.hid hrD'; clear hrD hrD'
  go_wp2_with fail
  refine (Htk.out D k (w.drewN q) (HrD.out.drewN q) hk).mono ?_
  rintro e w2 ⟨A2, c2, rfl, hb2⟩
  have hx2 : Rd w2 g A n c p fl := (Hx.out.drewN q).below hb2 hlt
  have t2 : Tn g w w2 := (Tn.of_below (g := g) (Below.refl _ w)).drewN q |>.trans (Tn.of_below hb2)
  have hx2' := hx2
  obtain ⟨c0, c1, c2', f0, f1, f2, hlt2⟩ := hx2'
  have Hx2 := Lib.hid hx2; have T2 := Lib.hid t2
  clear hx2 t2 HrD hb2
  go_wp2_with fail
  go_region_with (go_at_call 36; refine (Hsz.out _).mono ?_; rintro e w3 ⟨rfl, rfl⟩)
  all_goals
    go_wp2
    go_ret
    rw [E4.out]
    exact ⟨rfl, (Hx2.out.set1 _).drewN _, (T2.out.set _).drewN _⟩

set_option maxRecDepth 100000 in
set_option maxHeartbeats 1000000 in
/-- name, if there is none -/
theorem name_none (g : Nat) (A : Option Addr) (n c p B : Nat) (fl : Bool) (l : List UInt8) (w : World) (hx : Rd w g A n c p fl) (hr : Rb w B A n c l) (hB : B ≤ g) (hn : n ≤ 1000000) (hp : p ≤ n)
    (h : Bm.nam (l.drop p) = none) :
    Calls Try.prog 50 #[.pointer (some ⟨g, 0, none⟩)] w (RetRd g A n c p true w (.string ⟨#[]⟩)) := by
  have hlt := hx.lt
  obtain ⟨x, hf, hxx⟩ := nam_no h
  have hnx := fun W (hW : Rd W g A n c p fl) (hR : Rb W B A n c l) => next_c g A n c p B fl 110 110 l W hW hR hn hp rfl (by omega)
  have htk := fun D k W (hW : Rb W W.heap.size D k (c - p) ((l.drop p).take 110)) (hk : k ≤ 1000) => takef_no D k (c - p) _ W hW (by omega) x hf hxx
  have hx0 : 0 < x := by omega
  have hx4 : x < 6 := by omega
  have Hx := Lib.hid hx; have Hr := Lib.hid hr; have Hnx := Lib.hid hnx; have Htk := Lib.hid htk
  clear hx hr hnx htk hf h hxx
  go_enter Try.func50, Try.ntmps50
  go_wp2_with fail
  refine (Hnx.out w Hx.out Hr.out).mono ?_
  rintro e w1 ⟨⟨D, k, rfl, hrD, hk⟩, q, rfl⟩
  have hrD' := hrD.more (B' := w.heap.size) (by omega)
  have HrD := Lib.hid hrD'; clear hrD hrD'
  go_wp2_with fail
  refine (Htk.out D k (w.drewN q) (HrD.out.drewN q) hk).mono ?_
  rintro e w2 ⟨A2, c2, rfl, hb2⟩
  have hx2 : Rd w2 g A n c p fl := (Hx.out.drewN q).below hb2 hlt
  have t2 : Tn g w w2 := (Tn.of_below (g := g) (Below.refl _ w)).drewN q |>.trans (Tn.of_below hb2)
  have hx2' := hx2
  obtain ⟨c0, c1, c2', f0, f1, f2, hlt2⟩ := hx2'
  have Hx2 := Lib.hid hx2; have T2 := Lib.hid t2
  clear hx2 t2 HrD hb2
  go_wp2
  go_ret
  exact ⟨rfl, Hx2.out.set2 _, T2.out.set _⟩
end Go.Proofs.Ytdhbfoelpdoofaa
