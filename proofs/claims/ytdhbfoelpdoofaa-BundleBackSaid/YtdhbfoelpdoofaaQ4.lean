/-
  bundle.takeEntries: what the call returns and leaves.
-/
import Derived.Test.YtdhbfoelpdoofaaQ3
namespace Go.Proofs.Ytdhbfoelpdoofaa
open Go.RowKit

/-- So many entries have been taken. -/
def Ti (AT s st m : Nat) (b : List UInt8) (k p e : Nat) (D : List Bm.F) (N : List UInt8) : Prop := Bm.rdE m AT s st [] b = (Bm.rdE (m - k) AT p e N b).map (fun y => (D ++ y.1, y.2))
section
variable {AT s st m k p e : Nat} {b : List UInt8} {D : List Bm.F} {N : List UInt8}
theorem Ti.start : Ti AT s st m b 0 s st [] [] := by
  unfold Ti
  rw [Nat.sub_zero]
  cases Bm.rdE m AT s st [] b with
  | none => rfl
  | some y => simp
theorem Ti.step {a : List UInt8} {s1 z s2 : Nat} (h : Ti AT s st m b k p e D N) (hk : k < m) (h1 : Bm.nam (b.drop p) = some (a, s1)) (h2 : Bm.num 1000 (b.drop (p + s1)) = some (z, s2)) (h3 : Op.bytesLess N a = true) :
    Ti AT s st m b (k + 1) (p + s1 + s2) (e + z + 4) (D ++ [⟨AT + p, a, z, e⟩]) a := by
  unfold Ti at h ⊢
  obtain ⟨j, hj⟩ : ∃ j, m - k = j + 1 := ⟨m - k - 1, by omega⟩
  rw [h, hj, Bm.rdE_step h1 h2 h3, show m - (k + 1) = j by omega, Option.map_map]
  cases Bm.rdE j AT (p + s1 + s2) (e + z + 4) a b with
  | none => rfl
  | some y => simp
theorem Ti.bad (h : Ti AT s st m b k p e D N) (hk : k < m) (hb : ∀ j, Bm.rdE (j + 1) AT p e N b = none) : Bm.rdE m AT s st [] b = none := by
  unfold Ti at h
  obtain ⟨j, hj⟩ : ∃ j, m - k = j + 1 := ⟨m - k - 1, by omega⟩
  rw [h, hj, hb]
  rfl
theorem Ti.end_ (h : Ti AT s st m b k p e D N) (hk : k = m) : Bm.rdE m AT s st [] b = some (D, p, e) := by
  unfold Ti at h
  rw [h, hk, Nat.sub_self]
  simp [Bm.rdE]
end

def BadAt (l : List UInt8) (p : Nat) (fl : Bool) : Prop := fl = true ∨ Bm.num 1000 (l.drop p) = none
/-- name, if what comes behind fails. -/
theorem name_bad (g : Nat) (A : Option Addr) (n c p B : Nat) (l : List UInt8) (w : World) (hx : Rd w g A n c p false) (hr : Rb w B A n c l) (hB : B ≤ g) (hn : n ≤ 1000000) (hp : p ≤ n)
    (h : Bm.nam (l.drop p) = none ∨ ∃ a s, Bm.nam (l.drop p) = some (a, s) ∧ Bm.num 1000 (l.drop (p + s)) = none) :
    Calls Try.prog 50 #[.pointer (some ⟨g, 0, none⟩)] w fun e w' => ∃ (v : ByteArray) (p' : Nat) (fl : Bool), e = .returned (.string v) ∧ Rd w' g A n c p' fl ∧ p' ≤ n ∧ BadAt l p' fl ∧ Tn g w w' := by
  rcases h with h | ⟨a, s, h, h2⟩
  · exact (name_none g A n c p B false l w hx hr hB hn hp h).mono fun e w' ⟨h1, h2, h3⟩ => ⟨_, p, true, h1, h2, hp, .inl rfl, h3⟩
  · have hs := (Bm.nam_only h).2.2.2
    rw [List.length_drop, hr.len] at hs
    exact (name_some g A n c p B false l w hx hr hB hn hp a s h).mono fun e w' ⟨h1, h3, h4⟩ => ⟨_, p + s, false, h1, h3, by omega, .inr h2, h4⟩
theorem number_bad (g : Nat) (A : Option Addr) (n c p B : Nat) (fl : Bool) (l : List UInt8) (w : World) (hx : Rd w g A n c p fl) (hr : Rb w B A n c l) (hB : B ≤ g) (hn : n ≤ 1000000) (hp : p ≤ n) (h : BadAt l p fl) :
    Calls Try.prog 40 #[.pointer (some ⟨g, 0, none⟩), .int .i64 1000] w fun e w' => ∃ v p' : Nat, e = .returned (.int .i64 (v : Int)) ∧ Rd w' g A n c p' true ∧ Tn g w w' := by
  rcases h1 : Bm.num 1000 (l.drop p) with _ | ⟨a, s⟩
  · exact (number_none g A n c p B fl 1000 1000 l w hx hr hB hn hp rfl (by omega) h1).mono fun e w' ⟨h1, h2, h3⟩ => ⟨0, p, h1, h2, h3⟩
  · rcases h with rfl | h
    · exact (number_some g A n c p B true 1000 1000 l w hx hr hB hn hp rfl (by omega) a s h1).mono fun e w' ⟨h1, h2, h3⟩ => ⟨a, p + s, h1, h2, h3⟩
    · rw [h] at h1; cases h1

def TeRel (base : Nat) (w : World) (A : Option Addr) (n c AT s st m : Nat) (l : List UInt8) (o i : Value) (wr : World) : Prop :=
  ∃ N D F d, ∃ k p e : Nat, o = .string ⟨N.toArray⟩ ∧ i = .int .i64 (k : Int) ∧ k ≤ m ∧ p ≤ n ∧ e ≤ st + k * 1004 ∧ Rd wr (base + 1) A n c p false ∧ Box2 wr (base + 1 + 1) (.slice F k d) (.int .i64 (e : Int)) ∧ Box2 wr base (.slice none 0 0) (.int .i64 0) ∧
    Oc 4 wr 62 (base + 3) F k d (fvs D) ∧ Ti AT s st m l k p e D N ∧ Below base w wr ∧ base + 3 ≤ wr.heap.size

set_option maxRecDepth 100000 in
set_option maxHeartbeats 4000000 in
/-- takeEntries -/
theorem takeEntries_c (A : Option Addr) (n c B AT st : Nat) (l : List UInt8) (w : World) (hr : Rb w B A n c l) (hB : B ≤ w.heap.size) (hn : n ≤ 100000) (hAT : AT ≤ 100000) (hst : st ≤ 100000) :
    Calls Try.prog 42 #[.slice A n c, .int .i64 (AT : Int), .int .i64 (st : Int)] w (RetDir w (Bm.takeE AT st l)) := by
  have hl := hr.len
  obtain ⟨base, hbase⟩ : ∃ base, base = w.heap.size := ⟨_, rfl⟩
  obtain ⟨w3, hw3⟩ : ∃ w3, w3 = ((w.alloc (.cells #[.slice none 0 0, .int .i64 0] 57)).alloc (.cells #[.slice A n c, .int .i64 0, .bool false] 77)).alloc (.cells #[.slice none 0 0, .int .i64 (st : Int)] 57) := ⟨_, rfl⟩
  have z3 : w3.heap.size = base + 3 := by rw [hw3, hbase]; simp
  have b3 : Below base w w3 := by
    rw [hw3, hbase]
    exact (((Below.refl _ _).alloc (Nat.le_refl _) _).alloc (by simp) _).alloc (by simp; omega) _
  have x0 : Box2 w3 base (.slice none 0 0) (.int .i64 0) := by
    have h1 := Box2.made w 57 (.slice none 0 0) (.int .i64 0)
    rw [← hbase] at h1
    rw [hw3]
    refine (h1.below (w' := (w.alloc (.cells #[.slice none 0 0, .int .i64 0] 57)).alloc (.cells #[.slice A n c, .int .i64 0, .bool false] 77)) (B := base + 1) ((Below.refl _ _).alloc (by simp [hbase]) _) (by omega)).below (B := base + 1) ((Below.refl _ _).alloc (by simp [hbase]) _) (by omega)
  have x1 : Rd w3 (base + 1) A n c 0 false := by
    have h1 := Box3.made (w.alloc (.cells #[.slice none 0 0, .int .i64 0] 57)) 77 (.slice A n c) (.int .i64 0) (.bool false)
    have e1 : (w.alloc (.cells #[.slice none 0 0, .int .i64 0] 57)).heap.size = base + 1 := by rw [hbase]; simp
    rw [e1] at h1
    rw [hw3]
    exact h1.below (B := base + 2) ((Below.refl _ _).alloc (by simp [hbase]) _) (by omega)
  have x2 : Box2 w3 (base + 2) (.slice none 0 0) (.int .i64 (st : Int)) := by
    have h1 := Box2.made ((w.alloc (.cells #[.slice none 0 0, .int .i64 0] 57)).alloc (.cells #[.slice A n c, .int .i64 0, .bool false] 77)) 57 (.slice none 0 0) (.int .i64 (st : Int))
    have e1 : ((w.alloc (.cells #[.slice none 0 0, .int .i64 0] 57)).alloc (.cells #[.slice A n c, .int .i64 0, .bool false] 77)).heap.size = base + 2 := by rw [hbase]; simp
    rw [e1] at h1
    rw [hw3]
    exact h1
  have hrB : B ≤ base := by omega
  have Hr := Lib.hid hr; have Hl := Lib.hid hl; have W3 := Lib.hid hw3; have Hbase := Lib.hid hbase
  clear hr hl hw3 hbase hB
  rcases h1 : Bm.num 1000 l with _ | ⟨m, s⟩
  · rw [Bm.takeE_nonum h1]
    have h1' : Bm.num 1000 (l.drop 0) = none := h1
    have hc := number_none (base + 1) A n c 0 B false 1000 1000 l w3 x1 (Hr.out.below (b3.mono hrB)) (by omega) (by omega) (Nat.zero_le _) rfl (by omega) h1'
    have Hc := Lib.hid hc
    clear hc h1 h1'
    go_enter Try.func42, Try.ntmps42
    go_wp2_with fail
    rw [← Hbase.out, ← W3.out]
    refine Hc.out.mono ?_
    rintro e w4 ⟨rfl, hx4, t4⟩
    have x04 := x0.tn t4 (by omega)
    have b4 := b3.trans (t4.below (B := base) (by omega) (by omega))
    have X4 := Lib.hid hx4
    obtain ⟨c0, c1, c2, f0, f1, f2, hlt⟩ := hx4
    obtain ⟨y0, y1, g0, g1, hlt0⟩ := x04
    clear x0 x1 x2 t4
    go_wp2
    go_loopw [10, 17] (fun o i wr => o = .string ⟨#[]⟩ ∧ i = .int .i64 0 ∧ wr = w4) (fun _ _ _ => 0)
    case atStart => exact ⟨rfl, rfl, rfl⟩
    case round =>
      obtain ⟨rfl, rfl, rfl⟩ := hrel
      go_wp2
      refine bodyPost_ret (v := .tuple #[dv none 0 0 0, .bool false]) ?_ rfl ⟨?_, rfl⟩
      · simp [results, Try.results42, go_sem, dv, y0, y1]
      · rw [← Hbase.out]; exact b4.trans (put2_at _ _ _ _)
  · obtain ⟨-, -, hm, hsl, -, -⟩ := Bm.num_only h1
    have hsn : s ≤ n := by have := Hl.out; omega
    have h1' : Bm.num 1000 (l.drop 0) = some (m, s) := h1
    have hc := number_some (base + 1) A n c 0 B false 1000 1000 l w3 x1 (Hr.out.below (b3.mono hrB)) (by omega) (by omega) (Nat.zero_le _) rfl (by omega) m s h1'
    rw [Nat.zero_add] at hc
    have Hc := Lib.hid hc; have H1 := Lib.hid h1
    clear hc h1 h1' hsl
    go_enter Try.func42, Try.ntmps42
    go_wp2_with fail
    rw [← Hbase.out, ← W3.out]
    refine Hc.out.mono ?_
    rintro e w4 ⟨rfl, hx4, t4⟩
    have x04 := x0.tn t4 (by omega)
    have x24 := x2.tn t4 (by omega)
    have b4 := b3.trans (t4.below (B := base) (by omega) (by omega))
    have z4 := t4.size
    rw [z3] at z4
    have X4 := Lib.hid hx4; have X04 := Lib.hid x04; have X24 := Lib.hid x24
    clear x0 x1 x2 t4 hx4 x04 x24
    go_wp2
    go_loopw [10, 17] (fun o i wr => TeRel base w A n c AT s st m l o i wr) (fun _ i _ => m - (intOf i).toNat)
    case atStart => exact ⟨[], [], none, 0, 0, s, st, rfl, rfl, Nat.zero_le _, hsn, by omega, X4.out, X24.out, X04.out, Oc.nil _ _ _ _, Ti.start, b4, z4⟩
    case round =>
      obtain ⟨N, D, F, d, k, p, en, rfl, rfl, hk, hp, hen, hx, h2, h0, hrow, hti, hbel, hz⟩ := hrel
      have hen2 : en ≤ 2000000 := by
        have : k * 1004 ≤ 1000 * 1004 := Nat.mul_le_mul_right _ (by omega)
        omega
      by_cases hlt : k < m
      · obtain ⟨q, hq⟩ : ∃ q, AT + p = q := ⟨_, rfl⟩
        have eq1 : (AT : Int) + (p : Int) = (q : Int) := by omega
        have hq2 : q ≤ 300000 := by omega
        have Hq := Lib.hid hq
        obtain ⟨gf, hgf⟩ : ∃ gf, gf = wr.heap.size := ⟨_, rfl⟩
        obtain ⟨w5, hw5⟩ : ∃ w5, w5 = wr.alloc (.cells #[.int .i64 (q : Int), .string ⟨#[]⟩, .int .i64 0, .int .i64 (en : Int)] 62) := ⟨_, rfl⟩
        have b5 : Below wr.heap.size wr w5 := by rw [hw5]; exact (Below.refl _ _).alloc (Nat.le_refl _) _
        have z5 : w5.heap.size = gf + 1 := by rw [hw5, hgf]; simp
        have bf5 : Box4 w5 gf (.int .i64 (q : Int)) (.string ⟨#[]⟩) (.int .i64 0) (.int .i64 (en : Int)) := by rw [hw5, hgf]; exact Box4.made _ _ _ _ _ _
        have x5 : Rd w5 (base + 1) A n c p false := hx.below b5 (by omega)
        have h25 := h2.below b5 (by omega)
        have h05 := h0.below b5 (by omega)
        have row5 := hrow.keep b5
        have bw5 := hbel.trans (b5.mono (by omega))
        have hgz : base + 3 ≤ gf := by omega
        have rb5 := Hr.out.below (bw5.mono hrB)
        have hFg : ∀ g, ob F = some g → g < gf := fun g hg => by rw [hgf]; exact (oc_ob hrow g hg).2
        obtain ⟨c0, c1, c2, f0, f1, f2, hlt1⟩ := hx
        obtain ⟨u0, u1, -, -, -⟩ := h2
        have W5 := Lib.hid hw5; have Hgf := Lib.hid hgf; have H05 := Lib.hid h05; have HFg := Lib.hid hFg; have Row5 := Lib.hid row5; have H25 := Lib.hid h25; have Bf5 := Lib.hid bf5
        clear hw5 hgf h0 h05 hFg hq hrow row5 b5 h25 bf5
        by_cases hbad : Bm.nam (l.drop p) = none ∨ ∃ a s, Bm.nam (l.drop p) = some (a, s) ∧ Bm.num 1000 (l.drop (p + s)) = none
        · have hno := hti.bad hlt fun j => by
            rcases hbad with h | ⟨a, s1, h, h2⟩
            · exact Bm.rdE_nonam h
            · exact Bm.rdE_nonum h h2
          have HT := Lib.hid (Bm.takeE_none (AT := AT) (st := st) H1.out hno)
          have Hc1 := Lib.hid (name_bad (base + 1) A n c p B l w5 x5 rb5 (by omega) (by omega) hp hbad)
          clear hno hti hbad
          go_wp2_with fail
          rw [← Hgf.out, ← W5.out]
          refine Hc1.out.mono ?_
          rintro e w6 ⟨v6, p6, fl6, rfl, x6, hp6, bad6, t6⟩
          have bf6 := Bf5.out.tn t6 (by omega)
          have h06 := H05.out.tn t6 (by omega)
          have bw6 := bw5.trans (t6.below (B := base) (by omega) (by omega))
          have z6 := t6.size
          obtain ⟨w7, hw7⟩ : ∃ w7, w7 = w6.setCell ⟨gf, 1, none⟩ (.string v6) := ⟨_, rfl⟩
          have t67 : Tn gf w6 w7 := by rw [hw7]; exact (Tn.of_below (Below.refl _ _)).set _
          have bf7 := bf6.set1 (.string v6)
          rw [← hw7] at bf7
          have x7 : Rd w7 (base + 1) A n c p6 fl6 := x6.tn t67 (by omega)
          have h07 := h06.tn t67 (by omega)
          have bw7 := bw6.trans (t67.below (B := base) (by omega) (by omega))
          have z7 := t67.size
          have rb7 := Hr.out.below (bw7.mono hrB)
          have Hc2 := Lib.hid (number_bad (base + 1) A n c p6 B fl6 l w7 x7 rb7 (by omega) (by omega) hp6 bad6)
          have Hw7 := Lib.hid hw7
          obtain ⟨d0, d1, d2, d3, k0, k1, k2, k3, hltf⟩ := bf6
          have Bf7 := Lib.hid bf7
          clear hw7 x7 x6 bad6 bf7 t6
          go_wp2_with fail
          rw [← Hw7.out]
          refine Hc2.out.mono ?_
          rintro e w8 ⟨v8, p8, rfl, x8, t8⟩
          have bf8 := Bf7.out.tn t8 (by omega)
          have h08 := h07.tn t8 (by omega)
          have bw8 := bw7.trans (t8.below (B := base) (by omega) (by omega))
          have z8 := t8.size
          obtain ⟨w9, hw9⟩ : ∃ w9, w9 = w8.setCell ⟨gf, 2, none⟩ (.int .i64 (v8 : Int)) := ⟨_, rfl⟩
          have t89 : Tn gf w8 w9 := by rw [hw9]; exact (Tn.of_below (Below.refl _ _)).set _
          have x9 : Rd w9 (base + 1) A n c p8 true := x8.tn t89 (by omega)
          have h09 := h08.tn t89 (by omega)
          have bw9 := bw8.trans (t89.below (B := base) (by omega) (by omega))
          clear d0 d1 d2 d3 k0 k1 k2 k3 hltf
          obtain ⟨d0, d1, d2, d3, k0, k1, k2, k3, hltf⟩ := bf8
          obtain ⟨c0, c1, c2, f0, f1, f2, hlt1⟩ := x9
          obtain ⟨y0, y1, g0, g1, hlt0⟩ := h09
          have Hw9 := Lib.hid hw9
          clear hw9 x8 t8 t89 h08 h07 h06
          go_wp2_with (rw [← Hw9.out])
          refine bodyPost_ret (v := .tuple #[dv none 0 0 0, .bool false]) ?_ rfl ⟨?_, ?_⟩
          · simp [results, Try.results42, go_sem, dv, y0, y1]
          · rw [← Hbase.out]; exact bw9.trans (put2_at _ _ _ _)
          · rw [HT.out]
        · obtain ⟨a, s1, hn1⟩ : ∃ a s1, Bm.nam (l.drop p) = some (a, s1) := by
            rcases h : Bm.nam (l.drop p) with _ | ⟨a, s1⟩
            · exact absurd (.inl h) hbad
            · exact ⟨a, s1, rfl⟩
          obtain ⟨z, s2, hn2⟩ : ∃ z s2, Bm.num 1000 (l.drop (p + s1)) = some (z, s2) := by
            rcases h : Bm.num 1000 (l.drop (p + s1)) with _ | ⟨z, s2⟩
            · exact absurd (.inr ⟨a, s1, hn1, h⟩) hbad
            · exact ⟨z, s2, rfl⟩
          obtain ⟨-, -, hal, hs1⟩ := Bm.nam_only hn1
          obtain ⟨-, -, hz1, hs2, -, -⟩ := Bm.num_only hn2
          rw [List.length_drop] at hs1 hs2
          have hs1n : p + s1 ≤ n := by have := Hl.out; omega
          have hs2n : p + s1 + s2 ≤ n := by have := Hl.out; omega
          have Hc1 := Lib.hid (name_some (base + 1) A n c p B false l w5 x5 rb5 (by omega) (by omega) hp a s1 hn1)
          obtain ⟨o, ho⟩ : ∃ o, o = Op.bytesLess N a := ⟨_, rfl⟩
          have Hfo := Lib.hid (fun W => follow_c a N o (by rw [ho, decide_eq_true hal, Bool.and_true]) W)
          have hno := fun h3 => hti.bad hlt fun j => Bm.rdE_noasc hn1 hn2 h3
          have hst2 := fun h3 => hti.step hlt hn1 hn2 h3
          rw [← ho] at hno hst2
          have Hno := Lib.hid hno; have Hst := Lib.hid hst2; have Hn2 := Lib.hid hn2; have Ho := Lib.hid ho; have Hal := Lib.hid hal
          clear hno hst2 hti hbad hs1 hs2 hn1 hn2 ho hal
          go_wp2_with fail
          rw [← Hgf.out, ← W5.out]
          refine Hc1.out.mono ?_
          rintro e w6 ⟨rfl, x6, t6⟩
          have bf6 := Bf5.out.tn t6 (by omega)
          have h06 := H05.out.tn t6 (by omega)
          have h26 := H25.out.tn t6 (by omega)
          have row6 := Row5.out.tn t6 (.inl (by omega))
          have bw6 := bw5.trans (t6.below (B := base) (by omega) (by omega))
          have z6 := t6.size
          obtain ⟨w7, hw7⟩ : ∃ w7, w7 = w6.setCell ⟨gf, 1, none⟩ (.string ⟨a.toArray⟩) := ⟨_, rfl⟩
          have t67 : Tn gf w6 w7 := by rw [hw7]; exact (Tn.of_below (Below.refl _ _)).set _
          have bf7 := bf6.set1 (.string ⟨a.toArray⟩)
          rw [← hw7] at bf7
          have x7 : Rd w7 (base + 1) A n c (p + s1) false := x6.tn t67 (by omega)
          have h07 := h06.tn t67 (by omega)
          have h27 := h26.tn t67 (by omega)
          have row7 := row6.tn t67 (.inr fun g hg => by have := HFg.out g hg; omega)
          have bw7 := bw6.trans (t67.below (B := base) (by omega) (by omega))
          have z7 := t67.size
          have rb7 := Hr.out.below (bw7.mono hrB)
          have Hc2 := Lib.hid (number_some (base + 1) A n c (p + s1) B false 1000 1000 l w7 x7 rb7 (by omega) (by omega) hs1n rfl (by omega) z s2 Hn2.out)
          have Hw7 := Lib.hid hw7
          obtain ⟨d0, d1, d2, d3, k0, k1, k2, k3, hltf⟩ := bf6
          have Bf7 := Lib.hid bf7; have Row7 := Lib.hid row7; have H27 := Lib.hid h27
          clear hw7 x7 x6 bf7 t6 row6 row7 h26 h27
          go_wp2_with fail
          rw [← Hw7.out]
          refine Hc2.out.mono ?_
          rintro e w8 ⟨rfl, x8, t8⟩
          have bf8 := Bf7.out.tn t8 (by omega)
          have h08 := h07.tn t8 (by omega)
          have h28 := H27.out.tn t8 (by omega)
          have row8 := Row7.out.tn t8 (.inl (by omega))
          have bw8 := bw7.trans (t8.below (B := base) (by omega) (by omega))
          have z8 := t8.size
          obtain ⟨w9, hw9⟩ : ∃ w9, w9 = w8.setCell ⟨gf, 2, none⟩ (.int .i64 (z : Int)) := ⟨_, rfl⟩
          have t89 : Tn gf w8 w9 := by rw [hw9]; exact (Tn.of_below (Below.refl _ _)).set _
          have z9 := t89.size
          have bf9 := bf8.set2 (.int .i64 (z : Int))
          rw [← hw9] at bf9
          have x9 : Rd w9 (base + 1) A n c (p + s1 + s2) false := x8.tn t89 (by omega)
          have h09 := h08.tn t89 (by omega)
          have h29 := h28.tn t89 (by omega)
          have row9 := row8.tn t89 (.inr fun g hg => by have := HFg.out g hg; omega)
          have bw9 := bw8.trans (t89.below (B := base) (by omega) (by omega))
          have X9 := Lib.hid x9; have Row9 := Lib.hid row9; have H29 := Lib.hid h29; have H09 := Lib.hid h09; have Bf9 := Lib.hid bf9
          clear d0 d1 d2 d3 k0 k1 k2 k3 hltf
          obtain ⟨d0, d1, d2, d3, k0, k1, k2, k3, hltf⟩ := bf8
          obtain ⟨c0, c1, c2, f0, f1, f2, hlt1⟩ := x9
          obtain ⟨e0, e1, e2, e3, -, -, -, -, hltf9⟩ := bf9
          obtain ⟨y0, y1, g0, g1, hlt0⟩ := h09
          clear u0 u1
          obtain ⟨u0, u1, v0, v1, hlt2⟩ := h29
          have Hw9 := Lib.hid hw9
          clear hw9 x8 t8 t89 h08 h07 h06 row8 row9 h28
          cases o with
          | false =>
            have HT := Lib.hid (Bm.takeE_none (AT := AT) (st := st) H1.out (Hno.out rfl))
            go_wp2_with (rw [← Hw9.out])
            refine (Hfo.out _).mono ?_
            rintro e w10 ⟨rfl, rfl⟩
            clear d0 d1 d2 d3 k0 k1 k2 k3 hltf
            go_wp2
            refine bodyPost_ret (v := .tuple #[dv none 0 0 0, .bool false]) ?_ rfl ⟨?_, ?_⟩
            · simp [results, Try.results42, go_sem, dv, y0, y1]
            · rw [← Hbase.out]; exact bw9.trans (put2_at _ _ _ _)
            · rw [HT.out]
          | true =>
            obtain ⟨E, hE⟩ : ∃ E, en + z + 4 = E := ⟨_, rfl⟩
            have hE3 : E ≤ 3000000 := by omega
            have HE := Lib.hid hE
            have hfe := fun W => fend_c q z en ⟨a.toArray⟩ _ W rfl E hE (by omega)
            have hfe2 : ∀ W, Calls Try.prog 43 #[.agg #[.int .i64 (q : Int), .string ⟨a.toArray⟩, .int .i64 (z : Int), .int .i64 (en : Int)]] W fun e w' => e = .returned (.int .i64 (E : Int)) ∧ Below W.heap.size W w' := fun W => (hfe W).mono fun e w' ⟨h1, h2⟩ => ⟨h1, by rw [h2]; exact (Below.refl _ _).alloc (Nat.le_refl _) _⟩
            have Hfe := Lib.hid hfe2
            clear hfe hfe2 hE
            obtain ⟨w10, hw10⟩ : ∃ w10, w10 = w9.alloc (.cells #[.int .i64 (q : Int), .string ⟨a.toArray⟩, .int .i64 (z : Int), .int .i64 (en : Int)] 62) := ⟨_, rfl⟩
            have b10 : Below w9.heap.size w9 w10 := by rw [hw10]; exact (Below.refl _ _).alloc (Nat.le_refl _) _
            have hlit : Rc 4 w10 (w9.heap.size + 1) (some ⟨w9.heap.size, 0, none⟩) 1 1 [.int .i64 (q : Int), .string ⟨a.toArray⟩, .int .i64 (z : Int), .int .i64 (en : Int)] := by
              rw [hw10]; exact Rc.lit (z := 4) w9 _ #[.int .i64 (q : Int), .string ⟨a.toArray⟩, .int .i64 (z : Int), .int .i64 (en : Int)] 1 rfl (by simp [maxLen])
            have row10 := Row9.out.keep b10
            have x10 : Rd w10 (base + 1) A n c (p + s1 + s2) false := X9.out.below b10 (by omega)
            have h210 := H29.out.below b10 (by omega)
            have h010 := H09.out.below b10 (by omega)
            have bf10 := Bf9.out.below b10 (by omega)
            have bw10 := bw9.trans (b10.mono (by omega))
            have z10 := b10.size
            have W10 := Lib.hid hw10; have Hlit := Lib.hid hlit; have Row10 := Lib.hid row10
            clear hw10 hlit row10 b10
            go_wp2_with (rw [← Hw9.out])
            refine (Hfo.out _).mono ?_
            rintro e w10' ⟨rfl, rfl⟩
            clear d0 d1 d2 d3 k0 k1 k2 k3 hltf
            go_wp2_with (at_builtin; rw [← W10.out]; go_must (refine Sl.wpAppAt fty rfl (.tmp 41) (.tmp 43) rfl (n := k) (m := 1) (N := k + 1) (base := base + 3) (ws := fvs D ++ [.int .i64 (q : Int), .string ⟨a.toArray⟩, .int .i64 (z : Int), .int .i64 (en : Int)]) rfl rfl Row10.out Hlit.out ?hs1 rfl rfl ?hs4 ?hs5 ?hs6 ?_))
            case hs1 => simp [Value.oneCell']
            case hs4 => omega
            case hs5 => omega
            case hs6 => omega
            intro F11 d11 w11 row11 g11
            have z11 := g11.size
            have x11 : Rd w11 (base + 1) A n c (p + s1 + s2) false := x10.keep z11 (g11.keepH (by omega) (oc_low Row10.out (by omega)))
            have h211 := h210.keep z11 (g11.keepH (by omega) (oc_low Row10.out (by omega)))
            have h011 := h010.keep z11 (g11.keepH (by omega) (oc_low Row10.out (by omega)))
            have bf11 := bf10.keep z11 (g11.keepH (by omega) (fun q => by have := HFg.out gf q.symm; omega))
            have bw11 := bw10.trans ((g11.belowC Row10.out (by omega)).mono (show base ≤ base + 3 by omega))
            obtain ⟨w12, hw12⟩ : ∃ w12, w12 = w11.setCell ⟨base + 1 + 1, 0, none⟩ (.slice F11 (k + 1) d11) := ⟨_, rfl⟩
            have t12 : Tn (base + 1 + 1) w11 w12 := by rw [hw12]; exact (Tn.of_below (Below.refl _ _)).set _
            have z12 := t12.size
            have x12 : Rd w12 (base + 1) A n c (p + s1 + s2) false := x11.tn t12 (by omega)
            have h212 := h211.set0 (.slice F11 (k + 1) d11)
            rw [← hw12] at h212
            have h012 := h011.tn t12 (by omega)
            have bf12 := bf11.tn t12 (by omega)
            have row12 := row11.tn t12 (.inl (by omega))
            have bw12 := bw11.trans (t12.below (B := base) (by omega) (by omega))
            have X12 := Lib.hid x12; have H212 := Lib.hid h212; have H012 := Lib.hid h012; have Row12 := Lib.hid row12; have Bf12 := Lib.hid bf12
            have Hw12 := Lib.hid hw12
            clear e0 e1 e2 e3 c0 c1 c2 f0 f1 f2 hlt1 y0 y1 g0 g1 hlt0 u0 u1 v0 v1 hlt2
            obtain ⟨e0, e1, e2, e3, -, -, -, -, hltf12⟩ := bf12
            obtain ⟨u0, u1, v0, v1, hlt2⟩ := h211
            clear x10 h210 h010 bf10 x11 h011 bf11 row11 g11 hw12 t12 x12 h212 h012 row12
            go_wp2_with (rw [← Hw12.out])
            refine (Hfe.out _).mono ?_
            rintro e w13 ⟨rfl, b13⟩
            have x13 : Rd w13 (base + 1) A n c (p + s1 + s2) false := X12.out.below b13 (by omega)
            have h213 := H212.out.below b13 (by omega)
            have h013 := H012.out.below b13 (by omega)
            have bf13 := Bf12.out.below b13 (by omega)
            have row13 := Row12.out.keep b13
            have z13 := b13.size
            have bw13 := bw12.trans (b13.mono (by omega))
            obtain ⟨w14, hw14⟩ : ∃ w14, w14 = w13.setCell ⟨base + 1 + 1, 1, none⟩ (.int .i64 (E : Int)) := ⟨_, rfl⟩
            have t14 : Tn (base + 1 + 1) w13 w14 := by rw [hw14]; exact (Tn.of_below (Below.refl _ _)).set _
            have z14 := t14.size
            have x14 : Rd w14 (base + 1) A n c (p + s1 + s2) false := x13.tn t14 (by omega)
            have h214 := h213.set1 (.int .i64 (E : Int))
            rw [← hw14] at h214
            have h014 := h013.tn t14 (by omega)
            have bf14 := bf13.tn t14 (by omega)
            have row14 := row13.tn t14 (.inl (by omega))
            have bw14 := bw13.trans (t14.below (B := base) (by omega) (by omega))
            have X14 := Lib.hid x14; have H214 := Lib.hid h214; have H014 := Lib.hid h014; have Row14 := Lib.hid row14
            have Hw14 := Lib.hid hw14
            clear e0 e1 e2 e3 u0 u1 v0 v1 hlt2 hltf12
            obtain ⟨e0, e1, e2, e3, -, -, -, -, hltf14⟩ := bf14
            obtain ⟨u0, u1, v0, v1, hlt2⟩ := h213
            clear x13 h013 bf13 row13 hw14 t14 x14 h214 h014 row14
            go_wp2_with (rw [← Hw14.out])
            go_roundw
            case rel =>
              refine ⟨a, D ++ [⟨AT + p, a, z, en⟩], F11, d11, k + 1, p + s1 + s2, E, rfl, by go_num, by omega, hs2n, ?_, X14.out, H214.out, H014.out, ?_, by have := Hst.out trivial; rwa [HE.out] at this, bw14, by omega⟩
              · rw [Nat.succ_mul]; have := HE.out; omega
              · have e1 : fvs (D ++ [⟨AT + p, a, z, en⟩]) = fvs D ++ [.int .i64 (q : Int), .string ⟨a.toArray⟩, .int .i64 (z : Int), .int .i64 (en : Int)] := by rw [fvs_app, Hq.out]; rfl
                rw [e1]
                exact Row14.out
            case measure => simp [intOf]; omega
      · have hkm : k = m := by omega
        have hfin := hti.end_ hkm
        subst hkm
        obtain ⟨c0, c1, c2, f0, f1, f2, hlt1⟩ := hx
        obtain ⟨y0, y1, g0, g1, hlt0⟩ := h0
        obtain ⟨u0, u1, -, -, -⟩ := h2
        have hDl0 : D.length = k := by have := hrow.1; rw [fvs_len] at this; omega
        have hrf : RcS 4 ((wr.setCell ⟨base, 0, none⟩ (.slice F k d)).setCell ⟨base, 1, none⟩ (.int .i64 (en : Int))) (Fr w.heap.size ((wr.setCell ⟨base, 0, none⟩ (.slice F k d)).setCell ⟨base, 1, none⟩ (.int .i64 (en : Int)))) F k d (fvs D) := ((hrow.tn (tn_put2 wr base _ _) (.inl (by omega))).rcS).keep (stays_weak fun b hb => ⟨by have := hb.1; have := Hbase.out; omega, hb.2⟩)
        by_cases hpn : p = n
        · have hT := Bm.takeE_ok H1.out hfin (by rw [hpn, Hl.out])
          have hDl := hDl0
          subst hpn
          have Hrf := Lib.hid hrf; have HT := Lib.hid hT; have HDl := Lib.hid hDl
          clear hrf hT hfin hrow hti hDl hDl0
          go_wp2
          refine bodyPost_ret (v := .tuple #[dv F k d en, .bool true]) ?_ rfl ⟨?_, ?_⟩
          · simp [results, Try.results42, go_sem, dv, y0, y1]
          · rw [← Hbase.out]; exact hbel.trans (put2_at _ _ _ _)
          · rw [HT.out]
            refine ⟨F, d, by rw [HDl.out], ?_⟩
            rw [HDl.out]
            exact Hrf.out
        · have HT := Lib.hid (Bm.takeE_more (AT := AT) (st := st) H1.out hfin (by rw [Hl.out]; exact hpn))
          have hpn2 : p < n := by omega
          have dp : decide ((p : Int) < (n : Int)) = true := by simp; omega
          clear hrf hfin hrow hti hpn hDl0
          go_wp2
          refine bodyPost_ret (v := .tuple #[dv none 0 0 0, .bool false]) ?_ rfl ⟨?_, ?_⟩
          · simp [results, Try.results42, go_sem, dv, y0, y1]
          · rw [← Hbase.out]; exact hbel.trans (put2_at _ _ _ _)
          · rw [HT.out]
end Go.Proofs.Ytdhbfoelpdoofaa
