/-
  value: what the program's functions must come to (the laws' walks rest on this alone); a call of Do with values written out; alive.
-/
import Derived.Test.YtkkjgiejnblopaaDoorPJ
namespace Go.Proofs.YtkkjgiejnblopaaDoor
open Go.RowKit Vl

/-- What value's functions come to. -/
structure Vls : Prop where
  do_ : ∀ (op : Int) (A : Option Addr) (n c : Nat) (l : List V) (w : World), Gl w → I op → Rc 3 w w.heap.size A n c (vvs l) → n ≤ 1000000 → (∀ v ∈ l, I v.n ∧ v.s.length ≤ 1000000) → Calls Tryd.prog 10 #[.int .i64 op, .slice A n c] w (RetD w (doV op l))
  result : ∀ (op : Int) (A : Option Addr) (n c : Nat) (L : List Bool) (w : World), I op → Rc 1 w w.heap.size A n c (lvb L) → n ≤ 1000000 → Calls Tryd.prog 12 #[.int .i64 op, .slice A n c] w fun e w' => e = .returned (.tuple #[.bool (res op L).1, .int .i64 ((res op L).2 : Int)]) ∧ Below w.heap.size w w'
  arity : ∀ (op : Int) (w : World), I op → Calls Tryd.prog 14 #[.int .i64 op] w (RetV w (.int .i64 (ar op : Int)))
  num : ∀ (n : Int) (w : World), I n → Calls Tryd.prog 17 #[.int .i64 n] w (RetV w (.agg #[.bool false, .int .i64 n, .string ⟨#[]⟩]))
  text : ∀ (s : List UInt8) (w : World), s.length ≤ 1000000 → Calls Tryd.prog 18 #[st s] w (RetV w (.agg #[.bool true, .int .i64 0, .string ⟨(s.take 1000).toArray⟩]))
  compare : ∀ (a b : V) (w : World), isV a = true → isV b = true → I a.n → I b.n → Calls Tryd.prog 19 #[vv a, vv b] w (RetV w (.int .i64 (cmp a b)))
  hash : ∀ (s : List UInt8) (w : World), s.length ≤ 1000000 → Calls Tryd.prog 20 #[st s] w (RetV w (.int .i64 (Vl.hash s : Int)))

theorem vls : Vls where
  do_ := fun op A n c l w hg _ hr hn hl => pDo_c op A n c l w hg hr hn (fun v hv => (hl v hv).1)
  result := fun op A n c L w _ hr hn => pResult_c op A n c L w hr hn
  arity := fun op w _ => pArity_c op w
  num := fun n w _ => pnum_c n w
  text := fun s w hs => ptext_c s hs w
  compare := fun a b w ha hb _ _ => pcompare_c a b w ha hb
  hash := fun s w hs => (pHash_c s hs w).mono fun e w' ⟨h1, h2⟩ => ⟨h1, by rw [← h2]; exact Below.refl _ _⟩
/-- The result of Do as plain parts. -/
def RetP (w : World) (t : Bool) (n : Int) (s : List UInt8) (x : Nat) (e : Ending) (w' : World) : Prop := e = .returned (.tuple #[.agg #[.bool t, .int .i64 n, .string ⟨s.toArray⟩], .int .i64 (x : Int)]) ∧ Below w.heap.size w w'
theorem do_lit (S : Vls) (op : Int) (l : List V) (T : TypeId) (cs : Array Value) (hcs : cs.toList = vvs l) (k : Nat) (hk : l.length = k) (hk2 : k ≤ 1000) (hop : I op) (hl : ∀ v ∈ l, I v.n ∧ v.s.length ≤ 1000000) (t : Bool) (n : Int) (s : List UInt8) (x : Nat) (hres : doV op l = (⟨t, n, s⟩, x)) (w w1 : World) (hG : Gl w) (hw1 : w1 = w.alloc (.cells cs T)) :
    Calls Tryd.prog 10 #[.int .i64 op, .slice (some ⟨w.heap.size, 0, none⟩) k k] w1 (RetP w t n s x) := by
  have z1 : w1.heap.size = w.heap.size + 1 := by rw [hw1]; simp
  have b1 : Below w.heap.size w w1 := by rw [hw1]; exact (Below.refl _ _).alloc (Nat.le_refl _) _
  have hsz : cs.size = k * 3 := by rw [← Array.length_toList, hcs, vvs_len, hk]
  have hrow : Rc 3 w1 w1.heap.size (some ⟨w.heap.size, 0, none⟩) k k (vvs l) := by
    have h := Rc.lit (z := 3) w T cs k hsz (by simp only [maxLen]; omega)
    rw [hcs, ← hw1] at h
    exact h.more (by omega)
  refine (S.do_ op _ k k l w1 (hG.below' b1) hop hrow (by omega) hl).mono fun e w' ⟨h0, h1⟩ => ?_
  rw [hres] at h0
  exact ⟨h0, b1.trans (h1.mono (by omega))⟩
theorem alive_do1 : doV 11 [txt [97, 98, 99], Vl.num 1, Vl.num 5] = (⟨true, 0, [98, 99]⟩, 0) := by decide
theorem alive_do2 : doV 4 [txt [97], Vl.num 1] = (⟨false, 0, []⟩, 11) := by decide
theorem alive_do3 : doV 3 [] = (⟨false, 0, []⟩, 1) := by decide

theorem one_ok (n : Int) (h : I n) (s : List UInt8) (hs : s.length ≤ 1000000) (t : Bool) : I (V.mk t n s).n ∧ (V.mk t n s).s.length ≤ 1000000 := ⟨h, hs⟩
set_option maxRecDepth 100000 in
set_option maxHeartbeats 2000000 in
theorem alive13_c (S : Vls) (w : World) (hG : Gl w) : Calls Tryd.prog 9 #[] w (RetV w (.bool true)) := by
  have ht1 := fun W => (show Calls Tryd.prog 18 #[.string ⟨#[97, 98, 99]⟩] W (RetV W (.agg #[.bool true, .int .i64 0, .string ⟨#[97, 98, 99]⟩])) from S.text [97, 98, 99] W (by simp))
  have ht2 := fun W => (show Calls Tryd.prog 18 #[.string ⟨#[97]⟩] W (RetV W (.agg #[.bool true, .int .i64 0, .string ⟨#[97]⟩])) from S.text [97] W (by simp))
  have hn1 := fun W => S.num 1 W (by unfold I; omega)
  have hn5 := fun W => S.num 5 W (by unfold I; omega)
  have Ht1 := Lib.hid ht1; have Ht2 := Lib.hid ht2; have Hn1 := Lib.hid hn1; have Hn5 := Lib.hid hn5; have HS := Lib.hid S; have HG := Lib.hid hG
  clear ht1 ht2 hn1 hn5 S hG
  go_enter Tryd.func9, Tryd.ntmps9
  go_wp2_with fail
  refine (Ht1.out _).mono ?_
  rintro e w1 ⟨rfl, b1⟩
  go_wp2_with fail
  refine (Hn1.out _).mono ?_
  rintro e w2 ⟨rfl, b2⟩
  go_wp2_with fail
  refine (Hn5.out _).mono ?_
  rintro e w3 ⟨rfl, b3⟩
  have bb3 := b1.trans ((b2.mono b1.size).trans (b3.mono (by have := b1.size; have := b2.size; omega)))
  obtain ⟨w4, hw4⟩ : ∃ w4, w4 = w3.alloc (.cells #[.bool true, .int .i64 0, .string ⟨#[97, 98, 99]⟩, .bool false, .int .i64 1, .string ⟨#[]⟩, .bool false, .int .i64 5, .string ⟨#[]⟩] 27) := ⟨_, rfl⟩
  have hc := do_lit HS.out 11 [txt [97, 98, 99], Vl.num 1, Vl.num 5] _ #[.bool true, .int .i64 0, .string ⟨#[97, 98, 99]⟩, .bool false, .int .i64 1, .string ⟨#[]⟩, .bool false, .int .i64 5, .string ⟨#[]⟩] rfl 3 rfl (by omega) (by unfold I; omega)
    (fun v hv => by simp at hv; rcases hv with rfl | rfl | rfl <;> simp [I, txt, Vl.num]) _ _ _ _ alive_do1 w3 w4 (HG.out.below' bb3) hw4
  have W4 := Lib.hid hw4; have Hc := Lib.hid hc; have BB3 := Lib.hid bb3
  clear hw4 hc b1 b2 b3 bb3
  go_wp2_with (rw [← W4.out])
  refine Hc.out.mono ?_
  rintro e w5 ⟨rfl, b5⟩
  have hz3 := BB3.out.size
  have bb5 := BB3.out.trans (b5.mono hz3)
  obtain ⟨w6, hw6⟩ : ∃ w6, w6 = w5.alloc (.cells #[.bool true, .int .i64 0, .string ⟨#[98, 99]⟩] 27) := ⟨_, rfl⟩
  have b6 : Below w5.heap.size w5 w6 := by rw [hw6]; exact (Below.refl _ _).alloc (Nat.le_refl _) _
  have x6 : Bx w6 w5.heap.size (.bool true) (.int .i64 0) (.string ⟨#[98, 99]⟩) := by rw [hw6]; exact Bx.made _ _ _ _ _
  have bb6 := bb5.trans (b6.mono bb5.size)
  have W6 := Lib.hid hw6; have X6 := Lib.hid x6; have BB6 := Lib.hid bb6
  clear hw6 b6 x6 bb5 bb6 b5 hz3
  go_wp2_with (rw [← W6.out])
  refine (Ht2.out _).mono ?_
  rintro e w7 ⟨rfl, b7⟩
  go_wp2_with fail
  refine (Hn1.out _).mono ?_
  rintro e w8 ⟨rfl, b8⟩
  have x8 := (X6.out.below b7 X6.out.lt).below b8 (Nat.lt_of_lt_of_le X6.out.lt b7.size)
  have bb8 := BB6.out.trans ((b7.trans (b8.mono b7.size)).mono BB6.out.size)
  obtain ⟨w9, hw9⟩ : ∃ w9, w9 = w8.alloc (.cells #[.bool true, .int .i64 0, .string ⟨#[97]⟩, .bool false, .int .i64 1, .string ⟨#[]⟩] 27) := ⟨_, rfl⟩
  have hc := do_lit HS.out 4 [txt [97], Vl.num 1] _ #[.bool true, .int .i64 0, .string ⟨#[97]⟩, .bool false, .int .i64 1, .string ⟨#[]⟩] rfl 2 rfl (by omega) (by unfold I; omega)
    (fun v hv => by simp at hv; rcases hv with rfl | rfl <;> simp [I, txt, Vl.num]) _ _ _ _ alive_do2 w8 w9 (HG.out.below' bb8) hw9
  have W9 := Lib.hid hw9; have Hc := Lib.hid hc; have BB8 := Lib.hid bb8; have X8 := Lib.hid x8
  clear hw9 hc b7 b8 bb8 x8
  go_wp2_with (rw [← W9.out])
  refine Hc.out.mono ?_
  rintro e w10 ⟨rfl, b10⟩
  have x10 := X8.out.below b10 X8.out.lt
  have bb10 := BB8.out.trans (b10.mono BB8.out.size)
  obtain ⟨w11, hw11⟩ : ∃ w11, w11 = w10.alloc (.cells #[.bool false, .int .i64 0, .string ⟨#[]⟩] 27) := ⟨_, rfl⟩
  have b11 : Below w10.heap.size w10 w11 := by rw [hw11]; exact (Below.refl _ _).alloc (Nat.le_refl _) _
  have x11 := x10.below b11 x10.lt
  have bb11 := bb10.trans (b11.mono bb10.size)
  have X11 := Lib.hid x11; have BB11 := Lib.hid bb11; have W11 := Lib.hid hw11
  have hd3 := fun W (hW : W = w11) => HS.out.do_ 3 none 0 0 [] W (by rw [hW]; exact HG.out.below' bb11) (by unfold I; omega) ⟨rfl, Nat.le_refl _, by simp [maxLen], fun h => absurd h (by omega)⟩ (by omega) (fun v hv => by cases hv)
  simp only [alive_do3] at hd3
  have hd3 := (show Calls Tryd.prog 10 #[.int .i64 3, .slice none 0 0] w11 (RetP w11 false 0 [] 1) from hd3 w11 rfl)
  have Hd3 := Lib.hid hd3
  clear hw11 b11 x11 bb10 bb11 b10 x10 hd3
  go_wp2_with fail
  rw [← W11.out]
  refine Hd3.out.mono ?_
  rintro e w12 ⟨rfl, b12⟩
  have x12 := X11.out.below b12 X11.out.lt
  have bb12 := BB11.out.trans (b12.mono BB11.out.size)
  obtain ⟨w13, hw13⟩ : ∃ w13, w13 = w12.alloc (.cells #[.bool false, .int .i64 0, .string ⟨#[]⟩] 27) := ⟨_, rfl⟩
  have b13 : Below w12.heap.size w12 w13 := by rw [hw13]; exact (Below.refl _ _).alloc (Nat.le_refl _) _
  have x13 := x12.below b13 x12.lt
  have bb13 := bb12.trans (b13.mono bb12.size)
  rw [hw13] at x13
  have BB13 := Lib.hid bb13; have W13 := Lib.hid hw13
  obtain ⟨c0, c1, c2, -, -, -, -⟩ := x13
  clear hw13 b13 x12 bb12 bb13 b12
  go_wp2_with fail
  rw [← W13.out]
  go_ret
  exact ⟨rfl, BB13.out⟩
end Go.Proofs.YtkkjgiejnblopaaDoor
