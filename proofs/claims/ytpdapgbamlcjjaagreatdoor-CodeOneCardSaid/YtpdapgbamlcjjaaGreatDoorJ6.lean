/-
  Joined: Re Rk Rf.
-/
import Derived.Test.YtpdapgbamlcjjaaGreatDoorJ2
import Derived.Test.YtpdapgbamlcjjaaGreatDoorJ5
import Derived.Lib.ConvBytes
import Derived.Laws.Tables
import Derived.Deep.WholeRow
import Derived.Lib.LazyBuf
import Derived.Lib.SlBytesConst
import Derived.Laws.MakeOwn
/-
  Blocks of many cells; what a byte's replacement is; conversions and makings.
-/
namespace Go.Proofs.YtpdapgbamlcjjaaGreatDoor
open Go.RowKit Vl

/-- A text as a value of the model's. -/
abbrev st (s : List UInt8) : Value := .string ⟨s.toArray⟩
/-- What a call that keeps the blocks below hands over. -/
def RetV (w : World) (v : Value) (e : Ending) (w' : World) : Prop := e = .returned v ∧ Below w.heap.size w w'
theorem bty : U8 Tryz.prog 54 5 9 := ⟨Tryz.underlying54, Tryz.underlying5, Tryz.underlying9, by kernel_rfl⟩
theorem wty : U8 Tryz.prog 185 5 9 := ⟨Tryz.underlying185, Tryz.underlying5, Tryz.underlying9, by kernel_rfl⟩
theorem ext_eq (l : List UInt8) (a b : Nat) : (ByteArray.mk l.toArray).extract a b = ByteArray.mk ((l.take b).drop a).toArray := by
  have h : ((ByteArray.mk l.toArray).extract a b).data.toList = ((l.take b).drop a) := by
    simp [ByteArray.data_extract, List.extract_eq_take_drop, List.drop_take]
  cases h2 : (ByteArray.mk l.toArray).extract a b with
  | mk x => rw [h2] at h; rw [← h]
theorem str_drop (s : ByteArray) (k : Nat) (h : k < s.size) : s.data.toList.drop k = s[k] :: s.data.toList.drop (k + 1) := by
  have hl : k < s.data.toList.length := by rw [str_len]; exact h
  rw [List.drop_eq_getElem_cons hl]
  rfl

/-- A block of N cells, the j-th of which holds F j. -/
structure Blk (w : World) (g N : Nat) (F : Nat → Value) : Prop where
  c : ∀ j, j < N → w.cell? ⟨g, j, none⟩ = some (F j)
  fz : ∀ k, w.frozen? ⟨g, k, none⟩ = false
  lt : g < w.heap.size
theorem Blk.made (w : World) (T : TypeId) (cs : Array Value) (N : Nat) (F : Nat → Value) (h : ∀ j, j < N → cs[j]? = some (F j)) : Blk (w.alloc (.cells cs T)) w.heap.size N F :=
  ⟨fun j hj => by simp; exact h j hj, fun k => by simp, by simp⟩
theorem Blk.keep {w w' : World} {g N : Nat} {F : Nat → Value} (h : Blk w g N F) (hs : w.heap.size ≤ w'.heap.size) (hg : w'.heap[g]? = w.heap[g]?) : Blk w' g N F := by
  have c : ∀ k, w'.cell? ⟨g, k, none⟩ = w.cell? ⟨g, k, none⟩ := fun k => by unfold World.cell?; rw [hg]
  have f : ∀ k, w'.frozen? ⟨g, k, none⟩ = w.frozen? ⟨g, k, none⟩ := fun k => by unfold World.frozen?; rw [hg]
  exact ⟨fun j hj => (c j).trans (h.c j hj), fun k => (f k).trans (h.fz k), Nat.lt_of_lt_of_le h.lt hs⟩
theorem Blk.below {w w' : World} {g N B : Nat} {F : Nat → Value} (h : Blk w g N F) (hb : Below B w w') (hg : g < B) : Blk w' g N F := h.keep hb.size (hb.block g hg)
theorem Blk.drewN {w : World} {g N : Nat} {F : Nat → Value} (h : Blk w g N F) (q : Nat) : Blk (w.drewN q) g N F := ⟨h.c, h.fz, h.lt⟩
theorem Blk.set {w : World} {g N : Nat} {F : Nat → Value} (h : Blk w g N F) (k : Nat) (v : Value) : Blk (w.setCell ⟨g, k, none⟩ v) g N (fun j => if j = k then v else F j) :=
  ⟨fun j hj => by
    split
    · rename_i e; subst e; exact World.cell?_setCell_same w _ _ (h.c j hj)
    · rename_i e; exact (World.cell?_setCell_other w _ _ _ (fun q => e (congrArg Addr.off q).symm)).trans (h.c j hj), fun j => by simp [h.fz j], by simp [h.lt]⟩
theorem Blk.congr {w : World} {g N : Nat} {F G : Nat → Value} (h : Blk w g N F) (e : ∀ j, j < N → F j = G j) : Blk w g N G := ⟨fun j hj => by rw [← e j hj]; exact h.c j hj, h.fz, h.lt⟩
theorem Blk.grown {w w' : World} {g N : Nat} {F : Nat → Value} {A A' : Option Addr} (h : Blk w g N F) (hg : Grows w w' A A') (hne : some g ≠ ob A) : Blk w' g N F := h.keep hg.size (hg.heap g h.lt hne)

/-- '[]byte(s)'. -/
theorem conv_bytes (w : World) (s : ByteArray) (hs : s.size ≤ 1000000) : ∃ c w', (convert 9 54 (.string s)).run Tryz.prog w = .ok (.slice (some ⟨w.heap.size, 0, none⟩) s.size c) w' ∧ Rb w' w'.heap.size (some ⟨w.heap.size, 0, none⟩) s.size c s.data.toList ∧ Below w.heap.size w w' := by
  refine ⟨_, _, Lib.run_convert_string_bytes w 9 54 5 s Tryz.underlying9 Tryz.underlying54 Tryz.underlying5, ⟨str_len s, grownCap_ge _ _ _ _, grownCap_le_maxLen _ _ _ _ (by unfold maxLen; omega), fun _ => ⟨_, _, rfl, by rw [Lib.bytesWorld_size]; omega, fun j x hx => ?_⟩⟩, ⟨rfl, rfl, rfl, by rw [Lib.bytesWorld_size]; omega, fun k hk => Lib.bytesWorld_at_old w _ s k hk⟩⟩
  have hj : j < s.data.toList.length := by
    rcases Nat.lt_or_ge j s.data.toList.length with h' | h'
    · exact h'
    · rw [List.getElem?_eq_none h'] at hx; cases hx
  rw [Nat.zero_add, Lib.bytesWorld_cell w _ s j (by rw [← str_len]; exact hj)]
  rw [List.getD_eq_getElem?_getD, hx]; rfl
theorem Rb.lit (w : World) (e : TypeId) (fz : Nat × Nat) (cs : Array Value) (l : List UInt8) (n : Nat) (h : cs.toList = bvs l) (hn : l.length = n) (hl : n ≤ 1000000) : Rb (w.alloc (.cells cs e fz)) (w.heap.size + 1) (some ⟨w.heap.size, 0, none⟩) n n l := by
  refine ⟨hn, Nat.le_refl _, by simp only [maxLen]; omega, fun _ => ⟨_, _, rfl, by omega, fun j x hx => ?_⟩⟩
  rw [cell_of_row (w.alloc (.cells cs e fz)) w.heap.size (0 + j) cs e fz (by show (w.heap.push _)[w.heap.size]? = _; simp), Nat.zero_add, ← Array.getElem?_toList, h]
  simp [bvs, hx]

/-- How a byte's replacement lies in memory. -/
def Es (w : World) (S : Nat → Prop) (v : Value) (c : UInt8) : Prop :=
  (Cd.esc c = [c] ∧ v = .slice none 0 0) ∨ ((Cd.esc c).length = 2 ∧ ∃ b k, v = .slice (some ⟨b, 0, none⟩) 2 k ∧ S b ∧ 2 ≤ k ∧ k ≤ maxLen ∧ ∀ j x, (Cd.esc c)[j]? = some x → w.cell? ⟨b, j, none⟩ = some (.int .u8 (x.toNat : Int)))
theorem Es.keep {w w' : World} {S S' : Nat → Prop} {v : Value} {c : UInt8} (h : Es w S v c) (k : Stays w w' S S') : Es w' S' v c := by
  rcases h with h | ⟨h1, b, m, h2, h3, h4, h5, h6⟩
  · exact .inl h
  · exact .inr ⟨h1, b, m, h2, k.1 b h3, h4, h5, fun j x hx => (k.2 ⟨b, j, none⟩ h3).trans (h6 j x hx)⟩
/-- A byte replacer in memory: its block is g, which and what else it has was made from 'base' on. -/
structure Bsr (w : World) (base g : Nat) : Prop where
  ex : ∃ F A c, Blk w g 257 F ∧ F 256 = .slice A 3 c ∧ (∀ x : UInt8, Es w (Fr base w) (F x.toNat) x) ∧ RcS 1 w (Fr base w) A 3 c (lvs [[10], [34], [92]])
  ge : base ≤ g
theorem fr_stays {w w' : World} {base : Nat} (hs : w.heap.size ≤ w'.heap.size) (h : ∀ k, base ≤ k → k < w.heap.size → w'.heap[k]? = w.heap[k]?) : Stays w w' (Fr base w) (Fr base w') :=
  ⟨fun b hb => ⟨hb.1, Nat.lt_of_lt_of_le hb.2 hs⟩, fun p hp => by unfold World.cell?; rw [h p.block hp.1 hp.2]⟩
theorem Bsr.keep {w w' : World} {base g : Nat} (h : Bsr w base g) (hs : w.heap.size ≤ w'.heap.size) (hk : ∀ k, base ≤ k → k < w.heap.size → w'.heap[k]? = w.heap[k]?) : Bsr w' base g := by
  obtain ⟨⟨F, A, c, h1, h2, h3, h4⟩, hg⟩ := h
  have st := fr_stays hs hk
  exact ⟨⟨F, A, c, h1.keep hs (hk g hg h1.lt), h2, fun x => (h3 x).keep st, h4.keep st⟩, hg⟩
end Go.Proofs.YtpdapgbamlcjjaaGreatDoor

/-
  strings.(*Replacer).buildOnce and Replace, over any contracts of build and of the replacer's own Replace.
-/
namespace Go.Proofs.YtpdapgbamlcjjaaGreatDoor
open Go.RowKit Vl

/-- Nothing but block R has turned. -/
def OnlyR (R : Nat) (w w' : World) : Prop := w.heap.size ≤ w'.heap.size ∧ ∀ k, k < w.heap.size → k ≠ R → w'.heap[k]? = w.heap[k]?
theorem onlyR_set (R k : Nat) (v : Value) (w : World) : OnlyR R w (w.setCell ⟨R, k, none⟩ v) := ⟨by simp, fun j _ hj => by
  show (w.heap.modify R _)[j]? = w.heap[j]?
  rw [Array.getElem?_modify, if_neg (fun e => hj e.symm)]⟩
theorem OnlyR.trans {R : Nat} {a b c : World} (h : OnlyR R a b) (k : OnlyR R b c) : OnlyR R a c := ⟨Nat.le_trans h.1 k.1, fun j hj hne => (k.2 j (Nat.lt_of_lt_of_le hj h.1) hne).trans (h.2 j hj hne)⟩
theorem below_cell {R : Nat} {a w : World} (h : Below R a w) (k : Nat) (v : Value) : Below R a (w.setCell ⟨R, k, none⟩ v) := h.setCell (Nat.le_refl R) v
theorem below_drew {R : Nat} {a w : World} (h : Below R a w) : Below R a w.drew := h.trans ⟨rfl, rfl, rfl, Nat.le_refl _, fun _ _ => rfl⟩
theorem onlyR_drew (R : Nat) (w : World) : OnlyR R w w.drew := ⟨Nat.le_refl _, fun _ _ _ => rfl⟩

set_option maxRecDepth 100000 in
set_option maxHeartbeats 2000000 in
theorem onceB_c (R : Nat) (w : World) (Q : World → Nat → Prop) (v0 v1 v2 v3 v4 : Value) (hR : B5 w R v0 v1 v2 v3 v4)
    (hB : Calls Tryz.prog 75 #[.pointer (some ⟨R, 0, none⟩)] w fun e w' => ∃ g, e = .returned (.iface 129 (.pointer (some ⟨g, 0, none⟩))) ∧ Q w' g ∧ Below w.heap.size w w') :
    Calls Tryz.prog 60 #[.pointer (some ⟨R, 0, none⟩)] w fun e w' => e = .returned (.tuple #[]) ∧ ∃ g w1, Q w1 g ∧ Below w.heap.size w w1 ∧ w' = (w1.setCell ⟨R, 3, none⟩ (.iface 129 (.pointer (some ⟨g, 0, none⟩)))).setCell ⟨R, 4, none⟩ (.slice none 0 0) := by
  have HB := Lib.hid hB; have HR := Lib.hid hR
  clear hB hR
  go_enter Tryz.func60, Tryz.ntmps60
  go_wp2_with fail
  refine HB.out.mono ?_
  rintro e w1 ⟨g, rfl, hq, b1⟩
  have R1 := HR.out.below b1 HR.out.lt
  have R2 := R1.set 3 (.iface 129 (.pointer (some ⟨g, 0, none⟩)))
  have Hq := Lib.hid hq; have B1 := Lib.hid b1
  have q3 := R1.c3; have f3 := R1.fz 3; have q4 := R2.c4; have f4 := R2.fz 4
  clear hq b1 R1 R2
  go_wp2
  go_end0
  exact ⟨rfl, g, w1, Hq.out, B1.out, rfl⟩

set_option maxRecDepth 100000 in
set_option maxHeartbeats 2000000 in
theorem replaceB_c (R : Nat) (X : ByteArray) (v : Value) (w : World) (Q : World → Nat → Prop) (v2 v3 v4 : Value) (hR : B5 w R (.int .u32 0) (.int .i32 0) v2 v3 v4)
    (hB : Calls Tryz.prog 75 #[.pointer (some ⟨R, 0, none⟩)] (w.setCell ⟨R, 1, none⟩ (.int .i32 1)) fun e w' => ∃ g, e = .returned (.iface 129 (.pointer (some ⟨g, 0, none⟩))) ∧ Q w' g ∧ Below (w.setCell ⟨R, 1, none⟩ (.int .i32 1)).heap.size (w.setCell ⟨R, 1, none⟩ (.int .i32 1)) w')
    (hQ : ∀ w1 w2 g, Q w1 g → OnlyR R w1 w2 → Q w2 g)
    (hF : ∀ w1 g, Q w1 g → Calls Tryz.prog 155 #[.pointer (some ⟨g, 0, none⟩), .string X] w1 (RetV w1 v)) :
    Calls Tryz.prog 51 #[.pointer (some ⟨R, 0, none⟩), .string X] w fun e w' => e = .returned v ∧ Below R w w' := by
  have hR1 := hR.set 1 (.int .i32 1)
  simp only [if_pos, reduceIte, Nat.reduceEqDiff] at hR1
  have hO := onceB_c R _ Q _ _ _ _ _ hR1 hB
  have hdo := do_of R w (fun w' => ∃ g w1, Q w1 g ∧ Below (w.setCell ⟨R, 1, none⟩ (.int .i32 1)).heap.size (w.setCell ⟨R, 1, none⟩ (.int .i32 1)) w1 ∧ w' = (w1.setCell ⟨R, 3, none⟩ (.iface 129 (.pointer (some ⟨g, 0, none⟩)))).setCell ⟨R, 4, none⟩ (.slice none 0 0)) hR.c0 hR.c1 (hR.fz 1) hO (by
    rintro w' ⟨g, w1, -, b1, rfl⟩
    have q := ((hR1.below b1 hR1.lt).set 3 (.iface 129 (.pointer (some ⟨g, 0, none⟩)))).set 4 (.slice none 0 0)
    simp only [if_pos, reduceIte, Nat.reduceEqDiff] at q
    exact ⟨q.c0, q.c1, q.fz 0, q.fz 1⟩)
  have hmf : ∀ (fn : Fn) (first cap : Array Value) (w : World), (Instr.makeFunc fn first cap).run Tryz.prog w = .ok (.func fn first cap) w := fun _ _ _ _ => rfl
  have Hdo := Lib.hid hdo; have HR := Lib.hid hR; have HR1 := Lib.hid hR1
  clear hdo hR hO hB hR1
  go_enter Tryz.func51, Tryz.ntmps51
  go_wp2_with fail
  refine Hdo.out.mono ?_
  rintro e w4 ⟨rfl, w3, ⟨g, w1, hq, b1, rfl⟩, rfl⟩
  have q1 := HR1.out.below b1 HR1.out.lt
  have q2 := (q1.set 3 (.iface 129 (.pointer (some ⟨g, 0, none⟩)))).set 4 (.slice none 0 0)
  obtain ⟨w3, hw3⟩ : ∃ w3, w3 = (w1.setCell ⟨R, 3, none⟩ (.iface 129 (.pointer (some ⟨g, 0, none⟩)))).setCell ⟨R, 4, none⟩ (.slice none 0 0) := ⟨_, rfl⟩
  rw [← hw3] at q2 ⊢
  obtain ⟨w4, hw4⟩ : ∃ w4, w4 = (w3.drew.setCell ⟨R, 0, none⟩ (.int .u32 1)).setCell ⟨R, 1, none⟩ (.int .i32 0) := ⟨_, rfl⟩
  rw [← hw4]
  have q3 : B5 w3.drew R _ _ _ _ _ := ⟨q2.c0, q2.c1, q2.c2, q2.c3, q2.c4, q2.fz, q2.lt⟩
  have q4 := (q3.set 0 (.int .u32 1)).set 1 (.int .i32 0)
  rw [← hw4] at q4
  have hor : OnlyR R w1 w4 := by
    rw [hw4, hw3]
    exact ((onlyR_set _ _ _ _).trans (onlyR_set _ _ _ _)).trans (((onlyR_drew _ _).trans (onlyR_set _ _ _ _)).trans (onlyR_set _ _ _ _))
  have hq4 := hQ _ _ _ hq hor
  have c3 := q4.c3
  simp only [if_pos, reduceIte, Nat.reduceEqDiff] at c3
  have bb : Below R w w4 := by
    have hlt := HR.out.lt
    have s1 : (w.setCell ⟨R, 1, none⟩ (.int .i32 1)).heap.size = w.heap.size := by simp
    have b0 : Below R w (w.setCell ⟨R, 1, none⟩ (.int .i32 1)) := (Below.refl R w).setCell (Nat.le_refl _) _
    have b01 := b0.trans (b1.mono (by omega))
    rw [hw4, hw3]
    exact below_cell (below_cell (below_drew (below_cell (below_cell b01 _ _) _ _)) _ _) _ _
  have hlt4 := q4.lt
  have BB := Lib.hid bb; have HF := Lib.hid (hF w4 g hq4); have H4 := Lib.hid hlt4
  clear hw3 hw4 q1 q2 q3 q4 hor hq4 hq b1 bb hF hQ hlt4 HR HR1 Hdo
  go_wp2_with fail
  refine HF.out.mono ?_
  rintro e w5 ⟨rfl, b5⟩
  go_wp2
  go_ret
  exact ⟨rfl, BB.out.trans (b5.mono (Nat.le_of_lt H4.out))⟩

set_option maxRecDepth 100000 in
set_option maxHeartbeats 2000000 in
theorem onceG_c (R : Nat) (w : World) (Q : World → Nat → Prop) (v0 v1 v2 v3 v4 : Value) (hR : B5 w R v0 v1 v2 v3 v4)
    (hB : Calls Tryz.prog 75 #[.pointer (some ⟨R, 0, none⟩)] w fun e w' => ∃ g, e = .returned (.iface 121 (.pointer (some ⟨g, 0, none⟩))) ∧ Q w' g ∧ Below w.heap.size w w') :
    Calls Tryz.prog 60 #[.pointer (some ⟨R, 0, none⟩)] w fun e w' => e = .returned (.tuple #[]) ∧ ∃ g w1, Q w1 g ∧ Below w.heap.size w w1 ∧ w' = (w1.setCell ⟨R, 3, none⟩ (.iface 121 (.pointer (some ⟨g, 0, none⟩)))).setCell ⟨R, 4, none⟩ (.slice none 0 0) := by
  have HB := Lib.hid hB; have HR := Lib.hid hR
  clear hB hR
  go_enter Tryz.func60, Tryz.ntmps60
  go_wp2_with fail
  refine HB.out.mono ?_
  rintro e w1 ⟨g, rfl, hq, b1⟩
  have R1 := HR.out.below b1 HR.out.lt
  have R2 := R1.set 3 (.iface 121 (.pointer (some ⟨g, 0, none⟩)))
  have Hq := Lib.hid hq; have B1 := Lib.hid b1
  have q3 := R1.c3; have f3 := R1.fz 3; have q4 := R2.c4; have f4 := R2.fz 4
  clear hq b1 R1 R2
  go_wp2
  go_end0
  exact ⟨rfl, g, w1, Hq.out, B1.out, rfl⟩

set_option maxRecDepth 100000 in
set_option maxHeartbeats 2000000 in
theorem replaceG_c (R : Nat) (X : ByteArray) (v : Value) (w : World) (Q : World → Nat → Prop) (v2 v3 v4 : Value) (hR : B5 w R (.int .u32 0) (.int .i32 0) v2 v3 v4)
    (hB : Calls Tryz.prog 75 #[.pointer (some ⟨R, 0, none⟩)] (w.setCell ⟨R, 1, none⟩ (.int .i32 1)) fun e w' => ∃ g, e = .returned (.iface 121 (.pointer (some ⟨g, 0, none⟩))) ∧ Q w' g ∧ Below (w.setCell ⟨R, 1, none⟩ (.int .i32 1)).heap.size (w.setCell ⟨R, 1, none⟩ (.int .i32 1)) w')
    (hQ : ∀ w1 w2 g, Q w1 g → OnlyR R w1 w2 → Q w2 g)
    (hF : ∀ w1 g, Q w1 g → Calls Tryz.prog 149 #[.pointer (some ⟨g, 0, none⟩), .string X] w1 (RetV w1 v)) :
    Calls Tryz.prog 51 #[.pointer (some ⟨R, 0, none⟩), .string X] w fun e w' => e = .returned v ∧ Below R w w' := by
  have hR1 := hR.set 1 (.int .i32 1)
  simp only [if_pos, reduceIte, Nat.reduceEqDiff] at hR1
  have hO := onceG_c R _ Q _ _ _ _ _ hR1 hB
  have hdo := do_of R w (fun w' => ∃ g w1, Q w1 g ∧ Below (w.setCell ⟨R, 1, none⟩ (.int .i32 1)).heap.size (w.setCell ⟨R, 1, none⟩ (.int .i32 1)) w1 ∧ w' = (w1.setCell ⟨R, 3, none⟩ (.iface 121 (.pointer (some ⟨g, 0, none⟩)))).setCell ⟨R, 4, none⟩ (.slice none 0 0)) hR.c0 hR.c1 (hR.fz 1) hO (by
    rintro w' ⟨g, w1, -, b1, rfl⟩
    have q := ((hR1.below b1 hR1.lt).set 3 (.iface 121 (.pointer (some ⟨g, 0, none⟩)))).set 4 (.slice none 0 0)
    simp only [if_pos, reduceIte, Nat.reduceEqDiff] at q
    exact ⟨q.c0, q.c1, q.fz 0, q.fz 1⟩)
  have hmf : ∀ (fn : Fn) (first cap : Array Value) (w : World), (Instr.makeFunc fn first cap).run Tryz.prog w = .ok (.func fn first cap) w := fun _ _ _ _ => rfl
  have Hdo := Lib.hid hdo; have HR := Lib.hid hR; have HR1 := Lib.hid hR1
  clear hdo hR hO hB hR1
  go_enter Tryz.func51, Tryz.ntmps51
  go_wp2_with fail
  refine Hdo.out.mono ?_
  rintro e w4 ⟨rfl, w3, ⟨g, w1, hq, b1, rfl⟩, rfl⟩
  have q1 := HR1.out.below b1 HR1.out.lt
  have q2 := (q1.set 3 (.iface 121 (.pointer (some ⟨g, 0, none⟩)))).set 4 (.slice none 0 0)
  obtain ⟨w3, hw3⟩ : ∃ w3, w3 = (w1.setCell ⟨R, 3, none⟩ (.iface 121 (.pointer (some ⟨g, 0, none⟩)))).setCell ⟨R, 4, none⟩ (.slice none 0 0) := ⟨_, rfl⟩
  rw [← hw3] at q2 ⊢
  obtain ⟨w4, hw4⟩ : ∃ w4, w4 = (w3.drew.setCell ⟨R, 0, none⟩ (.int .u32 1)).setCell ⟨R, 1, none⟩ (.int .i32 0) := ⟨_, rfl⟩
  rw [← hw4]
  have q3 : B5 w3.drew R _ _ _ _ _ := ⟨q2.c0, q2.c1, q2.c2, q2.c3, q2.c4, q2.fz, q2.lt⟩
  have q4 := (q3.set 0 (.int .u32 1)).set 1 (.int .i32 0)
  rw [← hw4] at q4
  have hor : OnlyR R w1 w4 := by
    rw [hw4, hw3]
    exact ((onlyR_set _ _ _ _).trans (onlyR_set _ _ _ _)).trans (((onlyR_drew _ _).trans (onlyR_set _ _ _ _)).trans (onlyR_set _ _ _ _))
  have hq4 := hQ _ _ _ hq hor
  have c3 := q4.c3
  simp only [if_pos, reduceIte, Nat.reduceEqDiff] at c3
  have bb : Below R w w4 := by
    have hlt := HR.out.lt
    have s1 : (w.setCell ⟨R, 1, none⟩ (.int .i32 1)).heap.size = w.heap.size := by simp
    have b0 : Below R w (w.setCell ⟨R, 1, none⟩ (.int .i32 1)) := (Below.refl R w).setCell (Nat.le_refl _) _
    have b01 := b0.trans (b1.mono (by omega))
    rw [hw4, hw3]
    exact below_cell (below_cell (below_drew (below_cell (below_cell b01 _ _) _ _)) _ _) _ _
  have hlt4 := q4.lt
  have BB := Lib.hid bb; have HF := Lib.hid (hF w4 g hq4); have H4 := Lib.hid hlt4
  clear hw3 hw4 q1 q2 q3 q4 hor hq4 hq b1 bb hF hQ hlt4 HR HR1 Hdo
  go_wp2_with fail
  refine HF.out.mono ?_
  rintro e w5 ⟨rfl, b5⟩
  go_wp2
  go_ret
  exact ⟨rfl, BB.out.trans (b5.mono (Nat.le_of_lt H4.out))⟩
end Go.Proofs.YtpdapgbamlcjjaaGreatDoor

/-
  strings.(*Replacer).build where each old text is one byte and the new ones are not: a byte replacer.
-/
namespace Go.Proofs.YtpdapgbamlcjjaaGreatDoor
open Go.RowKit Vl

def LQ : List (List UInt8) := [[92], [92, 92], [34], [92, 34], [10], [92, 110]]
/-- The zero value of a byte replacer but for its row. -/
def bsz (u : Value) : Array Value := Array.replicate 256 (.slice none 0 0) ++ #[u]
theorem bsz_at (u : Value) (j : Nat) (h : j < 257) : (bsz u)[j]? = some (if j = 256 then u else .slice none 0 0) := by
  unfold bsz
  by_cases e : j = 256
  · subst e; rw [if_pos rfl]; rw [Array.getElem?_append_right (by simp)]; simp
  · rw [if_neg e, Array.getElem?_append_left (by simp; omega)]
    rw [Array.getElem?_replicate, if_pos (by omega)]
theorem bsz_size (u : Value) : (bsz u).size = 257 := by unfold bsz; simp
theorem info128 (u : Value) : (Tryz.prog.info? 128).map (·.size) = some (bsz u).size := by rw [bsz_size]; kernel_rfl
theorem zero128 (u : Value) : Tryz.zeroCells128.size = (bsz u).size := by rw [bsz_size]; kernel_rfl
theorem bsz_one (A : Option Addr) (n c : Nat) : (bsz (.slice A n c)).all (·.oneCell') = true := by
  rw [Array.all_eq_true_iff_forall_mem]
  intro v hv
  unfold bsz at hv
  rcases Array.mem_append.1 hv with h | h
  · have := (Array.mem_replicate.1 h).2; subst this; rfl
  · simp at h; subst h; rfl
theorem set128 (A : Option Addr) (n c : Nat) : Tryz.zeroCells128.setIfInBounds 256 (.slice A n c) = bsz (.slice A n c) := by kernel_rfl

theorem rc_setCell {z : Nat} {w : World} {e : TypeId} {base n c : Nat} {A : Option Addr} {vs : List Value} (h : Oc z w e base A n c vs) {p : Addr} (hp : ob A ≠ some p.block) (v : Value) : Oc z (w.setCell p v) e base A n c vs :=
  h.other fun g hg => by
    have hne : p.block ≠ g := fun e => hp (by rw [hg]; simp [ob, e])
    show (w.heap.modify p.block _)[g]? = w.heap[g]?
    rw [Array.getElem?_modify, if_neg hne]
/-- A row of m empty texts. -/
def srow (m : Nat) : Array Value := (List.replicate m (Value.string ⟨#[]⟩)).toArray
theorem smake3 (w : World) : (Instr.makeSlice 51 (.int .i64 0) (.int .i64 3)).run Tryz.prog w = .ok (.slice (some ⟨w.heap.size, 0, none⟩) 0 3) (w.alloc (.cells (srow 3) 9)) := by
  obtain ⟨i, hi, hz0, hz1, hz2⟩ := info_parts sty.inf
  have h := run_make (P := Tryz.prog) w 51 9 i (.string ⟨#[]⟩) sty.sl hi hz0 .i64 .i64 0 3 (by omega) (by omega) (by rw [hz2]; omega) (by omega)
  simp only [hz1] at h
  rw [h]
  have e1 : madeCells (Value.string ⟨#[]⟩).cells 3 = srow 3 := by
    apply Array.toList_inj.1
    have hcells : (Value.string ⟨#[]⟩).cells = #[.string ⟨#[]⟩] := rfl
    rw [hcells, toList_madeCells_one]
    simp [srow]
  rw [show (3 : Int).toNat * 1 = 3 from rfl, e1]; rfl
/-- The old bytes of the first k rounds. -/
def olds (k : Nat) : List UInt8 := [10, 34, 92].take k
/-- Blocks made from base on, but not that of a row nor block g. -/
def Sg (base g : Nat) (w : World) (A : Option Addr) (b : Nat) : Prop := base ≤ b ∧ b < w.heap.size ∧ some b ≠ ob A ∧ b ≠ g
/-- What the second loop has made after k rounds. -/
structure BuSt (base g k : Nat) (w wr : World) : Prop where
  ex : ∃ F A c, Blk wr g 257 F ∧ F 256 = .slice A k c ∧ Oc 1 wr 9 base A k c (lvs ((olds k).map fun x => [x])) ∧ ob A ≠ some g ∧
    (∀ x : UInt8, x ∈ olds k → Es wr (Sg base g wr A) (F x.toNat) x) ∧ (∀ x : UInt8, x ∉ olds k → F x.toNat = .slice none 0 0)
  below : Below base w wr
  ge : base ≤ g
def BuRel (base g : Nat) (w : World) (i : Value) (wr : World) : Prop := ∃ (k : Nat) (z : Int), (k = 0 ∧ z = 4 ∨ k = 1 ∧ z = 2 ∨ k = 2 ∧ z = 0 ∨ k = 3 ∧ z = -2) ∧ i = .int .i64 z ∧ BuSt base g k w wr
theorem buSt_step {base g k : Nat} {w wr w6 w7 w8 w9 : World} {F : Nat → Value} {A A' : Option Addr} {c c' cc : Nat} (o : UInt8) (hk : olds (k + 1) = olds k ++ [o]) (h2 : (Cd.esc o).length = 2)
    (hB : Blk wr g 257 F) (hO : ob A ≠ some g) (hE : ∀ x : UInt8, x ∈ olds k → Es wr (Sg base g wr A) (F x.toNat) x) (hN : ∀ x : UInt8, x ∉ olds k → F x.toNat = .slice none 0 0)
    (hb : Below base w wr) (hg : base ≤ g) (b6 : Below wr.heap.size wr w6) (own : Oc 1 wr 9 base A k c (lvs ((olds k).map fun x => [x])))
    (own7 : Oc 1 w7 9 base A' (k + 1) c' (lvs ((olds k).map fun x => [x]) ++ [.string ⟨#[o]⟩])) (g7 : Grows w6 w7 A A')
    (h8 : w8 = w7.setCell ⟨g, 256, none⟩ (.slice A' (k + 1) c')) (b9 : Below w8.heap.size w8 w9) (r9 : Rb w9 w9.heap.size (some ⟨w8.heap.size, 0, none⟩) 2 cc (Cd.esc o)) :
    BuSt base g (k + 1) w (w9.setCell ⟨g, o.toNat, none⟩ (.slice (some ⟨w8.heap.size, 0, none⟩) 2 cc)) := by
  have hbs : base ≤ wr.heap.size := Nat.le_trans hg (Nat.le_of_lt hB.lt)
  have z6 := b6.size
  have z7 := g7.size
  have z8 : w8.heap.size = w7.heap.size := by rw [h8]; simp
  have z9 := b9.size
  have hlt := hB.lt
  have o256 : o.toNat < 256 := o.toNat_lt
  have own6 := own.keep b6
  have B6 := hB.below b6 hB.lt
  have hOg : some g ≠ ob A := fun e => hO e.symm
  have B7 := B6.grown g7 hOg
  have B8 : Blk w8 g 257 (fun j => if j = 256 then .slice A' (k + 1) c' else F j) := by rw [h8]; exact B7.set 256 (.slice A' (k + 1) c')
  have B9 := B8.below b9 B8.lt
  have B10 := B9.set o.toNat (.slice (some ⟨w8.heap.size, 0, none⟩) 2 cc)
  have hO' : ob A' ≠ some g := by
    rcases g7.2 with e | ⟨g', e, hge⟩
    · rw [e]; exact hO
    · rw [e]; intro q; have := Option.some.inj q; omega
  have own8 : Oc 1 w8 9 base A' (k + 1) c' (lvs ((olds k).map fun x => [x]) ++ [.string ⟨#[o]⟩]) := by rw [h8]; exact rc_setCell own7 (p := ⟨g, 256, none⟩) hO' _
  have own9 := own8.keep b9
  have own10 := rc_setCell own9 (p := ⟨g, o.toNat, none⟩) hO' (.slice (some ⟨w8.heap.size, 0, none⟩) 2 cc)
  have hlv : lvs ((olds k).map fun x => [x]) ++ [.string ⟨#[o]⟩] = lvs ((olds (k + 1)).map fun x => [x]) := by rw [hk]; simp [lvs]
  rw [hlv] at own10
  -- what stays
  have hst : Stays wr (w9.setCell ⟨g, o.toNat, none⟩ (.slice (some ⟨w8.heap.size, 0, none⟩) 2 cc)) (Sg base g wr A) (Sg base g (w9.setCell ⟨g, o.toNat, none⟩ (.slice (some ⟨w8.heap.size, 0, none⟩) 2 cc)) A') := by
    refine ⟨fun b hb => ⟨hb.1, by simp; have := hb.2.1; omega, ?_, hb.2.2.2⟩, fun p hp => ?_⟩
    · rcases g7.2 with e | ⟨g', e, hge⟩
      · rw [e]; exact hb.2.2.1
      · rw [e]; intro q; have := Option.some.inj q; have := hb.2.1; omega
    · have hp2 := hp.2.1
      rw [World.cell?_setCell_other _ _ _ _ (fun e => hp.2.2.2 (by rw [← e])), b9.cell (by omega), h8, World.cell?_setCell_other _ _ _ _ (fun e => hp.2.2.2 (by rw [← e])), g7.cell p (by omega) hp.2.2.1, b6.cell hp2]
  refine ⟨⟨_, A', c', B10, ?_, own10, hO', fun x hx => ?_, fun x hx => ?_⟩, ?_, hg⟩
  · rw [if_neg (by omega), if_pos rfl]
  · by_cases hxo : x = o
    · subst hxo
      rw [if_pos rfl]
      refine .inr ⟨h2, _, _, rfl, ⟨by omega, by simp; have := r9.2.2.2 (by omega); obtain ⟨b, off, e, hb, -⟩ := this; injection e with e; injection e with e1 _ _; omega, ?_, by omega⟩, by have := r9.2.1; omega, r9.2.2.1, fun j y hy => ?_⟩
      · rcases g7.2 with e | ⟨g', e, hge⟩
        · rw [e]; intro q
          have := oc_ob own w8.heap.size q.symm
          omega
        · intro q
          have := oc_ob own7 w8.heap.size q.symm
          omega
      · obtain ⟨b, off, e, -, hc⟩ := r9.2.2.2 (by omega)
        injection e with e; injection e with e1 e2 _
        subst e1 e2
        rw [World.cell?_setCell_other _ _ _ _ (fun q => by have := congrArg Addr.block q; simp at this; omega)]
        have := hc j y hy
        rwa [Nat.zero_add] at this
    · rw [hk] at hx
      have hx' : x ∈ olds k := by
        rcases List.mem_append.1 hx with h | h
        · exact h
        · exact absurd (List.mem_singleton.1 h) hxo
      rw [if_neg (fun e => hxo (UInt8.toNat_inj.1 e)), if_neg (by have := x.toNat_lt; omega)]
      exact (hE x hx').keep hst
  · rw [hk] at hx
    have hxo : x ≠ o := fun e => hx (List.mem_append.2 (.inr (List.mem_singleton.2 e)))
    rw [if_neg (fun e => hxo (UInt8.toNat_inj.1 e)), if_neg (by have := x.toNat_lt; omega)]
    exact hN x (fun h => hx (List.mem_append.2 (.inl h)))
  · have b7 := g7.belowC own6 (by omega)
    have b8 : Below base w7 w8 := by rw [h8]; exact (Below.refl base w7).setCell hg _
    exact (((hb.trans (b6.mono (by omega))).trans b7).trans b8).trans ((b9.mono (by omega)).setCell hg _)

def B1Rel (a i : Value) : Prop := ∃ k : Nat, (k = 0 ∨ k = 2 ∨ k = 4 ∨ k = 6) ∧ i = .int .i64 (k : Int) ∧ a = .bool (decide (k = 0))
theorem olds_esc (x : UInt8) (hx : x ∉ olds 3) : Cd.esc x = [x] := by
  unfold olds at hx
  simp at hx
  unfold Cd.esc
  rw [if_neg hx.2.2, if_neg hx.2.1, if_neg hx.1]
theorem buSt_end {base g : Nat} {w wr : World} (h : BuSt base g 3 w wr) : Bsr wr base g := by
  obtain ⟨⟨F, A, c, h1, h2, h3, h4, h5, h6⟩, -, hg⟩ := h
  have sub : ∀ b, Sg base g wr A b → Fr base wr b := fun b hb => ⟨hb.1, hb.2.1⟩
  refine ⟨⟨F, A, c, h1, h2, fun x => ?_, h3.rcS⟩, hg⟩
  by_cases hx : x ∈ olds 3
  · exact (h5 x hx).keep (stays_weak sub)
  · exact .inl ⟨olds_esc x hx, h6 x hx⟩

set_option maxRecDepth 100000 in
set_option maxHeartbeats 4000000 in
theorem buildB_c (R : Nat) (A : Option Addr) (c : Nat) (w : World) (h4 : w.cell? ⟨R, 4, none⟩ = some (.slice A 6 c)) (hr : Rc 1 w w.heap.size A 6 c (lvs LQ)) :
    Calls Tryz.prog 75 #[.pointer (some ⟨R, 0, none⟩)] w fun e w' => ∃ g, e = .returned (.iface 129 (.pointer (some ⟨g, 0, none⟩))) ∧ Bsr w' w.heap.size g ∧ Below w.heap.size w w' := by
  obtain ⟨b, off, hA, hb, hc⟩ := hr.2.2.2 (by omega)
  subst hA
  obtain ⟨X0, hX0⟩ : ∃ X : ByteArray, X = ⟨#[92]⟩ := ⟨_, rfl⟩
  have c0 : w.cell? ⟨b, off, none⟩ = some (.string X0) := by rw [hX0]; exact hc 0 _ rfl
  have s0 : X0.size = 1 := by rw [hX0]; rfl
  have p0 : 0 < X0.size := by omega
  have x0 : (X0[0]'p0).toNat = 92 := by subst hX0; rfl
  have c1 : w.cell? ⟨b, off + 1, none⟩ = some (.string ⟨#[92, 92]⟩) := hc 1 _ rfl
  obtain ⟨X2, hX2⟩ : ∃ X : ByteArray, X = ⟨#[34]⟩ := ⟨_, rfl⟩
  have c2 : w.cell? ⟨b, off + 2, none⟩ = some (.string X2) := by rw [hX2]; exact hc 2 _ rfl
  have s2 : X2.size = 1 := by rw [hX2]; rfl
  have p2 : 0 < X2.size := by omega
  have x2 : (X2[0]'p2).toNat = 34 := by subst hX2; rfl
  have c3 : w.cell? ⟨b, off + 3, none⟩ = some (.string ⟨#[92, 34]⟩) := hc 3 _ rfl
  obtain ⟨X4, hX4⟩ : ∃ X : ByteArray, X = ⟨#[10]⟩ := ⟨_, rfl⟩
  have c4 : w.cell? ⟨b, off + 4, none⟩ = some (.string X4) := by rw [hX4]; exact hc 4 _ rfl
  have s4 : X4.size = 1 := by rw [hX4]; rfl
  have p4 : 0 < X4.size := by omega
  have x4 : (X4[0]'p4).toNat = 10 := by subst hX4; rfl
  have c5 : w.cell? ⟨b, off + 5, none⟩ = some (.string ⟨#[92, 110]⟩) := hc 5 _ rfl
  obtain ⟨w1, hw1⟩ : ∃ w1, w1 = w.alloc (.cells (srow 3) 9) := ⟨_, rfl⟩
  have z1 : w1.heap.size = w.heap.size + 1 := by rw [hw1]; simp
  have b1 : Below w.heap.size w w1 := by rw [hw1]; exact (Below.refl _ _).alloc (Nat.le_refl _) _
  have own1 : Oc 1 w1 9 w.heap.size (some ⟨w.heap.size, 0, none⟩) 0 3 [] := by rw [hw1]; exact World.ownsRow_made w (srow 3) 3 (Nat.le_refl _) (by simp [maxLen]) (by simp [srow])
  have smk := smake3 w
  have een : ∀ W : World, (binOp .eql 54 (.slice none 0 0) (.slice none 0 0)).run Tryz.prog W = .ok (.bool true) W := fun W => run_eql_slice_nil W 54 5 none 0 0 Tryz.underlying54
  rw [← hw1] at smk
  obtain ⟨Z, hZ⟩ : ∃ Z, Z = bsz (.slice (some ⟨w.heap.size, 0, none⟩) 0 3) := ⟨_, rfl⟩
  have hbd : Tryz.zeroCells128.setIfInBounds 256 (.slice (some ⟨w.heap.size, 0, none⟩) 0 3) = Z := by rw [hZ]; exact set128 _ _ _
  obtain ⟨w2, hw2⟩ : ∃ w2, w2 = w1.alloc (.cells Z 128) := ⟨_, rfl⟩
  have b2 : Below w1.heap.size w1 w2 := by rw [hw2]; exact (Below.refl _ _).alloc (Nat.le_refl _) _
  have hs : (w1.alloc (.cells Tryz.zeroCells128 128)).setRow w1.heap.size Z = w2 := by rw [World.setRow_alloc_new, ← hw2]
  have hg : (w1.alloc (.cells Tryz.zeroCells128 128)).heap[w1.heap.size]? = some (.cells Tryz.zeroCells128 128 (0, 0)) := heap_alloc_last _ _
  have hi : (Tryz.prog.info? 128).map (·.size) = some Z.size := by rw [hZ]; exact info128 _
  have hzz : Tryz.zeroCells128.size = Z.size := by rw [hZ]; exact zero128 _
  have hone : Z.all (·.oneCell') = true := by rw [hZ]; exact bsz_one _ _ _
  have hblk : Blk w2 w1.heap.size 257 (fun j => if j = 256 then .slice (some ⟨w.heap.size, 0, none⟩) 0 3 else .slice none 0 0) := by
    rw [hw2]; exact Blk.made _ _ _ _ _ fun j hj => by rw [hZ]; exact bsz_at _ j hj
  have hst0 : BuSt w.heap.size w1.heap.size 0 w w2 := by
    refine ⟨⟨_, some ⟨w.heap.size, 0, none⟩, 3, hblk, by rw [if_pos rfl], ?_, ?_, fun x hx => by simp [olds] at hx, fun x _ => by rw [if_neg (by have := x.toNat_lt; omega)]⟩, b1.trans (b2.mono (by omega)), by omega⟩
    · exact own1.keep b2
    · intro e; simp [ob] at e; omega
  have Hst0 := Lib.hid hst0; have Hbd := Lib.hid hbd
  have Hs := Lib.hid hs; have Hg := Lib.hid hg; have Hi := Lib.hid hi; have Hzz := Lib.hid hzz; have Hone := Lib.hid hone; have Z1 := Lib.hid z1
  clear hX0 hX2 hX4
  clear hc hr hw1 b1 own1 hZ hw2 b2 hs hg hi hzz hone hblk hst0 z1 hbd
  go_enter Tryz.func75, Tryz.ntmps75
  go_wp2
  go_loop [4, 5] (fun a i => B1Rel a i) (fun _ i => 6 - (intOf i).toNat)
  case atStart => exact ⟨0, .inl rfl, rfl, rfl⟩
  case round =>
    obtain ⟨k, hk, rfl, rfl⟩ := hrel
    rcases hk with rfl | rfl | rfl | rfl
    · go_wp2
      go_round
      case rel => exact ⟨2, by omega, rfl, rfl⟩
      case measure => simp [intOf]
    · go_wp2
      go_round
      case rel => exact ⟨4, by omega, rfl, rfl⟩
      case measure => simp [intOf]
    · go_wp2
      go_round
      case rel => exact ⟨6, by omega, rfl, rfl⟩
      case measure => simp [intOf]
    · go_wp2_with (refine wpList_store_row rfl 128 (.tmp 11) (.tmp 95) rfl w1.heap.size Z ?hx ?hy 128 Tryz.zeroCells128 ?hg Hi.out Hzz.out Hone.out ?_; (case hx => rfl); (case hy => exact congrArg Value.agg Hbd.out); (case hg => exact Hg.out); rw [Hs.out])
      clear h4 smk
      go_loopw [12] (fun i wr => BuRel w.heap.size w1.heap.size w i wr) (fun i _ => (intOf i + 2).toNat)
      case atStart => exact ⟨0, 4, by omega, rfl, Hst0.out⟩
      case round =>
        obtain ⟨k, z, hk, rfl, hst⟩ := hrel
        clear Hst0 Hs Hg Hi Hzz Hone Hbd
        rcases hk with ⟨rfl, rfl⟩ | ⟨rfl, rfl⟩ | ⟨rfl, rfl⟩ | ⟨rfl, rfl⟩
        · obtain ⟨⟨F, A, cc, h1, h2, h3, h4, h5, h6⟩, hbel, hge⟩ := hst
          have q0 := h1.c 10 (by omega)
          rw [show F 10 = .slice none 0 0 from h6 10 (by decide)] at q0
          have q1 := h1.c 256 (by omega)
          rw [h2] at q1
          have qf := h1.fz
          have e0 := (hbel.cell (p := ⟨b, off + 4, none⟩) hb).trans c4
          have e1 := (hbel.cell (p := ⟨b, off + 5, none⟩) hb).trans c5
          obtain ⟨w5, hw5⟩ : ∃ w5, w5 = wr.alloc (.cells #[.int .u8 10] 5) := ⟨_, rfl⟩
          have b5 : Below wr.heap.size wr w5 := by rw [hw5]; exact (Below.refl _ _).alloc (Nat.le_refl _) _
          have z5 : w5.heap.size = wr.heap.size + 1 := by rw [hw5]; simp
          have r5 : Rb w5 (wr.heap.size + 1) (some ⟨wr.heap.size, 0, none⟩) 1 1 [10] := by rw [hw5]; exact Rb.lit wr 5 (0, 0) #[.int .u8 10] [10] 1 rfl rfl (by omega)
          have cv5 := bty.conv r5
          obtain ⟨w6, hw6⟩ : ∃ w6, w6 = w5.alloc (.cells #[.string ⟨#[10]⟩] 9) := ⟨_, rfl⟩
          have b6 : Below w5.heap.size w5 w6 := by rw [hw6]; exact (Below.refl _ _).alloc (Nat.le_refl _) _
          have r6 : Rc 1 w6 (w5.heap.size + 1) (some ⟨w5.heap.size, 0, none⟩) 1 1 [.string ⟨#[10]⟩] := by rw [hw6]; exact Rc.lit w5 9 #[.string ⟨#[10]⟩] 1 rfl (by simp [maxLen])
          have bb6 : Below wr.heap.size wr w6 := b5.trans (b6.mono (by omega))
          have own6 := h3.keep bb6
          have B6 := h1.below bb6 h1.lt
          have q6 := B6.c 256 (by omega)
          rw [h2] at q6
          obtain ⟨U, hU⟩ : ∃ U, U = lvs ((olds 0).map fun x => [x]) ++ [.string ⟨#[10]⟩] := ⟨_, rfl⟩
          have zb : w.heap.size ≤ w6.heap.size := by have := hbel.size; have := bb6.size; omega
          have W5 := Lib.hid hw5; have W6 := Lib.hid hw6; have Own6 := Lib.hid own6; have R6 := Lib.hid r6; have HU := Lib.hid hU.symm; have ZB := Lib.hid zb
          have H1 := Lib.hid h1; have H4 := Lib.hid h4; have H5 := Lib.hid h5; have H6 := Lib.hid h6; have HB := Lib.hid hbel; have HG := Lib.hid hge; have BB6 := Lib.hid bb6; have Hcv := Lib.hid cv5; have H3 := Lib.hid h3; have BK6 := Lib.hid B6
          clear hw5 hw6 b5 b6 z5 r5 r6 own6 hU zb h1 h4 h5 h6 hbel hge bb6 h3 B6
          go_wp2_with (first | (at_builtin; rw [← W6.out]; go_must (refine Sl.wpAppAt sty rfl (.tmp 119) (.tmp 123) rfl (n := 0) (m := 1) (N := 1) (ws := U) rfl rfl Own6.out R6.out ?hs1 rfl HU.out ?hs4 ?hs5 ZB.out ?_)) | rw [← W5.out])
          case hs1 => intro v hv; simp at hv; subst hv; rfl
          case hs4 => omega
          case hs5 => omega
          intro A7 c7 w7 own7 g7
          have B7 := BK6.out.grown g7 (fun e => H4.out e.symm)
          have q7 := B7.c 256 (by omega)
          have f7 := B7.fz
          obtain ⟨w8, hw8⟩ : ∃ w8, w8 = w7.setCell ⟨w1.heap.size, 256, none⟩ (.slice A7 1 c7) := ⟨_, rfl⟩
          have B8 : Blk w8 w1.heap.size 257 (fun j => if j = 256 then .slice A7 1 c7 else F j) := by rw [hw8]; exact B7.set 256 (.slice A7 1 c7)
          obtain ⟨cc9, w9, hcv, r9, b9⟩ := conv_bytes w8 ⟨#[92, 110]⟩ (by decide)
          have hcv : (convert 9 54 (.string ⟨#[92, 110]⟩)).run Tryz.prog w8 = .ok (.slice (some ⟨w8.heap.size, 0, none⟩) 2 cc9) w9 := hcv
          have B9 := B8.below b9 B8.lt
          have q9 := B9.c 10 (by omega)
          have f9 := B9.fz
          have hfin := buSt_step (w := w) 10 (by rfl) (by rfl) H1.out H4.out H5.out H6.out HB.out HG.out BB6.out H3.out (by rw [HU.out]; exact own7) g7 hw8 b9 r9
          have Hfin := Lib.hid hfin; have W8 := Lib.hid hw8
          clear hfin hw8 B7 B8 B9 own7 g7 b9 r9
          go_wp2_with (rw [← W8.out])
          go_roundw
          case rel => exact ⟨1, 2, by omega, rfl, Hfin.out⟩
          case measure => simp [intOf]
        · obtain ⟨⟨F, A, cc, h1, h2, h3, h4, h5, h6⟩, hbel, hge⟩ := hst
          have q0 := h1.c 34 (by omega)
          rw [show F 34 = .slice none 0 0 from h6 34 (by decide)] at q0
          have q1 := h1.c 256 (by omega)
          rw [h2] at q1
          have qf := h1.fz
          have e0 := (hbel.cell (p := ⟨b, off + 2, none⟩) hb).trans c2
          have e1 := (hbel.cell (p := ⟨b, off + 3, none⟩) hb).trans c3
          obtain ⟨w5, hw5⟩ : ∃ w5, w5 = wr.alloc (.cells #[.int .u8 34] 5) := ⟨_, rfl⟩
          have b5 : Below wr.heap.size wr w5 := by rw [hw5]; exact (Below.refl _ _).alloc (Nat.le_refl _) _
          have z5 : w5.heap.size = wr.heap.size + 1 := by rw [hw5]; simp
          have r5 : Rb w5 (wr.heap.size + 1) (some ⟨wr.heap.size, 0, none⟩) 1 1 [34] := by rw [hw5]; exact Rb.lit wr 5 (0, 0) #[.int .u8 34] [34] 1 rfl rfl (by omega)
          have cv5 := bty.conv r5
          obtain ⟨w6, hw6⟩ : ∃ w6, w6 = w5.alloc (.cells #[.string ⟨#[34]⟩] 9) := ⟨_, rfl⟩
          have b6 : Below w5.heap.size w5 w6 := by rw [hw6]; exact (Below.refl _ _).alloc (Nat.le_refl _) _
          have r6 : Rc 1 w6 (w5.heap.size + 1) (some ⟨w5.heap.size, 0, none⟩) 1 1 [.string ⟨#[34]⟩] := by rw [hw6]; exact Rc.lit w5 9 #[.string ⟨#[34]⟩] 1 rfl (by simp [maxLen])
          have bb6 : Below wr.heap.size wr w6 := b5.trans (b6.mono (by omega))
          have own6 := h3.keep bb6
          have B6 := h1.below bb6 h1.lt
          have q6 := B6.c 256 (by omega)
          rw [h2] at q6
          obtain ⟨U, hU⟩ : ∃ U, U = lvs ((olds 1).map fun x => [x]) ++ [.string ⟨#[34]⟩] := ⟨_, rfl⟩
          have zb : w.heap.size ≤ w6.heap.size := by have := hbel.size; have := bb6.size; omega
          have W5 := Lib.hid hw5; have W6 := Lib.hid hw6; have Own6 := Lib.hid own6; have R6 := Lib.hid r6; have HU := Lib.hid hU.symm; have ZB := Lib.hid zb
          have H1 := Lib.hid h1; have H4 := Lib.hid h4; have H5 := Lib.hid h5; have H6 := Lib.hid h6; have HB := Lib.hid hbel; have HG := Lib.hid hge; have BB6 := Lib.hid bb6; have Hcv := Lib.hid cv5; have H3 := Lib.hid h3; have BK6 := Lib.hid B6
          clear hw5 hw6 b5 b6 z5 r5 r6 own6 hU zb h1 h4 h5 h6 hbel hge bb6 h3 B6
          go_wp2_with (first | (at_builtin; rw [← W6.out]; go_must (refine Sl.wpAppAt sty rfl (.tmp 119) (.tmp 123) rfl (n := 1) (m := 1) (N := 2) (ws := U) rfl rfl Own6.out R6.out ?hs1 rfl HU.out ?hs4 ?hs5 ZB.out ?_)) | rw [← W5.out])
          case hs1 => intro v hv; simp at hv; subst hv; rfl
          case hs4 => omega
          case hs5 => omega
          intro A7 c7 w7 own7 g7
          have B7 := BK6.out.grown g7 (fun e => H4.out e.symm)
          have q7 := B7.c 256 (by omega)
          have f7 := B7.fz
          obtain ⟨w8, hw8⟩ : ∃ w8, w8 = w7.setCell ⟨w1.heap.size, 256, none⟩ (.slice A7 2 c7) := ⟨_, rfl⟩
          have B8 : Blk w8 w1.heap.size 257 (fun j => if j = 256 then .slice A7 2 c7 else F j) := by rw [hw8]; exact B7.set 256 (.slice A7 2 c7)
          obtain ⟨cc9, w9, hcv, r9, b9⟩ := conv_bytes w8 ⟨#[92, 34]⟩ (by decide)
          have hcv : (convert 9 54 (.string ⟨#[92, 34]⟩)).run Tryz.prog w8 = .ok (.slice (some ⟨w8.heap.size, 0, none⟩) 2 cc9) w9 := hcv
          have B9 := B8.below b9 B8.lt
          have q9 := B9.c 34 (by omega)
          have f9 := B9.fz
          have hfin := buSt_step (w := w) 34 (by rfl) (by rfl) H1.out H4.out H5.out H6.out HB.out HG.out BB6.out H3.out (by rw [HU.out]; exact own7) g7 hw8 b9 r9
          have Hfin := Lib.hid hfin; have W8 := Lib.hid hw8
          clear hfin hw8 B7 B8 B9 own7 g7 b9 r9
          go_wp2_with (rw [← W8.out])
          go_roundw
          case rel => exact ⟨2, 0, by omega, rfl, Hfin.out⟩
          case measure => simp [intOf]
        · obtain ⟨⟨F, A, cc, h1, h2, h3, h4, h5, h6⟩, hbel, hge⟩ := hst
          have q0 := h1.c 92 (by omega)
          rw [show F 92 = .slice none 0 0 from h6 92 (by decide)] at q0
          have q1 := h1.c 256 (by omega)
          rw [h2] at q1
          have qf := h1.fz
          have e0 := (hbel.cell (p := ⟨b, off, none⟩) hb).trans c0
          have e1 := (hbel.cell (p := ⟨b, off + 1, none⟩) hb).trans c1
          obtain ⟨w5, hw5⟩ : ∃ w5, w5 = wr.alloc (.cells #[.int .u8 92] 5) := ⟨_, rfl⟩
          have b5 : Below wr.heap.size wr w5 := by rw [hw5]; exact (Below.refl _ _).alloc (Nat.le_refl _) _
          have z5 : w5.heap.size = wr.heap.size + 1 := by rw [hw5]; simp
          have r5 : Rb w5 (wr.heap.size + 1) (some ⟨wr.heap.size, 0, none⟩) 1 1 [92] := by rw [hw5]; exact Rb.lit wr 5 (0, 0) #[.int .u8 92] [92] 1 rfl rfl (by omega)
          have cv5 := bty.conv r5
          obtain ⟨w6, hw6⟩ : ∃ w6, w6 = w5.alloc (.cells #[.string ⟨#[92]⟩] 9) := ⟨_, rfl⟩
          have b6 : Below w5.heap.size w5 w6 := by rw [hw6]; exact (Below.refl _ _).alloc (Nat.le_refl _) _
          have r6 : Rc 1 w6 (w5.heap.size + 1) (some ⟨w5.heap.size, 0, none⟩) 1 1 [.string ⟨#[92]⟩] := by rw [hw6]; exact Rc.lit w5 9 #[.string ⟨#[92]⟩] 1 rfl (by simp [maxLen])
          have bb6 : Below wr.heap.size wr w6 := b5.trans (b6.mono (by omega))
          have own6 := h3.keep bb6
          have B6 := h1.below bb6 h1.lt
          have q6 := B6.c 256 (by omega)
          rw [h2] at q6
          obtain ⟨U, hU⟩ : ∃ U, U = lvs ((olds 2).map fun x => [x]) ++ [.string ⟨#[92]⟩] := ⟨_, rfl⟩
          have zb : w.heap.size ≤ w6.heap.size := by have := hbel.size; have := bb6.size; omega
          have W5 := Lib.hid hw5; have W6 := Lib.hid hw6; have Own6 := Lib.hid own6; have R6 := Lib.hid r6; have HU := Lib.hid hU.symm; have ZB := Lib.hid zb
          have H1 := Lib.hid h1; have H4 := Lib.hid h4; have H5 := Lib.hid h5; have H6 := Lib.hid h6; have HB := Lib.hid hbel; have HG := Lib.hid hge; have BB6 := Lib.hid bb6; have Hcv := Lib.hid cv5; have H3 := Lib.hid h3; have BK6 := Lib.hid B6
          clear hw5 hw6 b5 b6 z5 r5 r6 own6 hU zb h1 h4 h5 h6 hbel hge bb6 h3 B6
          go_wp2_with (first | (at_builtin; rw [← W6.out]; go_must (refine Sl.wpAppAt sty rfl (.tmp 119) (.tmp 123) rfl (n := 2) (m := 1) (N := 3) (ws := U) rfl rfl Own6.out R6.out ?hs1 rfl HU.out ?hs4 ?hs5 ZB.out ?_)) | rw [← W5.out])
          case hs1 => intro v hv; simp at hv; subst hv; rfl
          case hs4 => omega
          case hs5 => omega
          intro A7 c7 w7 own7 g7
          have B7 := BK6.out.grown g7 (fun e => H4.out e.symm)
          have q7 := B7.c 256 (by omega)
          have f7 := B7.fz
          obtain ⟨w8, hw8⟩ : ∃ w8, w8 = w7.setCell ⟨w1.heap.size, 256, none⟩ (.slice A7 3 c7) := ⟨_, rfl⟩
          have B8 : Blk w8 w1.heap.size 257 (fun j => if j = 256 then .slice A7 3 c7 else F j) := by rw [hw8]; exact B7.set 256 (.slice A7 3 c7)
          obtain ⟨cc9, w9, hcv, r9, b9⟩ := conv_bytes w8 ⟨#[92, 92]⟩ (by decide)
          have hcv : (convert 9 54 (.string ⟨#[92, 92]⟩)).run Tryz.prog w8 = .ok (.slice (some ⟨w8.heap.size, 0, none⟩) 2 cc9) w9 := hcv
          have B9 := B8.below b9 B8.lt
          have q9 := B9.c 92 (by omega)
          have f9 := B9.fz
          have hfin := buSt_step (w := w) 92 (by rfl) (by rfl) H1.out H4.out H5.out H6.out HB.out HG.out BB6.out H3.out (by rw [HU.out]; exact own7) g7 hw8 b9 r9
          have Hfin := Lib.hid hfin; have W8 := Lib.hid hw8
          clear hfin hw8 B7 B8 B9 own7 g7 b9 r9
          go_wp2_with (rw [← W8.out])
          go_roundw
          case rel => exact ⟨3, -2, by omega, rfl, Hfin.out⟩
          case measure => simp [intOf]
        · have Hst := Lib.hid hst
          clear hst
          go_wp2
          go_ret
          exact ⟨_, rfl, buSt_end Hst.out, Hst.out.below⟩
end Go.Proofs.YtpdapgbamlcjjaaGreatDoor
