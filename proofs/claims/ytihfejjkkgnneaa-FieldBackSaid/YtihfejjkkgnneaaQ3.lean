/-
  field's pair: the pair of a line.
-/
import Derived.Test.YtihfejjkkgnneaaCu
import Derived.Test.YtihfejjkkgnneaaF6
namespace Go.Proofs.Ytihfejjkkgnneaa
open Go.RowKit Go.Maps

theorem unesc_free {v t : List UInt8} (h : Fm.unesc v = some t) : ∀ x ∈ v, x ≠ 9 := by
  rw [← Fm.esc_back h]
  exact fun x hx => (Fm.esc_free t x hx).1
theorem pairOf_none {x : List UInt8} (h : ∀ y ∈ x, y ≠ 9) : Fm.pairOf x = none := by
  unfold Fm.pairOf
  rw [Fm.cut_none 9 x h]
theorem pairOf_many {k k2 v2 : List UInt8} (h : ∀ y ∈ k, y ≠ 9) (h2 : ∀ y ∈ k2, y ≠ 9) : Fm.pairOf (k ++ 9 :: (k2 ++ 9 :: v2)) = none := by
  unfold Fm.pairOf
  rw [Fm.cut_app 9 k _ h, Fm.cut_app 9 k2 _ h2]
  cases hc : Fm.cut 9 v2 with
  | nil => exact absurd hc (Fm.cut_ne 9 v2)
  | cons a b => rfl
theorem pairOf_two {k v : List UInt8} (h : ∀ y ∈ k, y ≠ 9) (hv : ∀ y ∈ v, y ≠ 9) : Fm.pairOf (k ++ 9 :: v) = match Fm.unesc k, Fm.unesc v with | some a, some b => some (a, b) | _, _ => none := by
  unfold Fm.pairOf
  rw [Fm.cut_app 9 k _ h, Fm.cut_none 9 v hv]
  dsimp only
  cases Fm.unesc k <;> cases Fm.unesc v <;> rfl
theorem pairOf_k {k v : List UInt8} (h : ∀ y ∈ k, y ≠ 9) (hk : Fm.unesc k = none) : Fm.pairOf (k ++ 9 :: v) = none := by
  rcases cut_cases 9 v with hv | ⟨k2, v2, rfl, h2⟩
  · rw [pairOf_two h hv, hk]
  · exact pairOf_many h h2
theorem pairOf_v {k v : List UInt8} (h : ∀ y ∈ k, y ≠ 9) (hv : Fm.unesc v = none) : Fm.pairOf (k ++ 9 :: v) = none := by
  rcases cut_cases 9 v with hv' | ⟨k2, v2, rfl, h2⟩
  · rw [pairOf_two h hv', hv]
    cases Fm.unesc k <;> rfl
  · exact pairOf_many h h2
theorem pairOf_ok {k v a b : List UInt8} (h : ∀ y ∈ k, y ≠ 9) (hk : Fm.unesc k = some a) (hv : Fm.unesc v = some b) : Fm.pairOf (k ++ 9 :: v) = some (a, b) := by
  rw [pairOf_two h (unesc_free hv), hk, hv]

/-- A block of two empty texts that was made first stays as it was. -/
theorem box_kept {w w1 : World} {T : TypeId} (hb : Below (w.alloc (.cells #[.string ⟨#[]⟩, .string ⟨#[]⟩] T)).heap.size (w.alloc (.cells #[.string ⟨#[]⟩, .string ⟨#[]⟩] T)) w1) :
    w1.cell? ⟨w.heap.size, 0, none⟩ = some (.string ⟨#[]⟩) ∧ w1.cell? ⟨w.heap.size, 1, none⟩ = some (.string ⟨#[]⟩) ∧ w1.frozen? ⟨w.heap.size, 0, none⟩ = false ∧ w1.frozen? ⟨w.heap.size, 1, none⟩ = false ∧ w.heap.size < w1.heap.size ∧ Below w.heap.size w w1 := by
  refine ⟨(hb.cell (by simp)).trans (by simp), (hb.cell (by simp)).trans (by simp), (hb.frozen (by simp)).trans (by simp), (hb.frozen (by simp)).trans (by simp), by have := hb.size; simp at this; omega, ((Below.refl _ _).alloc (Nat.le_refl _) _).trans (hb.mono (by simp))⟩

theorem unescaped_ok (b : Nat) (s : ByteArray) (t : List UInt8) (w : World) (hm : Mp w b) (hs : s.size ≤ 100000) (h : Fm.unesc s.data.toList = some t) :
    Calls Try.prog 41 #[.map (some b), .string s] w fun e w' => e = .returned (.tuple #[.string ⟨t.toArray⟩, .int .i64 0]) ∧ Below w.heap.size w w' :=
  (unescaped_c b s w hm hs).mono fun _ _ ⟨he, hb⟩ => ⟨by rw [he, h]; rfl, hb⟩
theorem unescaped_err (b : Nat) (s : ByteArray) (w : World) (hm : Mp w b) (hs : s.size ≤ 100000) (h : Fm.unesc s.data.toList = none) :
    Calls Try.prog 41 #[.map (some b), .string s] w fun e w' => e = .returned (.tuple #[.string ⟨#[]⟩, .int .i64 3]) ∧ Below w.heap.size w w' :=
  (unescaped_c b s w hm hs).mono fun _ _ ⟨he, hb⟩ => ⟨by rw [he, h]; rfl, hb⟩

def pairE (o : Option (List UInt8 × List UInt8)) : Ending := match o with
  | some p => .returned (.tuple #[.agg #[.string ⟨p.1.toArray⟩, .string ⟨p.2.toArray⟩], .int .i64 0])
  | none => .returned (.tuple #[.agg #[.string ⟨#[]⟩, .string ⟨#[]⟩], .int .i64 3])
def RetPE (w : World) (o : Option (List UInt8 × List UInt8)) (e : Ending) (w' : World) : Prop := e = pairE o ∧ Below w.heap.size w w'

set_option maxRecDepth 100000 in
set_option maxHeartbeats 1000000 in
/-- pair -/
theorem qpair_c (b : Nat) (s : ByteArray) (w : World) (hm : Mp w b) (hz : s.size ≤ 100000) :
    Calls Try.prog 46 #[.map (some b), .string s] w (RetPE w (Fm.pairOf s.data.toList)) := by
  have hbl := hm.lt
  have hm0 : Mp (w.alloc (.cells #[.string ⟨#[]⟩, .string ⟨#[]⟩] 52)) b := hm.below ((Below.refl _ _).alloc (Nat.le_refl _) _) hbl
  have Hm0 := Lib.hid hm0; clear hm hm0
  rcases cut_cases 9 s.data.toList with h | ⟨k, v, hs, h⟩
  · rw [pairOf_none h]
    have H := Lib.hid h; clear h
    go_enter Try.func46, Try.ntmps46
    go_wp2_with fail
    refine (cut_none 9 s _ H.out).mono ?_
    rintro e w' ⟨rfl, rfl⟩
    go_wp2
    exact bodyPost_ret (v := .tuple #[.agg #[.string ⟨#[]⟩, .string ⟨#[]⟩], .int .i64 3]) (by simp [results, Try.results46, go_sem]) rfl ⟨rfl, (Below.refl _ _).alloc (Nat.le_refl _) _⟩
  · have hkz : k.length + v.length ≤ 100000 := by
      have := congrArg List.length hs
      rw [str_len, List.length_append, List.length_cons] at this
      omega
    rw [hs]
    cases hk : Fm.unesc k with
    | none =>
      rw [pairOf_k h hk]
      have H := Lib.hid h; have Hs := Lib.hid hs; have Hk := Lib.hid hk; clear h hs hk
      go_enter Try.func46, Try.ntmps46
      go_wp2_with fail
      refine (cut_at 9 s k v _ Hs.out H.out hz).mono ?_
      rintro e w' ⟨rfl, q, rfl⟩
      go_wp2_with fail
      refine (unescaped_err b ⟨k.toArray⟩ _ (Hm0.out.drewN q) (by simp [ByteArray.size]; omega) Hk.out).mono ?_
      rintro e w2 ⟨rfl, hb2⟩
      obtain ⟨hc0, hc1, hz0, hz1, hsz, hbb⟩ := box_kept ((below_drewN (Below.refl _ _) q).trans hb2)
      clear hb2
      go_wp2
      refine bodyPost_ret (v := .tuple #[.agg #[.string ⟨#[]⟩, .string ⟨#[]⟩], .int .i64 3]) ?_ rfl ⟨rfl, ?_⟩
      · simp [results, Try.results46, go_sem, hc0, hc1]
      · exact ((hbb.setCell (by simp) _).setCell (by simp) _)
    | some a =>
      cases hv : Fm.unesc v with
      | none =>
        rw [pairOf_v h hv]
        have H := Lib.hid h; have Hs := Lib.hid hs; have Hk := Lib.hid hk; have Hv := Lib.hid hv; clear h hs hk hv
        go_enter Try.func46, Try.ntmps46
        go_wp2_with fail
        refine (cut_at 9 s k v _ Hs.out H.out hz).mono ?_
        rintro e w' ⟨rfl, q, rfl⟩
        go_wp2_with fail
        refine (unescaped_ok b ⟨k.toArray⟩ a _ (Hm0.out.drewN q) (by simp [ByteArray.size]; omega) Hk.out).mono ?_
        rintro e w2 ⟨rfl, hb2⟩
        have hm2 := (Hm0.out.drewN q).below hb2 (by simp [World.drewN]; omega)
        have Hm2 := Lib.hid hm2; clear hm2
        go_wp2_with fail
        refine (unescaped_err b ⟨v.toArray⟩ _ Hm2.out (by simp [ByteArray.size]; omega) Hv.out).mono ?_
        rintro e w3 ⟨rfl, hb3⟩
        obtain ⟨hc0, hc1, hz0, hz1, hsz, hbb⟩ := box_kept (((below_drewN (Below.refl _ _) q).trans hb2).trans (hb3.mono hb2.size))
        clear hb2 hb3
        go_wp2
        refine bodyPost_ret (v := .tuple #[.agg #[.string ⟨#[]⟩, .string ⟨#[]⟩], .int .i64 3]) ?_ rfl ⟨rfl, ?_⟩
        · simp [results, Try.results46, go_sem, hc0, hc1]
        · exact ((hbb.setCell (by simp) _).setCell (by simp) _)
      | some t =>
        rw [pairOf_ok h hk hv]
        have H := Lib.hid h; have Hs := Lib.hid hs; have Hk := Lib.hid hk; have Hv := Lib.hid hv; clear h hs hk hv
        go_enter Try.func46, Try.ntmps46
        go_wp2_with fail
        refine (cut_at 9 s k v _ Hs.out H.out hz).mono ?_
        rintro e w' ⟨rfl, q, rfl⟩
        go_wp2_with fail
        refine (unescaped_ok b ⟨k.toArray⟩ a _ (Hm0.out.drewN q) (by simp [ByteArray.size]; omega) Hk.out).mono ?_
        rintro e w2 ⟨rfl, hb2⟩
        have hm2 := (Hm0.out.drewN q).below hb2 (by simp [World.drewN]; omega)
        have Hm2 := Lib.hid hm2; clear hm2
        go_wp2_with fail
        refine (unescaped_ok b ⟨v.toArray⟩ t _ Hm2.out (by simp [ByteArray.size]; omega) Hv.out).mono ?_
        rintro e w3 ⟨rfl, hb3⟩
        obtain ⟨hc0, hc1, hz0, hz1, hsz, hbb⟩ := box_kept (((below_drewN (Below.refl _ _) q).trans hb2).trans (hb3.mono hb2.size))
        clear hb2 hb3
        go_wp2
        refine bodyPost_ret (v := .tuple #[.agg #[.string ⟨a.toArray⟩, .string ⟨t.toArray⟩], .int .i64 0]) ?_ rfl ⟨rfl, ?_⟩
        · simp [results, Try.results46, go_sem, hc0, hc1]
        · exact ((hbb.setCell (by simp) _).setCell (by simp) _)
end Go.Proofs.Ytihfejjkkgnneaa
