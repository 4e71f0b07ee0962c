/-
  The library's IndexByte; text's line, firstStart, isLine, Canon, Starts: what each call returns.
-/
import Derived.Test.YtknlegjlbkaghaaRw
import Derived.Test.YtknlegjlbkaghaaTm
import Derived.Lib.Strings
import Derived.Lib.Walk
import Derived.Lib.BytesEntry
import Derived.IntWalk
namespace Go.Proofs.Ytknlegjlbkaghaa
open Go.RowKit

theorem bty : U8 Try.prog 22 5 9 := ⟨Try.underlying22, Try.underlying5, Try.underlying9, by kernel_rfl⟩
theorem bytesOf_map (l : List UInt8) : Lib.bytesOf (l.map fun x => (x.toNat : Int)) = l := by
  simp only [Lib.bytesOf, List.map_map]
  induction l with
  | nil => rfl
  | cons x l ih => rw [List.map_cons, ih]; simp

set_option maxHeartbeats 1000000 in
set_option maxRecDepth 100000 in
/-- bytes.IndexByte -/
theorem bidx_c (b o n c B : Nat) (l : List UInt8) (w : World) (hr : Rb w B (some ⟨b, o, none⟩) n c l) :
    Calls Try.prog 28 #[.slice (some ⟨b, o, none⟩) n c, .int .u8 10] w fun e w' => e = .returned (.int .i64 (Lib.indexByte l 10)) ∧ w = w' := by
  have hl := hr.len
  have hc : ∀ i, i < n → w.cell? ⟨b, o + i, none⟩ = some (.int .u8 ((l.map fun x => (x.toNat : Int)).getD i 0)) := fun i hi => by
    obtain ⟨b', o', x, e, _, hx, hg⟩ := hr.at_ hi
    injection e with e
    injection e with e1 e2 _
    subst e1 e2
    rw [List.getD_eq_getElem?_getD, List.getElem?_map, hg.1]
    exact hx
  have hrun := Lib.run_indexByteSlice (P := Try.prog) w b o n c (l.map fun x => (x.toNat : Int)) (by simpa using hl) hc 10
  rw [bytesOf_map] at hrun
  have H := Lib.hid hrun; clear hrun hc hl
  go_enter Try.func28, Try.ntmps28
  go_wp2_with fail
  rw [run_callFunc_extern Try.func30 (by kernel_rfl) (by kernel_rfl) (by kernel_rfl) (e := Extern.BytealgIndexByte.indexByte) (by kernel_rfl), H.out]
  simp only [Result.andThen]
  rw [Oper.upon_value]
  go_wp2
  go_ret
  exact ⟨rfl, rfl⟩

set_option maxHeartbeats 1000000 in
set_option maxRecDepth 100000 in
/-- strings.IndexByte -/
theorem lidx_c (s : ByteArray) (w : World) :
    Calls Try.prog 31 #[.string s, .int .u8 10] w fun e w' => e = .returned (.int .i64 (Lib.indexByte s.data.toList 10)) ∧ w = w' := by
  go_enter Try.func31, Try.ntmps31
  go_wp2_with fail
  rw [run_callFunc_extern Try.func32 (by kernel_rfl) (by kernel_rfl) (by kernel_rfl) (e := Extern.BytealgIndexByte.indexByte) (by kernel_rfl), Lib.run_indexByteString]
  simp only [Result.andThen]
  rw [Oper.upon_value]
  go_wp2
  go_ret
  exact ⟨rfl, rfl⟩
set_option maxRecDepth 100000 in
theorem sidx_c (s : ByteArray) (w : World) :
    Calls Try.prog 29 #[.string s, .int .u8 10] w fun e w' => e = .returned (.int .i64 (Lib.indexByte s.data.toList 10)) ∧ w = w' := by
  go_enter Try.func29, Try.ntmps29
  go_wp2_with fail
  refine (lidx_c s _).mono ?_
  rintro e w' ⟨rfl, rfl⟩
  go_wp2
  go_ret
  exact ⟨rfl, rfl⟩

/-- 'b[i:k]' of a slice that has an address. -/
theorem mid_at {w : World} {B n c b o : Nat} {l : List UInt8} (h : Rb w B (some ⟨b, o, none⟩) n c l) {i k : Nat} (hi : i ≤ k) (hk : k ≤ n) (hc : i < c) (I K : Int) (hI : I = (i : Int)) (hK : K = (k : Int)) (m : Nat) (hm : m = k - i) :
    ∃ o', (∀ W, (Instr.slice 22 (.slice (some ⟨b, o, none⟩) n c) (some (.int .i64 I)) (some (.int .i64 K)) none).run Try.prog W = .ok (.slice (some ⟨b, o', none⟩) m (c - i)) W) ∧ Rb w B (some ⟨b, o', none⟩) m (c - i) ((l.take k).drop i) := by
  subst hI hK hm
  have e : (if c = i then some (⟨b, o, none⟩ : Addr) else (some (⟨b, o, none⟩ : Addr)).map (·.add i)) = some ⟨b, o + i, none⟩ := by
    rw [if_neg (by omega)]
    by_cases h0 : i = 0
    · subst h0; simp [Addr.add]
    · simp [Addr.add, h0]
  refine ⟨o + i, fun W => ?_, ?_⟩
  · rw [run_slice_lh W _ _ _ _ bty.sl' .i64 .i64 (i : Int) (k : Int) (by omega) (by omega) (by have := h.2.1; omega), bty.sz]
    simp [Result.andThen, sliced]
    have := h.2.1
    rw [if_neg (by omega)]
    by_cases h0 : i = 0
    · subst h0; simp [Addr.add]
    · simp [Addr.add, h0]
  · have := h.mid hi hk
    rw [e] at this
    exact this

def RetLn (w : World) (l : List UInt8) (a : Nat) (e : Ending) (w' : World) : Prop := ∃ k n, e = .returned (.tuple #[.string ⟨List.toArray k⟩, .int .i64 ((n : Nat) : Int)]) ∧ Tm.Line l a k n ∧ w = w'

set_option maxHeartbeats 1000000 in
set_option maxRecDepth 100000 in
/-- line -/
theorem line_c (A : Option Addr) (n c B : Nat) (l : List UInt8) (a : Nat) (w : World) (hr : Rb w B A n c l) (ha : a < n) (hn : n ≤ 1000000) :
    Calls Try.prog 23 #[.slice A n c, .int .i64 (a : Int)] w (RetLn w l a) := by
  have hl := hr.len
  obtain ⟨D, hD, hrD⟩ := bty.from_ hr (k := a) (by omega) (a : Int) rfl
  obtain ⟨b1, o1, _, rfl, _⟩ := hrD.at_ (k := 0) (by omega)
  have hcv := bty.conv hrD
  rcases Tm.idx_cases (l.drop a) with ⟨hi, hnone⟩ | ⟨k, v, hkv, hi, hnone⟩
  · have Hfin := Lib.hid (Tm.line_last l a (by omega) hnone)
    have Hl := Lib.hid hl; have HrD := Lib.hid hrD; have Hi := Lib.hid hi; clear hr hl hrD hi hnone
    go_enter Try.func23, Try.ntmps23
    go_wp2_with fail
    refine (bidx_c b1 o1 _ _ B _ _ HrD.out).mono ?_
    rw [Hi.out]
    rintro e w' ⟨rfl, rfl⟩
    go_wp2
    go_ret2
    exact ⟨_, n, rfl, by have := Hfin.out; rwa [Hl.out] at this, rfl⟩
  · have hfin := Tm.line_more l k v a hkv hnone
    have hlen := congrArg List.length hkv
    rw [List.length_drop, List.length_append, List.length_cons] at hlen
    have hka : a + k.length + 1 ≤ n := by omega
    obtain ⟨E, hE, hrE⟩ := bty.mid_ hr (i := a) (k := a + k.length) (by omega) (by omega) (a : Int) ((a : Int) + (k.length : Int)) rfl (by omega) k.length (by omega)
    have e2 : (l.take (a + k.length)).drop a = k := by rw [List.drop_take, show a + k.length - a = k.length by omega]; exact hfin.2
    rw [e2] at hrE
    have hcvE := bty.conv hrE
    have Hfin := Lib.hid hfin; have Hl := Lib.hid hl; have HrD := Lib.hid hrD; have Hi := Lib.hid hi; clear hr hl hrD hi hnone hfin hlen hrE e2 hkv
    go_enter Try.func23, Try.ntmps23
    go_wp2_with fail
    refine (bidx_c b1 o1 _ _ B _ _ HrD.out).mono ?_
    rw [Hi.out]
    rintro e w' ⟨rfl, rfl⟩
    go_wp2
    go_ret2
    exact ⟨k, a + k.length + 1, by first | rfl | (simp [Int.natCast_add]), by have h := Hfin.out.1; rwa [Hfin.out.2] at h, rfl⟩

def RetFs (w : World) (l : List UInt8) (f t : Nat) (e : Ending) (w' : World) : Prop := ∃ F : Nat, e = .returned (.int .i64 (F : Int)) ∧ Tm.rd l f t = Tm.rl l F t ∧ w = w'

set_option maxHeartbeats 1000000 in
set_option maxRecDepth 100000 in
/-- firstStart -/
theorem first_c (A : Option Addr) (n c B : Nat) (l : List UInt8) (f t : Nat) (w : World) (hr : Rb w B A n c l) (hft : f ≤ t) (ht : t ≤ n) (hn : n ≤ 1000000) :
    Calls Try.prog 24 #[.slice A n c, .int .i64 (f : Int), .int .i64 (t : Int)] w (RetFs w l f t) := by
  by_cases h0 : f = 0
  · subst h0
    go_enter Try.func24, Try.ntmps24
    go_wp2
    go_ret
    exact ⟨0, rfl, Tm.rd_start l t, rfl⟩
  · obtain ⟨b1, o1, _, rfl, _⟩ := hr.at_ (k := 0) (by omega)
    have hnc := hr.2.1
    have hl := hr.len
    obtain ⟨o2, hD, hrD⟩ := mid_at hr (i := f - 1) (k := t - 1) (by omega) (by omega) (by omega) ((f : Int) - 1) ((t : Int) - 1) (by omega) (by omega) (t - f) (by omega)
    have hlen : ((l.take (t - 1)).drop (f - 1)).length = t - f := by rw [List.length_drop, List.length_take]; omega
    have hget : ∀ j, j < t - f → ((l.take (t - 1)).drop (f - 1))[j]? = l[f - 1 + j]? := fun j hj => by rw [List.getElem?_drop, List.getElem?_take, if_pos (by omega)]
    rcases Tm.idx_cases ((l.take (t - 1)).drop (f - 1)) with ⟨hi, hnone⟩ | ⟨k, v, hkv, hi, hnone⟩
    · have hfin : Tm.rd l f t = Tm.rl l t t := Tm.rd_none l f t (by omega) fun j h1 h2 h3 => by
        have := hget (j - (f - 1)) (by omega)
        rw [show f - 1 + (j - (f - 1)) = j by omega, h3] at this
        exact hnone 10 (List.mem_of_getElem? this) rfl
      have Hfin := Lib.hid hfin; have HrD := Lib.hid hrD; have Hi := Lib.hid hi; clear hr hl hrD hi hnone hfin hlen hget
      have hf1 : 1 ≤ f := by omega
      go_enter Try.func24, Try.ntmps24
      go_wp2_with fail
      refine (bidx_c b1 o2 _ _ B _ _ HrD.out).mono ?_
      rw [Hi.out]
      rintro e w' ⟨rfl, rfl⟩
      go_wp2
      go_ret
      exact ⟨t, rfl, Hfin.out, rfl⟩
    · have hkl : k.length < t - f := by
        have := congrArg List.length hkv
        rw [hlen, List.length_append, List.length_cons] at this
        omega
      have h10 : l[f - 1 + k.length]? = some 10 := by rw [← hget k.length hkl, hkv]; simp
      have hfin : Tm.rd l f t = Tm.rl l (f + k.length) t := Tm.rd_some l f t k.length (by omega) h10 fun j h1 h2 h3 => by
        have := hget (j - (f - 1)) (by omega)
        rw [show f - 1 + (j - (f - 1)) = j by omega, h3, hkv, List.getElem?_append_left (by omega)] at this
        exact hnone 10 (List.mem_of_getElem? this) rfl
      have Hfin := Lib.hid hfin; have HrD := Lib.hid hrD; have Hi := Lib.hid hi; clear hr hl hrD hi hnone hfin hlen hget h10 hkv
      have hf1 : 1 ≤ f := by omega
      go_enter Try.func24, Try.ntmps24
      go_wp2_with fail
      refine (bidx_c b1 o2 _ _ B _ _ HrD.out).mono ?_
      rw [Hi.out]
      rintro e w' ⟨rfl, rfl⟩
      go_wp2
      go_ret
      exact ⟨f + k.length, rfl, Hfin.out, rfl⟩

set_option maxHeartbeats 1000000 in
set_option maxRecDepth 100000 in
/-- Canon -/
theorem canon_c (A : Option Addr) (n c B : Nat) (l : List UInt8) (w : World) (hr : Rb w B A n c l) (hn : n ≤ 1000000) (o : Bool) (ho : o = Tm.canon l) :
    Calls Try.prog 13 #[.slice A n c] w fun e w' => e = .returned (.bool o) ∧ w = w' := by
  have hl := hr.len
  by_cases h0 : n = 0
  · subst h0
    obtain rfl : l = [] := List.eq_nil_of_length_eq_zero hl
    obtain rfl : o = true := ho
    clear hr hl
    go_enter Try.func13, Try.ntmps13
    go_wp2
    go_ret
    exact ⟨rfl, rfl⟩
  · obtain ⟨b, off, x, rfl, _, hx, hg, _⟩ := hr.at_ (k := n - 1) (by omega)
    have hc : Tm.canon l = (x == 10) := by
      unfold Tm.canon
      have e1 : l.isEmpty = false := by cases l with
        | nil => simp at hl; omega
        | cons y l => rfl
      rw [e1, Bool.false_or, List.getLast?_eq_getElem?, hl, hg]
      rfl
    rw [hc] at ho
    have hn1 : 1 ≤ n := by omega
    have hnz : ((n : Int) == 0) = false := by simp; omega
    have hnk : ((n : Int) - 1).toNat = n - 1 := by omega
    clear hr hl hc hg
    by_cases hx10 : x = 10
    · subst hx10
      obtain rfl : o = true := ho
      go_enter Try.func13, Try.ntmps13
      go_wp2
      go_ret
      exact ⟨rfl, rfl⟩
    · obtain rfl : o = false := by rw [ho]; simpa using hx10
      have hxb : ((x.toNat : Int) == 10) = false := by
        rw [beq_eq_false_iff_ne]
        intro h
        apply hx10
        apply UInt8.toNat_inj.1
        show x.toNat = 10
        omega
      clear ho hx10
      go_enter Try.func13, Try.ntmps13
      go_wp2
      go_ret
      exact ⟨rfl, rfl⟩

theorem ten_ne {x : UInt8} (h : x ≠ 10) : ((x.toNat : Int) == 10) = false := by
  rw [beq_eq_false_iff_ne]
  intro e
  apply h
  apply UInt8.toNat_inj.1
  show x.toNat = 10
  omega

set_option maxHeartbeats 1000000 in
set_option maxRecDepth 100000 in
/-- Starts -/
theorem starts_c (A : Option Addr) (n c B : Nat) (l : List UInt8) (a : Int) (w : World) (hr : Rb w B A n c l) (hn : n ≤ 1000000) (ha : I64 a) (o : Bool) (ho : o = Tm.starts l a) :
    Calls Try.prog 14 #[.slice A n c, .int .i64 a] w fun e w' => e = .returned (.bool o) ∧ w = w' := by
  have hl := hr.len
  unfold I64 at ha
  by_cases h1 : a < 0
  · obtain rfl : o = false := by rw [ho]; exact Tm.starts_neg l a h1
    have hd : decide (a < 0) = true := by simpa using h1
    clear hr hl ho
    go_enter Try.func14, Try.ntmps14
    go_wp2
    go_ret
    exact ⟨rfl, rfl⟩
  · have hd1 : decide (a < 0) = false := by simpa using h1
    by_cases h2 : (n : Int) ≤ a
    · obtain rfl : o = false := by rw [ho]; exact Tm.starts_large l a (by omega)
      have hd : decide ((n : Int) ≤ a) = true := by simpa using h2
      clear hr hl ho h1
      go_enter Try.func14, Try.ntmps14
      go_wp2
      go_ret
      exact ⟨rfl, rfl⟩
    · have hd2 : decide ((n : Int) ≤ a) = false := by simpa using h2
      obtain ⟨k, rfl⟩ : ∃ k : Nat, a = (k : Int) := ⟨a.toNat, by omega⟩
      cases k with
      | zero =>
        obtain rfl : o = true := by rw [ho]; exact Tm.starts_nil l (by omega)
        have hn0 : decide (n = 0) = false := by simp; omega
        clear hr hl ho h1 h2 hd1 hd2
        show Calls _ _ #[.slice A n c, .int .i64 0] _ _
        go_enter Try.func14, Try.ntmps14
        go_wp2
        go_ret
        exact ⟨rfl, rfl⟩
      | succ k =>
        obtain ⟨b, off, x, rfl, _, hx, hg, _⟩ := hr.at_ (k := k) (by omega)
        obtain ⟨K, hK⟩ : ∃ K : Nat, K = k + 1 := ⟨_, rfl⟩
        rw [← hK] at ho hd1 hd2 h1 h2
        have hK0 : ((K : Int) == 0) = false := by simp; omega
        have hK1 : ((K : Int) - 1).toNat = k := by omega
        have hKl : 1 ≤ K := by omega
        have hKn : K < n := by omega
        have hkn : k < n := by omega
        by_cases hx10 : x = 10
        · subst hx10
          obtain rfl : o = true := by rw [ho, hK]; exact Tm.starts_ten l k (by omega) hg
          clear hr hl ho h1 h2 hg hK
          go_enter Try.func14, Try.ntmps14
          go_wp2
          go_ret
          exact ⟨rfl, rfl⟩
        · obtain rfl : o = false := by rw [ho, hK]; exact Tm.starts_no l k x hg hx10
          have hxb := ten_ne hx10
          clear hr hl ho h1 h2 hg hK hx10
          go_enter Try.func14, Try.ntmps14
          go_wp2
          go_ret
          exact ⟨rfl, rfl⟩

set_option maxHeartbeats 1000000 in
set_option maxRecDepth 100000 in
/-- isLine -/
theorem isLine_c (A : Option Addr) (n c B : Nat) (r : List (List UInt8)) (w : World) (hr : Rc 1 w B A n c (lvs r)) (o : Bool) (ho : o = Tm.ok r) :
    Calls Try.prog 27 #[.slice A n c] w fun e w' => e = .returned (.bool o) ∧ w = w' := by
  have hl := lvs_num hr
  by_cases h1 : n = 1
  · subst h1
    obtain ⟨b, off, s, rfl, _, hcell, hx, _⟩ := lvs_at hr (k := 0) (by omega)
    rw [Nat.add_zero] at hcell
    obtain rfl : r = [s] := by
      match r, hl, hx with
      | [y], _, hx => simp at hx; rw [hx]
    by_cases hbig : s.length ≤ 1000
    · have hd : decide ((s.length : Int) ≤ 1000) = true := by simp; omega
      have hd2 : decide (s.length ≤ 1000) = true := by simpa using hbig
      rw [Tm.ok_one, hd2, Tm.contains_ten, Bool.true_and] at ho
      rcases Tm.idx_cases s with ⟨hi, _⟩ | ⟨k, v, hkv, hi, _⟩
      · obtain rfl : o = true := by rw [ho, hi]; rfl
        have Hi := Lib.hid (show Lib.indexByte (⟨s.toArray⟩ : ByteArray).data.toList 10 = -1 from hi); clear hr hl ho hi hx hd2
        go_enter Try.func27, Try.ntmps27
        go_wp2_with fail
        refine (sidx_c _ _).mono ?_
        rw [Hi.out]
        rintro e w' ⟨rfl, rfl⟩
        go_wp2
        go_ret
        exact ⟨rfl, rfl⟩
      · obtain rfl : o = false := by rw [ho, hi]; simp
        have Hi := Lib.hid (show Lib.indexByte (⟨s.toArray⟩ : ByteArray).data.toList 10 = (k.length : Int) from hi); clear hr hl ho hi hx hd2 hkv
        go_enter Try.func27, Try.ntmps27
        go_wp2_with fail
        refine (sidx_c _ _).mono ?_
        rw [Hi.out]
        rintro e w' ⟨rfl, rfl⟩
        go_wp2
        go_ret
        exact ⟨rfl, rfl⟩
    · have hd : decide ((s.length : Int) ≤ 1000) = false := by simp; omega
      obtain rfl : o = false := by rw [ho, Tm.ok_one, decide_eq_false hbig]; rfl
      clear hr hl ho hx
      go_enter Try.func27, Try.ntmps27
      go_wp2
      go_ret
      exact ⟨rfl, rfl⟩
  · obtain rfl : o = false := by rw [ho]; exact Tm.ok_len (by omega)
    have hd : ((n : Int) == 1) = false := by rw [beq_eq_false_iff_ne]; omega
    clear hr hl ho
    go_enter Try.func27, Try.ntmps27
    go_wp2
    go_ret
    exact ⟨rfl, rfl⟩
end Go.Proofs.Ytknlegjlbkaghaa
