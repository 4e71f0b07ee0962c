/-
  Joined: Dq.
-/
import Derived.Test.YtknmhdkomjjneaaGreatDoorJW41
import Derived.Test.YtknmhdkomjjneaaGreatDoorJW36
import Derived.Test.YtknmhdkomjjneaaGreatDoorJW6
import Derived.Lib.DecodeN
import Derived.Lib.IndexAny
import Derived.Lib.RuneCount
import Derived.Laws.RangeAny
import Derived.Laws.Runes
import Derived.BigQuiet
import Derived.IntWalk
import Derived.WalkMore
/-
  The library's IndexRune and IndexAny at the four bytes for whose sake a field is quoted; ContainsAny.
-/
namespace Go.Proofs.YtknmhdkomjjneaaGreatDoor.Csv
open Go.RowKit

def Q4 : ByteArray := ⟨#[44, 34, 10, 13]⟩
theorem q4_list : Q4.data.toList = [44, 34, 10, 13] := rfl
theorem q4_has (x : UInt8) : ([44, 34, 10, 13] : List UInt8).contains x = Cv.nd x := by
  have h : ∀ y : UInt8, (x == y) = decide (x = y) := fun y => by by_cases h : x = y <;> simp [h]
  simp [Cv.nd, h, Bool.or_assoc]
theorem any_nd : ∀ l : List UInt8, decide (0 ≤ Lib.indexAny l [44, 34, 10, 13]) = l.any Cv.nd
  | [] => rfl
  | b :: l => by
    have ih := any_nd l
    have hge := Lib.indexAny_ge [44, 34, 10, 13] l
    rw [Lib.indexAny, q4_has, List.any_cons]
    cases hb : Cv.nd b with
    | true => simp
    | false =>
      rw [Bool.false_or, ← ih]
      by_cases h : Lib.indexAny l [44, 34, 10, 13] = -1
      · rw [h]; rfl
      · have h2 : (Lib.indexAny l [44, 34, 10, 13] == -1) = false := beq_eq_false_iff_ne.2 h
        simp only [h2, Bool.false_eq_true, if_false, decide_eq_decide]
        omega
theorem nd_high {x : UInt8} (h : 128 ≤ x.toNat) : Cv.nd x = false := by
  have h1 : x ≠ 44 := fun e => by subst e; simp at h
  have h2 : x ≠ 34 := fun e => by subst e; simp at h
  have h3 : x ≠ 10 := fun e => by subst e; simp at h
  have h4 : x ≠ 13 := fun e => by subst e; simp at h
  simp [Cv.nd, h1, h2, h3, h4]
theorem dec_high (s : ByteArray) (i : Nat) (hi : i < s.size) (h : 128 ≤ (s.get! i).toNat) : 128 ≤ (Utf8.decode s i).1 ∧ 1 ≤ (Utf8.decode s i).2 ∧ i + (Utf8.decode s i).2 ≤ s.size ∧ ∀ j, j < (Utf8.decode s i).2 → 128 ≤ (s.get! (i + j)).toNat := by
  rw [Lib.decode_at]
  have h0 : ¬ (s.get! i).toNat < 128 := by omega
  have hb : (s.get! i).toNat < 256 := (s.get! i).toNat_lt
  simp only [Lib.decodeN, h0, if_false]
  have one : ∀ j, j < 1 → 128 ≤ (s.get! (i + j)).toNat := fun j hj => by
    obtain rfl : j = 0 := by omega
    exact h
  split
  · rename_i h1
    split
    · refine ⟨by dsimp only; omega, by dsimp only; omega, by dsimp only; omega, fun j hj => ?_⟩
      rcases (show j = 0 ∨ j = 1 by dsimp only at hj; omega) with rfl | rfl
      · exact h
      · omega
    · exact ⟨by dsimp only; omega, by dsimp only; omega, by dsimp only; omega, one⟩
  · split
    · rename_i h1
      split
      · refine ⟨by dsimp only; omega, by dsimp only; omega, by dsimp only; omega, fun j hj => ?_⟩
        rcases (show j = 0 ∨ j = 1 ∨ j = 2 by dsimp only at hj; omega) with rfl | rfl | rfl
        · exact h
        · omega
        · omega
      · exact ⟨by dsimp only; omega, by dsimp only; omega, by dsimp only; omega, one⟩
    · split
      · rename_i h1
        split
        · refine ⟨by dsimp only; omega, by dsimp only; omega, by dsimp only; omega, fun j hj => ?_⟩
          rcases (show j = 0 ∨ j = 1 ∨ j = 2 ∨ j = 3 by dsimp only at hj; omega) with rfl | rfl | rfl | rfl
          · exact h
          · omega
          · omega
          · omega
        · exact ⟨by dsimp only; omega, by dsimp only; omega, by dsimp only; omega, one⟩
      · exact ⟨by dsimp only; omega, by dsimp only; omega, by dsimp only; omega, one⟩

def RetK (w : World) (b : Bool) (e : Ending) (w' : World) : Prop := ∃ k : Int, e = .returned (.int .i64 k) ∧ decide (0 ≤ k) = b ∧ Below w.heap.size w w'

set_option maxRecDepth 100000 in
set_option maxHeartbeats 2000000 in
theorem irune_low (x : UInt8) (hx : x.toNat < 128) (w : World) :
    Calls Tryz.prog 232 #[.string Q4, .int .i32 (x.toNat : Int)] w (RetK w (Cv.nd x)) := by
  have hib := Tryz.strings_IndexByte Q4 (x.toNat : Int) w
  have hback : ((x.toNat : Int)).toNat.toUInt8 = x := by simp
  rw [hback, q4_list] at hib
  have hcon := Lib.contains_iff_indexByte [44, 34, 10, 13] x
  rw [q4_has] at hcon
  have h1 : (x.toNat : Int) < 128 := by omega
  have h0 : (0 : Int) ≤ (x.toNat : Int) := by omega
  have hw : IntKind.u8.wrap (x.toNat : Int) = (x.toNat : Int) := by rw [IntKind.wrap_u8]; omega
  have Hib := Lib.hid hib; have Hcon := Lib.hid hcon; clear hib hcon hback
  go_enter Tryz.func232, Tryz.ntmps232
  go_wp2_with fail
  refine Hib.out.mono ?_
  rintro e w' ⟨rfl, hw'⟩
  subst hw'
  go_wp2
  go_ret
  exact ⟨_, rfl, Hcon.out.symm, Below.refl _ _⟩

theorem q4_low : ∀ b ∈ Q4.data.toList, b.toNat < 128 := by rw [q4_list]; decide
theorem q4_at (i : Nat) (hi : i < 4) : ∃ (h : i < Q4.size) (x : UInt8), Q4[i]'h = x ∧ x.toNat < 128 := by
  match i, hi with
  | 0, _ => exact ⟨by decide, 44, rfl, by decide⟩
  | 1, _ => exact ⟨by decide, 34, rfl, by decide⟩
  | 2, _ => exact ⟨by decide, 10, rfl, by decide⟩
  | 3, _ => exact ⟨by decide, 13, rfl, by decide⟩

set_option maxRecDepth 100000 in
set_option maxHeartbeats 2000000 in
theorem irune_err (w : World) : Calls Tryz.prog 232 #[.string Q4, .int .i32 65533] w (RetK w false) := by
  go_enter Tryz.func232, Tryz.ntmps232
  go_wp2
  go_loopg [5, 6] 4 (fun g _ _ wx => ∃ i : Nat, i + g = 4 ∧ wx = w.iter Q4 i)
  case atStart => exact ⟨0, rfl, rfl⟩
  case round =>
    obtain ⟨i, hig, rfl⟩ := hrel
    cases gk with
    | zero =>
      obtain rfl : i = 4 := by omega
      have hnx := fun ty => run_next_end (P := Tryz.prog) w Q4 4 ty (by decide)
      go_wp2
      go_ret
      exact ⟨-1, rfl, rfl, (Below.refl _ _).alloc (Nat.le_refl _) _⟩
    | succ g =>
      obtain ⟨hq, x, hx, hx128⟩ := q4_at i (by omega)
      have hnx := fun ty => run_next_ascii (P := Tryz.prog) w Q4 i ty hq (by rw [hx]; exact hx128)
      rw [hx] at hnx
      have dx : ((x.toNat : Int) == 65533) = false := by rw [beq_eq_false_iff_ne]; omega
      go_wp2
      go_roundg g
      case measure => omega
      case rel => exact ⟨i + 1, by omega, rfl⟩

set_option maxRecDepth 100000 in
set_option maxHeartbeats 4000000 in
theorem irune_more (n : Nat) (h1 : 128 ≤ n) (h2 : n ≤ 2147483647) (h3 : n ≠ 65533) (w : World) : Calls Tryz.prog 232 #[.string Q4, .int .i32 (n : Int)] w (RetK w false) := by
  have d1 : decide ((n : Int) < 128) = false := by simp; omega
  have d1' : ¬ ((n : Int) < 128) := by omega
  have d0 : (0 : Int) ≤ (n : Int) := by omega
  have d3 : ((n : Int) == 65533) = false := by rw [beq_eq_false_iff_ne]; omega
  have hv := Tryz.utf8_ValidRune (n : Int) w
  cases hval : Lib.validRune (n : Int) with
  | false =>
    rw [hval] at hv
    have Hv := Lib.hid hv; clear hv
    go_enter Tryz.func232, Tryz.ntmps232
    go_wp2_with fail
    refine Hv.out.mono ?_
    rintro e w' ⟨rfl, hw'⟩
    subst hw'
    go_wp2
    go_ret
    exact ⟨-1, rfl, rfl, Below.refl _ _⟩
  | true =>
    rw [hval] at hv
    obtain ⟨e1, e2, e3⟩ := encode_facts (n : Int) (by rw [validRune_eq]; exact hval) (by omega)
    obtain ⟨E, hE⟩ : ∃ E, E = Utf8.encode (n : Int) := ⟨_, rfl⟩
    have hc := run_convert_int_string (P := Tryz.prog) w 21 9 .i32 (n : Int) (by rw [Tryz.underlying21]; rfl) Tryz.underlying9
    rw [← hE] at e1 e2 e3 hc
    obtain ⟨m, hm⟩ : ∃ m, m = E.size - 1 := ⟨_, rfl⟩
    have hsz : E.size = m + 1 := by omega
    have hmE : m < E.size := by omega
    have hm4 : m < 4 := by omega
    obtain ⟨hq, y, hy, hy128⟩ := q4_at m hm4
    obtain ⟨z, hz⟩ : ∃ z : UInt8, E[m]'hmE = z := ⟨_, rfl⟩
    have hz128 : 128 ≤ z.toNat := by
      have := e3 (by omega)
      rw [← hz]
      simpa [← hm] using this
    have dyz : ((y.toNat : Int) != (z.toNat : Int)) = true := by simp [bne]; omega
    have dyz2 : ((y.toNat : Int) == (z.toNat : Int)) = false := by rw [beq_eq_false_iff_ne]; omega
    have q1 : IntKind.i64.wrap (((m + 1 : Nat) : Int) - 1) = (m : Int) := by rw [show (((m + 1 : Nat) : Int) - 1) = (m : Int) by omega]; exact IntWalk.i64_in _ (by omega)
    have q4 : Q4.size = 4 := rfl
    have hib : ∀ (s : ByteArray) (W : World), (∀ b ∈ s.data.toList, b.toNat < 128) → Calls Tryz.prog 143 #[.string s, .int .u8 (z.toNat : Int)] W fun e w' => e = .returned (.int .i64 (-1)) ∧ w' = W := fun s W hs => by
      have h := Tryz.strings_IndexByte s (z.toNat : Int) W
      have hback : ((z.toNat : Int)).toNat.toUInt8 = z := by simp
      rw [hback] at h
      have h3 : Lib.indexByte s.data.toList z = -1 := by
        have h4 := Lib.contains_iff_indexByte s.data.toList z
        have h5 := Lib.indexByte_ge s.data.toList z
        have h6 : s.data.toList.contains z = false := by
          rw [Bool.eq_false_iff]
          intro hc
          have := hs z (List.contains_iff_mem.1 hc)
          omega
        rw [h6] at h4
        have := of_decide_eq_false h4.symm
        omega
      rw [h3] at h; exact h
    have Hv := Lib.hid hv; have Hib := Lib.hid hib; clear hv e3 hib hE hm e1 e2
    go_enter Tryz.func232, Tryz.ntmps232
    go_wp2_with fail
    refine Hv.out.mono ?_
    rintro e w' ⟨rfl, hw'⟩
    subst hw'
    go_wp2
    go_step3
    go_wp2
    go_loop [9, 10] (fun a b => a = .int .i64 (m : Int) ∧ b = .int .i64 0) (fun _ _ => 0)
    case atStart => exact ⟨by first | rfl | (simp; done) | (go_num), rfl⟩
    case round =>
      obtain ⟨rfl, rfl⟩ := hrel
      clear q1 hsz
      have hm5 : m + 1 ≤ Q4.size := by rw [q4]; omega
      clear q4
      have w1 : IntKind.i64.wrap ((m : Int) + 1) = (m : Int) + 1 := IntWalk.i64_in _ (by omega)
      have w2 : 0 ≤ (m : Int) + 1 := by omega
      have w3 : (m : Int) + 1 ≤ (Q4.size : Int) := by omega
      have w4 : ((m : Int) + 1).toNat = m + 1 := by omega
      go_wp2_with fail
      go_step3
      go_wp2_with fail
      go_quiet (fail)
      go_wp2_with fail
      go_quiet ((go_at_call 143; refine (Hib.out _ _ (fun b hb => q4_low b (mem_extract hb))).mono ?_; rintro e w'' ⟨rfl, hw⟩; exact ⟨rfl, _, hw⟩))
      go_wp2
      rw [Exit.noGoto_ret]
      go_ret
      exact ⟨-1, rfl, rfl, below_drewN (Below.refl _ _) _⟩

theorem irune_high (n : Nat) (h1 : 128 ≤ n) (h2 : n ≤ 2147483647) (w : World) : Calls Tryz.prog 232 #[.string Q4, .int .i32 (n : Int)] w (RetK w false) := by
  by_cases h : n = 65533
  · subst h; exact irune_err w
  · exact irune_more n h1 h2 h w

theorem any_take (l : List UInt8) (i : Nat) (x : UInt8) (h : l[i]? = some x) : (l.take (i + 1)).any Cv.nd = ((l.take i).any Cv.nd || Cv.nd x) := by
  rw [List.take_add_one, h, List.any_append]; simp
theorem any_high (s : ByteArray) (i : Nat) : ∀ k, (∀ j, j < k → 128 ≤ (s.get! (i + j)).toNat) → i + k ≤ s.size → (s.data.toList.take (i + k)).any Cv.nd = (s.data.toList.take i).any Cv.nd
  | 0, _, _ => rfl
  | k + 1, h, hs => by
    have ih := any_high s i k (fun j hj => h j (by omega)) (by omega)
    have hx : s.data.toList[i + k]? = some (s.get! (i + k)) := by
      have hi : i + k < s.size := by omega
      have h1 : s.get! (i + k) = s[i + k]'hi := get_at s (i + k) hi
      rw [h1]; exact Lib.data_getElem? s (i + k) hi
    rw [← Nat.add_assoc, any_take _ _ _ hx, ih, nd_high (h k (by omega)), Bool.or_false]

def itSet (w : World) (b : Nat) (s : ByteArray) (p : Nat) : World := { w with heap := w.heap.setIfInBounds b (.stringIter s p) }
theorem itSet_at {w : World} {b : Nat} {s s' : ByteArray} {p q : Nat} (h : w.heap[b]? = some (.stringIter s' q)) : (itSet w b s p).heap[b]? = some (.stringIter s p) := by
  have hb : b < w.heap.size := by
    rcases Nat.lt_or_ge b w.heap.size with h' | h'
    · exact h'
    · rw [Array.getElem?_eq_none h'] at h; cases h
  show (w.heap.setIfInBounds b _)[b]? = _
  simp [hb]
theorem itSet_below {B : Nat} {a w : World} {b : Nat} {s : ByteArray} {p : Nat} (h : Below B a w) (hb : B ≤ b) : Below B a (itSet w b s p) := by
  refine h.trans ⟨rfl, rfl, rfl, ?_, fun k hk => ?_⟩
  · show w.heap.size ≤ (w.heap.setIfInBounds b _).size
    simp
  · show (w.heap.setIfInBounds b _)[k]? = _
    rw [Array.getElem?_setIfInBounds_ne (by omega)]
theorem next_at {P : Program} (w : World) (b : Nat) (s : ByteArray) (pos : Nat) (ty : TypeId) (h : pos < s.size) (hb : w.heap[b]? = some (.stringIter s pos)) :
    (Instr.next (.pointer (some ⟨b, 0, none⟩)) true ty).run P w = .ok (.tuple #[.bool true, .int .i64 pos, .int .i32 (Utf8.decode s pos).1]) (itSet w b s (pos + (Utf8.decode s pos).2)) := by
  simp only [Instr.next, getObj, setObj, Sem.run_bind, Sem.run, hb, Result.andThen, h, if_true]
  simp [goInt, itSet]
theorem next_end {P : Program} (w : World) (b : Nat) (s : ByteArray) (pos : Nat) (ty : TypeId) (h : ¬ pos < s.size) (hb : w.heap[b]? = some (.stringIter s pos)) :
    (Instr.next (.pointer (some ⟨b, 0, none⟩)) true ty).run P w = .ok (.tuple #[.bool false]) w := by
  simp [Instr.next, getObj, Sem.run, hb, h]

set_option maxRecDepth 100000 in
set_option maxHeartbeats 4000000 in
theorem iany_short (s : ByteArray) (h8 : s.size ≤ 8) (w : World) : Calls Tryz.prog 215 #[.string s, .string Q4] w (RetK w (s.data.toList.any Cv.nd)) := by
  have hsu := Tryz.strings_shouldUseASCIISet (s.size : Int) w
  have h8z : decide ((8 : Int) < (s.size : Int)) = false := decide_eq_false (by omega)
  rw [h8z] at hsu
  have hemp : Q4.toList.isEmpty = false := by rw [Lib.toList_data]; rfl
  have hn1 : ((Q4.size : Int) == 1) = false := by decide
  have Hsu := Lib.hid hsu; clear hsu h8z
  go_enter Tryz.func215, Tryz.ntmps215
  go_wp2_with fail
  refine Hsu.out.mono ?_
  rintro e w' ⟨rfl, hw'⟩
  subst hw'
  go_wp2
  go_loopg [9, 10] s.size (fun g _ _ wx => ∃ i : Nat, i + g = s.size ∧ wx.heap[w'.heap.size]? = some (.stringIter s i) ∧ Below w'.heap.size w' wx ∧ (s.data.toList.take i).any Cv.nd = false)
  case atStart => exact ⟨0, by omega, World.iter_heap _ _ _, (Below.refl _ _).alloc (Nat.le_refl _) _, rfl⟩
  case round =>
    obtain ⟨i, hig, hit, hbel, hno⟩ := hrel
    have Hno := Lib.hid hno; clear hno
    rename World => wx
    cases gk with
    | zero =>
      obtain rfl : i = s.size := by omega
      have hnx := fun ty => next_end (P := Tryz.prog) wx w'.heap.size s s.size ty (Nat.lt_irrefl _) hit
      go_wp2
      go_ret
      refine ⟨-1, rfl, ?_, hbel⟩
      have h := Hno.out
      rw [List.take_of_length_le (by rw [str_len]; exact Nat.le_refl _)] at h
      rw [h]; rfl
    | succ g =>
      have hi : i < s.size := by omega
      obtain ⟨x, hx⟩ : ∃ x : UInt8, s[i]'hi = x := ⟨_, rfl⟩
      have hgx : s.get! i = x := by rw [← hx]; exact get_at s i hi
      have hxl : s.data.toList[i]? = some x := by rw [← hx]; exact Lib.data_getElem? s i hi
      have hnx := fun ty => next_at (P := Tryz.prog) wx w'.heap.size s i ty hi hit
      by_cases hlo : x.toNat < 128
      · have hsn := any_take _ i x hxl
        rw [Hno.out, Bool.false_or] at hsn
        have hdec := decode_ascii s i hi (by rw [hx]; exact hlo)
        rw [hx] at hdec
        simp only [hdec] at hnx
        obtain ⟨w3, h3⟩ : ∃ w3, w3 = itSet wx w'.heap.size s (i + 1) := ⟨_, rfl⟩
        have hit3 : w3.heap[w'.heap.size]? = some (.stringIter s (i + 1)) := by rw [h3]; exact itSet_at hit
        have hb3 : Below w'.heap.size w' w3 := by rw [h3]; exact itSet_below hbel (Nat.le_refl _)
        rw [← h3] at hnx
        have hir := irune_low x hlo w3
        cases hn : Cv.nd x with
        | true =>
          rw [hn] at hir hsn
          have Hir := Lib.hid hir; have Hsn := Lib.hid hsn; clear hir hsn hxl hgx hx hit hit3 h3 hdec
          go_wp2_with fail
          refine Hir.out.mono ?_
          rintro e w2 ⟨k, rfl, hk, hb⟩
          have hk0 : (0 : Int) ≤ k := of_decide_eq_true hk
          have bz := hb3.trans (hb.mono hb3.size)
          clear hk
          go_wp2
          go_ret
          refine ⟨(i : Int), rfl, ?_, bz⟩
          have h1 := Hsn.out
          have h2 : s.data.toList.any Cv.nd = true := by
            rw [← List.take_append_drop (i + 1) s.data.toList, List.any_append, h1]; rfl
          rw [h2]; simp
        | false =>
          rw [hn] at hir hsn
          have hlt3 : w'.heap.size < w3.heap.size := by
            rcases Nat.lt_or_ge w'.heap.size w3.heap.size with h' | h'
            · exact h'
            · rw [Array.getElem?_eq_none h'] at hit3; cases hit3
          have Hir := Lib.hid hir; have Hsn := Lib.hid hsn; have Hit := Lib.hid hit3; clear hir hsn hxl hgx hx hit hit3 h3 hdec
          go_wp2_with fail
          refine Hir.out.mono ?_
          rintro e w2 ⟨k, rfl, hk, hb⟩
          have hk0 : ¬ (0 : Int) ≤ k := of_decide_eq_false hk
          have bz := hb3.trans (hb.mono hb3.size)
          have hit2 := (hb.block w'.heap.size hlt3).trans Hit.out
          clear hk
          go_wp2
          go_roundg g
          case measure => omega
          case rel => exact ⟨i + 1, by omega, hit2, bz, Hsn.out⟩
      · have hd := dec_high s i hi (by rw [hgx]; omega)
        obtain ⟨h1, h2, h3', h4⟩ := hd
        have hle := decode_le s i
        have hsn := any_high s i _ h4 h3'
        rw [Hno.out] at hsn
        obtain ⟨cr, hcr⟩ : ∃ cr, cr = (Utf8.decode s i).1 := ⟨_, rfl⟩
        obtain ⟨wd, hwd⟩ : ∃ wd, wd = (Utf8.decode s i).2 := ⟨_, rfl⟩
        rw [← hcr] at h1 hle
        rw [← hwd] at h2 h3' hsn
        simp only [← hcr, ← hwd] at hnx
        obtain ⟨w3, h3⟩ : ∃ w3, w3 = itSet wx w'.heap.size s (i + wd) := ⟨_, rfl⟩
        have hit3 : w3.heap[w'.heap.size]? = some (.stringIter s (i + wd)) := by rw [h3]; exact itSet_at hit
        have hb3 : Below w'.heap.size w' w3 := by rw [h3]; exact itSet_below hbel (Nat.le_refl _)
        rw [← h3] at hnx
        have hir := irune_high cr h1 hle w3
        have hlt3 : w'.heap.size < w3.heap.size := by
          rcases Nat.lt_or_ge w'.heap.size w3.heap.size with h' | h'
          · exact h'
          · rw [Array.getElem?_eq_none h'] at hit3; cases hit3
        have Hir := Lib.hid hir; have Hsn := Lib.hid hsn; have Hit := Lib.hid hit3; clear hir hsn hxl hgx hx hit hit3 h3 h4 hcr hwd
        go_wp2_with fail
        refine Hir.out.mono ?_
        rintro e w2 ⟨k, rfl, hk, hb⟩
        have hk0 : ¬ (0 : Int) ≤ k := of_decide_eq_false hk
        have bz := hb3.trans (hb.mono hb3.size)
        have hit2 := (hb.block w'.heap.size hlt3).trans Hit.out
        clear hk
        go_wp2
        go_roundg (s.size - (i + wd))
        case measure => omega
        case rel => exact ⟨i + wd, by omega, hit2, bz, Hsn.out⟩
end Go.Proofs.YtknmhdkomjjneaaGreatDoor.Csv
