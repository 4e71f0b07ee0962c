/-
  The document's kinds, Arity, Result.
-/
import Derived.Test.YthkjhenaicbepaaDoorKa
namespace Go.Proofs.YthkjhenaicbepaaDoor
open Go.RowKit Vl Cd
theorem str_drop (s : ByteArray) (k : Nat) (h : k < s.size) : s.data.toList.drop k = s[k] :: s.data.toList.drop (k + 1) := by
  have h2 : k < s.data.toList.length := by rw [Array.length_toList]; exact h
  rw [List.drop_eq_getElem_cons h2]
  rfl

theorem kd_none {op : Int} (h : ¬ (4 ≤ op ∧ op ≤ 21)) : kd op = ([], []) := by
  unfold kd
  repeat rw [if_neg (by omega)]
set_option maxRecDepth 100000 in
set_option maxHeartbeats 2000000 in
theorem kinds_c (op : Int) (w : World) : Calls Tryd.prog 28 #[.int .i64 op] w fun e w' => e = .returned (.tuple #[st (kd op).1, st (kd op).2]) ∧ w = w' := by
  by_cases h : 4 ≤ op ∧ op ≤ 21
  · have hc : op = 4 ∨ op = 5 ∨ op = 6 ∨ op = 7 ∨ op = 8 ∨ op = 9 ∨ op = 10 ∨ op = 11 ∨ op = 12 ∨ op = 13 ∨ op = 14 ∨ op = 15 ∨ op = 16 ∨ op = 17 ∨ op = 18 ∨ op = 19 ∨ op = 20 ∨ op = 21 := by omega
    clear h
    rcases hc with rfl | rfl | rfl | rfl | rfl | rfl | rfl | rfl | rfl | rfl | rfl | rfl | rfl | rfl | rfl | rfl | rfl | rfl
    all_goals
      go_enter Tryd.func28, Tryd.ntmps28
      go_wp2
      go_ret2
      exact ⟨rfl, rfl⟩
  · rw [kd_none h]
    have d4 : (op == 4) = false := beq_eq_false_iff_ne.2 (by omega)
    have d5 : (op == 5) = false := beq_eq_false_iff_ne.2 (by omega)
    have d6 : (op == 6) = false := beq_eq_false_iff_ne.2 (by omega)
    have d7 : (op == 7) = false := beq_eq_false_iff_ne.2 (by omega)
    have d8 : (op == 8) = false := beq_eq_false_iff_ne.2 (by omega)
    have d9 : (op == 9) = false := beq_eq_false_iff_ne.2 (by omega)
    have d10 : (op == 10) = false := beq_eq_false_iff_ne.2 (by omega)
    have d11 : (op == 11) = false := beq_eq_false_iff_ne.2 (by omega)
    have d12 : (op == 12) = false := beq_eq_false_iff_ne.2 (by omega)
    have d13 : (op == 13) = false := beq_eq_false_iff_ne.2 (by omega)
    have d14 : (op == 14) = false := beq_eq_false_iff_ne.2 (by omega)
    have d15 : (op == 15) = false := beq_eq_false_iff_ne.2 (by omega)
    have d16 : (op == 16) = false := beq_eq_false_iff_ne.2 (by omega)
    have d17 : (op == 17) = false := beq_eq_false_iff_ne.2 (by omega)
    have d18 : (op == 18) = false := beq_eq_false_iff_ne.2 (by omega)
    have d19 : (op == 19) = false := beq_eq_false_iff_ne.2 (by omega)
    have d20 : (op == 20) = false := beq_eq_false_iff_ne.2 (by omega)
    have d21 : (op == 21) = false := beq_eq_false_iff_ne.2 (by omega)
    clear h
    go_enter Tryd.func28, Tryd.ntmps28
    go_wp2
    go_ret2
    exact ⟨rfl, rfl⟩
set_option maxRecDepth 100000 in
theorem arity_c (op : Int) (w : World) : Calls Tryd.prog 24 #[.int .i64 op] w fun e w' => e = .returned (.int .i64 (ar op : Int)) ∧ w = w' := by
  obtain ⟨K, hK⟩ : ∃ K, K = kd op := ⟨_, rfl⟩
  have hc := kinds_c op w
  rw [← hK] at hc
  have ha : ar op = K.1.length := by rw [hK]; rfl
  rw [ha]
  have Hc := Lib.hid hc
  clear hK hc ha
  go_enter Tryd.func24, Tryd.ntmps24
  go_wp2_with fail
  refine Hc.out.mono ?_
  rintro e w1 ⟨rfl, rfl⟩
  go_wp2
  go_ret
  exact ⟨rfl, rfl⟩

/-- The cells of flags. -/
def lvb (L : List Bool) : List Value := L.map .bool
theorem lvb_at {w : World} {B m c k : Nat} {A : Option Addr} {I : List Bool} (h : Rc 1 w B A m c (lvb I)) (hk : k < m) :
    ∃ b o q, A = some ⟨b, o, none⟩ ∧ b < B ∧ w.cell? ⟨b, o + k, none⟩ = some (.bool q) ∧ I[k]? = some q := by
  obtain ⟨b, o, x, rfl, hb, hc, hx⟩ := h.at_ (k := k) hk
  unfold lvb at hx
  rw [List.getElem?_map] at hx
  obtain ⟨q, hq, rfl⟩ := Option.map_eq_some_iff.1 hx
  exact ⟨b, o, q, rfl, hb, hc, hq⟩
theorem lvb_len1 {w : World} {B m c : Nat} {A : Option Addr} {I : List Bool} (h : Rc 1 w B A m c (lvb I)) : I.length = m := by
  have := h.len1
  unfold lvb at this
  rw [List.length_map] at this
  exact this
theorem rg_cons (c : UInt8) (k : List UInt8) (b : Bool) (l : List Bool) (o : Option Bool) : rg (c :: k) (b :: l) o = if c = 110 ∧ b = true ∨ c = 116 ∧ b = false then none else if c = 97 ∧ (o = some (!b)) then none else rg k l (if c = 97 then some b else o) := rfl
theorem rg_nil (l : List Bool) (o : Option Bool) : rg [] l o = some o := rfl
theorem kd_mem (op : Int) : (∀ c ∈ (kd op).1, c = 110 ∨ c = 116 ∨ c = 97) ∧ ((kd op).2 = [97] → 97 ∈ (kd op).1) ∧ (kd op).1.length ≤ 3 := by
  unfold kd
  repeat' split
  all_goals (refine ⟨fun c hc => ?_, fun h => ?_, ?_⟩ <;> simp_all <;> rcases hc with h | h <;> simp [h])
/-- Which kind was last, and where. -/
def An (L : List Bool) (k : Nat) (o : Option Bool) (av : Int) : Prop := (o = none ∧ av = -1) ∨ ∃ (j : Nat) (b : Bool), o = some b ∧ av = (j : Int) ∧ j < k ∧ L[j]? = some b
def RsRel (Y : ByteArray) (L : List Bool) (n : Nat) (G : Option (Option Bool)) (w : World) (a i : Value) (wr : World) : Prop :=
  ∃ (k : Nat) (av : Int) (o : Option Bool), k ≤ n ∧ a = .int .i64 av ∧ i = .int .i64 (k : Int) ∧ Hid (An L k o av) ∧ Hid (rg (Y.data.toList.drop k) (L.drop k) o = G) ∧ ∃ q, wr = w.drewN q
/-- An 'a' was seen, or not yet. -/
theorem rg_some {k : List UInt8} : ∀ {l : List Bool} {o o' : Option Bool}, rg k l o = some o' → (97 ∈ k ∨ o ≠ none) → o' ≠ none := by
  induction k with
  | nil => intro l o o' h h2; rw [rg_nil] at h; injection h with h; subst h; exact h2.resolve_left (by simp)
  | cons c k ih =>
    intro l o o' h h2
    cases l with
    | nil => simp [rg] at h
    | cons b l =>
      rw [rg_cons] at h
      split at h
      · cases h
      · split at h
        · cases h
        · refine ih h ?_
          by_cases hc : c = 97
          · exact .inr (by rw [if_pos hc]; simp)
          · rw [if_neg hc]
            rcases h2 with h2 | h2
            · rcases List.mem_cons.1 h2 with h2 | h2
              · exact absurd h2.symm hc
              · exact .inl h2
            · exact .inr h2

set_option maxRecDepth 100000 in
set_option maxHeartbeats 4000000 in
theorem result_c (op : Int) (A : Option Addr) (n c : Nat) (L : List Bool) (w : World) (hr : Rc 1 w w.heap.size A n c (lvb L)) (hn : n ≤ 1000000) :
    Calls Tryd.prog 25 #[.int .i64 op, .slice A n c] w fun e w' => e = .returned (.tuple #[.bool (res op L).1, .int .i64 ((res op L).2 : Int)]) ∧ ∃ q, w' = w.drewN q := by
  have hLl := lvb_len1 hr
  obtain ⟨hmem, hin, hk3⟩ := kd_mem op
  have hkc := kinds_c op w
  obtain ⟨K, hK⟩ : ∃ K, K = (kd op).1 := ⟨_, rfl⟩
  obtain ⟨T, hT⟩ : ∃ T, T = (kd op).2 := ⟨_, rfl⟩
  have hres : res op L = if K = [] then (false, 1) else if L.length ≠ K.length then (false, 11) else match rg K L none with | none => (false, 11) | some o => if T = [97] then (o.getD false, 0) else (T == [116], 0) := by rw [hK, hT]; rfl
  rw [← hK] at hmem hk3
  rw [← hK, ← hT] at hkc hin
  obtain ⟨R, hR⟩ : ∃ R, R = res op L := ⟨_, rfl⟩
  rw [← hR] at hres ⊢
  have Hkc := Lib.hid hkc
  clear hK hT hR hkc
  by_cases hK0 : K = []
  · rw [if_pos hK0] at hres
    subst hK0 hres
    go_enter Tryd.func25, Tryd.ntmps25
    go_wp2_with fail
    refine Hkc.out.mono ?_
    rintro e w1 ⟨rfl, rfl⟩
    go_wp2
    go_ret2
    exact ⟨rfl, 0, rfl⟩
  · rw [if_neg hK0] at hres
    have dK : (K == []) = false := beq_eq_false_iff_ne.2 hK0
    have dK' : K.isEmpty = false := by cases K with | nil => exact absurd rfl hK0 | cons _ _ => rfl
    by_cases hln : n = K.length
    · rw [if_neg (by rw [hLl, hln]; simp)] at hres
      obtain ⟨Y, hY⟩ : ∃ Y : ByteArray, Y = ⟨K.toArray⟩ := ⟨_, rfl⟩
      have hYl : Y.data.toList = K := by rw [hY]
      have hYs : Y.size = K.length := by rw [hY]; rfl
      have hKY : st K = .string Y := by rw [hY]
      rw [hKY] at Hkc
      have hn3 : Y.size ≤ 3 := by rw [hYs]; exact hk3
      have hnY : n = Y.size := by rw [hYs, hln]
      obtain ⟨G, hG⟩ : ∃ G, G = rg K L none := ⟨_, rfl⟩
      rw [← hG] at hres
      have HG := Lib.hid (show rg (Y.data.toList.drop 0) (L.drop 0) none = G by rw [hYl, hG, List.drop_zero, List.drop_zero])
      have Hmem := Lib.hid (show ∀ c ∈ Y.data.toList, c = 110 ∨ c = 116 ∨ c = 97 by rw [hYl]; exact hmem)
      have Hin := Lib.hid (show T = [97] → ∀ o, G = some o → o ≠ none from fun h o ho => rg_some (by rw [← hG]; exact ho) (.inl (hin h)))
      have HLl := Lib.hid hLl
      have hYe : (Y.toList.isEmpty) = false := by
        have h1 : Y.toList = K := by
          rw [hY]
          simp
        rw [h1]; exact dK'
      have hYe2 : Y.data.isEmpty = false := by rw [hY]; cases K with | nil => exact absurd rfl hK0 | cons _ _ => rfl
      have Hr := Lib.hid hr
      have Hres := Lib.hid hres
      subst hnY
      clear hY hYl hYs hKY hG hmem hin hLl hk3 hK0 dK dK' hln hr hres
      go_enter Tryd.func25, Tryd.ntmps25
      go_wp2_with fail
      refine Hkc.out.mono ?_
      rintro e w1 ⟨rfl, rfl⟩
      go_wp2
      go_loopw [8, 9] (fun a i wr => RsRel Y L Y.size G w a i wr) (fun _ i _ => Y.size - (intOf i).toNat)
      case atStart => exact ⟨0, -1, none, Nat.zero_le _, rfl, rfl, Lib.hid (.inl ⟨rfl, rfl⟩), HG, 0, rfl⟩
      case round =>
        obtain ⟨k, av, o, hk, rfl, rfl, Han, Hrg, q, rfl⟩ := hrel
        by_cases hlt : k < Y.size
        · have hrW : Rc 1 (w.drewN q) (w.drewN q).heap.size A Y.size c (lvb L) := Hr.out
          obtain ⟨b1, o1, x, rfl, hb1, hc1, hx⟩ := lvb_at hrW hlt
          have hd := str_drop Y k hlt
          have hLd : L.drop k = x :: L.drop (k + 1) := by
            have h2 : k < L.length := by rw [HLl.out]; exact hlt
            rw [List.drop_eq_getElem_cons h2]
            rw [List.getElem?_eq_getElem h2] at hx
            injection hx with hx
            rw [hx]
          have hrg := Hrg.out
          rw [hd, hLd, rg_cons] at hrg
          have hcm := Hmem.out Y[k] (by
            have h2 : k < Y.data.toList.length := by rw [Array.length_toList]; exact hlt
            exact List.getElem_mem h2)
          have Hx := Lib.hid hx
          clear hd hLd hx hrW Hrg
          rcases hcm with hcm | hcm | hcm
          · have hcn : (Y[k]).toNat = 110 := by rw [hcm]; rfl
            rw [hcm] at hrg
            cases x
            · rw [if_neg (by simp), if_neg (by simp), if_neg (by decide)] at hrg
              have Hrg2 := Lib.hid hrg
              clear hrg hcm
              go_wp2_with fail
              go_quiet (fail)
              go_wp2
              go_roundw
              case rel => exact ⟨k + 1, av, o, hlt, rfl, by go_num, Lib.hid (Han.out.imp id fun ⟨j, b, h1, h2, h3, h4⟩ => ⟨j, b, h1, h2, by omega, h4⟩), Hrg2, _, rfl⟩
              case measure => simp [intOf]; omega
            · rw [if_pos (by simp)] at hrg
              have hR : R = (false, 11) := by rw [Hres.out, ← hrg]
              subst hR
              clear hrg hcm Hres
              go_wp2
              go_ret2
              exact ⟨rfl, q, rfl⟩
          · have hcn : (Y[k]).toNat = 116 := by rw [hcm]; rfl
            rw [hcm] at hrg
            cases x
            · rw [if_pos (by simp)] at hrg
              have hR : R = (false, 11) := by rw [Hres.out, ← hrg]
              subst hR
              clear hrg hcm Hres
              go_wp2
              go_ret2
              exact ⟨rfl, q, rfl⟩
            · rw [if_neg (by simp), if_neg (by simp), if_neg (by decide)] at hrg
              have Hrg2 := Lib.hid hrg
              clear hrg hcm
              go_wp2_with fail
              go_quiet (fail)
              go_wp2
              go_roundw
              case rel => exact ⟨k + 1, av, o, hlt, rfl, by go_num, Lib.hid (Han.out.imp id fun ⟨j, b, h1, h2, h3, h4⟩ => ⟨j, b, h1, h2, by omega, h4⟩), Hrg2, _, rfl⟩
              case measure => simp [intOf]; omega
          · have hcn : (Y[k]).toNat = 97 := by rw [hcm]; rfl
            rw [hcm, if_neg (by simp)] at hrg
            rcases Han.out with ⟨ho, hav⟩ | ⟨j, b, ho, hav, hjk, hLj⟩
            · subst ho hav
              rw [if_neg (by simp), if_pos rfl] at hrg
              have Hrg2 := Lib.hid hrg
              have Han2 := Lib.hid (show An L (k + 1) (some x) (k : Int) from .inr ⟨k, x, rfl, rfl, by omega, Hx.out⟩)
              clear hrg hcm
              go_wp2_with fail
              go_quiet (fail)
              go_wp2
              go_roundw
              case rel => exact ⟨k + 1, (k : Int), some x, hlt, rfl, by go_num, Han2, Hrg2, _, rfl⟩
              case measure => simp [intOf]; omega
            · subst ho hav
              obtain ⟨b2, o2, y, hE, hb2, hc2, hy⟩ := lvb_at (show Rc 1 (w.drewN q) (w.drewN q).heap.size (some ⟨b1, o1, none⟩) Y.size c (lvb L) from Hr.out) (k := j) (by omega)
              injection hE with hE
              injection hE with hE1 hE2
              subst hE1 hE2
              obtain rfl : y = b := by rw [hLj] at hy; injection hy with hy; exact hy.symm
              have hjs : j < Y.size := by omega
              have hc1' : w.cell? ⟨b1, o1 + k, none⟩ = some (.bool x) := hc1
              have hc2' : w.cell? ⟨b1, o1 + j, none⟩ = some (.bool y) := hc2
              have hj0 : decide ((0 : Int) ≤ (j : Int)) = true := by simp
              have hj1 : decide ((j : Int) < (Y.size : Int)) = true := by simp; omega
              clear hy hLj
              by_cases hyx : y = !x
              · rw [if_pos (by rw [hyx]; simp)] at hrg
                have hR : R = (false, 11) := by rw [Hres.out, ← hrg]
                subst hR
                clear hrg hcm Hres
                cases x <;> cases y <;> first | (simp at hyx; done) | skip
                all_goals
                  clear hyx
                  go_wp2_with fail
                  go_quiet (fail)
                  go_wp2
                  go_ret2
                  exact ⟨rfl, _, rfl⟩
              · rw [if_neg (by simpa using hyx), if_pos rfl] at hrg
                have Hrg2 := Lib.hid hrg
                have Han2 := Lib.hid (show An L (k + 1) (some x) (k : Int) from .inr ⟨k, x, rfl, rfl, by omega, Hx.out⟩)
                clear hrg hcm
                cases x <;> cases y <;> first | (simp at hyx; done) | skip
                all_goals
                  clear hyx
                  go_wp2_with fail
                  go_quiet (fail)
                  go_wp2
                  go_roundw
                  case rel => exact ⟨k + 1, (k : Int), _, hlt, rfl, by go_num, Han2, Hrg2, _, rfl⟩
                  case measure => simp [intOf]; omega
        · obtain rfl : k = Y.size := by omega
          have hrg := Hrg.out
          rw [List.drop_of_length_le (l := Y.data.toList) (by rw [Array.length_toList]; exact Nat.le_refl _), rg_nil] at hrg
          have hres2 := Hres.out
          rw [← hrg] at hres2
          dsimp only at hres2
          by_cases hT : T = [97]
          · rw [if_pos hT] at hres2
            have hon := Hin.out hT o hrg.symm
            rcases Han.out with ⟨ho, hav⟩ | ⟨j, b, ho, hav, hjk, hLj⟩
            · exact absurd ho hon
            · subst ho hav hT
              obtain ⟨b2, o2, y, rfl, hb2, hc2, hy⟩ := lvb_at (show Rc 1 (w.drewN q) (w.drewN q).heap.size A Y.size c (lvb L) from Hr.out) (k := j) (by omega)
              obtain rfl : y = b := by rw [hLj] at hy; injection hy with hy; exact hy.symm
              have hR : R = (y, 0) := hres2
              subst hR
              clear hres2 hon hrg hy hLj Han Hrg Hin Hres
              go_wp2
              go_ret2
              exact ⟨rfl, q, rfl⟩
          · rw [if_neg hT] at hres2
            have dT : (T == [97]) = false := beq_eq_false_iff_ne.2 hT
            subst hres2
            clear hrg Han Hrg Hin hT
            go_wp2
            go_ret2
            exact ⟨rfl, q, rfl⟩
    · rw [if_pos (by rw [hLl]; exact hln)] at hres
      subst hres
      have d1 : ((n : Int) != (K.length : Int)) = true := by simpa using fun e => hln (by omega)
      clear hin hmem hr hLl hln
      go_enter Tryd.func25, Tryd.ntmps25
      go_wp2_with fail
      refine Hkc.out.mono ?_
      rintro e w1 ⟨rfl, rfl⟩
      go_wp2
      go_ret2
      exact ⟨rfl, 0, rfl⟩
end Go.Proofs.YthkjhenaicbepaaDoor
