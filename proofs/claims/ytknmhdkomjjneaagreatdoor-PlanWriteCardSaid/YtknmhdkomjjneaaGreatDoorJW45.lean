/-
  Joined: Dz.
-/
import Derived.Test.YtknmhdkomjjneaaGreatDoorJW43
import Derived.Test.YtknmhdkomjjneaaGreatDoorJW44
/-
  csv's may, addRecord, Write; the document's Write: what each call returns and leaves.
-/

namespace Go.Proofs.YtknmhdkomjjneaaGreatDoor.Csv
open Go.RowKit

theorem _root_.Go.Proofs.YtknmhdkomjjneaaGreatDoor.U8.wpAppStrTo {P : Program} {t e s : TypeId} (u : U8 P t e s) {w : World} {ops : Array Oper} {rest : List Oper} {o : Oper} {a : Act} {Q : Exit → Act → World → Prop} (hgd : o.guard = none) (x y : Operand)
    (ho : o.op = .call { callee := .builtin .append, args := #[x, y], argTypes := #[t, s] })
    {base c : Nat} {A : Option Addr} {l r N : List UInt8} (hx : a.eval x = .slice A l.length c) (hy : a.eval y = .string ⟨r.toArray⟩) (hown : Own w e base A c l) (hN : l ++ r = N)
    (hsm : N.length ≤ 140737488355328) (hbase : base ≤ w.heap.size)
    (h : ∀ A' c' w', Own w' e base A' c' N → Below base w w' → wpList P ops Q rest (a.put o.dst (.slice A' N.length c')) w') : wpList P ops Q (o :: rest) a w := by
  subst hN
  refine u.wpAppStr hgd x y ho hx hy hown ?_ hbase fun A' c' w' h1 h2 => ?_
  · rw [List.length_append] at hsm
    exact hsm
  · have := h A' c' w' (by simpa using h1) h2
    simpa using this

def MayRel (r : List (List UInt8)) (n : Nat) (t : Value) : Prop := ∃ k : Nat, t = .int .i64 (k : Int) ∧ k ≤ n ∧ ∀ x ∈ r.take k, x.length ≤ 1000
theorem okR_of {r : List (List UInt8)} {n : Nat} (hl : r.length = n) : Cv.okR r = (decide (1 ≤ n) && decide (n ≤ 50) && r.all fun x => decide (x.length ≤ 1000)) := by rw [← hl]; rfl

set_option maxRecDepth 100000 in
set_option maxHeartbeats 1000000 in
theorem may_c (A : Option Addr) (n c B : Nat) (r : List (List UInt8)) (w : World) (hr : Rc 1 w B A n c (lvs r)) (hz : ∀ q ∈ r, q.length ≤ 140737488355328) (o : Bool) (ho : o = Cv.okR r) :
    Calls Tryz.prog 120 #[.slice A n c] w fun e w' => e = .returned (.bool o) ∧ w = w' := by
  have hl := lvs_num hr
  have hn : n ≤ 9223372036854775807 := by have h2 := hr.2.1; have h3 := hr.2.2.1; unfold maxLen at h3; omega
  rw [okR_of hl] at ho
  by_cases h1 : n = 0
  · subst h1
    obtain rfl : o = false := by rw [ho]; rfl
    clear hr hl ho
    go_enter Tryz.func120, Tryz.ntmps120
    go_wp2
    go_ret
    exact ⟨rfl, rfl⟩
  · have d1 : ((n : Int) == 0) = false := by rw [beq_eq_false_iff_ne]; omega
    by_cases h2 : 50 < n
    · obtain rfl : o = false := by rw [ho]; have : decide (n ≤ 50) = false := by simp; omega
                                   rw [this, Bool.and_false, Bool.false_and]
      have d2 : decide ((50 : Int) < (n : Int)) = true := by simp; omega
      clear hr hl ho
      go_enter Tryz.func120, Tryz.ntmps120
      go_wp2
      go_ret
      exact ⟨rfl, rfl⟩
    · have d2 : decide ((50 : Int) < (n : Int)) = false := by simp; omega
      have e1 : decide (1 ≤ n) = true := by simp; omega
      have e2 : decide (n ≤ 50) = true := by simp; omega
      rw [e1, e2, Bool.true_and, Bool.true_and] at ho
      have Hr := Lib.hid hr; have Hl := Lib.hid hl; have Hz := Lib.hid hz; have Ho := Lib.hid ho; clear hr hl hz ho e1 e2
      go_enter Tryz.func120, Tryz.ntmps120
      go_wp2
      go_loop [15] (fun t => MayRel r n t) (fun t => n - (intOf t).toNat)
      case atStart => exact ⟨0, rfl, Nat.zero_le _, by simp⟩
      case round =>
        obtain ⟨k, rfl, hk, hall⟩ := hrel
        have Hall := Lib.hid hall; clear hall
        by_cases hlt : k < n
        · obtain ⟨b, off, x, rfl, hb, hcell, hx, _⟩ := lvs_at Hr.out hlt
          have hxz := Hz.out x (List.mem_of_getElem? hx)
          by_cases hbig : x.length ≤ 1000
          · have hnext : ∀ y ∈ r.take (k + 1), y.length ≤ 1000 := by
              rw [List.take_add_one, hx]
              intro y hy
              rcases List.mem_append.1 hy with hy | hy
              · exact Hall.out y hy
              · simp at hy; rw [hy]; exact hbig
            have Hnext := Lib.hid hnext; clear hnext hx
            go_wp2
            go_round
            case rel => exact ⟨k + 1, by go_num, hlt, Hnext.out⟩
            case measure => simp [intOf]; omega
          · have ho : o = false := by
              rw [Ho.out, List.all_eq_false]
              exact ⟨x, List.mem_of_getElem? hx, by simp; omega⟩
            subst ho
            clear hx
            go_wp2
            go_ret
            exact ⟨rfl, rfl⟩
        · have ho : o = true := by
            rw [Ho.out, List.all_eq_true]
            intro x hx
            have h := Hall.out
            rw [List.take_of_length_le (by rw [Hl.out]; omega)] at h
            simpa using h x hx
          subst ho
          go_wp2
          go_ret
          exact ⟨rfl, rfl⟩

def RetB (base : Nat) (w : World) (T : List UInt8) (e : Ending) (w' : World) : Prop := ∃ A c, e = .returned (.slice A T.length c) ∧ Own w' 5 base A c T ∧ Below base w w'
def AddRel (base : Nat) (w : World) (L : List UInt8) (r : List (List UInt8)) (n : Nat) (o i : Value) (wr : World) : Prop :=
  ∃ A c M, ∃ k : Nat, o = .slice A M.length c ∧ i = .int .i64 (k : Int) ∧ k ≤ n ∧ Own wr 5 base A c M ∧ M = L ++ Cv.rowC (r.take k) ∧ Below base w wr
theorem row_take (L : List UInt8) (r : List (List UInt8)) (k : Nat) : (L ++ Cv.rowC (r.take k)).length ≤ L.length + 3 * wR r := by
  have h1 := Cv.rowC_len (r.take k)
  have h2 := wR_take r k
  rw [List.length_append]
  split at h1 <;> omega
theorem row_next (L : List UInt8) (r : List (List UInt8)) (k : Nat) (x : List UInt8) (h : r[k]? = some x) (hk : 0 < k) : L ++ Cv.rowC (r.take (k + 1)) = ((L ++ Cv.rowC (r.take k)) ++ [44]) ++ Cv.qt x := by
  have hl : k < r.length := by
    rcases Nat.lt_or_ge k r.length with h' | h'
    · exact h'
    · rw [List.getElem?_eq_none h'] at h; cases h
  rw [List.take_add_one, h]
  show L ++ Cv.rowC (r.take k ++ [x]) = _
  rw [Cv.rowC_snoc, if_neg (by rw [List.length_take]; omega)]
  simp
theorem row_first (L : List UInt8) (r : List (List UInt8)) (x : List UInt8) (h : r[0]? = some x) : L ++ Cv.rowC (r.take 1) = L ++ Cv.qt x := by
  cases r with
  | nil => simp at h
  | cons y t => simp at h; subst h; rw [List.take_succ_cons, List.take_zero, Cv.rowC_one]

set_option maxRecDepth 100000 in
set_option maxHeartbeats 2000000 in
theorem addRecord_c (A D : Option Addr) (c d n base B : Nat) (L : List UInt8) (r : List (List UInt8)) (w : World) (hown : Own w 5 base A c L) (hb : base ≤ w.heap.size) (h0 : 0 < base) (hr : Rc 1 w B D n d (lvs r)) (hB : B ≤ base) (hmx : Mx w)
    (hz : ∀ q ∈ r, q.length ≤ 1000000) (hsz : L.length + 3 * wR r ≤ 100000000000000) :
    Calls Tryz.prog 121 #[.slice A L.length c, .slice D n d] w (RetB base w (L ++ Cv.row r)) := by
  have hl := lvs_num hr
  have hn : n ≤ 9223372036854775807 := by have h2 := hr.2.1; have h3 := hr.2.2.1; unfold maxLen at h3; omega
  have Hr := Lib.hid hr; have Hl := Lib.hid hl; have Hz := Lib.hid hz; have Hmx := Lib.hid hmx; have Hown0 := Lib.hid hown; clear hr hl hz hmx hown
  go_enter Tryz.func121, Tryz.ntmps121
  go_wp2
  go_loopw [0, 9] (fun o i wr => AddRel base w L r n o i wr) (fun _ i _ => n - (intOf i).toNat)
  case atStart => exact ⟨A, c, L, 0, rfl, rfl, Nat.zero_le _, Hown0.out, by simp [Cv.rowC], Below.refl _ _⟩
  case round =>
    obtain ⟨A3, c3, M, k, rfl, rfl, hk, hown, hM, hbel⟩ := hrel
    have z3 := hbel.size
    rename World => wr
    have hml := row_take L r k
    rw [← hM] at hml
    by_cases hlt : k < n
    · obtain ⟨b, off, x, rfl, hbB, hcell, hx, _⟩ := lvs_at (Hr.out.below (hbel.mono hB)) hlt
      have hxz := Hz.out x (List.mem_of_getElem? hx)
      have hql := Cv.qt_len x
      have hqt : ∀ W, Mx W → Calls Tryz.prog 145 #[.string ⟨x.toArray⟩] W fun e w' => e = .returned (.string ⟨(Cv.qt x).toArray⟩) ∧ Below W.heap.size W w' := fun W h => by
        have := quote_c ⟨x.toArray⟩ (by show x.toArray.size ≤ _; simpa using hxz) W h
        simpa using this
      have hmx3 := Hmx.out.below hbel h0
      by_cases hk0 : k = 0
      · subst hk0
        have hM0 : M = L := by rw [hM]; simp [Cv.rowC]
        subst hM0
        rw [Nat.add_zero] at hcell
        obtain ⟨N, hN⟩ : ∃ N, M ++ Cv.qt x = N := ⟨_, rfl⟩
        have hfin : N = M ++ Cv.rowC (r.take 1) := by rw [row_first M r x hx, hN]
        have q1 : N.length ≤ 140737488355328 := by rw [← hN, List.length_append]; omega
        have Hown := Lib.hid hown; have Hqt := Lib.hid hqt; have Hmx3 := Lib.hid hmx3; have HN := Lib.hid hN; have Hfin := Lib.hid hfin
        clear hown hqt hmx3 hN hfin hM hx
        go_wp2_with fail
        refine (Hqt.out _ Hmx3.out).mono ?_
        rintro e w4 ⟨rfl, hb4⟩
        have z4 := hb4.size
        have hown4 := Hown.out.keep hb4
        have Hown4 := Lib.hid hown4; clear hown4
        go_wp2_with (at_builtin; go_must (refine bty.wpAppStrTo rfl (.tmp 19) (.tmp 21) rfl (l := M) (r := Cv.qt x) (N := N) rfl rfl Hown4.out HN.out q1 ?hs2 ?_))
        case hs2 => omega
        intro A5 c5 w5 hown5 hb5
        have bz := (hbel.trans (hb4.mono (by omega))).trans hb5
        have Hown5 := Lib.hid hown5; clear hown5
        go_wp2
        go_roundw
        case rel => exact ⟨A5, c5, N, 1, rfl, by first | rfl | go_num, hlt, Hown5.out, Hfin.out, bz⟩
        case measure => simp [intOf]; omega
      · have hk1 : (0 : Int) < (k : Int) := by omega
        have dk : decide ((0 : Int) < (k : Int)) = true := by simpa using hk1
        obtain ⟨M2, hM2⟩ : ∃ M2, M ++ [(44 : UInt8)] = M2 := ⟨_, rfl⟩
        obtain ⟨N, hN⟩ : ∃ N, M2 ++ Cv.qt x = N := ⟨_, rfl⟩
        have hfin : N = L ++ Cv.rowC (r.take (k + 1)) := by rw [row_next L r k x hx (by omega), ← hM, hM2, hN]
        have q0 : M2.length ≤ 140737488355328 := by rw [← hM2, List.length_append]; simp; omega
        have q1 : N.length ≤ 140737488355328 := by rw [← hN, ← hM2, List.length_append, List.length_append]; simp; omega
        have Hown := Lib.hid hown; have Hqt := Lib.hid hqt; have Hmx3 := Lib.hid hmx3; have HN := Lib.hid hN; have HM2 := Lib.hid hM2; have Hfin := Lib.hid hfin
        clear hown hqt hmx3 hN hfin hM hx hM2
        go_wp2_with (at_builtin; go_must (refine bty.wpAppTo rfl (.tmp 16) (.tmp 17) rfl (l := M) (r := [44]) (N := M2) rfl rfl (Hown.out.alloc _) (Rb.oneI _ _ _ 44 rfl) HM2.out q0 ?hs3 ?_))
        case hs3 => first | omega | (simp; omega)
        intro A4 c4 w4 hown4 hg4
        have hb4 : Below base wr w4 := ((Below.refl base wr).alloc (by omega) (.cells #[.int .u8 44] 5)).trans (hg4.below (Hown.out.alloc _) (by simp; omega))
        have z4 := hb4.size
        have hmx4 := Hmx3.out.below hb4 h0
        have Hown4 := Lib.hid hown4; have Hmx4 := Lib.hid hmx4; clear hown4 hg4 hmx4
        go_wp2_with fail
        refine (Hqt.out _ Hmx4.out).mono ?_
        rintro e w5 ⟨rfl, hb5⟩
        have z5 := hb5.size
        have hown5 := Hown4.out.keep hb5
        have Hown5 := Lib.hid hown5; clear hown5
        go_wp2_with (at_builtin; go_must (refine bty.wpAppStrTo rfl (.tmp 19) (.tmp 21) rfl (l := M2) (r := Cv.qt x) (N := N) rfl rfl Hown5.out HN.out q1 ?hs2 ?_))
        case hs2 => omega
        intro A6 c6 w6 hown6 hb6
        have bz := ((hbel.trans hb4).trans (hb5.mono (by omega))).trans hb6
        have Hown6 := Lib.hid hown6; clear hown6
        go_wp2
        go_roundw
        case rel => exact ⟨A6, c6, N, k + 1, rfl, by go_num, hlt, Hown6.out, Hfin.out, bz⟩
        case measure => simp [intOf]; omega
    · rw [List.take_of_length_le (by have := Hl.out; omega)] at hM
      obtain ⟨N, hN⟩ : ∃ N, M ++ [(10 : UInt8)] = N := ⟨_, rfl⟩
      have hfin : N = L ++ Cv.row r := by rw [← hN, hM]; simp [Cv.row]
      have q0 : N.length ≤ 140737488355328 := by rw [← hN, List.length_append]; simp; omega
      have Hown := Lib.hid hown; have HN := Lib.hid hN; have Hfin := Lib.hid hfin; clear hown hN hfin hM
      go_wp2_with (at_builtin; go_must (refine bty.wpAppTo rfl (.tmp 24) (.tmp 25) rfl (l := M) (r := [10]) (N := N) rfl rfl (Hown.out.alloc _) (Rb.oneI _ _ _ 10 rfl) HN.out q0 ?hs3 ?_))
      case hs3 => first | omega | (simp; omega)
      intro A4 c4 w4 hown4 hg4
      have hb4 : Below base wr w4 := ((Below.refl base wr).alloc (by omega) (.cells #[.int .u8 10] 5)).trans (hg4.below (Hown.out.alloc _) (by simp; omega))
      have Hown4 := Lib.hid hown4; clear hown4 hg4
      go_wp2
      go_ret
      exact ⟨A4, c4, by rw [← Hfin.out]; rfl, by rw [← Hfin.out]; exact Hown4.out, hbel.trans hb4⟩

def RetW (w : World) (t : List UInt8 × Nat) (e : Ending) (w' : World) : Prop :=
  ∃ A c, e = .returned (.tuple #[.slice A t.1.length c, .int .i64 (t.2 : Int)]) ∧ Own w' 5 w.heap.size A c t.1 ∧ Below w.heap.size w w'
def WriteRel (base n : Nat) (w : World) (l : List (List (List UInt8))) (o i : Value) (wr : World) : Prop :=
  ∃ A c M, ∃ k : Nat, o = .slice A M.length c ∧ i = .int .i64 (k : Int) ∧ k ≤ n ∧ Own wr 5 base A c M ∧ M = Cv.wr (l.take k) ∧ (l.take k).all Cv.okR = true ∧ Below base w wr
theorem wr_take (l : List (List (List UInt8))) (k : Nat) (h : (l.take k).all Cv.okR = true) : (Cv.wr (l.take k)).length ≤ 3 * wL l := by
  have h1 := Cv.wr_len (l.take k) h
  have h2 := wL_take l k
  omega
theorem okR_len {r : List (List UInt8)} (h : Cv.okR r = true) : ∀ q ∈ r, q.length ≤ 1000000 := fun q hq => by
  have := (Cv.okR_few.1 h).2.2 q hq
  omega

set_option maxRecDepth 100000 in
set_option maxHeartbeats 2000000 in
theorem write_c (A : Option Addr) (n c : Nat) (l : List (List (List UInt8))) (w : World) (hr : RL w w.heap.size A n c l) (hz : ∀ r ∈ l, ∀ q ∈ r, q.length ≤ 140737488355328) (hmx : Mx w) (hsz : wL l ≤ 1000000) :
    Calls Tryz.prog 98 #[.slice A n c] w (RetW w (Cv.wrS l)) := by
  have hl := hr.len
  have hn : n ≤ 9223372036854775807 := by obtain ⟨vs, h1, _⟩ := hr; have h2 := h1.2.1; have h3 := h1.2.2.1; unfold maxLen at h3; omega
  have hw0 := hmx.2
  have Hr := Lib.hid hr; have Hl := Lib.hid hl; have Hz := Lib.hid hz; have Hmx := Lib.hid hmx; clear hr hl hz hmx
  go_enter Tryz.func98, Tryz.ntmps98
  go_wp2
  go_loopw [4, 9] (fun o i wr => WriteRel w.heap.size n w l o i wr) (fun _ i _ => n - (intOf i).toNat)
  case atStart => exact ⟨none, 0, [], 0, rfl, rfl, Nat.zero_le _, Own.nil _ _ _, rfl, rfl, Below.refl _ _⟩
  case round =>
    obtain ⟨A3, c3, M, k, rfl, rfl, hk, hown, hM, hok, hbel⟩ := hrel
    have z3 := hbel.size
    rename World => wr
    have hml := wr_take l k hok
    rw [← hM] at hml
    by_cases hlt : k < n
    · obtain ⟨b, off, D, m, d, r, rfl, hb, hcell, hx, _, hrec⟩ := (Hr.out.below hbel).at_ hlt
      have hzr := Hz.out r (List.mem_of_getElem? hx)
      have hmx3 := Hmx.out.below' hbel
      have hwr := wL_mem l r (List.mem_of_getElem? hx)
      cases hokr : Cv.okR r with
      | false =>
        have hmay := may_c D m d w.heap.size r wr hrec hzr false hokr.symm
        have Hf := Lib.hid (Cv.wrS_err (Cv.oks_not l k r hx hokr)); have Hmay := Lib.hid hmay
        clear hmay hown hM hok hx hokr hrec hmx3 hzr
        go_wp2_with fail
        refine Hmay.out.mono ?_
        rintro e w' ⟨rfl, rfl⟩
        go_wp2
        go_ret2
        rw [Hf.out]
        exact ⟨none, 0, rfl, Own.nil _ _ _, hbel⟩
      | true =>
        have hmay := may_c D m d w.heap.size r wr hrec hzr true hokr.symm
        have hadd := addRecord_c A3 D c3 d m w.heap.size w.heap.size M r wr hown z3 hw0 hrec (Nat.le_refl _) hmx3 (okR_len hokr) (by omega)
        have hfin : M ++ Cv.row r = Cv.wr (l.take (k + 1)) := by rw [Cv.wr_next l k r hx, hM]
        have hok2 := Cv.oks_next l k r hx hokr hok
        obtain ⟨N, hN⟩ : ∃ N, N = M ++ Cv.row r := ⟨_, rfl⟩
        rw [← hN] at hadd hfin
        have Hmay := Lib.hid hmay; have Hadd := Lib.hid hadd; have Hfin := Lib.hid hfin; have Hok2 := Lib.hid hok2
        clear hmay hadd hfin hok2 hown hM hok hx hokr hrec hmx3 hzr hN
        go_wp2_with fail
        refine Hmay.out.mono ?_
        rintro e w' ⟨rfl, rfl⟩
        go_wp2_with fail
        refine Hadd.out.mono ?_
        rintro e w4 ⟨A4, c4, rfl, hown4, hb4⟩
        have Hown4 := Lib.hid hown4; clear hown4
        go_wp2
        go_roundw
        case rel => exact ⟨A4, c4, N, k + 1, rfl, by go_num, hlt, Hown4.out, Hfin.out, Hok2.out, hbel.trans hb4⟩
        case measure => simp [intOf]; omega
    · have e : l.take k = l := List.take_of_length_le (by have := Hl.out; omega)
      rw [e] at hM hok
      have Hf := Lib.hid (Cv.wrS_ok hok)
      subst hM
      have Hown := Lib.hid hown; clear hown hok e
      go_wp2
      go_ret2
      rw [Hf.out]
      exact ⟨A3, c3, rfl, Hown.out, hbel⟩

def WrIn (base : Nat) (w : World) (L : List UInt8) (r : List (List UInt8)) (n : Nat) (o i : Value) (wr : World) : Prop :=
  ∃ A c M, ∃ k : Nat, o = .slice A M.length c ∧ i = .int .i64 (k : Int) ∧ k ≤ n ∧ Own wr 5 base A c M ∧ M = L ++ Cv.rowC (r.take k) ∧ (∀ x ∈ r.take k, x.length ≤ 1000) ∧ Below base w wr
theorem okR_yes {r : List (List UInt8)} (h1 : 1 ≤ r.length) (h2 : r.length ≤ 50) (h3 : ∀ x ∈ r, x.length ≤ 1000) : Cv.okR r = true := Cv.okR_few.2 ⟨h1, h2, h3⟩
theorem okR_no {r : List (List UInt8)} (h : ¬ Cv.Few50 r) : Cv.okR r = false := by
  cases e : Cv.okR r with
  | false => rfl
  | true => exact absurd (Cv.okR_few.1 e) h

set_option maxRecDepth 100000 in
set_option maxHeartbeats 4000000 in
theorem writeD_c (A : Option Addr) (n c : Nat) (l : List (List (List UInt8))) (w : World) (hr : RL w w.heap.size A n c l) (hz : ∀ r ∈ l, ∀ q ∈ r, q.length ≤ 140737488355328) (hsz : wL l ≤ 1000000) :
    Calls Tryz.prog 49 #[.slice A n c] w (RetW w (Cv.wrS l)) := by
  have hl := hr.len
  have hn : n ≤ 9223372036854775807 := by obtain ⟨vs, h1, _⟩ := hr; have h2 := h1.2.1; have h3 := h1.2.2.1; unfold maxLen at h3; omega
  have Hr := Lib.hid hr; have Hl := Lib.hid hl; have Hz := Lib.hid hz; clear hr hl hz
  go_enter Tryz.func49, Tryz.ntmps49
  go_wp2
  go_loopw [4, 5] (fun o i wr => WriteRel w.heap.size n w l o i wr) (fun _ i _ => n - (intOf i).toNat)
  case atStart => exact ⟨some ⟨w.heap.size, 0, none⟩, 0, [], 0, rfl, rfl, Nat.zero_le _, Own.made0 _ _, rfl, rfl, (Below.refl _ _).alloc (Nat.le_refl _) _⟩
  case round =>
    obtain ⟨A3, c3, M, k, rfl, rfl, hk, hown, hM, hok, hbel⟩ := hrel
    have z3 := hbel.size
    rename World => wr
    have hml := wr_take l k hok
    rw [← hM] at hml
    by_cases hlt : k < n
    · obtain ⟨b, off, D, m, d, r, rfl, hb, hcell, hx, _, hrec⟩ := (Hr.out.below hbel).at_ hlt
      have hzr := Hz.out r (List.mem_of_getElem? hx)
      have hwr := wL_mem l r (List.mem_of_getElem? hx)
      have hrl := lvs_num hrec
      have hmN : m ≤ 9223372036854775807 := by have h2 := hrec.2.1; have h3 := hrec.2.2.1; unfold maxLen at h3; omega
      by_cases hm1 : m < 1
      · have d1 : decide (m < 1) = true := by simpa using hm1
        have Hf := Lib.hid (Cv.wrS_err (Cv.oks_not l k r hx (okR_no fun h => by have := h.1; omega)))
        clear hown hM hok hx hrec hzr
        go_wp2
        go_ret2
        rw [Hf.out]
        exact ⟨none, 0, rfl, Own.nil _ _ _, hbel⟩
      · by_cases hm50 : 50 < m
        · have d2 : decide ((50 : Int) < (m : Int)) = true := by simp; omega
          have d1 : decide (m < 1) = false := by simp; omega
          have hm0 : m ≠ 0 := by omega
          have Hf := Lib.hid (Cv.wrS_err (Cv.oks_not l k r hx (okR_no fun h => by have := h.2.1; omega)))
          clear hown hM hok hx hrec hzr
          go_wp2
          go_ret2
          rw [Hf.out]
          exact ⟨none, 0, rfl, Own.nil _ _ _, hbel⟩
        · have d2 : decide ((50 : Int) < (m : Int)) = false := by simp; omega
          have d1 : decide (m < 1) = false := by simp; omega
          have hm0 : m ≠ 0 := by omega
          have hfin : ∀ N, N = M ++ Cv.row r → N = Cv.wr (l.take (k + 1)) := fun N h => by rw [h, Cv.wr_next l k r hx, hM]
          have hok2 : (∀ x ∈ r, x.length ≤ 1000) → (l.take (k + 1)).all Cv.okR = true := fun h => Cv.oks_next l k r hx (okR_yes (by omega) (by omega) h) hok
          have hno : (∃ x ∈ r, 1000 < x.length) → Cv.wrS l = ([], 10) := fun ⟨x, h1, h2⟩ => Cv.wrS_err (Cv.oks_not l k r hx (okR_no fun h => by have := h.2.2 x h1; omega))
          have hrl2 := Hr.out
          have Hx := Lib.hid hx; have Hrec := Lib.hid hrec; have Hrl := Lib.hid hrl; have Hzr := Lib.hid hzr; have Hfin := Lib.hid hfin; have Hok2 := Lib.hid hok2; have Hno := Lib.hid hno; have Hown := Lib.hid hown
          have hbw : b < w.heap.size := hb
          clear hx hrec hrl hzr hfin hok2 hno hown hM hok hrl2 hm1
          go_wp2
          go_loopw [4, 6] (fun o i wx => WrIn w.heap.size wr M r m o i wx) (fun _ i _ => m - (intOf i).toNat)
          case atStart => exact ⟨A3, c3, M, 0, rfl, rfl, Nat.zero_le _, Hown.out, by simp [Cv.rowC], by simp, Below.refl _ _⟩
          case round =>
            obtain ⟨A4, c4, M4, j, rfl, rfl, hj, hown4, hM4, hall, hbel4⟩ := hrel
            have z4 := hbel4.size
            rename World => wx
            have hml4 := row_take M r j
            rw [← hM4] at hml4
            have hcell4 : wx.cell? ⟨b, off + k, none⟩ = some (.slice D m d) := (hbel4.cell (p := ⟨b, off + k, none⟩) hbw).trans hcell
            by_cases hjt : j < m
            · obtain ⟨b2, off2, x, rfl, hb2, hcx, hx, _⟩ := lvs_at (Hrec.out.below hbel4) hjt
              have hxz := Hzr.out x (List.mem_of_getElem? hx)
              by_cases hxl : 1000 < x.length
              · have hxd : (1000 : Int) < (x.length : Int) := by omega
                have Hf := Lib.hid (Hno.out ⟨x, List.mem_of_getElem? hx, hxl⟩)
                clear hown4 hM4 hall hx hcell
                go_wp2
                go_ret2
                rw [Hf.out]
                exact ⟨none, 0, rfl, Own.nil _ _ _, hbel.trans hbel4⟩
              · have hxd : ¬ (1000 : Int) < (x.length : Int) := by omega
                have hql := Cv.qt_len x
                have hqt : ∀ W, Calls Tryz.prog 67 #[.string ⟨x.toArray⟩] W fun e w' => e = .returned (.string ⟨(Cv.qt x).toArray⟩) ∧ W = w' := fun W => by
                  have := quoteD_c ⟨x.toArray⟩ (by show x.toArray.size ≤ _; simp; omega) W
                  simpa using this
                have hall2 : ∀ y ∈ r.take (j + 1), y.length ≤ 1000 := by
                  rw [List.take_add_one, hx]
                  intro y hy
                  rcases List.mem_append.1 hy with hy | hy
                  · exact hall y hy
                  · simp at hy; rw [hy]; omega
                by_cases hj0 : j = 0
                · subst hj0
                  rw [Nat.add_zero] at hcx
                  have hM0 : M4 = M := by rw [hM4]; simp [Cv.rowC]
                  subst hM0
                  obtain ⟨N, hN⟩ : ∃ N, M4 ++ Cv.qt x = N := ⟨_, rfl⟩
                  have hrow : N = M4 ++ Cv.rowC (r.take 1) := by rw [row_first M4 r x hx, hN]
                  have q1 : N.length ≤ 140737488355328 := by rw [← hN, List.length_append]; omega
                  have Hown4 := Lib.hid hown4; have Hqt := Lib.hid hqt; have HN := Lib.hid hN; have Hrow := Lib.hid hrow; have Hall2 := Lib.hid hall2
                  clear hown4 hqt hN hrow hM4 hx hall hall2 hcell
                  go_wp2_with fail
                  refine (Hqt.out _).mono ?_
                  rintro e w5 ⟨rfl, rfl⟩
                  go_wp2_with (at_builtin; go_must (refine bty.wpAppStrTo rfl (.tmp 51) (.tmp 59) rfl (l := M4) (r := Cv.qt x) (N := N) rfl rfl Hown4.out HN.out q1 ?hs2 ?_))
                  case hs2 => omega
                  intro A6 c6 w6 hown6 hb6
                  have bz := hbel4.trans hb6
                  have Hown6 := Lib.hid hown6; clear hown6
                  go_wp2
                  go_roundw
                  case rel => exact ⟨A6, c6, N, 1, rfl, by first | rfl | go_num, by omega, Hown6.out, Hrow.out, Hall2.out, bz⟩
                  case measure => simp [intOf]; omega
                · have hj1 : (0 : Int) < (j : Int) := by omega
                  have dj : decide ((0 : Int) < (j : Int)) = true := by simpa using hj1
                  obtain ⟨M2, hM2⟩ : ∃ M2, M4 ++ [(44 : UInt8)] = M2 := ⟨_, rfl⟩
                  obtain ⟨N, hN⟩ : ∃ N, M2 ++ Cv.qt x = N := ⟨_, rfl⟩
                  have hrow : N = M ++ Cv.rowC (r.take (j + 1)) := by rw [row_next M r j x hx (by omega), ← hM4, hM2, hN]
                  have q0 : M2.length ≤ 140737488355328 := by rw [← hM2, List.length_append]; simp; omega
                  have q1 : N.length ≤ 140737488355328 := by rw [← hN, ← hM2, List.length_append, List.length_append]; simp; omega
                  have Hown4 := Lib.hid hown4; have Hqt := Lib.hid hqt; have HN := Lib.hid hN; have HM2 := Lib.hid hM2; have Hrow := Lib.hid hrow; have Hall2 := Lib.hid hall2
                  clear hown4 hqt hN hrow hM4 hx hall hall2 hM2 hcell
                  go_wp2_with (at_builtin; go_must (refine bty.wpAppTo rfl (.tmp 48) (.tmp 49) rfl (l := M4) (r := [44]) (N := M2) rfl rfl (Hown4.out.alloc _) (Rb.oneI _ _ _ 44 rfl) HM2.out q0 ?hs3 ?_))
                  case hs3 => first | omega | (simp; omega)
                  intro A5 c5 w5 hown5 hg5
                  have hb5 : Below w.heap.size wx w5 := ((Below.refl w.heap.size wx).alloc (by omega) (.cells #[.int .u8 44] 5)).trans (hg5.below (Hown4.out.alloc _) (by simp; omega))
                  have z5 := hb5.size
                  have hcell5 : w5.cell? ⟨b, off + k, none⟩ = some (.slice (some ⟨b2, off2, none⟩) m d) := (hb5.cell (p := ⟨b, off + k, none⟩) hbw).trans hcell4
                  have hcx5 : w5.cell? ⟨b2, off2 + j, none⟩ = some (.string ⟨x.toArray⟩) := (hb5.cell (p := ⟨b2, off2 + j, none⟩) hb2).trans hcx
                  have Hown5 := Lib.hid hown5; clear hown5 hg5 hcell4 hcx
                  go_wp2_with fail
                  refine (Hqt.out _).mono ?_
                  rintro e w6 ⟨rfl, rfl⟩
                  go_wp2_with (at_builtin; go_must (refine bty.wpAppStrTo rfl (.tmp 51) (.tmp 59) rfl (l := M2) (r := Cv.qt x) (N := N) rfl rfl Hown5.out HN.out q1 ?hs2 ?_))
                  case hs2 => omega
                  intro A6 c6 w6 hown6 hb6
                  have bz := (hbel4.trans hb5).trans hb6
                  have Hown6 := Lib.hid hown6; clear hown6
                  go_wp2
                  go_roundw
                  case rel => exact ⟨A6, c6, N, j + 1, rfl, by go_num, by omega, Hown6.out, Hrow.out, Hall2.out, bz⟩
                  case measure => simp [intOf]; omega
            · rw [List.take_of_length_le (by have := Hrl.out; omega)] at hM4 hall
              obtain ⟨N, hN⟩ : ∃ N, M4 ++ [(10 : UInt8)] = N := ⟨_, rfl⟩
              have hf := Hfin.out N (by rw [← hN, hM4]; simp [Cv.row])
              have ho2 := Hok2.out hall
              have q0 : N.length ≤ 140737488355328 := by rw [← hN, List.length_append]; simp; omega
              have Hown4 := Lib.hid hown4; have HN := Lib.hid hN; have Hf := Lib.hid hf; have Ho2 := Lib.hid ho2; clear hown4 hN hf ho2 hM4 hall hcell
              go_wp2_with (at_builtin; go_must (refine bty.wpAppTo rfl (.tmp 61) (.tmp 62) rfl (l := M4) (r := [10]) (N := N) rfl rfl (Hown4.out.alloc _) (Rb.oneI _ _ _ 10 rfl) HN.out q0 ?hs3 ?_))
              case hs3 => first | omega | (simp; omega)
              intro A5 c5 w5 hown5 hg5
              have hb5 : Below w.heap.size wx w5 := ((Below.refl w.heap.size wx).alloc (by omega) (.cells #[.int .u8 10] 5)).trans (hg5.below (Hown4.out.alloc _) (by simp; omega))
              have Hown5 := Lib.hid hown5; clear hown5 hg5
              go_wp2
              go_roundw
              case rel => exact ⟨A5, c5, N, k + 1, rfl, by go_num, hlt, Hown5.out, Hf.out, Ho2.out, (hbel.trans hbel4).trans hb5⟩
              case measure => simp [intOf]; omega
    · have e : l.take k = l := List.take_of_length_le (by have := Hl.out; omega)
      rw [e] at hM hok
      have Hf := Lib.hid (Cv.wrS_ok hok)
      subst hM
      have Hown := Lib.hid hown; clear hown hok e
      go_wp2
      go_ret2
      rw [Hf.out]
      exact ⟨A3, c3, rfl, Hown.out, hbel⟩
end Go.Proofs.YtknmhdkomjjneaaGreatDoor.Csv
