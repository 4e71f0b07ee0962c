/-
  fixed's fitting, Write; the document's Write: what each call returns and leaves.
-/
import Derived.Test.YtjdmpnonjlffaaaY3
namespace Go.Proofs.Ytjdmpnonjlffaaa
open Go.RowKit Go.Maps

theorem fit_c (k : Int) (w : World) : Calls Try.prog 34 #[.int .i64 k] w fun e w' => e = .returned (.func (.func 39) #[] #[.pointer (some ⟨w.heap.size, 0, none⟩)]) ∧ w' = w.alloc (.cells #[.int .i64 k] 3) := by
  go_enter Try.func34, Try.ntmps34
  go_wp2
  go_ret
  exact ⟨rfl, rfl⟩
theorem fits_c (s : List UInt8) (k : Int) (g : Nat) (o : Bool) (ho : o = decide ((s.length : Int) = k)) (w : World) (hc : w.cell? ⟨g, 0, none⟩ = some (.int .i64 k)) :
    Calls Try.prog 39 #[.string ⟨s.toArray⟩, .pointer (some ⟨g, 0, none⟩)] w fun e w' => e = .returned (.bool o) ∧ w = w' := by
  have ho2 : ((s.length : Int) == k) = o := by rw [ho]; rfl
  clear ho
  go_enter Try.func39, Try.ntmps39
  go_wp2
  go_ret
  first | exact ⟨rfl, rfl⟩ | (refine ⟨?_, rfl⟩; rw [← ho2]; rfl)

/-- An append of a string whose outcome has a name. -/
theorem U8.wpAppStrTo {P : Program} {t e s : TypeId} (u : U8 P t e s) {w : World} {ops : Array Oper} {rest : List Oper} {o : Oper} {a : Act} {Q : Exit → Act → World → Prop} (hgd : o.guard = none) (x y : Operand)
    (ho : o.op = .call { callee := .builtin .append, args := #[x, y], argTypes := #[t, s] })
    {base c : Nat} {A : Option Addr} {l r N : List UInt8} (hx : a.eval x = .slice A l.length c) (hy : a.eval y = .string ⟨r.toArray⟩) (hown : Own w e base A c l) (hN : l ++ r = N)
    (hsm : N.length ≤ 140737488355328) (hbase : base ≤ w.heap.size)
    (h : ∀ A' c' w', Own w' e base A' c' N → Below base w w' → wpList P ops Q rest (a.put o.dst (.slice A' N.length c')) w') : wpList P ops Q (o :: rest) a w := by
  subst hN
  refine u.wpAppStr hgd x y ho hx hy hown ?_ hbase fun A' c' w' h1 h2 => ?_
  · rw [List.length_append] at hsm
    exact hsm
  · have := h A' c' w' (by simpa using h1) h2
    simpa using this

def RetW (w : World) (t : List UInt8 × Nat) (e : Ending) (w' : World) : Prop :=
  ∃ A c, e = .returned (.tuple #[.slice A t.1.length c, .int .i64 (t.2 : Int)]) ∧ Own w' 5 w.heap.size A c t.1 ∧ Below w.heap.size w w'
def WriteRel (base n k : Nat) (w : World) (l : List (List (List UInt8))) (o i : Value) (wr : World) : Prop :=
  ∃ A c M, ∃ j : Nat, o = .slice A M.length c ∧ i = .int .i64 (j : Int) ∧ j ≤ n ∧ Own wr 5 base A c M ∧ M = Fx.wr (l.take j) ∧ (l.take j).all (Fx.ok k) = true ∧ Below base w wr

theorem write_arg (A : Option Addr) (n c : Nat) (k : Int) (h : isw k = false) (w : World) :
    Calls Try.prog 19 #[.slice A n c, .int .i64 k] w fun e w' => e = .returned (.tuple #[.slice none 0 0, .int .i64 1]) ∧ w = w' := by
  go_enter Try.func19, Try.ntmps19
  go_wp2_with fail
  refine (isw_c k false h.symm _).mono ?_
  rintro e w1 ⟨rfl, rfl⟩
  go_wp2
  go_ret2
  exact ⟨rfl, rfl⟩
theorem rwrite_arg (A : Option Addr) (n c : Nat) (k : Int) (h : isw k = false) (w : World) :
    Calls Try.prog 20 #[.slice A n c, .int .i64 k] w fun e w' => e = .returned (.tuple #[.slice none 0 0, .int .i64 1]) ∧ w = w' := by
  go_enter Try.func20, Try.ntmps20
  go_wp2_with fail
  refine (is_c k false h.symm _).mono ?_
  rintro e w1 ⟨rfl, rfl⟩
  go_wp2
  go_ret2
  exact ⟨rfl, rfl⟩

set_option maxRecDepth 100000 in
set_option maxHeartbeats 2000000 in
/-- Write -/
theorem write_c (A : Option Addr) (n c k : Nat) (l : List (List (List UInt8))) (w : World) (hr : RL w w.heap.size A n c l) (hn : n ≤ 1000000) (hz : (Fx.wr l).length ≤ 1000000) (hk : 1 ≤ k) (hk2 : k ≤ 1000) :
    Calls Try.prog 19 #[.slice A n c, .int .i64 (k : Int)] w (RetW w (Fx.wrS k l)) := by
  have hl := hr.len
  have hyes := (isw_c (k : Int) true (by simp; omega))
  have Hr := Lib.hid hr; have Hl := Lib.hid hl; have Hyes := Lib.hid hyes; clear hr hl hyes
  go_enter Try.func19, Try.ntmps19
  go_wp2_with fail
  refine (Hyes.out _).mono ?_
  rintro e w1 ⟨rfl, rfl⟩
  go_wp2_with fail
  refine (fit_c (k : Int) _).mono ?_
  rintro e w1 ⟨rfl, hw1⟩
  have b1 : Below w.heap.size w w1 := by rw [hw1]; exact (Below.refl _ _).alloc (Nat.le_refl _) _
  have s1 : w1.heap.size = w.heap.size + 1 := by rw [hw1]; simp
  have g1 : w1.cell? ⟨w.heap.size, 0, none⟩ = some (.int .i64 (k : Int)) := by rw [hw1]; simp
  have G1 := Lib.hid g1; have S1 := Lib.hid s1; clear g1 hw1 s1
  go_wp2
  go_loopw [6, 17] (fun o i wr => WriteRel w1.heap.size n k w1 l o i wr) (fun _ i _ => n - (intOf i).toNat)
  case atStart => exact ⟨none, 0, [], 0, rfl, rfl, Nat.zero_le _, Own.nil _ _ _, rfl, rfl, Below.refl _ _⟩
  case round =>
    obtain ⟨A3, c3, M, j, rfl, rfl, hj, hown, hM, hok, hbel⟩ := hrel
    have z3 := hbel.size
    rename World => wr
    have bz : Below w.heap.size w wr := b1.trans (hbel.mono (by have := S1.out; omega))
    by_cases hlt : j < n
    · obtain ⟨b, off, D, m, d, r, rfl, hb, hcell, hx, _, hrec⟩ := (Hr.out.below bz).at_ hlt
      have hml : M.length ≤ 1000000 := by rw [hM]; exact Nat.le_trans (Fx.wr_take l j) hz
      have hrl := lvs_num hrec
      have hfc : wr.cell? ⟨w.heap.size, 0, none⟩ = some (.int .i64 (k : Int)) := (hbel.cell (p := ⟨w.heap.size, 0, none⟩) (by have := S1.out; show w.heap.size < _; omega)).trans G1.out
      by_cases hm1 : m = 1
      · subst hm1
        obtain ⟨b2, off2, s, rfl, hb2, hc2, hx2, _⟩ := lvs_at hrec (k := 0) (by omega)
        rw [Nat.add_zero] at hc2
        obtain rfl : r = [s] := by
          match r, hrl, hx2 with
          | [y], _, hx2 => simp at hx2; rw [hx2]
        by_cases hsk : s.length = k
        · have hokr : Fx.ok k [s] = true := by rw [Fx.ok_one]; simpa using hsk
          obtain ⟨M2, hM2⟩ : ∃ M2, M ++ s = M2 := ⟨_, rfl⟩
          have hfin : M2 = Fx.wr (l.take (j + 1)) := by rw [Fx.wr_next l j s hx, ← hM, hM2]
          have q2 : M2.length ≤ 1000000 := by rw [hfin]; exact Nat.le_trans (Fx.wr_take l _) hz
          have ho : true = decide ((s.length : Int) = (k : Int)) := by rw [hsk]; simp
          have Hok2 := Lib.hid (Fx.oks_next k l j [s] hx hokr hok)
          have Hfin := Lib.hid hfin; have H2 := Lib.hid hM2; have Ho := Lib.hid ho; have Hown := Lib.hid hown; have Hfc := Lib.hid hfc
          clear hown hM hok hx hokr hrec hx2 hM2 hfin ho hrl hfc hsk
          go_wp2_with fail
          refine (fits_c s (k : Int) w.heap.size true Ho.out _ Hfc.out).mono ?_
          rintro e w4 ⟨rfl, rfl⟩
          go_wp2_with (at_builtin; go_must (refine bty.wpAppStrTo rfl (.tmp 32) (.tmp 35) rfl (l := M) (r := s) (N := M2) rfl rfl Hown.out H2.out ?hs1 ?hs2 ?_))
          case hs1 => omega
          case hs2 => omega
          intro A5 c5 w5 hown5 hb5
          have b5 := hbel.trans hb5
          have Hown5 := Lib.hid hown5; clear hown5
          go_wp2
          go_roundw
          case rel => exact ⟨A5, c5, M2, j + 1, rfl, by go_num, hlt, Hown5.out, Hfin.out, Hok2.out, b5⟩
          case measure => simp [intOf]; omega
        · have Hf := Lib.hid (Fx.wrS_err (w := k) (Fx.oks_not k l j [s] hx (by rw [Fx.ok_one]; simpa using hsk)))
          have ho : false = decide ((s.length : Int) = (k : Int)) := by simp; omega
          have Ho := Lib.hid ho; have Hfc := Lib.hid hfc
          clear hown hM hok hx hrec hx2 hrl hfc ho hsk
          go_wp2_with fail
          refine (fits_c s (k : Int) w.heap.size false Ho.out _ Hfc.out).mono ?_
          rintro e w4 ⟨rfl, rfl⟩
          go_wp2
          go_ret2
          rw [Hf.out]
          exact ⟨none, 0, rfl, Own.nil _ _ _, bz⟩
      · have Hf := Lib.hid (Fx.wrS_err (w := k) (Fx.oks_not k l j r hx (Fx.ok_len (by omega))))
        have dm : ((m : Int) != 1) = true := by simp; omega
        clear hown hM hok hx hrec hrl hfc
        go_wp2
        go_ret2
        rw [Hf.out]
        exact ⟨none, 0, rfl, Own.nil _ _ _, bz⟩
    · have e : l.take j = l := List.take_of_length_le (by have := Hl.out; omega)
      rw [e] at hM hok
      have Hf := Lib.hid (Fx.wrS_ok hok)
      subst hM
      have Hown := Lib.hid (hown.mono (show w.heap.size ≤ w1.heap.size by have := S1.out; omega)); clear hown hok e
      go_wp2
      go_ret2
      rw [Hf.out]
      exact ⟨A3, c3, rfl, Hown.out, bz⟩

set_option maxRecDepth 100000 in
set_option maxHeartbeats 2000000 in
/-- the document's Write -/
theorem rwrite_c (A : Option Addr) (n c k : Nat) (l : List (List (List UInt8))) (w : World) (hr : RL w w.heap.size A n c l) (hn : n ≤ 1000000) (hz : (Fx.wr l).length ≤ 1000000) (hk : 1 ≤ k) (hk2 : k ≤ 1000) :
    Calls Try.prog 20 #[.slice A n c, .int .i64 (k : Int)] w (RetW w (Fx.wrS k l)) := by
  have hl := hr.len
  have hyes := (is_c (k : Int) true (by simp; omega))
  have Hr := Lib.hid hr; have Hl := Lib.hid hl; have Hyes := Lib.hid hyes; clear hr hl hyes
  go_enter Try.func20, Try.ntmps20
  go_wp2_with fail
  refine (Hyes.out _).mono ?_
  rintro e w1 ⟨rfl, rfl⟩
  go_wp2
  go_loopw [6, 7] (fun o i wr => WriteRel w.heap.size n k w l o i wr) (fun _ i _ => n - (intOf i).toNat)
  case atStart => exact ⟨some ⟨w.heap.size, 0, none⟩, 0, [], 0, rfl, rfl, Nat.zero_le _, Own.made0 _ _, rfl, rfl, (Below.refl _ _).alloc (Nat.le_refl _) _⟩
  case round =>
    obtain ⟨A3, c3, M, j, rfl, rfl, hj, hown, hM, hok, hbel⟩ := hrel
    have z3 := hbel.size
    rename World => wr
    by_cases hlt : j < n
    · obtain ⟨b, off, D, m, d, r, rfl, hb, hcell, hx, _, hrec⟩ := (Hr.out.below hbel).at_ hlt
      have hml : M.length ≤ 1000000 := by rw [hM]; exact Nat.le_trans (Fx.wr_take l j) hz
      have hrl := lvs_num hrec
      by_cases hm1 : m = 1
      · subst hm1
        obtain ⟨b2, off2, s, rfl, hb2, hc2, hx2, _⟩ := lvs_at hrec (k := 0) (by omega)
        rw [Nat.add_zero] at hc2
        obtain rfl : r = [s] := by
          match r, hrl, hx2 with
          | [y], _, hx2 => simp at hx2; rw [hx2]
        by_cases hsk : s.length = k
        · have hokr : Fx.ok k [s] = true := by rw [Fx.ok_one]; simpa using hsk
          obtain ⟨M2, hM2⟩ : ∃ M2, M ++ s = M2 := ⟨_, rfl⟩
          have hfin : M2 = Fx.wr (l.take (j + 1)) := by rw [Fx.wr_next l j s hx, ← hM, hM2]
          have q2 : M2.length ≤ 1000000 := by rw [hfin]; exact Nat.le_trans (Fx.wr_take l _) hz
          have ds : ((s.length : Int) != (k : Int)) = false := by simp; omega
          have Hok2 := Lib.hid (Fx.oks_next k l j [s] hx hokr hok)
          have Hfin := Lib.hid hfin; have H2 := Lib.hid hM2; have Hown := Lib.hid hown
          clear hown hM hok hx hokr hrec hx2 hM2 hfin hrl hsk
          go_wp2_with (at_builtin; go_must (refine bty.wpAppStrTo rfl (.tmp 35) (.tmp 41) rfl (l := M) (r := s) (N := M2) rfl rfl Hown.out H2.out ?hs1 ?hs2 ?_))
          case hs1 => omega
          case hs2 => omega
          intro A5 c5 w5 hown5 hb5
          have b5 := hbel.trans hb5
          have Hown5 := Lib.hid hown5; clear hown5
          go_wp2
          go_roundw
          case rel => exact ⟨A5, c5, M2, j + 1, rfl, by go_num, hlt, Hown5.out, Hfin.out, Hok2.out, b5⟩
          case measure => simp [intOf]; omega
        · have Hf := Lib.hid (Fx.wrS_err (w := k) (Fx.oks_not k l j [s] hx (by rw [Fx.ok_one]; simpa using hsk)))
          have ds : ((s.length : Int) != (k : Int)) = true := by simp; omega
          clear hown hM hok hx hrec hx2 hrl hsk
          go_wp2
          go_ret2
          rw [Hf.out]
          exact ⟨none, 0, rfl, Own.nil _ _ _, hbel⟩
      · have Hf := Lib.hid (Fx.wrS_err (w := k) (Fx.oks_not k l j r hx (Fx.ok_len (by omega))))
        have dm : ((m : Int) != 1) = true := by simp; omega
        clear hown hM hok hx hrec hrl
        go_wp2
        go_ret2
        rw [Hf.out]
        exact ⟨none, 0, rfl, Own.nil _ _ _, hbel⟩
    · have e : l.take j = l := List.take_of_length_le (by have := Hl.out; omega)
      rw [e] at hM hok
      have Hf := Lib.hid (Fx.wrS_ok hok)
      subst hM
      have Hown := Lib.hid hown; clear hown hok e
      go_wp2
      go_ret2
      rw [Hf.out]
      exact ⟨A3, c3, rfl, Hown.out, hbel⟩
end Go.Proofs.Ytjdmpnonjlffaaa
