/-
  fixed's Canon, Read; the document's Read: what each call returns and leaves.
-/
import Derived.Test.YtjdmpnonjlffaaaY4
import Derived.Test.YtjdmpnonjlffaaaVa
namespace Go.Proofs.Ytjdmpnonjlffaaa
open Go.RowKit Go.Maps

theorem canon_no (A : Option Addr) (n c : Nat) (k : Int) (h : isw k = false) (w : World) :
    Calls Try.prog 14 #[.slice A n c, .int .i64 k] w fun e w' => e = .returned (.bool false) ∧ w = w' := by
  go_enter Try.func14, Try.ntmps14
  go_wp2_with fail
  refine (isw_c k false h.symm _).mono ?_
  rintro e w1 ⟨rfl, rfl⟩
  go_wp2
  go_ret
  exact ⟨rfl, rfl⟩
theorem canon_c (A : Option Addr) (n c k : Nat) (o : Bool) (ho : o = decide (n / k * k = n)) (w : World) (hn : n ≤ 1000000) (hk : 1 ≤ k) (hk2 : k ≤ 1000) :
    Calls Try.prog 14 #[.slice A n c, .int .i64 (k : Int)] w fun e w' => e = .returned (.bool o) ∧ w = w' := by
  have hyes := (isw_c (k : Int) true (by simp; omega))
  have hvs := fun W => vsize_c A n c k W hn hk hk2
  obtain ⟨V, hV⟩ : ∃ V, V = n / k * k := ⟨_, rfl⟩
  simp only [← hV] at hvs ho
  have ho2 : ((V : Int) == (n : Int)) = o := by
    rw [ho]
    by_cases h : V = n
    · subst h; simp
    · rw [decide_eq_false h]; simp; omega
  have Hyes := Lib.hid hyes; have Hvs := Lib.hid hvs; clear hyes hvs ho hV
  go_enter Try.func14, Try.ntmps14
  go_wp2_with fail
  refine (Hyes.out _).mono ?_
  rintro e w1 ⟨rfl, rfl⟩
  go_wp2_with fail
  refine (Hvs.out _).mono ?_
  rintro e w1 ⟨rfl, rfl⟩
  go_wp2
  go_ret
  exact ⟨rfl, rfl⟩

/-- What is told of a split up to t. -/
def rdE (n k t : Nat) : Nat := if n / k * k < t then 2 else 0
def RetR (w : World) (L : List (List (List UInt8))) (E : Nat) (e : Ending) (w' : World) : Prop :=
  ∃ A c, e = .returned (.tuple #[.slice A L.length c, .int .i64 (E : Int)]) ∧ RLS w' (Fr w.heap.size w') A L.length c L ∧ Below w.heap.size w w'
def RetR2 (w : World) (L : List (List (List UInt8))) (E : Nat) (e : Ending) (w' : World) : Prop :=
  ∃ A c, e = .returned (.tuple #[.slice A L.length c, .int .i64 (E : Int)]) ∧ RL w' w'.heap.size A L.length c L ∧ Below w.heap.size w w'

theorem bad_cases {n : Nat} {f t k : Int} (h : isw k = false ∨ f < 0 ∨ t < f ∨ (n : Int) < t) :
    isw k = false ∨ isw k = true ∧ decide (f < 0) = true ∨ isw k = true ∧ decide (f < 0) = false ∧ decide (t < f) = true ∨ isw k = true ∧ decide (f < 0) = false ∧ decide (t < f) = false ∧ decide ((n : Int) < t) = true := by
  cases hk : isw k with
  | false => exact .inl rfl
  | true =>
    rw [hk] at h
    simp at h ⊢; omega
set_option maxRecDepth 100000 in
theorem read_arg (A : Option Addr) (n c : Nat) (f t k : Int) (w : World) (h : isw k = false ∨ f < 0 ∨ t < f ∨ (n : Int) < t) :
    Calls Try.prog 15 #[.slice A n c, .int .i64 f, .int .i64 t, .int .i64 k] w fun e w' => e = .returned (.tuple #[.slice none 0 0, .int .i64 1]) ∧ w = w' := by
  rcases bad_cases h with h0 | ⟨h0, d1⟩ | ⟨h0, d1, d2⟩ | ⟨h0, d1, d2, d3⟩ <;> clear h
  all_goals
    go_enter Try.func15, Try.ntmps15
    go_wp2_with fail
    refine (isw_c k _ h0.symm _).mono ?_
    rintro e w1 ⟨rfl, rfl⟩
    go_wp2
    go_ret2
    exact ⟨rfl, rfl⟩
set_option maxRecDepth 100000 in
theorem rread_arg (A : Option Addr) (n c : Nat) (f t k : Int) (w : World) (h : isw k = false ∨ f < 0 ∨ t < f ∨ (n : Int) < t) :
    Calls Try.prog 16 #[.slice A n c, .int .i64 f, .int .i64 t, .int .i64 k] w fun e w' => e = .returned (.tuple #[.slice none 0 0, .int .i64 1]) ∧ w = w' := by
  rcases bad_cases h with h0 | ⟨h0, d1⟩ | ⟨h0, d1, d2⟩ | ⟨h0, d1, d2, d3⟩ <;> clear h
  all_goals
    go_enter Try.func16, Try.ntmps16
    go_wp2_with fail
    refine (is_c k _ h0.symm _).mono ?_
    rintro e w1 ⟨rfl, rfl⟩
    go_wp2
    go_ret2
    exact ⟨rfl, rfl⟩

def ReadRel (base s0 e0 k : Nat) (w : World) (l : List UInt8) (o p : Value) (wr : World) : Prop :=
  ∃ A c vs, ∃ j : Nat, o = .slice A j c ∧ p = .int .i64 (((s0 + j) * k : Nat) : Int) ∧ (s0 + j ≤ e0 ∨ j = 0) ∧ Oc 1 wr 43 base A j c vs ∧ RrsS wr (Sf base wr A) vs ((Fx.rs l k s0 (s0 + j)).map Tm.rc) ∧ Below base w wr

set_option maxHeartbeats 2000000 in
set_option maxRecDepth 100000 in
/-- Read -/
theorem read_ok (A : Option Addr) (n c k : Nat) (l : List UInt8) (f t : Nat) (w : World) (hr : Rb w w.heap.size A n c l) (hn : n ≤ 1000000) (hk : 1 ≤ k) (hk2 : k ≤ 1000) (hft : f ≤ t) (htn : t ≤ n) :
    Calls Try.prog 15 #[.slice A n c, .int .i64 (f : Int), .int .i64 (t : Int), .int .i64 (k : Int)] w (RetR w ((Fx.rd l k f t).map Tm.rc) (rdE n k t)) := by
  have hl := hr.len
  have hyes := (isw_c (k : Int) true (by simp; omega))
  have hvs := fun W => vsize_c A n c k W hn hk hk2
  have hfs := fun W => fstart_c f k W (by omega) hk hk2
  obtain ⟨s0, hs0⟩ : ∃ s0, s0 = Fx.cd f k := ⟨_, rfl⟩
  obtain ⟨e0, he0⟩ : ∃ e0, e0 = min (n / k) (Fx.cd t k) := ⟨_, rfl⟩
  have hrd : Fx.rd l k f t = Fx.rs l k s0 e0 := by rw [Fx.rd, hs0, he0, hl]
  obtain ⟨V, hV⟩ : ∃ V, V = n / k * k := ⟨_, rfl⟩
  obtain ⟨q, hq⟩ : ∃ q, q = min t V := ⟨_, rfl⟩
  have hcond : ∀ i, i * k < q ↔ i < e0 := fun i => by
    have h1 := Fx.lt_vs n k i hk
    have h2 := Fx.lt_cd t k i hk
    rw [hq, he0, hV]; omega
  have hend : ∀ i, i < e0 → i * k + k ≤ n := fun i hi => (Fx.le_vs n k i hk).2 (by rw [he0] at hi; omega)
  have hen : e0 ≤ n := by rw [he0]; have := Nat.div_le_self n k; omega
  have hst0 : s0 * k ≤ n + k := by rw [hs0]; unfold Fx.cd; have := Fx.vs_le (f + k - 1) k; omega
  have hmin : min (t : Int) (V : Int) = (q : Int) := by rw [hq]; omega
  have hqn : q ≤ n := by rw [hq]; omega
  obtain ⟨E, hE0⟩ : ∃ E, E = rdE n k t := ⟨_, rfl⟩
  have hE : E = if V < t then 2 else 0 := by rw [hE0, hV]; rfl
  have hVn : V ≤ n := by rw [hV]; exact Fx.vs_le n k
  simp only [← hV] at hvs
  simp only [← hs0] at hfs
  rw [hrd, ← hE0]
  have d1 : decide ((f : Int) < 0) = false := by simp
  have d2 : decide (t < f) = false := by simp; omega
  have d3 : decide (n < t) = false := by simp; omega
  have Hr := Lib.hid hr; have Hl := Lib.hid hl; have Hyes := Lib.hid hyes; have Hvs := Lib.hid hvs; have Hfs := Lib.hid hfs; have Hcond := Lib.hid hcond; have Hend := Lib.hid hend; have HE := Lib.hid hE; have Hst0 := Lib.hid hst0; have Hen := Lib.hid hen
  clear hr hl hyes hvs hfs hcond hend hE hst0 hen hs0 he0 hrd hV hq hE0
  go_enter Try.func15, Try.ntmps15
  go_wp2_with fail
  refine (Hyes.out _).mono ?_
  rintro e w1 ⟨rfl, rfl⟩
  go_wp2_with fail
  refine (Hvs.out _).mono ?_
  rintro e w1 ⟨rfl, rfl⟩
  go_wp2_with fail
  refine (Hfs.out _).mono ?_
  rintro e w1 ⟨rfl, rfl⟩
  go_wp2
  clear d1 d2 d3
  go_loopw [10, 12] (fun o p wr => ReadRel w.heap.size s0 e0 k w l o p wr) (fun _ p _ => n - (intOf p).toNat)
  case atStart => exact ⟨none, 0, [], 0, rfl, rfl, .inr rfl, Oc.nil _ _ _ _, by rw [Fx.rs_nil _ _ _ _ (by omega)]; exact RrsS.nil, Below.refl _ _⟩
  case round =>
    obtain ⟨A3, c3, vs, j, rfl, rfl, hj, hown, hps, hbel⟩ := hrel
    have z3 := hbel.size
    rename World => wr
    have hcnd := Hcond.out (s0 + j)
    have hnd := Hend.out (s0 + j)
    have hen := Hen.out
    have hst0 := Hst0.out
    have hnx : (s0 + (j + 1)) * k = (s0 + j) * k + k := by rw [← Nat.add_assoc, Nat.succ_mul]
    have hst := Fx.rs_snoc l k s0 (s0 + j) (by omega)
    have hstl := Fx.rs_len l k s0 (s0 + j)
    have hrc : s0 + j < e0 → Calls Try.prog 30 #[.slice A n c, .int .i64 (((s0 + j) * k : Nat) : Int), .int .i64 (k : Int)] wr fun e w' => e = .returned (.slice (some ⟨wr.heap.size, 0, none⟩) 1 1) ∧ w' = wr.alloc (.cells #[.string ⟨(Fx.seg l k (s0 + j)).toArray⟩] 9) := fun h => record_c A n c w.heap.size k (s0 + j) l wr (Hr.out.below hbel) (hnd h) hn
    have hpi : Fx.pi l k (s0 + j) = ((s0 + j) * k, Fx.seg l k (s0 + j)) := rfl
    have hsz : j = 0 → (s0 + j) * k ≤ n + k := fun h => by rw [h]; exact hst0
    have hsz2 : 0 < j → (s0 + j) * k ≤ n + k := fun h => by
      have h2 := Hend.out (s0 + (j - 1)) (by omega)
      have h3 : (s0 + (j - 1)) * k + k = (s0 + j) * k := by rw [← Nat.succ_mul]; congr 1; omega
      omega
    obtain ⟨a, ha⟩ : ∃ a, a = (s0 + j) * k := ⟨_, rfl⟩
    rw [← ha] at hcnd hnd hnx hrc hpi hsz hsz2 ⊢
    have han : a ≤ n + k := by omega
    clear hsz hsz2
    by_cases hc : s0 + j < e0
    · have hlt' : a < q := hcnd.2 hc
      have hle' : a + k ≤ n := hnd hc
      have hrc := hrc hc
      have hjn : j + 1 ≤ n := by omega
      clear hcnd hnd
      obtain ⟨K, hK⟩ : ∃ K, K = Fx.seg l k (s0 + j) := ⟨_, rfl⟩
      rw [← hK] at hrc hpi
      rw [hpi] at hst
      obtain ⟨w5, h5⟩ : ∃ w5, w5 = wr.alloc (.cells #[.string ⟨K.toArray⟩] 9) := ⟨_, rfl⟩
      obtain ⟨w6, h6⟩ : ∃ w6, w6 = w5.alloc (.cells #[.slice (some ⟨wr.heap.size, 0, none⟩) 1 1] 43) := ⟨_, rfl⟩
      obtain ⟨z6, b6, hlit, hpr⟩ := rec_lit wr K A3 w.heap.size _ _ z3 (oc_lt hown) w5 w6 h5 h6
      have hown6 := hown.keep b6
      have hps6 := (hps.keep (sf_below b6)).snoc hpr
      have bw6 := hbel.trans (b6.mono z3)
      have hj2 : s0 + (j + 1) ≤ e0 ∨ j + 1 = 0 := .inl (by omega)
      have H5 := Lib.hid h5; have H6 := Lib.hid h6; have Hlit := Lib.hid hlit; have Hown6 := Lib.hid hown6; have Hps6 := Lib.hid hps6; have Z6 := Lib.hid z6; have Hrc := Lib.hid hrc; have Hst := Lib.hid hst; have Hnx := Lib.hid hnx; have Hj2 := Lib.hid hj2
      clear h5 h6 hlit hpr hown6 hps6 z6 b6 hrc hst hstl hK ha hnx hown hps hpi hj hj2 hen hst0 hc
      go_wp2_with fail
      refine Hrc.out.mono ?_
      rintro e w4 ⟨rfl, rfl⟩
      go_wp2_with (at_builtin; rw [← H5.out, ← H6.out]; go_must (refine Sl.wpAppAt rty rfl (.tmp 45) (.tmp 50) rfl (n := j) (m := 1) (N := j + 1) (ws := vs ++ [.slice (some ⟨wr.heap.size, 0, none⟩) 1 1]) rfl rfl Hown6.out Hlit.out ?hs1 rfl rfl ?hs4 ?hs5 ?hs6 ?_))
      case hs1 => simp [Value.oneCell']
      case hs4 => omega
      case hs5 => omega
      case hs6 => have := Z6.out; omega
      intro A8 c8 w8 hown8 hg8
      have bw8 := bw6.trans (hg8.belowC Hown6.out (by have := Z6.out; omega))
      have hps8 := Hps6.out.keep (sf_grow hg8)
      have Hown8 := Lib.hid hown8; have Hps8 := Lib.hid hps8; clear hown8 hps8 hg8
      go_wp2
      go_roundw
      case rel => exact ⟨A8, c8, vs ++ [.slice (some ⟨wr.heap.size, 0, none⟩) 1 1], j + 1, rfl, by rw [Hnx.out]; go_num, Hj2.out, Hown8.out, by rw [← Nat.add_assoc, Hst.out, List.map_append]; exact Hps8.out, bw8⟩
      case measure => simp [intOf]; omega
    · have hge : ¬ a < q := fun h => hc (hcnd.1 h)
      have hd : Fx.rs l k s0 (s0 + j) = Fx.rs l k s0 e0 := by
        rcases hj with hj | hj
        · rw [show s0 + j = e0 by omega]
        · rw [Fx.rs_nil _ _ _ _ (by omega), Fx.rs_nil _ _ _ _ (by omega)]
      have hjl : ((Fx.rs l k s0 e0).map Tm.rc).length = j := by rw [← hd, List.length_map, hstl]; omega
      rw [hd] at hps
      have hfin : RLS wr (Fr w.heap.size wr) A3 j c3 ((Fx.rs l k s0 e0).map Tm.rc) := ⟨vs, hown.rcS, hps.keep (stays_weak sf_fr)⟩
      have Hfin := Lib.hid hfin; have Hjl := Lib.hid hjl
      clear hfin hown hps hd hjl hcnd hnd hnx hst hstl hrc hpi ha hc hj hen hst0
      by_cases hs : V < t
      · have hE := HE.out
        rw [if_pos hs] at hE
        subst hE
        go_wp2
        go_ret2
        exact ⟨A3, c3, by rw [Hjl.out]; rfl, by rw [Hjl.out]; exact Hfin.out, hbel⟩
      · have hE := HE.out
        rw [if_neg hs] at hE
        subst hE
        go_wp2
        go_ret2
        exact ⟨A3, c3, by rw [Hjl.out]; rfl, by rw [Hjl.out]; exact Hfin.out, hbel⟩

set_option maxHeartbeats 1000000 in
set_option maxRecDepth 100000 in
/-- the document's Read -/
theorem rread_ok (A : Option Addr) (n c k : Nat) (l : List UInt8) (f t : Nat) (w : World) (hr : Rb w w.heap.size A n c l) (hn : n ≤ 1000000) (hk : 1 ≤ k) (hk2 : k ≤ 1000) (hft : f ≤ t) (htn : t ≤ n) :
    Calls Try.prog 16 #[.slice A n c, .int .i64 (f : Int), .int .i64 (t : Int), .int .i64 (k : Int)] w (RetR2 w ((Fx.rd l k f t).map Tm.rc) (rdE n k t)) := by
  have hl := hr.len
  have hyes := (is_c (k : Int) true (by simp; omega))
  have hsc := fun W h => rscan_c A n c k l W h hn hk hk2
  have hP := Fx.ch_le l k
  have hbt := Fx.all_btw l k f t hk
  have hal := Tm.all_pc (Fx.ch l k)
  obtain ⟨P, hPP⟩ : ∃ P, P = Fx.ch l k := ⟨_, rfl⟩
  unfold RetP at hsc
  rw [hl] at hsc hP
  rw [← hPP] at hP hbt hal
  simp only [← hPP] at hsc
  obtain ⟨V, hV⟩ : ∃ V, V = n / k * k := ⟨_, rfl⟩
  obtain ⟨E, hE0⟩ : ∃ E, E = rdE n k t := ⟨_, rfl⟩
  have hE : E = if V < t then 2 else 0 := by rw [hE0, hV]; rfl
  obtain ⟨F, hF⟩ : ∃ F, F = scE n k := ⟨_, rfl⟩
  simp only [← hV, ← hF] at hsc
  rw [← hbt, ← hE0]
  have hof := fun A c W h => rof_c A P.length c (P.map Tm.pc) f t W h (by omega) (by rw [hal, List.length_map]; omega)
  obtain ⟨L, hL⟩ : ∃ L, L = Tm.all (Tm.btw f t (P.map Tm.pc)) := ⟨_, rfl⟩
  simp only [← hL] at hof ⊢
  have d1 : decide ((f : Int) < 0) = false := by simp
  have d2 : decide (t < f) = false := by simp; omega
  have d3 : decide (n < t) = false := by simp; omega
  have Hr := Lib.hid hr; have Hyes := Lib.hid hyes; have Hsc := Lib.hid hsc; have HE := Lib.hid hE; have Hof := Lib.hid hof
  clear hr hl hyes hsc hE hof hV hE0 hF hPP hP hbt hal hL
  go_enter Try.func16, Try.ntmps16
  go_wp2_with fail
  refine (Hyes.out _).mono ?_
  rintro e w1 ⟨rfl, rfl⟩
  go_wp2_with fail
  refine (Hsc.out _ Hr.out).mono ?_
  rintro e w1 ⟨A1, c1, rfl, hp1, hb1⟩
  have hp1' := hp1.pl
  have HP := Lib.hid hp1'; clear hp1 hp1'
  by_cases hs : V < t
  · have hE := HE.out
    rw [if_pos hs] at hE
    subst hE
    go_wp2_with fail
    refine (Hof.out A1 c1 _ HP.out).mono ?_
    rintro e w2 ⟨A2, c2, rfl, hp2, hb2⟩
    have b2 := hb1.trans (hb2.mono hb1.size)
    have HP2 := Lib.hid hp2; clear hp2
    go_wp2
    go_ret2
    exact ⟨A2, c2, rfl, HP2.out, b2⟩
  · have hE := HE.out
    rw [if_neg hs] at hE
    subst hE
    go_wp2_with fail
    refine (Hof.out A1 c1 _ HP.out).mono ?_
    rintro e w2 ⟨A2, c2, rfl, hp2, hb2⟩
    have b2 := hb1.trans (hb2.mono hb1.size)
    have HP2 := Lib.hid hp2; clear hp2
    go_wp2
    go_ret2
    exact ⟨A2, c2, rfl, HP2.out, b2⟩
end Go.Proofs.Ytjdmpnonjlffaaa
