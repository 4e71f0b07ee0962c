/-
  field.Pairs: what the call returns and leaves.
-/
import Derived.Test.YtihfejjkkgnneaaQ3
import Derived.Test.YtihfejjkkgnneaaQ2
namespace Go.Proofs.Ytihfejjkkgnneaa
open Go.RowKit Go.Maps

theorem pty : Sl Try.prog 42 52 (.agg #[.string ⟨#[]⟩, .string ⟨#[]⟩]) 2 32 := ⟨Try.underlying42, by kernel_rfl, rfl, by omega⟩

theorem pairs_nil : Fm.pairs [] = some [] := rfl
theorem pairs_no {R : List UInt8} (hn : R ≠ []) (h : ∀ x ∈ R, x ≠ 10) : Fm.pairs R = none := by
  unfold Fm.pairs
  rw [Fm.cut_none 10 R h]
  unfold Fm.pairsL
  rw [if_neg hn]
theorem pairs_at (k v : List UInt8) (h : ∀ x ∈ k, x ≠ 10) : Fm.pairs (k ++ 10 :: v) = match Fm.pairOf k, Fm.pairs v with | some p, some q => some (p :: q) | _, _ => none := by
  unfold Fm.pairs
  rw [Fm.cut_app 10 k v h]
  cases hc : Fm.cut 10 v with
  | nil => exact absurd hc (Fm.cut_ne 10 v)
  | cons y q => rfl
/-- What is known of the pairs under way. -/
def Pu (T R : List UInt8) (P : List (List UInt8 × List UInt8)) : Prop := Fm.pairs T = (Fm.pairs R).map (P ++ ·)
theorem Pu.start (T : List UInt8) : Pu T T [] := by
  unfold Pu
  cases Fm.pairs T <;> rfl
theorem Pu.step {T k v : List UInt8} {P : List (List UInt8 × List UInt8)} {p : List UInt8 × List UInt8} (h : Pu T (k ++ 10 :: v) P) (hk : ∀ x ∈ k, x ≠ 10) (hp : Fm.pairOf k = some p) : Pu T v (P ++ [p]) := by
  unfold Pu at h ⊢
  rw [h, pairs_at k v hk, hp]
  cases Fm.pairs v <;> simp
theorem Pu.bad {T k v : List UInt8} {P : List (List UInt8 × List UInt8)} (h : Pu T (k ++ 10 :: v) P) (hk : ∀ x ∈ k, x ≠ 10) (hp : Fm.pairOf k = none) : Fm.pairs T = none := by
  unfold Pu at h
  rw [h, pairs_at k v hk, hp]
  rfl
theorem Pu.open_ {T R : List UInt8} {P : List (List UInt8 × List UInt8)} (h : Pu T R P) (hn : R ≠ []) (hk : ∀ x ∈ R, x ≠ 10) : Fm.pairs T = none := by
  unfold Pu at h
  rw [h, pairs_no hn hk]
  rfl
theorem Pu.end_ {T : List UInt8} {P : List (List UInt8 × List UInt8)} (h : Pu T [] P) : Fm.pairs T = some P := by
  unfold Pu at h
  rw [h, pairs_nil]
  simp

/-- Pairs, or the error. -/
def psS (o : Option (List (List UInt8 × List UInt8))) : List (List UInt8 × List UInt8) × Nat := match o with | some l => (l, 0) | none => ([], 3)
def RetPs (base : Nat) (w : World) (t : List (List UInt8 × List UInt8) × Nat) (e : Ending) (w' : World) : Prop :=
  ∃ A c, e = .returned (.tuple #[.slice A t.1.length c, .int .i64 (t.2 : Int)]) ∧ Oc 2 w' 52 base A t.1.length c (pvs t.1) ∧ Below base w w'

theorem str_mk (R : ByteArray) : R = ⟨R.data.toList.toArray⟩ := rfl
theorem str_empty {R : ByteArray} (h : R.data.toList = []) : R.toList.isEmpty = true := by
  rw [str_mk R, h]; simp
theorem str_full {R : ByteArray} (h : R.data.toList ≠ []) : (!R.toList.isEmpty) = true := by
  rw [str_mk R]
  cases hx : R.data.toList with
  | nil => exact absurd hx h
  | cons c r => simp
/-- An append whose outcome has a name. -/
theorem Sl.wpAppN {P : Program} {t e : TypeId} {zv : Value} {z y : Nat} (u : Sl P t e zv z y) {w : World} {ops : Array Oper} {rest : List Oper} {o : Oper} {a : Act} {Q : Exit → Act → World → Prop} (hgd : o.guard = none) (p q : Operand)
    (ho : o.op = .call { callee := .builtin .append, args := #[p, q], argTypes := #[t, t] })
    {base n c B m d N : Nat} {A D : Option Addr} {vs us ws : List Value} (hx : a.eval p = .slice A n c) (hy : a.eval q = .slice D m d) (hown : Oc z w e base A n c vs) (hr : Rc z w B D m d us) (h1 : ∀ v ∈ us, v.oneCell' = true)
    (hN : n + m = N) (hvs : vs ++ us = ws) (hsm : N * y ≤ 140737488355328) (hnm : N ≤ 140737488355328) (hbase : base ≤ w.heap.size)
    (h : ∀ A' c' w', Oc z w' e base A' N c' ws → Below base w w' → wpList P ops Q rest (a.put o.dst (.slice A' N c')) w') : wpList P ops Q (o :: rest) a w := by
  subst hN hvs
  exact u.wpApp hgd p q ho hx hy hown hr h1 hsm hnm hbase fun A' c' w' h2 h3 _ => h A' c' w' h2 h3
theorem Rc.litAt {z : Nat} (w : World) (e : TypeId) (cs : Array Value) (n g : Nat) (hg : g = w.heap.size) (h : cs.size = n * z) (hn : n ≤ maxLen) : Rc z (w.alloc (.cells cs e)) (g + 1) (some ⟨g, 0, none⟩) n n cs.toList := by
  subst hg
  exact Rc.lit w e cs n h hn
def strSz : Value → Nat
  | .string s => s.size
  | _ => 0
def PRel (base : Nat) (w : World) (T : List UInt8) (o r : Value) (wr : World) : Prop :=
  ∃ A c P R, o = .slice A P.length c ∧ r = .string R ∧ Oc 2 wr 52 base A P.length c (pvs P) ∧ Pu T R.data.toList P ∧ P.length + R.size ≤ T.length ∧ Below base w wr

theorem qpair_ok (b : Nat) (s : ByteArray) (p : List UInt8 × List UInt8) (w : World) (hm : Mp w b) (hz : s.size ≤ 100000) (h : Fm.pairOf s.data.toList = some p) :
    Calls Try.prog 46 #[.map (some b), .string s] w fun e w' => e = .returned (.tuple #[.agg #[.string ⟨p.1.toArray⟩, .string ⟨p.2.toArray⟩], .int .i64 0]) ∧ Below w.heap.size w w' :=
  (qpair_c b s w hm hz).mono fun _ _ ⟨he, hb⟩ => ⟨by rw [he, h]; rfl, hb⟩
theorem qpair_err (b : Nat) (s : ByteArray) (w : World) (hm : Mp w b) (hz : s.size ≤ 100000) (h : Fm.pairOf s.data.toList = none) :
    Calls Try.prog 46 #[.map (some b), .string s] w fun e w' => e = .returned (.tuple #[.agg #[.string ⟨#[]⟩, .string ⟨#[]⟩], .int .i64 3]) ∧ Below w.heap.size w w' :=
  (qpair_c b s w hm hz).mono fun _ _ ⟨he, hb⟩ => ⟨by rw [he, h]; rfl, hb⟩

set_option maxRecDepth 100000 in
set_option maxHeartbeats 2000000 in
/-- field.Pairs -/
theorem pairs_c (D : Option Addr) (n d : Nat) (T : List UInt8) (w : World) (hr : Rb w w.heap.size D n d T) (hn : n ≤ 100000) :
    Calls Try.prog 25 #[.slice D n d] w (RetPs w.heap.size w (psS (Fm.pairs T))) := by
  have hl := hr.len
  have Hr := Lib.hid hr; have Hl := Lib.hid hl; clear hr hl
  go_enter Try.func25, Try.ntmps25
  go_wp2_with fail
  refine (escapes_c _).mono ?_
  rintro e w1 ⟨rfl, hm1, hb1⟩
  have hlt1 := hm1.lt
  have hsz1 := hb1.size
  have hcv := bty.conv (Hr.out.below hb1)
  have Hm := Lib.hid hm1; clear hm1
  go_wp2
  go_loopw [5, 6] (fun o r wr => PRel w1.heap.size w1 T o r wr) (fun _ r _ => strSz r)
  case atStart => exact ⟨none, 0, [], _, rfl, rfl, Oc.nil _ _ _ _, Pu.start T, by have := Hl.out; simp [ByteArray.size], Below.refl _ _⟩
  case round =>
    obtain ⟨A3, c3, P, R, rfl, rfl, hown3, hP, hPR, hbel3⟩ := hrel
    clear hcv
    have hTl := Hl.out
    have hPl : P.length + R.size ≤ 100000 := by omega
    have HPR := Lib.hid hPR; clear hPR hTl
    have hsz3 := hbel3.size
    have hmr := Hm.out.below hbel3 hlt1
    have Hmr := Lib.hid hmr; clear hmr
    by_cases hne : R.data.toList = []
    · have he := str_empty hne
      have he2 : (!R.toList.isEmpty) = false := by rw [he]; rfl
      have Hf := Lib.hid (show Fm.pairs T = some P by rw [hne] at hP; exact hP.end_)
      clear hne hP
      go_wp2
      go_ret2
      rw [Hf.out]
      exact ⟨A3, c3, rfl, hown3.mono hsz1, hb1.trans (hbel3.mono hsz1)⟩
    · have hne2 := str_full hne
      have he3 : R.toList.isEmpty = false := by simpa using hne2
      rcases cut_cases 10 R.data.toList with h | ⟨k, v, hs, h⟩
      · have Hf := Lib.hid (hP.open_ hne h)
        have H := Lib.hid h; clear h hne hP
        go_wp2_with fail
        refine (cut_none 10 R _ H.out).mono ?_
        rintro e w' ⟨rfl, rfl⟩
        go_wp2
        go_ret2
        rw [Hf.out]
        exact ⟨none, 0, rfl, Oc.nil _ _ _ _, hb1.trans (hbel3.mono hsz1)⟩
      · have hsl := congrArg List.length hs
        rw [str_len, List.length_append, List.length_cons] at hsl
        have hP' := hP
        rw [hs] at hP'
        cases hp : Fm.pairOf k with
        | none =>
          have Hf := Lib.hid (hP'.bad h hp)
          have H := Lib.hid h; have Hs := Lib.hid hs; have Hp := Lib.hid hp; clear h hne hP hP' hs hp
          go_wp2_with fail
          refine (cut_at 10 R k v _ Hs.out H.out (by omega)).mono ?_
          rintro e w' ⟨rfl, q, rfl⟩
          go_wp2_with fail
          refine (qpair_err w.heap.size ⟨k.toArray⟩ _ (Hmr.out.drewN q) (by simp [ByteArray.size]; omega) Hp.out).mono ?_
          rintro e w2 ⟨rfl, hb2⟩
          have hb32 : Below wr.heap.size wr w2 := (below_drewN (Below.refl _ _) q).trans hb2
          go_wp2
          go_ret2
          rw [Hf.out]
          exact ⟨none, 0, rfl, Oc.nil _ _ _ _, (hb1.trans (hbel3.mono hsz1)).trans ((hb32.alloc hb32.size _).mono (by omega))⟩
        | some p =>
          have Hst := Lib.hid (hP'.step h hp)
          have H := Lib.hid h; have Hs := Lib.hid hs; have Hp := Lib.hid hp; clear h hne hP hP' hs hp
          go_wp2_with fail
          refine (cut_at 10 R k v _ Hs.out H.out (by omega)).mono ?_
          rintro e w' ⟨rfl, q, rfl⟩
          go_wp2_with fail
          refine (qpair_ok w.heap.size ⟨k.toArray⟩ p _ (Hmr.out.drewN q) (by simp [ByteArray.size]; omega) Hp.out).mono ?_
          rintro e w2 ⟨rfl, hb2⟩
          have hb32 : Below wr.heap.size wr w2 := (below_drewN (Below.refl _ _) q).trans hb2
          have hown2 := hown3.keep hb32
          have z2 := hb32.size
          clear hb2
          go_wp2_with (at_builtin; go_must (refine Sl.wpAppN pty rfl (.tmp 34) (.tmp 36) rfl (n := P.length) (m := 1) (N := (P ++ [p]).length) (ws := pvs (P ++ [p])) rfl rfl ((hown2.alloc _).alloc _) (Rc.litAt (z := 2) _ _ _ 1 (w2.heap.size + 1) (by simp) rfl (by simp [maxLen])) ?hs1 ?hs2 ?hs3 ?hs4 ?hs5 ?hs6 ?_))
          case hs1 => simp [Value.oneCell']
          case hs2 => simp
          case hs3 => simp [pvs]
          case hs4 => simp; omega
          case hs5 => simp; omega
          case hs6 => simp; omega
          intro A5 c5 w5 hown5 hb5
          have b35 : Below w1.heap.size wr w5 := (((hb32.mono hsz3).alloc (by omega) _).alloc (by simp; omega) _).trans hb5
          have Hown5 := Lib.hid hown5; clear hown5 hb5 hown2
          go_wp2
          go_roundw
          case rel => exact ⟨A5, c5, P ++ [p], ⟨v.toArray⟩, by simp, rfl, by simpa using Hown5.out, Hst.out, by have := HPR.out; simp [ByteArray.size]; omega, hbel3.trans b35⟩
          case measure =>
            have hq : (⟨v.toArray⟩ : ByteArray).size = v.length := by simp [ByteArray.size]
            show (⟨v.toArray⟩ : ByteArray).size < R.size
            rw [hq]
            omega
end Go.Proofs.Ytihfejjkkgnneaa
