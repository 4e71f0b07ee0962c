/-
  Joined: P16 P18.
-/
import Derived.Test.YtplkjljhpmldfaaJ7
import Derived.Test.YtplkjljhpmldfaaJ22
import Derived.Test.YtplkjljhpmldfaaJ24
import Derived.Test.YtplkjljhpmldfaaJ25
import Derived.Test.YtplkjljhpmldfaaJ28
import Derived.BigQuiet
/-
  The document's expand, Expand, Marks (threshingref03) come to its words.
-/
namespace Go.Proofs.Ytplkjljhpmldfaa
open Go.RowKit

theorem U8.wpAppAtN {P : Program} {t e s : TypeId} (u : U8 P t e s) {w : World} {ops : Array Oper} {rest : List Oper} {o : Oper} {a : Act} {Q : Exit → Act → World → Prop} (hgd : o.guard = none) (x y : Operand)
    (ho : o.op = .call { callee := .builtin .append, args := #[x, y], argTypes := #[t, t] })
    {base c B m d n N : Nat} {A D : Option Addr} {l r : List UInt8} (hn : l.length = n) (hN : (l ++ r).length = N) (hx : a.eval x = .slice A n c) (hy : a.eval y = .slice D m d) (hown : Own w e base A c l) (hr : Rb w B D m d r)
    (hsm : l.length + r.length ≤ 140737488355328) (hbase : base ≤ w.heap.size)
    (h : ∀ A' c' w', Own w' e base A' c' (l ++ r) → Grows w w' A A' → wpList P ops Q rest (a.put o.dst (.slice A' N c')) w') : wpList P ops Q (o :: rest) a w := by
  subst hn hN
  exact u.wpAppAt hgd x y ho hx hy hown hr hsm hbase h

/-- While a match is copied: the row that grows, and the rest, which is a row of its own. -/
def CopRel (W0 : World) (base : Nat) (A : Option Addr) (OUT : List UInt8) (K d olen : Nat) (F : Option Addr) (c2 : Nat) (R2 : List UInt8) (to tj : Value) (W : World) : Prop :=
  ∃ A1 c1 o1 j, to = .slice A1 (o1 : List UInt8).length c1 ∧ tj = .int .u64 ((j : Nat) : Int) ∧ j ≤ K ∧ o1.length = olen + j ∧ Hid (Own W 5 base A1 c1 o1) ∧ Hid (Pm.copyN (K - j) d o1 = OUT) ∧ Hid (Grows W0 W A A1) ∧ base ≤ W.heap.size ∧ Hid (Own W 5 base F c2 R2) ∧ Hid (∀ g, ob A1 = some g → ob F ≠ some g)
theorem prtake_ok (A : Option Addr) (n c : Nat) (l : List UInt8) (w : World) (hr : Rb w w.heap.size A n c l) (hn : n ≤ 1000000) (a s : Nat) (h : Vm.tk l = (a, s, 0)) :
    Calls Try.prog 40 #[.slice A n c] w fun e w' => ∃ A1 c1, e = .returned (.tuple #[.int .u64 (a : Int), .slice A1 (l.drop s).length c1, .int .i64 0]) ∧ Own w' 5 w.heap.size A1 c1 (l.drop s) ∧ Below w.heap.size w w' := by
  have h' := rtake_c A n c l w hr hn
  rw [takeS_ok l a s h] at h'
  exact h'
theorem prtake_err (A : Option Addr) (n c : Nat) (l : List UInt8) (w : World) (hr : Rb w w.heap.size A n c l) (hn : n ≤ 1000000) (x : Nat) (h : Vm.tk l = (0, 0, x)) (hx : x = 2 ∨ x = 3) :
    Calls Try.prog 40 #[.slice A n c] w (RetT w.heap.size w (0, [], x)) := by
  have h' := rtake_c A n c l w hr hn
  rw [takeS_err l x h hx] at h'
  exact h'

/-- Bytes, two counts, an error. -/
def RetEp (base : Nat) (w : World) (R : List UInt8 × Nat × Nat × Nat) (e : Ending) (w' : World) : Prop :=
  ∃ A c, e = .returned (.tuple #[.slice A R.1.length c, .int .i64 (R.2.1 : Int), .int .i64 (R.2.2.1 : Int), .int .i64 (R.2.2.2 : Int)]) ∧ Own w' 5 base A c R.1 ∧ Below base w w'
theorem retep_err {base : Nat} {w w' : World} {R : List UInt8 × Nat × Nat × Nat} {x : Nat} {z : Int} (h : R = ([], 0, 0, x)) (hz : z = (x : Int)) (hb : Below base w w') : RetEp base w R (.returned (.tuple #[.slice none 0 0, .int .i64 0, .int .i64 0, .int .i64 z])) w' := by
  subst h hz
  exact ⟨none, 0, rfl, Own.nil _ _ _, hb⟩

def RexpRel (base : Nat) (w : World) (S n : Nat) (RES : List UInt8 × Nat × Nat × Nat) (t0 t10 t11 t12 : Value) (wr : World) : Prop :=
  ∃ D m dc r A c out p k, t0 = .slice D m dc ∧ t10 = .slice A (out : List UInt8).length c ∧ t11 = .int .i64 ((p : Nat) : Int) ∧ t12 = .int .i64 ((k : Nat) : Int) ∧
    Hid (Rb wr wr.heap.size D m dc r) ∧ Hid (Own wr 5 base A c out) ∧ out.length ≤ S ∧ p + k + m ≤ n ∧ Hid (Pm.expGo S out r p k = RES) ∧ Below base w wr ∧ base ≤ wr.heap.size

set_option maxRecDepth 100000 in
set_option maxHeartbeats 4000000 in
/-- the document's expand -/
theorem rexpand_c (A0 : Option Addr) (n c0 : Nat) (l : List UInt8) (most : Int) (w : World) (hr : Rb w w.heap.size A0 n c0 l) (hn : n ≤ 900000) (hm : I64 most) (hmost : most ≤ 2000000) :
    Calls Try.prog 64 #[.slice A0 n c0, .int .i64 most] w (RetEp w.heap.size w (Pm.expS l most)) := by
  have hl := hr.len
  rcases tk_cases l with ⟨S, s, htk, hS, hs, hs10⟩ | ⟨x, htk, hx⟩
  · by_cases h1 : most < 0 ∨ most < (S : Int)
    · have hres : Pm.expS l most = ([], 0, 0, 5) := by unfold Pm.expS; rw [htk]; dsimp only; rw [if_pos rfl, if_pos h1]
      have Hr := Lib.hid hr; have Htk := Lib.hid htk; have Hl := Lib.hid hl; have Hm := Lib.hid hm; have HS := Lib.hid hS; have Hres := Lib.hid hres; clear hr htk hl hm hS hres
      by_cases h2 : most < 0
      · clear h1
        go_enter Try.func64, Try.ntmps64
        go_wp2_with fail
        refine (prtake_ok A0 n c0 l _ Hr.out (by omega) S s Htk.out).mono ?_
        rintro e w1 ⟨A1, c1, rfl, hown1, hb1⟩
        clear hown1
        go_wp2
        refine bodyPost_ret (v := .tuple #[.slice none 0 0, .int .i64 0, .int .i64 0, .int .i64 5]) ?_ rfl (retep_err Hres.out rfl hb1)
        simp [results, Try.results64, go_sem]
      · have h3 : 0 ≤ most := by omega
        have h4 : most < (S : Int) := by omega
        have hw : IntKind.u64.wrap most = most := by have := Hm.out; unfold I64 at this; rw [IntKind.wrap_u64]; omega
        clear h1 h2
        go_enter Try.func64, Try.ntmps64
        go_wp2_with fail
        refine (prtake_ok A0 n c0 l _ Hr.out (by omega) S s Htk.out).mono ?_
        rintro e w1 ⟨A1, c1, rfl, hown1, hb1⟩
        clear hown1
        go_wp2
        refine bodyPost_ret (v := .tuple #[.slice none 0 0, .int .i64 0, .int .i64 0, .int .i64 5]) ?_ rfl (retep_err Hres.out rfl hb1)
        simp [results, Try.results64, go_sem]
    · have h3 : 0 ≤ most := by omega
      have h4 : (S : Int) ≤ most := by omega
      have hS2 : S ≤ 2000000 := by omega
      have hw : IntKind.u64.wrap most = most := by unfold I64 at hm; rw [IntKind.wrap_u64]; omega
      obtain ⟨RES, hRES⟩ : ∃ RES, RES = Pm.expGo S [] (l.drop s) 0 0 := ⟨_, rfl⟩
      have hres : Pm.expS l most = RES := by unfold Pm.expS; rw [htk]; dsimp only; rw [if_pos rfl, if_neg h1, hRES]
      have hdl : (l.drop s).length = n - s := by rw [List.length_drop, hl]
      have Hr := Lib.hid hr; have Htk := Lib.hid htk; have Hl := Lib.hid hl; have Hres := Lib.hid hres; have HRES := Lib.hid hRES; have Hdl := Lib.hid hdl; clear hr htk hl hm hS hres hRES h1 hdl
      go_enter Try.func64, Try.ntmps64
      go_wp2_with fail
      refine (prtake_ok A0 n c0 l _ Hr.out (by omega) S s Htk.out).mono ?_
      rintro e w1 ⟨A1, c1, rfl, hown1, hb1⟩
      have hs1 := hb1.size
      rw [Hdl.out]
      have HrD := Lib.hid ((rb_len hown1.rb Hdl.out).more (B' := (w1.alloc (.cells #[] 5)).heap.size) (by simp))
      have HrD1 := Lib.hid (((rb_len hown1.rb Hdl.out).alloc (Nat.le_refl _) (.cells #[] 5)).more (B' := (w1.alloc (.cells #[] 5)).heap.size) (by simp))
      have hb01 : Below w.heap.size w (w1.alloc (.cells #[] 5)) := hb1.alloc hs1 _
      clear hown1 HrD
      obtain ⟨m0, hm0⟩ : ∃ m0, m0 = n - s := ⟨_, rfl⟩
      have hm0n : m0 ≤ n := by omega
      rw [← hm0] at HrD1 ⊢
      clear hm0
      go_wp2
      go_loopw [0, 10, 11, 12] (fun t0 t10 t11 t12 wr => RexpRel w.heap.size w S n RES t0 t10 t11 t12 wr) (fun t0 _ _ _ _ => slen t0)
      case atStart => exact ⟨A1, m0, c1, l.drop s, _, 0, [], 0, 0, rfl, rfl, rfl, rfl, HrD1, Lib.hid ((Own.made0 w1 _).mono hs1), by simp, by omega, HRES.out.symm, hb01, by simp; omega⟩
      case round =>
        obtain ⟨D, m, dc, r, A, c, out, p, k, rfl, rfl, rfl, rfl, HrD, HO, hoS, hpk, HG, hbel, hsz⟩ := hrel
        have hrl := HrD.out.len
        have Hrl := Lib.hid hrl; clear hrl
        obtain ⟨o, ho⟩ : ∃ o, o = out.length := ⟨_, rfl⟩
        rw [← ho] at hoS ⊢
        have Ho := Lib.hid ho; clear ho
        by_cases hmz : m = 0
        · subst hmz
          obtain rfl : r = [] := List.eq_nil_of_length_eq_zero Hrl.out
          by_cases hfew : o < S
          · have hfew' : (o : Int) < (S : Int) := by omega
            go_wp2
            refine bodyPost_ret (v := .tuple #[.slice none 0 0, .int .i64 0, .int .i64 0, .int .i64 3]) ?_ rfl (retep_err (Hres.out.trans (HG.out.symm.trans (eg_nil_few (by rw [← Ho.out]; exact hfew)))) rfl hbel)
            simp [results, Try.results64, go_sem]
          · have hfew' : (S : Int) ≤ (o : Int) := by omega
            have hR := Hres.out.trans (HG.out.symm.trans (eg_nil (by rw [← Ho.out]; exact hfew)))
            have HR := Lib.hid hR; clear hR
            go_wp2
            refine bodyPost_ret (v := .tuple #[.slice A o c, .int .i64 (p : Int), .int .i64 (k : Int), .int .i64 0]) ?_ rfl ⟨A, c, ?_, ?_, hbel⟩
            · simp [results, Try.results64, go_sem]
            · rw [HR.out]; dsimp only; rw [← Ho.out]; rfl
            · rw [HR.out]; exact HO.out
        · have hmp : 0 < m := by omega
          have hne : r ≠ [] := by intro e; rw [e] at Hrl; have := Hrl.out; simp at this; omega
          rcases tk_cases r with ⟨a, s1, htk1, ha, hs1', _⟩ | ⟨x, htk1, hx⟩
          · have hs1p : 1 ≤ s1 := by have := Pm.tk_pos r (by rw [htk1]); rw [htk1] at this; exact this
            have hs1m : s1 ≤ m := by have := Hrl.out; omega
            have Htk1 := Lib.hid htk1
            clear hne htk1
            by_cases h2 : a % 2 = 0
            · have h2' : (((a : Int) % 2) == 0) = true := by simp; omega
              have H2 := Lib.hid h2; clear h2
              go_wp2_with fail
              refine (prtake_ok D m dc r _ HrD.out (by omega) a s1 Htk1.out).mono ?_
              rintro e w2 ⟨A1, c1, rfl, hown1, hb1⟩
              have hs1z := hb1.size
              have hbel1 := hbel.trans (hb1.mono hsz)
              have HO1 := Lib.hid (HO.out.keep hb1)
              have Hob : Hid (∀ g, ob A = some g → g < wr.heap.size) := Lib.hid (fun g h => (own_ob HO.out g h).2)
              obtain ⟨R, hR⟩ : ∃ R, R = r.drop s1 := ⟨_, rfl⟩
              obtain ⟨mR, hmR⟩ : ∃ mR, mR = m - s1 := ⟨_, rfl⟩
              have hRl : (r.drop s1).length = mR := by rw [List.length_drop, Hrl.out, hmR]
              rw [hRl]
              rw [← hR] at hown1 hRl
              have HRo := Lib.hid hown1; have HR := Lib.hid hR; have HmR := Lib.hid hmR; have HRl := Lib.hid hRl
              have hmRm : mR + 1 ≤ m := by omega
              clear hown1 hb1 hR hmR hRl HO
              by_cases hsh : mR < a / 2 + 1
              · have hsh' : (mR : Int) < (a : Int) / 2 + 1 := by omega
                go_wp2
                refine bodyPost_ret (v := .tuple #[.slice none 0 0, .int .i64 0, .int .i64 0, .int .i64 2]) ?_ rfl (retep_err (Hres.out.trans (HG.out.symm.trans (eg_short Htk1.out H2.out (by rw [List.length_drop, Hrl.out, ← HmR.out]; exact hsh)))) rfl hbel1)
                simp [results, Try.results64, go_sem]
              · have hsh' : (a : Int) / 2 + 1 ≤ (mR : Int) := by omega
                obtain ⟨K, hK⟩ : ∃ K, K = a / 2 + 1 := ⟨_, rfl⟩
                have hKz : (a : Int) / 2 + 1 = (K : Int) := by omega
                have hKm : K ≤ mR := by omega
                have hK1 : 1 ≤ K := by omega
                have hgo := fun ho => eg_over (p := p) (k := k) (n := S) (out := out) Htk1.out H2.out (by rw [List.length_drop, Hrl.out, ← HmR.out]; exact hsh) ho
                have hgl := fun ho => eg_lit (p := p) (k := k) (n := S) (out := out) Htk1.out H2.out (by rw [List.length_drop, Hrl.out, ← HmR.out]; exact hsh) ho
                rw [← hK, ← Ho.out] at hgo hgl
                rw [← HR.out] at hgl
                have Hgo := Lib.hid hgo; have Hgl := Lib.hid hgl
                clear hgo hgl hsh
                obtain ⟨E, hE, hrE⟩ := bty.upto_ (rb_len HRo.out.rb HRl.out) (k := K) hKm (K : Int) rfl
                have HE := Lib.hid hrE
                have Hout : Hid (out.length = o) := Ho.out.symm
                have hlr : (R.take K).length = K := by rw [List.length_take, HRl.out]; omega
                have Hlr := Lib.hid hlr
                have ha2 : a ≤ 2000000 := by omega
                have hlen3 : (out ++ R.take K).length = o + K := by rw [List.length_append, Hlr.out, Hout.out]
                have Hlen3 := Lib.hid hlen3
                clear hrE hK hlr hlen3
                go_wp2_with (at_builtin; go_must (refine bty.wpAppAtN rfl (.tmp 60) (.tmp 65) rfl (l := out) (r := R.take K) Hout.out Hlen3.out rfl rfl HO1.out HE.out ?hs1 ?hs2 ?_))
                case hs1 => rw [Hlr.out, Hout.out]; omega
                case hs2 => omega
                intro A3 c3 w3 hown3 hg3
                have hbel3 := hbel1.trans (hg3.below HO1.out (by omega))
                have HRo3 := Lib.hid (Own.same HRo.out fun g hg => hg3.1.block g (own_ob HRo.out g hg).2 (fun e => by
                  have h5 := own_ob HRo.out g hg
                  have h6 := Hob.out g e.symm
                  omega))
                have hs3 := hg3.size
                have HO3 := Lib.hid hown3
                clear hown3 hg3 HO1 HRo
                obtain ⟨F, hF, hrF⟩ := bty.from_ (rb_len HRo3.out.rb HRl.out) (k := K) hKm (K : Int) rfl
                have HF := Lib.hid hrF; clear hrF
                by_cases hov : S < o + K
                · have hov' : (S : Int) < (o : Int) + (K : Int) := by omega
                  go_wp2
                  refine bodyPost_ret (v := .tuple #[.slice none 0 0, .int .i64 0, .int .i64 0, .int .i64 3]) ?_ rfl (retep_err (Hres.out.trans (HG.out.symm.trans (Hgo.out hov))) rfl hbel3)
                  simp [results, Try.results64, go_sem]
                · have hov' : (o : Int) + (K : Int) ≤ (S : Int) := by omega
                  have HG4 := Lib.hid ((Hgl.out hov).symm.trans HG.out)
                  go_wp2
                  go_roundw
                  case rel => exact ⟨F, mR - K, c1 - K, R.drop K, A3, c3, out ++ R.take K, p + 1, k, rfl, by rw [Hlen3.out], by go_num, rfl, HF, HO3, by rw [Hlen3.out]; omega, by omega, HG4, hbel3, hbel3.size⟩
                  case measure => simp [slen]; omega
            · have hodd : a % 2 = 1 := by omega
              have h2' : (((a : Int) % 2) == 0) = false := by simp; omega
              have Hodd := Lib.hid hodd; clear h2 hodd
              go_wp2_with fail
              refine (prtake_ok D m dc r _ HrD.out (by omega) a s1 Htk1.out).mono ?_
              rintro e w2 ⟨A1, c1, rfl, hown1, hb1⟩
              have hs1z := hb1.size
              have hbel1 := hbel.trans (hb1.mono hsz)
              have HO1 := Lib.hid (HO.out.keep hb1)
              have Hob : Hid (∀ g, ob A = some g → g < wr.heap.size) := Lib.hid (fun g h => (own_ob HO.out g h).2)
              obtain ⟨R, hR⟩ : ∃ R, R = r.drop s1 := ⟨_, rfl⟩
              obtain ⟨mR, hmR⟩ : ∃ mR, mR = m - s1 := ⟨_, rfl⟩
              have hRl : (r.drop s1).length = mR := by rw [List.length_drop, Hrl.out, hmR]
              rw [hRl]
              rw [← hR] at hown1 hRl
              have HRo := Lib.hid hown1; have HR := Lib.hid hR; have HmR := Lib.hid hmR; have HRl := Lib.hid hRl
              have hmRm : mR + 1 ≤ m := by omega
              clear hown1 hb1 hR hmR hRl HO
              rcases tk_cases R with ⟨d, s2, htk2, hd, hs2, _⟩ | ⟨x, htk2, hx⟩
              · have Htk2 := Lib.hid htk2
                have hs2m : s2 ≤ mR := by have := HRl.out; omega
                clear htk2 hs2
                obtain ⟨K, hK⟩ : ∃ K, K = a / 2 + 4 := ⟨_, rfl⟩
                have hgb := fun hb => eg_bad (p := p) (k := k) (n := S) (out := out) Htk1.out Hodd.out (by rw [← HR.out]; exact Htk2.out) hb
                have hgm := fun hb => eg_mat (p := p) (k := k) (n := S) (out := out) Htk1.out Hodd.out (by rw [← HR.out]; exact Htk2.out) hb
                rw [← hK, ← Ho.out] at hgb hgm
                rw [← HR.out] at hgm
                have Hgb := Lib.hid hgb; have Hgm := Lib.hid hgm; have HK := Lib.hid hK
                have hKz : (a : Int) / 2 + 4 = (K : Int) := by omega
                have HKz := Lib.hid hKz
                clear hgb hgm hK hKz
                go_wp2_with fail
                refine (prtake_ok A1 mR c1 R _ (rb_len HRo.out.rb HRl.out) (by omega) d s2 Htk2.out).mono ?_
                rintro e w3 ⟨A2, c2, rfl, hown2, hb2⟩
                have hs2z := hb2.size
                have hbel2 := hbel1.trans (hb2.mono (by omega))
                have HO2 := Lib.hid (HO1.out.keep hb2)
                obtain ⟨R2, hR2⟩ : ∃ R2, R2 = R.drop s2 := ⟨_, rfl⟩
                obtain ⟨m2, hm2⟩ : ∃ m2, m2 = mR - s2 := ⟨_, rfl⟩
                have hR2l : (R.drop s2).length = m2 := by rw [List.length_drop, HRl.out, hm2]
                rw [hR2l]
                rw [← hR2] at hown2 hR2l
                have HRo2 := Lib.hid hown2; have HR2 := Lib.hid hR2; have HR2l := Lib.hid hR2l
                have hm2m : m2 ≤ mR := by omega
                clear hown2 hb2 hR2 hm2 hR2l HRo
                by_cases b1 : d = 0
                · have b1' : ((d : Int) == 0) = true := by simp; omega
                  have B1 := Lib.hid b1; clear b1
                  go_wp2
                  refine bodyPost_ret (v := .tuple #[.slice none 0 0, .int .i64 0, .int .i64 0, .int .i64 3]) ?_ rfl (retep_err (Hres.out.trans (HG.out.symm.trans (Hgb.out (.inl B1.out)))) rfl hbel2)
                  simp [results, Try.results64, go_sem]
                · have b1' : ((d : Int) == 0) = false := by simp; omega
                  have B1 := Lib.hid b1; clear b1
                  by_cases b2 : 4096 < d
                  · have b2' : (4096 : Int) < (d : Int) := by omega
                    go_wp2
                    refine bodyPost_ret (v := .tuple #[.slice none 0 0, .int .i64 0, .int .i64 0, .int .i64 3]) ?_ rfl (retep_err (Hres.out.trans (HG.out.symm.trans (Hgb.out (.inr (.inl b2))))) rfl hbel2)
                    simp [results, Try.results64, go_sem]
                  · have b2' : (d : Int) ≤ 4096 := by omega
                    by_cases b3 : o < d
                    · have b3' : (o : Int) < (d : Int) := by omega
                      go_wp2
                      refine bodyPost_ret (v := .tuple #[.slice none 0 0, .int .i64 0, .int .i64 0, .int .i64 3]) ?_ rfl (retep_err (Hres.out.trans (HG.out.symm.trans (Hgb.out (.inr (.inr (.inl b3)))))) rfl hbel2)
                      simp [results, Try.results64, go_sem]
                    · have b3' : (d : Int) ≤ (o : Int) := by omega
                      by_cases b4 : S - o < K
                      · have b4' : (S : Int) - (o : Int) < (a : Int) / 2 + 4 := by have := HKz.out; omega
                        go_wp2
                        refine bodyPost_ret (v := .tuple #[.slice none 0 0, .int .i64 0, .int .i64 0, .int .i64 3]) ?_ rfl (retep_err (Hres.out.trans (HG.out.symm.trans (Hgb.out (.inr (.inr (.inr b4)))))) rfl hbel2)
                        simp [results, Try.results64, go_sem]
                      · have b4' : (a : Int) / 2 + 4 ≤ (S : Int) - (o : Int) := by have := HKz.out; omega
                        have HG4 := Lib.hid ((Hgm.out (by have := B1.out; omega)).symm.trans HG.out)
                        have hoK : o + K ≤ S := by omega
                        have hd1 : 1 ≤ d := by have := B1.out; omega
                        have hd2 : d ≤ 4096 := by omega
                        have hd3 : d ≤ o := by omega
                        have ha2 : a ≤ 4000000 := by have := HKz.out; omega
                        obtain ⟨OUT, hOUT⟩ : ∃ OUT, OUT = Pm.copyN K d out := ⟨_, rfl⟩
                        rw [← hOUT] at HG4
                        have hOl : OUT.length = o + K := by rw [hOUT, copyN_len, ← Ho.out]
                        have HOUT := Lib.hid hOUT; have HOl := Lib.hid hOl
                        clear hOUT hOl b2 b3 b4
                        have q2 : decide ((4096 : Int) < (d : Int)) = false := by simp; omega
                        have q3 : decide (o < d) = false := by simp; omega
                        have q4 : decide ((o : Int) < (d : Int)) = false := by simp; omega
                        have q5 : decide ((S : Int) - (o : Int) < (a : Int) / 2 + 4) = false := by simp; omega
                        go_wp2
                        have Hd3 := Lib.hid hd3; have HoK := Lib.hid hoK
                        have hd5 : d ≤ 1000000 := by omega
                        clear hd3 hoK hd2 b2' b3' b4'
                        go_loopw [10, 19] (fun to tj W => CopRel w3 w.heap.size A OUT K d o A2 c2 R2 to tj W) (fun _ tj _ => K - (intOf tj).toNat)
                        case atStart => exact ⟨A, c, out, 0, by rw [Ho.out], rfl, by omega, by rw [← Ho.out]; rfl, HO2, Lib.hid (by rw [HOUT.out, Nat.sub_zero]), Lib.hid (Grows.refl _ _), by omega, Lib.hid (HRo2.out.mono (by omega)), Lib.hid (fun q g h => by have h7 := own_ob HRo2.out q h; have h8 := Hob.out q g; omega)⟩
                        case round =>
                          obtain ⟨A3, c3, o1, j, rfl, rfl, hj, hlen, HOw, HC, HGr, hsz3, HF3, HNe⟩ := hrel
                          have hs3z := HGr.out.size
                          have Hlen := Lib.hid hlen; clear hlen
                          by_cases hjK : j < K
                          · have hjK' : (j : Int) < (a : Int) / 2 + 4 := by have := HKz.out; omega
                            have hpos : 0 < o1.length := by have := Hlen.out; have := Hd3.out; omega
                            have hdl : d ≤ o1.length := by have := Hlen.out; have := Hd3.out; omega
                            have hls : o1.length ≤ 2000000 := by have := Hlen.out; have := HoK.out; omega
                            obtain ⟨g, rfl, hgb⟩ := HOw.out.at_base hpos
                            obtain ⟨x, hx⟩ : ∃ x, o1[o1.length - d]? = some x := ⟨_, List.getElem?_eq_getElem (by omega)⟩
                            have hc := HOw.out.cellAt _ x hx
                            have hcopy : Hid (Pm.copyN (K - (j + 1)) d (o1 ++ [x]) = OUT) := by
                              have h1 := HC.out
                              rw [show K - j = (K - (j + 1)) + 1 by omega, Pm.copyN, getD_of' hx] at h1
                              exact h1
                            have Hx := Lib.hid hx; clear hx HC
                            have p1 : (0 : Int) ≤ (o1.length : Int) - (d : Int) := by omega
                            have p2 : (o1.length : Int) - (d : Int) < (o1.length : Int) := by omega
                            have e1 : ((o1.length : Int) - (d : Int)).toNat = o1.length - d := by omega
                            go_wp2_with (at_builtin; go_must (refine bty.wpAppAt rfl (.tmp 114) (.tmp 123) rfl (l := o1) (r := [x]) rfl rfl (HOw.out.alloc _) (Rb.one _ _ x) ?hs1 ?hs2 ?_))
                            case hs1 => simp; omega
                            case hs2 => simp; omega
                            intro A4 c4 w4 hown4 hg4
                            have hg5 := Grows.pre ((Below.refl _ _).alloc (Nat.le_refl _) _) hg4
                            have HO4 := Lib.hid hown4
                            have HF4 := Lib.hid (Own.same HF3.out fun g' hg' => hg5.1.block g' (own_ob HF3.out g' hg').2 (fun e => HNe.out g' e.symm hg'))
                            have HNe4 : Hid (∀ g', ob A4 = some g' → ob A2 ≠ some g') := Lib.hid (fun g' hq hF => by
                              rcases hg5.2 with e | ⟨g2, e, hge⟩
                              · exact HNe.out g' (e ▸ hq) hF
                              · rw [e] at hq; cases hq
                                have := (own_ob HF3.out _ hF).2
                                omega)
                            have HG5 := Lib.hid (HGr.out.trans hg5)
                            have hs5 := hg5.size
                            clear hown4 hg4 hg5 HOw HF3 HNe HGr hc
                            go_wp2
                            go_roundw
                            case rel => exact ⟨A4, c4, o1 ++ [x], j + 1, by simp, by go_num, by omega, by rw [List.length_append, Hlen.out]; simp; omega, HO4, hcopy, HG5, by omega, HF4, HNe4⟩
                            case measure => simp [intOf]; omega
                          · have hjK' : (a : Int) / 2 + 4 ≤ (j : Int) := by have := HKz.out; omega
                            obtain rfl : j = K := by omega
                            have h1 := HC.out
                            rw [Nat.sub_self] at h1
                            have h2 : o1 = OUT := h1
                            subst h2
                            have hbel4 := hbel2.trans (HGr.out.below HO2.out (by omega))
                            have HFr := Lib.hid (rb_len HF3.out.rb HR2l.out)
                            have hoK2 : (o : Int) + (j : Int) ≤ (S : Int) := by have := HoK.out; omega
                            have hol := HOl.out
                            have Hol := Lib.hid hol
                            rw [hol]
                            clear hol
                            go_wp2
                            go_roundw
                            case rel => exact ⟨A2, m2, c2, R2, A3, c3, o1, p, k + 1, rfl, by rw [Hol.out], rfl, by go_num, HFr, HOw, by rw [Hol.out]; exact HoK.out, by omega, by rw [HR2.out]; exact HG4, hbel4, hbel4.size⟩
                            case measure => simp [slen]; omega
              · have hx0 : ((x : Int) == 0) = false := by simp; omega
                have hx1 : 2 ≤ x := by omega
                have Htk2 := Lib.hid htk2; have Hx := Lib.hid hx
                clear htk2 hx
                go_wp2_with fail
                refine (prtake_err A1 mR c1 R _ (rb_len HRo.out.rb HRl.out) (by omega) x Htk2.out Hx.out).mono ?_
                rintro e w3 ⟨A2, c2, rfl, hown2, hb2⟩
                have hbel2 := hbel1.trans (hb2.mono (by omega))
                clear hown2 hb2
                go_wp2
                refine bodyPost_ret (v := .tuple #[.slice none 0 0, .int .i64 0, .int .i64 0, .int .i64 (x : Int)]) ?_ rfl (retep_err (Hres.out.trans (HG.out.symm.trans (eg_err2 Htk1.out Hodd.out (by rw [← HR.out]; exact Htk2.out) Hx.out))) rfl hbel2)
                simp [results, Try.results64, go_sem]
          · have hx0 : ((x : Int) == 0) = false := by simp; omega
            have hx1 : 2 ≤ x := by omega
            have Htk1 := Lib.hid htk1; have Hx := Lib.hid hx; have Hne := Lib.hid hne
            clear htk1 hx hne
            go_wp2_with fail
            refine (prtake_err D m dc r _ HrD.out (by omega) x Htk1.out Hx.out).mono ?_
            rintro e w2 ⟨A1, c1, rfl, hown1, hb1⟩
            have hbel1 := hbel.trans (hb1.mono hsz)
            clear hown1 hb1
            go_wp2
            refine bodyPost_ret (v := .tuple #[.slice none 0 0, .int .i64 0, .int .i64 0, .int .i64 (x : Int)]) ?_ rfl (retep_err (Hres.out.trans (HG.out.symm.trans (eg_err1 Hne.out Htk1.out Hx.out))) rfl hbel1)
            simp [results, Try.results64, go_sem]

  · have hres : Pm.expS l most = ([], 0, 0, x) := by unfold Pm.expS; rw [htk]; dsimp only; rw [if_neg (by omega)]
    have hx0 : ((x : Int) == 0) = false := by simp; omega
    have Hr := Lib.hid hr; have Htk := Lib.hid htk; have Hx := Lib.hid hx; have Hres := Lib.hid hres; clear hr htk hx hres hl hm
    go_enter Try.func64, Try.ntmps64
    go_wp2_with fail
    refine (prtake_err A0 n c0 l _ Hr.out (by omega) x Htk.out Hx.out).mono ?_
    rintro e w1 ⟨A1, c1, rfl, hown1, hb1⟩
    clear hown1
    go_wp2
    refine bodyPost_ret (v := .tuple #[.slice none 0 0, .int .i64 0, .int .i64 0, .int .i64 (x : Int)]) ?_ rfl (retep_err Hres.out rfl hb1)
    simp [results, Try.results64, go_sem]
end Go.Proofs.Ytplkjljhpmldfaa

/-
  The document's Expand and Marks (threshingref03).
-/
namespace Go.Proofs.Ytplkjljhpmldfaa
open Go.RowKit

/-- Bytes and an error. -/
def RetY (base : Nat) (w : World) (out : List UInt8) (x : Nat) (e : Ending) (w' : World) : Prop :=
  ∃ A c, e = .returned (.tuple #[.slice A out.length c, .int .i64 (x : Int)]) ∧ Own w' 5 base A c out ∧ Below base w w'

set_option maxRecDepth 100000 in
/-- the document's Expand -/
theorem rExpand_c (A0 : Option Addr) (n c0 : Nat) (l : List UInt8) (most : Int) (w : World) (hr : Rb w w.heap.size A0 n c0 l) (hn : n ≤ 900000) (hm : I64 most) (hmost : most ≤ 2000000) :
    Calls Try.prog 41 #[.slice A0 n c0, .int .i64 most] w (RetY w.heap.size w (Pm.expS l most).1 (Pm.expS l most).2.2.2) := by
  have h := rexpand_c A0 n c0 l most w hr hn hm hmost
  obtain ⟨X, hX⟩ : ∃ X, X = Pm.expS l most := ⟨_, rfl⟩
  rw [← hX] at h ⊢
  obtain ⟨out, p, k, x⟩ := X
  unfold RetEp at h
  dsimp only at h ⊢
  have H := Lib.hid h
  clear h hX hr hm hmost
  go_enter Try.func41, Try.ntmps41
  go_wp2_with fail
  refine H.out.mono ?_
  rintro e w1 ⟨A1, c1, rfl, hown1, hb1⟩
  go_wp2
  go_ret2
  exact ⟨A1, c1, rfl, hown1, hb1⟩

end Go.Proofs.Ytplkjljhpmldfaa
