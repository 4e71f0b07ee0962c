import Derived.Test.YtkekmokdlgocaaaGreatDoorJW2
import Derived.Maps.GroupsBeside
set_option maxRecDepth 100000
set_option maxHeartbeats 4000000
namespace Go.Proofs.YtkekmokdlgocaaaGreatDoor.Cht
open Go.RowKit Go.Maps Go.ChangeShapes
theorem _root_.Go.Proofs.YtkekmokdlgocaaaGreatDoor.Own.same {w w' : World} {e : TypeId} {base c : Nat} {A : Option Addr} {l : List UInt8} (h : Own w e base A c l) (hs : ∀ g, ob A = some g → w'.heap[g]? = w.heap[g]?) : Own w' e base A c l := by
 unfold Own at h ⊢
 refine ⟨h.1, ?_⟩
 rcases h.2 with hn | ⟨g, cap, cur, hv, hbg, hg, rest⟩
 ·exact .inl hn
 ·refine .inr ⟨g, cap, cur, hv, hbg, (hs g ?_).trans hg, rest⟩
  injection hv with hA
  rw [hA]
  rfl
end Go.Proofs.YtkekmokdlgocaaaGreatDoor.Cht
namespace Go.Proofs.YtkekmokdlgocaaaGreatDoor.Cht
open Go.RowKit
theorem _root_.Go.Proofs.YtkekmokdlgocaaaGreatDoor.U8.wpAppAtN {P : Program} {t e s : TypeId} (u : U8 P t e s) {w : World} {ops : Array Oper} {rest : List Oper} {o : Oper} {a : Act} {Q : Exit → Act → World → Prop} (hgd : o.guard = none) (x y : Operand)
  (ho : o.op = .call { callee := .builtin .append, args := #[x, y], argTypes := #[t, t] })
  {base c B m d n N : Nat} {A D : Option Addr} {l r : List UInt8} (hn : l.length = n) (hN : (l ++ r).length = N) (hx : a.eval x = .slice A n c) (hy : a.eval y = .slice D m d) (hown : Own w e base A c l) (hr : Rb w B D m d r)
  (hsm : l.length + r.length ≤ 140737488355328) (hbase : base ≤ w.heap.size)
  (h : ∀ A' c' w', Own w' e base A' c' (l ++ r) → Grows w w' A A' → wpList P ops Q rest (a.put o.dst (.slice A' N c')) w') : wpList P ops Q (o :: rest) a w := by
 subst hn hN
 exact u.wpAppAt hgd x y ho hx hy hown hr hsm hbase h
def CopRel (W0 : World) (base : Nat) (A : Option Addr) (OUT : List UInt8) (K d olen : Nat) (F : Option Addr) (c2 : Nat) (R2 : List UInt8) (to tj : Value) (W : World) : Prop :=
 ∃ A1 c1 o1 j, to = .slice A1 (o1 : List UInt8).length c1 ∧ tj = .int .u64 ((j : Nat) : Int) ∧ j ≤ K ∧ o1.length = olen + j ∧ Hid (Own W 5 base A1 c1 o1) ∧ Hid (Pm.copyN (K - j) d o1 = OUT) ∧ Hid (Grows W0 W A A1) ∧ base ≤ W.heap.size ∧ Hid (Own W 5 base F c2 R2) ∧ Hid (∀ g, ob A1 = some g → ob F ≠ some g)
theorem prtake_ok (A : Option Addr) (n c : Nat) (l : List UInt8) (w : World) (hr : Rb w w.heap.size A n c l) (hn : n ≤ 1000000) (a s : Nat) (h : Vm.tk l = (a, s, 0)) :
  Calls Tryz.prog 116 #[.slice A n c] w fun e w' => ∃ A1 c1, e = .returned (.tuple #[.int .u64 (a : Int), .slice A1 (l.drop s).length c1, .int .i64 0]) ∧ Own w' 5 w.heap.size A1 c1 (l.drop s) ∧ Below w.heap.size w w' := by
 have h' := rtake_c A n c l w hr hn
 rw [takeS_ok l a s h] at h'
 exact h'
theorem prtake_err (A : Option Addr) (n c : Nat) (l : List UInt8) (w : World) (hr : Rb w w.heap.size A n c l) (hn : n ≤ 1000000) (x : Nat) (h : Vm.tk l = (0, 0, x)) (hx : x = 2 ∨ x = 3) :
  Calls Tryz.prog 116 #[.slice A n c] w (RetT w.heap.size w (0, [], x)) := by
 have h' := rtake_c A n c l w hr hn
 rw [takeS_err l x h hx] at h'
 exact h'
def RetEp (base : Nat) (w : World) (R : List UInt8 × Nat × Nat × Nat) (e : Ending) (w' : World) : Prop :=
 ∃ A c, e = .returned (.tuple #[.slice A R.1.length c, .int .i64 (R.2.1 : Int), .int .i64 (R.2.2.1 : Int), .int .i64 (R.2.2.2 : Int)]) ∧ Own w' 5 base A c R.1 ∧ Below base w w'
theorem retep_err {base : Nat} {w w' : World} {R : List UInt8 × Nat × Nat × Nat} {x : Nat} {z : Int} (h : R = ([], 0, 0, x)) (hz : z = (x : Int)) (hb : Below base w w') : RetEp base w R (.returned (.tuple #[.slice none 0 0, .int .i64 0, .int .i64 0, .int .i64 z])) w' := by
 subst h hz
 exact ⟨none, 0, rfl, Own.nil _ _ _, hb⟩
def RexpRel (base : Nat) (w : World) (S n : Nat) (RES : List UInt8 × Nat × Nat × Nat) (t0 t10 t11 t12 : Value) (wr : World) : Prop :=
 ∃ D m dc r A c out p k, t0 = .slice D m dc ∧ t10 = .slice A (out : List UInt8).length c ∧ t11 = .int .i64 ((p : Nat) : Int) ∧ t12 = .int .i64 ((k : Nat) : Int) ∧
  Hid (Rb wr wr.heap.size D m dc r) ∧ Hid (Own wr 5 base A c out) ∧ out.length ≤ S ∧ p + k + m ≤ n ∧ Hid (Pm.expGo S out r p k = RES) ∧ Below base w wr ∧ base ≤ wr.heap.size
theorem rexpand_c (A0 : Option Addr) (n c0 : Nat) (l : List UInt8) (most : Int) (w : World) (hr : Rb w w.heap.size A0 n c0 l) (hn : n ≤ 900000) (hm : I64 most) (hmost : most ≤ 2000000) :
  Calls Tryz.prog 157 #[.slice A0 n c0, .int .i64 most] w (RetEp w.heap.size w (Pm.expS l most)) := by
 have hl := hr.len
 rcases tk_cases l with ⟨S, s, htk, hS, hs, hs10⟩ | ⟨x, htk, hx⟩
 ·by_cases h1 : most < 0 ∨ most < (S : Int)
  ·have hres : Pm.expS l most = ([], 0, 0, 5) := by unfold Pm.expS; rw [htk]; dsimp only; rw [if_pos rfl, if_pos h1]
   have Hr := ek hr; have Htk := ek htk; have Hl := ek hl; have Hm := ek hm; have HS := ek hS; have Hres := ek hres; clear hr htk hl hm hS hres
   by_cases h2 : most < 0
   ·clear h1
    go_enter Tryz.func157, Tryz.ntmps157
    go_wp2_with fail
    refine (prtake_ok A0 n c0 l _ Hr.out (by omega) S s Htk.out).mono ?_
    rintro e w1 ⟨A1, c1, rfl, hown1, hb1⟩
    clear hown1
    go_wp2
    refine bodyPost_ret (v := .tuple #[.slice none 0 0, .int .i64 0, .int .i64 0, .int .i64 5]) ?_ rfl (retep_err Hres.out rfl hb1)
    simp [results, Tryz.results157, go_sem]
   ·have h3 : 0 ≤ most := by omega
    have h4 : most < (S : Int) := by omega
    have hw : IntKind.u64.wrap most = most := by have := Hm.out; unfold I64 at this; rw [IntKind.wrap_u64]; omega
    clear h1 h2
    go_enter Tryz.func157, Tryz.ntmps157
    go_wp2_with fail
    refine (prtake_ok A0 n c0 l _ Hr.out (by omega) S s Htk.out).mono ?_
    rintro e w1 ⟨A1, c1, rfl, hown1, hb1⟩
    clear hown1
    go_wp2
    refine bodyPost_ret (v := .tuple #[.slice none 0 0, .int .i64 0, .int .i64 0, .int .i64 5]) ?_ rfl (retep_err Hres.out rfl hb1)
    simp [results, Tryz.results157, go_sem]
  ·have h3 : 0 ≤ most := by omega
   have h4 : (S : Int) ≤ most := by omega
   have hS2 : S ≤ 2000000 := by omega
   have hw : IntKind.u64.wrap most = most := by unfold I64 at hm; rw [IntKind.wrap_u64]; omega
   obtain ⟨RES, hRES⟩ : ∃ RES, RES = Pm.expGo S [] (l.drop s) 0 0 := ⟨_, rfl⟩
   have hres : Pm.expS l most = RES := by unfold Pm.expS; rw [htk]; dsimp only; rw [if_pos rfl, if_neg h1, hRES]
   have hdl : (l.drop s).length = n - s := by rw [List.length_drop, hl]
   have Hr := ek hr; have Htk := ek htk; have Hl := ek hl; have Hres := ek hres; have HRES := ek hRES; have Hdl := ek hdl; clear hr htk hl hm hS hres hRES h1 hdl
   go_enter Tryz.func157, Tryz.ntmps157
   go_wp2_with fail
   refine (prtake_ok A0 n c0 l _ Hr.out (by omega) S s Htk.out).mono ?_
   rintro e w1 ⟨A1, c1, rfl, hown1, hb1⟩
   have hs1 := hb1.size
   rw [Hdl.out]
   have HrD := ek ((rb_len hown1.rb Hdl.out).more (B' := (w1.alloc (.cells #[] 5)).heap.size) (by simp))
   have HrD1 := ek (((rb_len hown1.rb Hdl.out).alloc (Nat.le_refl _) (.cells #[] 5)).more (B' := (w1.alloc (.cells #[] 5)).heap.size) (by simp))
   have hb01 : Below w.heap.size w (w1.alloc (.cells #[] 5)) := hb1.alloc hs1 _
   clear hown1 HrD
   obtain ⟨m0, hm0⟩ : ∃ m0, m0 = n - s := ⟨_, rfl⟩
   have hm0n : m0 ≤ n := by omega
   rw [← hm0] at HrD1 ⊢
   clear hm0
   go_wp2
   go_loopw [0, 10, 11, 12] (fun t0 t10 t11 t12 wr => RexpRel w.heap.size w S n RES t0 t10 t11 t12 wr) (fun t0 _ _ _ _ => slen t0)
   case atStart => exact ⟨A1, m0, c1, l.drop s, _, 0, [], 0, 0, rfl, rfl, rfl, rfl, HrD1, ek ((Own.made0 w1 _).mono hs1), by simp, by omega, HRES.out.symm, hb01, by simp; omega⟩
   case round =>
    obtain ⟨D, m, dc, r, A, c, out, p, k, rfl, rfl, rfl, rfl, HrD, HO, hoS, hpk, HG, hbel, hsz⟩ := hrel
    have hrl := HrD.out.len
    have Hrl := ek hrl; clear hrl
    obtain ⟨o, ho⟩ : ∃ o, o = out.length := ⟨_, rfl⟩
    rw [← ho] at hoS ⊢
    have Ho := ek ho; clear ho
    by_cases hmz : m = 0
    ·subst hmz
     obtain rfl : r = [] := List.eq_nil_of_length_eq_zero Hrl.out
     by_cases hfew : o < S
     ·have hfew' : (o : Int) < (S : Int) := by omega
      go_wp2
      refine bodyPost_ret (v := .tuple #[.slice none 0 0, .int .i64 0, .int .i64 0, .int .i64 3]) ?_ rfl (retep_err (Hres.out.trans (HG.out.symm.trans (eg_nil_few (by rw [← Ho.out]; exact hfew)))) rfl hbel)
      simp [results, Tryz.results157, go_sem]
     ·have hfew' : (S : Int) ≤ (o : Int) := by omega
      have hR := Hres.out.trans (HG.out.symm.trans (eg_nil (by rw [← Ho.out]; exact hfew)))
      have HR := ek hR; clear hR
      go_wp2
      refine bodyPost_ret (v := .tuple #[.slice A o c, .int .i64 (p : Int), .int .i64 (k : Int), .int .i64 0]) ?_ rfl ⟨A, c, ?_, ?_, hbel⟩
      ·simp [results, Tryz.results157, go_sem]
      ·rw [HR.out]; dsimp only; rw [← Ho.out]; rfl
      ·rw [HR.out]; exact HO.out
    ·have hmp : 0 < m := by omega
     have hne : r ≠ [] := by intro e; rw [e] at Hrl; have := Hrl.out; simp at this; omega
     rcases tk_cases r with ⟨a, s1, htk1, ha, hs1', _⟩ | ⟨x, htk1, hx⟩
     ·have hs1p : 1 ≤ s1 := by have := Pm.tk_pos r (by rw [htk1]); rw [htk1] at this; exact this
      have hs1m : s1 ≤ m := by have := Hrl.out; omega
      have Htk1 := ek htk1
      clear hne htk1
      by_cases h2 : a % 2 = 0
      ·have h2' : (((a : Int) % 2) == 0) = true := by simp; omega
       have H2 := ek h2; clear h2
       go_wp2_with fail
       refine (prtake_ok D m dc r _ HrD.out (by omega) a s1 Htk1.out).mono ?_
       rintro e w2 ⟨A1, c1, rfl, hown1, hb1⟩
       have hs1z := hb1.size
       have hbel1 := hbel.trans (hb1.mono hsz)
       have HO1 := ek (HO.out.keep hb1)
       have Hob : Hid (∀ g, ob A = some g → g < wr.heap.size) := ek (fun g h => (own_ob HO.out g h).2)
       obtain ⟨R, hR⟩ : ∃ R, R = r.drop s1 := ⟨_, rfl⟩
       obtain ⟨mR, hmR⟩ : ∃ mR, mR = m - s1 := ⟨_, rfl⟩
       have hRl : (r.drop s1).length = mR := by rw [List.length_drop, Hrl.out, hmR]
       rw [hRl]
       rw [← hR] at hown1 hRl
       have HRo := ek hown1; have HR := ek hR; have HmR := ek hmR; have HRl := ek hRl
       have hmRm : mR + 1 ≤ m := by omega
       clear hown1 hb1 hR hmR hRl HO
       by_cases hsh : mR < a / 2 + 1
       ·have hsh' : (mR : Int) < (a : Int) / 2 + 1 := by omega
        go_wp2
        refine bodyPost_ret (v := .tuple #[.slice none 0 0, .int .i64 0, .int .i64 0, .int .i64 2]) ?_ rfl (retep_err (Hres.out.trans (HG.out.symm.trans (eg_short Htk1.out H2.out (by rw [List.length_drop, Hrl.out, ← HmR.out]; exact hsh)))) rfl hbel1)
        simp [results, Tryz.results157, go_sem]
       ·have hsh' : (a : Int) / 2 + 1 ≤ (mR : Int) := by omega
        obtain ⟨K, hK⟩ : ∃ K, K = a / 2 + 1 := ⟨_, rfl⟩
        have hKz : (a : Int) / 2 + 1 = (K : Int) := by omega
        have hKm : K ≤ mR := by omega
        have hK1 : 1 ≤ K := by omega
        have hgo := fun ho => eg_over (p := p) (k := k) (n := S) (out := out) Htk1.out H2.out (by rw [List.length_drop, Hrl.out, ← HmR.out]; exact hsh) ho
        have hgl := fun ho => eg_lit (p := p) (k := k) (n := S) (out := out) Htk1.out H2.out (by rw [List.length_drop, Hrl.out, ← HmR.out]; exact hsh) ho
        rw [← hK, ← Ho.out] at hgo hgl
        rw [← HR.out] at hgl
        have Hgo := ek hgo; have Hgl := ek hgl
        clear hgo hgl hsh
        obtain ⟨E, hE, hrE⟩ := bty.upto_ (rb_len HRo.out.rb HRl.out) (k := K) hKm (K : Int) rfl
        have HE := ek hrE
        have Hout : Hid (out.length = o) := Ho.out.symm
        have hlr : (R.take K).length = K := by rw [List.length_take, HRl.out]; omega
        have Hlr := ek hlr
        have ha2 : a ≤ 2000000 := by omega
        have hlen3 : (out ++ R.take K).length = o + K := by rw [List.length_append, Hlr.out, Hout.out]
        have Hlen3 := ek hlen3
        clear hrE hK hlr hlen3
        go_wp2_with (at_builtin; go_must (refine bty.wpAppAtN rfl (.tmp 60) (.tmp 65) rfl (l := out) (r := R.take K) Hout.out Hlen3.out rfl rfl HO1.out HE.out ?hs1 ?hs2 ?_))
        case hs1 => rw [Hlr.out, Hout.out]; omega
        case hs2 => omega
        intro A3 c3 w3 hown3 hg3
        have hbel3 := hbel1.trans (hg3.below HO1.out (by omega))
        have HRo3 := ek (Own.same HRo.out fun g hg => hg3.1.block g (own_ob HRo.out g hg).2 (fun e => by
         have h5 := own_ob HRo.out g hg
         have h6 := Hob.out g e.symm
         omega))
        have hs3 := hg3.size
        have HO3 := ek hown3
        clear hown3 hg3 HO1 HRo
        obtain ⟨F, hF, hrF⟩ := bty.from_ (rb_len HRo3.out.rb HRl.out) (k := K) hKm (K : Int) rfl
        have HF := ek hrF; clear hrF
        by_cases hov : S < o + K
        ·have hov' : (S : Int) < (o : Int) + (K : Int) := by omega
         go_wp2
         refine bodyPost_ret (v := .tuple #[.slice none 0 0, .int .i64 0, .int .i64 0, .int .i64 3]) ?_ rfl (retep_err (Hres.out.trans (HG.out.symm.trans (Hgo.out hov))) rfl hbel3)
         simp [results, Tryz.results157, go_sem]
        ·have hov' : (o : Int) + (K : Int) ≤ (S : Int) := by omega
         have HG4 := ek ((Hgl.out hov).symm.trans HG.out)
         go_wp2
         go_roundw
         case rel => exact ⟨F, mR - K, c1 - K, R.drop K, A3, c3, out ++ R.take K, p + 1, k, rfl, by rw [Hlen3.out], by go_num, rfl, HF, HO3, by rw [Hlen3.out]; omega, by omega, HG4, hbel3, hbel3.size⟩
         case measure => simp [slen]; omega
      ·have hodd : a % 2 = 1 := by omega
       have h2' : (((a : Int) % 2) == 0) = false := by simp; omega
       have Hodd := ek hodd; clear h2 hodd
       go_wp2_with fail
       refine (prtake_ok D m dc r _ HrD.out (by omega) a s1 Htk1.out).mono ?_
       rintro e w2 ⟨A1, c1, rfl, hown1, hb1⟩
       have hs1z := hb1.size
       have hbel1 := hbel.trans (hb1.mono hsz)
       have HO1 := ek (HO.out.keep hb1)
       have Hob : Hid (∀ g, ob A = some g → g < wr.heap.size) := ek (fun g h => (own_ob HO.out g h).2)
       obtain ⟨R, hR⟩ : ∃ R, R = r.drop s1 := ⟨_, rfl⟩
       obtain ⟨mR, hmR⟩ : ∃ mR, mR = m - s1 := ⟨_, rfl⟩
       have hRl : (r.drop s1).length = mR := by rw [List.length_drop, Hrl.out, hmR]
       rw [hRl]
       rw [← hR] at hown1 hRl
       have HRo := ek hown1; have HR := ek hR; have HmR := ek hmR; have HRl := ek hRl
       have hmRm : mR + 1 ≤ m := by omega
       clear hown1 hb1 hR hmR hRl HO
       rcases tk_cases R with ⟨d, s2, htk2, hd, hs2, _⟩ | ⟨x, htk2, hx⟩
       ·have Htk2 := ek htk2
        have hs2m : s2 ≤ mR := by have := HRl.out; omega
        clear htk2 hs2
        obtain ⟨K, hK⟩ : ∃ K, K = a / 2 + 4 := ⟨_, rfl⟩
        have hgb := fun hb => eg_bad (p := p) (k := k) (n := S) (out := out) Htk1.out Hodd.out (by rw [← HR.out]; exact Htk2.out) hb
        have hgm := fun hb => eg_mat (p := p) (k := k) (n := S) (out := out) Htk1.out Hodd.out (by rw [← HR.out]; exact Htk2.out) hb
        rw [← hK, ← Ho.out] at hgb hgm
        rw [← HR.out] at hgm
        have Hgb := ek hgb; have Hgm := ek hgm; have HK := ek hK
        have hKz : (a : Int) / 2 + 4 = (K : Int) := by omega
        have HKz := ek hKz
        clear hgb hgm hK hKz
        go_wp2_with fail
        refine (prtake_ok A1 mR c1 R _ (rb_len HRo.out.rb HRl.out) (by omega) d s2 Htk2.out).mono ?_
        rintro e w3 ⟨A2, c2, rfl, hown2, hb2⟩
        have hs2z := hb2.size
        have hbel2 := hbel1.trans (hb2.mono (by omega))
        have HO2 := ek (HO1.out.keep hb2)
        obtain ⟨R2, hR2⟩ : ∃ R2, R2 = R.drop s2 := ⟨_, rfl⟩
        obtain ⟨m2, hm2⟩ : ∃ m2, m2 = mR - s2 := ⟨_, rfl⟩
        have hR2l : (R.drop s2).length = m2 := by rw [List.length_drop, HRl.out, hm2]
        rw [hR2l]
        rw [← hR2] at hown2 hR2l
        have HRo2 := ek hown2; have HR2 := ek hR2; have HR2l := ek hR2l
        have hm2m : m2 ≤ mR := by omega
        clear hown2 hb2 hR2 hm2 hR2l HRo
        by_cases b1 : d = 0
        ·have b1' : ((d : Int) == 0) = true := by simp; omega
         have B1 := ek b1; clear b1
         go_wp2
         refine bodyPost_ret (v := .tuple #[.slice none 0 0, .int .i64 0, .int .i64 0, .int .i64 3]) ?_ rfl (retep_err (Hres.out.trans (HG.out.symm.trans (Hgb.out (.inl B1.out)))) rfl hbel2)
         simp [results, Tryz.results157, go_sem]
        ·have b1' : ((d : Int) == 0) = false := by simp; omega
         have B1 := ek b1; clear b1
         by_cases b2 : 4096 < d
         ·have b2' : (4096 : Int) < (d : Int) := by omega
          go_wp2
          refine bodyPost_ret (v := .tuple #[.slice none 0 0, .int .i64 0, .int .i64 0, .int .i64 3]) ?_ rfl (retep_err (Hres.out.trans (HG.out.symm.trans (Hgb.out (.inr (.inl b2))))) rfl hbel2)
          simp [results, Tryz.results157, go_sem]
         ·have b2' : (d : Int) ≤ 4096 := by omega
          by_cases b3 : o < d
          ·have b3' : (o : Int) < (d : Int) := by omega
           go_wp2
           refine bodyPost_ret (v := .tuple #[.slice none 0 0, .int .i64 0, .int .i64 0, .int .i64 3]) ?_ rfl (retep_err (Hres.out.trans (HG.out.symm.trans (Hgb.out (.inr (.inr (.inl b3)))))) rfl hbel2)
           simp [results, Tryz.results157, go_sem]
          ·have b3' : (d : Int) ≤ (o : Int) := by omega
           by_cases b4 : S - o < K
           ·have b4' : (S : Int) - (o : Int) < (a : Int) / 2 + 4 := by have := HKz.out; omega
            go_wp2
            refine bodyPost_ret (v := .tuple #[.slice none 0 0, .int .i64 0, .int .i64 0, .int .i64 3]) ?_ rfl (retep_err (Hres.out.trans (HG.out.symm.trans (Hgb.out (.inr (.inr (.inr b4)))))) rfl hbel2)
            simp [results, Tryz.results157, go_sem]
           ·have b4' : (a : Int) / 2 + 4 ≤ (S : Int) - (o : Int) := by have := HKz.out; omega
            have HG4 := ek ((Hgm.out (by have := B1.out; omega)).symm.trans HG.out)
            have hoK : o + K ≤ S := by omega
            have hd1 : 1 ≤ d := by have := B1.out; omega
            have hd2 : d ≤ 4096 := by omega
            have hd3 : d ≤ o := by omega
            have ha2 : a ≤ 4000000 := by have := HKz.out; omega
            obtain ⟨OUT, hOUT⟩ : ∃ OUT, OUT = Pm.copyN K d out := ⟨_, rfl⟩
            rw [← hOUT] at HG4
            have hOl : OUT.length = o + K := by rw [hOUT, copyN_len, ← Ho.out]
            have HOUT := ek hOUT; have HOl := ek hOl
            clear hOUT hOl b2 b3 b4
            have q2 : decide ((4096 : Int) < (d : Int)) = false := by simp; omega
            have q3 : decide (o < d) = false := by simp; omega
            have q4 : decide ((o : Int) < (d : Int)) = false := by simp; omega
            have q5 : decide ((S : Int) - (o : Int) < (a : Int) / 2 + 4) = false := by simp; omega
            go_wp2
            have Hd3 := ek hd3; have HoK := ek hoK
            have hd5 : d ≤ 1000000 := by omega
            clear hd3 hoK hd2 b2' b3' b4'
            go_loopw [10, 19] (fun to tj W => CopRel w3 w.heap.size A OUT K d o A2 c2 R2 to tj W) (fun _ tj _ => K - (intOf tj).toNat)
            case atStart => exact ⟨A, c, out, 0, by rw [Ho.out], rfl, by omega, by rw [← Ho.out]; rfl, HO2, ek (by rw [HOUT.out, Nat.sub_zero]), ek (Grows.refl _ _), by omega, ek (HRo2.out.mono (by omega)), ek (fun q g h => by have h7 := own_ob HRo2.out q h; have h8 := Hob.out q g; omega)⟩
            case round =>
             obtain ⟨A3, c3, o1, j, rfl, rfl, hj, hlen, HOw, HC, HGr, hsz3, HF3, HNe⟩ := hrel
             have hs3z := HGr.out.size
             have Hlen := ek hlen; clear hlen
             by_cases hjK : j < K
             ·have hjK' : (j : Int) < (a : Int) / 2 + 4 := by have := HKz.out; omega
              have hpos : 0 < o1.length := by have := Hlen.out; have := Hd3.out; omega
              have hdl : d ≤ o1.length := by have := Hlen.out; have := Hd3.out; omega
              have hls : o1.length ≤ 2000000 := by have := Hlen.out; have := HoK.out; omega
              obtain ⟨g, rfl, hgb⟩ := HOw.out.at_base hpos
              obtain ⟨x, hx⟩ : ∃ x, o1[o1.length - d]? = some x := ⟨_, List.getElem?_eq_getElem (by omega)⟩
              have hc := HOw.out.cellAt _ x hx
              have hcopy : Hid (Pm.copyN (K - (j + 1)) d (o1 ++ [x]) = OUT) := by
               have h1 := HC.out
               rw [show K - j = (K - (j + 1)) + 1 by omega, Pm.copyN, getD_of' hx] at h1
               exact h1
              have Hx := ek hx; clear hx HC
              have p1 : (0 : Int) ≤ (o1.length : Int) - (d : Int) := by omega
              have p2 : (o1.length : Int) - (d : Int) < (o1.length : Int) := by omega
              have e1 : ((o1.length : Int) - (d : Int)).toNat = o1.length - d := by omega
              go_wp2_with (at_builtin; go_must (refine bty.wpAppAt rfl (.tmp 114) (.tmp 123) rfl (l := o1) (r := [x]) rfl rfl (HOw.out.alloc _) (Rb.one _ _ x) ?hs1 ?hs2 ?_))
              case hs1 => simp; omega
              case hs2 => simp; omega
              intro A4 c4 w4 hown4 hg4
              have hg5 := Grows.pre (ej _ _) hg4
              have HO4 := ek hown4
              have HF4 := ek (Own.same HF3.out fun g' hg' => hg5.1.block g' (own_ob HF3.out g' hg').2 (fun e => HNe.out g' e.symm hg'))
              have HNe4 : Hid (∀ g', ob A4 = some g' → ob A2 ≠ some g') := ek (fun g' hq hF => by
               rcases hg5.2 with e | ⟨g2, e, hge⟩
               ·exact HNe.out g' (e ▸ hq) hF
               ·rw [e] at hq; cases hq
                have := (own_ob HF3.out _ hF).2
                omega)
              have HG5 := ek (HGr.out.trans hg5)
              have hs5 := hg5.size
              clear hown4 hg4 hg5 HOw HF3 HNe HGr hc
              go_wp2
              go_roundw
              case rel => exact ⟨A4, c4, o1 ++ [x], j + 1, by simp, by go_num, by omega, by rw [List.length_append, Hlen.out]; simp; omega, HO4, hcopy, HG5, by omega, HF4, HNe4⟩
              case measure => simp [intOf]; omega
             ·have hjK' : (a : Int) / 2 + 4 ≤ (j : Int) := by have := HKz.out; omega
              obtain rfl : j = K := by omega
              have h1 := HC.out
              rw [Nat.sub_self] at h1
              have h2 : o1 = OUT := h1
              subst h2
              have hbel4 := hbel2.trans (HGr.out.below HO2.out (by omega))
              have HFr := ek (rb_len HF3.out.rb HR2l.out)
              have hoK2 : (o : Int) + (j : Int) ≤ (S : Int) := by have := HoK.out; omega
              have hol := HOl.out
              have Hol := ek hol
              rw [hol]
              clear hol
              go_wp2
              go_roundw
              case rel => exact ⟨A2, m2, c2, R2, A3, c3, o1, p, k + 1, rfl, by rw [Hol.out], rfl, by go_num, HFr, HOw, by rw [Hol.out]; exact HoK.out, by omega, by rw [HR2.out]; exact HG4, hbel4, hbel4.size⟩
              case measure => simp [slen]; omega
       ·have hx0 : ((x : Int) == 0) = false := by simp; omega
        have hx1 : 2 ≤ x := by omega
        have Htk2 := ek htk2; have Hx := ek hx
        clear htk2 hx
        go_wp2_with fail
        refine (prtake_err A1 mR c1 R _ (rb_len HRo.out.rb HRl.out) (by omega) x Htk2.out Hx.out).mono ?_
        rintro e w3 ⟨A2, c2, rfl, hown2, hb2⟩
        have hbel2 := hbel1.trans (hb2.mono (by omega))
        clear hown2 hb2
        go_wp2
        refine bodyPost_ret (v := .tuple #[.slice none 0 0, .int .i64 0, .int .i64 0, .int .i64 (x : Int)]) ?_ rfl (retep_err (Hres.out.trans (HG.out.symm.trans (eg_err2 Htk1.out Hodd.out (by rw [← HR.out]; exact Htk2.out) Hx.out))) rfl hbel2)
        simp [results, Tryz.results157, go_sem]
     ·have hx0 : ((x : Int) == 0) = false := by simp; omega
      have hx1 : 2 ≤ x := by omega
      have Htk1 := ek htk1; have Hx := ek hx; have Hne := ek hne
      clear htk1 hx hne
      go_wp2_with fail
      refine (prtake_err D m dc r _ HrD.out (by omega) x Htk1.out Hx.out).mono ?_
      rintro e w2 ⟨A1, c1, rfl, hown1, hb1⟩
      have hbel1 := hbel.trans (hb1.mono hsz)
      clear hown1 hb1
      go_wp2
      refine bodyPost_ret (v := .tuple #[.slice none 0 0, .int .i64 0, .int .i64 0, .int .i64 (x : Int)]) ?_ rfl (retep_err (Hres.out.trans (HG.out.symm.trans (eg_err1 Hne.out Htk1.out Hx.out))) rfl hbel1)
      simp [results, Tryz.results157, go_sem]
 ·have hres : Pm.expS l most = ([], 0, 0, x) := by unfold Pm.expS; rw [htk]; dsimp only; rw [if_neg (by omega)]
  have hx0 : ((x : Int) == 0) = false := by simp; omega
  have Hr := ek hr; have Htk := ek htk; have Hx := ek hx; have Hres := ek hres; clear hr htk hx hres hl hm
  go_enter Tryz.func157, Tryz.ntmps157
  go_wp2_with fail
  refine (prtake_err A0 n c0 l _ Hr.out (by omega) x Htk.out Hx.out).mono ?_
  rintro e w1 ⟨A1, c1, rfl, hown1, hb1⟩
  clear hown1
  go_wp2
  refine bodyPost_ret (v := .tuple #[.slice none 0 0, .int .i64 0, .int .i64 0, .int .i64 (x : Int)]) ?_ rfl (retep_err Hres.out rfl hb1)
  simp [results, Tryz.results157, go_sem]
def RetY (base : Nat) (w : World) (out : List UInt8) (x : Nat) (e : Ending) (w' : World) : Prop :=
 ∃ A c, e = .returned (.tuple #[.slice A out.length c, .int .i64 (x : Int)]) ∧ Own w' 5 base A c out ∧ Below base w w'
theorem rExpand_c (A0 : Option Addr) (n c0 : Nat) (l : List UInt8) (most : Int) (w : World) (hr : Rb w w.heap.size A0 n c0 l) (hn : n ≤ 900000) (hm : I64 most) (hmost : most ≤ 2000000) :
  Calls Tryz.prog 117 #[.slice A0 n c0, .int .i64 most] w (RetY w.heap.size w (Pm.expS l most).1 (Pm.expS l most).2.2.2) := by
 have h := rexpand_c A0 n c0 l most w hr hn hm hmost
 obtain ⟨X, hX⟩ : ∃ X, X = Pm.expS l most := ⟨_, rfl⟩
 rw [← hX] at h ⊢
 obtain ⟨out, p, k, x⟩ := X
 unfold RetEp at h
 dsimp only at h ⊢
 have H := ek h
 clear h hX hr hm hmost
 go_enter Tryz.func117, Tryz.ntmps117
 go_wp2_with fail
 refine H.out.mono ?_
 rintro e w1 ⟨A1, c1, rfl, hown1, hb1⟩
 go_wp2
 go_ret2
 exact ⟨A1, c1, rfl, hown1, hb1⟩
theorem make_u64 (w : World) (S : Nat) (hS : S ≤ 2147483647) :
  (Instr.makeSlice 22 (.int .i64 0) (.int .u64 (S : Int))).run Tryz.prog w = .ok (.slice (some ⟨w.heap.size, 0,none⟩) 0 S) (w.alloc (.cells (zrow S) 5)) := by
 obtain ⟨i, hi, hz0, hz1, hz2⟩ := info_parts bty.inf
 have h := run_make (P := Tryz.prog) w 22 5 i (.int .u8 0) bty.sl hi hz0 .i64 .u64 0 (S : Int) (by omega) (by omega) (by rw [hz2]; omega) (by omega)
 simp only [Int.toNat_natCast, Int.toNat_zero, hz1, Nat.mul_one] at h
 rw [h]
 have e1 : madeCells (Value.int IntKind.u8 0).cells S = zrow S := by
  apply Array.toList_inj.1
  have hcells : (Value.int IntKind.u8 0).cells = #[.int .u8 0] := rfl
  rw [hcells, toList_madeCells_one]
  simp [zrow]
 rw [e1]
def ExpdRel (base S : Nat) (w : World) (RES : List UInt8 × Nat × Nat × Nat) (to tr : Value) (wr : World) : Prop :=
 ∃ A c o r D m dc p k, to = .slice A (o : List UInt8).length c ∧ tr = .slice D m dc ∧ Hid (Own wr 5 base A c o) ∧ Hid (Rb wr base D m dc r) ∧ m ≤ 900000 ∧ o.length ≤ S ∧ Hid (Pm.expGo S o r p k = RES) ∧ Below base w wr ∧ base ≤ wr.heap.size
theorem expanded_c (S m dc p k P K' : Nat) (D : Option Addr) (r OUT : List UInt8) (w : World) (hr : Rb w w.heap.size D m dc r) (hm : m ≤ 900000) (hS : S ≤ 2147483647) (hres : Pm.expGo S [] r 0 0 = (OUT, P, K', 0)) :
  Calls Tryz.prog 185 #[surV S (.slice D m dc) p k] w (RetB w.heap.size w OUT) := by
 have hmk := make_u64 (w.alloc (.cells #[.int .u64 (S : Int), .slice D m dc, .int .i64 (p : Int), .int .i64 (k : Int)] 225)) S hS
 have Hr := ek hr; have Hres := ek hres; clear hr hres
 unfold surV
 go_enter Tryz.func185, Tryz.ntmps185
 go_wp2
 go_loopw [3, 4] (fun to tr wr => ExpdRel w.heap.size S w (OUT, P, K', 0) to tr wr) (fun _ tr _ => slen tr)
 case atStart =>
  refine ⟨some ⟨w.heap.size + 1, 0,none⟩, S, [], r, D, m, dc, 0, 0, by simp, rfl, ek ?_, ek ((Hr.out.alloc (Nat.le_refl _) _).alloc (by simp) _), hm, by simp, Hres, (ej _ _).alloc (by simp) _, by simp; omega⟩
  have h := own_zrow ((w.alloc (.cells #[.int .u64 (S : Int), .slice D m dc, .int .i64 (p : Int), .int .i64 (k : Int)] 225)).alloc (.cells (zrow S) 5)) 5 (w.heap.size + 1) 0 S ?_ (Nat.zero_le _) (by simp only [maxLen]; omega)
  ·exact h.mono (by omega)
  ·have := (heap_alloc_new (w.alloc (.cells #[.int .u64 (S : Int), .slice D m dc, .int .i64 (p : Int), .int .i64 (k : Int)] 225)) (.cells (zrow S) 5))
   simpa using this
 case round =>
  clear hmk
  obtain ⟨A, c, o, r, D, m, dc, p, k, rfl, rfl, HO, HrD, hm, hoS, HG, hbel, hsz⟩ := hrel
  have hrl := HrD.out.len
  have Hrl := ek hrl; clear hrl
  by_cases hmz : m = 0
  ·subst hmz
   obtain rfl : r = [] := List.eq_nil_of_length_eq_zero Hrl.out
   have hG := HG.out
   by_cases hfew : o.length < S
   ·rw [eg_nil_few hfew] at hG; simp at hG
   ·rw [eg_nil hfew] at hG
    obtain ⟨rfl, _⟩ : o = OUT ∧ _ := Prod.mk.inj hG
    clear hG
    go_wp2
    go_ret
    exact ⟨A, c, rfl, HO.out, hbel⟩
  ·have hmp : 0 < m := by omega
   have hne : r ≠ [] := by intro e; rw [e] at Hrl; have := Hrl.out; simp at this; omega
   rcases tk_cases r with ⟨a, s1, htk1, ha, hs1', _⟩ | ⟨x, htk1, hx⟩
   ·have hs1p : 1 ≤ s1 := by have := Pm.tk_pos r (by rw [htk1]); rw [htk1] at this; exact this
    have hs1m : s1 ≤ m := by have := Hrl.out; omega
    have hdl : (r.drop s1).length = m - s1 := by rw [List.length_drop, Hrl.out]
    by_cases h2 : a % 2 = 0
    ·by_cases hsh : m - s1 < a / 2 + 1
     ·have hG := HG.out
      rw [eg_short htk1 h2 (by rw [hdl]; exact hsh)] at hG; simp at hG
     ·by_cases hov : S < o.length + (a / 2 + 1)
      ·have hG := HG.out
       rw [eg_over htk1 h2 (by rw [hdl]; exact hsh) hov] at hG; simp at hG
      ·have hG4 := (eg_lit (p := p) (k := k) (n := S) (out := o) htk1 h2 (by rw [hdl]; exact hsh) hov).symm.trans HG.out
       obtain ⟨K, hK⟩ : ∃ K, K = a / 2 + 1 := ⟨_, rfl⟩
       have hct := takeToken_lit D m dc w.heap.size r a s1 (wr.alloc (.cells #[.bool false, .int .u64 0, .slice none 0 0, .int .u64 0] 247)) (HrD.out.alloc hsz _) (by simp; omega) (by omega) htk1 h2 (by omega)
       rw [← hK] at hG4 hct hsh hov
       have hlen : (o ++ (r.drop s1).take K).length = o.length + K := by rw [List.length_append, List.length_take, hdl]; omega
       have HG4 := ek hG4; have Hct := ek hct; have Hlen := ek hlen; have Hdl := ek hdl
       have hK1 : 1 ≤ K := by omega
       clear hG4 hct hlen htk1 h2 ha hK hne hdl HG HrD
       go_wp2_with fail
       refine Hct.out.mono ?_
       rintro e w2 ⟨E, F, rfl, hE, hF, hb2⟩
       have HE := ek hE; have HF := ek hF; clear hE hF Hct
       have hu : tokV false K (.slice E K (dc - s1)) 0 = .agg #[.bool false, .int .u64 (K : Int), .slice E K (dc - s1), .int .u64 0] := rfl
       rw [hu]
       obtain ⟨htb, hbb2, hs2'⟩ := tokbox _ _ _ _ _ _ _ hb2
       have HTB := ek htb
       clear htb hb2
       obtain ⟨t0, t1, t2, t3, k0, k1, k2, k3, hlt2⟩ := HTB.out
       have hg3 := grown_put4 w2 wr.heap.size (.bool false) (.int .u64 (K : Int)) (.slice E K (dc - s1)) (.int .u64 0)
       have HO3 : Hid (Own (put4 w2 wr.heap.size (.bool false) (.int .u64 (K : Int)) (.slice E K (dc - s1)) (.int .u64 0)) 5 w.heap.size A c o) := ek (Own.same (HO.out.keep hbb2) fun g hg => by
        have h1 := own_ob HO.out g hg
        exact hg3.block g (by omega) (fun e => by cases e; omega))
       have hbel3 : Below w.heap.size w (put4 w2 wr.heap.size (.bool false) (.int .u64 (K : Int)) (.slice E K (dc - s1)) (.int .u64 0)) := below_put4 (hbel.trans (hbb2.mono hsz)) hsz _ _ _ _
       have hs3 : (put4 w2 wr.heap.size (.bool false) (.int .u64 (K : Int)) (.slice E K (dc - s1)) (.int .u64 0)).heap.size = w2.heap.size := by simp [put4]
       have happ := appended_lit A c w.heap.size o E K (dc - s1) w.heap.size 0 ((r.drop s1).take K) (put4 w2 wr.heap.size (.bool false) (.int .u64 (K : Int)) (.slice E K (dc - s1)) (.int .u64 0)) HO3.out (by omega) (HE.out.below (below_put4 (Below.refl w.heap.size w2) hsz _ _ _ _)) (by omega) (by rw [List.length_take]; omega)
       have Happ := ek happ
       clear happ hg3 HO HTB
       go_wp2_with fail
       refine (show Calls Tryz.prog 220 #[tokV false K (.slice E K (dc - s1)) 0, .slice A o.length c] (put4 w2 wr.heap.size (.bool false) (.int .u64 (K : Int)) (.slice E K (dc - s1)) (.int .u64 0)) _ from Happ.out).mono ?_
       rintro e w4 ⟨A2, c2, rfl, hown4, hg4⟩
       have HO4 := ek hown4
       have hbel34 := hg4.below HO3.out (by omega)
       have HF4 := ek (((HF.out.below (Below.refl w.heap.size w2)).below ((below_put4 (Below.refl w.heap.size w2) hsz _ _ _ _).trans hbel34)))
       have hbel4 := hbel3.trans hbel34
       clear Happ hown4 hg4 HO3 HF hbel34
       go_wp2
       go_roundw
       case rel => exact ⟨A2, c2, o ++ (r.drop s1).take K, (r.drop s1).drop K, F, _, _, p + 1, k, by simp, rfl, HO4, HF4, by omega, by rw [Hlen.out]; omega, HG4, hbel4, hbel4.size⟩
       case measure => simp [slen]; omega
    ·have hodd : a % 2 = 1 := by omega
     rcases tk_cases (r.drop s1) with ⟨d, s2, htk2, hd, hs2, _⟩ | ⟨x, htk2, hx⟩
     ·rw [hdl] at hs2
      by_cases hbad : d = 0 ∨ 4096 < d ∨ o.length < d ∨ S - o.length < a / 2 + 4
      ·have hG := HG.out
       rw [eg_bad htk1 hodd htk2 hbad] at hG; simp at hG
      ·have hG4 := (eg_mat (p := p) (k := k) (n := S) (out := o) htk1 hodd htk2 hbad).symm.trans HG.out
       obtain ⟨K, hK⟩ : ∃ K, K = a / 2 + 4 := ⟨_, rfl⟩
       have hct := takeToken_mat D m dc w.heap.size r a s1 d s2 (wr.alloc (.cells #[.bool false, .int .u64 0, .slice none 0 0, .int .u64 0] 247)) (HrD.out.alloc hsz _) (by simp; omega) (by omega) htk1 ha hodd htk2
       rw [← hK] at hG4 hct hbad
       have hlen : (Pm.copyN K d o).length = o.length + K := copyN_len K d o
       have HG4 := ek hG4; have Hct := ek hct; have Hlen := ek hlen
       have hb1 : 1 ≤ d ∧ d ≤ 4096 ∧ d ≤ o.length ∧ o.length + K ≤ S := by omega
       obtain ⟨hd1, hd2, hd3, hoK⟩ := hb1
       clear hG4 hct hlen htk1 h2 ha hK hne hdl hodd hbad htk2 hd HG HrD
       go_wp2_with fail
       refine Hct.out.mono ?_
       rintro e w2 ⟨F, rfl, hF, hb2⟩
       have HF := ek hF; clear hF Hct
       have hu : tokV true K (.slice none 0 0) d = .agg #[.bool true, .int .u64 (K : Int), .slice none 0 0, .int .u64 (d : Int)] := rfl
       rw [hu]
       obtain ⟨htb, hbb2, hs2'⟩ := tokbox _ _ _ _ _ _ _ hb2
       have HTB := ek htb
       clear htb hb2
       obtain ⟨t0, t1, t2, t3, k0, k1, k2, k3, hlt2⟩ := HTB.out
       have hg3 := grown_put4 w2 wr.heap.size (.bool true) (.int .u64 (K : Int)) (.slice none 0 0) (.int .u64 (d : Int))
       have HO3 : Hid (Own (put4 w2 wr.heap.size (.bool true) (.int .u64 (K : Int)) (.slice none 0 0) (.int .u64 (d : Int))) 5 w.heap.size A c o) := ek (Own.same (HO.out.keep hbb2) fun g hg => by
        have h1 := own_ob HO.out g hg
        exact hg3.block g (by omega) (fun e => by cases e; omega))
       have hbel3 : Below w.heap.size w (put4 w2 wr.heap.size (.bool true) (.int .u64 (K : Int)) (.slice none 0 0) (.int .u64 (d : Int))) := below_put4 (hbel.trans (hbb2.mono hsz)) hsz _ _ _ _
       have hs3 : (put4 w2 wr.heap.size (.bool true) (.int .u64 (K : Int)) (.slice none 0 0) (.int .u64 (d : Int))).heap.size = w2.heap.size := by simp [put4]
       have happ := appended_mat A c w.heap.size o K d (put4 w2 wr.heap.size (.bool true) (.int .u64 (K : Int)) (.slice none 0 0) (.int .u64 (d : Int))) HO3.out (by omega) (by omega) (by omega) (by omega) (by omega)
       have Happ := ek happ
       clear happ hg3 HO HTB
       go_wp2_with fail
       refine (show Calls Tryz.prog 220 #[tokV true K (.slice none 0 0) d, .slice A o.length c] (put4 w2 wr.heap.size (.bool true) (.int .u64 (K : Int)) (.slice none 0 0) (.int .u64 (d : Int))) _ from Happ.out).mono ?_
       rintro e w4 ⟨A2, c2, rfl, hown4, hg4⟩
       have HO4 := ek hown4
       have hbel34 := hg4.below HO3.out (by omega)
       have HF4 := ek (((HF.out.below (Below.refl w.heap.size w2)).below ((below_put4 (Below.refl w.heap.size w2) hsz _ _ _ _).trans hbel34)))
       have hbel4 := hbel3.trans hbel34
       clear Happ hown4 hg4 HO3 HF hbel34
       go_wp2
       go_roundw
       case rel => exact ⟨A2, c2, Pm.copyN K d o, (r.drop s1).drop s2, F, _, _, p, k + 1, rfl, rfl, HO4, HF4, by omega, by rw [Hlen.out]; omega, HG4, hbel4, hbel4.size⟩
       case measure => simp [slen]; omega
     ·have hG := HG.out
      rw [eg_err2 htk1 hodd htk2 hx] at hG; simp at hG; omega
   ·have hG := HG.out
    rw [eg_err1 hne htk1 hx] at hG; simp at hG; omega
def RetX (base : Nat) (w : World) (out : List UInt8) (x : Nat) (e : Ending) (w' : World) : Prop :=
 ∃ A c, e = .returned (.tuple #[.slice A out.length c, .int .i64 (x : Int)]) ∧ Own w' 5 base A c out ∧ Below base w w'
theorem expand_c (A : Option Addr) (n c : Nat) (l : List UInt8) (most : Int) (w : World) (hr : Rb w w.heap.size A n c l) (hn : n ≤ 900000) (hm : I64 most) (hsm : ∀ S s, Vm.tk l = (S, s, 0) → (S : Int) ≤ most → S ≤ 2147483647) :
  Calls Tryz.prog 149 #[.slice A n c, .int .i64 most] w (RetX w.heap.size w (Pm.expS l most).1 (Pm.expS l most).2.2.2) := by
 have hsv := surveyed_c A n c w.heap.size l most w hr (Nat.le_refl _) hn hm
 have Hsv := ek hsv; have Hsm := ek hsm; have Hm := ek hm
 have hl := hr.len
 have Hl := ek hl
 clear hsv hsm hm hr hl
 obtain ⟨X, hX⟩ : ∃ X, X = Pm.expS l most := ⟨_, rfl⟩
 rw [← hX]
 have HX := ek hX; clear hX
 go_enter Tryz.func149, Tryz.ntmps149
 go_wp2_with fail
 refine Hsv.out.mono ?_
 rintro e w1 ⟨hb1, ⟨S, s, D, out, p, k, htk, hexp, hgo, rfl, hr1, ⟨h3, h4⟩, _, _⟩ | ⟨x, hexp, hx0, hx100, rfl⟩⟩
 ·have hS := Hsm.out S s htk h4
  obtain rfl : X = (out, p, k, 0) := HX.out.trans hexp
  have hs1 := hb1.size
  have Hgo := ek hgo; have Hr1 := ek hr1; have Htk := ek htk
  clear hgo hr1 htk hexp HX Hsv Hsm
  have hne : (S : Int) ≤ 2147483647 := by omega
  unfold surV
  obtain ⟨m, hm⟩ : ∃ m, m = n - s := ⟨_, rfl⟩
  have hmn : m ≤ n := by omega
  rw [← hm] at Hr1 ⊢
  clear hm
  go_wp2_with fail
  refine (show Calls Tryz.prog 185 #[surV S (.slice D m (c - s)) p k] _ _ from expanded_c S m (c - s) p k p k D (l.drop s) out _ ((Hr1.out.alloc hs1 _).more (by simp; omega)) (by omega) hS Hgo.out).mono ?_
  rintro e w2 ⟨A2, c2, rfl, hown2, hb2⟩
  have hs2 := hb2.size
  go_wp2
  go_ret2
  refine ⟨A2, c2, rfl, hown2.mono (by simp; omega), (hb1.trans ((Below.refl _ _).alloc hs1 _)).trans (hb2.mono (by simp; omega))⟩
 ·obtain rfl : X = ([], 0, 0, x) := HX.out.trans hexp
  have hx0' : ((x : Int) == 0) = false := by simp; omega
  clear hexp HX Hsv Hsm
  unfold surV
  go_wp2
  go_ret2
  exact ⟨none, 0, rfl, Own.nil _ _ _, hb1.trans ((Below.refl _ _).alloc hb1.size _)⟩
end Go.Proofs.YtkekmokdlgocaaaGreatDoor.Cht
