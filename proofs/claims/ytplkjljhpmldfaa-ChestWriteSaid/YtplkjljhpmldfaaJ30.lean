/-
  Joined: P12.
-/
import Derived.Test.YtplkjljhpmldfaaJ24
import Derived.Test.YtplkjljhpmldfaaJ22
/-
  press.surveyed: what it tells of a row of tokens.
-/
namespace Go.Proofs.Ytplkjljhpmldfaa
open Go.RowKit

/-- A survey's value. -/
def surV (S : Nat) (s : Value) (p k : Nat) : Value := .agg #[.int .u64 (S : Int), s, .int .i64 (p : Int), .int .i64 (k : Int)]

/-- What a survey comes to. -/
def SurRet (w : World) (B n c : Nat) (l : List UInt8) (most : Int) (e : Ending) (w' : World) : Prop :=
  Below w.heap.size w w' ∧
    ((∃ S s D out p k, Vm.tk l = (S, s, 0) ∧ Pm.expS l most = (out, p, k, 0) ∧ Pm.expGo S [] (l.drop s) 0 0 = (out, p, k, 0) ∧ e = .returned (.tuple #[surV S (.slice D (n - s) (c - s)) p k, .int .i64 0]) ∧ Rb w' B D (n - s) (c - s) (l.drop s) ∧ (0 ≤ most ∧ (S : Int) ≤ most) ∧ p ≤ n ∧ k ≤ n)
    ∨ ∃ x, Pm.expS l most = ([], 0, 0, x) ∧ 0 < x ∧ x < 100 ∧ e = .returned (.tuple #[surV 0 (.slice none 0 0) 0 0, .int .i64 (x : Int)]))

def SurRel (w : World) (B S n g0 g9 : Nat) (tv : Value) (RES : List UInt8 × Nat × Nat × Nat) (tr ts : Value) (wr : World) : Prop :=
  ∃ r D m dc out p k, tr = .slice D m dc ∧ ts = .int .u64 ((out : List UInt8).length : Int) ∧ Hid (Rb wr B D m dc r) ∧ out.length ≤ S ∧ p + k + m ≤ n ∧
    Hid (Box4 wr g9 (.int .u64 (S : Int)) tv (.int .i64 ((p : Nat) : Int)) (.int .i64 ((k : Nat) : Int))) ∧ Hid (Box4 wr g0 (.int .u64 0) (.slice none 0 0) (.int .i64 0) (.int .i64 0)) ∧ Hid (Pm.expGo S out r p k = RES) ∧ Below w.heap.size w wr ∧ w.heap.size + 2 ≤ wr.heap.size

set_option maxRecDepth 100000 in
set_option maxHeartbeats 4000000 in
/-- press.surveyed -/
theorem surveyed_c (A : Option Addr) (n c B : Nat) (l : List UInt8) (most : Int) (w : World) (hr : Rb w B A n c l) (hB : B ≤ w.heap.size) (hn : n ≤ 900000) (hm : I64 most) :
    Calls Try.prog 82 #[.slice A n c, .int .i64 most] w (SurRet w B n c l most) := by
  have hl := hr.len
  rcases tk_cases l with ⟨S, s, htk, hS, hs, hs10⟩ | ⟨x, htk, hx⟩
  · by_cases h1 : most < 0 ∨ most < (S : Int)
    · have hres : Pm.expS l most = ([], 0, 0, 5) := by unfold Pm.expS; rw [htk]; dsimp only; rw [if_pos rfl, if_pos h1]
      have Hr := Lib.hid hr; have Htk := Lib.hid htk; have Hl := Lib.hid hl; have Hm := Lib.hid hm; have HS := Lib.hid hS; have Hres := Lib.hid hres; clear hr htk hl hm hS hres
      by_cases h2 : most < 0
      · clear h1
        go_enter Try.func82, Try.ntmps82
        go_wp2_with fail
        refine (takeNumber_ok A n c B l S s _ (Hr.out.alloc hB _) (by simp; omega) (by omega) Htk.out).mono ?_
        rintro e w1 ⟨D, rfl, hrD, hb1⟩
        obtain ⟨⟨c0, c1, c2, c3, f0, f1, f2, f3, hlt⟩, hbb, hs1⟩ := tokbox _ _ _ _ _ _ _ hb1
        clear hb1 hrD
        go_wp2
        refine bodyPost_ret (v := .tuple #[surV 0 (.slice none 0 0) 0 0, .int .i64 5]) ?_ rfl ⟨?_, .inr ⟨5, Hres.out, by omega, by omega, rfl⟩⟩
        · simp [results, Try.results82, go_sem, surV, c0, c1, c2, c3]
        · exact (((hbb.setCell (by simp) _).setCell (by simp) _).setCell (by simp) _).setCell (by simp) _
      · have h3 : 0 ≤ most := by omega
        have h4 : most < (S : Int) := by omega
        have hw : IntKind.u64.wrap most = most := by have := Hm.out; unfold I64 at this; rw [IntKind.wrap_u64]; omega
        clear h1 h2
        go_enter Try.func82, Try.ntmps82
        go_wp2_with fail
        refine (takeNumber_ok A n c B l S s _ (Hr.out.alloc hB _) (by simp; omega) (by omega) Htk.out).mono ?_
        rintro e w1 ⟨D, rfl, hrD, hb1⟩
        obtain ⟨⟨c0, c1, c2, c3, f0, f1, f2, f3, hlt⟩, hbb, hs1⟩ := tokbox _ _ _ _ _ _ _ hb1
        clear hb1 hrD
        go_wp2
        refine bodyPost_ret (v := .tuple #[surV 0 (.slice none 0 0) 0 0, .int .i64 5]) ?_ rfl ⟨?_, .inr ⟨5, Hres.out, by omega, by omega, rfl⟩⟩
        · simp [results, Try.results82, go_sem, surV, c0, c1, c2, c3]
        · exact (((hbb.setCell (by simp) _).setCell (by simp) _).setCell (by simp) _).setCell (by simp) _
    · have h3 : 0 ≤ most := by omega
      have h4 : (S : Int) ≤ most := by omega
      have hw : IntKind.u64.wrap most = most := by unfold I64 at hm; rw [IntKind.wrap_u64]; omega
      obtain ⟨RES, hRES⟩ : ∃ RES, RES = Pm.expGo S [] (l.drop s) 0 0 := ⟨_, rfl⟩
      have hres : Pm.expS l most = RES := by unfold Pm.expS; rw [htk]; dsimp only; rw [if_pos rfl, if_neg h1, hRES]
      have hns : n - s ≤ n := by omega
      have Hr := Lib.hid hr; have Htk := Lib.hid htk; have Hl := Lib.hid hl; have HS := Lib.hid hS; have Hres := Lib.hid hres; have HRES := Lib.hid hRES; clear hr htk hl hm hS hres hRES h1
      go_enter Try.func82, Try.ntmps82
      go_wp2_with fail
      refine (takeNumber_ok A n c B l S s _ (Hr.out.alloc hB _) (by simp; omega) (by omega) Htk.out).mono ?_
      rintro e w1 ⟨D0, rfl, hrD, hb1⟩
      obtain ⟨hbx, hbb, hs1⟩ := tokbox _ _ _ _ _ _ _ hb1
      have Hbx := Lib.hid hbx; have HrD := Lib.hid hrD
      clear hb1 hrD hbx
      have HrW : Hid (Rb w B D0 (n - s) (c - s) (l.drop s)) := Lib.hid (HrD.out.keep fun p hp => (hbb.cell (by omega)).symm)
      obtain ⟨m0, hm0⟩ : ∃ m0, m0 = n - s := ⟨_, rfl⟩
      obtain ⟨d0, hd0⟩ : ∃ d0, d0 = c - s := ⟨_, rfl⟩
      rw [← hm0, ← hd0] at HrD HrW ⊢
      have Hm0 := Lib.hid hm0; have Hd0 := Lib.hid hd0
      have hm0n : m0 ≤ n := by omega
      clear hm0 hd0
      have hwl : Below w.heap.size w (w1.alloc (.cells #[.int .u64 (S : Int), .slice D0 m0 d0, .int .i64 0, .int .i64 0] 116)) := hbb.alloc (by omega) _
      have Hsb := Lib.hid (Box4.made w1 116 (.int .u64 (S : Int)) (.slice D0 m0 d0) (.int .i64 0) (.int .i64 0))
      have Hrb := Lib.hid (Hbx.out.alloc (.cells #[.int .u64 (S : Int), .slice D0 m0 d0, .int .i64 0, .int .i64 0] 116))
      have HrD1 := Lib.hid (HrD.out.alloc (by omega) (.cells #[.int .u64 (S : Int), .slice D0 m0 d0, .int .i64 0, .int .i64 0] 116))
      clear Hbx HrD
      go_wp2
      go_loopw [7, 10] (fun tr ts wr => SurRel w B S n w.heap.size w1.heap.size (.slice D0 m0 d0) RES tr ts wr) (fun tr _ _ => slen tr)
      case atStart => exact ⟨l.drop s, D0, m0, d0, [], 0, 0, rfl, rfl, HrD1, by simp, by omega, Hsb, Hrb, HRES.out.symm, hwl, by simp; omega⟩
      case round =>
        obtain ⟨r, D, m, dc, out, p, k, rfl, rfl, HrD, houtS, hpk, Hsb, Hrb, HG, hbel, hsz⟩ := hrel
        have hw6 : IntKind.u64.wrap ((S : Int) - (out.length : Int)) = (S : Int) - (out.length : Int) := by have := HS.out; rw [IntKind.wrap_u64]; omega
        have hrl := HrD.out.len
        have Hrl := Lib.hid hrl; clear hrl
        have h9 := Hsb.out.lt
        by_cases hmz : m = 0
        · subst hmz
          obtain rfl : r = [] := List.eq_nil_of_length_eq_zero Hrl.out
          by_cases hfew : out.length < S
          · obtain ⟨c0, c1, c2, c3, f0, f1, f2, f3, hlt⟩ := Hrb.out
            have hfew' : ((out.length : Int) < (S : Int)) := by omega
            go_wp2
            refine bodyPost_ret (v := .tuple #[surV 0 (.slice none 0 0) 0 0, .int .i64 3]) ?_ rfl ⟨?_, .inr ⟨3, ?_, by omega, by omega, rfl⟩⟩
            · simp [results, Try.results82, go_sem, surV, c0, c1, c2, c3]
            · exact ((((hbel).setCell (by simp) _).setCell (by simp) _).setCell (by simp) _).setCell (by simp) _
            · rw [Hres.out, ← HG.out]; exact eg_nil_few hfew
          · obtain ⟨c0, c1, c2, c3, f0, f1, f2, f3, hlt⟩ := Hrb.out
            obtain ⟨b0, b1, b2, b3, _, _, _, _, _⟩ := Hsb.out
            have hfew' : ((S : Int) ≤ (out.length : Int)) := by omega
            go_wp2
            refine bodyPost_ret (v := .tuple #[surV S (.slice D0 m0 d0) p k, .int .i64 0]) ?_ rfl ⟨?_, .inl ⟨S, s, D0, out, p, k, Htk.out, ?_, ?_, by rw [Hm0.out, Hd0.out], ?_, ⟨h3, h4⟩, by omega, by omega⟩⟩
            · simp [results, Try.results82, go_sem, surV, c0, c1, c2, c3]
            · exact ((((hbel).setCell (by simp) _).setCell (by simp) _).setCell (by simp) _).setCell (by simp) _
            · rw [Hres.out, ← HG.out]; exact eg_nil hfew
            · rw [← HRES.out, ← HG.out]; exact eg_nil hfew
            · rw [← Hm0.out, ← Hd0.out]
              exact ((((HrW.out.below (hbel.mono hB)).setCell hB _).setCell hB _).setCell hB _).setCell hB _
        · have hmp : 0 < m := by omega
          have hne : r ≠ [] := by intro e; rw [e] at Hrl; have := Hrl.out; simp at this; omega
          have hBr : B ≤ wr.heap.size := by omega
          rcases tk_cases r with ⟨a, s1, htk1, ha, hs1', _⟩ | ⟨x, htk1, hx⟩
          · have hs1p : 1 ≤ s1 := by have := Pm.tk_pos r (by rw [htk1]); rw [htk1] at this; exact this
            have hs1m : s1 ≤ m := by have := Hrl.out; omega
            have Htk1 := Lib.hid htk1
            clear hne
            by_cases h2 : a % 2 = 0
            · by_cases hsh : m - s1 < a / 2 + 1
              · have HG2 := Lib.hid (HG.out.symm.trans (eg_short htk1 h2 (by rw [List.length_drop, Hrl.out]; exact hsh)))
                clear htk1
                go_wp2_with fail
                refine (takeToken_short D m dc B r a s1 _ (HrD.out.alloc hBr _) (by simp; omega) (by omega) Htk1.out ha h2 hsh).mono ?_
                rintro e w2 ⟨rfl, hb2⟩
                obtain ⟨htb, hbb2, hs2⟩ := tokbox _ _ _ _ _ _ _ hb2
                have HTB := Lib.hid htb; have HRB := Lib.hid (Hrb.out.below hbb2 (by omega)); have HSB := Lib.hid (Hsb.out.below hbb2 (by omega))
                have hn1 : w.heap.size ≠ wr.heap.size := by omega
                have hn2 : wr.heap.size ≠ w.heap.size := by omega
                have hbel2 := hbel.trans (hbb2.mono (by omega))
                clear htb hb2 Hrb Hsb
                obtain ⟨t0, t1, t2, t3, k0, k1, k2, k3, hlt2⟩ := HTB.out
                obtain ⟨c0, c1, c2, c3, f0, f1, f2, f3, hlt⟩ := HRB.out
                clear hsh h2 ha
                unfold tokV
                go_wp2
                refine bodyPost_ret (v := .tuple #[surV 0 (.slice none 0 0) 0 0, .int .i64 2]) ?_ rfl ⟨?_, .inr ⟨2, ?_, by omega, by omega, rfl⟩⟩
                · simp [results, Try.results82, go_sem, surV, c0, c1, c2, c3]
                · exact ((((((((hbel2).setCell (by simp; omega) _).setCell (by simp; omega) _).setCell (by simp; omega) _).setCell (by simp; omega) _).setCell (by simp) _).setCell (by simp) _).setCell (by simp) _).setCell (by simp) _
                · rw [Hres.out, ← HG.out]; exact (HG.out.trans HG2.out)
              · obtain ⟨K, hK⟩ : ∃ K, K = a / 2 + 1 := ⟨_, rfl⟩
                have hgl := fun ho => eg_over (p := p) (k := k) (n := S) (out := out) htk1 h2 (by rw [List.length_drop, Hrl.out]; exact hsh) ho
                have hgc := fun ho => eg_lit (p := p) (k := k) (n := S) (out := out) htk1 h2 (by rw [List.length_drop, Hrl.out]; exact hsh) ho
                have hct := takeToken_lit D m dc B r a s1 (wr.alloc (.cells #[.bool false, .int .u64 0, .slice none 0 0, .int .u64 0] 127)) (HrD.out.alloc hBr _) (by simp; omega) (by omega) Htk1.out h2 (by omega)
                rw [← hK] at hgl hgc hct hsh
                have hlen : (out ++ (r.drop s1).take K).length = out.length + K := by rw [List.length_append, List.length_take, List.length_drop, Hrl.out]; omega
                have hKm : K ≤ m - s1 := by omega
                have hK1 : 1 ≤ K := by omega
                have Hct := Lib.hid hct; have Hgl := Lib.hid hgl; have Hgc := Lib.hid hgc
                clear htk1 hct hgl hgc hK h2 ha hsh Htk1
                obtain ⟨o, ho⟩ : ∃ o, o = out.length := ⟨_, rfl⟩
                rw [← ho] at houtS hlen hw6 ⊢
                have Ho := Lib.hid ho; have Hlen := Lib.hid hlen; clear ho hlen
                go_wp2_with fail
                refine Hct.out.mono ?_
                rintro e w2 ⟨E, F, rfl, hE, hF, hb2⟩
                have HF := Lib.hid hF; clear hE hF Hct
                obtain ⟨htb, hbb2, hs2⟩ := tokbox _ _ _ _ _ _ _ hb2
                have HTB := Lib.hid htb; have HRB := Lib.hid (Hrb.out.below hbb2 (by omega)); have HSB := Lib.hid (Hsb.out.below hbb2 (by omega))
                have hn1 : w.heap.size ≠ wr.heap.size := by omega
                have hn2 : wr.heap.size ≠ w.heap.size := by omega
                have hbel2 := hbel.trans (hbb2.mono (by omega))
                clear htb hb2 Hrb Hsb
                by_cases hov : S < o + K
                · have hov' : (S : Int) - (o : Int) < (K : Int) := by omega
                  have HG2 := Lib.hid (HG.out.symm.trans (Hgl.out (by rw [← Ho.out]; exact hov)))
                  obtain ⟨t0, t1, t2, t3, k0, k1, k2, k3, hlt2⟩ := HTB.out
                  obtain ⟨c0, c1, c2, c3, f0, f1, f2, f3, hlt⟩ := HRB.out
                  unfold tokV
                  go_wp2
                  refine bodyPost_ret (v := .tuple #[surV 0 (.slice none 0 0) 0 0, .int .i64 3]) ?_ rfl ⟨?_, .inr ⟨3, ?_, by omega, by omega, rfl⟩⟩
                  · simp [results, Try.results82, go_sem, surV, c0, c1, c2, c3]
                  · exact ((((((((hbel2).setCell (by simp; omega) _).setCell (by simp; omega) _).setCell (by simp; omega) _).setCell (by simp; omega) _).setCell (by simp) _).setCell (by simp) _).setCell (by simp) _).setCell (by simp) _
                  · rw [Hres.out, ← HG.out]; exact (HG.out.trans HG2.out)
                · have hov' : (K : Int) ≤ (S : Int) - (o : Int) := by omega
                  have HG4 := Lib.hid ((Hgc.out (by rw [← Ho.out]; exact hov)).symm.trans HG.out)
                  have hw5 : IntKind.u64.wrap ((o : Int) + (K : Int)) = (o : Int) + (K : Int) := by have := HS.out; rw [IntKind.wrap_u64]; omega
                  obtain ⟨t0, t1, t2, t3, k0, k1, k2, k3, hlt2⟩ := HTB.out
                  have hu : tokV false K (.slice E K (dc - s1)) 0 = .agg #[.bool false, .int .u64 (K : Int), .slice E K (dc - s1), .int .u64 0] := rfl
                  rw [hu]
                  have hlen := Hlen.out
                  have HHlen := Lib.hid hlen; clear hlen
                  have hg3 := grown_put4 w2 wr.heap.size (.bool false) (.int .u64 (K : Int)) (.slice E K (dc - s1)) (.int .u64 0)
                  have HSB3 := Lib.hid (HSB.out.grown hg3 (by omega)); have HRB3 := Lib.hid (HRB.out.grown hg3 (by omega))
                  have hcnt := count_lit w1.heap.size _ _ p k K (.slice E K (dc - s1)) 0 (put4 w2 wr.heap.size (.bool false) (.int .u64 (K : Int)) (.slice E K (dc - s1)) (.int .u64 0)) HSB3.out (by omega)
                  have Hcnt := Lib.hid hcnt; have Hg3 := Lib.hid hg3; clear hcnt hg3
                  go_wp2_with fail
                  refine (show Calls Try.prog 95 #[.pointer (some ⟨w1.heap.size, 0, none⟩), tokV false K (.slice E K (dc - s1)) 0] (put4 w2 wr.heap.size (.bool false) (.int .u64 (K : Int)) (.slice E K (dc - s1)) (.int .u64 0)) _ from Hcnt.out).mono ?_
                  rintro e w4 ⟨rfl, hsb4, hg4⟩
                  have HSB4 := Lib.hid hsb4; have HRB4 := Lib.hid (HRB3.out.grown hg4 (by omega))
                  have hbel3 : Below w.heap.size w (put4 w2 wr.heap.size (.bool false) (.int .u64 (K : Int)) (.slice E K (dc - s1)) (.int .u64 0)) := below_put4 hbel2 (by omega) _ _ _ _
                  have hbel4 : Below w.heap.size w w4 := hbel3.grown hg4 hbel3.size (fun j hj => by cases hj; omega)
                  have hb34 : Below w.heap.size w2 w4 := (below_put4 (Below.refl _ _) (by omega) _ _ _ _).grown hg4 (by have := hbel3.size; exact this) (fun j hj => by cases hj; omega)
                  have HF4 := Lib.hid (HF.out.below (hb34.mono hB))
                  have hs4 := hb34.size
                  clear Hcnt hsb4 hg4 HSB3 HRB3 HSB HRB HTB hb34 hbel3 Hg3
                  go_wp2
                  go_roundw
                  case rel => exact ⟨(r.drop s1).drop K, F, _, _, out ++ (r.drop s1).take K, p + 1, k, rfl, by rw [HHlen.out]; go_num, HF4, by rw [HHlen.out]; omega, by omega, HSB4, HRB4, HG4, hbel4, by omega⟩
                  case measure => simp [slen]; omega
            · have hodd : a % 2 = 1 := by omega
              clear h2
              rcases tk_cases (r.drop s1) with ⟨d, s2, htk2, hd, hs2, _⟩ | ⟨x, htk2, hx⟩
              · rw [List.length_drop, Hrl.out] at hs2
                obtain ⟨K, hK⟩ : ∃ K, K = a / 2 + 4 := ⟨_, rfl⟩
                have hgb := fun hb => eg_bad (p := p) (k := k) (n := S) (out := out) htk1 hodd htk2 hb
                have hgc := fun hb => eg_mat (p := p) (k := k) (n := S) (out := out) htk1 hodd htk2 hb
                have hct := takeToken_mat D m dc B r a s1 d s2 (wr.alloc (.cells #[.bool false, .int .u64 0, .slice none 0 0, .int .u64 0] 127)) (HrD.out.alloc hBr _) (by simp; omega) (by omega) Htk1.out ha hodd htk2
                rw [← hK] at hgb hgc hct
                have hlen : (Pm.copyN K d out).length = out.length + K := copyN_len K d out
                have Hct := Lib.hid hct; have Hgb := Lib.hid hgb; have Hgc := Lib.hid hgc; have Hd := Lib.hid hd
                clear htk1 hct hgb hgc hK ha hodd Htk1 htk2 hd
                obtain ⟨o, ho⟩ : ∃ o, o = out.length := ⟨_, rfl⟩
                rw [← ho] at houtS hlen hw6 ⊢
                have Ho := Lib.hid ho; have HHlen := Lib.hid hlen; clear ho hlen
                go_wp2_with fail
                refine Hct.out.mono ?_
                rintro e w2 ⟨F, rfl, hF, hb2⟩
                have HF := Lib.hid hF; clear hF Hct
                obtain ⟨htb, hbb2, hs2'⟩ := tokbox _ _ _ _ _ _ _ hb2
                have HTB := Lib.hid htb; have HRB := Lib.hid (Hrb.out.below hbb2 (by omega)); have HSB := Lib.hid (Hsb.out.below hbb2 (by omega))
                have hn1 : w.heap.size ≠ wr.heap.size := by omega
                have hn2 : wr.heap.size ≠ w.heap.size := by omega
                have hbel2 := hbel.trans (hbb2.mono (by omega))
                clear htb hb2 Hrb Hsb
                have hu : tokV true K (.slice none 0 0) d = .agg #[.bool true, .int .u64 (K : Int), .slice none 0 0, .int .u64 (d : Int)] := rfl
                by_cases hok : 0 < d ∧ d ≤ 4096 ∧ d ≤ o
                · have hrc := fun W => reaches_c d o W
                  rw [decide_eq_true hok] at hrc
                  have Hrc := Lib.hid hrc; have Hok := Lib.hid hok; clear hrc hok
                  by_cases hov : S < o + K
                  · have hov' : (S : Int) - (o : Int) < (K : Int) := by omega
                    have HG2 := Lib.hid (HG.out.symm.trans (Hgb.out (.inr (.inr (.inr (by rw [← Ho.out]; omega))))))
                    obtain ⟨t0, t1, t2, t3, k0, k1, k2, k3, hlt2⟩ := HTB.out
                    obtain ⟨c0, c1, c2, c3, f0, f1, f2, f3, hlt⟩ := HRB.out
                    rw [hu]
                    go_wp2_with fail
                    refine (Hrc.out _).mono ?_
                    rintro e w3 ⟨rfl, rfl⟩
                    go_wp2
                    refine bodyPost_ret (v := .tuple #[surV 0 (.slice none 0 0) 0 0, .int .i64 3]) ?_ rfl ⟨?_, .inr ⟨3, ?_, by omega, by omega, rfl⟩⟩
                    · simp [results, Try.results82, go_sem, surV, c0, c1, c2, c3]
                    · exact ((((((((hbel2).setCell (by simp; omega) _).setCell (by simp; omega) _).setCell (by simp; omega) _).setCell (by simp; omega) _).setCell (by simp) _).setCell (by simp) _).setCell (by simp) _).setCell (by simp) _
                    · rw [Hres.out, ← HG.out]; exact (HG.out.trans HG2.out)
                  · have hov' : (K : Int) ≤ (S : Int) - (o : Int) := by omega
                    have HG4 := Lib.hid ((Hgc.out (by have := Hok.out; rw [← Ho.out]; omega)).symm.trans HG.out)
                    have hw5 : IntKind.u64.wrap ((o : Int) + (K : Int)) = (o : Int) + (K : Int) := by have := HS.out; rw [IntKind.wrap_u64]; omega
                    obtain ⟨t0, t1, t2, t3, k0, k1, k2, k3, hlt2⟩ := HTB.out
                    rw [hu]
                    go_wp2_with fail
                    refine (Hrc.out _).mono ?_
                    rintro e w3 ⟨rfl, rfl⟩
                    have hg3 := grown_put4 w2 wr.heap.size (.bool true) (.int .u64 (K : Int)) (.slice none 0 0) (.int .u64 (d : Int))
                    have HSB3 := Lib.hid (HSB.out.grown hg3 (by omega)); have HRB3 := Lib.hid (HRB.out.grown hg3 (by omega))
                    have hcnt := count_mat w1.heap.size _ _ p k K (.slice none 0 0) d (put4 w2 wr.heap.size (.bool true) (.int .u64 (K : Int)) (.slice none 0 0) (.int .u64 (d : Int))) HSB3.out (by omega)
                    have Hcnt := Lib.hid hcnt; have Hg3 := Lib.hid hg3; clear hcnt hg3
                    go_wp2_with fail
                    refine (show Calls Try.prog 95 #[.pointer (some ⟨w1.heap.size, 0, none⟩), tokV true K (.slice none 0 0) d] (put4 w2 wr.heap.size (.bool true) (.int .u64 (K : Int)) (.slice none 0 0) (.int .u64 (d : Int))) _ from Hcnt.out).mono ?_
                    rintro e w4 ⟨rfl, hsb4, hg4⟩
                    have HSB4 := Lib.hid hsb4; have HRB4 := Lib.hid (HRB3.out.grown hg4 (by omega))
                    have hbel3 : Below w.heap.size w (put4 w2 wr.heap.size (.bool true) (.int .u64 (K : Int)) (.slice none 0 0) (.int .u64 (d : Int))) := below_put4 hbel2 (by omega) _ _ _ _
                    have hbel4 : Below w.heap.size w w4 := hbel3.grown hg4 hbel3.size (fun j hj => by cases hj; omega)
                    have hb34 : Below w.heap.size w2 w4 := (below_put4 (Below.refl _ _) (by omega) _ _ _ _).grown hg4 (by have := hbel3.size; exact this) (fun j hj => by cases hj; omega)
                    have HF4 := Lib.hid (HF.out.below (hb34.mono hB))
                    have hs4 := hb34.size
                    clear Hcnt hsb4 hg4 HSB3 HRB3 HSB HRB HTB hb34 hbel3 Hg3
                    go_wp2
                    go_roundw
                    case rel => exact ⟨(r.drop s1).drop s2, F, _, _, Pm.copyN K d out, p, k + 1, rfl, by rw [HHlen.out]; go_num, HF4, by rw [HHlen.out]; omega, by omega, HSB4, HRB4, HG4, hbel4, by omega⟩
                    case measure => simp [slen]; omega
                · have hrc := fun W => reaches_c d o W
                  rw [decide_eq_false hok] at hrc
                  have Hrc := Lib.hid hrc; have Hok := Lib.hid hok; clear hrc hok
                  have HG2 := Lib.hid (HG.out.symm.trans (Hgb.out (by have := Hok.out; rw [← Ho.out]; omega)))
                  obtain ⟨t0, t1, t2, t3, k0, k1, k2, k3, hlt2⟩ := HTB.out
                  obtain ⟨c0, c1, c2, c3, f0, f1, f2, f3, hlt⟩ := HRB.out
                  rw [hu]
                  go_wp2_with fail
                  refine (Hrc.out _).mono ?_
                  rintro e w3 ⟨rfl, rfl⟩
                  go_wp2
                  refine bodyPost_ret (v := .tuple #[surV 0 (.slice none 0 0) 0 0, .int .i64 3]) ?_ rfl ⟨?_, .inr ⟨3, ?_, by omega, by omega, rfl⟩⟩
                  · simp [results, Try.results82, go_sem, surV, c0, c1, c2, c3]
                  · exact ((((((((hbel2).setCell (by simp; omega) _).setCell (by simp; omega) _).setCell (by simp; omega) _).setCell (by simp; omega) _).setCell (by simp) _).setCell (by simp) _).setCell (by simp) _).setCell (by simp) _
                  · rw [Hres.out, ← HG.out]; exact (HG.out.trans HG2.out)
              · have hx0 : ((x : Int) == 0) = false := by simp; omega
                have HG2 := Lib.hid (HG.out.symm.trans (eg_err2 htk1 hodd htk2 hx)); have Hx := Lib.hid hx; have Htk2 := Lib.hid htk2
                have Hodd := Lib.hid hodd
                clear hx htk1 htk2 hodd ha
                go_wp2_with fail
                refine (takeToken_err2 D m dc B r a s1 x _ (HrD.out.alloc hBr _) (by simp; omega) (by omega) Htk1.out Hodd.out Htk2.out Hx.out).mono ?_
                rintro e w2 ⟨rfl, hb2⟩
                obtain ⟨htb, hbb2, hs2'⟩ := tokbox _ _ _ _ _ _ _ hb2
                have HTB := Lib.hid htb; have HRB := Lib.hid (Hrb.out.below hbb2 (by omega)); have HSB := Lib.hid (Hsb.out.below hbb2 (by omega))
                have hn1 : w.heap.size ≠ wr.heap.size := by omega
                have hn2 : wr.heap.size ≠ w.heap.size := by omega
                have hbel2 := hbel.trans (hbb2.mono (by omega))
                clear htb hb2 Hrb Hsb
                obtain ⟨t0, t1, t2, t3, k0, k1, k2, k3, hlt2⟩ := HTB.out
                obtain ⟨c0, c1, c2, c3, f0, f1, f2, f3, hlt⟩ := HRB.out
                unfold tokV
                go_wp2
                refine bodyPost_ret (v := .tuple #[surV 0 (.slice none 0 0) 0 0, .int .i64 (x : Int)]) ?_ rfl ⟨?_, .inr ⟨x, ?_, by have := Hx.out; omega, by have := Hx.out; omega, rfl⟩⟩
                · simp [results, Try.results82, go_sem, surV, c0, c1, c2, c3]
                · exact ((((((((hbel2).setCell (by simp; omega) _).setCell (by simp; omega) _).setCell (by simp; omega) _).setCell (by simp; omega) _).setCell (by simp) _).setCell (by simp) _).setCell (by simp) _).setCell (by simp) _
                · rw [Hres.out, ← HG.out]; exact (HG.out.trans HG2.out)
          · have hx0 : ((x : Int) == 0) = false := by simp; omega
            have HG2 := Lib.hid (HG.out.symm.trans (eg_err1 hne htk1 hx)); have Hx := Lib.hid hx; have Htk1 := Lib.hid htk1; clear hx htk1 hne
            go_wp2_with fail
            refine (takeToken_err1 D m dc B r x _ (HrD.out.alloc hBr _) (by simp; omega) (by omega) Htk1.out Hx.out).mono ?_
            rintro e w2 ⟨rfl, hb2⟩
            obtain ⟨⟨t0, t1, t2, t3, k0, k1, k2, k3, hlt2⟩, hbb2, hs2⟩ := tokbox _ _ _ _ _ _ _ hb2
            obtain ⟨c0, c1, c2, c3, f0, f1, f2, f3, hlt⟩ := Hrb.out.below hbb2 (by omega)
            have hn1 : w.heap.size ≠ wr.heap.size := by omega
            have hn2 : wr.heap.size ≠ w.heap.size := by omega
            have hbel2 := hbel.trans (hbb2.mono (by omega))
            unfold tokV
            go_wp2
            refine bodyPost_ret (v := .tuple #[surV 0 (.slice none 0 0) 0 0, .int .i64 (x : Int)]) ?_ rfl ⟨?_, .inr ⟨x, ?_, by have := Hx.out; omega, by have := Hx.out; omega, rfl⟩⟩
            · simp [results, Try.results82, go_sem, surV, c0, c1, c2, c3]
            · exact ((((((((hbel2).setCell (by simp; omega) _).setCell (by simp; omega) _).setCell (by simp; omega) _).setCell (by simp; omega) _).setCell (by simp) _).setCell (by simp) _).setCell (by simp) _).setCell (by simp) _
            · rw [Hres.out, ← HG.out]; exact (HG.out.trans HG2.out)

  · have hres : Pm.expS l most = ([], 0, 0, x) := by unfold Pm.expS; rw [htk]; dsimp only; rw [if_neg (by omega)]
    have hx0 : ((x : Int) == 0) = false := by simp; omega
    have Hr := Lib.hid hr; have Htk := Lib.hid htk; have Hx := Lib.hid hx; have Hres := Lib.hid hres; clear hr htk hx hres hl hm
    go_enter Try.func82, Try.ntmps82
    go_wp2_with fail
    refine (takeNumber_err A n c B l x _ (Hr.out.alloc hB _) (by simp; omega) (by omega) Htk.out Hx.out).mono ?_
    rintro e w1 ⟨rfl, hb1⟩
    obtain ⟨⟨c0, c1, c2, c3, f0, f1, f2, f3, hlt⟩, hbb, hs1⟩ := tokbox _ _ _ _ _ _ _ hb1
    clear hb1
    go_wp2
    refine bodyPost_ret (v := .tuple #[surV 0 (.slice none 0 0) 0 0, .int .i64 (x : Int)]) ?_ rfl ⟨?_, .inr ⟨x, Hres.out, by have := Hx.out; omega, by have := Hx.out; omega, rfl⟩⟩
    · simp [results, Try.results82, go_sem, surV, c0, c1, c2, c3]
    · exact (((hbb.setCell (by simp) _).setCell (by simp) _).setCell (by simp) _).setCell (by simp) _
end Go.Proofs.Ytplkjljhpmldfaa
