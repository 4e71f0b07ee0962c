/-
  Joined: P7 P14 P15.
-/
import Derived.Test.YtkekmokdlgocaaaGreatDoorJW2
import Derived.Maps.GroupsBeside
set_option maxRecDepth 100000
set_option maxHeartbeats 4000000
namespace Go.Proofs.YtkekmokdlgocaaaGreatDoor.Cht
open Go.RowKit Go.Maps Go.ChangeShapes
theorem _root_.Go.Proofs.YtkekmokdlgocaaaGreatDoor.Own.same {w w' : World} {e : TypeId} {base c : Nat} {A : Option Addr} {l : List UInt8} (h : Own w e base A c l) (hs : ∀ g, ob A = some g → w'.heap[g]? = w.heap[g]?) : Own w' e base A c l := by
 unfold Own at h ⊢
 refine ⟨h.1, ?_⟩
 rcases h.2 with hn | ⟨g, cap, cur, hv, hbg, hg, rest⟩
 ·exact .inl hn
 ·refine .inr ⟨g, cap, cur, hv, hbg, (hs g ?_).trans hg, rest⟩
  injection hv with hA
  rw [hA]
  rfl
end Go.Proofs.YtkekmokdlgocaaaGreatDoor.Cht
namespace Go.Proofs.YtkekmokdlgocaaaGreatDoor.Cht
open Go.RowKit
theorem make_u64 (w : World) (S : Nat) (hS : S ≤ 2147483647) :
  (Instr.makeSlice 22 (.int .i64 0) (.int .u64 (S : Int))).run Tryz.prog w = .ok (.slice (some ⟨w.heap.size, 0, none⟩) 0 S) (w.alloc (.cells (zrow S) 5)) := by
 obtain ⟨i, hi, hz0, hz1, hz2⟩ := info_parts bty.inf
 have h := run_make (P := Tryz.prog) w 22 5 i (.int .u8 0) bty.sl hi hz0 .i64 .u64 0 (S : Int) (by omega) (by omega) (by rw [hz2]; omega) (by omega)
 simp only [Int.toNat_natCast, Int.toNat_zero, hz1, Nat.mul_one] at h
 rw [h]
 have e1 : madeCells (Value.int IntKind.u8 0).cells S = zrow S := by
  apply Array.toList_inj.1
  have hcells : (Value.int IntKind.u8 0).cells = #[.int .u8 0] := rfl
  rw [hcells, toList_madeCells_one]
  simp [zrow]
 rw [e1]
def ExpdRel (base S : Nat) (w : World) (RES : List UInt8 × Nat × Nat × Nat) (to tr : Value) (wr : World) : Prop :=
 ∃ A c o r D m dc p k, to = .slice A (o : List UInt8).length c ∧ tr = .slice D m dc ∧ Hid (Own wr 5 base A c o) ∧ Hid (Rb wr base D m dc r) ∧ m ≤ 900000 ∧ o.length ≤ S ∧ Hid (Pm.expGo S o r p k = RES) ∧ Below base w wr ∧ base ≤ wr.heap.size
theorem expanded_c (S m dc p k P K' : Nat) (D : Option Addr) (r OUT : List UInt8) (w : World) (hr : Rb w w.heap.size D m dc r) (hm : m ≤ 900000) (hS : S ≤ 2147483647) (hres : Pm.expGo S [] r 0 0 = (OUT, P, K', 0)) :
  Calls Tryz.prog 185 #[surV S (.slice D m dc) p k] w (RetB w.heap.size w OUT) := by
 have hmk := make_u64 (w.alloc (.cells #[.int .u64 (S : Int), .slice D m dc, .int .i64 (p : Int), .int .i64 (k : Int)] 225)) S hS
 have Hr := ek hr; have Hres := ek hres; clear hr hres
 unfold surV
 go_enter Tryz.func185, Tryz.ntmps185
 go_wp2
 go_loopw [3, 4] (fun to tr wr => ExpdRel w.heap.size S w (OUT, P, K', 0) to tr wr) (fun _ tr _ => slen tr)
 case atStart =>
  refine ⟨some ⟨w.heap.size + 1, 0, none⟩, S, [], r, D, m, dc, 0, 0, by simp, rfl, ek ?_, ek ((Hr.out.alloc (Nat.le_refl _) _).alloc (by simp) _), hm, by simp, Hres, (ej _ _).alloc (by simp) _, by simp; omega⟩
  have h := own_zrow ((w.alloc (.cells #[.int .u64 (S : Int), .slice D m dc, .int .i64 (p : Int), .int .i64 (k : Int)] 225)).alloc (.cells (zrow S) 5)) 5 (w.heap.size + 1) 0 S ?_ (Nat.zero_le _) (by simp only [maxLen]; omega)
  ·exact h.mono (by omega)
  ·have := (heap_alloc_new (w.alloc (.cells #[.int .u64 (S : Int), .slice D m dc, .int .i64 (p : Int), .int .i64 (k : Int)] 225)) (.cells (zrow S) 5))
   simpa using this
 case round =>
  clear hmk
  obtain ⟨A, c, o, r, D, m, dc, p, k, rfl, rfl, HO, HrD, hm, hoS, HG, hbel, hsz⟩ := hrel
  have hrl := HrD.out.len
  have Hrl := ek hrl; clear hrl
  by_cases hmz : m = 0
  ·subst hmz
   obtain rfl : r = [] := List.eq_nil_of_length_eq_zero Hrl.out
   have hG := HG.out
   by_cases hfew : o.length < S
   ·rw [eg_nil_few hfew] at hG; simp at hG
   ·rw [eg_nil hfew] at hG
    obtain ⟨rfl, _⟩ : o = OUT ∧ _ := Prod.mk.inj hG
    clear hG
    go_wp2
    go_ret
    exact ⟨A, c, rfl, HO.out, hbel⟩
  ·have hmp : 0 < m := by omega
   have hne : r ≠ [] := by intro e; rw [e] at Hrl; have := Hrl.out; simp at this; omega
   rcases tk_cases r with ⟨a, s1, htk1, ha, hs1', _⟩ | ⟨x, htk1, hx⟩
   ·have hs1p : 1 ≤ s1 := by have := Pm.tk_pos r (by rw [htk1]); rw [htk1] at this; exact this
    have hs1m : s1 ≤ m := by have := Hrl.out; omega
    have hdl : (r.drop s1).length = m - s1 := by rw [List.length_drop, Hrl.out]
    by_cases h2 : a % 2 = 0
    ·by_cases hsh : m - s1 < a / 2 + 1
     ·have hG := HG.out
      rw [eg_short htk1 h2 (by rw [hdl]; exact hsh)] at hG; simp at hG
     ·by_cases hov : S < o.length + (a / 2 + 1)
      ·have hG := HG.out
       rw [eg_over htk1 h2 (by rw [hdl]; exact hsh) hov] at hG; simp at hG
      ·have hG4 := (eg_lit (p := p) (k := k) (n := S) (out := o) htk1 h2 (by rw [hdl]; exact hsh) hov).symm.trans HG.out
       obtain ⟨K, hK⟩ : ∃ K, K = a / 2 + 1 := ⟨_, rfl⟩
       have hct := takeToken_lit D m dc w.heap.size r a s1 (wr.alloc (.cells #[.bool false, .int .u64 0, .slice none 0 0, .int .u64 0] 247)) (HrD.out.alloc hsz _) (by simp; omega) (by omega) htk1 h2 (by omega)
       rw [← hK] at hG4 hct hsh hov
       have hlen : (o ++ (r.drop s1).take K).length = o.length + K := by rw [List.length_append, List.length_take, hdl]; omega
       have HG4 := ek hG4; have Hct := ek hct; have Hlen := ek hlen; have Hdl := ek hdl
       have hK1 : 1 ≤ K := by omega
       clear hG4 hct hlen htk1 h2 ha hK hne hdl HG HrD
       go_wp2_with fail
       refine Hct.out.mono ?_
       rintro e w2 ⟨E, F, rfl, hE, hF, hb2⟩
       have HE := ek hE; have HF := ek hF; clear hE hF Hct
       have hu : tokV false K (.slice E K (dc - s1)) 0 = .agg #[.bool false, .int .u64 (K : Int), .slice E K (dc - s1), .int .u64 0] := rfl
       rw [hu]
       obtain ⟨htb, hbb2, hs2'⟩ := tokbox _ _ _ _ _ _ _ hb2
       have HTB := ek htb
       clear htb hb2
       obtain ⟨t0, t1, t2, t3, k0, k1, k2, k3, hlt2⟩ := HTB.out
       have hg3 := grown_put4 w2 wr.heap.size (.bool false) (.int .u64 (K : Int)) (.slice E K (dc - s1)) (.int .u64 0)
       have HO3 : Hid (Own (put4 w2 wr.heap.size (.bool false) (.int .u64 (K : Int)) (.slice E K (dc - s1)) (.int .u64 0)) 5 w.heap.size A c o) := ek (Own.same (HO.out.keep hbb2) fun g hg => by
        have h1 := own_ob HO.out g hg
        exact hg3.block g (by omega) (fun e => by cases e; omega))
       have hbel3 : Below w.heap.size w (put4 w2 wr.heap.size (.bool false) (.int .u64 (K : Int)) (.slice E K (dc - s1)) (.int .u64 0)) := below_put4 (hbel.trans (hbb2.mono hsz)) hsz _ _ _ _
       have hs3 : (put4 w2 wr.heap.size (.bool false) (.int .u64 (K : Int)) (.slice E K (dc - s1)) (.int .u64 0)).heap.size = w2.heap.size := by simp [put4]
       have happ := appended_lit A c w.heap.size o E K (dc - s1) w.heap.size 0 ((r.drop s1).take K) (put4 w2 wr.heap.size (.bool false) (.int .u64 (K : Int)) (.slice E K (dc - s1)) (.int .u64 0)) HO3.out (by omega) (HE.out.below (below_put4 (Below.refl w.heap.size w2) hsz _ _ _ _)) (by omega) (by rw [List.length_take]; omega)
       have Happ := ek happ
       clear happ hg3 HO HTB
       go_wp2_with fail
       refine (show Calls Tryz.prog 220 #[tokV false K (.slice E K (dc - s1)) 0, .slice A o.length c] (put4 w2 wr.heap.size (.bool false) (.int .u64 (K : Int)) (.slice E K (dc - s1)) (.int .u64 0)) _ from Happ.out).mono ?_
       rintro e w4 ⟨A2, c2, rfl, hown4, hg4⟩
       have HO4 := ek hown4
       have hbel34 := hg4.below HO3.out (by omega)
       have HF4 := ek (((HF.out.below (Below.refl w.heap.size w2)).below ((below_put4 (Below.refl w.heap.size w2) hsz _ _ _ _).trans hbel34)))
       have hbel4 := hbel3.trans hbel34
       clear Happ hown4 hg4 HO3 HF hbel34
       go_wp2
       go_roundw
       case rel => exact ⟨A2, c2, o ++ (r.drop s1).take K, (r.drop s1).drop K, F, _, _, p + 1, k, by simp, rfl, HO4, HF4, by omega, by rw [Hlen.out]; omega, HG4, hbel4, hbel4.size⟩
       case measure => simp [slen]; omega
    ·have hodd : a % 2 = 1 := by omega
     rcases tk_cases (r.drop s1) with ⟨d, s2, htk2, hd, hs2, _⟩ | ⟨x, htk2, hx⟩
     ·rw [hdl] at hs2
      by_cases hbad : d = 0 ∨ 4096 < d ∨ o.length < d ∨ S - o.length < a / 2 + 4
      ·have hG := HG.out
       rw [eg_bad htk1 hodd htk2 hbad] at hG; simp at hG
      ·have hG4 := (eg_mat (p := p) (k := k) (n := S) (out := o) htk1 hodd htk2 hbad).symm.trans HG.out
       obtain ⟨K, hK⟩ : ∃ K, K = a / 2 + 4 := ⟨_, rfl⟩
       have hct := takeToken_mat D m dc w.heap.size r a s1 d s2 (wr.alloc (.cells #[.bool false, .int .u64 0, .slice none 0 0, .int .u64 0] 247)) (HrD.out.alloc hsz _) (by simp; omega) (by omega) htk1 ha hodd htk2
       rw [← hK] at hG4 hct hbad
       have hlen : (Pm.copyN K d o).length = o.length + K := copyN_len K d o
       have HG4 := ek hG4; have Hct := ek hct; have Hlen := ek hlen
       have hb1 : 1 ≤ d ∧ d ≤ 4096 ∧ d ≤ o.length ∧ o.length + K ≤ S := by omega
       obtain ⟨hd1, hd2, hd3, hoK⟩ := hb1
       clear hG4 hct hlen htk1 h2 ha hK hne hdl hodd hbad htk2 hd HG HrD
       go_wp2_with fail
       refine Hct.out.mono ?_
       rintro e w2 ⟨F, rfl, hF, hb2⟩
       have HF := ek hF; clear hF Hct
       have hu : tokV true K (.slice none 0 0) d = .agg #[.bool true, .int .u64 (K : Int), .slice none 0 0, .int .u64 (d : Int)] := rfl
       rw [hu]
       obtain ⟨htb, hbb2, hs2'⟩ := tokbox _ _ _ _ _ _ _ hb2
       have HTB := ek htb
       clear htb hb2
       obtain ⟨t0, t1, t2, t3, k0, k1, k2, k3, hlt2⟩ := HTB.out
       have hg3 := grown_put4 w2 wr.heap.size (.bool true) (.int .u64 (K : Int)) (.slice none 0 0) (.int .u64 (d : Int))
       have HO3 : Hid (Own (put4 w2 wr.heap.size (.bool true) (.int .u64 (K : Int)) (.slice none 0 0) (.int .u64 (d : Int))) 5 w.heap.size A c o) := ek (Own.same (HO.out.keep hbb2) fun g hg => by
        have h1 := own_ob HO.out g hg
        exact hg3.block g (by omega) (fun e => by cases e; omega))
       have hbel3 : Below w.heap.size w (put4 w2 wr.heap.size (.bool true) (.int .u64 (K : Int)) (.slice none 0 0) (.int .u64 (d : Int))) := below_put4 (hbel.trans (hbb2.mono hsz)) hsz _ _ _ _
       have hs3 : (put4 w2 wr.heap.size (.bool true) (.int .u64 (K : Int)) (.slice none 0 0) (.int .u64 (d : Int))).heap.size = w2.heap.size := by simp [put4]
       have happ := appended_mat A c w.heap.size o K d (put4 w2 wr.heap.size (.bool true) (.int .u64 (K : Int)) (.slice none 0 0) (.int .u64 (d : Int))) HO3.out (by omega) (by omega) (by omega) (by omega) (by omega)
       have Happ := ek happ
       clear happ hg3 HO HTB
       go_wp2_with fail
       refine (show Calls Tryz.prog 220 #[tokV true K (.slice none 0 0) d, .slice A o.length c] (put4 w2 wr.heap.size (.bool true) (.int .u64 (K : Int)) (.slice none 0 0) (.int .u64 (d : Int))) _ from Happ.out).mono ?_
       rintro e w4 ⟨A2, c2, rfl, hown4, hg4⟩
       have HO4 := ek hown4
       have hbel34 := hg4.below HO3.out (by omega)
       have HF4 := ek (((HF.out.below (Below.refl w.heap.size w2)).below ((below_put4 (Below.refl w.heap.size w2) hsz _ _ _ _).trans hbel34)))
       have hbel4 := hbel3.trans hbel34
       clear Happ hown4 hg4 HO3 HF hbel34
       go_wp2
       go_roundw
       case rel => exact ⟨A2, c2, Pm.copyN K d o, (r.drop s1).drop s2, F, _, _, p, k + 1, rfl, rfl, HO4, HF4, by omega, by rw [Hlen.out]; omega, HG4, hbel4, hbel4.size⟩
       case measure => simp [slen]; omega
     ·have hG := HG.out
      rw [eg_err2 htk1 hodd htk2 hx] at hG; simp at hG; omega
   ·have hG := HG.out
    rw [eg_err1 hne htk1 hx] at hG; simp at hG; omega
def RetX (base : Nat) (w : World) (out : List UInt8) (x : Nat) (e : Ending) (w' : World) : Prop :=
 ∃ A c, e = .returned (.tuple #[.slice A out.length c, .int .i64 (x : Int)]) ∧ Own w' 5 base A c out ∧ Below base w w'
theorem expand_c (A : Option Addr) (n c : Nat) (l : List UInt8) (most : Int) (w : World) (hr : Rb w w.heap.size A n c l) (hn : n ≤ 900000) (hm : I64 most) (hsm : ∀ S s, Vm.tk l = (S, s, 0) → (S : Int) ≤ most → S ≤ 2147483647) :
  Calls Tryz.prog 149 #[.slice A n c, .int .i64 most] w (RetX w.heap.size w (Pm.expS l most).1 (Pm.expS l most).2.2.2) := by
 have hsv := surveyed_c A n c w.heap.size l most w hr (Nat.le_refl _) hn hm
 have Hsv := ek hsv; have Hsm := ek hsm; have Hm := ek hm
 have hl := hr.len
 have Hl := ek hl
 clear hsv hsm hm hr hl
 obtain ⟨X, hX⟩ : ∃ X, X = Pm.expS l most := ⟨_, rfl⟩
 rw [← hX]
 have HX := ek hX; clear hX
 go_enter Tryz.func149, Tryz.ntmps149
 go_wp2_with fail
 refine Hsv.out.mono ?_
 rintro e w1 ⟨hb1, ⟨S, s, D, out, p, k, htk, hexp, hgo, rfl, hr1, ⟨h3, h4⟩, _, _⟩ | ⟨x, hexp, hx0, hx100, rfl⟩⟩
 ·have hS := Hsm.out S s htk h4
  obtain rfl : X = (out, p, k, 0) := HX.out.trans hexp
  have hs1 := hb1.size
  have Hgo := ek hgo; have Hr1 := ek hr1; have Htk := ek htk
  clear hgo hr1 htk hexp HX Hsv Hsm
  have hne : (S : Int) ≤ 2147483647 := by omega
  unfold surV
  obtain ⟨m, hm⟩ : ∃ m, m = n - s := ⟨_, rfl⟩
  have hmn : m ≤ n := by omega
  rw [← hm] at Hr1 ⊢
  clear hm
  go_wp2_with fail
  refine (show Calls Tryz.prog 185 #[surV S (.slice D m (c - s)) p k] _ _ from expanded_c S m (c - s) p k p k D (l.drop s) out _ ((Hr1.out.alloc hs1 _).more (by simp; omega)) (by omega) hS Hgo.out).mono ?_
  rintro e w2 ⟨A2, c2, rfl, hown2, hb2⟩
  have hs2 := hb2.size
  go_wp2
  go_ret2
  refine ⟨A2, c2, rfl, hown2.mono (by simp; omega), (hb1.trans ((Below.refl _ _).alloc hs1 _)).trans (hb2.mono (by simp; omega))⟩
 ·obtain rfl : X = ([], 0, 0, x) := HX.out.trans hexp
  have hx0' : ((x : Int) == 0) = false := by simp; omega
  clear hexp HX Hsv Hsm
  unfold surV
  go_wp2
  go_ret2
  exact ⟨none, 0, rfl, Own.nil _ _ _, hb1.trans ((Below.refl _ _).alloc hb1.size _)⟩
end Go.Proofs.YtkekmokdlgocaaaGreatDoor.Cht
