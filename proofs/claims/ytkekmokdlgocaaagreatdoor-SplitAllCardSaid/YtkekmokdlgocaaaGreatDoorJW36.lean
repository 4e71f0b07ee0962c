import Derived.Test.YtkekmokdlgocaaaGreatDoorJW15
import Derived.Test.YtkekmokdlgocaaaGreatDoorJW18
import Derived.Test.YtkekmokdlgocaaaGreatDoorJW19
import Derived.Test.YtkekmokdlgocaaaGreatDoorJW23
import Derived.Test.YtkekmokdlgocaaaGreatDoorJW28
import Derived.Test.YtkekmokdlgocaaaGreatDoorJW35
import Derived.Test.YtkekmokdlgocaaaGreatDoorJW12
import Derived.Test.YtkekmokdlgocaaaGreatDoorJW37
set_option maxRecDepth 100000
set_option maxHeartbeats 4000000
namespace Go.Proofs.YtkekmokdlgocaaaGreatDoor.Pl
open Go.RowKit
def scF (f k : Int) (l : List UInt8) : List (Nat × List (List (List UInt8))) × Nat × Nat :=
 if f = 0 then ((Tm.ls l).map Tm.pc, l.length, 0)
 else if f = 1 then ((Csv.Cv.ls l).map Csv.Cv.pc, Csv.Cv.good l, Csv.Cv.er l)
 else if f = 2 then ((Sq.Sm.ps l).1, (Sq.Sm.ps l).2, Sq.Sm.er l)
 else if f = 3 then Cht.Hm.scS l
 else if f = 4 then ((Fix.Fx.ch l k.toNat).map Tm.pc, l.length / k.toNat * k.toNat, Fix.scE l.length k.toNat)
 else Bun.Bm.scS l
def RetS (w : World) (t : List (Nat × List (List (List UInt8))) × Nat × Nat) (e : Ending) (w' : World) : Prop :=
 ∃ A c, e = .returned (.tuple #[.slice A t.1.length c, .int .i64 (t.2.1 : Int), .int .i64 (t.2.2 : Int)]) ∧ PLS w' (Fr w.heap.size w') A t.1.length c t.1 ∧ Below w.heap.size w w'
def inF (f : Int) (l : List UInt8) (a : Int) : Bool := f == 1 && Csv.Cv.odd (l.take a.toNat)
def Ent (a : Nat) : Prop := ∀ args W, Sem.run Tryz.prog (callFunc a args) W = .ok (.enter a args) W
theorem ent_of {f : FuncId} {fn : Func} {c : Code} (hf : Tryz.prog.funcs[f]? = some fn) (hname : (fn.name == "runtime.NumGoroutine") = false) (hb : fn.body = some c) : Ent f := fun args W => enters_of hf hname hb args W
theorem fixed1_c (A : Option Addr) (n c g k : Nat) (l : List UInt8) (w : World) (hr : Rb w w.heap.size A n c l) (hn : n ≤ 90000) (hk : 1 ≤ k) (hk2 : k ≤ 1000) (hg : w.cell? ⟨g, 0,none⟩ = some (.int .i64 (k : Int))) :
  Calls Tryz.prog 122 #[.slice A n c, .pointer (some ⟨g, 0,none⟩)] w (RetS w (scF 4 k l)) := by
 have hc := Fix.scan_c A n c k l w hr (by omega) hk hk2
 have Hc := ek hc
 clear hc hr
 go_enter Tryz.func122, Tryz.ntmps122
 go_wp2_with fail
 refine Hc.out.mono ?_
 rintro e w' ⟨A1, c1, rfl, h1, h2⟩
 have H1 := ek h1
 clear h1
 go_wp2
 go_ret3
 exact ⟨A1, c1, by simp [scF], by simpa [scF] using H1.out, h2⟩
theorem outside_c (A : Option Addr) (n c : Nat) (a : Int) (w : World) : Calls Tryz.prog 126 #[.slice A n c, .int .i64 a] w fun e w' => e = .returned (.bool false) ∧ w = w' := by
 go_enter Tryz.func126, Tryz.ntmps126
 go_wp2
 go_ret
 exact ⟨rfl,rfl⟩
theorem scF_txt (k : Int) (l : List UInt8) : scF 0 k l = ((Tm.ls l).map Tm.pc, l.length, 0) := rfl
theorem scF_csv (k : Int) (l : List UInt8) : scF 1 k l = ((Csv.Cv.ls l).map Csv.Cv.pc, Csv.Cv.good l, Csv.Cv.er l) := rfl
theorem scF_seq (k : Int) (l : List UInt8) : scF 2 k l = ((Sq.Sm.ps l).1, (Sq.Sm.ps l).2, Sq.Sm.er l) := rfl
theorem scF_cht (k : Int) (l : List UInt8) : scF 3 k l = Cht.Hm.scS l := rfl
theorem scF_fix (k : Int) (l : List UInt8) : scF 4 k l = ((Fix.Fx.ch l k.toNat).map Tm.pc, l.length / k.toNat * k.toNat, Fix.scE l.length k.toNat) := rfl
theorem scF_bun (k : Int) (l : List UInt8) : scF 5 k l = Bun.Bm.scS l := rfl
theorem F3.scan {W0 : World} {f k : Int} {s r i : Value} (h : F3 W0 f k s r i) :
  ∃ a ca, s = fv a ca ∧ Ent a ∧ ∀ (W : World) (A : Option Addr) (n c : Nat) (l : List UInt8), Below W0.heap.size W0 W → Rb W W.heap.size A n c l → n ≤ 90000 → Sq.Mx W → Calls Tryz.prog a (#[.slice A n c] ++ ca) W (RetS W (scF f k l)) := by
 rcases h with ⟨_, rfl, h⟩ | ⟨rfl, h1, h2, g, hg, hlt, rfl, rfl, rfl⟩
 ·rcases h with ⟨rfl, rfl, -⟩ | ⟨rfl, rfl, -⟩ | ⟨rfl, rfl, -⟩ | ⟨rfl, rfl, -⟩ | ⟨rfl, rfl, -⟩
  ·refine ⟨_, _, rfl, ent_of Tryz.func127 (by kernel_rfl) rfl, fun W A n c l _ hr hn _ => (Txt.scan_c A n c l W hr (by omega)).mono fun e w' ⟨A1, c1, h0, h1, h2⟩ => ?_⟩
   rw [scF_txt]
   exact ⟨A1, c1, by rw [List.length_map]; exact h0, by rw [List.length_map]; exact h1, h2⟩
  ·refine ⟨_, _, rfl, ent_of Tryz.func129 (by kernel_rfl) rfl, fun W A n c l _ hr hn _ => (Csv.scan_c A n c l W hr (by omega)).mono fun e w' ⟨A1, c1, h0, h1, h2⟩ => ?_⟩
   rw [scF_csv]
   exact ⟨A1, c1, by rw [List.length_map]; exact h0, by rw [List.length_map]; exact h1, h2⟩
  ·refine ⟨_, _, rfl, ent_of Tryz.func132 (by kernel_rfl) rfl, fun W A n c l _ hr hn hx => (Sq.scan_c A n c l W hr (by omega) hx).mono fun e w' ⟨A1, c1, h0, h1, h2⟩ => ?_⟩
   rw [scF_seq]
   exact ⟨A1, c1, h0, h1, h2⟩
  ·refine ⟨_, _, rfl, ent_of Tryz.func76 (by kernel_rfl) rfl, fun W A n c l _ hr hn _ => (Cht.scan_c A n c l W hr (by omega)).mono fun e w' ⟨A1, c1, h0, h1, h2⟩ => ?_⟩
   rw [scF_cht]
   exact ⟨A1, c1, h0, h1, h2⟩
  ·refine ⟨_, _, rfl, ent_of Tryz.func83 (by kernel_rfl) rfl, fun W A n c l _ hr hn _ => (Bun.scan_c A n c l W hr (by omega)).mono fun e w' ⟨A1, c1, h0, h1, h2⟩ => ?_⟩
   rw [scF_bun]
   exact ⟨A1, c1, h0, h1, h2⟩
 ·refine ⟨_, _, rfl, ent_of Tryz.func122 (by kernel_rfl) rfl, fun W A n c l hb hr hn _ => ?_⟩
  have e : ((k.toNat : Nat) : Int) = k := by omega
  have hc := (hb.cell (p := ⟨g, 0,none⟩) hlt).trans hg
  rw [← e] at hc
  have := fixed1_c A n c g k.toNat l W hr hn (by omega) (by omega) hc
  rw [e] at this
  exact this
theorem asc_take {hi : Nat} : ∀ {l : List Nat} {lo : Nat} (k : Nat), Asc lo hi l → Asc lo hi (l.take k)
 | [], _, _, _ => by simp [Asc]
 | _ :: _, _, 0, _ => trivial
 | _ :: _, _, k + 1, h => ⟨h.1, h.2.1, asc_take k h.2.2⟩
theorem pcs_at : ∀ (D : List Bun.Bm.F) (V : List (List UInt8)), (Bun.Bm.pcs D V).map (·.1) = (D.take V.length).map (·.at_)
 | [], V => by simp [Bun.Bm.pcs]
 | f :: D, [] => by simp [Bun.Bm.pcs]
 | f :: D, x :: V => by
  have ih := pcs_at D V
  unfold Bun.Bm.pcs at ih ⊢
  simp only [List.zipWith_cons_cons, List.map_cons, List.length_cons, List.take_succ_cons, ih]
theorem bun_dir {b : List UInt8} {D : List Bun.Bm.F} {e : Nat} (h : Bun.Bm.dir b = some (D, e)) : Asc 0 b.length (D.map (·.at_)) := by
 rcases h1 : Bun.Bm.num b.length b with _ | ⟨z, s⟩
 ·rw [Bun.Bm.dir_nonum h1] at h; cases h
 ·by_cases h2 : z ≤ b.length - s
  ·rcases Bun.Bm.open_kinds ((b.take (s + z)).drop s) with ⟨x, h3⟩ | ⟨k, hk, h3⟩
   ·rw [Bun.Bm.dir_in h1 h2 h3] at h
    have ho := congrArg List.length (Bun.Bm.open_only h3)
    rw [Bun.Bm.sl_len, List.length_drop, List.length_take] at ho
    have hs := (Bun.Bm.num_only h1).2.2.2.1
    rcases h4 : Bun.Bm.num 1000 x with _ | ⟨m, s2⟩
    ·rw [Bun.Bm.takeE_nonum h4] at h; cases h
    ·have hs2 := (Bun.Bm.num_only h4).2.2.2.1
     rcases h5 : Bun.Bm.rdE m s s2 (s + z) [] x with _ | ⟨D', p, e'⟩
     ·rw [Bun.Bm.takeE_none h4 h5] at h; cases h
     ·by_cases hp : p = x.length
      ·rw [Bun.Bm.takeE_ok h4 h5 hp] at h
       injection h with h
       injection h with h6 h7
       subst h6
       exact ((bun_rd m s s2 (s + z) [] x D' p e' hs2 h5).1.low (Nat.zero_le _)).high (by omega)
      ·rw [Bun.Bm.takeE_more h4 h5 hp] at h; cases h
   ·rw [Bun.Bm.dir_bad h1 h2 h3 hk] at h; cases h
  ·rw [Bun.Bm.dir_short h1 h2] at h; cases h
theorem bun_asc (b : List UInt8) : Asc 0 b.length ((Bun.Bm.scS b).1.map (·.1)) := by
 rcases h : Bun.Bm.dir b with _ | ⟨D, e⟩
 ·rw [Bun.Bm.scS_none h]; trivial
 ·rw [Bun.Bm.scS_pcs h, pcs_at, List.map_take]
  exact asc_take _ (bun_dir h)
theorem map_pc (l : List (Nat × List UInt8)) : (l.map Tm.pc).map (·.1) = l.map (·.1) := by rw [List.map_map]; rfl
theorem map_cpc (l : List (Nat × List (List UInt8))) : (l.map Csv.Cv.pc).map (·.1) = l.map (·.1) := by rw [List.map_map]; rfl
theorem asc_F {f k : Int} (h : isF f k = true) (l : List UInt8) : Asc 0 l.length ((scF f k l).1.map (·.1)) := by
 unfold scF
 split
 ·dsimp only
  rw [map_pc]
  have := txt_asc l 0 []
  rw [show 0 + ([] : List UInt8).length + l.length = l.length by simp] at this
  exact this
 ·split
  ·dsimp only
   rw [map_cpc]
   have := csv_asc l 0 .bg [] [] 0 (Nat.le_refl _)
   rw [Nat.zero_add] at this
   exact this
  ·split
   ·exact sq_asc l
   ·split
    ·unfold Cht.Hm.scS
     rcases hi : Cht.Hm.ix l with _ | L
     ·trivial
     ·obtain ⟨-, h2, h3⟩ := Cht.Hm.ix_inv hi
      have := cht_asc l L 0 h3
      rw [Nat.zero_add] at this
      exact this.high (by omega)
    ·split
     ·rename_i h4
      subst h4
      have hk : 1 ≤ k.toNat := by
       unfold isF at h
       rw [if_pos rfl] at h
       simp at h
       omega
      dsimp only
      rw [map_pc]
      have := fix_asc l k.toNat hk (l.length / k.toNat) 0
      rw [Nat.zero_mul, Nat.zero_add] at this
      exact this.high (Nat.div_mul_le_self _ _)
     ·exact bun_asc l
end Go.Proofs.YtkekmokdlgocaaaGreatDoor.Pl
namespace Go.Proofs.YtkekmokdlgocaaaGreatDoor.Pl
def rdP (P : List (Nat × List (List (List UInt8)))) (a b : Nat) : List (List (List UInt8)) := Tm.all (Tm.btw a b P)
def ef (f : Int) (e : Nat) : Nat := if e = 0 then 0 else if f = 4 then 2 else 3
def told (f : Int) (g e a b : Nat) : Nat := if f = 5 then (if 0 < a then 0 else ef f e) else if b ≤ g then 0 else ef f e
def toldW (f : Int) (g e i b : Nat) : Nat := if f = 5 then (if i = 0 then 0 else ef f e) else if b ≤ g then 0 else ef f e
theorem asc_sorted {hi : Nat} : ∀ {P : List (Nat × List (List (List UInt8)))} {lo : Nat}, Asc lo hi (P.map (·.1)) → P.Pairwise (fun p q => p.1 ≤ q.1) ∧ ∀ p ∈ P, lo ≤ p.1 ∧ p.1 < hi
 | [], _, _ => ⟨List.Pairwise.nil, fun p hp => (by cases hp)⟩
 | x :: P, lo, h => by
  obtain ⟨h1, h2, h3⟩ := h
  have h1 : lo ≤ x.1 := h1
  have h2 : x.1 < hi := h2
  obtain ⟨i1, i2⟩ := asc_sorted h3
  dsimp only at i2
  refine ⟨List.pairwise_cons.2 ⟨fun q hq => by have := (i2 q hq).1; omega, i1⟩, fun p hp => ?_⟩
  rcases List.mem_cons.1 hp with rfl | hp
  ·exact ⟨h1, h2⟩
  ·have := i2 p hp
   exact ⟨by omega, this.2⟩
theorem rdP_next {P : List (Nat × List (List (List UInt8)))} {hi : Nat} (h : Asc 0 hi (P.map (·.1))) (a b c : Nat) (h1 : a ≤ b) (h2 : b ≤ c) : rdP P a c = rdP P a b ++ rdP P b c := by
 unfold rdP Tm.btw
 rw [Cht.Hm.filter_split a b c h1 h2 P (asc_sorted h).1, Tm.all_app]
theorem rdP_none (P : List (Nat × List (List (List UInt8)))) (a : Nat) : rdP P a a = [] := by
 unfold rdP Tm.btw
 rw [List.filter_eq_nil_iff.2 (fun p _ => by simp)]
 rfl
theorem rdP_all {P : List (Nat × List (List (List UInt8)))} {n : Nat} (h : Asc 0 n (P.map (·.1))) : rdP P 0 n = Tm.all P := by
 unfold rdP Tm.btw
 rw [List.filter_eq_self.2 fun p hp => by have := ((asc_sorted h).2 p hp).2; simpa using this]
theorem rdP_len (P : List (Nat × List (List (List UInt8)))) (a b : Nat) : (rdP P a b).length ≤ (Tm.all P).length := Tm.btw_len a b P
theorem toldW_first (f : Int) (g e : Nat) : toldW f g e 0 0 = 0 := by unfold toldW; simp
theorem toldW_next (f : Int) (g e i a b : Nat) (h0 : i = 0 ↔ a = 0) (hab : a ≤ b) : toldW f g e (i + 1) b = if toldW f g e i a = 0 then told f g e a b else toldW f g e i a := by
 unfold toldW told
 by_cases h5 : f = 5
 ·rw [if_pos h5, if_pos h5, if_pos h5]
  by_cases hi : i = 0
  ·have ha := h0.1 hi
   subst hi ha
   simp
  ·have ha : 0 < a := Nat.pos_of_ne_zero fun q => hi (h0.2 q)
   rw [if_neg hi, if_pos ha]
   by_cases he : ef f e = 0
   ·simp [he]
   ·simp [he]
 ·rw [if_neg h5, if_neg h5, if_neg h5]
  by_cases hag : a ≤ g
  ·rw [if_pos hag]; simp
  ·have hbg : ¬ b ≤ g := by omega
   rw [if_neg hag, if_neg hbg]
   by_cases he : ef f e = 0 <;> simp [he]
theorem scF_full {f k : Int} (hF : isF f k = true) {l : List UInt8} (h5 : f ≠ 5) (he : (scF f k l).2.2 = 0) : (scF f k l).2.1 = l.length := by
 have hcase : f = 0 ∨ f = 1 ∨ f = 2 ∨ f = 3 ∨ f = 4 := by
  unfold isF at hF
  split at hF
  ·omega
  ·unfold isU at hF
   simp at hF
   omega
 rcases hcase with rfl | rfl | rfl | rfl | rfl
 ·rfl
 ·rcases Csv.Cv.er_or l with ⟨-, h⟩ | ⟨h, -⟩
  ·exact h
  ·have he : Csv.Cv.er l = 0 := he
   omega
 ·have he : Sq.Sm.er l = 0 := he
  unfold Sq.Sm.er at he
  split at he
  ·rename_i h; exact h.2
  ·cases he
 ·rcases (Cht.Hm.scS_facts l).2.2.2.2 with ⟨h, -⟩ | ⟨-, h⟩
  ·have he : (Cht.Hm.scS l).2.2 = 0 := he
   omega
  ·exact h
 ·have he : Fix.scE l.length k.toNat = 0 := he
  show l.length / k.toNat * k.toNat = l.length
  unfold Fix.scE at he
  split at he
  ·cases he
  ·have := Nat.div_mul_le_self l.length k.toNat
   omega
theorem told_ge {f k : Int} (hF : isF f k = true) {l : List UInt8} (h5 : f ≠ 5) (a t : Nat) (ht : t ≤ l.length) : told f (scF f k l).2.1 (scF f k l).2.2 a t = if (scF f k l).2.1 < t then (if f = 4 then 2 else 3) else 0 := by
 unfold told
 rw [if_neg h5]
 by_cases hg : (scF f k l).2.1 < t
 ·rw [if_pos hg, if_neg (by omega)]
  unfold ef
  rw [if_neg fun he => by have := scF_full hF h5 he; omega]
 ·rw [if_neg hg, if_pos (by omega)]
end Go.Proofs.YtkekmokdlgocaaaGreatDoor.Pl
namespace Go.Proofs.YtkekmokdlgocaaaGreatDoor.Pl
open Go.RowKit
def insF (f : Int) (b : List UInt8) (C : List Nat) : List Bool := C.map fun c : Nat => inF f b (c : Int)
def lvb (L : List Bool) : List Value := L.map .bool
theorem lvb_len (L : List Bool) : (lvb L).length = L.length := by simp [lvb]
theorem insF_len (f : Int) (b : List UInt8) (C : List Nat) : (insF f b C).length = C.length := by simp [insF]
theorem inF_next (f : Int) (b : List UInt8) (c d : Nat) (h : c ≤ d) : inF f b (d : Int) = (inF f b (c : Int) != inF f (b.drop c) ((d : Int) - (c : Int))) := by
 unfold inF
 by_cases h1 : f = 1
 ·subst h1
  have e : ((d : Int) - (c : Int)).toNat = d - c := by omega
  simp only [beq_self_eq_true, Bool.true_and, Int.toNat_natCast, e]
  exact odd_next b c d h
 ·rw [beq_eq_false_iff_ne.2 h1]; rfl
theorem inF_zero (f : Int) (b : List UInt8) : inF f b ((0 : Nat) : Int) = false := by
 unfold inF
 simp [Csv.Cv.odd_nil]
abbrev brow (f : Int) (b : List UInt8) (C : List Nat) (j m : Nat) : List Value := lvb (insF f b (C.take j)) ++ List.replicate (m - j) (.bool false)
theorem brow_len (f : Int) (b : List UInt8) (C : List Nat) (j m : Nat) (h : C.length = m) (hj : j ≤ m) : (brow f b C j m).length = m := by
 rw [List.length_append, lvb_len, insF_len, List.length_take, List.length_replicate]; omega
theorem brow_next (f : Int) (b : List UInt8) (C : List Nat) (j m d : Nat) (h : C[j]? = some d) (hm : C.length = m) (hj : j < m) :
  (brow f b C j m).set j (.bool (inF f b (d : Int))) = brow f b C (j + 1) m := by
 have hl : (lvb (insF f b (C.take j))).length = j := by rw [lvb_len, insF_len, List.length_take]; omega
 unfold brow
 rw [List.set_append_right _ _ (by omega), hl, Nat.sub_self, show m - j = (m - (j + 1)) + 1 by omega, List.replicate_succ, List.set_cons_zero, List.take_add_one, h]
 unfold insF lvb
 simp
theorem brow_get (f : Int) (b : List UInt8) (C : List Nat) (i j m c : Nat) (h : C[i]? = some c) (hi : i < j) : (brow f b C j m)[i]? = some (.bool (inF f b (c : Int))) := by
 have hl : i < C.length := by
  rcases Nat.lt_or_ge i C.length with h1 | h1
  ·exact h1
  ·rw [List.getElem?_eq_none h1] at h; cases h
 unfold brow
 rw [List.getElem?_append_left (by rw [lvb_len, insF_len, List.length_take]; omega)]
 unfold lvb insF
 simp [hi, h]
theorem brow_old (f : Int) (b : List UInt8) (C : List Nat) (j m : Nat) (h : C.length = m) (hj : j < m) : (brow f b C j m)[j]? = some (.bool false) :=
 Bun.row_old _ j m _ (by rw [lvb_len, insF_len, List.length_take]; omega) hj
theorem brow_one (f : Int) (b : List UInt8) (C : List Nat) (m : Nat) (h0 : C[0]? = some 0) (hm : 1 ≤ m) : (Bun.mrow (.bool false) m).toList = brow f b C 1 m := by
 have e : C.take 1 = [0] := by
  rcases C with _ | ⟨a, C⟩
  ·simp at h0
  ·simp at h0; subst h0; rfl
 unfold brow
 rw [e]
 unfold Bun.mrow lvb insF
 obtain ⟨k, rfl⟩ : ∃ k, m = k + 1 := ⟨m - 1, by omega⟩
 simp only [List.map_cons, List.map_nil, inF_zero, List.replicate_succ]
 rfl
theorem bty1 : Sl Tryz.prog 26 4 (.bool false) 1 1 := ⟨Tryz.underlying26, by kernel_rfl, rfl, by omega⟩
theorem inv_out (f : Int) (hf : f ≠ 1) (D : Option Addr) (n c : Nat) (x : Int) (l : List UInt8) (W : World) : Calls Tryz.prog 126 #[.slice D n c, .int .i64 x] W fun e w' => e = .returned (.bool (inF f l x)) ∧ Below W.heap.size W w' :=
 (outside_c D n c x W).mono fun e w2 ⟨h1, h2⟩ => ⟨by rw [h1, inF, beq_eq_false_iff_ne.2 hf]; rfl, by rw [← h2]; exact Below.refl _ _⟩
theorem inv_csv (D : Option Addr) (n c : Nat) (x : Int) (l : List UInt8) (W : World) (hx : I64 x) (hr : Rb W W.heap.size D n c l) (hn : n ≤ 1000000) : Calls Tryz.prog 131 #[.slice D n c, .int .i64 x] W fun e w' => e = .returned (.bool (inF 1 l x)) ∧ Below W.heap.size W w' :=
 (Csv.inside_c D n c l x hx W hr hn).mono fun e w2 ⟨h1, h2⟩ => ⟨by rw [h1]; rfl, h2⟩
def InsRel (g m : Nat) (w : World) (f : Int) (l : List UInt8) (C : List Nat) (i : Value) (wr : World) : Prop :=
 ∃ j : Nat, i = .int .i64 (j : Int) ∧ 1 ≤ j ∧ j ≤ m ∧ Oc 1 wr 4 g (some ⟨g, 0,none⟩) m m (brow f l C j m) ∧ Below w.heap.size w wr
def RetB (w : World) (L : List Bool) (e : Ending) (w' : World) : Prop :=
 ∃ A c, e = .returned (.slice A L.length c) ∧ RcS 1 w' (Fr w.heap.size w') A L.length c (lvb L) ∧ Below w.heap.size w w'
theorem insides_out (A : Option Addr) (n c : Nat) (l : List UInt8) (E : Option Addr) (m d : Nat) (C : List Nat) (s r : Value) (f : Int) (hf : f ≠ 1) (w : World) (hr : Rb w w.heap.size A n c l) (hn : n ≤ 90000) (hc : Rc 1 w w.heap.size E m d (ivs (ic C))) (hC : Cu n C) :
  Calls Tryz.prog 46 #[.agg #[s, r, fv 126 #[]], .slice A n c, .slice E m d] w (RetB w (insF f l C)) := by
 have hl := hr.len
 have hCl : C.length = m := by have := hc.len1; rw [ivs_length, ic_len] at this; exact this
 have hA := cu_get hC
 obtain ⟨hC1, hC0⟩ := cu_pos hC
 have hnc := hr.2.1
 have hcm : c ≤ 9223372036854775807 := by have h3 := hr.2.2.1; unfold maxLen at h3; omega
 have hm : m ≤ n + 1 := by
  have h1 : ∀ (L : List Nat) (lo hi : Nat), Asc lo hi L → lo + L.length ≤ hi ∨ L = [] := by
   intro L
   induction L with
   | nil => intro lo hi _; exact .inr rfl
   | cons x L ih =>
    intro lo hi h
    left
    have := h.1
    rcases ih (x + 1) hi h.2.2 with h2 | h2
    ·simp only [List.length_cons]; omega
    ·subst h2; have := h.2.1; simp only [List.length_cons, List.length_nil]; omega
  rcases h1 C 0 (n + 1) hA with h2 | h2
  ·omega
  ·subst h2; simp at hC0
 obtain ⟨w1, hw1⟩ : ∃ w1, w1 = w.alloc (.cells #[s, r, fv 126 #[]] 89) := ⟨_, rfl⟩
 have z1 : w1.heap.size = w.heap.size + 1 := by rw [hw1]; simp
 have b1 : Below w.heap.size w w1 := by rw [hw1]; exact ej _ _
 have c1 : w1.cell? ⟨w.heap.size, 2,none⟩ = some (fv 126 #[]) := by rw [hw1]; simp
 obtain ⟨w2, hw2⟩ : ∃ w2, w2 = w1.alloc (.cells (Bun.mrow (.bool false) m) 4) := ⟨_, rfl⟩
 have hmk := Bun.make1 bty1 rfl (by omega) w1 m (by omega)
 rw [← hw2] at hmk
 have b12 : Below w1.heap.size w1 w2 := by rw [hw2]; exact ej _ _
 have b2 := b1.trans (b12.mono (by omega))
 have z2 : w2.heap.size = w.heap.size + 2 := by rw [hw2]; simp [z1]
 have hown : Oc 1 w2 4 w1.heap.size (some ⟨w1.heap.size, 0,none⟩) m m (brow f l C 1 m) := by
  rw [hw2, ← brow_one f l C m hC0 (by omega)]
  exact Oc.lit (z := 1) w1 4 (Bun.mrow (.bool false) m) m (by simp [Bun.mrow]) (by simp only [maxLen]; omega)
 rw [z1] at hmk hown
 have c2 : w2.cell? ⟨w.heap.size, 2,none⟩ = some (fv 126 #[]) := (b12.cell (p := ⟨w.heap.size, 2,none⟩) (by show w.heap.size < _; omega)).trans c1
 have hm1 : 1 ≤ m := by omega
 obtain ⟨G, hG⟩ : ∃ G, G = w.heap.size + 1 := ⟨_, rfl⟩
 rw [← hG] at hmk hown
 have W1 := ek hw1; have Hr := ek hr; have Hc := ek hc; have HA := ek hA; have HG := ek hG; have B2 := ek b2; have Hown := ek hown; have Hl := ek hl; have HCl := ek hCl
 clear hw1 b1 c1 hw2 b12 z1 b2 hr hc hA hC hC0 hG hown hl hCl hC1
 go_enter Tryz.func46, Tryz.ntmps46
 go_wp2_with (rw [← W1.out])
 go_loopw [8, 9, 10] (fun i _ _ wr => InsRel G m w f l C i wr ∧ wr.cell? ⟨w.heap.size, 2,none⟩ = some (fv 126 #[])) (fun i _ _ _ => m - (intOf i).toNat)
 case atStart => exact ⟨⟨1, rfl, Nat.le_refl _, hm1, Hown.out, B2.out⟩, c2⟩
 case round =>
  obtain ⟨⟨j, rfl, hj1, hjm, hown, hbel⟩, hc2⟩ := hrel
  rename World => wr
  have z3 := hbel.size
  have hown' := ek hown
  clear hown hmk
  by_cases hlt : j < m
  ·obtain ⟨J, hJ⟩ : ∃ J, J = j - 1 := ⟨_, rfl⟩
   have hR := Hc.out.below hbel
   obtain ⟨eb, eo, x, rfl, hb3, hcx, hx⟩ := hR.int (k := J) (by omega)
   obtain ⟨eb2, eo2, y, e', hb4, hcy, hy⟩ := hR.int (k := j) hlt
   injection e' with e'
   injection e' with e3 e4 _
   subst e3 e4
   obtain ⟨cJ, hcJ, rfl⟩ := ic_inv hx
   obtain ⟨cj, hcj, rfl⟩ := ic_inv hy
   have hlt2 := HA.out.get J j cJ cj (by omega) hcJ hcj
   have hle := (HA.out.mem cj (List.mem_of_getElem? hcj)).2
   obtain ⟨D, hD, hrD⟩ := bty.from_ ((Hr.out.below hbel).more z3) (k := cJ) (by omega) (cJ : Int) rfl
   have hcall := fun (W : World) (_ : Rb W W.heap.size D (n - cJ) (c - cJ) (l.drop cJ)) => inv_out f hf D (n - cJ) (c - cJ) ((cj : Int) - (cJ : Int)) (l.drop cJ) W
   obtain ⟨v, hv⟩ : ∃ v, v = cj - cJ := ⟨_, rfl⟩
   obtain ⟨q, hq⟩ : ∃ q, q = inF f (l.drop cJ) ((cj : Int) - (cJ : Int)) := ⟨_, rfl⟩
   have e1 : (cj : Int) - (cJ : Int) = (v : Int) := by omega
   rw [← hq, e1] at hcall
   have e2 : IntKind.i64.wrap (v : Int) = (v : Int) := IntWalk.i64_in _ (by omega)
   have e3 : IntKind.i64.wrap ((cj : Int) - (cJ : Int)) = (v : Int) := by rw [e1]; exact e2
   obtain ⟨p, hp⟩ : ∃ p, p = inF f l (cJ : Int) := ⟨_, rfl⟩
   have hnew := inF_next f l cJ cj (by omega)
   rw [← hq, ← hp] at hnew
   have hrow := brow_get f l C J j m cJ hcJ (by omega)
   rw [← hp] at hrow
   have hold := brow_old f l C j m HCl.out hlt
   have hnext := brow_next f l C j m cj hcj HCl.out hlt
   rw [hnew] at hnext
   replace hnext : (brow f l C j m).set j (.bool (!(p == q))) = brow f l C (j + 1) m := hnext
   have hbl := brow_len f l C j m HCl.out hjm
   have Hcall := ek hcall; have Hrr := ek hrD; have Hnext := ek hnext; have Hrow := ek hrow; have Hold := ek hold; have HJ := ek (show J + 1 = j by omega); have Hbl := ek hbl
   have q1 : IntKind.i64.wrap ((j : Int) - 1) = (j : Int) - 1 := IntWalk.i64_in _ (by omega)
   have q2 : 0 ≤ (j : Int) - 1 := by omega
   have q3 : ((j : Int) - 1).toNat = J := by omega
   have q4 : (j : Int) - 1 < (m : Int) := by omega
   have q5 : (1 : Int) ≤ (j : Int) := by omega
   have q6 : (0 : Int) ≤ (j : Int) := by omega
   have q7 : (j : Int) < (m : Int) := by omega
   have hgl : w.heap.size < wr.heap.size := World.block_lt_of_cell? wr _ hc2
   clear hcall hrD hnext hrow hold hbl hJ hR hx hy hcJ hcj hlt2 hle hv hq hp hnew c2
   have hgl2 : eb < wr.heap.size := by omega
   go_wp2_with fail
   go_region_held3 (fun w' => w'.cell? ⟨w.heap.size, 2,none⟩ = some (fv 126 #[]) ∧ w'.cell? ⟨eb, eo + j,none⟩ = some (.int .i64 (cj : Int))) (go_keep) ((go_at_call 126; (with_reducible refine (Hcall.out _ ?_).mono ?_); exact Hrr.out; rintro e w4 ⟨rfl, hb4⟩; have hb4' : Below wr.heap.size wr w4 := ⟨hb4.os, hb4.tape, hb4.output, hb4.size, hb4.block⟩; have f0 : w4.cell? ⟨w.heap.size, 2,none⟩ = some (fv 126 #[]) := (hb4'.cell (p := ⟨w.heap.size, 2,none⟩) hgl).trans hc2; have f1 : w4.cell? ⟨eb, eo + j,none⟩ = some (.int .i64 (cj : Int)) := (hb4'.cell (p := ⟨eb, eo + j,none⟩) hgl2).trans hcy))
   have z4 := hb4'.size
   have hown4 := hown'.out.keep hb4'
   have r0 : w4.cell? ⟨G, J,none⟩ = some (.bool p) := by rw [World.ownsRow.cellAt hown4 J (by have := HJ.out; omega)]; exact Hrow.out
   have r1 : w4.cell? ⟨G, j,none⟩ = some (.bool false) := by rw [World.ownsRow.cellAt hown4 j (by omega)]; exact Hold.out
   have r2 : w4.frozen? ⟨G, j,none⟩ = false := World.ownsRow.frozenAt hown4 j
   have hst := (World.ownsRow.stored hown4 j (.bool (!(p == q)))).1
   rw [Hnext.out] at hst
   obtain ⟨w5, hw5⟩ : ∃ w5, w5 = w4.setCell ⟨G, j,none⟩ (.bool (!(p == q))) := ⟨_, rfl⟩
   have hGl : G < w4.heap.size := (Oc.lt hown4 rfl).2
   have b5 : Below w.heap.size w4 w5 := by rw [hw5]; exact (Below.refl _ _).setCell (by show w.heap.size ≤ G; have := HG.out; omega) _
   have g0 : w5.cell? ⟨w.heap.size, 2,none⟩ = some (fv 126 #[]) := by
    rw [hw5, World.cell?_setCell_other _ _ _ _ (by intro q; injection q with q; have := HG.out; omega)]
    exact f0
   rw [← hw5] at hst
   have bw5 := (hbel.trans (hb4'.mono z3)).trans b5
   have Hst := ek hst; have W5 := ek hw5
   clear hst hw5 b5 hown4 f0 f1 hb4 hb4'
   go_wp2
   rw [← W5.out]
   go_roundw
   case rel => exact ⟨⟨j + 1, by go_num, by omega, by omega, Hst.out, bw5⟩, g0⟩
   case measure => simp [intOf]; omega
  ·have e : j = m := by omega
   subst e
   have h5 := hown'.out.rcS
   unfold brow at h5
   rw [Nat.sub_self, List.replicate_zero, List.append_nil, List.take_of_length_le (by rw [HCl.out]; exact Nat.le_refl _)] at h5
   have hln : (insF f l C).length = j := by rw [insF_len, HCl.out]
   have H5 := ek (h5.keep (stays_weak fun b (hb : Fr G wr b) => (show Fr w.heap.size wr b from ⟨by have := hb.1; have := HG.out; omega, hb.2⟩))); have Hln := ek hln
   clear h5 hln
   go_wp2
   go_ret
   exact ⟨_, _, by rw [Hln.out]; rfl, by rw [Hln.out]; exact H5.out, hbel⟩
theorem insides_csv (A : Option Addr) (n c : Nat) (l : List UInt8) (E : Option Addr) (m d : Nat) (C : List Nat) (s r : Value) (f : Int) (hf : f = 1) (w : World) (hr : Rb w w.heap.size A n c l) (hn : n ≤ 90000) (hc : Rc 1 w w.heap.size E m d (ivs (ic C))) (hC : Cu n C) :
  Calls Tryz.prog 46 #[.agg #[s, r, fv 131 #[]], .slice A n c, .slice E m d] w (RetB w (insF f l C)) := by
 have hl := hr.len
 have hCl : C.length = m := by have := hc.len1; rw [ivs_length, ic_len] at this; exact this
 have hA := cu_get hC
 obtain ⟨hC1, hC0⟩ := cu_pos hC
 have hnc := hr.2.1
 have hcm : c ≤ 9223372036854775807 := by have h3 := hr.2.2.1; unfold maxLen at h3; omega
 have hm : m ≤ n + 1 := by
  have h1 : ∀ (L : List Nat) (lo hi : Nat), Asc lo hi L → lo + L.length ≤ hi ∨ L = [] := by
   intro L
   induction L with
   | nil => intro lo hi _; exact .inr rfl
   | cons x L ih =>
    intro lo hi h
    left
    have := h.1
    rcases ih (x + 1) hi h.2.2 with h2 | h2
    ·simp only [List.length_cons]; omega
    ·subst h2; have := h.2.1; simp only [List.length_cons, List.length_nil]; omega
  rcases h1 C 0 (n + 1) hA with h2 | h2
  ·omega
  ·subst h2; simp at hC0
 obtain ⟨w1, hw1⟩ : ∃ w1, w1 = w.alloc (.cells #[s, r, fv 131 #[]] 89) := ⟨_, rfl⟩
 have z1 : w1.heap.size = w.heap.size + 1 := by rw [hw1]; simp
 have b1 : Below w.heap.size w w1 := by rw [hw1]; exact ej _ _
 have c1 : w1.cell? ⟨w.heap.size, 2,none⟩ = some (fv 131 #[]) := by rw [hw1]; simp
 obtain ⟨w2, hw2⟩ : ∃ w2, w2 = w1.alloc (.cells (Bun.mrow (.bool false) m) 4) := ⟨_, rfl⟩
 have hmk := Bun.make1 bty1 rfl (by omega) w1 m (by omega)
 rw [← hw2] at hmk
 have b12 : Below w1.heap.size w1 w2 := by rw [hw2]; exact ej _ _
 have b2 := b1.trans (b12.mono (by omega))
 have z2 : w2.heap.size = w.heap.size + 2 := by rw [hw2]; simp [z1]
 have hown : Oc 1 w2 4 w1.heap.size (some ⟨w1.heap.size, 0,none⟩) m m (brow f l C 1 m) := by
  rw [hw2, ← brow_one f l C m hC0 (by omega)]
  exact Oc.lit (z := 1) w1 4 (Bun.mrow (.bool false) m) m (by simp [Bun.mrow]) (by simp only [maxLen]; omega)
 rw [z1] at hmk hown
 have c2 : w2.cell? ⟨w.heap.size, 2,none⟩ = some (fv 131 #[]) := (b12.cell (p := ⟨w.heap.size, 2,none⟩) (by show w.heap.size < _; omega)).trans c1
 have hm1 : 1 ≤ m := by omega
 obtain ⟨G, hG⟩ : ∃ G, G = w.heap.size + 1 := ⟨_, rfl⟩
 rw [← hG] at hmk hown
 have W1 := ek hw1; have Hr := ek hr; have Hc := ek hc; have HA := ek hA; have HG := ek hG; have B2 := ek b2; have Hown := ek hown; have Hl := ek hl; have HCl := ek hCl
 clear hw1 b1 c1 hw2 b12 z1 b2 hr hc hA hC hC0 hG hown hl hCl hC1
 go_enter Tryz.func46, Tryz.ntmps46
 go_wp2_with (rw [← W1.out])
 go_loopw [8, 9, 10] (fun i _ _ wr => InsRel G m w f l C i wr ∧ wr.cell? ⟨w.heap.size, 2,none⟩ = some (fv 131 #[])) (fun i _ _ _ => m - (intOf i).toNat)
 case atStart => exact ⟨⟨1, rfl, Nat.le_refl _, hm1, Hown.out, B2.out⟩, c2⟩
 case round =>
  obtain ⟨⟨j, rfl, hj1, hjm, hown, hbel⟩, hc2⟩ := hrel
  rename World => wr
  have z3 := hbel.size
  have hown' := ek hown
  clear hown hmk
  by_cases hlt : j < m
  ·obtain ⟨J, hJ⟩ : ∃ J, J = j - 1 := ⟨_, rfl⟩
   have hR := Hc.out.below hbel
   obtain ⟨eb, eo, x, rfl, hb3, hcx, hx⟩ := hR.int (k := J) (by omega)
   obtain ⟨eb2, eo2, y, e', hb4, hcy, hy⟩ := hR.int (k := j) hlt
   injection e' with e'
   injection e' with e3 e4 _
   subst e3 e4
   obtain ⟨cJ, hcJ, rfl⟩ := ic_inv hx
   obtain ⟨cj, hcj, rfl⟩ := ic_inv hy
   have hlt2 := HA.out.get J j cJ cj (by omega) hcJ hcj
   have hle := (HA.out.mem cj (List.mem_of_getElem? hcj)).2
   obtain ⟨D, hD, hrD⟩ := bty.from_ ((Hr.out.below hbel).more z3) (k := cJ) (by omega) (cJ : Int) rfl
   have hcall := fun (W : World) (h : Rb W W.heap.size D (n - cJ) (c - cJ) (l.drop cJ)) => (show Calls Tryz.prog 131 #[.slice D (n - cJ) (c - cJ), .int .i64 ((cj : Int) - (cJ : Int))] W fun e w' => e = .returned (.bool (inF f (l.drop cJ) ((cj : Int) - (cJ : Int)))) ∧ Below W.heap.size W w' from by subst hf; exact inv_csv D (n - cJ) (c - cJ) ((cj : Int) - (cJ : Int)) (l.drop cJ) W (by unfold I64; omega) h (by omega))
   obtain ⟨v, hv⟩ : ∃ v, v = cj - cJ := ⟨_, rfl⟩
   obtain ⟨q, hq⟩ : ∃ q, q = inF f (l.drop cJ) ((cj : Int) - (cJ : Int)) := ⟨_, rfl⟩
   have e1 : (cj : Int) - (cJ : Int) = (v : Int) := by omega
   rw [← hq, e1] at hcall
   have e2 : IntKind.i64.wrap (v : Int) = (v : Int) := IntWalk.i64_in _ (by omega)
   have e3 : IntKind.i64.wrap ((cj : Int) - (cJ : Int)) = (v : Int) := by rw [e1]; exact e2
   obtain ⟨p, hp⟩ : ∃ p, p = inF f l (cJ : Int) := ⟨_, rfl⟩
   have hnew := inF_next f l cJ cj (by omega)
   rw [← hq, ← hp] at hnew
   have hrow := brow_get f l C J j m cJ hcJ (by omega)
   rw [← hp] at hrow
   have hold := brow_old f l C j m HCl.out hlt
   have hnext := brow_next f l C j m cj hcj HCl.out hlt
   rw [hnew] at hnext
   replace hnext : (brow f l C j m).set j (.bool (!(p == q))) = brow f l C (j + 1) m := hnext
   have hbl := brow_len f l C j m HCl.out hjm
   have Hcall := ek hcall; have Hrr := ek hrD; have Hnext := ek hnext; have Hrow := ek hrow; have Hold := ek hold; have HJ := ek (show J + 1 = j by omega); have Hbl := ek hbl
   have q1 : IntKind.i64.wrap ((j : Int) - 1) = (j : Int) - 1 := IntWalk.i64_in _ (by omega)
   have q2 : 0 ≤ (j : Int) - 1 := by omega
   have q3 : ((j : Int) - 1).toNat = J := by omega
   have q4 : (j : Int) - 1 < (m : Int) := by omega
   have q5 : (1 : Int) ≤ (j : Int) := by omega
   have q6 : (0 : Int) ≤ (j : Int) := by omega
   have q7 : (j : Int) < (m : Int) := by omega
   have hgl : w.heap.size < wr.heap.size := World.block_lt_of_cell? wr _ hc2
   clear hcall hrD hnext hrow hold hbl hJ hR hx hy hcJ hcj hlt2 hle hv hq hp hnew c2
   have hgl2 : eb < wr.heap.size := by omega
   go_wp2_with fail
   go_region_held3 (fun w' => w'.cell? ⟨w.heap.size, 2,none⟩ = some (fv 131 #[]) ∧ w'.cell? ⟨eb, eo + j,none⟩ = some (.int .i64 (cj : Int))) (go_keep) ((go_at_call 131; (with_reducible refine (Hcall.out _ ?_).mono ?_); exact Hrr.out; rintro e w4 ⟨rfl, hb4⟩; have hb4' : Below wr.heap.size wr w4 := ⟨hb4.os, hb4.tape, hb4.output, hb4.size, hb4.block⟩; have f0 : w4.cell? ⟨w.heap.size, 2,none⟩ = some (fv 131 #[]) := (hb4'.cell (p := ⟨w.heap.size, 2,none⟩) hgl).trans hc2; have f1 : w4.cell? ⟨eb, eo + j,none⟩ = some (.int .i64 (cj : Int)) := (hb4'.cell (p := ⟨eb, eo + j,none⟩) hgl2).trans hcy))
   have z4 := hb4'.size
   have hown4 := hown'.out.keep hb4'
   have r0 : w4.cell? ⟨G, J,none⟩ = some (.bool p) := by rw [World.ownsRow.cellAt hown4 J (by have := HJ.out; omega)]; exact Hrow.out
   have r1 : w4.cell? ⟨G, j,none⟩ = some (.bool false) := by rw [World.ownsRow.cellAt hown4 j (by omega)]; exact Hold.out
   have r2 : w4.frozen? ⟨G, j,none⟩ = false := World.ownsRow.frozenAt hown4 j
   have hst := (World.ownsRow.stored hown4 j (.bool (!(p == q)))).1
   rw [Hnext.out] at hst
   obtain ⟨w5, hw5⟩ : ∃ w5, w5 = w4.setCell ⟨G, j,none⟩ (.bool (!(p == q))) := ⟨_, rfl⟩
   have hGl : G < w4.heap.size := (Oc.lt hown4 rfl).2
   have b5 : Below w.heap.size w4 w5 := by rw [hw5]; exact (Below.refl _ _).setCell (by show w.heap.size ≤ G; have := HG.out; omega) _
   have g0 : w5.cell? ⟨w.heap.size, 2,none⟩ = some (fv 131 #[]) := by
    rw [hw5, World.cell?_setCell_other _ _ _ _ (by intro q; injection q with q; have := HG.out; omega)]
    exact f0
   rw [← hw5] at hst
   have bw5 := (hbel.trans (hb4'.mono z3)).trans b5
   have Hst := ek hst; have W5 := ek hw5
   clear hst hw5 b5 hown4 f0 f1 hb4 hb4'
   go_wp2
   rw [← W5.out]
   go_roundw
   case rel => exact ⟨⟨j + 1, by go_num, by omega, by omega, Hst.out, bw5⟩, g0⟩
   case measure => simp [intOf]; omega
  ·have e : j = m := by omega
   subst e
   have h5 := hown'.out.rcS
   unfold brow at h5
   rw [Nat.sub_self, List.replicate_zero, List.append_nil, List.take_of_length_le (by rw [HCl.out]; exact Nat.le_refl _)] at h5
   have hln : (insF f l C).length = j := by rw [insF_len, HCl.out]
   have H5 := ek (h5.keep (stays_weak fun b (hb : Fr G wr b) => (show Fr w.heap.size wr b from ⟨by have := hb.1; have := HG.out; omega, hb.2⟩))); have Hln := ek hln
   clear h5 hln
   go_wp2
   go_ret
   exact ⟨_, _, by rw [Hln.out]; rfl, by rw [Hln.out]; exact H5.out, hbel⟩
theorem scan_err (f k : Int) (A : Option Addr) (n c : Nat) (w : World) (hn : n ≤ 9223372036854775807) (h : (isF f k && decide (n ≤ 100000)) = false) :
  Calls Tryz.prog 36 #[flv f k A n c] w fun e w' => e = .returned (.tuple #[.slice none 0 0, .int .i64 0, .int .i64 1]) ∧ Below w.heap.size w w' := by
 obtain ⟨w0, hw0⟩ : ∃ w0, w0 = w.alloc (.cells #[.int .i64 f, .int .i64 k, .slice A n c] 24) := ⟨_, rfl⟩
 have z0 : w0.heap.size = w.heap.size + 1 := by rw [hw0]; simp
 have b0 : Below w.heap.size w w0 := by rw [hw0]; exact ej _ _
 have x0 : Bx w0 w.heap.size (.int .i64 f) (.int .i64 k) (.slice A n c) := by rw [hw0]; exact Bx.made _ _ _ _ _
 have Hc := ek (functionsOf_c f k A n c false h.symm hn w0)
 have W0 := ek hw0
 obtain ⟨c0, c1, c2, -, -, -, hlt⟩ := x0
 clear hw0 h
 go_enter Tryz.func36, Tryz.ntmps36
 go_wp2_with (rw [← W0.out])
 refine Hc.out.mono ?_
 rintro e w1 ⟨s, r, i, rfl, -, hfv, b1⟩
 have bb := b0.trans (b1.mono (by omega))
 rcases hfv with ⟨a, b, c', ca, cb, cc, rfl, rfl, rfl⟩ | ⟨rfl, rfl, rfl⟩
 all_goals
  go_wp2
  go_ret3
  exact ⟨rfl, bb.alloc (by have := bb.size; omega) _⟩
theorem scan_ok (f k : Int) (A : Option Addr) (n c : Nat) (l : List UInt8) (w : World) (hr : Rb w w.heap.size A n c l) (hn : n ≤ 90000) (hF : isF f k = true) (hx : Sq.Mx w) :
  Calls Tryz.prog 36 #[flv f k A n c] w (RetS w (scF f k l)) := by
 obtain ⟨w0, hw0⟩ : ∃ w0, w0 = w.alloc (.cells #[.int .i64 f, .int .i64 k, .slice A n c] 24) := ⟨_, rfl⟩
 have z0 : w0.heap.size = w.heap.size + 1 := by rw [hw0]; simp
 have b0 : Below w.heap.size w w0 := by rw [hw0]; exact ej _ _
 have x0 : Bx w0 w.heap.size (.int .i64 f) (.int .i64 k) (.slice A n c) := by rw [hw0]; exact Bx.made _ _ _ _ _
 have Hc := ek (functionsOf_c f k A n c true (by rw [hF]; simp; omega) (by omega) w0)
 have W0 := ek hw0
 have Hr := ek hr; have Hx := ek hx
 have X0 := ek x0
 obtain ⟨c0, c1, c2, -, -, -, hlt⟩ := x0
 clear hw0 hF hr hx
 go_enter Tryz.func36, Tryz.ntmps36
 go_wp2_with (rw [← W0.out])
 refine Hc.out.mono ?_
 rintro e w1 ⟨s, r, i, rfl, hf3, hfv, b1⟩
 have hf3 := hf3 rfl
 have z1 := b1.size
 have bb := b0.trans (b1.mono (by omega))
 have x1 := X0.out.below b1 (by omega)
 clear c0 c1 c2 hlt
 obtain ⟨w2, hw2⟩ : ∃ w2, w2 = w1.alloc (.cells #[s, r, i] 89) := ⟨_, rfl⟩
 have b12 : Below w1.heap.size w1 w2 := by rw [hw2]; exact ej _ _
 have z2 := b12.size
 have b2 := bb.trans (b12.mono (by omega))
 have hf2 := hf3.below b12 (Nat.le_refl _)
 obtain ⟨a, ca, rfl, hent, hsc⟩ := hf2.scan
 have Hsc := ek (hsc w2 A n c l (Below.refl _ _) ((Hr.out.below b2).more (by omega)) hn (Hx.out.below b2 Hx.out.2))
 have W2 := ek hw2; have B2 := ek b2
 obtain ⟨c0, c1, c2, -, -, -, hlt⟩ := x1
 clear hf3 hf2 hsc hw2 b12 b2 b0 bb
 rcases hfv with ⟨a', b, c', ca', cb, cc, h1, rfl, rfl⟩ | ⟨h1, _⟩
 ·clear h1
  go_wp2_with fail
  rw [hent, Oper.upon_enter, ← W2.out]
  refine Hsc.out.mono ?_
  rintro e w3 ⟨A3, c3, rfl, hp3, b3⟩
  have hp := hp3.keep (stays_weak fun b (hb : Fr w2.heap.size w3 b) => (show Fr w.heap.size w3 b from ⟨by have := hb.1; omega, hb.2⟩))
  have bb := B2.out.trans (b3.mono (by omega))
  have Hp := ek hp
  clear hp3 hp
  go_wp2
  go_ret3
  exact ⟨A3, c3, rfl, Hp.out, bb⟩
 ·cases h1
end Go.Proofs.YtkekmokdlgocaaaGreatDoor.Pl
namespace Go.Proofs.YtkekmokdlgocaaaGreatDoor.Pl
theorem btw_mid {P : List (Nat × List (List (List UInt8)))} {i j a b : Nat} (hab : a ≤ b) (hi : i ≤ P.length) (hj : j ≤ P.length)
  (h1 : ∀ (t x : Nat), (P.map (·.1))[t]? = some x → t < i → (x : Int) < (a : Int)) (h2 : ∀ (t x : Nat), (P.map (·.1))[t]? = some x → i ≤ t → (a : Int) ≤ (x : Int))
  (h3 : ∀ (t x : Nat), (P.map (·.1))[t]? = some x → t < j → (x : Int) < (b : Int)) (h4 : ∀ (t x : Nat), (P.map (·.1))[t]? = some x → j ≤ t → (b : Int) ≤ (x : Int)) :
  i ≤ j ∧ (P.take j).drop i = Tm.btw a b P := by
 have hij : i ≤ j := by
  rcases Nat.lt_or_ge j i with h | h
  ·have hlt : j < P.length := by omega
   have e : (P.map (·.1))[j]? = some P[j].1 := by rw [List.getElem?_map, List.getElem?_eq_getElem hlt]; rfl
   have := h1 j _ e h
   have := h4 j _ e (Nat.le_refl _)
   omega
  ·exact h
 refine ⟨hij, ?_⟩
 have get : ∀ (t : Nat) (p : Nat × List (List (List UInt8))), P[t]? = some p → (P.map (·.1))[t]? = some p.1 := fun t p h => by rw [List.getElem?_map, h]; rfl
 have e : P = P.take i ++ ((P.take j).drop i ++ P.drop j) := by
  rw [← List.append_assoc]
  have e1 : P.take i ++ (P.take j).drop i = P.take j := by
   have := List.take_append_drop i (P.take j)
   rw [List.take_take, Nat.min_eq_left hij] at this
   exact this
  rw [e1, List.take_append_drop]
 have f1 : Tm.btw a b (P.take i) = [] := by
  unfold Tm.btw
  refine List.filter_eq_nil_iff.2 fun p hp => ?_
  obtain ⟨t, ht, hp⟩ := List.getElem_of_mem hp
  have hti : t < i := by rw [List.length_take] at ht; omega
  have g : P[t]? = some p := by
   rw [← hp, List.getElem_take]
   exact List.getElem?_eq_getElem _
  have := h1 t _ (get t p g) hti
  simp; omega
 have f3 : Tm.btw a b (P.drop j) = [] := by
  unfold Tm.btw
  refine List.filter_eq_nil_iff.2 fun p hp => ?_
  obtain ⟨t, ht, hp⟩ := List.getElem_of_mem hp
  have g : P[j + t]? = some p := by
   rw [← hp, List.getElem_drop]
   exact List.getElem?_eq_getElem _
  have := h4 (j + t) _ (get _ p g) (by omega)
  simp; omega
 have f2 : Tm.btw a b ((P.take j).drop i) = (P.take j).drop i := by
  unfold Tm.btw
  refine List.filter_eq_self.2 fun p hp => ?_
  obtain ⟨t, ht, hp⟩ := List.getElem_of_mem hp
  have htj : i + t < j := by rw [List.length_drop, List.length_take] at ht; omega
  have g : P[i + t]? = some p := by
   rw [← hp, List.getElem_drop, List.getElem_take]
   exact List.getElem?_eq_getElem _
  have := h2 (i + t) _ (get _ p g) (by omega)
  have := h3 (i + t) _ (get _ p g) htj
  simp; omega
 have : Tm.btw a b P = Tm.btw a b (P.take i) ++ (Tm.btw a b ((P.take j).drop i) ++ Tm.btw a b (P.drop j)) := by
  conv => lhs; rw [e]
  unfold Tm.btw
  rw [List.filter_append, List.filter_append]
 rw [this, f1, f2, f3]
 simp
end Go.Proofs.YtkekmokdlgocaaaGreatDoor.Pl
namespace Go.Proofs.YtkekmokdlgocaaaGreatDoor.Pl
open Go.RowKit Go.Shelf
theorem litS_c (x y : Int) (D : Option Addr) (m d : Nat) (w : World) : Calls Tryz.prog 151 #[.agg #[.int .i64 x, .slice D m d], .int .i64 y] w fun e w' => e = .returned (.int .i64 (cmpI x y)) ∧ Below w.heap.size w w' := by
 go_enter Tryz.func151, Tryz.ntmps151
 go_wp2_with fail
 refine (compare_c x y _).mono ?_
 rintro e w1 ⟨rfl,rfl⟩
 go_wp2
 go_ret
 exact ⟨rfl, ej _ _⟩
theorem searchS_c (A : Option Addr) (n c hi : Nat) (a : Int) (P : List (Nat × List (List (List UInt8)))) (w : World) (hp : PLS w (· < w.heap.size) A n c P) (hn : n ≤ 1000000) (hA : Asc 0 hi (P.map (·.1))) :
  Calls Tryz.prog 67 #[.slice A n c, .int .i64 a, .func (.func 151) #[] #[]] w fun e w' =>
   ∃ (p : Nat) (o : Bool), e = .returned (.tuple #[.int .i64 (p : Int), .bool o]) ∧ p ≤ n ∧ (∀ (t x : Nat), (P.map (·.1))[t]? = some x → t < p → (x : Int) < a) ∧ (∀ (t x : Nat), (P.map (·.1))[t]? = some x → p ≤ t → a ≤ (x : Int)) ∧ Below w.heap.size w w' := by
 have hl := hp.len
 obtain ⟨S, hS⟩ : ∃ S, S = P.map (·.1) := ⟨_, rfl⟩
 have hSl : S.length = n := by rw [hS, List.length_map, hl]
 rw [← hS] at hA ⊢
 have Hp := ek hp; have HA := ek hA; have HS := ek hS; have Hl := ek hl; have HSl := ek hSl
 clear hp hA hS hl hSl
 go_enter Tryz.func67, Tryz.ntmps67
 go_wp2
 go_loopw [9, 10, 11] (fun i j _ wr => BsRel w S a n i j wr) (fun i j _ _ => (intOf j).toNat - (intOf i).toNat)
 case atStart => exact ⟨0, n, rfl, rfl, Nat.zero_le _, Nat.le_refl _, fun t x _ h => (by omega), fun t x h ht => (by rw [List.getElem?_eq_none (by have := HSl.out; omega)] at h; cases h), Below.refl _ _⟩
 case round =>
  obtain ⟨p, q, rfl, rfl, hpq, hqn, hlo, hup, hbel⟩ := hrel
  rename World => wr
  have Hlo := ek hlo; have Hup := ek hup
  clear hlo hup
  by_cases hlt : p < q
  ·obtain ⟨h, hh⟩ : ∃ h, h = (p + q) / 2 := ⟨_, rfl⟩
   have q1 : ((p : Int) + (q : Int)) / 2 = (h : Int) := by omega
   have hhq : h < q := by omega
   have hph : p ≤ h := by omega
   have hhn : h < n := by omega
   obtain ⟨b, off, x, D, m, d, rfl, hb, hc1, hc2, hx, _⟩ := (PLS.keep Hp.out (stays_below hbel (Nat.le_refl _))).at_ (k := h) hhn
   have hxS : S[h]? = some x.1 := by rw [HS.out, List.getElem?_map, hx]; rfl
   have HxS := ek hxS
   clear hxS hx hh
   obtain ⟨v, hv⟩ : ∃ v, v = cmpI (x.1 : Int) a := ⟨_, rfl⟩
   have Hc := ek (fun W => litS_c (x.1 : Int) a D m d W)
   rw [← hv] at Hc
   go_wp2_with fail
   refine (Hc.out _).mono ?_
   rintro e w2 ⟨rfl, b2⟩
   have z2 := hbel.size
   have hbel2 := hbel.trans (b2.mono z2)
   clear b2 hc1 hc2
   by_cases hxa : (x.1 : Int) < a
   ·have d1 : decide (v < 0) = true := by rw [hv, cmpI, if_pos hxa]; rfl
    have hnew : ∀ (t y : Nat), S[t]? = some y → t < h + 1 → (y : Int) < a := fun t y ht hlt2 => by
     by_cases hth : t = h
     ·subst hth
      have := HxS.out
      rw [ht] at this
      injection this with this
      omega
     ·have := HA.out.get t h y x.1 (by omega) ht HxS.out
      omega
    have Hnew := ek hnew
    clear hv hnew
    go_wp2
    go_roundw
    case rel => exact ⟨h + 1, q, by go_num, rfl, by omega, hqn, Hnew.out, Hup.out, hbel2⟩
    case measure => simp [intOf]; omega
   ·have d1 : decide (v < 0) = false := by
     rw [hv, cmpI, if_neg hxa]
     split <;> rfl
    have hnew : ∀ (t y : Nat), S[t]? = some y → h ≤ t → a ≤ (y : Int) := fun t y ht hle => by
     by_cases hth : t = h
     ·subst hth
      have := HxS.out
      rw [ht] at this
      injection this with this
      omega
     ·have := HA.out.get h t x.1 y (by omega) HxS.out ht
      omega
    have Hnew := ek hnew
    clear hv hnew
    go_wp2
    go_roundw
    case rel => exact ⟨p, h, rfl, rfl, hph, by omega, Hlo.out, Hnew.out, hbel2⟩
    case measure => simp [intOf]; omega
  ·have e : q = p := by omega
   subst e
   by_cases hpn : q < n
   ·obtain ⟨b, off, x, D, m, d, rfl, hb, hc1, hc2, hx, _⟩ := (PLS.keep Hp.out (stays_below hbel (Nat.le_refl _))).at_ (k := q) hpn
    clear hx
    go_wp2_with fail
    refine (litS_c _ a D m d _).mono ?_
    rintro e w2 ⟨rfl, b2⟩
    have hbel2 := hbel.trans (b2.mono hbel.size)
    go_wp2
    go_ret2
    exact ⟨q, _, rfl, hqn, Hlo.out, Hup.out, hbel2⟩
   ·go_wp2
    go_ret2
    exact ⟨q, _, rfl, hqn, Hlo.out, Hup.out, hbel⟩
theorem before_c (A : Option Addr) (n c hi : Nat) (a : Int) (P : List (Nat × List (List (List UInt8)))) (w : World) (hp : PLS w (· < w.heap.size) A n c P) (hn : n ≤ 1000000) (hA : Asc 0 hi (P.map (·.1))) :
  Calls Tryz.prog 107 #[.slice A n c, .int .i64 a] w fun e w' =>
   ∃ p : Nat, e = .returned (.int .i64 (p : Int)) ∧ p ≤ n ∧ (∀ (t x : Nat), (P.map (·.1))[t]? = some x → t < p → (x : Int) < a) ∧ (∀ (t x : Nat), (P.map (·.1))[t]? = some x → p ≤ t → a ≤ (x : Int)) ∧ Below w.heap.size w w' := by
 have Hc := ek (searchS_c A n c hi a P w hp hn hA)
 clear hp hA
 go_enter Tryz.func107, Tryz.ntmps107
 go_wp2_with fail
 refine Hc.out.mono ?_
 rintro e w1 ⟨p, o, rfl, hpn, h1, h2, b1⟩
 have H1 := ek h1; have H2 := ek h2
 clear h1 h2
 go_wp2
 go_ret
 exact ⟨p, rfl, hpn, H1.out, H2.out, b1⟩
def cutP (A : Option Addr) (c i : Nat) : Option Addr := if c = i then A else A.map (·.add (i * 2))
theorem pl_mid {w : World} {S : Nat → Prop} {n c i k : Nat} {A : Option Addr} {l : List (Nat × List (List (List UInt8)))} (h : PLS w S A n c l) (hi : i ≤ k) (hk : k ≤ n) :
  ∃ D, (∀ W, (Instr.slice 67 (.slice A n c) (some (.int .i64 (i : Int))) (some (.int .i64 (k : Int))) none).run Tryz.prog W = .ok (.slice D (k - i) (c - i)) W) ∧ PLS w S D (k - i) (c - i) ((l.take k).drop i) := by
 have hl := h.len
 obtain ⟨vs, h1, h2⟩ := h
 have hvl := h1.1
 have hnc := h1.2.1
 have hcm := h1.2.2.1
 refine ⟨cutP A c i, fun W => ?_, (vs.take (k * 2)).drop (i * 2), ⟨by rw [List.length_drop, List.length_take]; omega, by omega, by omega, fun hp => ?_⟩, by rw [List.length_drop, List.length_take, List.length_drop, List.length_take]; omega, fun j p hj => ?_⟩
 ·rw [run_slice_lh W 67 _ _ _ pty.sl' .i64 .i64 (i : Int) (k : Int) (by omega) (by omega) (by omega), pty.sz]
  simp [Result.andThen, sliced, cutP]
 ·obtain ⟨b, off, rfl, hb, hc⟩ := h1.2.2.2 (by omega)
  refine ⟨b, off + i * 2, ?_, hb, fun j v hj => ?_⟩
  ·unfold cutP
   rw [if_neg (by omega)]
   by_cases h0 : i = 0
   ·subst h0; simp [Addr.add]
   ·have h2 : ¬ i * 2 = 0 := by omega
    simp [Addr.add, h2]
  ·rw [List.getElem?_drop, List.getElem?_take] at hj
   split at hj
   ·rw [Nat.add_assoc]; exact hc _ v hj
   ·cases hj
 ·rw [List.getElem?_drop, List.getElem?_take] at hj
  split at hj
  ·rename_i hlt
   obtain ⟨u, v, g1, g2, g3⟩ := h2.2 _ p hj
   refine ⟨u, v, ?_, ?_, g3⟩
   ·rw [List.getElem?_drop, List.getElem?_take, if_pos (by omega), show i * 2 + j * 2 = (i + j) * 2 by omega]; exact g1
   ·rw [List.getElem?_drop, List.getElem?_take, if_pos (by omega), show i * 2 + (j * 2 + 1) = (i + j) * 2 + 1 by omega]; exact g2
  ·cases hj
theorem within_c (A : Option Addr) (n c hi a b : Nat) (t : Bool) (P : List (Nat × List (List (List UInt8)))) (S : Nat → Prop) (w : World) (hp : PLS w S A n c P) (hS : ∀ x, S x → x < w.heap.size) (hn : n ≤ 1000000) (hA : Asc 0 hi (P.map (·.1))) (hab : a ≤ b) :
  Calls Tryz.prog 78 #[.slice A n c, .agg #[.int .i64 (a : Int), .int .i64 (b : Int), .bool t]] w fun e w' =>
   ∃ D d, e = .returned (.slice D (Tm.btw a b P).length d) ∧ PLS w' S D (Tm.btw a b P).length d (Tm.btw a b P) ∧ Below w.heap.size w w' := by
 have hl := hp.len
 obtain ⟨w0, hw0⟩ : ∃ w0, w0 = w.alloc (.cells #[.int .i64 (a : Int), .int .i64 (b : Int), .bool t] 64) := ⟨_, rfl⟩
 have b0 : Below w.heap.size w w0 := by rw [hw0]; exact ej _ _
 have z0 : w0.heap.size = w.heap.size + 1 := by rw [hw0]; simp
 have x0 : Bx w0 w.heap.size (.int .i64 (a : Int)) (.int .i64 (b : Int)) (.bool t) := by rw [hw0]; exact Bx.made _ _ _ _ _
 have hpw : ∀ W, Below w0.heap.size w0 W → PLS W (· < W.heap.size) A n c P := fun W h => PLS.keep hp ⟨fun x hx => by have := hS x hx; have := h.size; show x < _; omega, fun p hp => ((b0.trans (h.mono (by omega))).cell (p := p) (hS _ hp))⟩
 have Ha := ek (fun W (h : Below w0.heap.size w0 W) => before_c A n c hi (a : Int) P W (hpw W h) hn hA)
 have Hb := ek (fun W (h : Below w0.heap.size w0 W) => before_c A n c hi (b : Int) P W (hpw W h) hn hA)
 have Hp := ek hp; have HS := ek hS; have W0 := ek hw0; have B0 := ek b0; have Hl := ek hl; have Z0 := ek z0
 have hlt := x0.lt
 obtain ⟨c0, c1, c2, -, -, -, -⟩ := x0
 clear hp hA hw0 b0 hl z0 hpw hS
 go_enter Tryz.func78, Tryz.ntmps78
 go_upto_region 1 with (rw [← W0.out])
 refine wp_region_schedR (Below w0.heap.size) (Below.refl _) (fun _ _ _ => Below.trans) [(false, 0), (false, 1), (false, 2), (false, 3), (false, 5), (false, 6), (false, 7), (true, 4), (true, 8), (false, 9), (false, 10)] (by kernel_rfl) (by kernel_rfl) (by kernel_rfl) (by kernel_rfl) (fun _ _ d _ _ h => by cases d <;> exact h) ?_
 refine wpR_read (o := ⟨some 5, .move (.tmp 0), 67, "reader.go:87", #[],none⟩) (v := .slice A n c) rfl (by rfl) ?_ ?_
 ·intro w' _; go_simp
 try simp only [Act.put, ep, eh, ei]
 refine wpR_read (o := ⟨some 6, .move (.tmp 0), 67, "reader.go:87", #[],none⟩) (v := .slice A n c) rfl (by rfl) ?_ ?_
 ·intro w' _; go_simp
 try simp only [Act.put, ep, eh, ei]
 refine wpR_read (o := ⟨some 7, .fieldAddr 64 (.tmp 3) 0, 0, "reader.go:87", #[],none⟩) (v := .pointer (some ⟨w.heap.size, 0,none⟩)) rfl (by rfl) ?_ ?_
 ·intro w' _; go_simp
 try simp only [Act.put, ep, eh, ei]
 refine wpR_read (o := ⟨some 8, .load 3 (.tmp 7), 3, "reader.go:87", #[⟨2, .data⟩],none⟩) (v := .int .i64 (a : Int)) rfl (by rfl) ?_ ?_
 ·intro w' hw'; have q := (hw'.cell (p := ⟨w.heap.size, 0,none⟩) hlt).trans c0; go_simp
 try simp only [Act.put, ep, eh, ei]
 refine wpR_read (o := ⟨some 10, .move (.tmp 0), 67, "reader.go:87", #[],none⟩) (v := .slice A n c) rfl (by rfl) ?_ ?_
 ·intro w' _; go_simp
 try simp only [Act.put, ep, eh, ei]
 refine wpR_read (o := ⟨some 11, .fieldAddr 64 (.tmp 3) 1, 0, "reader.go:87", #[],none⟩) (v := .pointer (some ⟨w.heap.size, 1,none⟩)) rfl (by rfl) ?_ ?_
 ·intro w' _; go_simp
 try simp only [Act.put, ep, eh, ei]
 refine wpR_read (o := ⟨some 12, .load 3 (.tmp 11), 3, "reader.go:87", #[⟨6, .data⟩],none⟩) (v := .int .i64 (b : Int)) rfl (by rfl) ?_ ?_
 ·intro w' hw'; have q := (hw'.cell (p := ⟨w.heap.size, 1,none⟩) hlt).trans c1; go_simp
 try simp only [Act.put, ep, eh, ei]
 refine wpR_call (o := ⟨some 9, .call { callee := .value (.func 107), args := #[.tmp 6, .tmp 8], argTypes := #[67, 3] }, 3, "reader.go:87", #[⟨1, .data⟩,⟨3, .data⟩],none⟩) rfl (by rfl) (fun K hK => ?_)
 go_simp
 go_at_call 107
 with_reducible refine (Ha.out w0.drew (show Below w0.heap.size w0 w0.drew from below_drewN (Below.refl _ _) 1)).mono ?_
 rintro e w2 ⟨i, rfl, hi, i1, i2, b2⟩
 have b2' : Below w0.heap.size w0 w2 := ⟨b2.os, b2.tape, b2.output, b2.size, b2.block⟩
 have B2 := ek b2'; have I1 := ek i1; have I2 := ek i2
 refine hK.out _ _ (show Below w0.heap.size w0.drew w2 from b2) ?_
 clear hK K i1 i2 b2 b2'
 try simp only [Act.put, ep, eh, ei]
 refine wpR_call (o := ⟨some 13, .call { callee := .value (.func 107), args := #[.tmp 10, .tmp 12], argTypes := #[67, 3] }, 3, "reader.go:87", #[⟨5, .data⟩,⟨7, .data⟩,⟨4, .chain⟩],none⟩) rfl (by rfl) (fun K hK => ?_)
 go_simp
 go_at_call 107
 with_reducible refine (Hb.out w2 B2.out).mono ?_
 rintro e w3 ⟨j, rfl, hj, j1, j2, b3⟩
 have B3 := ek (B2.out.trans (b3.mono B2.out.size)); have J1 := ek j1; have J2 := ek j2
 refine hK.out _ _ (b3.mono B2.out.size) ?_
 have hm := btw_mid hab (P := P) (by rw [Hl.out]; exact hi) (by rw [Hl.out]; exact hj) I1.out I2.out J1.out J2.out
 obtain ⟨D', hD', hP'⟩ := pl_mid (PLS.keep Hp.out (⟨fun _ h => h, fun p hp => (B0.out.trans (B3.out.mono (by have := Z0.out; omega))).cell (p := p) (HS.out _ hp)⟩ : Stays w w3 S S)) hm.1 hj
 rw [hm.2] at hP'
 have HP' := ek hP'; have HD := ek hD'; have hij := hm.1; have Hm := ek hm.2
 clear hK K j1 j2 b3 hm hP' hD'
 try simp only [Act.put, ep, eh, ei]
 refine wpR_read (o := ⟨some 14, .slice 67 (.tmp 5) (some (.tmp 9)) (some (.tmp 13)) none, 67, "reader.go:87", #[⟨0, .data⟩,⟨4, .data⟩,⟨8, .data⟩],none⟩) (v := .slice D' (j - i) (c - i)) rfl (by rfl) ?_ ?_
 ·intro w' _; have h := HD.out w'; go_simp
 try simp only [Act.put, ep, eh, ei]
 refine wpR_read (o := ⟨some 4, .assign (.tmp 14), 67, "reader.go:87", #[⟨9, .data⟩,⟨8, .chain⟩,⟨0, .phase⟩,⟨1, .phase⟩,⟨2, .phase⟩,⟨3, .phase⟩,⟨4, .phase⟩,⟨5, .phase⟩,⟨6, .phase⟩,⟨7, .phase⟩,⟨8, .phase⟩,⟨9, .phase⟩],none⟩) (v := .slice D' (j - i) (c - i)) rfl (by rfl) ?_ ?_
 ·intro w' _; go_simp
 try simp only [Act.put, ep, eh, ei]
 refine wpR_done ?_
 have b13 := B0.out.trans (B3.out.mono (by have := Z0.out; omega))
 go_wp2
 go_ret
 have hN : (Tm.btw a b P).length = j - i := by have h := congrArg List.length Hm.out; rw [List.length_drop, List.length_take, Hl.out, Nat.min_eq_left hj] at h; exact h.symm
 rw [hN]
 exact ⟨D', c - i, rfl, HP'.out, b13⟩
end Go.Proofs.YtkekmokdlgocaaaGreatDoor.Pl
