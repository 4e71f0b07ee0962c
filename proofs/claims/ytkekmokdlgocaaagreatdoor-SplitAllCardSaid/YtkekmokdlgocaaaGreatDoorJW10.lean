import Derived.Test.YtkekmokdlgocaaaGreatDoorJW9
import Derived.Deep.RegionHeld3
set_option maxRecDepth 100000
set_option maxHeartbeats 4000000
namespace Go.Proofs.YtkekmokdlgocaaaGreatDoor.Bun
open Go.RowKit
theorem sty : Sl Tryz.prog 76 9 (.string ⟨#[]⟩) 1 16 := ⟨Tryz.underlying76, by kernel_rfl, rfl, by omega⟩
def Ct (l : List UInt8) (D : List Bm.F) (i : Nat) (V : List (List UInt8)) : Prop := Bm.cts l D = V ++ Bm.cts l (D.drop i) ∧ V.length = i
section
variable {l : List UInt8} {D : List Bm.F} {i : Nat} {V : List (List UInt8)} {f : Bm.F}
theorem Ct.start (l : List UInt8) (D : List Bm.F) : Ct l D 0 [] := ⟨rfl,rfl⟩
theorem Ct.step {x : List UInt8} (h : Ct l D i V) (hf : D[i]? = some f) (h1 : f.st + f.sz + 4 ≤ l.length) (h2 : Cm.openS Cm.tab ((l.take (f.st + f.sz + 4)).drop f.st) = (x, 0)) : Ct l D (i + 1) (V ++ [x]) := by
 obtain ⟨hk, rfl⟩ := List.getElem?_eq_some_iff.1 hf
 refine ⟨?_, by rw [List.length_append, h.2]; rfl⟩
 rw [h.1, List.drop_eq_getElem_cons hk, Bm.cts_ok _ h1 h2, List.append_assoc]
 rfl
theorem Ct.short (h : Ct l D i V) (hf : D[i]? = some f) (h1 : ¬ f.st + f.sz + 4 ≤ l.length) : Bm.cts l D = V := by
 obtain ⟨hk, rfl⟩ := List.getElem?_eq_some_iff.1 hf
 rw [h.1, List.drop_eq_getElem_cons hk, Bm.cts_short _ h1, List.append_nil]
theorem Ct.bad {x : List UInt8} {e : Nat} (h : Ct l D i V) (hf : D[i]? = some f) (h1 : f.st + f.sz + 4 ≤ l.length) (h2 : Cm.openS Cm.tab ((l.take (f.st + f.sz + 4)).drop f.st) = (x, e)) (he : e ≠ 0) : Bm.cts l D = V := by
 obtain ⟨hk, rfl⟩ := List.getElem?_eq_some_iff.1 hf
 rw [h.1, List.drop_eq_getElem_cons hk, Bm.cts_bad _ h1 h2 he, List.append_nil]
theorem Ct.end_ (h : Ct l D i V) (hi : i = D.length) : Bm.cts l D = V := by
 rw [h.1, hi, List.drop_length]
 simp [Bm.cts]
end
def RetTx (w : World) (V : List (List UInt8)) (e : Ending) (w' : World) : Prop :=
 ∃ A c, e = .returned (.slice A V.length c) ∧ RcS 1 w' (Fr w.heap.size w') A V.length c (lvs V) ∧ Below w.heap.size w w'
def CoRel (base k : Nat) (w : World) (l : List UInt8) (D : List Bm.F) (o i : Value) (wr : World) : Prop :=
 ∃ A c V, ∃ j : Nat, o = .slice A j c ∧ i = .int .i64 (j : Int) ∧ j ≤ k ∧ Ct l D j V ∧ Oc 1 wr 9 base A j c (lvs V) ∧ Below base w wr
theorem fend_b (q z en E : Nat) (a : ByteArray) (hE : en + z + 4 = E) (hE3 : E ≤ 4000000000) (W : World) :
  Calls Tryz.prog 154 #[.agg #[.int .i64 (q : Int), .string a, .int .i64 (z : Int), .int .i64 (en : Int)]] W fun e w' => e = .returned (.int .i64 (E : Int)) ∧ Below W.heap.size W w' :=
 (fend_c q z en a _ W rfl E hE hE3).mono fun e w' ⟨h1, h2⟩ => ⟨h1, by rw [h2]; exact ej _ _⟩
theorem contents_c (T A F : Option Addr) (n c ct k d : Nat) (l : List UInt8) (D : List Bm.F) (w : World) (ht : Rn w w.heap.size T 256 ct Cm.tab) (hr : Rb w w.heap.size A n c l) (hF : Rf w w.heap.size F k d D) (hk : k ≤ 1000)
  (hD : ∀ f ∈ D, f.st ≤ 2000000 ∧ f.sz ≤ 1000 ∧ f.at_ ≤ 2000000) :
  Calls Tryz.prog 109 #[.slice T 256 ct, .slice A n c, .slice F k d] w (RetTx w (Bm.cts l D)) := by
 have hl := hr.len
 have hDl := hF.len
 obtain ⟨base, hbase⟩ : ∃ base, base = w.heap.size := ⟨_, rfl⟩
 rw [← hbase] at ht hr hF
 have Ht := ek ht; have Hr := ek hr; have HF := ek hF; have Hl := ek hl; have HDl := ek hDl; have HD := ek hD; have Hbase := ek hbase
 have hbz : base ≤ w.heap.size := by omega
 clear ht hr hF hl hDl hD hbase
 go_enter Tryz.func109, Tryz.ntmps109
 go_wp2
 go_loopw [7, 14] (fun o i wr => CoRel base k w l D o i wr) (fun _ i _ => k - (intOf i).toNat)
 case atStart => exact ⟨none, 0, [], 0, rfl, rfl, Nat.zero_le _, Ct.start _ _, Oc.nil _ _ _ _, Below.refl _ _⟩
 case round =>
  obtain ⟨A3, c3, V, j, rfl, rfl, hj, hct, hown, hbel⟩ := hrel
  have z3 := hbel.size
  by_cases hlt : j < k
  ·obtain ⟨b, off, f, rfl, hb, hf, e0, e1, e2, e3⟩ := (HF.out.below hbel).at_ hlt
   obtain ⟨m1, m2, m3⟩ := HD.out f (List.mem_of_getElem? hf)
   obtain ⟨E, hE⟩ : ∃ E, f.st + f.sz + 4 = E := ⟨_, rfl⟩
   have hE3 : E ≤ 3000000 := by omega
   have Hend := ek (fun W => fend_b f.at_ f.sz f.st E ⟨f.nm.toArray⟩ hE (by omega) W)
   have hct1 := fun h => hct.short hf h
   have hct2 := fun x e h1 h2 he => hct.bad (x := x) (e := e) hf h1 h2 he
   have hct3 := fun x h1 h2 => hct.step (x := x) hf h1 h2
   have hsE : f.st ≤ E := by omega
   have hEs : E - f.st ≤ 1004 := by omega
   rw [hE, Hl.out] at hct1 hct2 hct3
   have hVj := hct.2
   obtain ⟨fa, hfa⟩ : ∃ x, x = f.at_ := ⟨_, rfl⟩
   obtain ⟨fn, hfn⟩ : ∃ x : ByteArray, x = ⟨f.nm.toArray⟩ := ⟨_, rfl⟩
   obtain ⟨fz, hfz⟩ : ∃ x, x = f.sz := ⟨_, rfl⟩
   obtain ⟨fs, hfs⟩ : ∃ x, x = f.st := ⟨_, rfl⟩
   rw [← hfa] at e0 m3; rw [← hfn] at e1; rw [← hfz] at e2 m2; rw [← hfs] at e3 m1 hct2 hct3 hsE hEs; rw [← hfa, ← hfn, ← hfz, ← hfs] at Hend
   obtain ⟨w1, hw1⟩ : ∃ w1, w1 = wr.alloc (.cells #[.int .i64 (fa : Int), .string fn, .int .i64 (fz : Int), .int .i64 (fs : Int)] 161) := ⟨_, rfl⟩
   have b1 : Below wr.heap.size wr w1 := by rw [hw1]; exact ej _ _
   have bf1 : Box4 w1 wr.heap.size (.int .i64 (fa : Int)) (.string fn) (.int .i64 (fz : Int)) (.int .i64 (fs : Int)) := by rw [hw1]; exact Box4.made _ _ _ _ _ _
   have own1 := hown.keep b1
   have bw1 := hbel.trans (b1.mono (show base ≤ wr.heap.size by omega))
   have z1 := b1.size
   have W1 := ek hw1; have Own1 := ek own1; have Hct1 := ek hct1; have Hct2 := ek hct2; have Hct3 := ek hct3; have HVj := ek hVj
   obtain ⟨gf, hgf⟩ : ∃ gf, gf = wr.heap.size := ⟨_, rfl⟩
   have Hgf := ek hgf
   rw [← hgf] at bf1 z1 b1
   have hgf2 : base ≤ gf := by omega
   have hb2 : b < wr.heap.size := by omega
   clear hw1 own1 hct1 hct2 hct3 hct hf hE hfa hfn hfz hfs hVj hown hgf b1
   go_wp2_with fail
   rw [← W1.out, ← Hgf.out]
   refine (Hend.out w1).mono ?_
   rintro e w2 ⟨rfl, hb2'⟩
   have bf2 := bf1.below hb2' (by have := bf1.lt; omega)
   have own2 := Own1.out.keep hb2'
   have bw2 := bw1.trans (hb2'.mono (by omega))
   have z2 := hb2'.size
   clear e0 e1 e2 e3
   by_cases hEn : E ≤ n
   ·have dE : decide ((n : Int) < (E : Int)) = false := by simp; omega
    have hr2 := Hr.out.below bw2
    obtain ⟨G, hG, hrG⟩ := bty.mid_ hr2 (i := fs) (k := E) hsE hEn (fs : Int) (E : Int) rfl rfl (E - fs) rfl
    obtain ⟨y, hy⟩ : ∃ y, y = (l.take E).drop fs := ⟨_, rfl⟩
    obtain ⟨yl, hyl⟩ : ∃ yl, yl = E - fs := ⟨_, rfl⟩
    rw [← hyl] at hG hrG hEs
    rw [← hy] at hrG
    have hyl2 := hrG.len
    have hT2 := (Ht.out.below bw2).more (B' := w2.heap.size) (by omega)
    have hG2 := hrG.more (B' := w2.heap.size) (by omega)
    have HT2 := ek hT2; have HG2 := ek hG2; have Own2 := ek own2
    obtain ⟨d0, d1, d2, d3, -, -, -, -, hltf⟩ := bf2
    rcases Bm.open_kinds y with ⟨x, ho⟩ | ⟨q, hq, ho⟩
    ·have hst := Hct3.out x hEn (by rw [← hy]; exact ho)
     have hxl : x.length + 4 = y.length := by rw [Bm.open_only ho, Bm.sl_len]
     obtain ⟨xl, hxle⟩ : ∃ xl, x.length = xl := ⟨_, rfl⟩
     have ho' := fun W (hT : Rn W W.heap.size T 256 ct Cm.tab) (hW : Rb W W.heap.size G yl (c - fs) y) => open_lit T 256 ct Cm.tab G yl (c - fs) y W hT (by omega) hW (by omega) x xl 0 ho hxle
     have Ho := ek ho'; have Hst := ek hst
     have hxl9 : xl ≤ 90000 := by omega
     clear hr2 hrG hy hyl hyl2 hT2 hG2 own2 ho ho' hst hxl bf1 hxle
     go_wp2_with fail
     go_region_held3 (fun w' => w'.cell? ⟨gf, 0,none⟩ = some (.int .i64 (fa : Int)) ∧ w'.cell? ⟨gf, 1,none⟩ = some (.string fn) ∧ w'.cell? ⟨gf, 2,none⟩ = some (.int .i64 (fz : Int)) ∧ w'.cell? ⟨gf, 3,none⟩ = some (.int .i64 (fs : Int))) (go_keep) (first
      | (go_at_call 154; (with_reducible refine (Hend.out _).mono ?_); rintro e w3 ⟨rfl, hb3⟩; have hb3' : Below w2.heap.size w2 w3 := ⟨hb3.os, hb3.tape, hb3.output, hb3.size, hb3.block⟩; have g0 : w3.cell? ⟨gf, 0,none⟩ = some (.int .i64 (fa : Int)) := (hb3'.cell (p := ⟨gf, 0,none⟩) hltf).trans d0; have g1 : w3.cell? ⟨gf, 1,none⟩ = some (.string fn) := (hb3'.cell (p := ⟨gf, 1,none⟩) hltf).trans d1; have g2 : w3.cell? ⟨gf, 2,none⟩ = some (.int .i64 (fz : Int)) := (hb3'.cell (p := ⟨gf, 2,none⟩) hltf).trans d2; have g3 : w3.cell? ⟨gf, 3,none⟩ = some (.int .i64 (fs : Int)) := (hb3'.cell (p := ⟨gf, 3,none⟩) hltf).trans d3)
      | (go_at_call 143; (with_reducible refine (Ho.out _ ?_ ?_).mono ?_); exact (HT2.out.below hb3').more hb3'.size; exact (HG2.out.below hb3').more hb3'.size; rintro e w4 ⟨A4, c4, rfl, hown4, hb4⟩; have hb4' : Below w3.heap.size w3 w4 := ⟨hb4.os, hb4.tape, hb4.output, hb4.size, hb4.block⟩; have k0 : w4.cell? ⟨gf, 0,none⟩ = some (.int .i64 (fa : Int)) := (hb4'.cell (p := ⟨gf, 0,none⟩) (Nat.lt_of_lt_of_le hltf hb3'.size)).trans g0; have k1 : w4.cell? ⟨gf, 1,none⟩ = some (.string fn) := (hb4'.cell (p := ⟨gf, 1,none⟩) (Nat.lt_of_lt_of_le hltf hb3'.size)).trans g1; have k2 : w4.cell? ⟨gf, 2,none⟩ = some (.int .i64 (fz : Int)) := (hb4'.cell (p := ⟨gf, 2,none⟩) (Nat.lt_of_lt_of_le hltf hb3'.size)).trans g2; have k3 : w4.cell? ⟨gf, 3,none⟩ = some (.int .i64 (fs : Int)) := (hb4'.cell (p := ⟨gf, 3,none⟩) (Nat.lt_of_lt_of_le hltf hb3'.size)).trans g3))
     have bw4 := (bw2.trans (hb3'.mono (by omega))).trans (hb4'.mono (show base ≤ w3.heap.size by have := hb3'.size; omega))
     have hcv := bty.conv (Own.rbl hown4)
     have own4 := (Own2.out.keep hb3').keep hb4'
     have z4 : base ≤ w4.heap.size := by have := hb3'.size; have := hb4'.size; omega
     obtain ⟨w5, hw5⟩ : ∃ w5, w5 = w4.alloc (.cells #[.string ⟨x.toArray⟩] 9) := ⟨_, rfl⟩
     have b5 : Below w4.heap.size w4 w5 := by rw [hw5]; exact ej _ _
     have hlit : Rc 1 w5 (w4.heap.size + 1) (some ⟨w4.heap.size, 0,none⟩) 1 1 [.string ⟨x.toArray⟩] := by rw [hw5]; exact Rc.lit (z := 1) w4 _ #[.string ⟨x.toArray⟩] 1 rfl (by simp [maxLen])
     have own5 := own4.keep b5
     have bw5 := bw4.trans (b5.mono z4)
     have z5 := b5.size
     have W5 := ek hw5; have Hlit := ek hlit; have Own5 := ek own5
     clear hown4 hG k0 k1 k2 k3 g0 g1 g2 g3 d0 d1 d2 d3 hw5 hlit own5 own4 b5
     go_wp2_with (at_builtin; rw [← W5.out]; go_must (refine Sl.wpAppAt sty rfl (.tmp 36) (.tmp 39) rfl (n := j) (m := 1) (N := j + 1) (base := base) (ws := lvs V ++ [.string ⟨x.toArray⟩]) rfl rfl Own5.out Hlit.out ?hs1 rfl rfl ?hs4 ?hs5 ?hs6 ?_))
     case hs1 => simp [Value.oneCell']
     case hs4 => omega
     case hs5 => omega
     case hs6 => omega
     intro A8 c8 w8 hown8 hg8
     have bw8 := bw5.trans (hg8.belowC Own5.out (by omega))
     have Hown8 := ek hown8
     clear hown8 hg8
     go_wp2
     go_roundw
     case rel => exact ⟨A8, c8, V ++ [x], j + 1, rfl, by go_num, by omega, Hst.out, by rw [lvs_append]; exact Hown8.out, bw8⟩
     case measure => simp [intOf]; omega
    ·have hres := Hct2.out [] q hEn (by rw [← hy]; exact ho) hq
     have ho' := fun W (hT : Rn W W.heap.size T 256 ct Cm.tab) (hW : Rb W W.heap.size G yl (c - fs) y) => open_lit T 256 ct Cm.tab G yl (c - fs) y W hT (by omega) hW (by omega) [] 0 q ho rfl
     have Ho := ek ho'; have Hres := ek hres
     have dq : ((q : Int) != 0) = true := by simp; omega
     clear hr2 hrG hy hyl hyl2 hT2 hG2 own2 ho ho' hres bf1
     go_wp2_with fail
     go_region_held3 (fun w' => w'.cell? ⟨gf, 0,none⟩ = some (.int .i64 (fa : Int)) ∧ w'.cell? ⟨gf, 1,none⟩ = some (.string fn) ∧ w'.cell? ⟨gf, 2,none⟩ = some (.int .i64 (fz : Int)) ∧ w'.cell? ⟨gf, 3,none⟩ = some (.int .i64 (fs : Int))) (go_keep) (first
      | (go_at_call 154; (with_reducible refine (Hend.out _).mono ?_); rintro e w3 ⟨rfl, hb3⟩; have hb3' : Below w2.heap.size w2 w3 := ⟨hb3.os, hb3.tape, hb3.output, hb3.size, hb3.block⟩; have g0 : w3.cell? ⟨gf, 0,none⟩ = some (.int .i64 (fa : Int)) := (hb3'.cell (p := ⟨gf, 0,none⟩) hltf).trans d0; have g1 : w3.cell? ⟨gf, 1,none⟩ = some (.string fn) := (hb3'.cell (p := ⟨gf, 1,none⟩) hltf).trans d1; have g2 : w3.cell? ⟨gf, 2,none⟩ = some (.int .i64 (fz : Int)) := (hb3'.cell (p := ⟨gf, 2,none⟩) hltf).trans d2; have g3 : w3.cell? ⟨gf, 3,none⟩ = some (.int .i64 (fs : Int)) := (hb3'.cell (p := ⟨gf, 3,none⟩) hltf).trans d3)
      | (go_at_call 143; (with_reducible refine (Ho.out _ ?_ ?_).mono ?_); exact (HT2.out.below hb3').more hb3'.size; exact (HG2.out.below hb3').more hb3'.size; rintro e w4 ⟨A4, c4, rfl, hown4, hb4⟩; have hb4' : Below w3.heap.size w3 w4 := ⟨hb4.os, hb4.tape, hb4.output, hb4.size, hb4.block⟩; have k0 : w4.cell? ⟨gf, 0,none⟩ = some (.int .i64 (fa : Int)) := (hb4'.cell (p := ⟨gf, 0,none⟩) (Nat.lt_of_lt_of_le hltf hb3'.size)).trans g0; have k1 : w4.cell? ⟨gf, 1,none⟩ = some (.string fn) := (hb4'.cell (p := ⟨gf, 1,none⟩) (Nat.lt_of_lt_of_le hltf hb3'.size)).trans g1; have k2 : w4.cell? ⟨gf, 2,none⟩ = some (.int .i64 (fz : Int)) := (hb4'.cell (p := ⟨gf, 2,none⟩) (Nat.lt_of_lt_of_le hltf hb3'.size)).trans g2; have k3 : w4.cell? ⟨gf, 3,none⟩ = some (.int .i64 (fs : Int)) := (hb4'.cell (p := ⟨gf, 3,none⟩) (Nat.lt_of_lt_of_le hltf hb3'.size)).trans g3))
     have bw4 := (bw2.trans (hb3'.mono (by omega))).trans (hb4'.mono (show base ≤ w3.heap.size by have := hb3'.size; omega))
     have hrc := ((Own2.out.keep hb3').keep hb4').rcS
     have Hrc := ek hrc
     clear hown4 hG k0 k1 k2 k3 g0 g1 g2 g3 d0 d1 d2 d3 hrc
     go_wp2
     go_ret
     rw [Hres.out]
     refine ⟨A3, c3, by rw [HVj.out]; rfl, ?_, by rw [← Hbase.out]; exact bw4⟩
     rw [HVj.out, ← Hbase.out]
     exact Hrc.out
   ·have dE : decide ((n : Int) < (E : Int)) = true := by simp; omega
    have hres := Hct1.out hEn
    have hrc := own2.rcS
    have Hrc := ek hrc; have Hres := ek hres
    clear own2 hrc hres bf1 bf2
    go_wp2
    go_ret
    rw [Hres.out]
    refine ⟨A3, c3, by rw [HVj.out]; rfl, ?_, by rw [← Hbase.out]; exact bw2⟩
    rw [HVj.out, ← Hbase.out]
    exact Hrc.out
  ·have hjk : j = k := by omega
   have hres := hct.end_ (by rw [HDl.out]; exact hjk)
   have hVj := hct.2
   have hrc := hown.rcS
   have Hrc := ek hrc; have Hres := ek hres; have HVj := ek hVj
   clear hct hown hrc hres hVj
   go_wp2
   go_ret
   rw [Hres.out]
   refine ⟨A3, c3, by rw [HVj.out]; rfl, ?_, by rw [← Hbase.out]; exact hbel⟩
   rw [HVj.out, ← Hbase.out]
   exact Hrc.out
end Go.Proofs.YtkekmokdlgocaaaGreatDoor.Bun
