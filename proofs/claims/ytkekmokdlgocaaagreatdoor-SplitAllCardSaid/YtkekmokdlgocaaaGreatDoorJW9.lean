import Derived.Test.YtkekmokdlgocaaaGreatDoorJW7
import Derived.Test.YtkekmokdlgocaaaGreatDoorJW8
set_option maxRecDepth 100000
set_option maxHeartbeats 4000000
namespace Go.Proofs.YtkekmokdlgocaaaGreatDoor.Bun
open Go.RowKit
theorem directoryOf_c (T A : Option Addr) (n c ct : Nat) (l : List UInt8) (w : World) (ht : Rn w w.heap.size T 256 ct Cm.tab) (hr : Rb w w.heap.size A n c l) (hn : n ≤ 90000) :
  Calls Tryz.prog 108 #[.slice T 256 ct, .slice A n c] w (RetDir w (Bm.dir l)) := by
 have hl := hr.len
 obtain ⟨base, hbase⟩ : ∃ base, base = w.heap.size := ⟨_, rfl⟩
 obtain ⟨w2, hw2⟩ : ∃ w2, w2 = (w.alloc (.cells #[.slice none 0 0, .int .i64 0] 156)).alloc (.cells #[.slice A n c, .int .i64 0, .bool false] 189) := ⟨_, rfl⟩
 have z2 : w2.heap.size = base + 2 := by rw [hw2, hbase]; simp
 have b2 : Below base w w2 := by
  rw [hw2, hbase]
  exact (ej _ _).alloc (by simp) _
 have x0 : Box2 w2 base (.slice none 0 0) (.int .i64 0) := by
  have h1 := Box2.made w 156 (.slice none 0 0) (.int .i64 0)
  rw [← hbase] at h1
  rw [hw2]
  exact h1.below (B := base + 1) ((Below.refl _ _).alloc (by simp [hbase]) _) (by omega)
 have x1 : Rd w2 (base + 1) A n c 0 false := by
  have h1 := Box3.made (w.alloc (.cells #[.slice none 0 0, .int .i64 0] 156)) 189 (.slice A n c) (.int .i64 0) (.bool false)
  have e1 : (w.alloc (.cells #[.slice none 0 0, .int .i64 0] 156)).heap.size = base + 1 := by rw [hbase]; simp
  rw [e1] at h1
  rw [hw2]
  exact h1
 have hr2 := hr.below (w' := w2) (by rw [← hbase]; exact b2)
 have ht2 := ht.below (w' := w2) (by rw [← hbase]; exact b2)
 rw [← hbase] at hr hr2 ht2
 have Hr := ek hr; have Hl := ek hl; have W2 := ek hw2; have Hbase := ek hbase; have Hr2 := ek hr2; have Ht2 := ek ht2
 clear hr hl hw2 hbase ht hr2 ht2
 rcases h1 : Bm.num n l with _ | ⟨z, s⟩
 ·have hd := Bm.dir_nonum (b := l) (by rw [Hl.out]; exact h1)
  rw [hd]
  have h1' : Bm.num n (l.drop 0) = none := h1
  have hc := number_none (base + 1) A n c 0 base false (n : Int) n l w2 x1 Hr2.out (by omega) (by omega) (Nat.zero_le _) rfl (by omega) h1'
  have Hc := ek hc
  clear hc h1 h1' hd
  go_enter Tryz.func108, Tryz.ntmps108
  go_wp2_with fail
  rw [← Hbase.out, ← W2.out]
  refine Hc.out.mono ?_
  rintro e w4 ⟨rfl, hx4, t4⟩
  have x04 := x0.tn t4 (by omega)
  have b4 := b2.trans (t4.below (B := base) (by omega) (by omega))
  obtain ⟨c0, c1, c2, f0, f1, f2, hlt⟩ := hx4
  obtain ⟨y0, y1, g0, g1, hlt0⟩ := x04
  clear x0 x1 t4
  go_wp2
  refine bodyPost_ret (v := .tuple #[dv none 0 0 0, .bool false]) ?_ rfl ⟨?_, rfl⟩
  ·simp [results, Tryz.results108, go_sem, dv, y0, y1]
  ·rw [← Hbase.out]; exact b4.trans (put2_at _ _ _ _)
 ·obtain ⟨-, -, hzn, hsl, -, -⟩ := Bm.num_only h1
  have hsn : s ≤ n := by have := Hl.out; omega
  have h1' : Bm.num n (l.drop 0) = some (z, s) := h1
  have hc := number_some (base + 1) A n c 0 base false (n : Int) n l w2 x1 Hr2.out (by omega) (by omega) (Nat.zero_le _) rfl (by omega) z s h1'
  rw [Nat.zero_add] at hc
  have h1b : Bm.num l.length l = some (z, s) := by rw [Hl.out]; exact h1
  have Hc := ek hc; have H1 := ek h1b
  clear hc h1 h1' hsl h1b
  by_cases hzs : z ≤ n - s
  ·obtain ⟨E, hE⟩ : ∃ E, s + z = E := ⟨_, rfl⟩
   have hEn : E ≤ n := by omega
   have hsE : s ≤ E := by omega
   obtain ⟨G, hG, hrG⟩ := bty.mid_ Hr2.out (i := s) (k := E) hsE hEn (s : Int) (E : Int) rfl rfl z (by omega)
   obtain ⟨y, hy⟩ : ∃ y, y = (l.take E).drop s := ⟨_, rfl⟩
   rw [← hy] at hrG
   have hyl := hrG.len
   have e1 : (s : Int) + (z : Int) = (E : Int) := by omega
   have d1 : decide ((n : Int) - (s : Int) < (z : Int)) = false := by simp; omega
   have HrG := ek hrG
   rcases Bm.open_kinds y with ⟨x, ho⟩ | ⟨k, hk, ho⟩
   ·have hdir := Bm.dir_in (x := x) H1.out (by rw [Hl.out]; exact hzs) (by rw [hE, ← hy]; exact ho)
    rw [hE] at hdir
    have hxl : x.length + 4 = z := by rw [← hyl, Bm.open_only ho, Bm.sl_len]
    obtain ⟨xl, hxle⟩ : ∃ xl, x.length = xl := ⟨_, rfl⟩
    have ho' := fun W (hT : Rn W W.heap.size T 256 ct Cm.tab) (hW : Rb W W.heap.size G z (c - s) y) => open_lit T 256 ct Cm.tab G z (c - s) y W hT (by omega) hW (by omega) x xl 0 ho hxle
    have Ho := ek ho'; have Hdir := ek hdir; have HE := ek hE
    have hxl9 : xl ≤ 90000 := by omega
    clear hrG hy hyl ho ho' hdir hxl hE
    go_enter Tryz.func108, Tryz.ntmps108
    go_wp2_with fail
    rw [← Hbase.out, ← W2.out]
    refine Hc.out.mono ?_
    rintro e w4 ⟨rfl, hx4, t4⟩
    have x04 := x0.tn t4 (by omega)
    have z4 := t4.size
    have b24 : Below base w2 w4 := t4.below (B := base) (by omega) (by omega)
    have b4 := b2.trans b24
    have hT4 := (Ht2.out.below b24).more (B' := w4.heap.size) (by omega)
    have hG4 := (HrG.out.below b24).more (B' := w4.heap.size) (by omega)
    have X4 := ek hx4; have HT4 := ek hT4; have HG4 := ek hG4
    obtain ⟨c0, c1, c2, f0, f1, f2, hlt⟩ := hx4
    have X04 := ek x04
    clear x0 x1 t4 x04 hT4 hG4
    go_wp2_with fail
    refine (Ho.out w4 HT4.out HG4.out).mono ?_
    rintro e w5 ⟨A5, c5, rfl, hown5, hb5⟩
    have hr5 := Own.rbl hown5
    have z5 := hb5.size
    have x5 : Rd w5 (base + 1) A n c s false := X4.out.below hb5 (by omega)
    have x05 := X04.out.below hb5 (by omega)
    have b5 := b4.trans (hb5.mono (by omega))
    have hte := takeEntries_c A5 xl c5 w5.heap.size s E x w5 hr5 (Nat.le_refl _) (by omega) (by omega) (by omega)
    have Hte := ek hte; have X05 := ek x05
    clear c0 c1 c2 f0 f1 f2 hlt
    obtain ⟨c0, c1, c2, f0, f1, f2, hlt⟩ := x5
    clear hown5 hr5 hte x05
    go_wp2_with fail
    refine Hte.out.mono ?_
    rintro e w6 ⟨hb6, h6⟩
    have x06 := X05.out.below hb6 (by omega)
    have b6 := b5.trans (hb6.mono (by omega))
    obtain ⟨y0, y1, g0, g1, hlt0⟩ := x06
    rcases htk : Bm.takeE s E x with _ | ⟨D, en⟩
    ·rw [htk] at h6
     dsimp only at h6
     subst h6
     have Hd2 := ek (Hdir.out.trans htk)
     clear htk
     unfold dv
     go_wp2
     refine bodyPost_ret (v := .tuple #[dv none 0 0 0, .bool false]) ?_ rfl ⟨?_, ?_⟩
     ·simp [results, Tryz.results108, go_sem, dv, y0, y1]
     ·rw [← Hbase.out]; exact b6.trans (put2_at _ _ _ _)
     ·rw [Hd2.out]
    ·rw [htk] at h6
     obtain ⟨F, d, rfl, hF⟩ := h6
     obtain ⟨k, hk⟩ : ∃ k, D.length = k := ⟨_, rfl⟩
     rw [hk] at hF
     have hF2 : RcS 4 ((w6.setCell ⟨base, 0,none⟩ (.slice F k d)).setCell ⟨base, 1,none⟩ (.int .i64 (en : Int))) (Fr w.heap.size ((w6.setCell ⟨base, 0,none⟩ (.slice F k d)).setCell ⟨base, 1,none⟩ (.int .i64 (en : Int)))) F k d (fvs D) :=
      hF.keep ⟨fun b hb => ⟨by have := hb.1; have := Hbase.out; omega, Nat.lt_of_lt_of_le hb.2 (tn_put2 w6 base _ _).size⟩, fun p hp => (tn_put2 w6 base _ _).cell p hp.2 (by have := hp.1; omega)⟩
     have HF := ek hF2; have Hk := ek hk; have Hd2 := ek (Hdir.out.trans htk)
     unfold dv
     rw [hk]
     clear hF hF2 hk htk
     go_wp2
     refine bodyPost_ret (v := .tuple #[dv F k d en, .bool true]) ?_ rfl ⟨?_, ?_⟩
     ·simp [results, Tryz.results108, go_sem, dv, y0, y1]
     ·rw [← Hbase.out]; exact b6.trans (put2_at _ _ _ _)
     ·rw [Hd2.out]
      refine ⟨F, d, by rw [Hk.out], ?_⟩
      rw [Hk.out]
      exact HF.out
   ·have hdir := Bm.dir_bad (x := []) H1.out (by rw [Hl.out]; exact hzs) (by rw [hE, ← hy]; exact ho) hk
    have ho' := fun W (hT : Rn W W.heap.size T 256 ct Cm.tab) (hW : Rb W W.heap.size G z (c - s) y) => open_lit T 256 ct Cm.tab G z (c - s) y W hT (by omega) hW (by omega) [] 0 k ho rfl
    have Ho := ek ho'; have Hdir := ek hdir
    have hk0 : 0 < k := by omega
    clear hrG hy hyl ho ho' hdir hE hk
    go_enter Tryz.func108, Tryz.ntmps108
    go_wp2_with fail
    rw [← Hbase.out, ← W2.out]
    refine Hc.out.mono ?_
    rintro e w4 ⟨rfl, hx4, t4⟩
    have x04 := x0.tn t4 (by omega)
    have z4 := t4.size
    have b24 : Below base w2 w4 := t4.below (B := base) (by omega) (by omega)
    have b4 := b2.trans b24
    have hT4 := (Ht2.out.below b24).more (B' := w4.heap.size) (by omega)
    have hG4 := (HrG.out.below b24).more (B' := w4.heap.size) (by omega)
    have HT4 := ek hT4; have HG4 := ek hG4
    obtain ⟨c0, c1, c2, f0, f1, f2, hlt⟩ := hx4
    have X04 := ek x04
    clear x0 x1 t4 x04 hT4 hG4
    go_wp2_with fail
    refine (Ho.out w4 HT4.out HG4.out).mono ?_
    rintro e w5 ⟨A5, c5, rfl, hown5, hb5⟩
    have x05 := X04.out.below hb5 (by omega)
    have b5 := b4.trans (hb5.mono (by omega))
    obtain ⟨y0, y1, g0, g1, hlt0⟩ := x05
    clear hown5
    have dk : ((k : Int) != 0) = true := by simp; omega
    go_wp2
    refine bodyPost_ret (v := .tuple #[dv none 0 0 0, .bool false]) ?_ rfl ⟨?_, ?_⟩
    ·simp [results, Tryz.results108, go_sem, dv, y0, y1]
    ·rw [← Hbase.out]; exact b5.trans (put2_at _ _ _ _)
    ·rw [Hdir.out]
  ·have hdir := ek (Bm.dir_short H1.out (by rw [Hl.out]; exact hzs))
   have d1 : decide ((n : Int) - (s : Int) < (z : Int)) = true := by simp; omega
   go_enter Tryz.func108, Tryz.ntmps108
   go_wp2_with fail
   rw [← Hbase.out, ← W2.out]
   refine Hc.out.mono ?_
   rintro e w4 ⟨rfl, hx4, t4⟩
   have x04 := x0.tn t4 (by omega)
   have b4 := b2.trans (t4.below (B := base) (by omega) (by omega))
   obtain ⟨c0, c1, c2, f0, f1, f2, hlt⟩ := hx4
   obtain ⟨y0, y1, g0, g1, hlt0⟩ := x04
   clear x0 x1 t4
   go_wp2
   refine bodyPost_ret (v := .tuple #[dv none 0 0 0, .bool false]) ?_ rfl ⟨?_, ?_⟩
   ·simp [results, Tryz.results108, go_sem, dv, y0, y1]
   ·rw [← Hbase.out]; exact b4.trans (put2_at _ _ _ _)
   ·rw [hdir.out]
end Go.Proofs.YtkekmokdlgocaaaGreatDoor.Bun
