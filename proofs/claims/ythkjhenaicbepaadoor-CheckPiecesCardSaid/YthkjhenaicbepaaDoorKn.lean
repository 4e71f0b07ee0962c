/-
  The program's execute, Stack, Depth.
-/
import Derived.Test.YthkjhenaicbepaaDoorKl
namespace Go.Proofs.YthkjhenaicbepaaDoor
open Go.RowKit Vl Cd Ck

def ExRel (w : World) (g n : Nat) (f : List Bool) (p : List Ins) (G : List Bool × Nat × Nat) (D : Nat) (i : Value) (wr : World) : Prop :=
  ∃ (k : Nat) (s : List Bool) (d : Nat), k ≤ n ∧ i = .int .i64 (k : Int) ∧ Hid (rn f s k (p.drop k) = G) ∧ Hid (dpr f s d (p.drop k) = D) ∧ Hid (St wr g s d) ∧ Hid (Below g w wr) ∧ Hid (s.length ≤ 30 ∧ d ≤ 30)
theorem dn_le {f s : List Bool} {d : Nat} {x : Ins} (hs : s.length ≤ 30) (hd : d ≤ 30) : dn f s d x ≤ 30 := by
  unfold dn
  have := stp_len (f := f) (x := x) hs
  split <;> omega

/-- What execute hands over. -/
def RetE (w : World) (g : Nat) (G : List Bool × Nat × Nat) (D : Nat) (e : Ending) (w' : World) : Prop := e = .returned (.tuple #[.int .i64 (G.2.1 : Int), .int .i64 (G.2.2 : Int)]) ∧ St w' g G.1 D ∧ Below g w w'
set_option maxRecDepth 100000 in
set_option maxHeartbeats 2000000 in
theorem exec_c (A : Option Addr) (n c : Nat) (p : List Ins) (F : Option Addr) (m c' : Nat) (f : List Bool) (g : Nat) (w : World) (hp : Rc 3 w g A n c (ics p)) (hn : n ≤ 1000000) (hI : ∀ x ∈ p, I x.op) (hr : Rc 1 w g F m c' (lvb f)) (hm : m ≤ 1000000) (h : St w g [] 0) :
    Calls Tryd.prog 18 #[.pointer (some ⟨g, 0, none⟩), .slice A n c, .slice F m c'] w (RetE w g (sk p f) (dp p f)) := by
  have hfl := lvb_len1 hr
  have hpl := ics_num hp
  obtain ⟨G, hG⟩ : ∃ G, G = sk p f := ⟨_, rfl⟩
  obtain ⟨D, hD⟩ : ∃ D, D = dp p f := ⟨_, rfl⟩
  rw [← hG, ← hD]
  unfold sk at hG
  unfold dp at hD
  by_cases h2 : m = 0 ∨ m = 2
  · by_cases h3 : n ≤ 200
    · have hbad : bad p f = 0 := by unfold bad; rw [if_neg (by omega), if_neg (by omega)]
      rw [if_pos hbad] at hG hD
      have HG := Lib.hid (show rn f [] 0 (p.drop 0) = G from hG.symm)
      have HD := Lib.hid (show dpr f [] 0 (p.drop 0) = D from hD.symm)
      have d0 : decide ((200 : Int) < (n : Int)) = false := decide_eq_false (by omega)
      have HP := Lib.hid hp; have HI := Lib.hid hI; have HR := Lib.hid hr; have HS := Lib.hid h; have Hpl := Lib.hid hpl
      clear hp hI hr h hpl hfl hbad hG hD hn hm
      rcases h2 with rfl | rfl
      all_goals
        go_enter Tryd.func18, Tryd.ntmps18
        go_wp2
        go_loopw [24] (fun i wr => ExRel w g n f p G D i wr) (fun i _ => n - (intOf i).toNat)
        case atStart => exact ⟨0, [], 0, Nat.zero_le _, rfl, HG, HD, HS, Lib.hid (Below.refl _ _), Lib.hid ⟨by simp, by simp⟩⟩
        case round =>
          obtain ⟨k, s, d, hk, rfl, Hg, Hd, Hs, Hb, Hle⟩ := hrel
          by_cases hlt : k < n
          · obtain ⟨b, o, x, rfl, hb, a0, a1, a2, hx⟩ := ics_at (HP.out.below Hb.out) hlt
            have hcons : p.drop k = x :: p.drop (k + 1) := by
              have h2 : k < p.length := by rw [Hpl.out]; exact hlt
              rw [List.drop_eq_getElem_cons h2]
              rw [List.getElem?_eq_getElem h2] at hx
              injection hx with hx
              rw [hx]
            have hg := Hg.out
            have hd := Hd.out
            rw [hcons] at hg hd
            have hxm : x ∈ p := List.mem_of_getElem? hx
            obtain ⟨w7, hw7⟩ : ∃ w7, w7 = wr.alloc (.cells #[.int .i64 x.op, .int .i64 x.n, st x.s] 37) := ⟨_, rfl⟩
            have b7 : Below wr.heap.size wr w7 := by rw [hw7]; exact (Below.refl _ _).alloc (Nat.le_refl _) _
            have x7 : Bx w7 wr.heap.size (.int .i64 x.op) (.int .i64 x.n) (st x.s) := by rw [hw7]; exact Bx.made _ _ _ _ _
            have hs7 := Hs.out.below b7
            have hb7 := Hb.out.trans (b7.mono (Nat.le_of_lt Hs.out.lt))
            have hst := step_c x (HI.out x hxm) F _ c' f g s d w7 (HR.out.below hb7) (by simp) hs7 Hle.out.1 Hle.out.2
            have hsl := stp_len (f := f) (x := x) Hle.out.1
            have hdl := dn_le (f := f) (x := x) Hle.out.1 Hle.out.2
            have hgo := fun h => (rn_go (f := f) (s := s) (x := x) k (p.drop (k + 1)) h).symm.trans hg
            have hgs := fun h => (rn_stop (f := f) (s := s) (x := x) k (p.drop (k + 1)) h).symm.trans hg
            have hdo : (stp f s x).2 = 0 → dpr f (stp f s x).1 (dn f s d x) (p.drop (k + 1)) = D := fun h => by
              unfold dn; rw [if_pos h]; exact (dpr_go d (p.drop (k + 1)) h).symm.trans hd
            have hds : (stp f s x).2 ≠ 0 → dn f s d x = D ∧ (stp f s x).1 = s := fun h => by
              unfold dn; rw [if_neg h]; exact ⟨(dpr_stop d (p.drop (k + 1)) h).symm.trans hd, stp_keep h⟩
            obtain ⟨op, nn, t⟩ := x
            obtain ⟨X, hX, -, -, -⟩ := hide_st t
            dsimp only at a0 a1 a2 hw7 x7
            unfold st at a2 hw7 x7
            rw [← hX] at a2 hw7 x7
            simp only [iv, st, ← hX] at hst
            generalize dn f s d ⟨op, nn, t⟩ = dd at *
            generalize stp f s ⟨op, nn, t⟩ = T at *
            have W7 := Lib.hid hw7; have X7 := Lib.hid x7; have B7 := Lib.hid hb7; have HT := Lib.hid hst; have Hgo := Lib.hid hgo; have Hgs := Lib.hid hgs; have Hdo := Lib.hid hdo; have Hds := Lib.hid hds; have Hsl := Lib.hid hsl; have Hdl := Lib.hid hdl
            obtain ⟨c0, c1, c2, -, -, -, -⟩ := x7
            clear hw7 b7 hs7 hb7 hst hgo hgs hdo hds hsl hdl hg hd hcons hx hxm hX
            go_wp2_with (rw [← W7.out])
            refine HT.out.mono ?_
            rintro e w8 ⟨rfl, hs8, b8⟩
            have B8 := Lib.hid (B7.out.trans b8); have S8 := Lib.hid hs8
            clear b8 hs8 c0 c1 c2 a0 a1 a2
            obtain ⟨u, er⟩ := T
            by_cases h0 : er = 0
            · subst h0
              have h1 := Lib.hid (Hgo.out rfl); have h2 := Lib.hid (Hdo.out rfl)
              go_wp2
              go_roundw
              case rel => exact ⟨k + 1, u, dd, hlt, by go_num, h1, h2, S8, B8, Lib.hid ⟨Hsl.out, Hdl.out⟩⟩
              case measure => simp [intOf]; omega
            · have e3 : ((er : Int) != 0) = true := by simp; omega
              have e4 : ((er : Int) == 0) = false := by simp; omega
              have HF := Lib.hid (show RetE w g G D (.returned (.tuple #[.int .i64 (k : Int), .int .i64 (er : Int)])) w8 from by
                have h1 := Hgs.out h0
                have h2 := Hds.out h0
                have h3 := S8.out
                rw [← h1]
                rw [h2.1] at h3
                have h4 : u = s := h2.2
                rw [h4] at h3
                exact ⟨rfl, h3, B8.out⟩)
              clear h0
              go_wp2
              go_ret2
              exact HF.out
          · obtain rfl : k = n := by omega
            have hg := Hg.out
            have hd := Hd.out
            rw [List.drop_of_length_le (by rw [Hpl.out]; exact Nat.le_refl _)] at hg hd
            have HF := Lib.hid (show RetE w g G D (.returned (.tuple #[.int .i64 (k : Int), .int .i64 0])) wr from by
              rw [← hg, ← hd, rn_nil, dpr_nil]; exact ⟨rfl, Hs.out, Hb.out⟩)
            clear hg hd
            go_wp2
            go_ret2
            exact HF.out
    · have d0 : decide ((200 : Int) < (n : Int)) = true := decide_eq_true (by omega)
      have hbad : bad p f = 5 := by unfold bad; rw [if_neg (by omega), if_pos (by omega)]
      rw [if_neg (by omega), hbad] at hG
      rw [if_neg (by omega)] at hD
      have HF := Lib.hid (show RetE w g G D (.returned (.tuple #[.int .i64 0, .int .i64 5])) w from by rw [hG, hD]; exact ⟨rfl, h, Below.refl _ _⟩)
      clear h3 hbad hG hD hp hI hr h hfl hpl
      rcases h2 with rfl | rfl
      all_goals
        go_enter Tryd.func18, Tryd.ntmps18
        go_wp2
        go_ret2
        exact HF.out
  · have d0 : ((m : Int) != 0) = true := by simp; omega
    have d1 : ((m : Int) != 2) = true := by simp; omega
    have d0' : ((m : Int) == 0) = false := by simp; omega
    have d1' : ((m : Int) == 2) = false := by simp; omega
    have hbad : bad p f = 1 := by unfold bad; rw [if_pos (by omega)]
    rw [if_neg (by omega), hbad] at hG
    rw [if_neg (by omega)] at hD
    have HF := Lib.hid (show RetE w g G D (.returned (.tuple #[.int .i64 0, .int .i64 1])) w from by rw [hG, hD]; exact ⟨rfl, h, Below.refl _ _⟩)
    clear h2 hbad hG hD hp hI hr h hfl hpl
    go_enter Tryd.func18, Tryd.ntmps18
    go_wp2
    go_ret2
    exact HF.out
end Go.Proofs.YthkjhenaicbepaaDoor
