/-
  Joined: Zg.
-/
import Derived.Test.YtplkjljhpmldfaaJ41
import Derived.Test.YtplkjljhpmldfaaJ38
import Derived.Test.YtplkjljhpmldfaaJ9
import Derived.Test.YtplkjljhpmldfaaJ28
import Derived.Test.YtplkjljhpmldfaaJ36
import Derived.Lib.MinMax
/-
  The document's four, Write: what each call returns and leaves.
-/
namespace Go.Proofs.Ytplkjljhpmldfaa
open Go.RowKit Go.Shelf

theorem RL.from_ {w : World} {B n c k : Nat} {A : Option Addr} {l : Rcs} (h : RL w B A n c l) (hk : k ≤ n) : RL w B (cutA A c k) (n - k) (c - k) (l.drop k) := by
  have hl := h.len
  obtain ⟨vs, h1, h2⟩ := h
  have hvl := h1.len1
  have hnc := h1.2.1
  refine ⟨vs.drop k, ⟨by rw [List.length_drop]; omega, by omega, by have := h1.2.2.1; omega, fun hp => ?_⟩, by rw [List.length_drop, List.length_drop]; omega, fun j v r g1 g2 => ?_⟩
  · obtain ⟨b, off, rfl, hb, hc⟩ := h1.2.2.2 (by omega)
    refine ⟨b, off + k, ?_, hb, fun j v hj => ?_⟩
    · unfold cutA
      rw [if_neg (by omega)]
      by_cases h0 : k = 0
      · subst h0; simp [Addr.add]
      · simp [Addr.add, h0]
    · rw [List.getElem?_drop] at hj
      rw [Nat.add_assoc]; exact hc _ v hj
  · rw [List.getElem?_drop] at g1 g2
    exact h2.2 _ v r g1 g2
theorem RL.upto {w : World} {B n c k : Nat} {A : Option Addr} {l : Rcs} (h : RL w B A n c l) (hk : k ≤ n) : RL w B A k c (l.take k) := by
  have hl := h.len
  obtain ⟨vs, h1, h2⟩ := h
  have hvl := h1.len1
  have hnc := h1.2.1
  refine ⟨vs.take k, ⟨by rw [List.length_take]; omega, by omega, h1.2.2.1, fun hp => ?_⟩, by rw [List.length_take, List.length_take]; omega, fun j v r g1 g2 => ?_⟩
  · obtain ⟨b, off, rfl, hb, hc⟩ := h1.2.2.2 (by omega)
    refine ⟨b, off, rfl, hb, fun j v hj => ?_⟩
    rw [List.getElem?_take] at hj
    split at hj
    · exact hc _ v hj
    · cases hj
  · rw [List.getElem?_take] at g1 g2
    split at g1
    · rw [if_pos (by assumption)] at g2
      exact h2.2 _ v r g1 g2
    · cases g1
theorem sl0 (A : Option Addr) (n c k : Nat) (hk : k ≤ n) (hc : n ≤ c) (W : World) : (Instr.slice 28 (.slice A n c) none (some (.int .i64 (k : Int))) none).run Try.prog W = .ok (.slice A k c) W := by
  rw [run_slice_h W 28 _ _ _ rty_sl .i64 (k : Int) (by omega) (by omega), rty_sz]
  simp [Result.andThen, sliced]
  intro _
  cases A <;> simp [Addr.add]

set_option maxRecDepth 100000 in
/-- four -/
theorem four8_c (r : Nat) (w : World) (hr : r < 4294967296) : Calls Try.prog 35 #[.int .i64 (r : Int)] w (RetFour w (Cm.four r)) := by
  have H := Lib.hid (rfour_c r w hr)
  have e1 : IntKind.u32.wrap (r : Int) = (r : Int) := by rw [IntKind.wrap_u32]; omega
  go_enter Try.func35, Try.ntmps35
  go_wp2_with fail
  refine H.out.mono ?_
  rintro e w1 ⟨A1, c1, rfl, ho1, hb1⟩
  go_wp2
  go_ret
  exact ⟨A1, c1, rfl, ho1, hb1⟩

def lenOf : Value → Nat
  | .slice _ n _ => n
  | _ => 0
def RwR (w : World) (l : Rcs) (N : Nat) (s o i : Value) (wr : World) : Prop :=
  ∃ A c O D m d X e M, ∃ rest : Rcs, ∃ C : List Rcs, s = .slice D m d ∧ o = .slice A (List.length O) c ∧ i = .slice X (List.length M) e ∧ Own wr 5 w.heap.size A c O ∧ Own wr 5 w.heap.size X e M ∧ RL w w.heap.size D m d rest ∧ m ≤ 40 ∧
    Hm.ch l = C ++ Hm.ch rest ∧ O = Hm.body C ∧ M = Vm.vb N ++ (C.map Hm.ew).flatMap Hm.ixe ∧ O.length ≤ 20000 * C.length ∧ M.length ≤ 10 + 20 * C.length ∧ (ob X = none ∨ ob X ≠ ob A) ∧ Below w.heap.size w wr
theorem rput_to (A : Option Addr) (n c : Nat) (l : List UInt8) (N : Nat) (w : World) (hr : Rb w w.heap.size A n c l) (hn : n ≤ 900000) (hN : N ≤ 100000) (R : List UInt8) (hR : l ++ Vm.vb N = R) :
    Calls Try.prog 31 #[.slice A n c, .int .u64 (N : Int)] w (RetB w.heap.size w R) := by
  subst hR
  exact rput_c A n c l N w hr hn (by omega)

set_option maxRecDepth 100000 in
set_option maxHeartbeats 8000000 in
/-- the document's Write -/
theorem rwrite_c (A : Option Addr) (n c : Nat) (l : Rcs) (w : World) (hr : RL w w.heap.size A n c l) (hf : Hm.Few l) :
    Calls Try.prog 15 #[.slice A n c] w (RetW w (Hm.wrS l)) := by
  have hl := hr.len
  have hn : n ≤ 40 := by have := hf.2; omega
  rcases mayC l with hmay | hmay
  rotate_left
  · have hma := mayAll_c A n c w.heap.size l w hr (by omega) false (by simpa using hmay)
    have hwr := Hm.wrS_err hmay
    have Hma := Lib.hid hma; have Hwr := Lib.hid hwr
    clear hma hwr hr hl hf hmay
    go_enter Try.func15, Try.ntmps15
    go_wp2_with fail
    refine Hma.out.mono ?_
    rintro e w' ⟨rfl, rfl⟩
    go_wp2
    go_ret2
    rw [Hwr.out]
    exact ⟨none, 0, rfl, Own.nil _ _ _, Below.refl _ _⟩
  · have hma := mayAll_c A n c w.heap.size l w hr (by omega) true (by simpa using hmay)
    obtain ⟨N, hN⟩ : ∃ N, N = (Hm.ch l).length := ⟨_, rfl⟩
    have hN2 := Hm.ch_len _ l (Nat.le_refl _)
    rw [← hN, hl] at hN2
    obtain ⟨n3, hn3⟩ : ∃ n3, n3 = n + 3 := ⟨_, rfl⟩
    have e1 : IntKind.i64.wrap ((n : Int) + 3) = (n3 : Int) := by rw [IntWalk.i64_in _ (by omega)]; omega
    have e2' : ((n : Int) + 3) = (n3 : Int) := by omega
    have e3 : Int.tdiv (n3 : Int) 4 = (N : Int) := by rw [Int.tdiv_eq_ediv_of_nonneg (by omega)]; omega
    have hN10 : N ≤ 10 := by omega
    have Hma := Lib.hid hma; have Hr := Lib.hid hr; have Hl := Lib.hid hl; have Hf := Lib.hid hf; have Hmay := Lib.hid hmay; have HN := Lib.hid hN
    have hput := fun W => rput_to none 0 0 [] N W (Rb.nil _ _) (by omega) (by omega) (Vm.vb N) (by simp)
    have Hput := Lib.hid hput
    clear hma hr hl hf hmay hN hN2 hn3 hput
    go_enter Try.func15, Try.ntmps15
    go_wp2_with fail
    refine Hma.out.mono ?_
    rintro e w' ⟨rfl, rfl⟩
    obtain ⟨w1, hw1⟩ : ∃ w1, w1 = w.alloc (.cells #[] 5) := ⟨_, rfl⟩
    have b1 : Below w.heap.size w w1 := by rw [hw1]; exact (Below.refl _ _).alloc (Nat.le_refl _) _
    have z1 := b1.size
    have ho1 : Own w1 5 w.heap.size (some ⟨w.heap.size, 0, none⟩) 0 [] := by rw [hw1]; exact Own.made0 _ _
    have W1 := Lib.hid hw1; have Ho1 := Lib.hid ho1
    clear hw1 ho1
    go_wp2_with fail
    rw [← W1.out]
    refine (Hput.out w1).mono ?_
    rintro e w2 ⟨X2, d2, rfl, ho2, hb2⟩
    have b2 := b1.trans (hb2.mono z1)
    have hap : ob X2 = none ∨ ob X2 ≠ ob (some ⟨w.heap.size, 0, none⟩ : Option Addr) := ob_apart (b := w1.heap.size) (fun g hg => (own_ob ho2 g hg).1) (fun g hg => (own_ob Ho1.out g hg).2)
    have hvl : (Vm.vb N).length ≤ 10 := by have := Vm.vb_len_le 1 N (by omega); omega
    have ho12 := Ho1.out.keep hb2
    have Ho2 := Lib.hid (ho2.mono (base' := w.heap.size) z1); have Ho12 := Lib.hid ho12; have Hap := Lib.hid hap
    clear ho2 ho12 hap
    go_wp2
    go_loopw [0, 4, 5] (fun s o i wr => RwR w l N s o i wr) (fun s _ _ _ => lenOf s)
    case atStart => exact ⟨_, _, [], A, n, c, X2, d2, Vm.vb N, l, [], rfl, rfl, rfl, Ho12.out, Ho2.out, Hr.out, hn, rfl, rfl, by simp, by simp, by simpa using hvl, Hap.out, b2⟩
    case round =>
      obtain ⟨A3, c3, O, D, m, d, X, ce, M, rest, C, rfl, rfl, rfl, hoA, hoX, hrr, hm, hch, hO, hM, hOl, hMl, hap, hbel⟩ := hrel
      have z3 := hbel.size
      have hrl := hrr.len
      have hCl : C.length ≤ 10 := by
        have h1 := Hm.ch_few Hf.out
        rw [hch, List.length_append] at h1
        omega
      by_cases hlt : 0 < m
      · have hne : rest ≠ [] := fun e => by rw [e] at hrl; simp at hrl; omega
        obtain ⟨k, hk⟩ : ∃ k, k = min 4 m := ⟨_, rfl⟩
        have hmin : min (4 : Int) (m : Int) = (k : Int) := by omega
        have hkm : k ≤ m := by omega
        have hk4 : k ≤ 4 := by omega
        have hk1 : 1 ≤ k := by omega
        have htk : rest.take k = rest.take 4 := by
          rcases Nat.lt_or_ge m 4 with h | h
          · rw [List.take_of_length_le (by omega), List.take_of_length_le (by omega)]
          · rw [show k = 4 by omega]
        have hdk : rest.drop k = rest.drop 4 := by
          rcases Nat.lt_or_ge m 4 with h | h
          · rw [List.drop_of_length_le (by omega), List.drop_of_length_le (by omega)]
          · rw [show k = 4 by omega]
        have hst := Hm.ch_step hne
        rw [← htk, ← hdk] at hst
        rw [hst] at hch
        obtain ⟨ck1, hck⟩ : ∃ ck1, ck1 = rest.take k := ⟨_, rfl⟩
        obtain ⟨rs, hrs⟩ : ∃ rs, rs = rest.drop k := ⟨_, rfl⟩
        rw [← hck, ← hrs] at hch
        have hckm : ck1 ∈ Hm.ch l := by rw [hch]; simp
        have henl := Hm.ch_enc Hf.out hckm
        have hckl : ck1.length = k := by rw [hck, List.length_take]; omega
        have hcmay : ∀ r ∈ ck1, Fm.May r := fun r h => Hmay.out r ((Hm.ch_mem _ l (Nat.le_refl _) ck1 hckm).2.2.2 r h)
        obtain ⟨E, hE⟩ : ∃ E, E = Fm.enc ck1 := ⟨_, rfl⟩
        obtain ⟨p, hp⟩ : ∃ p, p = Pm.pressS E := ⟨_, rfl⟩
        obtain ⟨BL, hBL⟩ : ∃ BL, BL = Hm.blkw ck1 := ⟨_, rfl⟩
        have hBLl : BL.length ≤ 20000 := by rw [hBL]; exact (Hm.blkw_len (by omega)).2
        have hpl : p.length ≤ 20000 := by rw [hp]; have := Pm.press_len E (by rw [hE]; omega); rw [hE] at this ⊢; omega
        have hEl : E.length ≤ 3200 := by rw [hE]; exact henl
        have hbl2 : p ++ Cm.four (Cm.sum Cm.tab p) = BL := by rw [hBL, hp, hE]; rfl
        have hs0 := fun W => sl0 D m d k hkm (by obtain ⟨vs, h1, _⟩ := hrr; exact h1.2.1) W
        have hs1 := fun W => sl1 D m d k hkm W
        have henc := fun W (hW : RL W w.heap.size D k d ck1) (hb : w.heap.size ≤ W.heap.size) => rencode_c D k d w.heap.size ck1 W hW hb (by omega) (by omega)
        rw [encS_ok hcmay, ← hE] at henc
        have hpr := fun W A' k' (hW : Rb W W.heap.size A' E.length k' E) => rpress_c A' E.length k' E W hW (by omega)
        rw [← hp] at hpr
        have hse := fun W A' k' (hW : Rb W W.heap.size A' p.length k' p) => rsealed_c A' p.length k' p W hW (by omega)
        rw [hbl2] at hse
        obtain ⟨O2, hO2⟩ : ∃ O2, O2 = O ++ BL := ⟨_, rfl⟩
        have hO2l : O2.length ≤ 20000 * (C ++ [ck1]).length := by rw [hO2, List.length_append, List.length_append]; simp; omega
        have hO2b : O2 = Hm.body (C ++ [ck1]) := by rw [hO2, hO, Hm.body_snoc, hBL]
        obtain ⟨M1, hM1⟩ : ∃ M1, M1 = M ++ Vm.vb BL.length := ⟨_, rfl⟩
        obtain ⟨M2, hM2⟩ : ∃ M2, M2 = M1 ++ Vm.vb k := ⟨_, rfl⟩
        have hvl1 : (Vm.vb BL.length).length ≤ 10 := by have := Vm.vb_len_le 2 BL.length (by omega); omega
        have hvl2 : (Vm.vb k).length ≤ 10 := by have := Vm.vb_len_le 1 k (by omega); omega
        have hM1l : M1.length ≤ 20 + 20 * C.length := by rw [hM1, List.length_append]; omega
        have hM2l : M2.length ≤ 10 + 20 * (C ++ [ck1]).length := by rw [hM2, hM1, List.length_append, List.length_append, List.length_append]; simp; omega
        have hM2b : M2 = Vm.vb N ++ ((C ++ [ck1]).map Hm.ew).flatMap Hm.ixe := by
          rw [hM2, hM1, hM, List.map_append, List.flatMap_append]
          simp [Hm.ixe, Hm.ew, hBL, hckl]
        have hch2 : Hm.ch l = (C ++ [ck1]) ++ Hm.ch rs := by rw [hch, List.append_assoc]; rfl
        have hrr0 := hrr.upto hkm
        rw [← hck] at hrr0
        have hrr1 := hrr.from_ hkm
        rw [← hrs] at hrr1
        have hO2s : O2.length ≤ 1000000 := by rw [hO2, List.length_append]; omega
        have hput1 := fun W (hW : Rb W W.heap.size X M.length ce M) => rput_to X M.length ce M BL.length W hW (by omega) (by omega) M1 hM1.symm
        have hput2 := fun W X' c' (hW : Rb W W.heap.size X' M1.length c' M1) => rput_to X' M1.length c' M1 k W hW (by omega) (by omega) M2 hM2.symm
        have HoA := Lib.hid hoA; have HoX := Lib.hid hoX; have Hrr0 := Lib.hid hrr0; have Hrr1 := Lib.hid hrr1; have Henc := Lib.hid henc; have Hpr := Lib.hid hpr; have Hse := Lib.hid hse; have HO2 := Lib.hid hO2; have HO2l := Lib.hid hO2l; have HO2b := Lib.hid hO2b; have HM2l := Lib.hid hM2l; have HM2b := Lib.hid hM2b; have Hch2 := Lib.hid hch2; have Hput1 := Lib.hid hput1; have Hput2 := Lib.hid hput2; have Hap := Lib.hid hap
        clear hoA hoX hrr hrr0 hrr1 henc hpr hse hO2 hO2l hO2b hM2l hM2b hch2 hput1 hput2 hap hch hst htk hdk hne hckm hcmay hE hp hBL hbl2 hck hrs hM1 hM2 hO hM hrl hckl hk henl
        go_wp2_with fail
        refine (Henc.out _ (Hrr0.out.below hbel) z3).mono ?_
        rintro e w4 ⟨A4, c4, rfl, ho4, hb4⟩
        have b4 := hbel.trans (hb4.mono z3)
        have z4 := hb4.size
        dsimp only at ho4 ⊢
        have hr4 := ho4.rb
        have HoA4 := Lib.hid (HoA.out.keep hb4); have HoX4 := Lib.hid (HoX.out.keep hb4)
        have Hr4 := Lib.hid hr4
        clear ho4 hr4 HoA HoX
        go_wp2_with fail
        refine (Hpr.out _ _ _ Hr4.out).mono ?_
        rintro e w5 ⟨A5, c5, rfl, ho5, hb5⟩
        have b5 := b4.trans (hb5.mono b4.size)
        have hr5 := ho5.rb
        have HoA5 := Lib.hid (HoA4.out.keep hb5); have HoX5 := Lib.hid (HoX4.out.keep hb5)
        have Hr5 := Lib.hid hr5
        clear ho5 hr5 HoA4 HoX4 Hr4
        go_wp2_with fail
        refine (Hse.out _ _ _ Hr5.out).mono ?_
        rintro e w6 ⟨A6, c6, rfl, ho6, hb6⟩
        have b6 := b5.trans (hb6.mono b5.size)
        have z6 := b6.size
        have hr6 := ho6.rb
        have HoA6 := Lib.hid (HoA5.out.keep hb6); have HoX6 := Lib.hid (HoX5.out.keep hb6)
        have Hr6 := Lib.hid hr6
        clear ho6 hr6 HoA5 HoX5 Hr5
        go_wp2_with (at_builtin; go_must (refine bty.wpAppTo rfl (.tmp 53) (.tmp 54) rfl (l := O) (N := O2) rfl rfl HoA6.out Hr6.out HO2.out.symm ?h1 ?h2 ?_))
        case h1 => omega
        case h2 => omega
        intro A7 c7 w7 ho7 hg7
        have b7 := b6.trans (hg7.below HoA6.out (by omega))
        have z7 := b7.size
        have hoX7 := own_beside HoX6.out hg7 Hap.out
        have Ho7 := Lib.hid ho7; have HoX7 := Lib.hid hoX7
        clear ho7 hoX7 hg7 HoA6 HoX6 Hr6
        go_wp2_with fail
        refine (Hput1.out w7 HoX7.out.rb).mono ?_
        rintro e w8 ⟨X8, c8, rfl, ho8, hb8⟩
        have b8 := b7.trans (hb8.mono z7)
        have hr8 := ho8.rb
        have Hr8 := Lib.hid hr8; have Ho78 := Lib.hid (Ho7.out.keep hb8)
        clear hr8 ho8 Ho7 HoX7
        go_wp2_with fail
        refine (Hput2.out w8 _ _ Hr8.out).mono ?_
        rintro e w9 ⟨X9, c9, rfl, ho9, hb9⟩
        have b9 := b8.trans (hb9.mono b8.size)
        have hap9 : ob X9 = none ∨ ob X9 ≠ ob A7 := ob_apart (b := w8.heap.size) (fun g hg => (own_ob ho9 g hg).1) (fun g hg => (own_ob Ho78.out g hg).2)
        have Ho9 := Lib.hid (ho9.mono (base' := w.heap.size) b8.size); have Ho79 := Lib.hid (Ho78.out.keep hb9); have Hap9 := Lib.hid hap9
        clear ho9 hap9 Ho78 Hr8
        go_wp2
        go_roundw
        case rel => exact ⟨A7, c7, O2, cutA D d k, m - k, d - k, X9, c9, M2, rs, C ++ [ck1], rfl, rfl, rfl, Ho79.out, Ho9.out, Hrr1.out, by omega, Hch2.out, HO2b.out, HM2b.out, HO2l.out, HM2l.out, Hap9.out, b9⟩
        case measure => simp only [lenOf]; omega
      · obtain rfl : m = 0 := by omega
        obtain rfl : rest = [] := List.eq_nil_of_length_eq_zero hrl
        rw [Hm.ch_nil, List.append_nil] at hch
        have hMx : M = Hm.ixc (C.map Hm.ew) := by
          rw [hM, HN.out, hch]
          unfold Hm.ixc
          rw [List.length_map]
        obtain ⟨S, hS⟩ : ∃ S, S = Hm.sealed M := ⟨_, rfl⟩
        have hSl : S.length = M.length + 4 := by rw [hS, Hm.sealed_len]
        obtain ⟨N1, hN1⟩ : ∃ N1, N1 = O ++ S := ⟨_, rfl⟩
        obtain ⟨N2, hN2⟩ : ∃ N2, N2 = N1 ++ Cm.four S.length := ⟨_, rfl⟩
        obtain ⟨N3, hN3⟩ : ∃ N3, N3 = N2 ++ Hm.tl := ⟨_, rfl⟩
        have hwr : Hm.wrS l = (N3, 0) := by
          rw [Hm.wrS_ok Hmay.out, hN3, hN2, hN1, hO, hS, hMx]
          unfold Hm.wr Hm.file
          rw [hch]
          unfold Hm.tailw
          simp only [List.append_assoc]
        have hN1l : N1.length ≤ 300000 := by rw [hN1, List.length_append]; omega
        have hN2l : N2.length ≤ 300004 := by rw [hN2, List.length_append, Cm.four_len]; omega
        have hse := rsealed_c X M.length ce M wr hoX.rb (by omega)
        have hse2 : Calls Try.prog 34 #[.slice X M.length ce] wr (RetB wr.heap.size wr S) := by rw [hS]; exact hse
        have hS4 : S.length < 4294967296 := by omega
        have Hse := Lib.hid hse2; have HN1 := Lib.hid hN1; have HN2 := Lib.hid hN2; have HN3 := Lib.hid hN3; have Hwr := Lib.hid hwr; have HoA := Lib.hid hoA
        clear hse hse2 hN1 hN2 hN3 hwr hoA hoX hS hSl hMx hM hO hch hap hrr hrl
        go_wp2_with fail
        refine Hse.out.mono ?_
        rintro e w4 ⟨A4, c4, rfl, ho4, hb4⟩
        have b4 := hbel.trans (hb4.mono z3)
        have z4 := b4.size
        have hr4 := ho4.rb
        have HoA4 := Lib.hid (HoA.out.keep hb4); have Hr4 := Lib.hid hr4
        clear ho4 hr4 HoA
        go_wp2_with (at_builtin; go_must (refine bty.wpAppTo rfl (.tmp 70) (.tmp 71) rfl (l := O) (N := N1) rfl rfl HoA4.out Hr4.out HN1.out.symm ?h1 ?h2 ?_))
        case h1 => omega
        case h2 => omega
        intro A5 c5 w5 ho5 hg5
        have b5 := b4.trans (hg5.below HoA4.out (by omega))
        have z5 := b5.size
        have Ho5 := Lib.hid ho5
        clear ho5 hg5 HoA4 Hr4
        go_wp2_with fail
        refine (four8_c S.length w5 hS4).mono ?_
        rintro e w6 ⟨A6, c6, rfl, ho6, hb6⟩
        have b6 := b5.trans (hb6.mono z5)
        have z6 := b6.size
        have hr6 := Own.rbl ho6
        have Ho56 := Lib.hid (Ho5.out.keep hb6); have Hr6 := Lib.hid hr6
        clear ho6 hr6 Ho5
        go_wp2_with (at_builtin; go_must (refine bty.wpAppTo rfl (.tmp 73) (.tmp 76) rfl (l := N1) (N := N2) rfl rfl Ho56.out Hr6.out HN2.out.symm ?h1 ?h2 ?_))
        case h1 => omega
        case h2 => omega
        intro A7 c7 w7 ho7 hg7
        have b7 := b6.trans (hg7.below Ho56.out (by omega))
        have z7 := b7.size
        have Ho7 := Lib.hid ho7
        clear ho7 hg7 Ho56 Hr6
        go_wp2_with (at_builtin; go_must (refine bty.wpAppStrG rfl (.tmp 78) _ rfl (l := N2) (N := N3) rfl rfl Ho7.out ?h0 ?h1 ?h2 ?_))
        case h0 => rw [HN3.out]; rfl
        case h1 => show N2.length + 4 ≤ _; omega
        case h2 => omega
        intro A8 c8 w8 ho8 hg8
        have b8 : Below w.heap.size w w8 := b7.trans ((Below.refl w.heap.size w7).grown hg8 z7 (fun k hk => (own_ob Ho7.out k (by simpa using hk)).1))
        go_wp2
        go_ret2
        rw [Hwr.out]
        exact ⟨A8, c8, rfl, ho8, b8⟩
end Go.Proofs.Ytplkjljhpmldfaa
