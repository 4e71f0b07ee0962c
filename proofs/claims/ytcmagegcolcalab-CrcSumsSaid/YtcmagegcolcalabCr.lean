/-
  The document's Four, Seal and Open (threshingref02): what each call returns and leaves.
-/
import Derived.Test.YtcmagegcolcalabCl
import Derived.Deep.RegionLaw
import Derived.Deep.DeepCutAuto
namespace Go.Proofs.Ytcmagegcolcalab
open Go.RowKit

/-- Four new bytes. -/
def RetFour (w : World) (l : List UInt8) (e : Ending) (w' : World) : Prop :=
  ∃ A c, e = .returned (.slice A 4 c) ∧ (Own w' 5 w.heap.size A c l ∧ l.length = 4) ∧ Below w.heap.size w w'

theorem four_cells (r : Nat) (x0 x1 x2 x3 : Int) (h0 : x0 = ((r % 256 : Nat) : Int)) (h1 : x1 = ((r / 256 % 256 : Nat) : Int)) (h2 : x2 = ((r / 65536 % 256 : Nat) : Int)) (h3 : x3 = ((r / 16777216 % 256 : Nat) : Int)) :
    (#[Value.int .u8 x0, .int .u8 x1, .int .u8 x2, .int .u8 x3] : Array Value).toList = bvs (Cm.four r) := by
  subst h0 h1 h2 h3
  simp only [bvs, Cm.four, List.map_cons, List.map_nil, Cm.byteAt_nat]
  simp

set_option maxRecDepth 100000 in
/-- the document's Four -/
theorem rfour_c (r : Nat) (w : World) (hr : r < 4294967296) :
    Calls Try.prog 24 #[.int .u32 (r : Int)] w (RetFour w (Cm.four r)) := by
  have Hr := Lib.hid hr; clear hr
  go_enter Try.func24, Try.ntmps24
  go_wp2
  go_ret
  exact ⟨_, _, rfl, ⟨Own.lit _ _ _ (Cm.four r) (four_cells r _ _ _ _ (by have := Hr.out; omega) (by have := Hr.out; omega) (by have := Hr.out; omega) (by have := Hr.out; omega)) (by simp [Cm.four_len]), rfl⟩, (Below.refl _ _).alloc (Nat.le_refl _) _⟩

set_option maxRecDepth 100000 in
/-- the document's Seal -/
theorem rseal_c (A : Option Addr) (n c : Nat) (t : List Nat) (D : Option Addr) (m d : Nat) (l : List UInt8) (w : World) (ht : Rn w w.heap.size A n c t) (hn : n ≤ 300) (hl : Rb w w.heap.size D m d l) (hm : m ≤ 900000) :
    Calls Try.prog 17 #[.slice A n c, .slice D m d] w (RetE w.heap.size w (Cm.sealS t l)) := by
  have hlen := ht.len
  have hll := hl.len
  by_cases h : n = 256
  · rw [sealS_ok t l (by omega)]
    obtain ⟨S, hS⟩ : ∃ S, S = Cm.sum t l := ⟨_, rfl⟩
    have hsl : S < 4294967296 := by rw [hS]; exact Cm.sum_lt t ht.fits l
    rw [← hS]
    have Ht := Lib.hid ht; have Hl := Lib.hid hl; have HS := Lib.hid hS; have Hsl := Lib.hid hsl; have H256 := Lib.hid h; have HLL := Lib.hid hll; clear ht hl hn hlen hS hsl h hll
    go_enter Try.func17, Try.ntmps17
    go_wp2_with fail
    refine (rsum_ok A n c _ t D m d _ l _ Ht.out H256.out Hl.out (by omega) S HS.out).mono ?_
    rintro e w' ⟨rfl, rfl⟩
    go_wp2_with (at_builtin; go_must (refine bty.wpApp rfl (.tmp 18) (.tmp 19) rfl (l := []) (r := l) rfl rfl (Own.made0 _ _) (Hl.out.alloc (Nat.le_refl _) _) ?hs1 ?hs2 ?_))
    case hs1 => rw [HLL.out]; simp; omega
    case hs2 => simp
    intro A2 c2 w2 hown2 hb2
    have hb0 : Below w.heap.size w w2 := ((Below.refl _ _).alloc (Nat.le_refl _) _).trans hb2
    have hsz := hb0.size
    have Hown2 := Lib.hid hown2; clear hown2 hb2
    go_wp2_with fail
    refine (rfour_c S _ Hsl.out).mono ?_
    rintro e w3 ⟨A3, c3, rfl, hown3, hb3⟩
    have hsz3 := hb3.size
    have Hr3 := Lib.hid (Own.rbl hown3); clear hown3
    go_wp2_with (at_builtin; go_must (refine bty.wpApp rfl (.tmp 21) (.tmp 23) rfl (l := l) (r := Cm.four S) ?e1 rfl (Hown2.out.keep hb3) Hr3.out ?hs3 ?hs4 ?_))
    case e1 => rfl
    case hs3 => rw [HLL.out, Cm.four_len]; omega
    case hs4 => omega
    intro A4 c4 w4 hown4 hb4
    go_wp2
    go_ret2
    exact ⟨A4, c4, ret2_len (by simp), hown4, (hb0.trans (hb3.mono hsz)).trans hb4⟩
  · rw [sealS_err t l (by omega)]
    have Ht := Lib.hid ht; have Hl := Lib.hid hl; have H256 := Lib.hid h; have Hn := Lib.hid hn; clear ht hl hlen hn h hll
    go_enter Try.func17, Try.ntmps17
    go_wp2_with fail
    refine (rsum_err A n c _ t D m d _ l _ Ht.out Hn.out H256.out Hl.out (by omega)).mono ?_
    rintro e w' ⟨rfl, rfl⟩
    go_wp2
    go_ret2
    exact ⟨none, 0, rfl, Own.nil _ _ _, Below.refl _ _⟩

set_option maxRecDepth 100000 in
set_option maxHeartbeats 1000000 in
/-- the document's Open -/
theorem ropen_c (A : Option Addr) (n c : Nat) (t : List Nat) (D : Option Addr) (m d : Nat) (l : List UInt8) (w : World) (ht : Rn w w.heap.size A n c t) (hn : n ≤ 300) (hl : Rb w w.heap.size D m d l) (hm : m ≤ 900000) :
    Calls Try.prog 19 #[.slice A n c, .slice D m d] w (RetE w.heap.size w (Cm.openS t l)) := by
  have hlen := ht.len
  have hll := hl.len
  by_cases h : n = 256
  · subst h
    by_cases h4 : m < 4
    · rw [openS_short t l hlen (by omega)]
      have Ht := Lib.hid ht; have Hl := Lib.hid hl; clear ht hl hn hlen hll
      go_enter Try.func19, Try.ntmps19
      go_wp2
      go_ret2
      exact ⟨none, 0, rfl, Own.nil _ _ _, Below.refl _ _⟩
    · obtain ⟨z, hz⟩ : ∃ z, m = z + 4 := ⟨m - 4, by omega⟩
      subst hz
      have hz4 : l.length - 4 = z := by omega
      obtain ⟨S, hS⟩ : ∃ S, S = Cm.sum t (l.take z) := ⟨_, rfl⟩
      have hsl : S < 4294967296 := by rw [hS]; exact Cm.sum_lt t ht.fits _
      obtain ⟨f, hf⟩ : ∃ f, f = Cm.four S := ⟨_, rfl⟩
      obtain ⟨g, hg⟩ : ∃ g, g = l.drop z := ⟨_, rfl⟩
      have hno : f ≠ g → Cm.openS t l = ([], 4) := fun hne => openS_no t l hlen (by omega) (by rw [hz4, ← hS, ← hf, ← hg]; exact fun e => hne e.symm)
      have hyes : f = g → Cm.openS t l = (l.take z, 0) := fun he => by rw [← hz4]; exact openS_ok t l hlen (by omega) (by rw [hz4, ← hS, ← hf, ← hg, he])
      obtain ⟨D2, hD2, hrD2⟩ := bty.upto_ hl (k := z) (by omega) (z : Int) rfl
      obtain ⟨D3, hD3, hrD3⟩ := bty.from_ hl (k := z) (by omega) (z : Int) rfl
      rw [← hg] at hrD3
      have e4 : z + 4 - z = 4 := by omega
      rw [e4] at hrD3 hD3
      have hcv1 : (convert 29 9 (.slice D3 4 (d - z))).run Try.prog w.drew = .ok (.string ⟨g.toArray⟩) w.drew := bty.conv (hrD3.drewN 1)
      have hfour : ∀ W : World, Calls Try.prog 24 #[.int .u32 (S : Int)] W (RetFour W f) := fun W => by rw [hf]; exact rfour_c S W hsl
      have HS := Lib.hid hS; have Ht := Lib.hid ht; have Hl := Lib.hid hl; have HrD2 := Lib.hid hrD2; have HrD3 := Lib.hid hrD3; have HLL := Lib.hid hll; have HFour := Lib.hid hfour; have Hsl := Lib.hid hsl
      clear ht hl hn hlen hll hS hsl hf hg hrD2 hrD3 hz4 e4 hfour
      by_cases hfg : f = g
      · rw [hyes hfg]
        subst hfg
        clear hyes hno
        go_enter Try.func19, Try.ntmps19
        go_wp2_with fail
        refine (rsum_ok A 256 c _ t D2 z d _ _ _ Ht.out rfl HrD2.out (by omega) S HS.out).mono ?_
        rintro e w' ⟨rfl, rfl⟩
        go_upto_region 7 with fail
        go_cut [32] (fun s wx => s = .bool false ∧ Below w.heap.size w wx)
        case first =>
          go_region_law (first | (go_simp; go_at_call 24; (with_reducible refine (HFour.out _).mono ?_); rintro e w3 ⟨A3, c3, rfl, hown3, hb3⟩; have hb3' : Below w.heap.size w w3 := ⟨hb3.os, hb3.tape, hb3.output, hb3.size, hb3.block⟩; have hcvA := bty.conv (Own.rbl hown3); have hcvB := bty.conv (HrD3.out.below hb3')))
          all_goals (go_wp2_with fail; go_meet; exact ⟨by simp, hb3'⟩)
        case rest =>
          obtain ⟨rfl, hbx⟩ := hcut
          rename_i wx _
          have hzx := hbx.size
          have Hbx := Lib.hid hbx; clear hbx
          go_wp2_with (at_builtin; go_must (refine bty.wpApp rfl (.tmp 33) (.tmp 36) rfl (l := []) (r := l.take z) rfl rfl (Own.made0 _ _) ((HrD2.out.below Hbx.out).alloc hzx _) ?hs1 ?hs2 ?_))
          case hs1 => simp; omega
          case hs2 => simp
          intro A2 c2 w2 hown2 hb2
          go_wp2
          go_ret2
          refine ⟨A2, c2, ret2_len (by simp), hown2.mono hzx, Hbx.out.trans ((((Below.refl _ _).alloc (Nat.le_refl _) _).trans hb2).mono hzx)⟩
      · rw [hno hfg]
        have Hfg := Lib.hid hfg
        clear hyes hno hfg
        go_enter Try.func19, Try.ntmps19
        go_wp2_with fail
        refine (rsum_ok A 256 c _ t D2 z d _ _ _ Ht.out rfl HrD2.out (by omega) S HS.out).mono ?_
        rintro e w' ⟨rfl, rfl⟩
        go_upto_region 7 with fail
        go_cut [32] (fun s wx => s = .bool true ∧ Below w.heap.size w wx)
        case first =>
          go_region_law (first | (go_simp; go_at_call 24; (with_reducible refine (HFour.out _).mono ?_); rintro e w3 ⟨A3, c3, rfl, hown3, hb3⟩; have hb3' : Below w.heap.size w w3 := ⟨hb3.os, hb3.tape, hb3.output, hb3.size, hb3.block⟩; have hcvA := bty.conv (Own.rbl hown3); have hcvB := bty.conv (HrD3.out.below hb3')))
          all_goals (go_wp2_with fail; go_meet; exact ⟨by simp [Hfg.out], hb3'⟩)
        case rest =>
          obtain ⟨rfl, hbx⟩ := hcut
          go_wp2
          go_ret2
          exact ⟨none, 0, rfl, Own.nil _ _ _, hbx⟩
  · rw [openS_arg t l (by omega)]
    have Ht := Lib.hid ht; have Hl := Lib.hid hl; clear ht hl hlen hll
    go_enter Try.func19, Try.ntmps19
    go_wp2
    go_ret2
    exact ⟨none, 0, rfl, Own.nil _ _ _, Below.refl _ _⟩
end Go.Proofs.Ytcmagegcolcalab
