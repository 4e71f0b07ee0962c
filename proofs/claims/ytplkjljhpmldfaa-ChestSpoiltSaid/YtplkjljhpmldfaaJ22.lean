/-
  Joined: P2.
-/
import Derived.Test.YtplkjljhpmldfaaJ6
import Derived.Test.YtplkjljhpmldfaaJ4
import Derived.Test.YtplkjljhpmldfaaJ1
/-
  Rows of bytes that grow beside other memory: which block an append touches; press.addNumber, addLiterals, addMatch and the document's as.
-/
namespace Go.Proofs.Ytplkjljhpmldfaa
open Go.RowKit

/-- A call hands back a longer row of its own. -/
def RetO (base : Nat) (w : World) (A : Option Addr) (L : List UInt8) (e : Ending) (w' : World) : Prop :=
  ∃ A' c', e = .returned (.slice A' L.length c') ∧ Own w' 5 base A' c' L ∧ Grows w w' A A'

set_option maxRecDepth 100000 in
/-- press.addNumber -/
theorem addNumber_c (A : Option Addr) (c base : Nat) (l : List UInt8) (N : Nat) (w : World) (hown : Own w 5 base A c l) (hb : base ≤ w.heap.size) (hl : l.length ≤ 1000000) (hN : N < 18446744073709551616) :
    Calls Try.prog 89 #[.slice A l.length c, .int .u64 (N : Int)] w (RetO base w A (l ++ Vm.vb N)) := by
  have hlen : (Vm.vb N).length ≤ 10 := Vm.vb_len_le 9 N (by have : (128 : Nat) ^ (9 + 1) = 1180591620717411303424 := by decide +kernel
                                                            omega)
  have HN := Lib.hid hN; clear hN
  go_enter Try.func89, Try.ntmps89
  go_wp2_with fail
  refine (put_c none 0 0 [] N _ (Rb.nil _ _) (by omega) HN.out).mono ?_
  rintro e w1 ⟨A1, c1, rfl, hown1, hb1⟩
  have hsz := hb1.size
  go_wp2_with (at_builtin; go_must (refine bty.wpAppAt rfl (.tmp 5) (.tmp 7) rfl (l := l) (r := Vm.vb N) rfl rfl (hown.keep hb1) hown1.rb ?hs1 ?hs2 ?_))
  case hs1 => omega
  case hs2 => omega
  intro A2 c2 w2 hown2 hg2
  go_wp2
  go_ret
  exact ⟨A2, c2, ret_len (by simp), hown2, Grows.pre hb1 hg2⟩

theorem asB_few (l : List UInt8) (n : Nat) (hl : l.length = n) (h0 : 0 < n) (h : n ≤ 64) : Pm.asB l = Vm.vb (2 * (n - 1)) ++ (l.take n ++ Pm.asB (l.drop n)) := by
  have hne : l ≠ [] := by intro e; rw [e] at hl; simp at hl; omega
  rw [Pm.asB_ne l hne, hl, show min 64 n = n by omega, List.take_of_length_le (by omega), List.drop_of_length_le (by omega), List.take_of_length_le (by omega), List.drop_of_length_le (by omega)]
theorem asB_many (l : List UInt8) (n : Nat) (hl : l.length = n) (h : 64 ≤ n) : Pm.asB l = Vm.vb (2 * (64 - 1)) ++ (l.take 64 ++ Pm.asB (l.drop 64)) := by
  have hne : l ≠ [] := by intro e; rw [e] at hl; simp at hl; omega
  rw [Pm.asB_ne l hne, hl, show min 64 n = 64 by omega]
def slen : Value → Nat | .slice _ n _ => n | _ => 0
theorem addNumberI (A : Option Addr) (c base : Nat) (l : List UInt8) (N : Nat) (z : Int) (w : World) (hz : z = (N : Int)) (hown : Own w 5 base A c l) (hb : base ≤ w.heap.size) (hl : l.length ≤ 1000000) (hN : N < 18446744073709551616) :
    Calls Try.prog 89 #[.slice A l.length c, .int .u64 z] w (RetO base w A (l ++ Vm.vb N)) := by
  subst hz
  exact addNumber_c A c base l N w hown hb hl hN

def LitRel (base : Nat) (w : World) (A : Option Addr) (L : List UInt8) (o t : Value) (wr : World) : Prop :=
  ∃ A1 c1 l1 D n d r, o = .slice A1 l1.length c1 ∧ t = .slice D n d ∧ Own wr 5 base A1 c1 l1 ∧ Rb wr base D n d r ∧ Hid (l1 ++ Pm.asB r = L) ∧ Grows w wr A A1 ∧ base ≤ wr.heap.size






set_option maxRecDepth 100000 in
/-- press.addLiterals -/
theorem addLiterals_c (A : Option Addr) (c base : Nat) (l : List UInt8) (D : Option Addr) (n d : Nat) (r : List UInt8) (w : World) (hown : Own w 5 base A c l) (hb : base ≤ w.heap.size) (hr : Rb w base D n d r) (hs : l.length + (Pm.asB r).length ≤ 900000) :
    Calls Try.prog 70 #[.slice A l.length c, .slice D n d] w (RetO base w A (l ++ Pm.asB r)) := by
  obtain ⟨L, hL⟩ : ∃ L, L = l ++ Pm.asB r := ⟨_, rfl⟩
  have hLs : L.length ≤ 900000 := by rw [hL, List.length_append]; exact hs
  rw [← hL]
  have HL := Lib.hid hL; clear hL hs
  go_enter Try.func70, Try.ntmps70
  go_wp2
  go_loopw [0, 1] (fun o t wr => LitRel base w A L o t wr) (fun _ t _ => slen t)
  case atStart => exact ⟨A, c, l, D, n, d, r, rfl, rfl, hown, hr, Lib.hid HL.out.symm, Grows.refl _ _, hb⟩
  case round =>
    obtain ⟨A1, c1, l1, D1, n1, d1, r1, rfl, rfl, hown1, hr1, H, hg1, hsz⟩ := hrel
    clear hown hr HL
    have hrl := hr1.len
    have hLen := congrArg List.length H.out
    rw [List.length_append] at hLen
    by_cases hn : 0 < n1
    · by_cases h64 : n1 ≤ 64
      · have has := asB_few r1 n1 hrl hn (by omega)
        have hvb : (Vm.vb (2 * (n1 - 1))).length = 1 := by rw [Vm.vb_lt _ (by omega)]; rfl
        have hle : (n1 : Int) ≤ 64 := by omega
        obtain ⟨L2, hL2⟩ : ∃ L2, L2 = l1 ++ Vm.vb (2 * (n1 - 1)) := ⟨_, rfl⟩
        have hl2 : L2.length ≤ 900001 := by rw [hL2, List.length_append, hvb]; omega
        have hc := addNumberI A1 c1 base l1 (2 * (n1 - 1)) (((n1 : Int) - 1) * 2) wr (by omega) hown1 hsz (by omega) (by omega)
        rw [← hL2] at hc
        have HL2 := Lib.hid hL2; clear hL2 hvb
        have Has := Lib.hid has; have Hrl := Lib.hid hrl; have HLen := Lib.hid hLen; have Hc := Lib.hid hc; clear has hrl hLen hc
        obtain ⟨E, hE, hrE⟩ := bty.upto_ hr1 (k := n1) (by omega) (n1 : Int) rfl
        obtain ⟨F, hF, hrF⟩ := bty.from_ hr1 (k := n1) (by omega) (n1 : Int) rfl
        have HrE := Lib.hid hrE; have HrF := Lib.hid hrF; clear hrE hrF hr1
        go_wp2_with fail
        refine Hc.out.mono ?_
        rintro e w1 ⟨A2, c2, rfl, hown2, hg2⟩
        have hsz2 := hg2.size
        have hb2 := hg2.below hown1 hsz
        go_wp2_with (at_builtin; go_must (refine bty.wpAppAt rfl (.tmp 18) (.tmp 21) rfl (l := L2) (r := r1.take n1) rfl rfl hown2 (HrE.out.below hb2) ?hs1 ?hs2 ?_))
        case hs1 => rw [List.length_take, Hrl.out]; omega
        case hs2 => omega
        intro A3 c3 w3 hown3 hg3
        have hb3 := hg3.below hown2 (by omega)
        go_wp2
        go_roundw
        case rel =>
          refine ⟨A3, c3, _, F, _, _, r1.drop n1, by simp, by simp, hown3, HrF.out.below (hb2.trans hb3), Lib.hid ?_, (hg1.trans hg2).trans hg3, by have := hg3.size; omega⟩
          rw [← H.out, Has.out, HL2.out]
          simp
        case measure => simp [slen]; omega
      · have has := asB_many r1 n1 hrl (by omega)
        have hvb : (Vm.vb (2 * (64 - 1))).length = 1 := by rw [Vm.vb_lt _ (by omega)]; rfl
        have hle : (64 : Int) < (n1 : Int) := by omega
        clear h64
        obtain ⟨L2, hL2⟩ : ∃ L2, L2 = l1 ++ Vm.vb (2 * (64 - 1)) := ⟨_, rfl⟩
        have hl2 : L2.length ≤ 900001 := by rw [hL2, List.length_append, hvb]; omega
        have hc := addNumberI A1 c1 base l1 (2 * (64 - 1)) 126 wr (by omega) hown1 hsz (by omega) (by omega)
        rw [← hL2] at hc
        have HL2 := Lib.hid hL2; clear hL2 hvb
        have Has := Lib.hid has; have Hrl := Lib.hid hrl; have HLen := Lib.hid hLen; have Hc := Lib.hid hc; clear has hrl hLen hc
        obtain ⟨E, hE, hrE⟩ := bty.upto_ hr1 (k := 64) (by omega) (64 : Int) rfl
        obtain ⟨F, hF, hrF⟩ := bty.from_ hr1 (k := 64) (by omega) (64 : Int) rfl
        have HrE := Lib.hid hrE; have HrF := Lib.hid hrF; clear hrE hrF hr1
        go_wp2_with fail
        refine Hc.out.mono ?_
        rintro e w1 ⟨A2, c2, rfl, hown2, hg2⟩
        have hsz2 := hg2.size
        have hb2 := hg2.below hown1 hsz
        go_wp2_with (at_builtin; go_must (refine bty.wpAppAt rfl (.tmp 18) (.tmp 21) rfl (l := L2) (r := r1.take 64) rfl rfl hown2 (HrE.out.below hb2) ?hs1 ?hs2 ?_))
        case hs1 => rw [List.length_take, Hrl.out]; omega
        case hs2 => omega
        intro A3 c3 w3 hown3 hg3
        have hb3 := hg3.below hown2 (by omega)
        go_wp2
        go_roundw
        case rel =>
          refine ⟨A3, c3, _, F, _, _, r1.drop 64, by simp, by simp, hown3, HrF.out.below (hb2.trans hb3), Lib.hid ?_, (hg1.trans hg2).trans hg3, by have := hg3.size; omega⟩
          rw [← H.out, Has.out, HL2.out]
          simp
        case measure => simp [slen]; omega
    · go_wp2
      go_ret
      obtain rfl : n1 = 0 := by omega
      obtain rfl : r1 = [] := List.eq_nil_of_length_eq_zero hrl
      have h1 := H.out
      rw [Pm.asB_nil, List.append_nil] at h1
      subst h1
      exact ⟨A1, c1, rfl, hown1, hg1⟩


theorem own_some {w : World} {e : TypeId} {base c : Nat} {A : Option Addr} {l : List UInt8} (h : Own w e base A c l) (h0 : 0 < l.length) : ∃ g, ob A = some g ∧ base ≤ g := by
  obtain ⟨g, rfl, hg⟩ := h.at_base h0
  exact ⟨g, rfl, hg⟩
theorem rputO (A : Option Addr) (c base : Nat) (l : List UInt8) (N : Nat) (z : Int) (w : World) (hz : z = (N : Int)) (hown : Own w 5 base A c l) (hb : base ≤ w.heap.size) (hl : l.length ≤ 900000) (hN : N < 18446744073709551616) :
    Calls Try.prog 31 #[.slice A l.length c, .int .u64 z] w (RetO base w A (l ++ Vm.vb N)) := by
  subst hz
  refine (rput_c A l.length c l N w hown.rb hl hN).mono ?_
  rintro e w1 ⟨A1, c1, rfl, hown1, hb1⟩
  obtain ⟨g, hg, hge⟩ := own_some hown1 (by have := Vm.vb_pos N; rw [List.length_append]; omega)
  exact ⟨A1, c1, rfl, hown1.mono hb, grown_below hb1 _, .inr ⟨g, hg, hge⟩⟩


set_option maxRecDepth 100000 in
/-- the document's as -/
theorem as_c (A : Option Addr) (c base : Nat) (l : List UInt8) (D : Option Addr) (n d : Nat) (r : List UInt8) (w : World) (hown : Own w 5 base A c l) (hb : base ≤ w.heap.size) (hr : Rb w base D n d r) (hs : l.length + (Pm.asB r).length ≤ 900000) :
    Calls Try.prog 55 #[.slice A l.length c, .slice D n d] w (RetO base w A (l ++ Pm.asB r)) := by
  obtain ⟨L, hL⟩ : ∃ L, L = l ++ Pm.asB r := ⟨_, rfl⟩
  have hLs : L.length ≤ 900000 := by rw [hL, List.length_append]; exact hs
  rw [← hL]
  have HL := Lib.hid hL; clear hL hs
  go_enter Try.func55, Try.ntmps55
  go_wp2
  go_loopw [0, 1] (fun o t wr => LitRel base w A L o t wr) (fun _ t _ => slen t)
  case atStart => exact ⟨A, c, l, D, n, d, r, rfl, rfl, hown, hr, Lib.hid HL.out.symm, Grows.refl _ _, hb⟩
  case round =>
    obtain ⟨A1, c1, l1, D1, n1, d1, r1, rfl, rfl, hown1, hr1, H, hg1, hsz⟩ := hrel
    clear hown hr HL
    have hrl := hr1.len
    have hLen := congrArg List.length H.out
    rw [List.length_append] at hLen
    by_cases hn : 0 < n1
    · by_cases h64 : n1 < 64
      · have has := asB_few r1 n1 hrl hn (by omega)
        have hvb : (Vm.vb (2 * (n1 - 1))).length = 1 := by rw [Vm.vb_lt _ (by omega)]; rfl
        have hle : (n1 : Int) < 64 := by omega
        obtain ⟨L2, hL2⟩ : ∃ L2, L2 = l1 ++ Vm.vb (2 * (n1 - 1)) := ⟨_, rfl⟩
        have hl2 : L2.length ≤ 900001 := by rw [hL2, List.length_append, hvb]; omega
        have hc := rputO A1 c1 base l1 (2 * (n1 - 1)) (2 * ((n1 : Int) - 1)) wr (by omega) hown1 hsz (by omega) (by omega)
        rw [← hL2] at hc
        have HL2 := Lib.hid hL2; clear hL2 hvb
        have Has := Lib.hid has; have Hrl := Lib.hid hrl; have HLen := Lib.hid hLen; have Hc := Lib.hid hc; clear has hrl hLen hc
        obtain ⟨E, hE, hrE⟩ := bty.upto_ hr1 (k := n1) (by omega) (n1 : Int) rfl
        obtain ⟨F, hF, hrF⟩ := bty.from_ hr1 (k := n1) (by omega) (n1 : Int) rfl
        have HrE := Lib.hid hrE; have HrF := Lib.hid hrF; clear hrE hrF hr1
        go_wp2_with fail
        refine Hc.out.mono ?_
        rintro e w1 ⟨A2, c2, rfl, hown2, hg2⟩
        have hsz2 := hg2.size
        have hb2 := hg2.below hown1 hsz
        go_wp2_with (at_builtin; go_must (refine bty.wpAppAt rfl (.tmp 18) (.tmp 21) rfl (l := L2) (r := r1.take n1) rfl rfl hown2 (HrE.out.below hb2) ?hs1 ?hs2 ?_))
        case hs1 => rw [List.length_take, Hrl.out]; omega
        case hs2 => omega
        intro A3 c3 w3 hown3 hg3
        have hb3 := hg3.below hown2 (by omega)
        go_wp2
        go_roundw
        case rel =>
          refine ⟨A3, c3, _, F, _, _, r1.drop n1, by simp, by simp, hown3, HrF.out.below (hb2.trans hb3), Lib.hid ?_, (hg1.trans hg2).trans hg3, by have := hg3.size; omega⟩
          rw [← H.out, Has.out, HL2.out]
          simp
        case measure => simp [slen]; omega
      · have has := asB_many r1 n1 hrl (by omega)
        have hvb : (Vm.vb (2 * (64 - 1))).length = 1 := by rw [Vm.vb_lt _ (by omega)]; rfl
        have hle : (64 : Int) ≤ (n1 : Int) := by omega
        clear h64
        obtain ⟨L2, hL2⟩ : ∃ L2, L2 = l1 ++ Vm.vb (2 * (64 - 1)) := ⟨_, rfl⟩
        have hl2 : L2.length ≤ 900001 := by rw [hL2, List.length_append, hvb]; omega
        have hc := rputO A1 c1 base l1 (2 * (64 - 1)) 126 wr (by omega) hown1 hsz (by omega) (by omega)
        rw [← hL2] at hc
        have HL2 := Lib.hid hL2; clear hL2 hvb
        have Has := Lib.hid has; have Hrl := Lib.hid hrl; have HLen := Lib.hid hLen; have Hc := Lib.hid hc; clear has hrl hLen hc
        obtain ⟨E, hE, hrE⟩ := bty.upto_ hr1 (k := 64) (by omega) (64 : Int) rfl
        obtain ⟨F, hF, hrF⟩ := bty.from_ hr1 (k := 64) (by omega) (64 : Int) rfl
        have HrE := Lib.hid hrE; have HrF := Lib.hid hrF; clear hrE hrF hr1
        go_wp2_with fail
        refine Hc.out.mono ?_
        rintro e w1 ⟨A2, c2, rfl, hown2, hg2⟩
        have hsz2 := hg2.size
        have hb2 := hg2.below hown1 hsz
        go_wp2_with (at_builtin; go_must (refine bty.wpAppAt rfl (.tmp 18) (.tmp 21) rfl (l := L2) (r := r1.take 64) rfl rfl hown2 (HrE.out.below hb2) ?hs1 ?hs2 ?_))
        case hs1 => rw [List.length_take, Hrl.out]; omega
        case hs2 => omega
        intro A3 c3 w3 hown3 hg3
        have hb3 := hg3.below hown2 (by omega)
        go_wp2
        go_roundw
        case rel =>
          refine ⟨A3, c3, _, F, _, _, r1.drop 64, by simp, by simp, hown3, HrF.out.below (hb2.trans hb3), Lib.hid ?_, (hg1.trans hg2).trans hg3, by have := hg3.size; omega⟩
          rw [← H.out, Has.out, HL2.out]
          simp
        case measure => simp [slen]; omega
    · go_wp2
      go_ret
      obtain rfl : n1 = 0 := by omega
      obtain rfl : r1 = [] := List.eq_nil_of_length_eq_zero hrl
      have h1 := H.out
      rw [Pm.asB_nil, List.append_nil] at h1
      subst h1
      exact ⟨A1, c1, rfl, hown1, hg1⟩


set_option maxRecDepth 100000 in
/-- press.addMatch -/
theorem addMatch_c (A : Option Addr) (c base : Nat) (l : List UInt8) (m d : Nat) (w : World) (hown : Own w 5 base A c l) (hb : base ≤ w.heap.size) (hl : l.length ≤ 900000) (hm : 4 ≤ m) (hm2 : m ≤ 200) (hd : d ≤ 4096) :
    Calls Try.prog 71 #[.slice A l.length c, .int .i64 (m : Int), .int .i64 (d : Int)] w (RetO base w A (l ++ (Vm.vb (2 * (m - 4) + 1) ++ Vm.vb d))) := by
  have hvb : (Vm.vb (2 * (m - 4) + 1)).length ≤ 2 := Vm.vb_len_le 1 _ (by omega)
  obtain ⟨L2, hL2⟩ : ∃ L2, L2 = l ++ Vm.vb (2 * (m - 4) + 1) := ⟨_, rfl⟩
  have hl2 : L2.length ≤ 900002 := by rw [hL2, List.length_append]; omega
  obtain ⟨L3, hL3⟩ : ∃ L3, L3 = L2 ++ Vm.vb d := ⟨_, rfl⟩
  have hc := addNumberI A c base l (2 * (m - 4) + 1) (((m : Int) - 4) * 2 + 1) w (by omega) hown hb (by omega) (by omega)
  rw [← hL2] at hc
  rw [← List.append_assoc, ← hL2, ← hL3]
  have HL2 := Lib.hid hL2; have HL3 := Lib.hid hL3; have Hc := Lib.hid hc; clear hL2 hL3 hvb hc
  go_enter Try.func71, Try.ntmps71
  go_wp2_with fail
  refine Hc.out.mono ?_
  rintro e w1 ⟨A2, c2, rfl, hown2, hg2⟩
  have hsz2 := hg2.size
  have hc3 : Calls Try.prog 89 #[.slice A2 L2.length c2, .int .u64 (d : Int)] w1 (RetO base w1 A2 L3) := by
    rw [HL3.out]
    exact addNumber_c A2 c2 base L2 d w1 hown2 (by omega) (by omega) (by omega)
  have Hc3 := Lib.hid hc3; clear hc3
  go_wp2_with fail
  refine Hc3.out.mono ?_
  rintro e w2 ⟨A3, c3, rfl, hown3, hg3⟩
  go_wp2
  go_ret
  exact ⟨A3, c3, rfl, hown3, hg2.trans hg3⟩
end Go.Proofs.Ytplkjljhpmldfaa
