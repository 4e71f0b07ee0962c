/-
  bundle's may, entries: what each call returns and leaves.
-/
import Derived.Test.YtdhbfoelpdoofaaQ6
import Derived.Lib.ConvBytes
namespace Go.Proofs.Ytdhbfoelpdoofaa
open Go.RowKit

def MayRel (n : Nat) (l : List Bm.Rec) (o i : Value) : Prop :=
  ∃ N, ∃ j : Nat, o = .string ⟨List.toArray N⟩ ∧ i = .int .i64 (j : Int) ∧ j ≤ n ∧ Bm.MB l j N

set_option maxRecDepth 100000 in
set_option maxHeartbeats 2000000 in
/-- may -/
theorem may_c (A : Option Addr) (n c B : Nat) (l : List Bm.Rec) (w : World) (hr : RL w B A n c l) (hz : ∀ r ∈ l, ∀ q ∈ r, q.length ≤ 140737488355328) (o : Bool) (ho : o = (decide (l.length ≤ 1000) && Bm.mayB [] l)) :
    Calls Try.prog 16 #[.slice A n c] w fun e w' => e = .returned (.bool o) ∧ w' = w := by
  have hl := hr.len
  have hn : n ≤ 9223372036854775807 := by obtain ⟨vs, h1, _⟩ := hr; have h2 := h1.2.1; have h3 := h1.2.2.1; unfold maxLen at h3; omega
  rw [hl] at ho
  by_cases hn1 : n ≤ 1000
  · rw [decide_eq_true hn1, Bool.true_and] at ho
    have dn : decide ((1000 : Int) < (n : Int)) = false := by simp; omega
    have Hr := Lib.hid hr; have Hl := Lib.hid hl; have Hz := Lib.hid hz; have Ho := Lib.hid ho
    clear hr hl hz ho
    go_enter Try.func16, Try.ntmps16
    go_wp2
    go_loop [3, 11] (fun o i => MayRel n l o i) (fun _ i => n - (intOf i).toNat)
    case atStart => exact ⟨[], 0, rfl, rfl, Nat.zero_le _, Bm.MB.start l⟩
    case round =>
      obtain ⟨N, j, rfl, rfl, hj, hmb⟩ := hrel
      by_cases hlt : j < n
      · obtain ⟨b, off, D, m, d, r, rfl, hb, hcell, hx, _, hrec⟩ := Hr.out.at_ hlt
        have hrl := lvs_num hrec
        by_cases hm : m = 2
        · subst hm
          obtain ⟨b2, off2, s, rfl, hb2, hc2, hx2, _⟩ := lvs_at hrec (k := 0) (by omega)
          obtain ⟨b3, off3, y, hE, hb3, hc3, hx3, _⟩ := lvs_at hrec (k := 1) (by omega)
          injection hE with hE
          injection hE with h1 h2 _
          subst h1 h2
          rw [Nat.add_zero] at hc2
          obtain rfl : r = [s, y] := by
            match r, hrl, hx2, hx3 with
            | [p, q], _, hx2, hx3 => simp at hx2 hx3; rw [hx2, hx3]
          have hy := Hz.out _ (List.mem_of_getElem? hx) y (by simp)
          obtain ⟨o1, ho1⟩ : ∃ o1, o1 = (Op.bytesLess N s && decide (s.length ≤ 100)) := ⟨_, rfl⟩
          have hokr : Bm.okr N [s, y] = (o1 && decide (y.length ≤ 1000)) := by rw [Bm.okr_two, ho1]
          cases o1 with
          | false =>
            have hno := hmb.bad hx (by rw [hokr]; rfl)
            have ho2 : o = false := by rw [Ho.out, hno]
            subst ho2
            have Ho1 := Lib.hid ho1
            clear hmb hx hx2 hx3 hrec hrl hokr hno ho1
            go_wp2_with fail
            refine (follow_c s N false Ho1.out _).mono ?_
            rintro e w1 ⟨rfl, rfl⟩
            go_wp2
            go_ret
            exact ⟨rfl, rfl⟩
          | true =>
            by_cases hy1 : y.length ≤ 1000
            · have hok : Bm.okr N [s, y] = true := by rw [hokr, decide_eq_true hy1]; rfl
              have Hst := Lib.hid (hmb.step hx hok)
              have dy : decide ((1000 : Int) < (y.length : Int)) = false := by simp; omega
              have Ho1 := Lib.hid ho1
              clear hmb hx hx2 hx3 hrec hrl hokr hok ho1
              go_wp2_with fail
              refine (follow_c s N true Ho1.out _).mono ?_
              rintro e w1 ⟨rfl, rfl⟩
              go_wp2
              go_round
              case rel => exact ⟨s, j + 1, rfl, by go_num, hlt, Hst.out⟩
              case measure => simp [intOf]; omega
            · have hno := hmb.bad hx (by rw [hokr, decide_eq_false hy1]; rfl)
              have ho2 : o = false := by rw [Ho.out, hno]
              subst ho2
              have dy : decide ((1000 : Int) < (y.length : Int)) = true := by simp; omega
              have Ho1 := Lib.hid ho1
              clear hmb hx hx2 hx3 hrec hrl hokr hno ho1
              go_wp2_with fail
              refine (follow_c s N true Ho1.out _).mono ?_
              rintro e w1 ⟨rfl, rfl⟩
              go_wp2
              go_ret
              exact ⟨rfl, rfl⟩
        · have hno := hmb.bad hx (Bm.okr_len (by omega))
          have ho2 : o = false := by rw [Ho.out, hno]
          subst ho2
          have hm9 : m ≤ 9223372036854775807 := by have h2 := hrec.2.1; have h3 := hrec.2.2.1; unfold maxLen at h3; omega
          have dm : ((m : Int) != 2) = true := by simp; omega
          clear hmb hx hrec hrl hno
          go_wp2
          go_ret
          exact ⟨rfl, rfl⟩
      · have hend := hmb.end_ (by rw [Hl.out]; omega)
        have ho2 : o = true := by rw [Ho.out, hend]
        subst ho2
        clear hmb hend
        go_wp2
        go_ret
        exact ⟨rfl, rfl⟩
  · rw [decide_eq_false hn1, Bool.false_and] at ho
    subst ho
    have dn : decide ((1000 : Int) < (n : Int)) = true := by simp; omega
    clear hr hl hz
    go_enter Try.func16, Try.ntmps16
    go_wp2
    go_ret
    exact ⟨rfl, rfl⟩

theorem fr_eq (a : List UInt8) : fr ⟨a.toArray⟩ = Vm.vb a.length ++ a := by
  unfold fr
  rfl
def EntRel (base n N : Nat) (w : World) (l : List Bm.Rec) (o i : Value) (wr : World) : Prop :=
  ∃ A c M, ∃ j : Nat, o = .slice A (List.length M) c ∧ i = .int .i64 (j : Int) ∧ j ≤ n ∧ Own wr 5 base A c M ∧ M = Vm.vb N ++ ((l.take j).map Bm.ew).flatten ∧ Below base w wr

set_option maxRecDepth 100000 in
set_option maxHeartbeats 2000000 in
/-- entries -/
theorem entries_c (A : Option Addr) (n c : Nat) (l : List Bm.Rec) (w : World) (hr : RL w w.heap.size A n c l) (hn : n ≤ 1000) (hmay : Bm.mayB [] l = true) :
    Calls Try.prog 19 #[.slice A n c] w (RetB w.heap.size w (Bm.ents l)) := by
  have hl := hr.len
  have hlen : ∀ j, ((l.take j).map Bm.ew).flatten.length ≤ 106000 := fun j => by
    have h1 := (Bm.enc_len (l.take j) [] (Bm.mayB_take l [] j hmay)).1
    have h2 : (l.take j).length ≤ n := by rw [List.length_take, hl]; omega
    omega
  have hvn := Bm.vb3 n (by omega)
  have hfin0 : Bm.ents l = Vm.vb n ++ ((l.take n).map Bm.ew).flatten := by unfold Bm.ents; rw [List.take_of_length_le (by omega), hl]
  have hput0 := put_c none 0 0 [] n w (Rb.nil _ _) (by omega) (by omega)
  rw [List.nil_append] at hput0
  have Hr := Lib.hid hr; have Hl := Lib.hid hl; have Hmay := Lib.hid hmay; have Hlen := Lib.hid hlen; have Hfin0 := Lib.hid hfin0; have Hput0 := Lib.hid hput0
  clear hr hl hmay hlen hfin0 hput0
  go_enter Try.func19, Try.ntmps19
  go_wp2_with fail
  refine Hput0.out.mono ?_
  rintro e w1 ⟨A1, c1, rfl, hown1, hb1⟩
  have z1 := hb1.size
  have Hown1 := Lib.hid hown1; clear hown1
  go_wp2
  go_loopw [3, 12] (fun o i wr => EntRel w.heap.size n n w l o i wr) (fun _ i _ => n - (intOf i).toNat)
  case atStart => exact ⟨A1, c1, Vm.vb n, 0, rfl, rfl, Nat.zero_le _, Hown1.out, by simp, hb1⟩
  case round =>
    obtain ⟨A3, c3, M, j, rfl, rfl, hj, hown, hM, hbel⟩ := hrel
    have z3 := hbel.size
    by_cases hlt : j < n
    · obtain ⟨b, off, D, m, d, r, rfl, hb, hcell, hx, _, hrec⟩ := (Hr.out.below hbel).at_ hlt
      obtain ⟨s, y, hrr, hs1, hy1⟩ := Bm.mayB_get l [] j r Hmay.out hx
      subst hrr
      obtain rfl : m = 2 := (lvs_num hrec).symm
      obtain ⟨b2, off2, s', rfl, hb2, hc2, hx2, _⟩ := lvs_at hrec (k := 0) (by omega)
      obtain ⟨b3, off3, y', hE, hb3, hc3, hx3, _⟩ := lvs_at hrec (k := 1) (by omega)
      injection hE with hE
      injection hE with h1 h2 _
      subst h1 h2
      obtain rfl : s = s' := by simpa using hx2
      obtain rfl : y = y' := by simpa using hx3
      rw [Nat.add_zero] at hc2
      have hMl : M.length ≤ 107000 := by have := Hlen.out j; rw [hM, List.length_append]; omega
      obtain ⟨al, hal⟩ : ∃ al, s.length = al := ⟨_, rfl⟩
      have hfr := fun W => frameP_c none 0 0 [] ⟨s.toArray⟩ W (Rb.nil _ _) (by omega) (by show s.length ≤ _; omega)
      rw [List.nil_append, fr_eq] at hfr
      obtain ⟨X, hX⟩ : ∃ X, X = Vm.vb s.length ++ s := ⟨_, rfl⟩
      rw [← hX] at hfr
      have hXl : X.length ≤ 200 := by rw [hX, List.length_append]; have := Bm.vb3 s.length (by omega); omega
      obtain ⟨yl, hyl⟩ : ∃ yl, y.length = yl := ⟨_, rfl⟩
      have hpt := fun W => put_c none 0 0 [] yl W (Rb.nil _ _) (by omega) (by omega)
      rw [List.nil_append] at hpt
      obtain ⟨Z, hZ⟩ : ∃ Z, Z = Vm.vb yl := ⟨_, rfl⟩
      rw [← hZ] at hpt
      have hZl : Z.length ≤ 10 := by rw [hZ]; have := Bm.vb3 yl (by omega); omega
      have ew : IntKind.u64.wrap (y.length : Int) = (yl : Int) := by rw [hyl, IntKind.wrap_u64]; omega
      obtain ⟨M2, hM2⟩ : ∃ M2, M ++ X = M2 := ⟨_, rfl⟩
      obtain ⟨M3, hM3⟩ : ∃ M3, M2 ++ Z = M3 := ⟨_, rfl⟩
      have hM2l : M2.length ≤ 110000 := by rw [← hM2, List.length_append]; omega
      have hM3l : M3.length ≤ 120000 := by rw [← hM3, List.length_append]; omega
      have hfin : M3 = Vm.vb n ++ ((l.take (j + 1)).map Bm.ew).flatten := by
        rw [Bm.ents_next l j _ hx, ← hM3, ← hM2, hM, hX, hZ, Bm.ew, hyl]
        simp only [List.append_assoc]
      have Hfr := Lib.hid hfr; have Hpt := Lib.hid hpt; have H2 := Lib.hid hM2; have H3 := Lib.hid hM3; have Hfin := Lib.hid hfin; have Hown := Lib.hid hown
      clear hfr hpt hM2 hM3 hfin hown hx hrec hM hX hZ hal hyl hx2 hx3
      go_wp2_with fail
      refine (Hfr.out wr).mono ?_
      rintro e w4 ⟨A4, c4, rfl, hown4, hb4⟩
      have own4 := Hown.out.keep hb4
      have z4 := hb4.size
      have bw4 := hbel.trans (hb4.mono z3)
      have d2 := (hb4.cell (p := ⟨b2, off2 + 1, none⟩) (by show b2 < _; omega)).trans hc3
      have Hown4 := Lib.hid hown4.rb; have Own4 := Lib.hid own4
      clear hown4 own4 hc2 hc3
      go_wp2_with (at_builtin; go_must (refine bty.wpAppTo rfl (.tmp 16) (.tmp 20) rfl (l := M) (r := X) (N := M2) rfl rfl Own4.out Hown4.out H2.out ?hs1 ?hs2 ?_))
      case hs1 => omega
      case hs2 => omega
      intro A5 c5 w5 hown5 hg5
      have b5 := hg5.below Own4.out (by omega)
      have bw5 := bw4.trans b5
      have z5 := hg5.size
      have d3 := (hg5.cell ⟨b2, off2 + 1, none⟩ (by show b2 < _; omega) (fun q => by have := (own_ob Own4.out b2 q.symm).1; omega)).trans d2
      have Own5 := Lib.hid hown5
      clear hown5 hg5 d2
      go_wp2_with fail
      refine (Hpt.out w5).mono ?_
      rintro e w6 ⟨A6, c6, rfl, hown6, hb6⟩
      have own6 := Own5.out.keep hb6
      have z6 := hb6.size
      have bw6 := bw5.trans (hb6.mono (by omega))
      have Hown6 := Lib.hid hown6.rb; have Own6 := Lib.hid own6
      clear hown6 own6 d3
      go_wp2_with (at_builtin; go_must (refine bty.wpAppTo rfl (.tmp 22) (.tmp 28) rfl (l := M2) (r := Z) (N := M3) rfl rfl Own6.out Hown6.out H3.out ?hs1 ?hs2 ?_))
      case hs1 => omega
      case hs2 => omega
      intro A7 c7 w7 hown7 hg7
      have bw7 := bw6.trans (hg7.below Own6.out (by omega))
      have Own7 := Lib.hid hown7
      clear hown7 hg7
      go_wp2
      go_roundw
      case rel => exact ⟨A7, c7, M3, j + 1, rfl, by go_num, hlt, Own7.out, Hfin.out, bw7⟩
      case measure => simp [intOf]; omega
    · have hjn : j = n := by omega
      subst hjn
      rw [← Hfin0.out] at hM
      subst hM
      have Hown := Lib.hid hown; clear hown
      go_wp2
      go_ret
      exact ⟨A3, c3, rfl, Hown.out, hbel⟩
end Go.Proofs.Ytdhbfoelpdoofaa
