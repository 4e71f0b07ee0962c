/-
  Joined: QA QB.
-/
import Derived.Test.YtknmhdkomjjneaaGreatDoorJW33
import Derived.Lib.ConvBytes
/-
  bundle's may, entries: what each call returns and leaves.
-/
namespace Go.Proofs.YtknmhdkomjjneaaGreatDoor.Bun
open Go.RowKit

def MayRel (n : Nat) (l : List Bm.Rec) (o i : Value) : Prop :=
  ∃ N, ∃ j : Nat, o = .string ⟨List.toArray N⟩ ∧ i = .int .i64 (j : Int) ∧ j ≤ n ∧ Bm.MB l j N

set_option maxRecDepth 100000 in
set_option maxHeartbeats 2000000 in
theorem may_c (A : Option Addr) (n c B : Nat) (l : List Bm.Rec) (w : World) (hr : RL w B A n c l) (hz : ∀ r ∈ l, ∀ q ∈ r, q.length ≤ 140737488355328) (o : Bool) (ho : o = (decide (l.length ≤ 1000) && Bm.mayB [] l)) :
    Calls Tryz.prog 136 #[.slice A n c] w fun e w' => e = .returned (.bool o) ∧ w' = w := by
  have hl := hr.len
  have hn : n ≤ 9223372036854775807 := by obtain ⟨vs, h1, _⟩ := hr; have h2 := h1.2.1; have h3 := h1.2.2.1; unfold maxLen at h3; omega
  rw [hl] at ho
  by_cases hn1 : n ≤ 1000
  · rw [decide_eq_true hn1, Bool.true_and] at ho
    have dn : decide ((1000 : Int) < (n : Int)) = false := by simp; omega
    have Hr := Lib.hid hr; have Hl := Lib.hid hl; have Hz := Lib.hid hz; have Ho := Lib.hid ho
    clear hr hl hz ho
    go_enter Tryz.func136, Tryz.ntmps136
    go_wp2
    go_loop [3, 11] (fun o i => MayRel n l o i) (fun _ i => n - (intOf i).toNat)
    case atStart => exact ⟨[], 0, rfl, rfl, Nat.zero_le _, Bm.MB.start l⟩
    case round =>
      obtain ⟨N, j, rfl, rfl, hj, hmb⟩ := hrel
      by_cases hlt : j < n
      · obtain ⟨b, off, D, m, d, r, rfl, hb, hcell, hx, _, hrec⟩ := Hr.out.at_ hlt
        have hrl := lvs_num hrec
        by_cases hm : m = 2
        · subst hm
          obtain ⟨b2, off2, s, rfl, hb2, hc2, hx2, _⟩ := lvs_at hrec (k := 0) (by omega)
          obtain ⟨b3, off3, y, hE, hb3, hc3, hx3, _⟩ := lvs_at hrec (k := 1) (by omega)
          injection hE with hE
          injection hE with h1 h2 _
          subst h1 h2
          rw [Nat.add_zero] at hc2
          obtain rfl : r = [s, y] := by
            match r, hrl, hx2, hx3 with
            | [p, q], _, hx2, hx3 => simp at hx2 hx3; rw [hx2, hx3]
          have hy := Hz.out _ (List.mem_of_getElem? hx) y (by simp)
          obtain ⟨o1, ho1⟩ : ∃ o1, o1 = (Op.bytesLess N s && decide (s.length ≤ 100)) := ⟨_, rfl⟩
          have hokr : Bm.okr N [s, y] = (o1 && decide (y.length ≤ 1000)) := by rw [Bm.okr_two, ho1]
          cases o1 with
          | false =>
            have hno := hmb.bad hx (by rw [hokr]; rfl)
            have ho2 : o = false := by rw [Ho.out, hno]
            subst ho2
            have Ho1 := Lib.hid ho1
            clear hmb hx hx2 hx3 hrec hrl hokr hno ho1
            go_wp2_with fail
            refine (follow_c s N false Ho1.out _).mono ?_
            rintro e w1 ⟨rfl, rfl⟩
            go_wp2
            go_ret
            exact ⟨rfl, rfl⟩
          | true =>
            by_cases hy1 : y.length ≤ 1000
            · have hok : Bm.okr N [s, y] = true := by rw [hokr, decide_eq_true hy1]; rfl
              have Hst := Lib.hid (hmb.step hx hok)
              have dy : decide ((1000 : Int) < (y.length : Int)) = false := by simp; omega
              have Ho1 := Lib.hid ho1
              clear hmb hx hx2 hx3 hrec hrl hokr hok ho1
              go_wp2_with fail
              refine (follow_c s N true Ho1.out _).mono ?_
              rintro e w1 ⟨rfl, rfl⟩
              go_wp2
              go_round
              case rel => exact ⟨s, j + 1, rfl, by go_num, hlt, Hst.out⟩
              case measure => simp [intOf]; omega
            · have hno := hmb.bad hx (by rw [hokr, decide_eq_false hy1]; rfl)
              have ho2 : o = false := by rw [Ho.out, hno]
              subst ho2
              have dy : decide ((1000 : Int) < (y.length : Int)) = true := by simp; omega
              have Ho1 := Lib.hid ho1
              clear hmb hx hx2 hx3 hrec hrl hokr hno ho1
              go_wp2_with fail
              refine (follow_c s N true Ho1.out _).mono ?_
              rintro e w1 ⟨rfl, rfl⟩
              go_wp2
              go_ret
              exact ⟨rfl, rfl⟩
        · have hno := hmb.bad hx (Bm.okr_len (by omega))
          have ho2 : o = false := by rw [Ho.out, hno]
          subst ho2
          have hm9 : m ≤ 9223372036854775807 := by have h2 := hrec.2.1; have h3 := hrec.2.2.1; unfold maxLen at h3; omega
          have dm : ((m : Int) != 2) = true := by simp; omega
          clear hmb hx hrec hrl hno
          go_wp2
          go_ret
          exact ⟨rfl, rfl⟩
      · have hend := hmb.end_ (by rw [Hl.out]; omega)
        have ho2 : o = true := by rw [Ho.out, hend]
        subst ho2
        clear hmb hend
        go_wp2
        go_ret
        exact ⟨rfl, rfl⟩
  · rw [decide_eq_false hn1, Bool.false_and] at ho
    subst ho
    have dn : decide ((1000 : Int) < (n : Int)) = true := by simp; omega
    clear hr hl hz
    go_enter Tryz.func136, Tryz.ntmps136
    go_wp2
    go_ret
    exact ⟨rfl, rfl⟩

theorem fr_eq (a : List UInt8) : fr ⟨a.toArray⟩ = Vm.vb a.length ++ a := by
  unfold fr
  rfl
def EntRel (base n N : Nat) (w : World) (l : List Bm.Rec) (o i : Value) (wr : World) : Prop :=
  ∃ A c M, ∃ j : Nat, o = .slice A (List.length M) c ∧ i = .int .i64 (j : Int) ∧ j ≤ n ∧ Own wr 5 base A c M ∧ M = Vm.vb N ++ ((l.take j).map Bm.ew).flatten ∧ Below base w wr

set_option maxRecDepth 100000 in
set_option maxHeartbeats 2000000 in
theorem entries_c (A : Option Addr) (n c : Nat) (l : List Bm.Rec) (w : World) (hr : RL w w.heap.size A n c l) (hn : n ≤ 1000) (hmay : Bm.mayB [] l = true) :
    Calls Tryz.prog 138 #[.slice A n c] w (RetB w.heap.size w (Bm.ents l)) := by
  have hl := hr.len
  have hlen : ∀ j, ((l.take j).map Bm.ew).flatten.length ≤ 106000 := fun j => by
    have h1 := (Bm.enc_len (l.take j) [] (Bm.mayB_take l [] j hmay)).1
    have h2 : (l.take j).length ≤ n := by rw [List.length_take, hl]; omega
    omega
  have hvn := Bm.vb3 n (by omega)
  have hfin0 : Bm.ents l = Vm.vb n ++ ((l.take n).map Bm.ew).flatten := by unfold Bm.ents; rw [List.take_of_length_le (by omega), hl]
  have hput0 := put_c none 0 0 [] n w (Rb.nil _ _) (by omega) (by omega)
  rw [List.nil_append] at hput0
  have Hr := Lib.hid hr; have Hl := Lib.hid hl; have Hmay := Lib.hid hmay; have Hlen := Lib.hid hlen; have Hfin0 := Lib.hid hfin0; have Hput0 := Lib.hid hput0
  clear hr hl hmay hlen hfin0 hput0
  go_enter Tryz.func138, Tryz.ntmps138
  go_wp2_with fail
  refine Hput0.out.mono ?_
  rintro e w1 ⟨A1, c1, rfl, hown1, hb1⟩
  have z1 := hb1.size
  have Hown1 := Lib.hid hown1; clear hown1
  go_wp2
  go_loopw [3, 12] (fun o i wr => EntRel w.heap.size n n w l o i wr) (fun _ i _ => n - (intOf i).toNat)
  case atStart => exact ⟨A1, c1, Vm.vb n, 0, rfl, rfl, Nat.zero_le _, Hown1.out, by simp, hb1⟩
  case round =>
    obtain ⟨A3, c3, M, j, rfl, rfl, hj, hown, hM, hbel⟩ := hrel
    have z3 := hbel.size
    by_cases hlt : j < n
    · obtain ⟨b, off, D, m, d, r, rfl, hb, hcell, hx, _, hrec⟩ := (Hr.out.below hbel).at_ hlt
      obtain ⟨s, y, hrr, hs1, hy1⟩ := Bm.mayB_get l [] j r Hmay.out hx
      subst hrr
      obtain rfl : m = 2 := (lvs_num hrec).symm
      obtain ⟨b2, off2, s', rfl, hb2, hc2, hx2, _⟩ := lvs_at hrec (k := 0) (by omega)
      obtain ⟨b3, off3, y', hE, hb3, hc3, hx3, _⟩ := lvs_at hrec (k := 1) (by omega)
      injection hE with hE
      injection hE with h1 h2 _
      subst h1 h2
      obtain rfl : s = s' := by simpa using hx2
      obtain rfl : y = y' := by simpa using hx3
      rw [Nat.add_zero] at hc2
      have hMl : M.length ≤ 107000 := by have := Hlen.out j; rw [hM, List.length_append]; omega
      obtain ⟨al, hal⟩ : ∃ al, s.length = al := ⟨_, rfl⟩
      have hfr := fun W => frameP_c none 0 0 [] ⟨s.toArray⟩ W (Rb.nil _ _) (by omega) (by show s.length ≤ _; omega)
      rw [List.nil_append, fr_eq] at hfr
      obtain ⟨X, hX⟩ : ∃ X, X = Vm.vb s.length ++ s := ⟨_, rfl⟩
      rw [← hX] at hfr
      have hXl : X.length ≤ 200 := by rw [hX, List.length_append]; have := Bm.vb3 s.length (by omega); omega
      obtain ⟨yl, hyl⟩ : ∃ yl, y.length = yl := ⟨_, rfl⟩
      have hpt := fun W => put_c none 0 0 [] yl W (Rb.nil _ _) (by omega) (by omega)
      rw [List.nil_append] at hpt
      obtain ⟨Z, hZ⟩ : ∃ Z, Z = Vm.vb yl := ⟨_, rfl⟩
      rw [← hZ] at hpt
      have hZl : Z.length ≤ 10 := by rw [hZ]; have := Bm.vb3 yl (by omega); omega
      have ew : IntKind.u64.wrap (y.length : Int) = (yl : Int) := by rw [hyl, IntKind.wrap_u64]; omega
      obtain ⟨M2, hM2⟩ : ∃ M2, M ++ X = M2 := ⟨_, rfl⟩
      obtain ⟨M3, hM3⟩ : ∃ M3, M2 ++ Z = M3 := ⟨_, rfl⟩
      have hM2l : M2.length ≤ 110000 := by rw [← hM2, List.length_append]; omega
      have hM3l : M3.length ≤ 120000 := by rw [← hM3, List.length_append]; omega
      have hfin : M3 = Vm.vb n ++ ((l.take (j + 1)).map Bm.ew).flatten := by
        rw [Bm.ents_next l j _ hx, ← hM3, ← hM2, hM, hX, hZ, Bm.ew, hyl]
        simp only [List.append_assoc]
      have Hfr := Lib.hid hfr; have Hpt := Lib.hid hpt; have H2 := Lib.hid hM2; have H3 := Lib.hid hM3; have Hfin := Lib.hid hfin; have Hown := Lib.hid hown
      clear hfr hpt hM2 hM3 hfin hown hx hrec hM hX hZ hal hyl hx2 hx3
      go_wp2_with fail
      refine (Hfr.out wr).mono ?_
      rintro e w4 ⟨A4, c4, rfl, hown4, hb4⟩
      have own4 := Hown.out.keep hb4
      have z4 := hb4.size
      have bw4 := hbel.trans (hb4.mono z3)
      have d2 := (hb4.cell (p := ⟨b2, off2 + 1, none⟩) (by show b2 < _; omega)).trans hc3
      have Hown4 := Lib.hid hown4.rb; have Own4 := Lib.hid own4
      clear hown4 own4 hc2 hc3
      go_wp2_with (at_builtin; go_must (refine bty.wpAppTo rfl (.tmp 16) (.tmp 20) rfl (l := M) (r := X) (N := M2) rfl rfl Own4.out Hown4.out H2.out ?hs1 ?hs2 ?_))
      case hs1 => omega
      case hs2 => omega
      intro A5 c5 w5 hown5 hg5
      have b5 := hg5.below Own4.out (by omega)
      have bw5 := bw4.trans b5
      have z5 := hg5.size
      have d3 := (hg5.cell ⟨b2, off2 + 1, none⟩ (by show b2 < _; omega) (fun q => by have := (own_ob Own4.out b2 q.symm).1; omega)).trans d2
      have Own5 := Lib.hid hown5
      clear hown5 hg5 d2
      go_wp2_with fail
      refine (Hpt.out w5).mono ?_
      rintro e w6 ⟨A6, c6, rfl, hown6, hb6⟩
      have own6 := Own5.out.keep hb6
      have z6 := hb6.size
      have bw6 := bw5.trans (hb6.mono (by omega))
      have Hown6 := Lib.hid hown6.rb; have Own6 := Lib.hid own6
      clear hown6 own6 d3
      go_wp2_with (at_builtin; go_must (refine bty.wpAppTo rfl (.tmp 22) (.tmp 28) rfl (l := M2) (r := Z) (N := M3) rfl rfl Own6.out Hown6.out H3.out ?hs1 ?hs2 ?_))
      case hs1 => omega
      case hs2 => omega
      intro A7 c7 w7 hown7 hg7
      have bw7 := bw6.trans (hg7.below Own6.out (by omega))
      have Own7 := Lib.hid hown7
      clear hown7 hg7
      go_wp2
      go_roundw
      case rel => exact ⟨A7, c7, M3, j + 1, rfl, by go_num, hlt, Own7.out, Hfin.out, bw7⟩
      case measure => simp [intOf]; omega
    · have hjn : j = n := by omega
      subst hjn
      rw [← Hfin0.out] at hM
      subst hM
      have Hown := Lib.hid hown; clear hown
      go_wp2
      go_ret
      exact ⟨A3, c3, rfl, Hown.out, hbel⟩
end Go.Proofs.YtknmhdkomjjneaaGreatDoor.Bun

/-
  bundle.Write: what the call returns and leaves.
-/

namespace Go.Proofs.YtknmhdkomjjneaaGreatDoor.Bun
open Go.RowKit

theorem conv_bytes (w : World) (s : ByteArray) (hs : s.size ≤ 1000000) : ∃ c w', (convert 9 22 (.string s)).run Tryz.prog w = .ok (.slice (some ⟨w.heap.size, 0, none⟩) s.size c) w' ∧ Rb w' w'.heap.size (some ⟨w.heap.size, 0, none⟩) s.size c s.data.toList ∧ Below w.heap.size w w' := by
  refine ⟨_, _, Lib.run_convert_string_bytes w 9 22 5 s Tryz.underlying9 Tryz.underlying22 Tryz.underlying5, ⟨str_len s, grownCap_ge _ _ _ _, grownCap_le_maxLen _ _ _ _ (by unfold maxLen; omega), fun _ => ⟨_, _, rfl, by rw [Lib.bytesWorld_size]; omega, fun j x hx => ?_⟩⟩, ⟨rfl, rfl, rfl, by rw [Lib.bytesWorld_size]; omega, fun k hk => Lib.bytesWorld_at_old w _ s k hk⟩⟩
  have hj : j < s.data.toList.length := by
    rcases Nat.lt_or_ge j s.data.toList.length with h' | h'
    · exact h'
    · rw [List.getElem?_eq_none h'] at hx; cases hx
  rw [Nat.zero_add, Lib.bytesWorld_cell w _ s j (by rw [← str_len]; exact hj)]
  rw [List.getD_eq_getElem?_getD, hx]; rfl
theorem seal_sl (y : List UInt8) : Cm.sealS Cm.tab y = (Bm.sl y, 0) := sealS_ok Cm.tab y Cm.tab_len
def OutRel (base n : Nat) (w : World) (l : List Bm.Rec) (H : List UInt8) (o i : Value) (wr : World) : Prop :=
  ∃ A c M, ∃ j : Nat, o = .slice A (List.length M) c ∧ i = .int .i64 (j : Int) ∧ j ≤ n ∧ Own wr 5 base A c M ∧ M = H ++ Bm.body (l.take j) ∧ Below base w wr

theorem write_no (A : Option Addr) (n c : Nat) (l : List Bm.Rec) (w : World) (hr : RL w w.heap.size A n c l) (hz : ∀ r ∈ l, ∀ q ∈ r, q.length ≤ 140737488355328) (hno : (decide (l.length ≤ 1000) && Bm.mayB [] l) = false) :
    Calls Tryz.prog 105 #[.slice A n c] w fun e w' => e = .returned (.tuple #[.slice none 0 0, .int .i64 10]) ∧ w' = w := by
  have hm := may_c A n c _ l w hr hz false hno.symm
  have Hm := Lib.hid hm
  clear hr hz hno hm
  go_enter Tryz.func105, Tryz.ntmps105
  go_wp2_with fail
  refine Hm.out.mono ?_
  rintro e w1 ⟨rfl, rfl⟩
  go_wp2
  go_ret2
  exact ⟨rfl, rfl⟩

set_option maxRecDepth 100000 in
set_option maxHeartbeats 4000000 in
theorem write_ok (A : Option Addr) (n c : Nat) (l : List Bm.Rec) (w : World) (hr : RL w w.heap.size A n c l) (hz : ∀ r ∈ l, ∀ q ∈ r, q.length ≤ 140737488355328) (hl1 : l.length ≤ 1000) (hmay : Bm.mayB [] l = true) (L : List UInt8) (hL : L = Bm.wr l) (k : Nat) (hk : L.length = k) :
    Calls Tryz.prog 105 #[.slice A n c] w fun e w' => ∃ A c, e = .returned (.tuple #[.slice A k c, .int .i64 0]) ∧ (Own w' 5 w.heap.size A c L ∧ L.length = k) ∧ Below w.heap.size w w' := by
  have hl := hr.len
  have hm := may_c A n c _ l w hr hz true (by rw [decide_eq_true hl1, hmay]; rfl)
  have hen := fun W (hW : RL W W.heap.size A n c l) => entries_c A n c l W hW (by omega) hmay
  have hwl := Bm.wr_len l hl1 hmay
  obtain ⟨E, hE⟩ : ∃ E, E = Bm.ents l := ⟨_, rfl⟩
  obtain ⟨S, hS⟩ : ∃ S, S = Bm.sl E := ⟨_, rfl⟩
  obtain ⟨sl, hsl⟩ : ∃ sl, S.length = sl := ⟨_, rfl⟩
  have hS4 : S.length = E.length + 4 := by rw [hS, Bm.sl_len]
  rw [← hE] at hwl hen
  have hn1 : n ≤ 1000 := by omega
  have hEl : E.length ≤ 107000 := by omega
  obtain ⟨H, hH⟩ : ∃ H, H = Vm.vb sl ++ S := ⟨_, rfl⟩
  have hLH : ∀ j, (H ++ Bm.body (l.take j)).length ≤ 2000000 := fun j => by
    have h1 := (Bm.enc_len (l.take j) [] (Bm.mayB_take l [] j hmay)).2
    have h2 : (l.take j).length ≤ n := by rw [List.length_take, hl]; omega
    have := Bm.vb3 sl (by omega)
    rw [hH, List.length_append, List.length_append]
    omega
  have hfin : L = H ++ Bm.body (l.take n) := by rw [hL, Bm.wr, ← hE, ← hS, hsl, hH, List.take_of_length_le (by omega)]
  have hsl2 : sl ≤ 108000 := by omega
  have hput := fun W => put_c none 0 0 [] sl W (Rb.nil _ _) (by omega) (by omega)
  rw [List.nil_append] at hput
  obtain ⟨V, hV⟩ : ∃ V, V = Vm.vb sl := ⟨_, rfl⟩
  rw [← hV] at hput hH
  obtain ⟨en, hen2⟩ : ∃ en, E.length = en := ⟨_, rfl⟩
  have hse := fun (T D : Option Addr) (d : Nat) W (hT : Rn W W.heap.size T 256 256 Cm.tab) (hW : Rb W W.heap.size D en d E) => seal_lit T 256 256 Cm.tab D en d E W hT (by omega) hW (by omega) S sl 0 (by rw [hS]; exact seal_sl E) hsl
  have hVl : V.length ≤ 3 := by rw [hV]; exact Bm.vb3 sl (by omega)
  have hSl : S.length ≤ 108000 := by omega
  have Hr := Lib.hid hr; have Hl := Lib.hid hl; have Hm := Lib.hid hm; have Hmay := Lib.hid hmay; have Hen := Lib.hid hen; have HH := Lib.hid hH; have HLH := Lib.hid hLH; have Hfin := Lib.hid hfin; have Hput := Lib.hid hput; have Hse := Lib.hid hse; have Hen2 := Lib.hid hen2; have Hsl := Lib.hid hsl; have Hk := Lib.hid hk
  clear hr hz hl1 hmay hL hl hm hen hwl hE hS hsl hS4 hH hLH hfin hput hV hen2 hse hk
  go_enter Tryz.func105, Tryz.ntmps105
  go_wp2_with fail
  refine Hm.out.mono ?_
  rintro e w1 ⟨rfl, rfl⟩
  go_wp2_with fail
  refine (table_c w1).mono ?_
  rintro e w2 ⟨rfl, hT, hb2, hz2⟩
  have hr2 := (Hr.out.below hb2).more hb2.size
  have HT := Lib.hid hT; have Hr2 := Lib.hid hr2
  clear hT hr2
  go_wp2_with fail
  refine (Hen.out w2 Hr2.out).mono ?_
  rintro e w3 ⟨A3, c3, rfl, hown3, hb3⟩
  rw [Hen2.out]
  have z2 := hb2.size
  have z3 := hb3.size
  have hT3 := (HT.out.below hb3).more z3
  have hr3 := (Hr2.out.below hb3).more z3
  have hE3 := rb_len hown3.rb Hen2.out
  have HT3 := Lib.hid hT3; have Hr3 := Lib.hid hr3; have HE3 := Lib.hid hE3
  clear hT3 hr3 hE3 hown3
  go_wp2_with fail
  refine (Hse.out _ A3 c3 w3 HT3.out HE3.out).mono ?_
  rintro e w4 ⟨A4, c4, rfl, hown4, hb4⟩
  have z4 := hb4.size
  have hT4 := (HT3.out.below hb4).more z4
  have hr4 := (Hr3.out.below hb4).more z4
  have HT4 := Lib.hid hT4; have Hr4 := Lib.hid hr4; have HS4 := Lib.hid (Own.rbl hown4)
  clear hT4 hr4 hown4
  have b4 := (hb2.trans (hb3.mono z2)).trans (hb4.mono (Nat.le_trans z2 z3))
  go_wp2_with fail
  refine (Hput.out w4).mono ?_
  rintro e w5 ⟨A5, c5, rfl, hown5, hb5⟩
  have z5 := hb5.size
  have HS5 := Lib.hid ((HS4.out.below hb5).more z5); have Hown5 := Lib.hid hown5
  clear hown5
  go_wp2_with (at_builtin; go_must (refine bty.wpAppTo rfl (.tmp 27) (.tmp 28) rfl (l := V) (r := S) (N := H) rfl rfl Hown5.out HS5.out HH.out.symm ?hs1 ?hs2 ?_))
  case hs1 => rw [HH.out, List.length_append]; omega
  case hs2 => omega
  intro A6 c6 w6 hown6 hg6
  have b46 : Below w4.heap.size w4 w6 := hb5.trans (hg6.below Hown5.out (by omega))
  have Hown6 := Lib.hid hown6
  clear hown6 hg6
  go_wp2
  go_loopw [7, 32] (fun o i wr => OutRel w4.heap.size n w4 l H o i wr) (fun _ i _ => n - (intOf i).toNat)
  case atStart => exact ⟨A6, c6, H, 0, rfl, rfl, Nat.zero_le _, Hown6.out, by simp [Bm.body], b46⟩
  case round =>
    obtain ⟨A7, c7, M, j, rfl, rfl, hj, hown, hM, hbel⟩ := hrel
    have zr := hbel.size
    by_cases hlt : j < n
    · obtain ⟨b, off, D, m, d, r, rfl, hb, hcell, hx, _, hrec⟩ := (Hr4.out.below hbel).at_ hlt
      obtain ⟨s, y, hrr, hs1, hy1⟩ := Bm.mayB_get l [] j r Hmay.out hx
      subst hrr
      obtain rfl : m = 2 := (lvs_num hrec).symm
      obtain ⟨b3, off3, y', rfl, hb3, hc3, hx3, _⟩ := lvs_at hrec (k := 1) (by omega)
      obtain rfl : y = y' := by simpa using hx3
      have hMl : M.length ≤ 2000000 := by rw [hM]; exact HLH.out j
      obtain ⟨cc, w8, hcv, hr8, b8⟩ := conv_bytes wr ⟨y.toArray⟩ (by show y.length ≤ _; omega)
      have z8 := b8.size
      obtain ⟨yl, hyl⟩ : ∃ yl, y.length = yl := ⟨_, rfl⟩
      have hr8' : Rb w8 w8.heap.size (some ⟨wr.heap.size, 0, none⟩) yl cc y := by rw [← hyl]; exact hr8
      have hcv' : (convert 9 22 (.string ⟨y.toArray⟩)).run Tryz.prog wr = .ok (.slice (some ⟨wr.heap.size, 0, none⟩) yl cc) w8 := by rw [← hyl]; exact hcv
      have hT8 := (HT4.out.below (hbel.trans (b8.mono zr))).more (B' := w8.heap.size) (by omega)
      have own8 := hown.keep b8
      have hysl : (Bm.sl y).length = yl + 4 := by rw [Bm.sl_len, hyl]
      have hse8 := seal_lit _ 256 256 Cm.tab _ yl cc y w8 hT8 (by omega) hr8' (by omega) (Bm.sl y) (yl + 4) 0 (seal_sl y) hysl
      obtain ⟨X, hX⟩ : ∃ X, X = Bm.sl y := ⟨_, rfl⟩
      rw [← hX] at hse8
      obtain ⟨M2, hM2⟩ : ∃ M2, M ++ X = M2 := ⟨_, rfl⟩
      have hfin2 : M2 = H ++ Bm.body (l.take (j + 1)) := by rw [Bm.body_next l j _ hx, ← hM2, hM, hX, Bm.bw, List.append_assoc]
      have hM2l : M2.length ≤ 2000000 := by rw [hfin2]; exact HLH.out (j + 1)
      have Own8 := Lib.hid own8; have Hse8 := Lib.hid hse8; have H2 := Lib.hid hM2; have Hfin2 := Lib.hid hfin2
      clear hcv hr8 hr8' hT8 own8 hysl hse8 hX hM2 hfin2 hown hM hx hx3 hrec hyl
      go_wp2_with fail
      refine Hse8.out.mono ?_
      rintro e w9 ⟨A9, c9, rfl, hown9, hb9⟩
      have own9 := Own8.out.keep hb9
      have z9 := hb9.size
      have bw9 := (hbel.trans (b8.mono zr)).trans (hb9.mono (Nat.le_trans zr z8))
      have Hown9 := Lib.hid (Own.rbl hown9); have Own9 := Lib.hid own9
      clear hown9 own9 hcv' hc3
      go_wp2_with (at_builtin; go_must (refine bty.wpAppTo rfl (.tmp 45) (.tmp 46) rfl (l := M) (r := X) (N := M2) rfl rfl Own9.out Hown9.out H2.out ?hs1 ?hs2 ?_))
      case hs1 => omega
      case hs2 => omega
      intro Aa ca wa howna hga
      have bwa := bw9.trans (hga.below Own9.out (by omega))
      have Owna := Lib.hid howna
      clear howna hga
      go_wp2
      go_roundw
      case rel => exact ⟨Aa, ca, M2, j + 1, rfl, by go_num, hlt, Owna.out, Hfin2.out, bwa⟩
      case measure => simp [intOf]; omega
    · have hjn : j = n := by omega
      subst hjn
      rw [← Hfin.out] at hM
      subst hM
      have Hown := Lib.hid (hown.mono (base' := w1.heap.size) b4.size); clear hown
      go_wp2
      go_ret2
      exact ⟨A7, c7, by rw [← Hk.out]; rfl, ⟨Hown.out, Hk.out⟩, b4.trans (hbel.mono b4.size)⟩
end Go.Proofs.YtknmhdkomjjneaaGreatDoor.Bun
