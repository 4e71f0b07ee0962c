import Derived.Test.YtkekmokdlgocaaaGreatDoorJW31
import Derived.Test.YtkekmokdlgocaaaGreatDoorJW32
import Derived.Test.YtkekmokdlgocaaaGreatDoorJW33
import Derived.Deep.RegionHeld
set_option maxRecDepth 100000
set_option maxHeartbeats 4000000
namespace Go.Proofs.YtkekmokdlgocaaaGreatDoor.Cht
open Go.RowKit
theorem expGo_len (n : Nat) (out r : List UInt8) (p k : Nat) (h : out.length ≤ n) : (Pm.expGo n out r p k).1.length ≤ n ∧ (Pm.expGo n out r p k).2.2.2 ≤ 10 := by
 fun_induction Pm.expGo n out r p k with
 | case1 => exact ⟨Nat.zero_le _, by decide⟩
 | case2 => exact ⟨h, Nat.zero_le _⟩
 | case3 => exact ⟨Nat.zero_le _, by decide⟩
 | case4 => exact ⟨Nat.zero_le _, by decide⟩
 | case5 _ _ _ _ _ _ _ h1 h2 ih => exact ih (by rw [List.length_append, List.length_take]; omega)
 | case6 => exact ⟨Nat.zero_le _, by decide⟩
 | case7 _ _ _ _ _ _ _ _ h1 ih => exact ih (by rw [copyN_len]; omega)
 | case8 out r p k h0 h1 h2 h3 =>
  rcases tk_cases (r.drop (Vm.tk r).2.1) with ⟨a, s, ht, _⟩ | ⟨x, ht, hx⟩
  ·rw [ht] at h3; exact absurd rfl h3
  ·rw [ht]; exact ⟨Nat.zero_le _, by dsimp only; omega⟩
 | case9 out r p k h0 h1 =>
  rcases tk_cases r with ⟨a, s, ht, _⟩ | ⟨x, ht, hx⟩
  ·rw [ht] at h1; exact absurd rfl h1
  ·rw [ht]; exact ⟨Nat.zero_le _, by dsimp only; omega⟩
theorem expS_len (r : List UInt8) : (Pm.expS r 20000).1.length ≤ 20000 ∧ (Pm.expS r 20000).2.2.2 ≤ 10 := by
 unfold Pm.expS
 split
 ·split
  ·exact ⟨Nat.zero_le _, by decide⟩
  ·have h := expGo_len (Vm.tk r).1 [] (r.drop (Vm.tk r).2.1) 0 0 (Nat.zero_le _)
   exact ⟨by omega, h.2⟩
 ·rename_i h
  rcases tk_cases r with ⟨a, s, ht, _⟩ | ⟨x, ht, hx⟩
  ·rw [ht] at h; exact absurd rfl h
  ·rw [ht]; exact ⟨Nat.zero_le _, by dsimp only; omega⟩
theorem decRs_x : ∀ (m : Nat) (b : List UInt8) (x : Nat), Fm.decRs m b = .error x → 2 ≤ x ∧ x ≤ 5
 | 0, b, x, h => by simp [Fm.decRs] at h
 | m + 1, b, x, h => by
  rw [Fm.decRs] at h
  cases hd : Fm.decR b with
  | error y => rw [hd] at h; injection h with h; subst h; exact decR_x hd
  | ok p =>
   obtain ⟨r, t⟩ := p
   rw [hd] at h
   dsimp only at h
   cases he : Fm.decRs m t with
   | error y => rw [he] at h; injection h with h; subst h; exact decRs_x m t _ he
   | ok q => rw [he] at h; cases h
theorem dec_x {b : List UInt8} {x : Nat} (h : Fm.dec b = .error x) : 2 ≤ x ∧ x ≤ 5 := by
 rw [dec_cnt] at h
 cases hc : cnt b 5000 with
 | error y => rw [hc] at h; injection h with h; subst h; exact cnt_x hc
 | ok p =>
  obtain ⟨a, t⟩ := p
  rw [hc] at h
  dsimp only at h
  cases hd : Fm.decRs a t with
  | error y => rw [hd] at h; injection h with h; subst h; exact decRs_x a t _ hd
  | ok q =>
   obtain ⟨l, u⟩ := q
   rw [hd] at h
   dsimp only at h
   split at h
   ·cases h
   ·injection h with h; omega
theorem dec_kinds (b : List UInt8) : (∃ L, Fm.dec b = .ok L ∧ decS b = (L, 0) ∧ L.length ≤ 5000) ∨ (∃ x, Fm.dec b = .error x ∧ decS b = ([], x) ∧ 1 ≤ x ∧ x ≤ 10) := by
 cases h : Fm.dec b with
 | ok L => exact .inl ⟨L, rfl, by unfold decS; rw [h], (Fm.enc_dec h).2.2⟩
 | error x =>
  have := dec_x h
  exact .inr ⟨x, rfl, by unfold decS; rw [h], by omega, by omega⟩
theorem blk_op {l : List UInt8} (k : Nat) (h : Hm.opn l = none) : Hm.blk l k = none := by unfold Hm.blk; rw [h]; rfl
theorem blk_ex {l o : List UInt8} (k : Nat) (h : Hm.opn l = some o) (h2 : (Pm.expS o 20000).2.2.2 ≠ 0) : Hm.blk l k = none := by unfold Hm.blk; rw [h, Option.bind_some, if_neg h2]
theorem blk_de {l o : List UInt8} (k : Nat) {x : Nat} (h : Hm.opn l = some o) (h2 : (Pm.expS o 20000).2.2.2 = 0) (h3 : Fm.dec (Pm.expS o 20000).1 = .error x) : Hm.blk l k = none := by unfold Hm.blk; rw [h, Option.bind_some, if_pos h2, h3]
theorem blk_ct {l o : List UInt8} {k : Nat} {L : List (List (List UInt8))} (h : Hm.opn l = some o) (h2 : (Pm.expS o 20000).2.2.2 = 0) (h3 : Fm.dec (Pm.expS o 20000).1 = .ok L) (h4 : L.length ≠ k) : Hm.blk l k = none := by unfold Hm.blk; rw [h, Option.bind_some, if_pos h2, h3]; dsimp only; rw [if_neg h4]
theorem blk_ok {l o : List UInt8} {k : Nat} {L : List (List (List UInt8))} (h : Hm.opn l = some o) (h2 : (Pm.expS o 20000).2.2.2 = 0) (h3 : Fm.dec (Pm.expS o 20000).1 = .ok L) (h4 : L.length = k) : Hm.blk l k = some L := by unfold Hm.blk; rw [h, Option.bind_some, if_pos h2, h3]; dsimp only; rw [if_pos h4]
def RetRk (w : World) (t : Option (List (List (List UInt8)))) (e : Ending) (w' : World) : Prop :=
 Below w.heap.size w w' ∧ match t with
 | some r => ∃ A c, e = .returned (.tuple #[.slice A r.length c, .bool true]) ∧ RLS w' (Fr w.heap.size w') A r.length c r
 | none => ∃ v, e = .returned (.tuple #[v, .bool false])
theorem expand_to (A : Option Addr) (n c : Nat) (l : List UInt8) (w : World) (hr : Rb w w.heap.size A n c l) (hn : n ≤ 900000) (o : List UInt8) (k x : Nat) (h : (Pm.expS l 20000).1 = o) (hk : o.length = k) (hx : (Pm.expS l 20000).2.2.2 = x) :
  Calls Tryz.prog 149 #[.slice A n c, .int .i64 20000] w (RetL w k x o) :=
 (expand_c A n c l 20000 w hr hn (by unfold I64; omega) (fun S s _ h => by omega)).mono fun e w' hp => by
  obtain ⟨A, c, he, ho, hb⟩ := hp
  rw [h] at he ho
  exact ⟨A, c, by rw [he, hk, hx], ⟨ho, hk⟩, hb⟩
theorem rexpand_to (A : Option Addr) (n c : Nat) (l : List UInt8) (w : World) (hr : Rb w w.heap.size A n c l) (hn : n ≤ 900000) (o : List UInt8) (k x : Nat) (h : (Pm.expS l 20000).1 = o) (hk : o.length = k) (hx : (Pm.expS l 20000).2.2.2 = x) :
  Calls Tryz.prog 117 #[.slice A n c, .int .i64 20000] w (RetL w k x o) :=
 (rExpand_c A n c l 20000 w hr hn (by unfold I64; omega) (by omega)).mono fun e w' hp => by
  obtain ⟨A, c, he, ho, hb⟩ := hp
  rw [h] at he ho
  exact ⟨A, c, by rw [he, hk, hx], ⟨ho, hk⟩, hb⟩
def RetDn (w : World) (k x : Nat) (L : List (List (List UInt8))) (e : Ending) (w' : World) : Prop :=
 ∃ A c, e = .returned (.tuple #[.slice A k c, .int .i64 (x : Int)]) ∧ RLS w' (Fr w.heap.size w') A k c L ∧ Below w.heap.size w w'
theorem RetD.to_ {w w' : World} {e : Ending} {t : List (List (List UInt8)) × Nat} (hp : RetD w t e w') {L : List (List (List UInt8))} {k x : Nat} (h : t = (L, x)) (hk : L.length = k) : RetDn w k x L e w' := by
 subst h
 obtain ⟨A, c, he, hr, hb⟩ := hp
 dsimp only at he hr
 rw [hk] at he hr
 exact ⟨A, c, he, hr, hb⟩
theorem decode_to (A : Option Addr) (n c : Nat) (l : List UInt8) (w : World) (hr : Rb w w.heap.size A n c l) (hn : n ≤ 1000000) (L : List (List (List UInt8))) (k x : Nat) (h : decS l = (L, x)) (hk : L.length = k) :
  Calls Tryz.prog 150 #[.slice A n c] w (RetDn w k x L) :=
 (decode_c A n c l w hr hn).mono fun _ _ hp => hp.to_ h hk
theorem rdecode_to (A : Option Addr) (n c : Nat) (l : List UInt8) (w : World) (hr : Rb w w.heap.size A n c l) (hn : n ≤ 1000000) (L : List (List (List UInt8))) (k x : Nat) (h : decS l = (L, x)) (hk : L.length = k) :
  Calls Tryz.prog 118 #[.slice A n c] w (RetDn w k x L) :=
 (rdecode_c A n c l w hr hn).mono fun _ _ hp => hp.to_ h hk
theorem _root_.Go.Proofs.YtkekmokdlgocaaaGreatDoor.RLS.from_ {w' : World} {B B' : Nat} {A : Option Addr} {n c : Nat} {l : List (List (List UInt8))} (h : RLS w' (Fr B' w') A n c l) (hB : B ≤ B') : RLS w' (Fr B w') A n c l :=
 h.keep (stays_weak fun _ hb => ⟨Nat.le_trans hB hb.1, hb.2⟩)
theorem blk_ways (p : List UInt8) (k : Nat) : (∃ x, Cm.openS Cm.tab p = ([], x) ∧ 1 ≤ x ∧ x ≤ 4 ∧ Hm.blk p k = none) ∨
    (∃ o, Cm.openS Cm.tab p = (o, 0) ∧ o.length ≤ p.length ∧
      ((∃ u x, (Pm.expS o 20000).1 = u ∧ (Pm.expS o 20000).2.2.2 = x ∧ u.length ≤ 20000 ∧ 1 ≤ x ∧ x ≤ 10 ∧ Hm.blk p k = none) ∨
       (∃ u, (Pm.expS o 20000).1 = u ∧ (Pm.expS o 20000).2.2.2 = 0 ∧ u.length ≤ 20000 ∧
        ((∃ x, decS u = ([], x) ∧ 1 ≤ x ∧ x ≤ 10 ∧ Hm.blk p k = none) ∨ (∃ L, decS u = (L, 0) ∧ L.length ≤ 5000 ∧ ((L.length ≠ k ∧ Hm.blk p k = none) ∨ (L.length = k ∧ Hm.blk p k = some L))))))) := by
  rcases openT_kinds p with ⟨o, ho, ho2, hol⟩ | ⟨x, ho, hx, hx4, ho2⟩
  · refine .inr ⟨o, ho, hol, ?_⟩
    obtain ⟨h1, h2⟩ := expS_len o
    by_cases h0 : (Pm.expS o 20000).2.2.2 = 0
    · refine .inr ⟨_, rfl, h0, h1, ?_⟩
      rcases dec_kinds (Pm.expS o 20000).1 with ⟨L, hL, hL2, hL3⟩ | ⟨x, hx, hx2, hx3, hx4⟩
      · refine .inr ⟨L, hL2, hL3, ?_⟩
        by_cases hk : L.length = k
        · exact .inr ⟨hk, blk_ok ho2 h0 hL hk⟩
        · exact .inl ⟨hk, blk_ct ho2 h0 hL hk⟩
      · exact .inl ⟨x, hx2, hx3, hx4, blk_de k ho2 h0 hx⟩
    · exact .inl ⟨_, _, rfl, rfl, h1, by omega, h2, blk_ex k ho2 h0⟩
  · exact .inl ⟨x, ho, by omega, hx4, blk_op k ho2⟩
theorem rblock_c (A : Option Addr) (n c k : Nat) (l : List UInt8) (w : World) (hr : Rb w w.heap.size A n c l) (hn : n ≤ 900000) (hk : k ≤ 5000) :
  Calls Tryz.prog 91 #[.slice A n c, .int .i64 (k : Int)] w (RetRk w (Hm.blk l k)) := by
 have hl := hr.len
 rcases blk_ways l k with ⟨x, ho, hx1, hx4, hb⟩ | ⟨o, ho, hol, hw⟩
 ·rw [hb]
  have ho' := fun W (hW : Rb W W.heap.size A n c l) => (ropened_c A n c l W hW hn).mono fun _ _ h => h.lit (m := 0) ho rfl
  have Hr := ek hr; have Ho := ek ho'; clear hr ho ho' hb hl
  go_enter Tryz.func91, Tryz.ntmps91
  go_wp2_with fail
  refine (Ho.out _ Hr.out).mono ?_
  rintro e w1 ⟨A1, c1, rfl, hown1, hb1⟩
  clear hown1
  go_wp2
  go_ret2
  exact ⟨hb1, _, rfl⟩
 ·obtain ⟨q, hq⟩ : ∃ q, o.length = q := ⟨_, rfl⟩
  have hq9 : q ≤ 900000 := by omega
  have ho' := fun W (hW : Rb W W.heap.size A n c l) => (ropened_c A n c l W hW hn).mono fun _ _ h => h.lit (m := q) ho hq
  have Hr := ek hr; have Ho := ek ho'; clear hr ho ho' hl hol hq
  rcases hw with ⟨u, x, hu, hux, hul, hx1, hx10, hb⟩ | ⟨u, hu, hux, hul, hw⟩
  ·rw [hb]
   obtain ⟨z, hz⟩ : ∃ z, u.length = z := ⟨_, rfl⟩
   have he := fun W D d (hW : Rb W W.heap.size D q d o) => rexpand_to D q d o W hW hq9 u z x hu hz hux
   have He := ek he
   clear hb hu hux hz hul he
   go_enter Tryz.func91, Tryz.ntmps91
   go_wp2_with fail
   refine (Ho.out _ Hr.out).mono ?_
   rintro e w1 ⟨A1, c1, rfl, hown1, hb1⟩
   have hr1 := Own.rbl hown1
   have Hr1 := ek hr1
   clear hown1 hr1
   go_wp2_with fail
   refine (He.out _ _ _ Hr1.out).mono ?_
   rintro e w2 ⟨A2, c2, rfl, hown2, hb2⟩
   clear hown2
   go_wp2
   go_ret2
   exact ⟨hb1.trans (hb2.mono hb1.size), _, rfl⟩
  ·obtain ⟨z, hz⟩ : ∃ z, u.length = z := ⟨_, rfl⟩
   have hz2 : z ≤ 1000000 := by omega
   have he := fun W D d (hW : Rb W W.heap.size D q d o) => rexpand_to D q d o W hW hq9 u z 0 hu hz hux
   have He := ek he
   clear hu hux hz hul he
   rcases hw with ⟨x, hd, hx1, hx10, hb⟩ | ⟨L, hd, hL5, hw⟩
   ·rw [hb]
    have hd' := fun W D d (hW : Rb W W.heap.size D z d u) => rdecode_to D z d u W hW hz2 [] 0 x hd rfl
    have Hd := ek hd'
    clear hb hd hd'
    go_enter Tryz.func91, Tryz.ntmps91
    go_wp2_with fail
    refine (Ho.out _ Hr.out).mono ?_
    rintro e w1 ⟨A1, c1, rfl, hown1, hb1⟩
    have hr1 := Own.rbl hown1
    have Hr1 := ek hr1
    clear hown1 hr1
    go_wp2_with fail
    refine (He.out _ _ _ Hr1.out).mono ?_
    rintro e w2 ⟨A2, c2, rfl, hown2, hb2⟩
    have hr2 := Own.rbl hown2
    have Hr2 := ek hr2
    clear hown2 hr2
    go_wp2_with fail
    refine (Hd.out _ _ _ Hr2.out).mono ?_
    rintro e w3 ⟨A3, c3, rfl, hown3, hb3⟩
    clear hown3
    have b2 := hb1.trans (hb2.mono hb1.size)
    go_wp2
    go_ret2
    exact ⟨b2.trans (hb3.mono b2.size), _, rfl⟩
   ·obtain ⟨g, hg⟩ : ∃ g, L.length = g := ⟨_, rfl⟩
    have hd' := fun W D d (hW : Rb W W.heap.size D z d u) => rdecode_to D z d u W hW hz2 L g 0 hd hg
    have Hd := ek hd'
    rw [hg] at hw hL5
    have Hg := ek hg
    clear hd hd' hg
    go_enter Tryz.func91, Tryz.ntmps91
    go_wp2_with fail
    refine (Ho.out _ Hr.out).mono ?_
    rintro e w1 ⟨A1, c1, rfl, hown1, hb1⟩
    have hr1 := Own.rbl hown1
    have Hr1 := ek hr1
    clear hown1 hr1
    go_wp2_with fail
    refine (He.out _ _ _ Hr1.out).mono ?_
    rintro e w2 ⟨A2, c2, rfl, hown2, hb2⟩
    have hr2 := Own.rbl hown2
    have Hr2 := ek hr2
    clear hown2 hr2
    go_wp2_with fail
    refine (Hd.out _ _ _ Hr2.out).mono ?_
    rintro e w3 ⟨A3, c3, rfl, hown3, hb3⟩
    have b2 := hb1.trans (hb2.mono hb1.size)
    have hrl := hown3.from_ (B := w.heap.size) b2.size
    have Hrl := ek hrl
    clear hown3 hrl
    rcases hw with ⟨hgk, hb⟩ | ⟨hgk, hb⟩
    ·have d1 : ((g : Int) == (k : Int)) = false := by simp; omega
     have HB := ek hb
     clear hgk hb
     go_wp2
     go_ret2
     rw [HB.out]
     exact ⟨b2.trans (hb3.mono b2.size), _, rfl⟩
    ·subst hgk
     have HB := ek hb
     clear hb
     go_wp2
     go_ret2
     rw [HB.out]
     refine ⟨b2.trans (hb3.mono b2.size), ?_⟩
     show ∃ A c, _ ∧ RLS w3 (Fr w.heap.size w3) A L.length c L
     rw [Hg.out]
     exact ⟨A3, c3, rfl, Hrl.out⟩
end Go.Proofs.YtkekmokdlgocaaaGreatDoor.Cht
