/-
  The walk of the law VarintOnly.
-/
import Derived.Test.YtcmagegcolcalaaVa
import Derived.Test.YtcmagegcolcalaaVsz
import Derived.Test.YtcmagegcolcalaaRq
import Derived.Deep.RegionLaw
import Derived.Deep.DeepCutAuto
import Derived.Deep.QuietTactic
import Derived.BigQuiet
namespace Go.Proofs.Ytcmagegcolcalaa
open Go.RowKit

/-- What Take took, put again. -/
theorem takeS_only (l : List UInt8) (a : Nat) (x : List UInt8) (h : takeS l = (a, x, 0)) : a < 18446744073709551616 ∧ Vm.vb a ++ x = l := by
  rcases tk_cases l with ⟨a', s, htk, ha, hs, hs10⟩ | ⟨e, htk, he⟩
  · rw [takeS_ok l a' s htk] at h
    injection h with h1 h2
    injection h2 with h2 h3
    subst h1 h2
    have ho := Vm.tk_only l (by rw [htk])
    rw [htk] at ho
    exact ⟨ha, ho.2.1.symm⟩
  · rw [takeS_err l e htk he] at h
    injection h with h1 h2
    injection h2 with h2 h3
    omega

theorem toList_size (t : List UInt8) : (⟨t.toArray⟩ : ByteArray).size = t.length := rfl

/-- What a frame was read from. -/
theorem frameS_only (l : List UInt8) (most : Int) (t : List UInt8) (s : Nat) (h : frameS l most = (t, s, 0)) : l = fr ⟨t.toArray⟩ ++ l.drop s ∧ (t.length : Int) ≤ most := by
  rcases tk_cases l with ⟨a, s', htk, ha, hs, hs10⟩ | ⟨x, htk, hx⟩
  · by_cases h1 : most < 0 ∨ most < (a : Int)
    · rw [frameS_large l most a s' htk h1] at h; injection h with _ h; injection h with _ h; omega
    · by_cases h2 : l.length - s' < a
      · rw [frameS_short l most a s' htk h1 h2] at h; injection h with _ h; injection h with _ h; omega
      · rw [frameS_ok l most a s' htk h1 h2] at h
        injection h with h3 h4
        injection h4 with h4 h5
        subst h4 h3
        have ho := Vm.tk_only l (by rw [htk])
        rw [htk] at ho
        obtain ⟨_, o2, o3⟩ := ho
        have hlen : ((l.take (s' + a)).drop s').length = a := by simp; omega
        refine ⟨?_, by rw [hlen]; omega⟩
        unfold fr
        rw [toList_size, hlen, List.append_assoc]
        have e1 : (l.take (s' + a)).drop s' ++ l.drop (s' + a) = l.drop s' := by
          rw [List.drop_take, Nat.add_sub_cancel_left, ← List.drop_drop]
          exact List.take_append_drop a (l.drop s')
        show l = Vm.vb a ++ ((l.take (s' + a)).drop s' ++ l.drop (s' + a))
        rw [e1]
        exact o2
  · rw [frameS_err l most x htk hx] at h; injection h with _ h; injection h with _ h; omega

theorem tpairS_only (l : List UInt8) (most : Int) (k v y : List UInt8) (h : tpairS l most = ((k, v), y, 0)) :
    (fr ⟨k.toArray⟩ ++ fr ⟨v.toArray⟩) ++ y = l ∧ (k.length : Int) ≤ most ∧ (v.length : Int) ≤ most := by
  rcases frameS_cases l most with ⟨t, s, hf, hs, ht⟩ | ⟨x, hf, hx⟩
  · rcases frameS_cases (l.drop s) most with ⟨t2, s2, hf2, hs2, ht2⟩ | ⟨x, hf2, hx⟩
    · rw [tpairS_ok l most t t2 s s2 hf hf2] at h
      injection h with h1 h2
      injection h1 with h3 h4
      injection h2 with h5 h6
      subst h3 h4 h5
      obtain ⟨g1, g2⟩ := frameS_only l most t s hf
      obtain ⟨g3, g4⟩ := frameS_only (l.drop s) most t2 s2 hf2
      refine ⟨?_, g2, g4⟩
      rw [List.drop_drop] at g3
      rw [List.append_assoc, ← g3, ← g1]
    · rw [tpairS_err2 l most t s x hf hf2 hx] at h; injection h with _ h; injection h with _ h; omega
  · rw [tpairS_err1 l most x hf hx] at h; injection h with _ h; injection h with _ h; omega

theorem takeS_kinds (l : List UInt8) : (∃ a x, takeS l = (a, x, 0)) ∨ ∃ e, takeS l = (0, [], e) ∧ 2 ≤ e := by
  rcases tk_cases l with ⟨a', s, htk, ha, hs, hs10⟩ | ⟨e, htk, he⟩
  · exact .inl ⟨_, _, takeS_ok l a' s htk⟩
  · exact .inr ⟨e, takeS_err l e htk he, by omega⟩
theorem tpairS_kinds (l : List UInt8) (most : Int) : (∃ k v y, tpairS l most = ((k, v), y, 0)) ∨ ∃ e, tpairS l most = (([], []), [], e) ∧ (e = 2 ∨ e = 3 ∨ e = 5) := by
  rcases frameS_cases l most with ⟨t, s, hf, hs, ht⟩ | ⟨x, hf, hx⟩
  · rcases frameS_cases (l.drop s) most with ⟨t2, s2, hf2, hs2, ht2⟩ | ⟨x, hf2, hx⟩
    · exact .inl ⟨_, _, _, tpairS_ok l most t t2 s s2 hf hf2⟩
    · exact .inr ⟨x, tpairS_err2 l most t s x hf hf2 hx, hx⟩
  · exact .inr ⟨x, tpairS_err1 l most x hf hx, hx⟩

set_option maxRecDepth 100000 in
set_option maxHeartbeats 2000000 in
theorem varintOnly_long (A : Option Addr) (n c : Nat) (w : World) (hn : 3000 < n) (hm : n ≤ maxLen) :
    Calls Try.prog 7 #[.slice A n c] w fun e w' => e = .returned (.bool true) ∧ Below w.heap.size w w' := by
  unfold maxLen at hm
  go_enter Try.func7, Try.ntmps7
  go_wp2_with fail
  refine (alive_c _).mono ?_
  rintro e w2 ⟨rfl, hb2⟩
  go_wp2
  go_ret
  exact ⟨rfl, hb2⟩

theorem takeS_all (l : List UInt8) : ∃ a x er, takeS l = (a, x, er) ∧ (er = 0 ∧ a < 18446744073709551616 ∧ Vm.vb a ++ x = l ∨ 2 ≤ er) := by
  rcases takeS_kinds l with ⟨a, x, h⟩ | ⟨e, h, he⟩
  · exact ⟨a, x, 0, h, .inl ⟨rfl, takeS_only l a x h⟩⟩
  · exact ⟨0, [], e, h, .inr he⟩
theorem tpairS_all (l : List UInt8) (most : Int) : ∃ k v y f, tpairS l most = ((k, v), y, f) ∧
    (f = 0 ∧ (fr ⟨k.toArray⟩ ++ fr ⟨v.toArray⟩) ++ y = l ∧ (k.length : Int) ≤ most ∧ (v.length : Int) ≤ most ∨ (f = 2 ∨ f = 3 ∨ f = 5)) := by
  rcases tpairS_kinds l most with ⟨k, v, y, h⟩ | ⟨e, h, he⟩
  · exact ⟨k, v, y, 0, h, .inl ⟨rfl, tpairS_only l most k v y h⟩⟩
  · exact ⟨[], [], [], e, h, .inr he⟩
theorem pairNil (k v : ByteArray) (w : World) (hk : k.size ≤ 100000) (hv : v.size ≤ 100000) :
    Calls Try.prog 25 #[.slice none 0 0, .agg #[.string k, .string v]] w (RetB w.heap.size w (fr k ++ fr v)) :=
  pair_c none 0 0 [] k v w (Rb.nil _ _) (by omega) hk hv

set_option maxRecDepth 100000 in
set_option maxHeartbeats 4000000 in
theorem varintOnly_short (A : Option Addr) (n c : Nat) (l : List UInt8) (w : World) (hr : Rb w w.heap.size A n c l) (hn : n ≤ 3000) :
    Calls Try.prog 7 #[.slice A n c] w fun e w' => e = .returned (.bool true) ∧ Below w.heap.size w w' := by
  have hl := hr.len
  have hm : I64 3000 := by unfold I64; omega
  obtain ⟨a, x, er, ht, hcase1⟩ := takeS_all l
  obtain ⟨k, v, y, f, hp, hcase2⟩ := tpairS_all l 3000
  have Hr := Lib.hid hr; have Hl := Lib.hid hl; have Ht := Lib.hid ht; have Hp := Lib.hid hp; have Hm := Lib.hid hm; have C1 := Lib.hid hcase1; have C2 := Lib.hid hcase2; clear hr hl ht hp hm hcase1 hcase2
  go_enter Try.func7, Try.ntmps7
  go_wp2_with fail
  refine (takeLit _ A n c l x a er Hr.out (by omega) Ht.out).mono ?_
  rintro e w1 ⟨A1, c1, rfl, hown1, hb1⟩
  have hz1 := hb1.size
  go_wp2_with fail
  refine (takePairLit _ A n c l 3000 k v y f ((Hr.out.below hb1).more hz1) (by omega) Hm.out Hp.out).mono ?_
  rintro e w2 ⟨A2, c2, rfl, hown2, hb2⟩
  have hz2 := hb2.size
  have hb02 := hb1.trans (hb2.mono hz1)
  have hown1' := hown1.keep hb2
  clear hown1
  go_upto_region 5 with fail
  obtain ⟨W, hW⟩ : ∃ W, W = w2.alloc (.cells #[.string ⟨k.toArray⟩, .string ⟨v.toArray⟩] 35) := ⟨_, rfl⟩
  rw [← hW]
  have hbW : Below w2.heap.size w2 W := by rw [hW]; exact (Below.refl _ _).alloc (Nat.le_refl _) _
  have hszW : w2.heap.size < W.heap.size := by rw [hW]; simp
  have hbox0 : W.cell? ⟨w2.heap.size, 0, none⟩ = some (.string ⟨k.toArray⟩) := by rw [hW]; simp
  have hbox1 : W.cell? ⟨w2.heap.size, 1, none⟩ = some (.string ⟨v.toArray⟩) := by rw [hW]; simp
  clear hW
  have HownX := Lib.hid (hown1'.keep hbW); have HownY := Lib.hid (hown2.keep hbW)
  have HrW := Lib.hid (((Hr.out.below hb02).more (Nat.le_trans hz1 hz2)).below hbW |>.more hbW.size)
  have Hb0W := Lib.hid (hb02.trans (hbW.mono (Nat.le_trans hz1 hz2)))
  have Hz := Lib.hid (Nat.le_trans hz1 (Nat.le_trans hz2 hbW.size))
  have HB0 := Lib.hid hbox0; have HB1 := Lib.hid hbox1
  clear hown1' hown2 hbW hb02 hb1 hb2 hz1 hz2 Ht Hp Hm hbox0 hbox1
  go_cut [36] (fun s36 wx => s36 = .bool false ∧ Below W.heap.size W wx)
  case first =>
    rcases C1.out with ⟨rfl, ha, hax⟩ | he1
    · have hxl : x.length ≤ 3000 ∧ (Vm.vb a).length ≤ 3000 := by have := congrArg List.length hax; rw [List.length_append, Hl.out] at this; omega
      obtain ⟨hxl, hal⟩ := hxl
      have hbq : (Vm.vb a ++ x == l) = true := by simp [hax]
      have Ha := Lib.hid ha; clear ha hax C1 C2
      have cv0 : (convert 22 9 (.slice A n c)).run Try.prog W.drew = .ok (.string ⟨l.toArray⟩) W.drew := bty.conv (HrW.out.drewN 1)
      go_region_law (first | (go_simp; go_at_call 10; (with_reducible refine (putNil a _ Ha.out).mono ?_); rintro e w3 ⟨A3, c3, rfl, hown3, hb3⟩; have hb3' : Below W.heap.size W w3 := ⟨hb3.os, hb3.tape, hb3.output, hb3.size, hb3.block⟩; have hz3 := hb3'.size; have cv3 : (convert 22 9 (.slice A n c)).run Try.prog w3 = .ok (.string ⟨l.toArray⟩) w3 := bty.conv (HrW.out.below hb3')) | (simp only [Act.put, List.setIfInBounds_toArray, List.set_cons_zero, List.set_cons_succ]; rw [if_pos (by rfl)]; refine bty.opApp (.tmp 29) (.tmp 30) rfl (l := Vm.vb a) (r := x) rfl rfl rfl hown3 (HownX.out.keep hb3').rb ?_ hz3 ?_; omega; intro A4 c4 w4 hown4 hb4; have hb4' := hb3'.trans hb4; have cv4 : (convert 22 9 (.slice A n c)).run Try.prog w4 = .ok (.string ⟨l.toArray⟩) w4 := bty.conv (HrW.out.below hb4'); have cv5 : (convert 22 9 (.slice A4 ((Vm.vb a).length + x.length) c4)).run Try.prog w4 = .ok (.string ⟨(Vm.vb a ++ x).toArray⟩) w4 := bty.conv (rb_len hown4.rb (List.length_append).symm)))
      all_goals (go_wp2_with fail; go_meet; exact ⟨rfl, hb4'⟩)
    · clear C1 C2
      have hd : ((er : Int) == 0) = false := by simp; omega
      go_quiet (fail)
      go_wp2_with fail
      go_meet
      exact ⟨rfl, ⟨rfl, rfl, rfl, Nat.le_refl _, fun _ _ => rfl⟩⟩
  case rest =>
    obtain ⟨rfl, hbc⟩ := hcut
    clear C1
    have hbcz := hbc.size
    have HrC := Lib.hid ((HrW.out.below hbc).more hbcz); have HownC := Lib.hid (HownY.out.keep hbc)
    have HB0c := Lib.hid ((hbc.cell (p := ⟨w2.heap.size, 0, none⟩) hszW).trans HB0.out); have HB1c := Lib.hid ((hbc.cell (p := ⟨w2.heap.size, 1, none⟩) hszW).trans HB1.out)
    have Hb0c := Lib.hid (Hb0W.out.trans (hbc.mono Hz.out)); have Hzc := Lib.hid (Nat.le_trans Hz.out hbcz); have Hsz := Lib.hid (Nat.lt_of_lt_of_le hszW hbcz)
    clear hbc hbcz HB0 HB1 HownX HownY HrW Hb0W Hz hszW
    go_wp2
    rcases C2.out with ⟨rfl, hkv, hk, hv⟩ | hf
    · have hyl : y.length ≤ 3000 ∧ (fr ⟨k.toArray⟩).length + (fr ⟨v.toArray⟩).length ≤ 3000 := by
        have := congrArg List.length hkv; rw [List.length_append, List.length_append, Hl.out] at this; omega
      obtain ⟨hyl, hkl⟩ := hyl
      have hk' : (⟨k.toArray⟩ : ByteArray).size ≤ 100000 := by rw [toList_size]; omega
      have hv' : (⟨v.toArray⟩ : ByteArray).size ≤ 100000 := by rw [toList_size]; omega
      obtain ⟨K, hK⟩ : ∃ K : ByteArray, K = ⟨k.toArray⟩ := ⟨_, rfl⟩
      obtain ⟨V, hV⟩ : ∃ V : ByteArray, V = ⟨v.toArray⟩ := ⟨_, rfl⟩
      rw [← hK, ← hV] at hkl hkv
      rw [← hK] at hk'
      rw [← hV] at hv'
      have HB0d := HB0c.out; have HB1d := HB1c.out
      rw [← hK] at HB0d
      rw [← hV] at HB1d
      have HD0 := Lib.hid HB0d; have HD1 := Lib.hid HB1d
      obtain ⟨Q, hQ⟩ : ∃ Q, Q = fr K ++ fr V := ⟨_, rfl⟩
      have hQl : Q.length ≤ 3000 := by rw [hQ, List.length_append]; exact hkl
      rw [← hQ] at hkv
      have hbq : (Q ++ y == l) = true := by simp [hkv]
      have pn : ∀ W, Calls Try.prog 25 #[.slice none 0 0, .agg #[.string K, .string V]] W (RetB W.heap.size W Q) := fun W => by rw [hQ]; exact pairNil K V W hk' hv'
      have PN := Lib.hid pn
      clear hkv hk hv hkl hk' hv' pn hQ HB0d HB1d HB0c HB1c hK hV C2
      go_region_law (first | (go_simp; go_at_call 9; (with_reducible refine (alive_c _).mono ?_); rintro e w5 ⟨rfl, hb5⟩; have hb5' : Below wc.heap.size wc w5 := ⟨hb5.os, hb5.tape, hb5.output, hb5.size, hb5.block⟩; have hz5 := hb5'.size; have d0 : w5.cell? ⟨w2.heap.size, 0, none⟩ = some (.string K) := (hb5'.cell Hsz.out).trans HD0.out; have d1 : w5.cell? ⟨w2.heap.size, 1, none⟩ = some (.string V) := (hb5'.cell Hsz.out).trans HD1.out; have cv6 : (convert 22 9 (.slice A n c)).run Try.prog w5 = .ok (.string ⟨l.toArray⟩) w5 := bty.conv (HrC.out.below hb5')) | (go_simp; go_at_call 25; (with_reducible refine (PN.out _).mono ?_); rintro e w6 ⟨A6, c6, rfl, hown6, hb6⟩; have hb6' := hb5'.trans (hb6.mono hz5); have hz6 := hb6.size; have cv7 : (convert 22 9 (.slice A n c)).run Try.prog w6 = .ok (.string ⟨l.toArray⟩) w6 := bty.conv (HrC.out.below hb6')) | (simp only [Act.put, List.setIfInBounds_toArray, List.set_cons_zero, List.set_cons_succ]; rw [if_pos (by rfl)]; refine bty.opApp (.tmp 43) (.tmp 44) rfl (l := Q) (r := y) rfl rfl rfl hown6 (HownC.out.keep hb6').rb ?_ hz6 ?_; omega; intro A7 c7 w7 hown7 hb7; have hb7' := hb6'.trans (hb7.mono hz5); have cv8 : (convert 22 9 (.slice A n c)).run Try.prog w7 = .ok (.string ⟨l.toArray⟩) w7 := bty.conv (HrC.out.below hb7'); have cv9 : (convert 22 9 (.slice A7 (Q.length + y.length) c7)).run Try.prog w7 = .ok (.string ⟨(Q ++ y).toArray⟩) w7 := bty.conv (rb_len hown7.rb (List.length_append).symm)))
      all_goals
        go_wp2
        go_ret
        exact ⟨rfl, Hb0c.out.trans (hb7'.mono Hzc.out)⟩
    · clear C2
      have hf1 : 2 ≤ f := by omega
      clear hf
      have t1 : ((f : Int) != 0) = true := by simp; omega
      have t2 : ((f : Int) == 0) = false := by simp; omega
      refine wp_region_head_quiet (by kernel_rfl) (by kernel_rfl) (by kernel_rfl) (by kernel_rfl) rfl (fun K hK => ?_)
      go_simp
      go_at_call 9
      with_reducible refine (alive_c _).mono ?_
      rintro e w5 ⟨rfl, hb5⟩
      have hb5' : Below wc.heap.size wc w5 := ⟨hb5.os, hb5.tape, hb5.output, hb5.size, hb5.block⟩
      refine hK _ _ ?_
      clear hK K
      repeat (go_big_quiet_step (fail))
      refine wpQuiet_nil ?_
      intro _ hw'
      obtain ⟨nq, hw''⟩ := hw'
      subst hw''
      go_wp2
      go_ret
      exact ⟨by simp, Hb0c.out.trans ((below_drawn hb5' nq).mono Hzc.out)⟩

theorem varintOnly_walk (A : Option Addr) (n c : Nat) (l : List UInt8) (w : World) (hr : Rb w w.heap.size A n c l) :
    Calls Try.prog 7 #[.slice A n c] w fun e w' => e = .returned (.bool true) ∧ Below w.heap.size w w' := by
  by_cases h : 3000 < n
  · exact varintOnly_long A n c w h (Nat.le_trans hr.2.1 hr.2.2.1)
  · exact varintOnly_short A n c l w hr (by omega)
end Go.Proofs.Ytcmagegcolcalaa
