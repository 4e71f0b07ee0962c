/-
  The walk of the law VarintBack.
-/
import Derived.Test.YtcmagegcolcalaaVa
import Derived.Test.YtcmagegcolcalaaVsz
import Derived.Deep.RegionHeld3
import Derived.Deep.DeepCutAuto
import Derived.Laws.StructEq
namespace Go.Proofs.Ytcmagegcolcalaa
open Go.RowKit

theorem takeS_back (N : Nat) (r : List UInt8) (h : N < 18446744073709551616) : takeS (Vm.vb N ++ r) = (N, r, 0) := by
  rw [takeS_ok _ _ _ (Vm.tk_back N r h), List.drop_left]
theorem frameS_back (s : ByteArray) (r : List UInt8) (most : Int) (h : (s.size : Int) ≤ most) (hs : s.size ≤ 100000) : frameS (fr s ++ r) most = (s.data.toList, (fr s).length, 0) := by
  have e1 : fr s ++ r = Vm.vb s.size ++ (s.data.toList ++ r) := by unfold fr; rw [List.append_assoc]
  have hsz : s.data.toList.length = s.size := by rw [Array.length_toList]; rfl
  have ht := Vm.tk_back s.size (s.data.toList ++ r) (by omega)
  rw [e1, frameS_ok _ most s.size (Vm.vb s.size).length ht (by omega) (by simp only [List.length_append, hsz]; omega)]
  have e2 : (Vm.vb s.size ++ (s.data.toList ++ r)).take ((Vm.vb s.size).length + s.size) = Vm.vb s.size ++ s.data.toList := by
    rw [← List.append_assoc]
    exact List.take_left' (by rw [List.length_append, hsz])
  rw [e2, List.drop_left, fr_len]
theorem tpairS_back (k v : ByteArray) (r : List UInt8) (most : Int) (hk : (k.size : Int) ≤ most) (hv : (v.size : Int) ≤ most) (hk' : k.size ≤ 100000) (hv' : v.size ≤ 100000) :
    tpairS ((fr k ++ fr v) ++ r) most = ((k.data.toList, v.data.toList), r, 0) := by
  have h1 := frameS_back k (fr v ++ r) most hk hk'
  rw [List.append_assoc]
  rw [tpairS_ok _ most _ _ _ _ h1 (by rw [List.drop_left]; exact frameS_back v r most hv hv'), ← List.append_assoc, List.drop_left' (by rw [List.length_append])]

set_option maxRecDepth 100000 in
theorem varintBack_long (A : Option Addr) (n c : Nat) (a : Int) (k v : ByteArray) (w : World) (hm : n ≤ maxLen) (hk : k.size ≤ maxLen) (hv : v.size ≤ maxLen) (h : 3000 < n ∨ 3000 < k.size ∨ 3000 < v.size) :
    Calls Try.prog 6 #[.slice A n c, .int .u64 a, .agg #[.string k, .string v]] w fun e w' => e = .returned (.bool true) ∧ Below w.heap.size w w' := by
  unfold maxLen at hm hk hv
  by_cases h1 : 3000 < n
  · have hd : decide ((3000 : Int) < (n : Int)) = true := by simp; omega
    clear h
    go_enter Try.func6, Try.ntmps6
    go_wp2_with fail
    refine (alive_c _).mono ?_
    rintro e w2 ⟨rfl, hb2⟩
    go_wp2
    go_ret
    exact ⟨rfl, ((Below.refl _ _).alloc (Nat.le_refl _) _).trans (hb2.mono (by simp))⟩
  · have hd : decide ((3000 : Int) < (n : Int)) = false := by simp; omega
    by_cases h2 : 3000 < k.size
    · have hd2 : decide ((3000 : Int) < (k.size : Int)) = true := by simp; omega
      clear h
      go_enter Try.func6, Try.ntmps6
      go_wp2_with fail
      refine (alive_c _).mono ?_
      rintro e w2 ⟨rfl, hb2⟩
      go_wp2
      go_ret
      exact ⟨rfl, ((Below.refl _ _).alloc (Nat.le_refl _) _).trans (hb2.mono (by simp))⟩
    · have h3 : 3000 < v.size := by omega
      have hd2 : decide ((3000 : Int) < (k.size : Int)) = false := by simp; omega
      have hd3 : decide ((3000 : Int) < (v.size : Int)) = true := by simp; omega
      clear h
      go_enter Try.func6, Try.ntmps6
      go_wp2_with fail
      refine (alive_c _).mono ?_
      rintro e w2 ⟨rfl, hb2⟩
      go_wp2
      go_ret
      exact ⟨rfl, ((Below.refl _ _).alloc (Nat.le_refl _) _).trans (hb2.mono (by simp))⟩

def CutB (e : TypeId) (W : World) (X : List UInt8) (s : Value) (wx : World) : Prop :=
  ∃ A c, s = .slice A X.length c ∧ Own wx e W.heap.size A c X ∧ Below W.heap.size W wx

set_option maxRecDepth 100000 in
set_option maxHeartbeats 4000000 in
theorem varintBack_short (A : Option Addr) (n c : Nat) (l : List UInt8) (N : Nat) (k v : ByteArray) (w : World) (hr : Rb w w.heap.size A n c l) (hn : n ≤ 3000) (hN : N < 18446744073709551616) (hk : k.size ≤ 3000) (hv : v.size ≤ 3000) :
    Calls Try.prog 6 #[.slice A n c, .int .u64 (N : Int), .agg #[.string k, .string v]] w fun e w' => e = .returned (.bool true) ∧ Below w.heap.size w w' := by
  have hlen : (Vm.vb N).length ≤ 10 := by
    have e : (128 : Nat) ^ (9 + 1) = 1180591620717411303424 := by decide +kernel
    exact Vm.vb_len_le 9 N (by omega)
  have hl := hr.len
  have hU : U64 (N : Int) := by unfold U64; omega
  have hm : I64 3000 := by unfold I64; omega
  obtain ⟨F, hF⟩ : ∃ F, F = fr k ++ fr v := ⟨_, rfl⟩
  have hFl : F.length ≤ 6010 := by
    have := vb_small k.size (by omega); have := vb_small v.size (by omega)
    rw [hF, List.length_append, fr_len, fr_len]; omega
  have t1 := takeS_back N (F ++ l) hN
  have t2 := tpairS_back k v l 3000 (by omega) (by omega) (by omega) (by omega)
  rw [← hF] at t2
  have pr : ∀ (W : World) (A1 : Option Addr) (n1 c1 : Nat) (l1 : List UInt8), Rb W W.heap.size A1 n1 c1 l1 → n1 ≤ 500000 → Calls Try.prog 25 #[.slice A1 n1 c1, .agg #[.string k, .string v]] W (RetB W.heap.size W (l1 ++ F)) := fun W A1 n1 c1 l1 h1 h2 => by
    rw [hF]; exact pair_c A1 n1 c1 l1 k v W h1 h2 (by omega) (by omega)
  have Hr := Lib.hid hr; have Hl := Lib.hid hl; have HN := Lib.hid hN; have HU := Lib.hid hU; have Hm := Lib.hid hm; have T1 := Lib.hid t1; have T2 := Lib.hid t2; have PR := Lib.hid pr; clear hr hl hN hU hm t1 t2 pr hF
  go_enter Try.func6, Try.ntmps6
  go_upto_region 3 with fail
  obtain ⟨W, hW⟩ : ∃ W, W = w.alloc (.cells #[.string k, .string v] 35) := ⟨_, rfl⟩
  rw [← hW]
  have hbW : Below w.heap.size w W := by rw [hW]; exact (Below.refl _ _).alloc (Nat.le_refl _) _
  have hszW : w.heap.size < W.heap.size := by rw [hW]; simp
  have hbox0 : W.cell? ⟨w.heap.size, 0, none⟩ = some (.string k) := by rw [hW]; simp
  have hbox1 : W.cell? ⟨w.heap.size, 1, none⟩ = some (.string v) := by rw [hW]; simp
  clear hW
  have HrW := Lib.hid ((Hr.out.below hbW).more hbW.size)
  go_cut [7] (fun s7 wx => CutB 5 W (Vm.vb N ++ F ++ l) s7 wx)
  case first =>
    go_region_held3 (fun w' => w'.cell? ⟨w.heap.size, 0, none⟩ = some (.string k) ∧ w'.cell? ⟨w.heap.size, 1, none⟩ = some (.string v)) (go_keep) (first | (go_at_call 10; (with_reducible refine (putNil N _ HN.out).mono ?_); rintro e w3 ⟨A3, c3, rfl, hown3, hb3⟩; have hb3' : Below W.heap.size W w3 := ⟨hb3.os, hb3.tape, hb3.output, hb3.size, hb3.block⟩; have hz3 := hb3'.size; have d0 : w3.cell? ⟨w.heap.size, 0, none⟩ = some (.string k) := (hb3'.cell hszW).trans hbox0; have d1 : w3.cell? ⟨w.heap.size, 1, none⟩ = some (.string v) := (hb3'.cell hszW).trans hbox1) | (go_at_call 25; (with_reducible refine (PR.out _ A3 _ c3 (Vm.vb N) ?_ ?_).mono ?_); exact hown3.rb; omega; rintro e w4 ⟨A4, c4, rfl, hown4, hb4⟩; have hb4' := hb3'.trans (hb4.mono hz3); have hz4 := hb4.size; have f0 : w4.cell? ⟨w.heap.size, 0, none⟩ = some (.string k) := (hb4'.cell hszW).trans hbox0; have f1 : w4.cell? ⟨w.heap.size, 1, none⟩ = some (.string v) := (hb4'.cell hszW).trans hbox1) | (rw [if_pos (by rfl)]; refine bty.opApp (.tmp 33) (.tmp 34) rfl (l := Vm.vb N ++ F) (r := l) (by simp) rfl rfl hown4 (HrW.out.below hb4') ?_ hz4 ?_; (rw [List.length_append, Hl.out]; omega); intro A5 c5 w5 hown5 hb5; have hb5' := hb4'.trans (hb5.mono hz3); have g0 : w5.cell? ⟨w.heap.size, 0, none⟩ = some (.string k) := (hb5'.cell hszW).trans hbox0; have g1 : w5.cell? ⟨w.heap.size, 1, none⟩ = some (.string v) := (hb5'.cell hszW).trans hbox1))
    all_goals (go_wp2_with fail; go_meet; exact ⟨A5, c5, by simp, hown5.mono (Nat.le_trans hz3 (Nat.le_refl _)), hb5'⟩)
  case rest =>
    obtain ⟨A7, c7, rfl, hown7, hb7⟩ := hcut
    have hz7 := hb7.size
    go_wp2_with fail
    refine (takeLit _ A7 _ c7 (Vm.vb N ++ (F ++ l)) (F ++ l) N 0 ?_ ?_ T1.out).mono ?_
    · have h := hown7.rb
      rw [List.append_assoc] at h
      exact rb_len h (by simp; try omega)
    · have := Hl.out; simp; omega
    rintro e w8 ⟨A8, c8, rfl, hown8, hb8⟩
    have hb8' := hb7.trans (hb8.mono hz7)
    have hz8 := hb8.size
    go_wp2_with fail
    refine (takePairLit _ A8 _ c8 (F ++ l) 3000 k.data.toList v.data.toList l 0 (rb_len hown8.rb (by simp)) ?_ Hm.out T2.out).mono ?_
    · have := Hl.out; simp; omega
    rintro e w9 ⟨A9, c9, rfl, hown9, hb9⟩
    have hb9' := hb8'.trans (hb9.mono (Nat.le_trans hz7 hz8))
    have hz9 := hb9.size
    have hzW9 : W.heap.size ≤ w9.heap.size := hb9'.size
    have HOwn9 := Lib.hid hown9
    have Hb9 := Lib.hid hb9'
    clear hown7 hb7 hown8 hb8 hb8' hown9 hb9 hb9'
    have ek : (⟨k.data.toList.toArray⟩ : ByteArray) = k := rfl
    have ev : (⟨v.data.toList.toArray⟩ : ByteArray) = v := rfl
    rw [ek, ev]
    clear ek ev
    go_wp2_with fail
    refine (alive_c _).mono ?_
    rintro e w10 ⟨rfl, hb10⟩
    have q0 : w10.cell? ⟨w9.heap.size, 0, none⟩ = some (.string k) := (hb10.cell (by simp)).trans (by simp)
    have q1 : w10.cell? ⟨w9.heap.size, 1, none⟩ = some (.string v) := (hb10.cell (by simp)).trans (by simp)
    have hb910 : Below w9.heap.size w9 w10 := ((Below.refl _ _).alloc (Nat.le_refl _) _).trans (hb10.mono (by simp))
    have hbW10 : Below W.heap.size W w10 := Hb9.out.trans (hb910.mono hzW9)
    have p0 : w10.cell? ⟨w.heap.size, 0, none⟩ = some (.string k) := (hbW10.cell hszW).trans hbox0
    have p1 : w10.cell? ⟨w.heap.size, 1, none⟩ = some (.string v) := (hbW10.cell hszW).trans hbox1
    have cv1 : (convert 22 9 (.slice A9 l.length c9)).run Try.prog w10 = .ok (.string ⟨l.toArray⟩) w10 := bty.conv (HOwn9.out.keep hb910).rb
    have cv2 : (convert 22 9 (.slice A n c)).run Try.prog w10 = .ok (.string ⟨l.toArray⟩) w10 := bty.conv (HrW.out.below hbW10)
    have hbz := hbW.trans (hbW10.mono (Nat.le_of_lt hszW))
    have Hbz := Lib.hid hbz
    clear hb10 hb910 hbW10 hbz hbW hbox0 hbox1 hzW9
    go_wp2_with fail
    refine (unfold_c (N : Int) _ HU.out).mono ?_
    rintro e w' ⟨rfl, rfl⟩
    go_wp2_with fail
    refine (fold_c (Vm.uf (N : Int)) _ (Vm.uf_range _ HU.out.1 HU.out.2)).mono ?_
    rintro e w' ⟨rfl, rfl⟩
    rw [Vm.fo_uf _ HU.out.1]
    go_wp2_with fail
    refine (fold_c _ _ ?_).mono ?_
    · unfold I64 wrap64; omega
    rintro e w' ⟨rfl, rfl⟩
    go_wp2_with fail
    refine (unfold_c _ _ ?_).mono ?_
    · exact Vm.fo_range _ (by unfold wrap64; omega) (by unfold wrap64; omega)
    rintro e w' ⟨rfl, rfl⟩
    rw [Vm.uf_fo]
    go_wp2
    go_ret
    exact ⟨by simp, Hbz.out⟩

theorem varintBack_walk (A : Option Addr) (n c : Nat) (l : List UInt8) (a : Int) (k v : ByteArray) (w : World) (hr : Rb w w.heap.size A n c l) (ha : U64 a) (hk : k.size ≤ maxLen) (hv : v.size ≤ maxLen) :
    Calls Try.prog 6 #[.slice A n c, .int .u64 a, .agg #[.string k, .string v]] w fun e w' => e = .returned (.bool true) ∧ Below w.heap.size w w' := by
  by_cases h : 3000 < n ∨ 3000 < k.size ∨ 3000 < v.size
  · exact varintBack_long A n c a k v w (Nat.le_trans hr.2.1 hr.2.2.1) hk hv h
  · obtain ⟨N, rfl⟩ := Int.eq_ofNat_of_zero_le ha.1
    exact varintBack_short A n c l N k v w hr (by omega) (by have := ha.2; omega) (by omega) (by omega)
end Go.Proofs.Ytcmagegcolcalaa
