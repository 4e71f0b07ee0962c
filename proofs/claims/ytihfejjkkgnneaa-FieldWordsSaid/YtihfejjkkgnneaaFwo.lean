/-
  The walk of the law FieldWords.
-/
import Derived.Test.YtihfejjkkgnneaaAl
namespace Go.Proofs.Ytihfejjkkgnneaa
open Go.RowKit

theorem spaced_cons (x : List UInt8) (r : List (List UInt8)) : (Fm.spaced (x :: r)).length = x.length + 1 + (Fm.spaced r).length := by
  simp [Fm.spaced]; omega
theorem spaced_len : ∀ (s cur : List UInt8), (Fm.spaced (Fm.wordsGo cur s)).length ≤ cur.length + s.length + 1 ∧ (cur = [] → (Fm.spaced (Fm.wordsGo cur s)).length ≤ s.length + 1)
  | [], cur => by
    rw [Fm.wg_nil]
    split
    · subst cur; simp [Fm.spaced]
    · rw [spaced_cons]; simp [Fm.spaced]; try (intro h; contradiction)
  | c :: r, cur => by
    have i1 := (spaced_len r []).2 rfl
    have i2 := (spaced_len r (cur ++ [c])).1
    rw [List.length_append] at i2
    simp only [List.length_cons, List.length_nil] at i2 ⊢
    rw [Fm.wg_cons]
    split
    · split
      · rename_i hc; subst hc; exact ⟨by simp; omega, fun _ => by omega⟩
      · rename_i hc
        rw [spaced_cons]
        exact ⟨by omega, fun h => absurd h hc⟩
    · exact ⟨by omega, fun h => by subst h; simp at i2 ⊢; omega⟩

/-- An append whose outcome has a name. -/
theorem Sl.wpAppTo {P : Program} {t e : TypeId} {zv : Value} {z y : Nat} (u : Sl P t e zv z y) {w : World} {ops : Array Oper} {rest : List Oper} {o : Oper} {a : Act} {Q : Exit → Act → World → Prop} (hgd : o.guard = none) (p q : Operand)
    (ho : o.op = .call { callee := .builtin .append, args := #[p, q], argTypes := #[t, t] })
    {base n c B m d N : Nat} {A D : Option Addr} {vs us ws : List Value} (hx : a.eval p = .slice A n c) (hy : a.eval q = .slice D m d) (hown : Oc z w e base A n c vs) (hr : Rc z w B D m d us) (h1 : ∀ v ∈ us, v.oneCell' = true)
    (hN : n + m = N) (hvs : vs ++ us = ws) (hsm : N * y ≤ 140737488355328) (hnm : N ≤ 140737488355328) (hbase : base ≤ w.heap.size)
    (h : ∀ A' c' w', Oc z w' e base A' N c' ws → Below base w w' → wpList P ops Q rest (a.put o.dst (.slice A' N c')) w') : wpList P ops Q (o :: rest) a w := by
  subst hN hvs
  exact u.wpApp hgd p q ho hx hy hown hr h1 hsm hnm hbase fun A' c' w' h2 h3 _ => h A' c' w' h2 h3
/-- field.Words, its outcome under a name. -/
theorem words_n (s : ByteArray) (L : List (List UInt8)) (w : World) (hs : s.size ≤ 100000) (hL : Fm.words s.data.toList = L) :
    Calls Try.prog 22 #[.string s] w (RetW w.heap.size w L) := by
  subst hL
  exact words_c s w hs

theorem spaced_take (L : List (List UInt8)) (k : Nat) : (Fm.spaced (L.take k)).length ≤ (Fm.spaced L).length := by
  have h := congrArg (fun x => (Fm.spaced x).length) (List.take_append_drop k L)
  simp only [Fm.spaced_app, List.length_append] at h
  omega
theorem spaced_snoc (L : List (List UInt8)) (k : Nat) (x : List UInt8) (h : L[k]? = some x) : Fm.spaced (L.take (k + 1)) = Fm.spaced (L.take k) ++ x ++ [32] := by
  rw [List.take_add_one, h, Fm.spaced_app]
  simp [Fm.spaced]

def SpRel (L : List (List UInt8)) (g i : Value) : Prop := ∃ k : Nat, i = .int .i64 (k : Int) ∧ k ≤ L.length ∧ (∃ G : ByteArray, g = .string G ∧ G.data.toList = Fm.spaced (L.take k))
def InRel (n : Nat) (i : Value) : Prop := ∃ k : Nat, i = .int .i64 (k : Int) ∧ k ≤ n

set_option maxRecDepth 100000 in
theorem fieldWords_long (s t : ByteArray) (w : World) (hs : s.size ≤ 140737488355328) (ht : t.size ≤ 140737488355328) (hbig : 4000 < s.size + t.size) :
    Calls Try.prog 7 #[.string s, .string t] w fun e w' => e = .returned (.bool true) ∧ Below w.heap.size w w' := by
  have hb : (4000 : Int) < (s.size : Int) + (t.size : Int) := by omega
  clear hbig
  go_enter Try.func7, Try.ntmps7
  go_wp2_with fail
  refine (alive_c _).mono ?_
  rintro e w2 ⟨rfl, hb2⟩
  go_wp2
  go_ret
  exact ⟨rfl, hb2⟩

set_option maxRecDepth 100000 in
set_option maxHeartbeats 2000000 in
theorem fieldWords_short (s t : ByteArray) (w : World) (hbig : s.size + t.size ≤ 4000) :
    Calls Try.prog 7 #[.string s, .string t] w fun e w' => e = .returned (.bool true) ∧ Below w.heap.size w w' := by
  have hb : ¬ (4000 : Int) < (s.size : Int) + (t.size : Int) := by omega
  obtain ⟨L, hL⟩ : ∃ L, L = Fm.words s.data.toList := ⟨_, rfl⟩
  have c1 : ∀ W, Calls Try.prog 22 #[.string s] W (RetW W.heap.size W L) := fun W => by rw [hL]; exact words_c s W (by omega)
  have hLl : L.length ≤ 4000 := by
    rw [hL]
    have := words_len s.data.toList
    rw [str_len] at this
    omega
  have hw : ∀ x ∈ L, Fm.Word x := by rw [hL]; exact Fm.words_mem _
  have hsp : (Fm.spaced L).length ≤ 4001 := by
    rw [hL]
    have := (spaced_len s.data.toList []).2 rfl
    rw [str_len] at this
    unfold Fm.words
    omega
  obtain ⟨L2, hL2⟩ : ∃ L2, L2 = Fm.words t.data.toList := ⟨_, rfl⟩
  have hL2l : L2.length ≤ 4000 := by
    rw [hL2]
    have := words_len t.data.toList
    rw [str_len] at this
    omega
  have hboth : Fm.words (s ++ ⟨#[32]⟩ ++ t).data.toList = L ++ L2 := by
    have e : (s ++ ⟨#[32]⟩ ++ t : ByteArray).data.toList = s.data.toList ++ 32 :: t.data.toList := by simp
    rw [e, hL, hL2]
    exact Fm.words_app 32 rfl _ _
  have hbs : (s ++ ⟨#[32]⟩ ++ t : ByteArray).size ≤ 100000 := by
    rw [← str_len]
    have e : (s ++ ⟨#[32]⟩ ++ t : ByteArray).data.toList = s.data.toList ++ 32 :: t.data.toList := by simp
    rw [e, List.length_append, List.length_cons, str_len, str_len]
    omega
  have hss : s.size ≤ 4000 := by omega
  have hts : t.size ≤ 4000 := by omega
  obtain ⟨LB, hLB⟩ : ∃ LB, L ++ L2 = LB := ⟨_, rfl⟩
  rw [hLB] at hboth
  have hLBn : L.length + L2.length = LB.length := by rw [← hLB, List.length_append]
  have C1 := Lib.hid c1; have Hw := Lib.hid hw; have HL2 := Lib.hid hL2; have Hboth := Lib.hid hboth; have HLB := Lib.hid hLB; have HLBn := Lib.hid hLBn; have Hbs := Lib.hid hbs; have Hsp := Lib.hid hsp; clear c1 hL hw hL2 hboth hLB hLBn hbs hsp
  go_enter Try.func7, Try.ntmps7
  go_wp2_with fail
  refine (C1.out _).mono ?_
  rintro e w1 ⟨A1, c1, rfl, hown1, b1⟩
  have r1 := hown1.rc
  have R1 := Lib.hid r1; have Hown1 := Lib.hid hown1; clear r1 hown1
  go_wp2
  go_loop [6, 7] (fun g i => SpRel L g i) (fun _ i => L.length - (intOf i).toNat)
  case atStart => exact ⟨0, rfl, Nat.zero_le _, _, rfl, by simp [Fm.spaced]⟩
  case round =>
    obtain ⟨k, rfl, hk, G, rfl, hG⟩ := hrel
    have hGs : G.size ≤ 4001 := by
      rw [← str_len, hG]
      have := spaced_take L k
      have := Hsp.out
      omega
    have HG := Lib.hid hG; clear hG
    by_cases hlt : k < L.length
    · obtain ⟨b, off, x, rfl, hbB, hcell, hx, _⟩ := lvs_at R1.out hlt
      have hword := Hw.out x (List.mem_of_getElem? hx)
      have hnext := spaced_snoc L k x hx
      have hxl : x.length ≤ 4001 := by
        have h1 := congrArg List.length hnext
        rw [List.length_append, List.length_append] at h1
        have := spaced_take L (k + 1)
        have := Hsp.out
        omega
      obtain ⟨X, hX⟩ : ∃ X : ByteArray, X = ⟨x.toArray⟩ := ⟨_, rfl⟩
      have hXx : X.data.toList = x := by rw [hX]
      have hXs : X.size ≤ 4001 := by rw [← str_len, hXx]; exact hxl
      rw [← hX] at hcell
      have hne : X.data.toList ≠ [] := by rw [hXx]; exact hword.1
      have hnb2 : X.toList.isEmpty = false := by
        have h1 := hword.1
        rw [hX]
        cases x with
        | nil => exact absurd rfl h1
        | cons c r => simp
      have hpos : 0 < X.size := by rw [← str_len]; exact List.length_pos_iff.2 hne
      have hbl : ∀ j (hj : j < X.size), Fm.blank X[j] = false := fun j hj => by
        refine hword.2 _ ?_
        rw [← hXx]
        have : X[j] = X.data.toList[j]'(by rw [str_len]; exact hj) := rfl
        rw [this]
        exact List.getElem_mem _
      have hnx : (G ++ X ++ ⟨#[32]⟩ : ByteArray).data.toList = Fm.spaced (L.take (k + 1)) := by
        rw [hnext, ← HG.out, ← hXx]
        simp
      have Hbl := Lib.hid hbl; have Hnx := Lib.hid hnx; clear hword hx hbl hnext hX hXx hnx hxl
      go_wp2
      go_loop [8] (fun i => InRel X.size i) (fun i => X.size - (intOf i).toNat)
      case atStart => exact ⟨0, rfl, Nat.zero_le _⟩
      case round =>
        obtain ⟨j, rfl, hj⟩ := hrel
        by_cases hj2 : j < X.size
        · obtain ⟨n32, n9, n10, n13⟩ := blank_not (Hbl.out j hj2)
          have b32 : ((X[j].toNat : Int) == 32) = false := u8_ne (y := 32) n32
          have b9 : ((X[j].toNat : Int) == 9) = false := u8_ne (y := 9) n9
          have b10 : ((X[j].toNat : Int) == 10) = false := u8_ne (y := 10) n10
          have b13 : ((X[j].toNat : Int) == 13) = false := u8_ne (y := 13) n13
          clear n32 n9 n10 n13
          go_wp2
          go_round
          case rel => exact ⟨j + 1, by go_num, by omega⟩
          case measure => simp [intOf]; omega
        · go_wp2
          go_round
          case rel => exact ⟨k + 1, by go_num, by omega, _, rfl, Hnx.out⟩
          case measure => simp [intOf]; omega
    · have hGw : Fm.words G.data.toList = L := by
        rw [HG.out, List.take_of_length_le (by omega)]
        exact Fm.words_spaced L Hw.out
      have HGw := Lib.hid hGw; clear hGw
      have z1 := b1.size
      go_wp2_with (at_builtin; go_must (refine Sl.wpAppTo sty rfl (.tmp 80) (.tmp 81) rfl (n := 0) (m := L.length) (N := L.length) (ws := lvs L) rfl rfl (Oc.made0 1 w1 _) (R1.out.alloc (Nat.le_refl _) _) (lvs_one L) ?hs1 ?hs2 ?hs3 ?hs4 ?hs5 ?_))
      case hs3 => omega
      case hs4 => omega
      intro A2 c2 w2 hown2 bl2
      have b2 : Below w1.heap.size w1 w2 := ((Below.refl _ _).alloc (Nat.le_refl _) _).trans bl2
      have z2 := b2.size
      have Hown2 := Lib.hid hown2; clear hown2 bl2
      go_wp2_with fail
      refine (words_n t L2 _ (by omega) HL2.out.symm).mono ?_
      rintro e w3 ⟨A3, c3, rfl, hown3, b3⟩
      have z3 := b3.size
      have r3 := hown3.rc
      have R3 := Lib.hid r3; clear hown3 r3
      go_wp2_with (at_builtin; go_must (refine Sl.wpAppTo sty rfl (.tmp 82) (.tmp 84) rfl (n := L.length) (m := L2.length) (N := LB.length) (ws := lvs LB) rfl rfl (Hown2.out.keep b3) R3.out (lvs_one L2) HLBn.out ?hs6 ?hs7 ?hs8 ?hs9 ?_))
      case hs6 => rw [← HLB.out, lvs_append]
      case hs7 => have := HLBn.out; omega
      case hs8 => have := HLBn.out; omega
      case hs9 => omega
      intro A4 c4 w4 hown4 bl4
      have r4 := hown4.rc
      have R4 := Lib.hid r4; clear hown4 r4
      have z4 := bl4.size
      have b14 : Below w1.heap.size w1 w4 := (b2.trans (b3.mono z2)).trans bl4
      go_wp2_with fail
      refine (alive_c _).mono ?_
      rintro e w5 ⟨rfl, b5⟩
      have z5 := b5.size
      go_wp2_with fail
      refine (words_n G L _ (by omega) HGw.out).mono ?_
      rintro e w6 ⟨A6, c6, rfl, hown6, b6⟩
      have z6 := b6.size
      have r6 := hown6.rc
      have b16 : Below w1.heap.size w1 w6 := (b14.trans (b5.mono (by omega))).trans (b6.mono (by omega))
      have r1 := R1.out.below b16
      have R6 := Lib.hid r6; have R16 := Lib.hid r1; clear hown6 r6 r1
      go_wp2_with fail
      refine (strings_c A6 A1 L.length c6 c1 _ _ L _ R6.out R16.out (by omega)).mono ?_
      rintro e w7 ⟨rfl, q, rfl⟩
      go_wp2_with fail
      refine (words_n _ LB _ Hbs.out Hboth.out).mono ?_
      rintro e w8 ⟨A8, c8, rfl, hown8, b8⟩
      have r8 := hown8.rc
      have b48 : Below w4.heap.size w4 w8 := ((b5.trans (b6.mono z5)).trans ((below_drewN (Below.refl _ _) q).mono (by omega))).trans (b8.mono (by show w4.heap.size ≤ w6.heap.size; omega))
      have r48 := R4.out.below b48
      have R8 := Lib.hid r8; have R48 := Lib.hid r48; clear hown8 r8 r48
      go_wp2_with fail
      refine (strings_c A8 A4 LB.length c8 c4 _ _ LB _ R8.out R48.out (by have := HLBn.out; omega)).mono ?_
      rintro e w9 ⟨rfl, q2, rfl⟩
      go_wp2
      go_ret
      exact ⟨rfl, below_drewN (b1.trans ((b14.trans (b48.mono (by omega))).mono z1)) q2⟩

theorem fieldWords_walk (s t : ByteArray) (w : World) (hs : s.size ≤ 140737488355328) (ht : t.size ≤ 140737488355328) :
    Calls Try.prog 7 #[.string s, .string t] w fun e w' => e = .returned (.bool true) ∧ Below w.heap.size w w' := by
  by_cases h : 4000 < s.size + t.size
  · exact fieldWords_long s t w hs ht h
  · exact fieldWords_short s t w (by omega)
end Go.Proofs.Ytihfejjkkgnneaa
