import Derived.Test.YtkekmokdlgocaaaGreatDoorJW17
import Derived.Test.YtkekmokdlgocaaaGreatDoorJW8
set_option maxRecDepth 100000
set_option maxHeartbeats 4000000
namespace Go.Proofs.YtkekmokdlgocaaaGreatDoor.Sq
open Go.RowKit
def Un (T D L : List UInt8) : Prop := Sm.une T = (Sm.une D).map (L ++ ·)
theorem Un.start (T : List UInt8) : Un T T [] := by unfold Un; cases Sm.une T <;> rfl
theorem Un.plain {T D L : List UInt8} {x : UInt8} (h : Un T (x :: D) L) (hx : x ≠ 255) : Un T D (L ++ [x]) := by
 unfold Un at h ⊢
 rw [h, Sm.une_no D hx]
 cases Sm.une D <;> simp
theorem Un.esc {T D L : List UInt8} (h : Un T (255 :: 0 :: D) L) : Un T D (L ++ [255]) := by
 unfold Un at h ⊢
 rw [h, Sm.une_ff]
 cases Sm.une D <;> simp
theorem Un.bad {T D L : List UInt8} {y : UInt8} (h : Un T (255 :: y :: D) L) (hy : y ≠ 0) : Sm.une T = none := by
 unfold Un at h
 rw [h, Sm.une_bad D hy]; rfl
theorem Un.last {T L : List UInt8} (h : Un T [255] L) : Sm.une T = none := by
 unfold Un at h
 rw [h, Sm.une_end]; rfl
theorem Un.done {T L : List UInt8} (h : Un T [] L) : Sm.une T = some L := by
 unfold Un at h
 rw [h, Sm.une]; simp
def unS (l : List UInt8) : List UInt8 × Nat := match Sm.une l with
 | some u => (u, 0)
 | none => ([], 3)
theorem unS_some {l u : List UInt8} (h : Sm.une l = some u) : unS l = (u, 0) := by unfold unS; rw [h]
theorem unS_none {l : List UInt8} (h : Sm.une l = none) : unS l = ([], 3) := by unfold unS; rw [h]
def UnRel (base n : Nat) (w : World) (l : List UInt8) (o i : Value) (wr : World) : Prop :=
 ∃ A c L, ∃ k : Nat, o = .slice A L.length c ∧ i = .int .i64 (k : Int) ∧ k ≤ n ∧ L.length ≤ k ∧ Own wr 5 base A c L ∧ Un l (l.drop k) L ∧ Below base w wr
theorem eq255 {x : UInt8} (h : x ≠ 255) : ((x.toNat : Int) == 255) = false ∧ ((x.toNat : Int) != 255) = true := by
 have h0 : ¬ x.toNat = 255 := fun e => h (UInt8.toNat_inj.1 e)
 have : (x.toNat : Int) ≠ 255 := by omega
 simp [this]
theorem eq0 {x : UInt8} (h : x ≠ 0) : ((x.toNat : Int) != 0) = true ∧ ((x.toNat : Int) == 0) = false := by
 have h0 : ¬ x.toNat = 0 := fun e => h (UInt8.toNat_inj.1 e)
 simp [h0]
theorem unesc_c (A : Option Addr) (n c : Nat) (l : List UInt8) (w : World) (hr : Rb w w.heap.size A n c l) (hn : n ≤ 1000000) :
  Calls Tryz.prog 142 #[.slice A n c] w (RetE w.heap.size w (unS l)) := by
 have hl := hr.len
 obtain ⟨U, hU⟩ : ∃ U, U = unS l := ⟨_, rfl⟩
 rw [← hU]
 have HU := ek hU; clear hU
 have hmk := bty.make w 0 0 (n : Int) n rfl rfl (Nat.zero_le _) (by omega)
 have Hr := ek hr; have Hl := ek hl; clear hr hl
 go_enter Tryz.func142, Tryz.ntmps142
 go_wp2
 go_loopw [4, 5] (fun o i wr => UnRel w.heap.size n w l o i wr) (fun _ i _ => n - (intOf i).toNat)
 case atStart => exact ⟨_, _, [], 0, rfl, rfl, Nat.zero_le _, Nat.le_refl _, by simpa using own_zrow (w.alloc (.cells (zrow n) 5)) 5 w.heap.size 0 n (heap_alloc_new w _) (Nat.zero_le _) (by simp only [maxLen]; omega), Un.start l, ej _ _⟩
 case round =>
  obtain ⟨A1, c1, L, k, rfl, rfl, hk, hLk, hown1, hun, hbel⟩ := hrel
  have z1 := hbel.size
  by_cases hlt : k < n
  ·obtain ⟨b, off, x, rfl, hb, hcx, hx, hd⟩ := (Hr.out.below hbel).at_ hlt
   rw [hd] at hun
   have Hun := ek hun; have Hcx := ek hcx; clear hun hx hd
   by_cases hx255 : x = 255
   ·subst hx255
    have hcx : wr.cell? ⟨b, off + k,none⟩ = some (.int .u8 255) := Hcx.out
    go_wp2_with (at_builtin; go_must (refine bty.wpApp rfl (.tmp 15) (.tmp 20) rfl (l := L) (r := [255]) rfl rfl (hown1.alloc _) (Rb.oneI _ _ _ 255 ?hz) ?hs1 ?hs2 ?_))
    case hz => rfl
    case hs1 => simp; omega
    case hs2 => simp; omega
    intro A2 c2 w2 hown2 hbel2
    have hb02 : Below w.heap.size wr w2 := ((Below.refl _ _).alloc z1 _).trans hbel2
    have hb2 := hbel.trans hb02
    have hcx2 : w2.cell? ⟨b, off + k,none⟩ = some (.int .u8 255) := (hb02.cell (p := ⟨b, off + k,none⟩) hb).trans hcx
    clear hcx Hcx hbel2
    by_cases hend : k + 1 = n
    ·have he : ((k : Int) + 1 == (n : Int)) = true := by simp; omega
     have hno : Sm.une l = none := by
      have h1 := Hun.out
      rw [List.drop_of_length_le (by rw [Hl.out]; omega)] at h1
      exact h1.last
     obtain rfl : U = ([], 3) := by rw [HU.out, unS_none hno]
     clear hno HU
     go_wp2
     go_ret2
     exact ⟨none, 0, rfl, Own.nil _ _ _, hb2⟩
    ·have he : ((k : Int) + 1 == (n : Int)) = false := by rw [beq_eq_false_iff_ne]; omega
     obtain ⟨b', off', y, e, hb', hcy, hy, hd'⟩ := (Hr.out.below hb2).at_ (k := k + 1) (by omega)
     injection e with e
     injection e with e1 e2
     subst e1 e2
     have hcy2 : w2.cell? ⟨b, off + (k + 1),none⟩ = some (.int .u8 (y.toNat : Int)) := hcy
     have h1 := Hun.out
     rw [hd'] at h1
     have H1 := ek h1; clear h1 hd' hy hcy Hun
     by_cases hy0 : y = 0
     ·subst hy0
      have hcy3 : w2.cell? ⟨b, off + (k + 1),none⟩ = some (.int .u8 0) := hcy2
      clear hcy2
      go_wp2
      go_roundw
      case rel => exact ⟨A2, c2, L ++ [255], k + 1 + 1, by simp, by go_num, by omega, by simp; omega, hown2, H1.out.esc, hb2⟩
      case measure => simp [intOf]; omega
     ·obtain ⟨hy1, hy2⟩ := eq0 hy0
      have hno : Sm.une l = none := H1.out.bad hy0
      obtain rfl : U = ([], 3) := by rw [HU.out, unS_none hno]
      clear hno HU
      go_wp2
      go_ret2
      exact ⟨none, 0, rfl, Own.nil _ _ _, hb2⟩
   ·obtain ⟨hx1, hx2⟩ := eq255 hx255
    have hcx : wr.cell? ⟨b, off + k,none⟩ = some (.int .u8 (x.toNat : Int)) := Hcx.out
    go_wp2_with (at_builtin; go_must (refine bty.wpApp rfl (.tmp 15) (.tmp 20) rfl (l := L) (r := [x]) rfl rfl (hown1.alloc _) (Rb.oneI _ _ _ x ?hz) ?hs1 ?hs2 ?_))
    case hz => rfl
    case hs1 => simp; omega
    case hs2 => simp; omega
    intro A2 c2 w2 hown2 hbel2
    have hb02 : Below w.heap.size wr w2 := ((Below.refl _ _).alloc z1 _).trans hbel2
    have hb2 := hbel.trans hb02
    have hcx2 : w2.cell? ⟨b, off + k,none⟩ = some (.int .u8 (x.toNat : Int)) := (hb02.cell (p := ⟨b, off + k,none⟩) hb).trans hcx
    clear hcx Hcx hbel2
    go_wp2
    go_roundw
    case rel => exact ⟨A2, c2, L ++ [x], k + 1, by simp, by go_num, by omega, by simp; omega, hown2, Hun.out.plain hx255, hb2⟩
    case measure => simp [intOf]; omega
  ·have hdone : Sm.une l = some L := by
    rw [List.drop_of_length_le (by rw [Hl.out]; omega)] at hun
    exact hun.done
   obtain rfl : U = (L, 0) := by rw [HU.out, unS_some hdone]
   clear hun hdone HU
   go_wp2
   go_ret2
   exact ⟨A1, c1, rfl, hown1, hbel⟩
theorem runesc_c (A : Option Addr) (n c : Nat) (l : List UInt8) (w : World) (hr : Rb w w.heap.size A n c l) (hn : n ≤ 1000000) :
  Calls Tryz.prog 114 #[.slice A n c] w (RetE w.heap.size w (unS l)) := by
 have hl := hr.len
 obtain ⟨U, hU⟩ : ∃ U, U = unS l := ⟨_, rfl⟩
 rw [← hU]
 have HU := ek hU; clear hU
 have Hr := ek hr; have Hl := ek hl; clear hr hl
 go_enter Tryz.func114, Tryz.ntmps114
 go_wp2
 go_loopw [4, 5] (fun o i wr => UnRel w.heap.size n w l o i wr) (fun _ i _ => n - (intOf i).toNat)
 case atStart => exact ⟨_, _, [], 0, rfl, rfl, Nat.zero_le _, Nat.le_refl _, Own.made0 _ _, Un.start l, ej _ _⟩
 case round =>
  obtain ⟨A1, c1, L, k, rfl, rfl, hk, hLk, hown1, hun, hbel⟩ := hrel
  have z1 := hbel.size
  by_cases hlt : k < n
  ·obtain ⟨b, off, x, rfl, hb, hcx, hx, hd⟩ := (Hr.out.below hbel).at_ hlt
   rw [hd] at hun
   have Hun := ek hun; have Hcx := ek hcx; clear hun hx hd
   by_cases hx255 : x = 255
   ·subst hx255
    have hcx : wr.cell? ⟨b, off + k,none⟩ = some (.int .u8 255) := Hcx.out
    go_wp2_with (at_builtin; go_must (refine bty.wpApp rfl (.tmp 13) (.tmp 18) rfl (l := L) (r := [255]) rfl rfl (hown1.alloc _) (Rb.oneI _ _ _ 255 ?hz) ?hs1 ?hs2 ?_))
    case hz => rfl
    case hs1 => simp; omega
    case hs2 => simp; omega
    intro A2 c2 w2 hown2 hbel2
    have hb02 : Below w.heap.size wr w2 := ((Below.refl _ _).alloc z1 _).trans hbel2
    have hb2 := hbel.trans hb02
    have hcx2 : w2.cell? ⟨b, off + k,none⟩ = some (.int .u8 255) := (hb02.cell (p := ⟨b, off + k,none⟩) hb).trans hcx
    clear hcx Hcx hbel2
    by_cases hend : k + 1 = n
    ·have he : ((k : Int) + 1 == (n : Int)) = true := by simp; omega
     have hno : Sm.une l = none := by
      have h1 := Hun.out
      rw [List.drop_of_length_le (by rw [Hl.out]; omega)] at h1
      exact h1.last
     obtain rfl : U = ([], 3) := by rw [HU.out, unS_none hno]
     clear hno HU
     go_wp2
     go_ret2
     exact ⟨none, 0, rfl, Own.nil _ _ _, hb2⟩
    ·have he : ((k : Int) + 1 == (n : Int)) = false := by rw [beq_eq_false_iff_ne]; omega
     obtain ⟨b', off', y, e, hb', hcy, hy, hd'⟩ := (Hr.out.below hb2).at_ (k := k + 1) (by omega)
     injection e with e
     injection e with e1 e2
     subst e1 e2
     have hcy2 : w2.cell? ⟨b, off + (k + 1),none⟩ = some (.int .u8 (y.toNat : Int)) := hcy
     have h1 := Hun.out
     rw [hd'] at h1
     have H1 := ek h1; clear h1 hd' hy hcy Hun
     by_cases hy0 : y = 0
     ·subst hy0
      have hcy3 : w2.cell? ⟨b, off + (k + 1),none⟩ = some (.int .u8 0) := hcy2
      clear hcy2
      go_wp2
      go_roundw
      case rel => exact ⟨A2, c2, L ++ [255], k + 1 + 1, by simp, by go_num, by omega, by simp; omega, hown2, H1.out.esc, hb2⟩
      case measure => simp [intOf]; omega
     ·obtain ⟨hy1, hy2⟩ := eq0 hy0
      have hno : Sm.une l = none := H1.out.bad hy0
      obtain rfl : U = ([], 3) := by rw [HU.out, unS_none hno]
      clear hno HU
      go_wp2
      go_ret2
      exact ⟨none, 0, rfl, Own.nil _ _ _, hb2⟩
   ·obtain ⟨hx1, hx2⟩ := eq255 hx255
    have hcx : wr.cell? ⟨b, off + k,none⟩ = some (.int .u8 (x.toNat : Int)) := Hcx.out
    go_wp2_with (at_builtin; go_must (refine bty.wpApp rfl (.tmp 13) (.tmp 18) rfl (l := L) (r := [x]) rfl rfl (hown1.alloc _) (Rb.oneI _ _ _ x ?hz) ?hs1 ?hs2 ?_))
    case hz => rfl
    case hs1 => simp; omega
    case hs2 => simp; omega
    intro A2 c2 w2 hown2 hbel2
    have hb02 : Below w.heap.size wr w2 := ((Below.refl _ _).alloc z1 _).trans hbel2
    have hb2 := hbel.trans hb02
    have hcx2 : w2.cell? ⟨b, off + k,none⟩ = some (.int .u8 (x.toNat : Int)) := (hb02.cell (p := ⟨b, off + k,none⟩) hb).trans hcx
    clear hcx Hcx hbel2
    go_wp2
    go_roundw
    case rel => exact ⟨A2, c2, L ++ [x], k + 1, by simp, by go_num, by omega, by simp; omega, hown2, Hun.out.plain hx255, hb2⟩
    case measure => simp [intOf]; omega
  ·have hdone : Sm.une l = some L := by
    rw [List.drop_of_length_le (by rw [Hl.out]; omega)] at hun
    exact hun.done
   obtain rfl : U = (L, 0) := by rw [HU.out, unS_some hdone]
   clear hun hdone HU
   go_wp2
   go_ret2
   exact ⟨A1, c1, rfl, hown1, hbel⟩
end Go.Proofs.YtkekmokdlgocaaaGreatDoor.Sq
