/-
  Pieces (are rows alike?).
-/
import Derived.Test.YtpjnkbfjnonkhaaDoorD9
import Derived.BigQuiet
namespace Go.Proofs.YtpjnkbfjnonkhaaDoor
open Go.RowKit

def PieceRel (l : List (Nat × List (List (List UInt8)))) (A A' : Option Addr) (n c c' : Nat) (w : World) (t : Value) (wr : World) : Prop :=
  ∃ k : Nat, t = .int .i64 (k : Int) ∧ k ≤ n ∧ PL wr wr.heap.size A n c l ∧ PL wr wr.heap.size A' n c' l ∧ ∃ q, wr = w.drewN q
theorem RL.drewN {w : World} {B : Nat} {A : Option Addr} {n c : Nat} {l : List (List (List UInt8))} (h : RL w B A n c l) (k : Nat) : RL (w.drewN k) B A n c l := h

set_option maxRecDepth 100000 in
set_option maxHeartbeats 2000000 in
/-- Pieces: rows of the same pieces are alike. -/
theorem pieces_c (A A' : Option Addr) (n c c' : Nat) (l : List (Nat × List (List (List UInt8)))) (w : World) (h1 : PL w w.heap.size A n c l) (h2 : PL w w.heap.size A' n c' l) (hn : n ≤ 1000000) (hz : ∀ p ∈ l, p.2.length ≤ 1000000 ∧ ∀ r ∈ p.2, r.length ≤ 1000000) :
    Calls Tryd.prog 10 #[.slice A n c, .slice A' n c'] w (RetQ w (.bool true)) := by
  have H1 := Lib.hid h1; have H2 := Lib.hid h2; have Hz := Lib.hid hz; clear h1 h2 hz
  go_enter Tryd.func10, Tryd.ntmps10
  go_wp2
  go_loopw [5] (fun t wr => PieceRel l A A' n c c' w t wr) (fun t _ => n - (intOf t).toNat)
  case atStart => exact ⟨0, rfl, Nat.zero_le _, H1.out, H2.out, 0, rfl⟩
  case round =>
    obtain ⟨k, rfl, hk, g1, g2, hq⟩ := hrel
    have Hq := Lib.hid hq; clear hq
    by_cases hlt : k < n
    · obtain ⟨b1, o1, p, D1, m1, d1, rfl, hb1, hc1, hc1', hx1, hr1⟩ := g1.at_ hlt
      obtain ⟨b2, o2, p2, D2, m2, d2, rfl, hb2, hc2, hc2', hx2, hr2⟩ := g2.at_ hlt
      rw [hx1] at hx2
      injection hx2 with hx2
      subst hx2
      have e1 := hr1.len
      have e2 := hr2.len
      obtain ⟨hzp, hzr⟩ := Hz.out p (List.mem_of_getElem? hx1)
      obtain ⟨P1, P2⟩ := p
      dsimp only at e1 e2 hr1 hr2 hc1 hc2 hzp hzr
      subst e1
      obtain rfl : P2.length = m2 := e2
      have hnb : ((P1 : Int) != (P1 : Int)) = false := by simp
      have G1 := Lib.hid g1; have G2 := Lib.hid g2; have R1 := Lib.hid hr1.rl; have R2 := Lib.hid hr2.rl; have Hzr := Lib.hid hzr; clear hx1 g1 g2 hr1 hr2 hzr
      go_wp2_with fail
      go_quiet ((go_at_call 20; exact Calls.quiet_of (recs_c D1 D2 P2.length d1 d2 P2 _ (R1.out.drewN _) (R2.out.drewN _) hzp Hzr.out)))
      go_wp2
      go_roundw
      case rel => exact ⟨k + 1, by go_num, by omega, G1.out, G2.out, by obtain ⟨q, hq⟩ := Hq.out; exact ⟨_, by rw [hq, World.drewN_drewN]⟩⟩
      case measure => simp [intOf]; omega
    · clear g1 g2
      go_wp2
      go_ret
      exact ⟨rfl, Hq.out⟩
end Go.Proofs.YtpjnkbfjnonkhaaDoor
