/-
  fixed's firstStart, record, Scan: what each call returns and leaves.
-/
import Derived.Test.YtjdmpnonjlffaaaY1
import Derived.IntWalk
namespace Go.Proofs.Ytjdmpnonjlffaaa
open Go.RowKit Go.Maps

theorem bty : U8 Try.prog 22 5 9 := ⟨Try.underlying22, Try.underlying5, Try.underlying9, by kernel_rfl⟩
set_option maxRecDepth 100000 in
theorem fstart_c (f k : Nat) (w : World) (hf : f ≤ 1000000) (hk : 1 ≤ k) (hk2 : k ≤ 1000) : Calls Try.prog 32 #[.int .i64 (f : Int), .int .i64 (k : Int)] w fun e w' => e = .returned (.int .i64 ((Fx.cd f k * k : Nat) : Int)) ∧ w = w' := by
  have h0 : (k : Int) ≠ 0 := by omega
  have e1 : (f : Int) + (k : Int) - 1 = ((f + k - 1 : Nat) : Int) := by omega
  have hd := tdiv_nat (f + k - 1) k
  have hle := Fx.vs_le (f + k - 1) k
  have hle2 := Nat.div_le_self (f + k - 1) k
  unfold Fx.cd
  obtain ⟨m, hm⟩ : ∃ m, m = f + k - 1 := ⟨_, rfl⟩
  rw [← hm] at e1 hd hle hle2 ⊢
  obtain ⟨q, hq⟩ : ∃ q, q = m / k := ⟨_, rfl⟩
  rw [← hq] at hd hle hle2 ⊢
  have hmul : (q : Int) * (k : Int) = ((q * k : Nat) : Int) := by simp
  obtain ⟨v, hv⟩ : ∃ v, v = q * k := ⟨_, rfl⟩
  rw [← hv] at hmul hle ⊢
  have q1 : IntKind.i64.wrap ((f : Int) + (k : Int)) = (f : Int) + (k : Int) := IntWalk.i64_in _ (by omega)
  have q2 : IntKind.i64.wrap ((f : Int) + (k : Int) - 1) = (m : Int) := by rw [IntWalk.i64_in _ (by omega)]; exact e1
  have q3 : IntKind.i64.wrap (q : Int) = (q : Int) := IntWalk.i64_in _ (by omega)
  have q4 : IntKind.i64.wrap ((q : Int) * (k : Int)) = (v : Int) := by rw [hmul]; exact IntWalk.i64_in _ (by omega)
  clear hm hq hv hmul e1 hle hle2
  go_enter Try.func32, Try.ntmps32
  go_wp2
  go_ret
  first | exact ⟨rfl, rfl⟩ | (refine ⟨?_, rfl⟩; simp [q1, q2, hd, q3, q4])

set_option maxRecDepth 100000 in
theorem record_c (A : Option Addr) (n c B k i : Nat) (l : List UInt8) (w : World) (hr : Rb w B A n c l) (hi : i * k + k ≤ n) (hn : n ≤ 1000000) :
    Calls Try.prog 30 #[.slice A n c, .int .i64 ((i * k : Nat) : Int), .int .i64 (k : Int)] w fun e w' => e = .returned (.slice (some ⟨w.heap.size, 0, none⟩) 1 1) ∧ w' = w.alloc (.cells #[.string ⟨(Fx.seg l k i).toArray⟩] 9) := by
  obtain ⟨a, ha⟩ : ∃ a, a = i * k := ⟨_, rfl⟩
  unfold Fx.seg
  rw [← ha] at hi ⊢
  obtain ⟨E, hE, hrE⟩ := bty.mid_ hr (i := a) (k := a + k) (by omega) hi (a : Int) ((a : Int) + (k : Int)) rfl (by omega) k (by omega)
  have hcvE := bty.conv hrE
  have q1 : IntKind.i64.wrap ((a : Int) + (k : Int)) = (a : Int) + (k : Int) := IntWalk.i64_in _ (by omega)
  clear ha hr
  have HrE := Lib.hid hrE; clear hrE
  go_enter Try.func30, Try.ntmps30
  go_wp2
  go_ret
  exact ⟨rfl, rfl⟩
end Go.Proofs.Ytjdmpnonjlffaaa
