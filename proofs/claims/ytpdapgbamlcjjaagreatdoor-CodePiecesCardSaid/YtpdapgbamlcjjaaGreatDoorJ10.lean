/-
  Joined: Ry1.
-/
import Derived.Test.YtpdapgbamlcjjaaGreatDoorJ9
/-
  strings.(*genericReplacer).lookup.
-/
namespace Go.Proofs.YtpdapgbamlcjjaaGreatDoor
open Go.RowKit Vl

def LkRel (g n1 kx : Nat) (X X1 X2 : ByteArray) (w : World) (s v k f b nd n : Value) (wr : World) : Prop :=
  v = em ∧ k = .int .i64 0 ∧ f = .bool false ∧ b = .int .i64 0 ∧ (∃ q, wr = w.drewN q) ∧
    ((s = .string X ∧ nd = pt g ∧ n = .int .i64 0) ∨ (s = .string X1 ∧ nd = pt n1 ∧ n = .int .i64 1) ∨ (s = .string X2 ∧ nd = pt kx ∧ n = .int .i64 2))
def lkM (x : Value) : Nat := match x with | .int _ z => 2 - z.toNat | _ => 0

set_option maxRecDepth 100000 in
set_option maxHeartbeats 4000000 in
theorem lookS_c (g : Nat) (X X1 X2 V : ByteArray) (p : Int) (m c n1 t0 t1 kq kb kn kx : Nat) (w : World)
    (hG : Blk w g 262 (GF (sl3 t0) 3 mp)) (hT : Blk w t0 3 (T1F n1)) (hN : B5 w n1 em (.int .i64 0) em np (sl3 t1)) (hT1 : Blk w t1 3 (T3F kq kb kn)) (hK : B5 w kx (.string V) (.int .i64 p) em np ns)
    (hp : 0 < p) (hm : m < 3) (hkx : T3F kq kb kn m = pt kx)
    (pX : 0 < X.size) (x0 : (X[0]'pX).toNat = 92) (e1 : X.extract 1 X.size = X1) (p1 : 0 < X1.size) (x1 : (X1[0]'p1).toNat = c) (hmc : mp c = m) (hc : c < 256) (e2 : X1.extract 1 X1.size = X2) :
    Calls Tryz.prog 152 #[pt g, .string X, .bool false] w fun e w' => e = .returned (.tuple #[.string V, .int .i64 2, .bool true]) ∧ ∃ q, w' = w.drewN q := by
  have g1 : w.cell? ⟨g, 1, none⟩ = some (.int .i64 0) := hG.c 1 (by omega)
  have g4 : w.cell? ⟨g, 4, none⟩ = some (sl3 t0) := hG.c 4 (by omega)
  have g5 : w.cell? ⟨g, 5, none⟩ = some (.int .i64 3) := hG.c 5 (by omega)
  have g98 : w.cell? ⟨g, 98, none⟩ = some (.int .u8 1) := hG.c 98 (by omega)
  have gc : w.cell? ⟨g, 6 + c, none⟩ = some (.int .u8 (m : Int)) := by rw [hG.c (6 + c) (by omega), GF_at, hmc]
  have t01 : w.cell? ⟨t0, 1, none⟩ = some (pt n1) := hT.c 1 (by omega)
  have t1m : w.cell? ⟨t1, m, none⟩ = some (pt kx) := by rw [hT1.c m hm, hkx]
  have n11 := hN.c1
  have n14 := hN.c4
  have k0 := hK.c0
  have k1 := hK.c1
  have k2 := hK.c2
  have k4 := hK.c4
  have m1 : (m : Int) < 3 := by omega
  have m2 : ((m : Int) == 3) = false := by simp; omega
  have m3 : (m == 3) = false := by simp; omega
  have pp : decide (0 < p) = true := by simp [hp]
  have nn : ∀ (A : Option Addr) (n c : Nat) (W : World), (binOp .neq 147 (.slice A n c) (.slice none 0 0)).run Tryz.prog W = .ok (.bool (!A.isNone)) W := fun A n c W => run_neq_slice_nil W 147 146 A n c Tryz.underlying147
  have nn0 := nn (some ⟨t0, 0, none⟩) 3 3
  have nn1 := nn (some ⟨t1, 0, none⟩) 3 3
  have nn2 := nn none 0 0
  have f0 := full_of pX
  have f1 := full_of p1
  clear nn hG hT hN hT1 hK hkx hmc
  go_enter Tryz.func152, Tryz.ntmps152
  go_wp2
  go_loopw [1, 6, 7, 8, 9, 10, 11] (fun s v k f b nd n wr => LkRel g n1 kx X X1 X2 w s v k f b nd n wr) (fun _ _ _ _ _ _ n _ => lkM n)
  case atStart => exact ⟨rfl, rfl, rfl, rfl, ⟨0, rfl⟩, .inl ⟨rfl, rfl, rfl⟩⟩
  case round =>
    obtain ⟨rfl, rfl, rfl, rfl, ⟨q, rfl⟩, hrel⟩ := hrel
    rcases hrel with ⟨rfl, rfl, rfl⟩ | ⟨rfl, rfl, rfl⟩ | ⟨rfl, rfl, rfl⟩
    · go_wp2
      go_quiet (fail)
      go_wp2
      first | go_roundw | refine ⟨?rel, ?measure⟩
      case rel => exact ⟨rfl, rfl, rfl, rfl, ⟨_, rfl⟩, .inr (.inl ⟨rfl, rfl, rfl⟩)⟩
      case measure => simp [lkM]
    · go_wp2
      go_quiet (fail)
      go_wp2
      first | go_roundw | refine ⟨?rel, ?measure⟩
      case rel => exact ⟨rfl, rfl, rfl, rfl, ⟨_, rfl⟩, .inr (.inr ⟨rfl, rfl, rfl⟩)⟩
      case measure => simp [lkM]
    · go_wp2
      all_goals
        go_ret3
        exact ⟨rfl, q, rfl⟩

theorem empty_of {K : ByteArray} (h : K.size = 0) : K.toList.isEmpty = true := by
  rw [Lib.toList_data]
  have := str_len K
  cases hh : K.data.toList with
  | nil => rfl
  | cons _ _ => rw [hh] at this; simp at this; omega
def LnRel (g n1 : Nat) (X X1 : ByteArray) (w : World) (s v k f b nd n : Value) (wr : World) : Prop :=
  v = em ∧ k = .int .i64 0 ∧ f = .bool false ∧ b = .int .i64 0 ∧ (∃ q, wr = w.drewN q) ∧
    ((s = .string X ∧ nd = pt g ∧ n = .int .i64 0) ∨ (s = .string X1 ∧ nd = pt n1 ∧ n = .int .i64 1))

set_option maxRecDepth 100000 in
set_option maxHeartbeats 4000000 in
theorem lookN_c (g : Nat) (X X1 : ByteArray) (n1 t0 t1 : Nat) (w : World)
    (hG : Blk w g 262 (GF (sl3 t0) 3 mp)) (hT : Blk w t0 3 (T1F n1)) (hN : B5 w n1 em (.int .i64 0) em np (sl3 t1))
    (pX : 0 < X.size) (x0 : (X[0]'pX).toNat = 92) (e1 : X.extract 1 X.size = X1) (hno : X1.size = 0 ∨ ∃ p1 : 0 < X1.size, mp (X1[0]'p1).toNat = 3) :
    Calls Tryz.prog 152 #[pt g, .string X, .bool false] w fun e w' => e = .returned (.tuple #[em, .int .i64 0, .bool false]) ∧ ∃ q, w' = w.drewN q := by
  have g1 : w.cell? ⟨g, 1, none⟩ = some (.int .i64 0) := hG.c 1 (by omega)
  have g4 : w.cell? ⟨g, 4, none⟩ = some (sl3 t0) := hG.c 4 (by omega)
  have g5 : w.cell? ⟨g, 5, none⟩ = some (.int .i64 3) := hG.c 5 (by omega)
  have g98 : w.cell? ⟨g, 98, none⟩ = some (.int .u8 1) := hG.c 98 (by omega)
  have t01 : w.cell? ⟨t0, 1, none⟩ = some (pt n1) := hT.c 1 (by omega)
  have n11 := hN.c1
  have n14 := hN.c4
  have nn : ∀ (A : Option Addr) (n c : Nat) (W : World), (binOp .neq 147 (.slice A n c) (.slice none 0 0)).run Tryz.prog W = .ok (.bool (!A.isNone)) W := fun A n c W => run_neq_slice_nil W 147 146 A n c Tryz.underlying147
  have nn0 := nn (some ⟨t0, 0, none⟩) 3 3
  have nn1 := nn (some ⟨t1, 0, none⟩) 3 3
  have f0 := full_of pX
  have gG := hG
  clear nn hG hN hT
  rcases hno with h0 | ⟨p1, h3⟩
  · have f1 : X1.toList.isEmpty = true := empty_of h0
    clear gG h0
    go_enter Tryz.func152, Tryz.ntmps152
    go_wp2
    go_loopw [1, 6, 7, 8, 9, 10, 11] (fun s v k f b nd n wr => LnRel g n1 X X1 w s v k f b nd n wr) (fun _ _ _ _ _ _ n _ => lkM n)
    case atStart => exact ⟨rfl, rfl, rfl, rfl, ⟨0, rfl⟩, .inl ⟨rfl, rfl, rfl⟩⟩
    case round =>
      obtain ⟨rfl, rfl, rfl, rfl, ⟨q, rfl⟩, hrel⟩ := hrel
      rcases hrel with ⟨rfl, rfl, rfl⟩ | ⟨rfl, rfl, rfl⟩
      · go_wp2
        go_quiet (fail)
        go_wp2
        first | go_roundw | refine ⟨?rel, ?measure⟩
        case rel => exact ⟨rfl, rfl, rfl, rfl, ⟨_, rfl⟩, .inr ⟨rfl, rfl, rfl⟩⟩
        case measure => simp [lkM]
      · go_wp2
        go_ret3
        exact ⟨rfl, q, rfl⟩
  · have f1 := full_of p1
    obtain ⟨c, hc⟩ : ∃ c, c = (X1[0]'p1).toNat := ⟨_, rfl⟩
    have x1 := hc.symm
    have hcl : c < 256 := by rw [hc]; exact (X1[0]'p1).toNat_lt
    have gc : w.cell? ⟨g, 6 + c, none⟩ = some (.int .u8 3) := by rw [gG.c (6 + c) (by omega), GF_at, hc, h3]; rfl
    clear hc h3 gG
    go_enter Tryz.func152, Tryz.ntmps152
    go_wp2
    go_loopw [1, 6, 7, 8, 9, 10, 11] (fun s v k f b nd n wr => LnRel g n1 X X1 w s v k f b nd n wr) (fun _ _ _ _ _ _ n _ => lkM n)
    case atStart => exact ⟨rfl, rfl, rfl, rfl, ⟨0, rfl⟩, .inl ⟨rfl, rfl, rfl⟩⟩
    case round =>
      obtain ⟨rfl, rfl, rfl, rfl, ⟨q, rfl⟩, hrel⟩ := hrel
      rcases hrel with ⟨rfl, rfl, rfl⟩ | ⟨rfl, rfl, rfl⟩
      · go_wp2
        go_quiet (fail)
        go_wp2
        first | go_roundw | refine ⟨?rel, ?measure⟩
        case rel => exact ⟨rfl, rfl, rfl, rfl, ⟨_, rfl⟩, .inr ⟨rfl, rfl, rfl⟩⟩
        case measure => simp [lkM]
      · go_wp2
        go_quiet (fail)
        go_wp2
        go_ret3
        exact ⟨rfl, _, rfl⟩

set_option maxRecDepth 100000 in
set_option maxHeartbeats 4000000 in
theorem lookE_c (g : Nat) (X : ByteArray) (w : World) (tb : Value) (sz : Int) (M : Nat → Nat) (hG : Blk w g 262 (GF tb sz M)) (h0 : X.size = 0) :
    Calls Tryz.prog 152 #[pt g, .string X, .bool false] w fun e w' => e = .returned (.tuple #[em, .int .i64 0, .bool false]) ∧ w' = w := by
  have g1 : w.cell? ⟨g, 1, none⟩ = some (.int .i64 0) := hG.c 1 (by omega)
  have f1 : X.toList.isEmpty = true := empty_of h0
  clear hG h0
  go_enter Tryz.func152, Tryz.ntmps152
  go_wp2
  go_loopw [1, 6, 7, 8, 9, 10, 11] (fun s v k f b nd n wr => s = .string X ∧ v = em ∧ k = .int .i64 0 ∧ f = .bool false ∧ b = .int .i64 0 ∧ nd = pt g ∧ n = .int .i64 0 ∧ wr = w) (fun _ _ _ _ _ _ _ _ => 0)
  case atStart => exact ⟨rfl, rfl, rfl, rfl, rfl, rfl, rfl, rfl⟩
  case round =>
    obtain ⟨rfl, rfl, rfl, rfl, rfl, rfl, rfl, rfl⟩ := hrel
    go_wp2
    go_ret3
    exact ⟨rfl, rfl⟩
end Go.Proofs.YtpdapgbamlcjjaaGreatDoor
