/-
  Words for slices of 32-bit numbers: what one reads as, a row of numbers that the call itself made, and a store into it; exclusive or of numbers as the model spells it.
-/
import Derived.Test.YtkkjgiejnblopaaDoorBase
import Derived.Test.YtkkjgiejnblopaaDoorCm
import Derived.Laws.BitsAllLaws
import Derived.Laws.OwnMore
namespace Go.Proofs.YtkkjgiejnblopaaDoor
open Go.RowKit

def U32 (n : Int) : Prop := 0 ≤ n ∧ n < 4294967296

theorem xor32 {a b : Int} (A B : Nat) (ha : a = (A : Int)) (hb : b = (B : Int)) (hA : A < 4294967296) (hB : B < 4294967296) : bits .xor .u32 a b = ((A ^^^ B : Nat) : Int) := by
  subst ha hb
  exact u32_xor_nat A B hA hB
theorem xor8 {a b : Int} (A B : Nat) (ha : a = (A : Int)) (hb : b = (B : Int)) (hA : A < 256) (hB : B < 256) : bits .xor .u8 a b = ((A ^^^ B : Nat) : Int) := by
  subst ha hb
  exact u8_xor_nat A B hA hB

/-- The cells of numbers. -/
def nvs (l : List Nat) : List Value := l.map fun (b : Nat) => Value.int .u32 (b : Int)
theorem nvs_length (l : List Nat) : (nvs l).length = l.length := by simp [nvs]

/-- The slice value '.slice A n c' reads as the numbers l in the world w; its cells lie below block B. -/
def Rn (w : World) (B : Nat) (A : Option Addr) (n c : Nat) (l : List Nat) : Prop :=
  l.length = n ∧ n ≤ c ∧ c ≤ maxLen ∧ Cm.Fits l ∧
    (0 < n → ∃ b off, A = some ⟨b, off, none⟩ ∧ b < B ∧ ∀ j (x : Nat), l[j]? = some x → w.cell? ⟨b, off + j, none⟩ = some (.int .u32 (x : Int)))

section
variable {w w' : World} {B B' n c : Nat} {A : Option Addr} {l : List Nat}
theorem Rn.nil (w : World) (B : Nat) : Rn w B none 0 0 [] := ⟨rfl, Nat.le_refl _, by simp [maxLen], fun x hx => by simp at hx, fun h => absurd h (by omega)⟩
theorem Rn.len (h : Rn w B A n c l) : l.length = n := h.1
theorem Rn.fits (h : Rn w B A n c l) : Cm.Fits l := h.2.2.2.1
theorem Rn.at_ {k : Nat} (h : Rn w B A n c l) (hk : k < n) :
    ∃ b off, ∃ x : Nat, A = some ⟨b, off, none⟩ ∧ b < B ∧ w.cell? ⟨b, off + k, none⟩ = some (.int .u32 (x : Int)) ∧ l[k]? = some x ∧ x < 4294967296 ∧ l.getD k 0 = x := by
  obtain ⟨h1, h2, h3, h5, h4⟩ := h
  obtain ⟨b, off, rfl, hb, hc⟩ := h4 (by omega)
  have hl : k < l.length := by omega
  have e := List.getElem?_eq_getElem hl
  exact ⟨b, off, l[k], rfl, hb, hc k _ e, e, h5 _ (List.getElem_mem hl), by simp [List.getD, e]⟩
theorem Rn.keep (h : Rn w B A n c l) (hk : ∀ p : Addr, p.block < B → w'.cell? p = w.cell? p) : Rn w' B A n c l :=
  ⟨h.1, h.2.1, h.2.2.1, h.2.2.2.1, fun hn => by
    obtain ⟨b, off, e, hb, hc⟩ := h.2.2.2.2 hn
    exact ⟨b, off, e, hb, fun j x hx => (hk _ hb).trans (hc j x hx)⟩⟩
theorem Rn.more (h : Rn w B A n c l) (hB : B ≤ B') : Rn w B' A n c l :=
  ⟨h.1, h.2.1, h.2.2.1, h.2.2.2.1, fun hn => by
    obtain ⟨b, off, e, hb, hc⟩ := h.2.2.2.2 hn
    exact ⟨b, off, e, by omega, hc⟩⟩
theorem Rn.below (h : Rn w B A n c l) (hb : Below B w w') : Rn w' B A n c l := h.keep fun _ hp => hb.cell hp
theorem Rn.alloc (h : Rn w B A n c l) (hB : B ≤ w.heap.size) (o : Obj) : Rn (w.alloc o) B A n c l := h.keep fun p hp => World.cell?_alloc_lt w o p (by omega)
theorem Rn.drewN (h : Rn w B A n c l) (k : Nat) : Rn (w.drewN k) B A n c l := h
end

/-- The facts on the types '[]uint32' (t) and 'uint32' (e) of a program. -/
structure N32 (P : Program) (t e : TypeId) : Prop where
  sl : P.underlying t = some (.slice e)
  el : P.underlying e = some (.int .u32)
  inf : (P.info? e).map (fun i => (i.zero, i.size, i.bytes)) = some (some (.int .u32 0), 1, 4)

/-- A row of c numbers 0. -/
def nrow (c : Nat) : Array Value := (List.replicate c (Value.int .u32 0)).toArray
theorem N32.make {P : Program} {t e : TypeId} (u : N32 P t e) (w : World) (n : Nat) (L : Int) (hL : L = (n : Int)) (hc : n ≤ 1000000) :
    (Instr.makeSlice t (.int .i64 L) (.int .i64 L)).run P w = .ok (.slice (some ⟨w.heap.size, 0, none⟩) n n) (w.alloc (.cells (nrow n) e)) := by
  subst hL
  obtain ⟨i, hi, hz0, hz1, hz2⟩ := info_parts u.inf
  have h := run_make (P := P) w t e i (.int .u32 0) u.sl hi hz0 .i64 .i64 (n : Int) (n : Int) (by omega) (by omega) (by rw [hz2]; omega) (by omega)
  simp only [Int.toNat_natCast, hz1, Nat.mul_one] at h
  rw [h]
  have e1 : madeCells (Value.int IntKind.u32 0).cells n = nrow n := by
    apply Array.toList_inj.1
    have hcells : (Value.int IntKind.u32 0).cells = #[.int .u32 0] := rfl
    rw [hcells, toList_madeCells_one]
    simp [nrow]
  rw [e1]

/-- The block g holds just the numbers l. -/
def Tbl (w : World) (e : TypeId) (g n : Nat) (l : List Nat) : Prop := w.ownsRow g e 1 (.slice (some ⟨g, 0, none⟩) n n) n (nvs l)
theorem Tbl.made (w : World) (e : TypeId) (n : Nat) (hn : n ≤ 1000000) : Tbl (w.alloc (.cells (nrow n) e)) e w.heap.size n (List.replicate n 0) := by
  have h := World.ownsRow_lit (base := w.heap.size) (e := e) (size := 1) w (nrow n) n (Nat.le_refl _) (by simp only [maxLen]; omega) (by simp [nrow])
  have e1 : (nrow n).toList = nvs (List.replicate n 0) := by simp [nrow, nvs]
  rw [e1] at h
  exact h
theorem Tbl.len {w : World} {e : TypeId} {g n : Nat} {l : List Nat} (h : Tbl w e g n l) : l.length = n := by
  have := h.1
  rw [nvs_length] at this
  omega
theorem Tbl.cell {w : World} {e : TypeId} {g n : Nat} {l : List Nat} (h : Tbl w e g n l) (k x : Nat) (hx : l[k]? = some x) : w.cell? ⟨g, k, none⟩ = some (.int .u32 (x : Int)) := by
  have hk : k < l.length := by
    rcases Nat.lt_or_ge k l.length with h' | h'
    · exact h'
    · rw [List.getElem?_eq_none h'] at hx; cases hx
  have hl := h.len
  rw [World.ownsRow.cellAt h k (by omega)]
  simp [nvs, hx]
theorem Tbl.frozen {w : World} {e : TypeId} {g n : Nat} {l : List Nat} (h : Tbl w e g n l) (k : Nat) : w.frozen? ⟨g, k, none⟩ = false := World.ownsRow.frozenAt h k
theorem Tbl.set {w : World} {e : TypeId} {g n : Nat} {l : List Nat} (h : Tbl w e g n l) (k x : Nat) : Tbl (w.setCell ⟨g, k, none⟩ (.int .u32 (x : Int))) e g n (l.set k x) := by
  have h1 := (World.ownsRow.stored h k (.int .u32 (x : Int))).1
  unfold Tbl
  have e1 : nvs (l.set k x) = (nvs l).set k (.int .u32 (x : Int)) := by simp [nvs, List.map_set]
  rw [e1]
  exact h1
theorem Tbl.lt {w : World} {e : TypeId} {g n : Nat} {l : List Nat} (h : Tbl w e g n l) : g < w.heap.size := (World.ownsRow.lt h g rfl).2
theorem Tbl.rn {w : World} {e : TypeId} {g n : Nat} {l : List Nat} (h : Tbl w e g n l) (hf : Cm.Fits l) (hn : n ≤ 1000000) : Rn w w.heap.size (some ⟨g, 0, none⟩) n n l :=
  ⟨h.len, Nat.le_refl _, by simp only [maxLen]; omega, hf, fun _ => ⟨g, 0, rfl, h.lt, fun j x hx => by rw [Nat.zero_add]; exact h.cell j x hx⟩⟩
end Go.Proofs.YtkkjgiejnblopaaDoor
