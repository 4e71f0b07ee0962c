/-
  Joined: Vl.
-/
import GoSem.Op.String
import GoSem.Op.IntArith
/-
  Values as plain mathematics: kinds of operations, what an operation's result is, comparison, hash, numbers as texts and back, letters turned, cuts, what is found.
-/
namespace Go.Proofs.YtoalncojijmelaaGreatDoor.Vl
open Go Go.Op

/-- A value: is it a text, the number, the text. -/
structure V where
  t : Bool
  n : Int
  s : List UInt8
deriving DecidableEq
def num (n : Int) : V := ⟨false, n, []⟩
def txt (s : List UInt8) : V := ⟨true, 0, s.take 1000⟩
def v0 : V := ⟨false, 0, []⟩
def isV (v : V) : Bool := if v.t then v.n == 0 && decide (v.s.length ≤ 1000) else v.s == []
def w64 (x : Int) : Int := IntKind.i64.wrap x
/-- What an operation takes (n 110, t 116, a 97) and tells. -/
def kd (op : Int) : List UInt8 × List UInt8 :=
  if 4 ≤ op ∧ op ≤ 8 then ([110, 110], [110])
  else if op = 9 then ([116, 116], [116])
  else if op = 10 ∨ op = 18 ∨ op = 20 then ([116], [110])
  else if op = 11 then ([116, 110, 110], [116])
  else if op = 12 ∨ op = 13 then ([116], [116])
  else if op = 14 ∨ op = 15 then ([97, 97], [110])
  else if op = 16 then ([110], [110])
  else if op = 17 then ([110, 97, 97], [97])
  else if op = 19 then ([110], [116])
  else if op = 21 then ([116, 116], [110])
  else ([], [])
def ar (op : Int) : Nat := (kd op).1.length
/-- One kind after another: does it fit; which kind 'a' was last. -/
def rg : List UInt8 → List Bool → Option Bool → Option (Option Bool)
  | [], _, o => some o
  | _ :: _, [], _ => none
  | c :: k, b :: l, o =>
    if c = 110 ∧ b = true ∨ c = 116 ∧ b = false then none
    else if c = 97 ∧ (o = some (!b)) then none
    else rg k l (if c = 97 then some b else o)
def res (op : Int) (a : List Bool) : Bool × Nat :=
  if (kd op).1 = [] then (false, 1)
  else if a.length ≠ (kd op).1.length then (false, 11)
  else match rg (kd op).1 a none with
    | none => (false, 11)
    | some o => if (kd op).2 = [97] then (o.getD false, 0) else ((kd op).2 == [116], 0)
def cmp (a b : V) : Int :=
  if a.t ≠ b.t then (if b.t then -1 else 1)
  else if a.n < b.n ∨ a.n = b.n ∧ bytesLess a.s b.s = true then -1
  else if a.n = b.n ∧ a.s = b.s then 0 else 1
def hstep (h : Nat) (c : UInt8) : Nat := ((h ^^^ c.toNat) * 16777619) % 4294967296
theorem hstep_lt (h : Nat) (c : UInt8) : hstep h c < 4294967296 := Nat.mod_lt _ (by omega)
def hs (l : List UInt8) (h : Nat) : Nat := l.foldl hstep h
def hash (s : List UInt8) : Nat := hs s 2166136261 % 2147483648
/-- The digits' number, or none. -/
def digs : List UInt8 → Nat → Option Nat
  | [], n => some n
  | c :: l, n => if c.toNat < 48 ∨ 57 < c.toNat then none else digs l (10 * n + (c.toNat - 48))
def numD (s : List UInt8) : Option Nat := if s.length < 1 ∨ 18 < s.length then none else digs s 0
def number (s : List UInt8) : Int :=
  match s with
  | 45 :: r => match numD r with | some n => -(n : Int) | none => 0
  | r => match numD r with | some n => (n : Int) | none => 0
def figs (n : Nat) : List UInt8 := if h : n < 10 then [UInt8.ofNat (48 + n % 10)] else figs (n / 10) ++ [UInt8.ofNat (48 + n % 10)]
termination_by n
decreasing_by omega
def figures (n : Int) : List UInt8 := if n < 0 then 45 :: figs (-n).toNat else figs n.toNat
def trn (f : UInt8) (c : UInt8) : UInt8 := if f.toNat ≤ c.toNat ∧ c.toNat < f.toNat + 26 then c ^^^ 32 else c
def turned (s : List UInt8) (f : UInt8) : List UInt8 := s.map (trn f)
def slc (s : List UInt8) (f m : Int) : List UInt8 :=
  let a := (min (max f 0) (s.length : Int)).toNat
  let k := (min (max m 0) ((s.length : Int) - (a : Int))).toNat
  (s.take (a + k)).drop a
def fnd (s t : List UInt8) : Nat → Nat → Int
  | _, 0 => -1
  | i, k + 1 => if i + t.length ≤ s.length then (if (s.drop i).take t.length = t then (i : Int) else fnd s t (i + 1) k) else -1
def find (s t : List UInt8) : Int := fnd s t 0 (s.length + 1)
def dv (a b : Int) : Int × Int := if b = 0 then (0, 0) else if b = -1 then (w64 (-a), 0) else (a.tdiv b, a.tmod b)
def yes (b : Bool) : V := num (if b then 1 else 0)
def rek (op : Int) (a b c : V) : V :=
  if op = 4 then num (w64 (a.n + b.n)) else if op = 5 then num (w64 (a.n - b.n)) else if op = 6 then num (w64 (a.n * b.n))
  else if op = 7 then num (dv a.n b.n).1 else if op = 8 then num (dv a.n b.n).2
  else if op = 14 then yes (cmp a b == 0) else if op = 15 then yes (decide (cmp a b < 0)) else if op = 16 then yes (a.n == 0)
  else if a.n ≠ 0 then b else c
def tex (op : Int) (a b c : V) : V :=
  if op = 9 then txt (a.s ++ b.s) else if op = 10 then num a.s.length else if op = 11 then txt (slc a.s b.n c.n)
  else if op = 12 then txt (turned a.s 97) else if op = 13 then txt (turned a.s 65) else if op = 18 then num (number a.s)
  else if op = 19 then txt (figures a.n) else if op = 20 then num (hash a.s) else num (find a.s b.s)
def doV (op : Int) (l : List V) : V × Nat :=
  if l.all isV then
    if (res op (l.map (·.t))).2 = 0 then
      (if op ≤ 8 ∨ 14 ≤ op ∧ op ≤ 17 then rek op (l.getD 0 v0) (l.getD 1 v0) (l.getD 2 v0) else tex op (l.getD 0 v0) (l.getD 1 v0) (l.getD 2 v0), 0)
    else (v0, (res op (l.map (·.t))).2)
  else (v0, 1)
example : doV 11 [txt [97, 98, 99], num 1, num 5] = (txt [98, 99], 0) := by decide
example : figures (-120) = [45, 49, 50, 48] := by decide +kernel
example : number [45, 48, 49] = -1 := by decide
end Go.Proofs.YtoalncojijmelaaGreatDoor.Vl
