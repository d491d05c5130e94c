/- The plain half of the proofs about package layout: what a device's layout is. Nothing here speaks of the program. -/
import Derived.Test.YtdpoiieblbmofaaPlain
namespace Go.Proofs.Ytdpoiieblbmofaa
open Go.RowKit

/-- The sizes of a layout of n sectors, n from 256 to 65536. -/
def lz (n : Int) : Int := (n - 13) / 8
def lseg (n : Int) : Int := (n - (13 + 3 * lz n)) / 32
/-- A layout as a value. -/
def layV (n : Int) : Value := .agg #[.int .i64 n, .int .i64 3, .int .i64 13, .int .i64 (lz n), .int .i64 (13 + lz n), .int .i64 (13 + 2 * lz n), .int .i64 (lz n), .int .i64 (13 + 3 * lz n), .int .i64 (lseg n)]
def layZ : Value := .agg #[.int .i64 0, .int .i64 0, .int .i64 0, .int .i64 0, .int .i64 0, .int .i64 0, .int .i64 0, .int .i64 0, .int .i64 0]
def Fits (n : Int) : Prop := 256 ≤ n ∧ n ≤ 65536
instance (n : Int) : Decidable (Fits n) := inferInstanceAs (Decidable (_ ∧ _))
def planV (n : Int) : Value := if Fits n then layV n else layZ
def planE (n : Int) : Int := if Fits n then 0 else 1
/-- Which region a sector is of. -/
def regN (n a : Int) : Int :=
  if 0 ≤ a ∧ a < 2 then 1 else if a = 2 then 2 else if 3 ≤ a ∧ a < 3 + 10 then 3
  else if 13 ≤ a ∧ a < 13 + lz n then 4 else if 13 + lz n ≤ a ∧ a < 13 + lz n + lz n then 5
  else if 13 + 2 * lz n ≤ a ∧ a < 13 + 2 * lz n + lz n then 6
  else if 13 + 3 * lz n ≤ a ∧ a < 13 + 3 * lz n + lseg n * 32 then 7 else 0
def segN (n m : Int) : Int := if m < 0 ∨ lseg n ≤ m then -1 else 13 + 3 * lz n + m * 32
def capN (n : Int) : Int := lseg n * 31
def physN (n a : Int) : Int := if a < 0 ∨ capN n ≤ a then 0 else 13 + 3 * lz n + a / 31 * 32 + 1 + a % 31
def physB (n a : Int) : Bool := decide (¬ (a < 0 ∨ capN n ≤ a))
def isVal (n a : Int) : Prop := regN n a = 7 ∧ (a - (13 + 3 * lz n)) % 32 ≠ 0
instance (n a : Int) : Decidable (isVal n a) := inferInstanceAs (Decidable (_ ∧ _))
def logicN (n a : Int) : Int := if isVal n a then (a - (13 + 3 * lz n)) / 32 * 31 + (a - (13 + 3 * lz n)) % 32 - 1 else 0
def logicB (n a : Int) : Bool := decide (isVal n a)
def logN (n : Int) (t : Nat) : Int := 13 + ((t % (lz n).toNat : Nat) : Int)

/-- Bounds that all the rest goes by. -/
theorem lz_le (n : Int) (h : Fits n) : 30 ≤ lz n ∧ lz n ≤ 8190 ∧ 8 * lz n ≤ n - 13 ∧ n - 13 < 8 * lz n + 8 := by
  obtain ⟨h1, h2⟩ := h
  unfold lz
  omega
theorem lseg_le (n : Int) (h : Fits n) : 4 ≤ lseg n ∧ lseg n ≤ 2048 ∧ 13 + 3 * lz n + 32 * lseg n ≤ n ∧ n < 13 + 3 * lz n + 32 * lseg n + 32 := by
  obtain ⟨a, b, c, d⟩ := lz_le n h
  obtain ⟨h1, h2⟩ := h
  unfold lseg
  omega
end Go.Proofs.Ytdpoiieblbmofaa
