/- The plain half of the proofs about package sector: what a sealed sector is, what bytes are as a sector. -/
import Derived.Test.YtdpoiieblbmofaaPlain
import Derived.Test.YtdpoiieblbmofaaCrcPlain2
namespace Go.Proofs.Ytdpoiieblbmofaa
open Go.RowKit

/-- A kind is known. -/
def knownB (k : UInt8) : Bool := k == 0x17 || k == 0x2b || k == 0x4d || k == 0x8e || k == 0x71 || k == 0xb2
/-- The first 508 bytes of a sealed sector. -/
def body (k : UInt8) (turn : Nat) (p : List UInt8) : List UInt8 := [k, 0] ++ le 2 p.length ++ le 8 turn ++ p ++ List.replicate (496 - p.length) 0
/-- A sealed sector. -/
def sealed (k : UInt8) (turn : Nat) (p : List UInt8) : List UInt8 := body k turn p ++ le 4 (more 0 (body k turn p))
/-- What Seal answers: the bytes, the error. -/
def sealB (k : UInt8) (turn : Nat) (p : List UInt8) : List UInt8 := if knownB k = false then [] else if 496 < p.length then [] else sealed k turn p
def sealE (k : UInt8) (p : List UInt8) : Int := if knownB k = false then 1 else if 496 < p.length then 4 else 0

theorem length_body (k : UInt8) (turn : Nat) (p : List UInt8) (h : p.length ≤ 496) : (body k turn p).length = 508 := by
  simp [body, length_le]
  omega
theorem length_sealed (k : UInt8) (turn : Nat) (p : List UInt8) (h : p.length ≤ 496) : (sealed k turn p).length = 512 := by
  simp [sealed, length_le, length_body k turn p h]

/-- The number that stands at a place, in n bytes. -/
def numAt (b : List UInt8) (a n : Nat) : Nat := num ((b.drop a).take n)
/-- What Open answers: the kind, the turn, what it carries, the error. -/
def openR (b : List UInt8) : UInt8 × Nat × List UInt8 × Int :=
  if b.length ≠ 512 then (0, 0, [], 1)
  else if b.all (· == 0) = true then (0, 0, [], 0)
  else if numAt b 508 4 ≠ more 0 (b.take 508) then (0, 0, [], 30)
  else if knownB (b.getD 0 0) = false ∨ b.getD 1 0 ≠ 0 ∨ 496 < numAt b 2 2 then (0, 0, [], 11)
  else if ((b.drop (12 + numAt b 2 2)).take (496 - numAt b 2 2)).all (· == 0) = false then (0, 0, [], 11)
  else (b.getD 0 0, numAt b 4 8, (b.drop 12).take (numAt b 2 2), 0)
end Go.Proofs.Ytdpoiieblbmofaa
