/- The plain half of the proofs about package disk: a device as the document has it. -/
import Derived.Test.YtdpoiieblbmofaaPlain
namespace Go.Proofs.Ytdpoiieblbmofaa
open Go.RowKit

/-- A device: how many sectors, what is kept of each, the writes that wait, how many writes or flushes until one is hit (0: none), whether it is down, how often a bit was turned; and how many writes and flushes there were since it was armed or started. -/
structure DK where
  n : Nat
  kept : Nat → List UInt8
  waits : List (Nat × List UInt8)
  armed : Nat
  fell : Bool
  turns : Nat
  ticks : Nat

def blank : List UInt8 := List.replicate 512 0
theorem length_blank : blank.length = 512 := by unfold blank; rw [List.length_replicate]

/-- A sector is kept. -/
def keep1 (f : Nat → List UInt8) (a : Nat × List UInt8) : Nat → List UInt8 := fun k => if k = a.1 then a.2 else f k
/-- All writes are kept, in order. -/
def keepAll (f : Nat → List UInt8) (l : List (Nat × List UInt8)) : Nat → List UInt8 := l.foldl keep1 f
/-- Those that are told to be kept, in order; 'i' the number of the first. -/
def keepSome (ks : List Bool) (f : Nat → List UInt8) : Nat → List (Nat × List UInt8) → Nat → List UInt8
  | _, [] => f
  | i, a :: l => keepSome ks (if ks.getD i false = true then keep1 f a else f) (i + 1) l
/-- What is shown of a sector where b is kept. -/
def shownB (at_ : Nat) (b : List UInt8) (l : List (Nat × List UInt8)) : List UInt8 := l.foldl (fun acc x => if x.1 = at_ then x.2 else acc) b
/-- A bit is turned. -/
def tog (b : List UInt8) (bit : Nat) : List UInt8 := b.set (bit / 8) (b.getD (bit / 8) 0 ^^^ UInt8.ofNat (2 ^ (bit % 8)))

namespace DK
def new (n : Nat) : DK := ⟨n, fun _ => blank, [], 0, false, 0, 0⟩
def shown (s : DK) (at_ : Nat) : List UInt8 := shownB at_ (s.kept at_) s.waits
def noSuch (s : DK) (at_ : Int) : Bool := decide (at_ < 0 ∨ (s.n : Int) ≤ at_)
/-- The count of writes and flushes goes on. -/
def tick (s : DK) : DK := { s with armed := s.armed - 1, fell := s.armed == 1, ticks := s.ticks + 1 }
def writeE (s : DK) (at_ : Int) (b : List UInt8) : Int := if s.fell = true then 40 else if s.noSuch at_ = true ∨ b.length ≠ 512 then 1 else if s.armed = 1 then 40 else 0
def write (s : DK) (at_ : Int) (b : List UInt8) : DK := if s.fell = true then s else if s.noSuch at_ = true ∨ b.length ≠ 512 then s else { s with waits := s.waits ++ [(at_.toNat, b)] }.tick
def readE (s : DK) (at_ : Int) : Int := if s.fell = true then 40 else if s.noSuch at_ = true then 1 else 0
def readB (s : DK) (at_ : Int) : List UInt8 := if s.fell = true then [] else if s.noSuch at_ = true then [] else s.shown at_.toNat
def flushE (s : DK) : Int := if s.fell = true then 40 else if s.armed = 1 then 40 else 0
def flush (s : DK) : DK := if s.fell = true then s else if s.armed = 1 then s.tick else { s with kept := keepAll s.kept s.waits, waits := [] }.tick
def armE (s : DK) : Int := if s.fell = true then 40 else 0
def arm (s : DK) (n : Int) : DK := if s.fell = true then s else { s with armed := n.toNat, ticks := 0 }
def crash (s : DK) (ks : List Bool) : DK := { s with fell := true, kept := keepSome ks s.kept 0 s.waits, waits := [] }
def start (s : DK) : DK := if s.fell = true then { s with fell := false, armed := 0, waits := [], ticks := 0 } else s
def flipE (s : DK) (at_ bit : Int) : Int := if s.noSuch at_ = true ∨ bit < 0 ∨ 4096 ≤ bit then 1 else 0
def flip (s : DK) (at_ bit : Int) : DK := if s.noSuch at_ = true ∨ bit < 0 ∨ 4096 ≤ bit then s else { s with kept := keep1 s.kept (at_.toNat, tog (s.kept at_.toNat) bit.toNat), turns := s.turns + 1 }

/-- Every sector has its bytes, every write that waits has one. -/
structure Ok (s : DK) : Prop where
  size : s.n ≤ 65536
  kept : ∀ k, (s.kept k).length = 512
  waits : ∀ a ∈ s.waits, a.1 < s.n ∧ a.2.length = 512
  armed : s.armed ≤ 9223372036854775807
end DK

theorem length_tog (b : List UInt8) (bit : Nat) : (tog b bit).length = b.length := by simp [tog]
theorem length_keep1 {f : Nat → List UInt8} {a : Nat × List UInt8} (h : ∀ k, (f k).length = 512) (ha : a.2.length = 512) : ∀ k, (keep1 f a k).length = 512 := by
  intro k
  unfold keep1
  split
  · exact ha
  · exact h k
theorem length_keepAll {f : Nat → List UInt8} {l : List (Nat × List UInt8)} (h : ∀ k, (f k).length = 512) (hl : ∀ a ∈ l, a.2.length = 512) : ∀ k, (keepAll f l k).length = 512 := by
  induction l generalizing f with
  | nil => exact h
  | cons a l ih => exact ih (length_keep1 h (hl a (by simp))) (fun x hx => hl x (by simp [hx]))
theorem length_keepSome {ks : List Bool} {f : Nat → List UInt8} {l : List (Nat × List UInt8)} {i : Nat} (h : ∀ k, (f k).length = 512) (hl : ∀ a ∈ l, a.2.length = 512) : ∀ k, (keepSome ks f i l k).length = 512 := by
  induction l generalizing f i with
  | nil => exact h
  | cons a l ih =>
    unfold keepSome
    refine ih ?_ (fun x hx => hl x (by simp [hx]))
    split
    · exact length_keep1 h (hl a (by simp))
    · exact h
theorem length_shownB {at_ : Nat} {b : List UInt8} {l : List (Nat × List UInt8)} (h : b.length = 512) (hl : ∀ a ∈ l, a.2.length = 512) : (shownB at_ b l).length = 512 := by
  induction l generalizing b with
  | nil => exact h
  | cons a l ih =>
    unfold shownB
    rw [List.foldl_cons]
    refine ih ?_ (fun x hx => hl x (by simp [hx]))
    split
    · exact hl a (by simp)
    · exact h

namespace DK
theorem Ok.new {n : Nat} (h : n ≤ 65536) : (DK.new n).Ok := ⟨h, fun _ => length_blank, (fun a ha => by cases ha), Nat.zero_le _⟩
theorem Ok.shown {s : DK} (h : s.Ok) (k : Nat) : (s.shown k).length = 512 := length_shownB (h.kept k) (fun a ha => (h.waits a ha).2)
theorem Ok.tick {s : DK} (h : s.Ok) : s.tick.Ok := ⟨h.size, h.kept, h.waits, Nat.le_trans (Nat.sub_le _ _) h.armed⟩
theorem noSuch_false {s : DK} {a : Int} (h : s.noSuch a = false) : 0 ≤ a ∧ a < s.n ∧ a.toNat < s.n := by
  have := of_decide_eq_false h
  omega
theorem Ok.write {s : DK} (h : s.Ok) (a : Int) (b : List UInt8) : (s.write a b).Ok := by
  unfold DK.write
  split
  · exact h
  · split
    · exact h
    · rename_i hc
      refine Ok.tick ⟨h.size, h.kept, fun x hx => ?_, h.armed⟩
      rcases List.mem_append.1 hx with hx | hx
      · exact h.waits x hx
      · simp only [List.mem_singleton] at hx
        subst hx
        have h1 : s.noSuch a = false := by
          cases hn : s.noSuch a with
          | false => rfl
          | true => exact absurd (Or.inl hn) hc
        exact ⟨(noSuch_false h1).2.2, Decidable.byContradiction fun hl => hc (Or.inr hl)⟩
theorem Ok.flush {s : DK} (h : s.Ok) : s.flush.Ok := by
  unfold DK.flush
  split
  · exact h
  · split
    · exact h.tick
    · exact Ok.tick ⟨h.size, length_keepAll h.kept (fun a ha => (h.waits a ha).2), (fun a ha => by cases ha), h.armed⟩
theorem Ok.arm {s : DK} (h : s.Ok) (n : Int) (hn : n ≤ 9223372036854775807) : (s.arm n).Ok := by
  unfold DK.arm
  split
  · exact h
  · exact ⟨h.size, h.kept, h.waits, by show n.toNat ≤ _; omega⟩
theorem Ok.crash {s : DK} (h : s.Ok) (ks : List Bool) : (s.crash ks).Ok := ⟨h.size, length_keepSome h.kept (fun a ha => (h.waits a ha).2), (fun a ha => by cases ha), h.armed⟩
theorem Ok.start {s : DK} (h : s.Ok) : s.start.Ok := by
  unfold DK.start
  split
  · exact ⟨h.size, h.kept, (fun a ha => by cases ha), Nat.zero_le _⟩
  · exact h
theorem Ok.flip {s : DK} (h : s.Ok) (a b : Int) : (s.flip a b).Ok := by
  unfold DK.flip
  split
  · exact h
  · exact ⟨h.size, length_keep1 h.kept (by rw [length_tog]; exact h.kept _), h.waits, h.armed⟩
end DK
end Go.Proofs.Ytdpoiieblbmofaa
