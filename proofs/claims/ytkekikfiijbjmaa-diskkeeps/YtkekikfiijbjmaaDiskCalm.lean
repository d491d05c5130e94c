/- A device that is up, not armed, and where nothing waits: behind Start, Arm(0) and Flush. -/
import Derived.Test.YtkekikfiijbjmaaDiskOne
namespace Go.Proofs.Ytkekikfiijbjmaa
open Go.RowKit

theorem on_n (o : OpD) (s : DK) : (o.on s).n = s.n := by
  unfold OpD.on
  repeat' split
  · rfl
  · unfold DK.flush
    repeat' split
    all_goals simp [DK.tick]
  · unfold DK.arm
    split <;> simp
  · simp [DK.crash]
  · unfold DK.start
    split <;> simp
  · unfold DK.flip
    split <;> simp
  · unfold DK.write
    repeat' split
    all_goals simp [DK.tick]
theorem runK_n (l : List OpD) (k : Nat) (s : DK) : (runK l k s).n = s.n := by
  unfold runK
  generalize l.take k = m
  induction m generalizing s with
  | nil => rfl
  | cons o m ih => rw [List.foldl_cons, ih, on_n]

/-- A device that is up, not armed, and where nothing waits. -/
def calm (n : Nat) (K : Nat → List UInt8) (T : Nat) : DK := ⟨n, K, [], 0, false, T, 1⟩
theorem calmed (s : DK) (h : s.Ok) : ∃ K, (s.start.arm 0).flush = calm s.n K s.turns ∧ ∀ k, (K k).length = 512 := by
  have h1 : s.start.fell = false := by
    unfold DK.start
    split
    · rfl
    · rename_i hf; simpa using hf
  have h2 : s.start.n = s.n ∧ s.start.turns = s.turns := by
    unfold DK.start
    split <;> exact ⟨rfl, rfl⟩
  have h3 : s.start.arm 0 = { s.start with armed := 0, ticks := 0 } := by unfold DK.arm; rw [if_neg (by rw [h1]; decide)]; rfl
  have h4 : (s.start.arm 0).flush = calm s.n (keepAll s.start.kept s.start.waits) s.turns := by
    rw [h3]
    unfold DK.flush
    rw [if_neg (by show ¬ s.start.fell = true; rw [h1]; decide), if_neg (show ¬ (0 : Nat) = 1 by decide)]
    unfold DK.tick calm
    rw [← h2.1, ← h2.2]
    rfl
  exact ⟨_, h4, by
    have := ((h.start.arm 0 (by omega)).flush).kept
    rw [h4] at this
    exact this⟩
theorem calm_such {n : Nat} {K : Nat → List UInt8} {T : Nat} {a : Int} (h0 : 0 ≤ a) (h1 : a < n) : (calm n K T).noSuch a = false := by
  show decide (a < 0 ∨ (n : Int) ≤ a) = false
  rw [decide_eq_false_iff_not]
  omega
theorem calm_read {n : Nat} {K : Nat → List UInt8} {T : Nat} {a : Nat} (h1 : (a : Int) < n) : (calm n K T).readE a = 0 ∧ (calm n K T).readB a = K a := by
  have h := calm_such (n := n) (K := K) (T := T) (a := (a : Int)) (by omega) h1
  constructor
  · unfold DK.readE
    rw [h]
    rfl
  · unfold DK.readB
    rw [h]
    show (calm n K T).shown ((a : Int).toNat) = _
    rw [Int.toNat_natCast]
    rfl
end Go.Proofs.Ytkekikfiijbjmaa
