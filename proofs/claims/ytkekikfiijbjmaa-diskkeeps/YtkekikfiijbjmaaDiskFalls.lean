/- What a fall keeps, as plain data: for the laws DiskSubset and DiskKeeps. -/
import Derived.Test.YtkekikfiijbjmaaDiskPlain
namespace Go.Proofs.Ytkekikfiijbjmaa
open Go.RowKit

theorem keepSome_append (ks : List Bool) (a : Nat × List UInt8) : ∀ (l : List (Nat × List UInt8)) (f : Nat → List UInt8) (i : Nat),
    keepSome ks f i (l ++ [a]) = if ks.getD (i + l.length) false = true then keep1 (keepSome ks f i l) a else keepSome ks f i l
  | [], f, i => by simp [keepSome]
  | b :: l, f, i => by
    rw [List.cons_append]
    unfold keepSome
    rw [keepSome_append ks a l, List.length_cons, Nat.add_assoc i 1 l.length, Nat.add_comm 1 l.length]
/-- A sector behind a fall: what was there, or one of the writes that waited for it. -/
theorem keepSome_or (ks : List Bool) (j : Nat) : ∀ (l : List (Nat × List UInt8)) (f : Nat → List UInt8) (i : Nat),
    keepSome ks f i l j = f j ∨ ∃ a ∈ l, a.1 = j ∧ keepSome ks f i l j = a.2
  | [], f, i => Or.inl rfl
  | b :: l, f, i => by
    unfold keepSome
    rcases keepSome_or ks j l (if ks.getD i false = true then keep1 f b else f) (i + 1) with h | ⟨a, h1, h2, h3⟩
    · rw [h]
      by_cases hk : ks.getD i false = true
      · rw [if_pos hk]
        unfold keep1
        by_cases e : j = b.1
        · rw [if_pos e]
          exact Or.inr ⟨b, List.mem_cons_self, e.symm, rfl⟩
        · rw [if_neg e]
          exact Or.inl rfl
      · rw [if_neg hk]
        exact Or.inl rfl
    · exact Or.inr ⟨a, List.mem_cons_of_mem _ h1, h2, h3⟩

/-- A device that is up, not armed, with writes that wait. -/
def wet (n : Nat) (K : Nat → List UInt8) (W : List (Nat × List UInt8)) (T : Nat) : DK := ⟨n, K, W, 0, false, T, W.length + 1⟩
theorem wet_write {n : Nat} {K : Nat → List UInt8} {W : List (Nat × List UInt8)} {T a : Nat} {b : List UInt8} (h : (a : Int) < n) (hb : b.length = 512) : (wet n K W T).writeE a b = 0 ∧ (wet n K W T).write a b = wet n K (W ++ [(a, b)]) T := by
  have hs : (wet n K W T).noSuch a = false := by
    show decide ((a : Int) < 0 ∨ (n : Int) ≤ a) = false
    rw [decide_eq_false_iff_not]
    omega
  constructor
  · unfold DK.writeE
    rw [hs, if_neg (show ¬ ((wet n K W T).fell = true) from Bool.false_ne_true), if_neg (by rw [hb]; simp), if_neg (show ¬ ((wet n K W T).armed = 1) from Nat.zero_ne_one)]
  · unfold DK.write
    rw [hs, if_neg (show ¬ ((wet n K W T).fell = true) from Bool.false_ne_true), if_neg (by rw [hb]; simp), Int.toNat_natCast]
    unfold DK.tick wet
    rw [List.length_append]
    rfl
theorem wet_nowrite {n : Nat} {K : Nat → List UInt8} {W : List (Nat × List UInt8)} {T : Nat} {a : Int} {b : List UInt8} (h : a < 0 ∨ (n : Int) ≤ a) : (wet n K W T).writeE a b = 1 ∧ (wet n K W T).write a b = wet n K W T := by
  have hs : (wet n K W T).noSuch a = true := by
    show decide (a < 0 ∨ (n : Int) ≤ a) = true
    rw [decide_eq_true_iff]
    exact h
  constructor
  · unfold DK.writeE
    rw [hs, if_neg (show ¬ ((wet n K W T).fell = true) from Bool.false_ne_true), if_pos (Or.inl rfl)]
  · unfold DK.write
    rw [hs, if_neg (show ¬ ((wet n K W T).fell = true) from Bool.false_ne_true), if_pos (Or.inl rfl)]
/-- Behind a fall, started again. -/
theorem wet_fell (n : Nat) (K : Nat → List UInt8) (W : List (Nat × List UInt8)) (T : Nat) (ks : List Bool) : ((wet n K W T).crash ks).start = ⟨n, keepSome ks K 0 W, [], 0, false, T, 0⟩ := rfl
/-- A device that is up and where nothing waits shows what is kept. -/
theorem read_up {s : DK} (hf : s.fell = false) (hw : s.waits = []) {a : Nat} (h : (a : Int) < s.n) : s.readE a = 0 ∧ s.readB a = s.kept a := by
  have hs : s.noSuch a = false := by
    show decide ((a : Int) < 0 ∨ (s.n : Int) ≤ a) = false
    rw [decide_eq_false_iff_not]
    omega
  constructor
  · unfold DK.readE
    rw [hs, hf]
    rfl
  · unfold DK.readB
    rw [hs, hf, Int.toNat_natCast]
    unfold DK.shown
    rw [hw]
    rfl
end Go.Proofs.Ytkekikfiijbjmaa
