/- The log as plain data: what a sector bears for a turn, which frames stand as one record's, which records an opening reads. Nothing here speaks of the program. -/
import Derived.Test.YtdpoiieblbmofaaFrPlain
import Derived.Test.YtdpoiieblbmofaaSecPlain2
import Derived.Test.YtdpoiieblbmofaaLayPlain
import Derived.Test.YtdpoiieblbmofaaDiskPlain
namespace Go.Proofs.Ytdpoiieblbmofaa
open Go.RowKit

/-- What bytes of a sector bear for the turn t: a frame (of none, where they bear none), or ErrBad. -/
def bearsW (b : List UInt8) (t : Nat) : Fr × Int :=
  if (openR b).2.2.2 ≠ 0 then (zeroF, 5)
  else if (openR b).1 ≠ 77 ∨ (openR b).2.1 ≠ t then (zeroF, 0)
  else if (readF (openR b).2.2.1).2 ≠ 0 then (zeroF, 0) else ((readF (openR b).2.2.1).1, 0)
/-- What the sector of turn t bears, as an opening from the turn o on sees it; sh: the bytes of each turn's sector, R: how many sectors the ring has. -/
def frameW (sh : Nat → List UInt8) (R o t : Nat) : Fr × Int := if R ≤ t - o then (zeroF, 0) else bearsW (sh t) t

/-- The rest of the frames of one record, k of them, from the turn t on, behind acc. -/
def scanW (fr : Nat → Fr × Int) (h : Fr) : Nat → Nat → List Fr → List Fr × Int
  | 0, _, acc => (acc, 0)
  | k + 1, t, acc =>
    if (fr t).2 ≠ 0 then ([], (fr t).2)
    else if (fr t).1.first ≠ h.first ∨ (fr t).1.age ≠ h.age ∨ (fr t).1.of ≠ h.of then ([], 0)
    else scanW fr h k (t + 1) (acc ++ [(fr t).1])
def headBad (h : Fr) (t p A : Nat) : Prop := h.of < 1 ∨ h.first ≠ t ∨ h.age < p ∨ A ≤ h.age
instance (h : Fr) (t p A : Nat) : Decidable (headBad h t p A) := inferInstanceAs (Decidable (_ ∨ _))
/-- The frames that stand as one record's from the turn t on. -/
def partsW (fr : Nat → Fr × Int) (A t p : Nat) : List Fr × Int :=
  if (fr t).2 ≠ 0 then ([], (fr t).2)
  else if headBad (fr t).1 t p A then ([], 0)
  else scanW fr (fr t).1 ((fr t).1.of.toNat - 1) (t + 1) [(fr t).1]

/-- A log: its age, its turns, where its records begin and of which ages they are, and whether it has answered ErrDown. -/
structure LG where
  age : Nat
  first : Nat
  next : Nat
  starts : List (Nat × Nat)
  fallen : Bool

def LG.add (L : LG) (a k : Nat) : LG := { L with starts := L.starts ++ [(L.next, a)], next := L.next + k }
def LG.down (L : LG) : LG := { L with fallen := true }
def LG.least (L : LG) : Nat := match L.starts with | [] => L.age | p :: _ => p.2
/-- Bounds: the turns, and how many records there are. -/
structure LG.Ok (L : LG) (R : Nat) : Prop where
  age : L.age < 18446744073709551616
  le : L.first ≤ L.next
  ring : L.next ≤ L.first + R
  next : L.next < 9223372036854775808
  count : L.starts.length ≤ L.next - L.first
  turns : ∀ p ∈ L.starts, L.first ≤ p.1 ∧ p.1 < L.next ∧ p.2 < 18446744073709551616
  sorted : L.starts.Pairwise (fun a b => a.1 < b.1)

/-- What an opening reads: records and the log behind them, or an error. -/
def recallW (fr : Nat → Fr × Int) (A : Nat) : Nat → Nat → List (List UInt8) → LG → List (List UInt8) × LG × Int
  | 0, _, recs, L => (recs, L, 0)
  | k + 1, p, recs, L =>
    if (partsW fr A L.next p).2 ≠ 0 then ([], L, (partsW fr A L.next p).2)
    else if joinE (partsW fr A L.next p).1 ≠ 0 then (recs, L, 0)
    else recallW fr A k ((partsW fr A L.next p).1.headD zeroF).age (recs ++ [joinB (partsW fr A L.next p).1]) (L.add ((partsW fr A L.next p).1.headD zeroF).age (partsW fr A L.next p).1.length)

/-- The error of a frame is 0 or 5. -/
theorem bears_err (b : List UInt8) (t : Nat) : (bearsW b t).2 = 0 ∨ (bearsW b t).2 = 5 := by
  unfold bearsW
  repeat' split
  all_goals simp
theorem frame_err (sh : Nat → List UInt8) (R o t : Nat) : (frameW sh R o t).2 = 0 ∨ (frameW sh R o t).2 = 5 := by
  unfold frameW
  split
  · exact Or.inl rfl
  · exact bears_err _ _
theorem bears_may (b : List UInt8) (t : Nat) (h : 1 ≤ (bearsW b t).1.of) : mayF (bearsW b t).1 = true ∧ (bearsW b t).1.age < 18446744073709551616 ∧ (bearsW b t).1.first < 18446744073709551616 := by
  revert h
  unfold bearsW
  split
  · intro h; simp [zeroF] at h
  · split
    · intro h; simp [zeroF] at h
    · split
      · intro h; simp [zeroF] at h
      · rename_i h1
        intro _
        obtain ⟨a, _, c⟩ := bytes_read _ (show (readF (openR b).2.2.1).2 = 0 by omega)
        exact ⟨a, c⟩
theorem frame_may (sh : Nat → List UInt8) (R o t : Nat) (h : 1 ≤ (frameW sh R o t).1.of) : mayF (frameW sh R o t).1 = true ∧ (frameW sh R o t).1.age < 18446744073709551616 ∧ (frameW sh R o t).1.first < 18446744073709551616 ∧ t - o < R := by
  revert h
  unfold frameW
  split
  · intro h; simp [zeroF] at h
  · intro h
    obtain ⟨a, b, c⟩ := bears_may _ _ h
    exact ⟨a, b, c, by omega⟩
theorem bears_ok (b : List UInt8) (t : Nat) : (bearsW b t).1.ok := by
  unfold bearsW
  have hz : zeroF.ok := by unfold Fr.ok zeroF; simp
  split
  · exact hz
  · split
    · exact hz
    · split
      · exact hz
      · rename_i h1
        obtain ⟨a, b', c⟩ := bytes_read _ (show (readF (openR b).2.2.1).2 = 0 by omega)
        obtain ⟨m1, m2, m3⟩ := (may_iff _).1 a
        exact ⟨c.1, c.2, by dsimp only; omega, by dsimp only; omega, by dsimp only; omega⟩
theorem frame_ok (sh : Nat → List UInt8) (R o t : Nat) : (frameW sh R o t).1.ok := by
  unfold frameW
  split
  · unfold Fr.ok zeroF; simp
  · exact bears_ok _ _

/-- What scan answers without an error, and not nothing: what stood before, and so many frames, all within the ring. -/
theorem scan_some (sh : Nat → List UInt8) (R o : Nat) (h : Fr) (h1 : 1 ≤ h.of) : ∀ (k t : Nat) (acc : List Fr), (scanW (frameW sh R o) h k t acc).1 ≠ [] → acc ≠ [] →
    (scanW (frameW sh R o) h k t acc).1 = acc ++ (List.range k).map (fun i => (frameW sh R o (t + i)).1) ∧ (scanW (frameW sh R o) h k t acc).2 = 0 ∧ ∀ i, i < k → t + i - o < R
  | 0, t, acc, _, _ => ⟨by simp [scanW], rfl, fun i hi => absurd hi (by omega)⟩
  | k + 1, t, acc, hne, ha => by
    unfold scanW at hne ⊢
    split
    · rename_i hc; rw [if_pos hc] at hne; exact absurd rfl hne
    · rename_i hc
      rw [if_neg hc] at hne
      split
      · rename_i hd; rw [if_pos hd] at hne; exact absurd rfl hne
      · rename_i hd
        rw [if_neg hd] at hne
        obtain ⟨i1, i2, i3⟩ := scan_some sh R o h h1 k (t + 1) _ hne (by simp)
        have hof : (frameW sh R o t).1.of = h.of := Decidable.byContradiction fun x => hd (Or.inr (Or.inr x))
        obtain ⟨_, _, _, hr⟩ := frame_may sh R o t (by omega)
        refine ⟨?_, i2, fun i hi => ?_⟩
        · rw [i1, List.range_succ_eq_map, List.map_cons, List.map_map, List.append_assoc]
          have : (fun i => (frameW sh R o (t + 1 + i)).1) = ((fun i => (frameW sh R o (t + i)).1) ∘ Nat.succ) := by
            funext i; simp only [Function.comp, Nat.succ_eq_add_one]; rw [show t + 1 + i = t + (i + 1) by omega]
          rw [this]
          rfl
        · cases i with
          | zero => exact hr
          | succ i => have := i3 i (by omega); omega
/-- Frames that stand as one record's. -/
theorem parts_some (sh : Nat → List UInt8) (R o A t p : Nat) (h : (partsW (frameW sh R o) A t p).1 ≠ []) :
    (partsW (frameW sh R o) A t p).1 = (List.range (frameW sh R o t).1.of.toNat).map (fun i => (frameW sh R o (t + i)).1) ∧ (partsW (frameW sh R o) A t p).2 = 0 ∧ ¬ headBad (frameW sh R o t).1 t p A ∧
      (∀ i, i < (frameW sh R o t).1.of.toNat → t + i - o < R) ∧ (partsW (frameW sh R o) A t p).1.headD zeroF = (frameW sh R o t).1 := by
  unfold partsW at h ⊢
  split
  · rename_i hc; rw [if_pos hc] at h; exact absurd rfl h
  · rename_i hc
    rw [if_neg hc] at h
    split
    · rename_i hd; rw [if_pos hd] at h; exact absurd rfl h
    · rename_i hd
      rw [if_neg hd] at h
      have h1 : 1 ≤ (frameW sh R o t).1.of := by
        unfold headBad at hd
        omega
      obtain ⟨a, b, c⟩ := scan_some sh R o _ h1 _ _ _ h (by simp)
      obtain ⟨_, _, _, hr⟩ := frame_may sh R o t h1
      have e : (frameW sh R o t).1.of.toNat = ((frameW sh R o t).1.of.toNat - 1) + 1 := by omega
      refine ⟨?_, b, hd, fun i hi => ?_, ?_⟩
      · rw [a]
        generalize (frameW sh R o t).1.of.toNat - 1 = k at *
        rw [e, List.range_succ_eq_map, List.map_cons, List.map_map]
        have : (fun i => (frameW sh R o (t + 1 + i)).1) = ((fun i => (frameW sh R o (t + i)).1) ∘ Nat.succ) := by
          funext i; simp only [Function.comp, Nat.succ_eq_add_one]; rw [show t + 1 + i = t + (i + 1) by omega]
        rw [this]
        rfl
      · cases i with
        | zero => exact hr
        | succ i => have := c i (by omega); omega
      · rw [a]; rfl
theorem parts_len (sh : Nat → List UInt8) (R o A t p : Nat) (h : (partsW (frameW sh R o) A t p).1 ≠ []) (ht : o ≤ t) :
    1 ≤ (partsW (frameW sh R o) A t p).1.length ∧ (partsW (frameW sh R o) A t p).1.length ≤ 32 ∧ t + (partsW (frameW sh R o) A t p).1.length ≤ o + R ∧ ((partsW (frameW sh R o) A t p).1.headD zeroF).age < A := by
  obtain ⟨a, b, c, d, e⟩ := parts_some sh R o A t p h
  have h1 : 1 ≤ (frameW sh R o t).1.of ∧ (frameW sh R o t).1.age < A := by unfold headBad at c; omega
  obtain ⟨m, _⟩ := frame_may sh R o t h1.1
  obtain ⟨_, m2, _⟩ := (may_iff _).1 m
  have hl : (partsW (frameW sh R o) A t p).1.length = (frameW sh R o t).1.of.toNat := by rw [a]; simp
  have := d ((frameW sh R o t).1.of.toNat - 1) (by omega)
  rw [hl, e]
  omega
theorem parts_err (sh : Nat → List UInt8) (R o A t p : Nat) : (partsW (frameW sh R o) A t p).2 = 0 ∨ ((partsW (frameW sh R o) A t p).2 = 5 ∧ (partsW (frameW sh R o) A t p).1 = []) := by
  by_cases h : (partsW (frameW sh R o) A t p).1 = []
  · have key : ∀ (h : Fr) (k t : Nat) (acc : List Fr), (scanW (frameW sh R o) h k t acc).2 = 0 ∨ (scanW (frameW sh R o) h k t acc).2 = 5 := by
      intro h k
      induction k with
      | zero => intro t acc; exact Or.inl rfl
      | succ k ih =>
        intro t acc
        unfold scanW
        split
        · exact frame_err sh R o t
        · split
          · exact Or.inl rfl
          · exact ih _ _
    rcases (show (partsW (frameW sh R o) A t p).2 = 0 ∨ (partsW (frameW sh R o) A t p).2 = 5 by
      unfold partsW
      split
      · exact frame_err sh R o t
      · split
        · exact Or.inl rfl
        · exact key _ _ _ _) with h2 | h2
    · exact Or.inl h2
    · exact Or.inr ⟨h2, h⟩
  · exact Or.inl (parts_some sh R o A t p h).2.1
end Go.Proofs.Ytdpoiieblbmofaa
