/- Texts of ours, one behind the other: QSortPlain. -/
import Derived.Test.YtbannlomemkjbaaG3
/- A list sorted from its end on: plain. -/
namespace Go.Proofs.Ytbannlomemkjbaa
section
variable {α : Type}
theorem ins_mem (lt : α → α → Bool) (x : α) (Z : List α) : ∀ y ∈ ins lt x Z, y = x ∨ y ∈ Z := by
  induction Z with
  | nil => intro y hy; simp [ins] at hy; exact Or.inl hy
  | cons z Z ih =>
    intro y hy
    unfold ins at hy
    split at hy
    · rcases List.mem_cons.1 hy with h | h
      · exact Or.inl h
      · exact Or.inr h
    · rcases List.mem_cons.1 hy with h | h
      · exact Or.inr (by rw [h]; exact List.mem_cons_self)
      · rcases ih y h with h | h
        · exact Or.inl h
        · exact Or.inr (List.mem_cons_of_mem _ h)
theorem ins_sorted {lt : α → α → Bool} (O : Order lt) (x : α) (Z : List α) (h : Z.Pairwise fun a b => lt b a = false) : (ins lt x Z).Pairwise fun a b => lt b a = false := by
  induction Z with
  | nil => simp [ins]
  | cons z Z ih =>
    obtain ⟨h1, h2⟩ := List.pairwise_cons.1 h
    unfold ins
    split
    · rename_i hlt
      refine List.pairwise_cons.2 ⟨fun y hy => ?_, h⟩
      rcases List.mem_cons.1 hy with rfl | hy
      · exact O.asym hlt
      · exact O.ntr x z y (O.asym hlt) (h1 y hy)
    · rename_i hlt
      refine List.pairwise_cons.2 ⟨fun y hy => ?_, ih h2⟩
      rcases ins_mem lt x Z y hy with rfl | hy
      · simpa using hlt
      · exact h1 y hy
theorem srt_sorted {lt : α → α → Bool} (O : Order lt) (l : List α) : (srt lt l).Pairwise fun a b => lt b a = false := by
  suffices h : ∀ (l Z : List α), Z.Pairwise (fun a b => lt b a = false) → (l.foldl (fun Z x => ins lt x Z) Z).Pairwise fun a b => lt b a = false from h l [] List.Pairwise.nil
  intro l
  induction l with
  | nil => intro Z h; exact h
  | cons x l ih => intro Z h; exact ih _ (ins_sorted O x Z h)
/-- Where it goes, found from the end on. -/
theorem ins_split {lt : α → α → Bool} (x : α) : ∀ (Z : List α) (p : Nat), p ≤ Z.length → (∀ j (h : j < Z.length), j < p → lt x Z[j] = false) → (∀ (h : p < Z.length), lt x Z[p] = true) → ins lt x Z = Z.take p ++ x :: Z.drop p := by
  intro Z
  induction Z with
  | nil => intro p hp _ _; simp at hp; subst hp; rfl
  | cons z Z ih =>
    intro p hp h1 h2
    cases p with
    | zero =>
      have := h2 (by simp)
      simp only [List.getElem_cons_zero] at this
      unfold ins
      rw [if_pos this]
      rfl
    | succ p =>
      have h0 := h1 0 (by simp) (by omega)
      simp only [List.getElem_cons_zero] at h0
      unfold ins
      rw [if_neg (by rw [h0]; exact Bool.false_ne_true)]
      rw [ih p (by simpa using hp) (fun j hj hjp => by have := h1 (j + 1) (by simp; omega) (by omega); simpa using this) (fun h => by have := h2 (by simp; omega); simpa using this)]
      rfl
theorem ins_end {lt : α → α → Bool} (O : Order lt) (x : α) (Z : List α) (hs : Z.Pairwise fun a b => lt b a = false) (p : Nat) (hp : p ≤ Z.length) (h1 : p = 0 ∨ ∃ h : p - 1 < Z.length, lt x Z[p - 1] = false) (h2 : ∀ (h : p < Z.length), lt x Z[p] = true) : ins lt x Z = Z.take p ++ x :: Z.drop p := by
  refine ins_split x Z p hp (fun j hj hjp => ?_) h2
  rcases h1 with h1 | ⟨h, h1⟩
  · omega
  · by_cases e : j = p - 1
    · subst e; exact h1
    · exact O.ntr _ _ _ (List.pairwise_iff_getElem.1 hs j (p - 1) hj h (by omega)) h1
end
end Go.Proofs.Ytbannlomemkjbaa
