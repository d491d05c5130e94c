/- Texts of ours, one behind the other: PlLastP. -/
import Derived.Test.YtehafkbndjifaaaG24
/- The last ones of operations that are a batch are a batch; nothing here speaks of the program. -/
namespace Go.Proofs.Ytehafkbndjifaaa
open Go.RowKit

theorem sumD_set (l : List Dat) (i : Nat) (o : Dat) : sumD (l.set i o) ≤ sumD l + (o.1.size + o.2.1.length) := by
  induction l generalizing i with
  | nil => simp [sumD]
  | cons x l ih =>
    cases i with
    | zero => simp only [List.set_cons_zero, sumD]; omega
    | succ i =>
      have := ih i
      simp only [List.set_cons_succ, sumD]
      omega
theorem sumD_ins (l : List Dat) (o : Dat) : sumD (insD l o) ≤ sumD l + (o.1.size + o.2.1.length) ∧ (insD l o).length ≤ l.length + 1 ∧ 0 < (insD l o).length := by
  unfold insD
  split
  · rename_i hs
    have hlt : atD l o < l.length := by
      cases hg : l[atD l o]? with
      | none => rw [hg] at hs; cases hs
      | some x => exact (List.getElem?_eq_some_iff.1 hg).1
    exact ⟨sumD_set l _ o, by rw [List.length_set]; omega, by rw [List.length_set]; omega⟩
  · refine ⟨?_, ?_, by simp; omega⟩
    · have e : sumD l = sumD (l.take (atD l o)) + sumD (l.drop (atD l o)) := by rw [← sumD_app, List.take_append_drop]
      rw [sumD_app, sumD]
      omega
    · have := atD_le l o
      rw [List.length_append, List.length_take, List.length_cons, List.length_drop]
      omega
theorem last_sum (l : List Dat) : sumD (lastD l) ≤ sumD l ∧ (lastD l).length ≤ l.length ∧ (0 < l.length → 0 < (lastD l).length) := by
  induction l using snoc_ind with
  | h0 => exact ⟨Nat.le_refl _, Nat.le_refl _, fun h => h⟩
  | h1 l o ih =>
    obtain ⟨a, b, c⟩ := ih
    obtain ⟨d, e, f⟩ := sumD_ins (lastD l) o
    rw [lastD_snoc, sumD_app]
    refine ⟨?_, ?_, fun _ => f⟩
    · have : sumD [o] = o.1.size + o.2.1.length := by simp [sumD]
      omega
    · rw [List.length_append]
      simp only [List.length_cons, List.length_nil]
      omega
theorem chk_last {l : List Dat} (h : chkE l = 0) : chkE (lastD l) = 0 := by
  obtain ⟨a, b, c⟩ := last_sum l
  have hm : ∀ x ∈ lastD l, x ∈ l := fun x hx => by
    obtain ⟨t, ht, _⟩ := ((lastD_all l).2 x).1 hx
    exact List.mem_of_getElem? ht
  unfold chkE at h ⊢
  split at h
  · cases h
  · rename_i h0
    split at h
    · cases h
    · rename_i h1
      split at h
      · cases h
      · rename_i h2
        split at h
        · cases h
        · rename_i h3
          split at h
          · cases h
          · rename_i h4
            have c0 := c (by omega)
            rw [if_neg (by omega)]
            have g1 : ¬ (lastD l).any wrongD = true := by
              intro hx
              obtain ⟨x, hx, hw⟩ := List.any_eq_true.1 hx
              exact h1 (List.any_eq_true.2 ⟨x, hm x hx, hw⟩)
            have g3 : ¬ (lastD l).any largeD = true := by
              intro hx
              obtain ⟨x, hx, hw⟩ := List.any_eq_true.1 hx
              exact h3 (List.any_eq_true.2 ⟨x, hm x hx, hw⟩)
            rw [if_neg g1, if_neg (by omega), if_neg g3, if_neg]
            unfold sizeN at h4 ⊢
            omega
end Go.Proofs.Ytehafkbndjifaaa
