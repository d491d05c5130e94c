/- Texts of ours, one behind the other: MgArgs. -/
import Derived.Test.YtcjepiihknjeiaaG2
import Derived.Test.YtcjepiihknjeiaaG8
import Derived.Test.YtcjepiihknjeiaaG21
import Derived.Test.YtcjepiihknjeiaaG22
/- Entries, and lists of them, that came in, by shapes; which lists as one are right. -/
namespace Go.Proofs.Ytcjepiihknjeiaa.QH
open Go.RowKit

def enSh : Sh := .struct (.cons .str (.cons (.struct (.cons (.int .u64) (.cons (.int .i64) (.cons (.int .i64) .nil)))) .nil))
theorem en_reads {lim : Nat → Nat → Prop} {w : World} {cs : List Value} {d : Dt} (h : Reads lim w enSh cs d) : ∃ x : En, cs = eC x ∧ lim x.1.size 1 := by
  obtain ⟨c1, c2, d1, d2, rfl, _, rfl, ⟨s, rfl, _, hs, _⟩, c3, c4, d3, d4, rfl, _, rfl, h3, rfl, _⟩ := h
  obtain ⟨c5, c6, d5, d6, rfl, _, rfl, ⟨n1, rfl, _, _⟩, c7, c8, d7, d8, rfl, _, rfl, ⟨n2, rfl, _, _⟩, c9, c10, d9, d10, rfl, _, rfl, ⟨n3, rfl, _, _⟩, rfl, _⟩ := h3
  exact ⟨(s, n1, n2, n3), rfl, hs⟩
theorem ers_of_reads {lim : Nat → Nat → Prop} {w : World} {v : Value} {d : Dt} (h : Reads lim w (.row 40 enSh) [v] d) : ∃ L : List En, ER w v L ∧ (∀ x ∈ L, lim x.1.size 1) ∧ lim L.length 40 :=
  krow_of_reads (k := 4) (C := eC) (P := fun x => lim x.1.size 1) e0 eC_len (by omega) rfl (fun h => en_reads h) h
theorem lr_of_reads {lim : Nat → Nat → Prop} {w : World} {v : Value} {d : Dt} (h : Reads lim w (.row 24 (.row 40 enSh)) [v] d) : ∃ LL : List (List En), LR w v LL ∧ (∀ l ∈ LL, (∀ x ∈ l, lim x.1.size 1) ∧ lim l.length 40) ∧ lim LL.length 24 := by
  obtain ⟨l, h1, h2, h3⟩ := krow_of_reads (k := 1) (X := Value × List En) (C := fun x => [x.1]) (P := fun x => ER w x.1 x.2 ∧ (∀ y ∈ x.2, lim y.1.size 1) ∧ lim x.2.length 40) (.nilFunc, []) (fun _ => rfl) (by omega) rfl (fun {cs d} h => by
    obtain ⟨a, cap, ds, rfl, _⟩ := id h
    obtain ⟨L, g1, g2, g3⟩ := ers_of_reads h
    exact ⟨(_, L), rfl, g1, g2, g3⟩) h
  have hfm : l.flatMap (fun x => [x.1]) = l.map Prod.fst := by
    clear h1 h2 h3
    induction l with
    | nil => rfl
    | cons x l ih => rw [List.flatMap_cons, ih]; rfl
  rw [hfm] at h1
  refine ⟨l.map Prod.snd, ⟨l.map Prod.fst, by simp, ?_, fun j s m hs hm => ?_⟩, fun m hm => ?_, by rw [List.length_map]; exact h3⟩
  · obtain ⟨a, cap, e, k1, k2, k3, k4, k5⟩ := h1
    refine ⟨a, cap, by rw [e, List.length_map], by rw [List.length_map]; exact k1, k2, k3, ?_⟩
    rcases k5 with k5 | k5
    · exact Or.inl (by rw [List.eq_nil_of_length_eq_zero k5]; rfl)
    · exact Or.inr k5
  · rw [List.getElem?_map] at hs hm
    cases hl : l[j]? with
    | none => rw [hl] at hs; cases hs
    | some x =>
      rw [hl] at hs hm
      obtain rfl := Option.some.inj hs
      obtain rfl := Option.some.inj hm
      exact (h2 x (List.mem_of_getElem? hl)).1
  · obtain ⟨x, hx, rfl⟩ := List.mem_map.1 hm
    exact (h2 x hx).2
theorem tot_bound {n : Nat} : ∀ {LL : List (List En)}, (∀ l ∈ LL, l.length ≤ n) → totE LL ≤ LL.length * n
  | [], _ => by simp [totE]
  | l :: LL, h => by
    rw [totE_cons, List.length_cons, Nat.succ_mul]
    have := h l (by simp)
    have := tot_bound (LL := LL) (fun m hm => h m (by simp [hm]))
    omega
/-- What the bounds of the Upto form say. -/
theorem upto_tot {LL : List (List En)} (h : ∀ l ∈ LL, (∀ x ∈ l, limUpto x.1.size 1) ∧ limUpto l.length 40) (hl : limUpto LL.length 24) : (totE LL + 1) * 40 ≤ 140737488355328 ∧ ∀ l ∈ LL, ∀ x ∈ l, x.1.size ≤ 140737488351232 := by
  have h1 := tot_bound (n := 1048576) (LL := LL) (fun l hm => (h l hm).2)
  unfold limUpto at hl
  have h2 : LL.length * 1048576 ≤ 1048576 * 1048576 := Nat.mul_le_mul_right _ hl
  refine ⟨by omega, fun l hm x hx => ?_⟩
  have := (h l hm).1 x hx
  unfold limUpto at this
  omega

theorem SE_right {l : List En} (h : SE l) (hk : ∀ x ∈ l, kmay x.1 = true) : rightE l = true := by
  rw [rightE_all]
  intro i hi
  rw [okE_at hi, hk _ (List.getElem_mem hi), Bool.true_and, Bool.or_eq_true]
  by_cases h0 : i = 0
  · exact Or.inl (decide_eq_true h0)
  · exact Or.inr ((List.pairwise_iff_getElem.1 h) (i - 1) i (by omega) hi (by omega))
theorem mrg_right_E {LL : List (List En)} (h : ∀ l ∈ LL, rightE l = true) : rightE (mrgE LL) = true :=
  SE_right (SE.mrg LL) fun x hx => by
    obtain ⟨l, hl, hx⟩ := mrg_mem LL x hx
    exact (rightE_SE (h l hl)).2 x hx
theorem mrgR_ok {LL : List (List En)} (hn : LL.length ≤ 16) (h : ∀ l ∈ LL, rightE l = true) : mrgR LL = (mrgE LL, 0) := by
  unfold mrgR
  rw [if_neg (by omega), if_pos (List.all_eq_true.2 h)]
theorem mrgR_zero {LL : List (List En)} (h : (mrgR LL).2 = 0) : (∀ l ∈ LL, rightE l = true) ∧ mrgR LL = (mrgE LL, 0) := by
  unfold mrgR at *
  split at h
  · cases h
  · split at h
    · rename_i h1 h2
      rw [if_neg h1, if_pos h2]
      exact ⟨List.all_eq_true.1 h2, rfl⟩
    · cases h
theorem mrgR_else {LL : List (List En)} (h : (mrgR LL).2 ≠ 0) : (mrgR LL).1 = [] := by
  unfold mrgR at *
  split at h
  · rename_i h1; rw [if_pos h1]
  · rename_i h1
    split at h
    · exact absurd rfl h
    · rename_i h2; rw [if_neg h1, if_neg h2]
/-- Two lists that read as the same entries are the same. -/
theorem eplain_any (s1 s2 : Value) (l : List En) (w : World) (h1 : ER w s1 l) (h2 : ER w s2 l) : Calls Try.prog 14 #[s1, s2] w fun e w' => e = .returned (.bool true) ∧ Below w.heap.size w w' :=
  HEnt.plain_any s1 s2 l w h1 h2
end Go.Proofs.Ytcjepiihknjeiaa.QH
