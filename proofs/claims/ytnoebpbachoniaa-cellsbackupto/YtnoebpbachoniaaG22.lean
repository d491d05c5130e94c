/- Texts of ours, one behind the other: CelLayP. -/
import Derived.Test.YtnoebpbachoniaaG4
/- Objects that are laid one behind the other, as plain data; nothing here speaks of the program. -/
namespace Go.Proofs.Ytnoebpbachoniaa
open Go.RowKit

/-- An object as it came: kind, pointers, data. -/
abbrev Ob := Int × List Int × List Int
/-- May it have a head? -/
def goodO (x : Ob) : Prop := x.2.1.length ≤ 255 ∧ 0 ≤ x.1 ∧ x.1 ≤ 15 ∧ 1 + x.2.1.length + x.2.2.length < 1048576
instance (x : Ob) : Decidable (goodO x) := by unfold goodO; infer_instance
def hdO (x : Ob) : Int := (1 + (x.2.1.length : Int) + (x.2.2.length : Int)) * 4096 + (x.2.1.length : Int) * 16 + x.1
def w32 (ps : List Int) : List Int := ps.map IntKind.u32.wrap
def wrdO (x : Ob) : List Int := if goodO x then hdO x :: (w32 x.2.1 ++ x.2.2) else []
/-- The words of them. -/
def layW (L : List Ob) : List Int := 0 :: L.flatMap wrdO
theorem layW_nil : layW [] = [0] := rfl
theorem layW_snoc (L : List Ob) (x : Ob) : layW (L ++ [x]) = layW L ++ wrdO x := by simp [layW]
theorem layW_app (L M : List Ob) : layW (L ++ M) = layW L ++ M.flatMap wrdO := by simp [layW]
theorem wrdO_good {x : Ob} (h : goodO x) : wrdO x = hdO x :: (w32 x.2.1 ++ x.2.2) := by simp [wrdO, h]
theorem wrdO_bad {x : Ob} (h : ¬ goodO x) : wrdO x = [] := by simp [wrdO, h]
theorem w32_len (ps : List Int) : (w32 ps).length = ps.length := List.length_map _
theorem wrdO_len (x : Ob) : (wrdO x).length ≤ 1048575 := by
  by_cases h : goodO x
  · rw [wrdO_good h, List.length_cons, List.length_append, w32_len]
    have := h.2.2.2
    omega
  · rw [wrdO_bad h]; simp
theorem layW_len : ∀ L : List Ob, (layW L).length ≤ 1 + L.length * 1048575
  | [] => by simp [layW]
  | x :: L => by
    have h1 := layW_len L
    have h2 := wrdO_len x
    simp only [layW, List.flatMap_cons, List.length_cons, List.length_append] at h1 ⊢
    omega
theorem layW_pos (L : List Ob) : 1 ≤ (layW L).length := by simp [layW]
theorem hdO_parts {x : Ob} (h : goodO x) : 0 ≤ hdO x ∧ hdO x < 4294967296 ∧ szN (hdO x) = 1 + x.2.1.length + x.2.2.length ∧ ptN (hdO x) = x.2.1.length ∧ hdO x % 16 = x.1 := by
  obtain ⟨h1, h2, h3, h4⟩ := h
  unfold hdO szN ptN
  refine ⟨by omega, by omega, by omega, by omega, by omega⟩
theorem layW_u32 {L : List Ob} (h : ∀ x ∈ L, U32 x.2.2) : U32 (layW L) := by
  intro z hz
  simp only [layW, List.mem_cons, List.mem_flatMap] at hz
  rcases hz with rfl | ⟨x, hx, hz⟩
  · omega
  · by_cases hg : goodO x
    · rw [wrdO_good hg] at hz
      simp only [List.mem_cons, List.mem_append, w32, List.mem_map] at hz
      rcases hz with rfl | ⟨y, _, rfl⟩ | hz
      · have := hdO_parts hg; omega
      · rw [IntKind.wrap_u32]; omega
      · exact h x hx z hz
    · rw [wrdO_bad hg] at hz; cases hz
/-- What stands at an object's place. -/
theorem lay_at (M post : List Ob) {x : Ob} (h : goodO x) : okH (layW (M ++ x :: post)) (layW M).length ∧ wd (layW (M ++ x :: post)) (layW M).length = hdO x ∧ ptrsO (layW (M ++ x :: post)) ((layW M).length, hdO x) = w32 x.2.1 ∧ dataO (layW (M ++ x :: post)) ((layW M).length, hdO x) = x.2.2 := by
  obtain ⟨p1, p2, p3, p4, p5⟩ := hdO_parts h
  have e : layW (M ++ x :: post) = layW M ++ (hdO x :: (w32 x.2.1 ++ x.2.2 ++ post.flatMap wrdO)) := by
    rw [layW_app, List.flatMap_cons, wrdO_good h]; simp
  have hw : wd (layW (M ++ x :: post)) (layW M).length = hdO x := by
    rw [wd, e, List.getElem?_append_right (Nat.le_refl _), Nat.sub_self]; rfl
  have hd : ∀ k, (layW (M ++ x :: post)).drop ((layW M).length + 1 + k) = (w32 x.2.1 ++ x.2.2 ++ post.flatMap wrdO).drop k := by
    intro k
    rw [e, Nat.add_assoc, List.drop_append, List.drop_eq_nil_of_le (by omega), List.nil_append, show (layW M).length + (1 + k) - (layW M).length = k + 1 by omega, List.drop_succ_cons]
  refine ⟨⟨?_, ?_, ?_⟩, hw, ?_, ?_⟩
  · rw [e, List.length_append, List.length_cons]; omega
  · rw [hw, p3, p4]; omega
  · rw [hw, p3, e, List.length_append, List.length_cons, List.length_append, List.length_append, w32_len]; omega
  · have := hd 0
    simp only [ptrsO, p4]
    rw [Nat.add_zero] at this
    rw [this, List.drop_zero, List.append_assoc, ← w32_len x.2.1, List.take_left]
  · simp only [dataO, p4, p3]
    rw [hd, ← w32_len x.2.1, List.append_assoc, List.drop_left, show 1 + (w32 x.2.1).length + x.2.2.length - 1 - (w32 x.2.1).length = x.2.2.length by omega, List.take_left]
theorem lay_obs (n : Nat) : ∀ (M post : List Ob), M.length = n → ∃ Z, obs (layW (M ++ post)) 1 = Z ++ obs (layW (M ++ post)) (layW M).length := by
  induction n with
  | zero =>
    intro M post h
    obtain rfl := List.length_eq_zero_iff.1 h
    exact ⟨[], rfl⟩
  | succ n ih =>
    intro M post h
    rcases List.eq_nil_or_concat M with rfl | ⟨M, x, rfl⟩
    · simp at h
    · rw [List.concat_eq_append] at h ⊢
      obtain ⟨Z, hZ⟩ := ih M (x :: post) (by simpa using h)
      rw [show M ++ [x] ++ post = M ++ x :: post by simp, layW_snoc]
      by_cases hg : goodO x
      · obtain ⟨k1, k2, _, _⟩ := lay_at M post hg
        obtain ⟨p1, p2, p3, p4, p5⟩ := hdO_parts hg
        refine ⟨Z ++ [((layW M).length, hdO x)], ?_⟩
        rw [hZ, obs_step k1, k2, p3, wrdO_good hg, List.length_append, List.length_cons, List.length_append, w32_len, List.append_assoc]
        rw [show (layW M).length + (x.2.1.length + x.2.2.length + 1) = (layW M).length + (1 + x.2.1.length + x.2.2.length) by omega]
        rfl
      · rw [wrdO_bad hg, List.append_nil]
        exact ⟨Z, hZ⟩
end Go.Proofs.Ytnoebpbachoniaa
