/- Texts of ours, one behind the other: CelPlain. -/
import Derived.WalkKit
/- The objects of words, as plain data; nothing here speaks of the program. -/
namespace Go.Proofs.Ytnoebpbachoniaa
open Go.RowKit

def szN (h : Int) : Nat := (h / 4096).toNat
def ptN (h : Int) : Nat := (h / 16 % 256).toNat
/-- The word at a place. -/
def wd (ws : List Int) (k : Nat) : Int := ws[k]?.getD 0
theorem wd_get {ws : List Int} {k : Nat} (h : k < ws.length) : ws[k]? = some (wd ws k) := by simp [wd, List.getElem?_eq_getElem h]
/-- All of them are words. -/
def U32 (ws : List Int) : Prop := ∀ h ∈ ws, 0 ≤ h ∧ h < 4294967296
theorem U32.wd {ws : List Int} (h : U32 ws) (k : Nat) : 0 ≤ wd ws k ∧ wd ws k < 4294967296 := by
  by_cases hk : k < ws.length
  · simp only [Go.Proofs.Ytnoebpbachoniaa.wd, List.getElem?_eq_getElem hk, Option.getD_some]
    exact h _ (List.getElem_mem hk)
  · simp [Go.Proofs.Ytnoebpbachoniaa.wd, List.getElem?_eq_none (Nat.le_of_not_lt hk)]
theorem szN_int {h : Int} (h0 : 0 ≤ h) : ((szN h : Nat) : Int) = h / 4096 := by unfold szN; omega
theorem ptN_int (h : Int) : ((ptN h : Nat) : Int) = h / 16 % 256 := by unfold ptN; omega
theorem szN_lt {h : Int} (h1 : h < 4294967296) : szN h < 1048576 := by unfold szN; omega
theorem ptN_lt (h : Int) : ptN h < 256 := by unfold ptN; omega

/-- May an object begin here? -/
def okH (ws : List Int) (p : Nat) : Prop := p < ws.length ∧ ptN (wd ws p) < szN (wd ws p) ∧ szN (wd ws p) ≤ ws.length - p
instance (ws : List Int) (p : Nat) : Decidable (okH ws p) := by unfold okH; infer_instance
def ob (ws : List Int) : Nat → Nat → List (Nat × Int)
  | 0, _ => []
  | f + 1, p => if okH ws p then (p, wd ws p) :: ob ws f (p + szN (wd ws p)) else []
/-- The objects from a place on: places and heads. -/
def obs (ws : List Int) (p : Nat) : List (Nat × Int) := ob ws (ws.length - p) p
theorem ob_fuel (ws : List Int) : ∀ (f g p : Nat), ws.length - p ≤ f → ws.length - p ≤ g → ob ws f p = ob ws g p
  | 0, 0, _, _, _ => rfl
  | 0, g + 1, p, hf, _ => by
    have : ¬ okH ws p := fun h => by have := h.1; omega
    simp [ob, this]
  | f + 1, 0, p, _, hg => by
    have : ¬ okH ws p := fun h => by have := h.1; omega
    simp [ob, this]
  | f + 1, g + 1, p, hf, hg => by
    simp only [ob]
    split
    · rename_i h
      obtain ⟨h1, h2, h3⟩ := h
      rw [ob_fuel ws f g _ (by omega) (by omega)]
    · rfl
theorem obs_step {ws : List Int} {p : Nat} (h : okH ws p) : obs ws p = (p, wd ws p) :: obs ws (p + szN (wd ws p)) := by
  obtain ⟨h1, h2, h3⟩ := h
  unfold obs
  obtain ⟨f, hf⟩ : ∃ f, ws.length - p = f + 1 := ⟨ws.length - p - 1, by omega⟩
  rw [hf, ob, if_pos ⟨h1, h2, h3⟩, ob_fuel ws f (ws.length - (p + szN (wd ws p))) _ (by omega) (by omega)]
theorem obs_stop {ws : List Int} {p : Nat} (h : ¬ okH ws p) : obs ws p = [] := by
  unfold obs
  cases ws.length - p with
  | zero => rfl
  | succ f => simp [ob, h]
/-- Where the objects that came end. -/
def endO (pre : List (Nat × Int)) : Nat := pre.foldl (fun _ x => x.1 + szN x.2) 1
theorem endO_snoc (pre : List (Nat × Int)) (x : Nat × Int) : endO (pre ++ [x]) = x.1 + szN x.2 := by simp [endO]
/-- What comes behind objects is what begins where they end. -/
theorem obs_split {ws : List Int} : ∀ {pre rest : List (Nat × Int)} {p : Nat}, obs ws p = pre ++ rest → rest = obs ws (pre.foldl (fun _ x => x.1 + szN x.2) p)
  | [], rest, p, h => by simpa using h.symm
  | x :: pre, rest, p, h => by
    by_cases hk : okH ws p
    · rw [obs_step hk] at h
      simp only [List.cons_append, List.cons.injEq] at h
      obtain ⟨rfl, h⟩ := h
      exact obs_split (p := p + szN (wd ws p)) h
    · rw [obs_stop hk] at h
      simp at h
theorem obs_head {ws : List Int} {p : Nat} {x : Nat × Int} {rest : List (Nat × Int)} (h : obs ws p = x :: rest) : x.1 = p ∧ x.2 = wd ws p ∧ okH ws p ∧ rest = obs ws (p + szN (wd ws p)) := by
  by_cases hk : okH ws p
  · rw [obs_step hk] at h
    simp only [List.cons.injEq] at h
    obtain ⟨rfl, h⟩ := h
    exact ⟨rfl, rfl, hk, h.symm⟩
  · rw [obs_stop hk] at h
    simp at h
theorem obs_nil {ws : List Int} {p : Nat} (h : obs ws p = []) : ¬ okH ws p := fun hk => by rw [obs_step hk] at h; simp at h
/-- One object more. -/
theorem obs_next {ws : List Int} {pre rest : List (Nat × Int)} {x : Nat × Int} (h : obs ws 1 = pre ++ x :: rest) : x.1 = endO pre ∧ x.2 = wd ws x.1 ∧ okH ws x.1 ∧ rest = obs ws (endO (pre ++ [x])) := by
  have h1 := obs_split h
  obtain ⟨a, b, c, d⟩ := obs_head h1.symm
  have e : endO pre = pre.foldl (fun _ x => x.1 + szN x.2) 1 := rfl
  rw [← e] at a b c d
  refine ⟨a, by rw [a]; exact b, by rw [a]; exact c, ?_⟩
  rw [endO_snoc, d, a, b]
theorem endO_le {ws : List Int} {pre rest : List (Nat × Int)} (h : obs ws 1 = pre ++ rest) : 1 ≤ endO pre ∧ (endO pre ≤ ws.length ∨ endO pre = 1) := by
  rcases List.eq_nil_or_concat pre with rfl | ⟨q, x, rfl⟩
  · exact ⟨Nat.le_refl _, Or.inr rfl⟩
  · rw [List.concat_eq_append, List.append_assoc] at h
    obtain ⟨a, b, c, d⟩ := obs_next h
    rw [List.concat_eq_append, endO_snoc]
    obtain ⟨c1, c2, c3⟩ := c
    rw [← b] at c2 c3
    exact ⟨by omega, Or.inl (by omega)⟩
/-- The objects ahead end at or ahead of the place. -/
theorem obs_ahead {ws : List Int} : ∀ {pre : List (Nat × Int)} {rest : List (Nat × Int)} {x : Nat × Int} {p : Nat}, obs ws p = pre ++ x :: rest → p ≤ x.1 ∧ ∀ y ∈ pre, y.1 < x.1
  | [], rest, x, p, h => by
    obtain ⟨a, _⟩ := obs_head (by simpa using h)
    exact ⟨Nat.le_of_eq a.symm, fun y hy => by cases hy⟩
  | z :: pre, rest, x, p, h => by
    obtain ⟨a, b, c, d⟩ := obs_head (by simpa using h)
    obtain ⟨e, f⟩ := obs_ahead (ws := ws) (pre := pre) (rest := rest) (x := x) (p := p + szN (wd ws p)) d.symm
    obtain ⟨c1, c2, c3⟩ := c
    refine ⟨by omega, fun y hy => ?_⟩
    cases hy with
    | head => omega
    | tail _ hy => exact f y hy
theorem obs_mem {ws : List Int} {x : Nat × Int} (h : x ∈ obs ws 1) : 1 ≤ x.1 ∧ x.2 = wd ws x.1 ∧ okH ws x.1 := by
  obtain ⟨pre, rest, hs⟩ := List.append_of_mem h
  obtain ⟨a, b, c, d⟩ := obs_next hs
  exact ⟨(obs_ahead hs).1, b, c⟩
/-- Of each word: does an object begin there? -/
def marks (n : Nat) (pre : List (Nat × Int)) : List Bool := (List.range n).map fun k => decide (k ∈ pre.map Prod.fst)
theorem marks_length (n : Nat) (pre : List (Nat × Int)) : (marks n pre).length = n := by simp [marks]
theorem marks_nil (n : Nat) : marks n [] = List.replicate n false := by
  apply List.ext_getElem?
  intro k
  simp only [marks, List.map_nil, List.not_mem_nil, decide_false, List.getElem?_map, List.getElem?_replicate]
  by_cases h : k < n
  · simp [h]
  · simp [h]
theorem marks_snoc (n : Nat) (pre : List (Nat × Int)) (x : Nat × Int) : marks n (pre ++ [x]) = (marks n pre).set x.1 true := by
  apply List.ext_getElem?
  intro k
  rw [List.getElem?_set]
  by_cases h : k < n
  · by_cases hk : x.1 = k
    · subst hk; simp [marks, h]
    · have : ¬ k = x.1 := fun e => hk e.symm
      simp [marks, h, hk, this]
  · simp [marks, h]
    intro _; omega
theorem marks_get {n k : Nat} (pre : List (Nat × Int)) (h : k < n) : (marks n pre)[k]? = some (decide (k ∈ pre.map Prod.fst)) := by simp [marks, h]
/-- None, or an object's place. -/
def isPl (n : Nat) (Z : List (Nat × Int)) (a : Int) : Bool := decide (a = 0) || (decide (0 < a) && decide (a < n) && decide (a.toNat ∈ Z.map Prod.fst))
/-- The pointers of an object. -/
def ptrsO (ws : List Int) (x : Nat × Int) : List Int := (ws.drop (x.1 + 1)).take (ptN x.2)
def dataO (ws : List Int) (x : Nat × Int) : List Int := (ws.drop (x.1 + 1 + ptN x.2)).take (szN x.2 - 1 - ptN x.2)
/-- Is it a heap with these roots? -/
def heapB (ws rs : List Int) : Bool := decide (endO (obs ws 1) = ws.length) && (obs ws 1).all (fun x => (ptrsO ws x).all (isPl ws.length (obs ws 1))) && rs.all (isPl ws.length (obs ws 1))
def rightB (ws rs : List Int) : Bool := decide (1 ≤ ws.length) && decide (ws.length ≤ 1048576) && decide (wd ws 0 = 0) && decide (rs.length ≤ 16) && heapB ws rs
/-- The object at a place. -/
def fndO (ws : List Int) (a : Int) : Option (Nat × Int) := (obs ws 1).find? fun x => decide ((x.1 : Int) = a)
end Go.Proofs.Ytnoebpbachoniaa
