/- Texts of ours, one behind the other: CelPlain, MkPlain. -/
import Derived.WalkKit
/- The objects of words, as plain data; nothing here speaks of the program. -/
namespace Go.Proofs.Ytgnfgeebcphglaa
open Go.RowKit

def szN (h : Int) : Nat := (h / 4096).toNat
def ptN (h : Int) : Nat := (h / 16 % 256).toNat
/-- The word at a place. -/
def wd (ws : List Int) (k : Nat) : Int := ws[k]?.getD 0
theorem wd_get {ws : List Int} {k : Nat} (h : k < ws.length) : ws[k]? = some (wd ws k) := by simp [wd, List.getElem?_eq_getElem h]
/-- All of them are words. -/
def U32 (ws : List Int) : Prop := ∀ h ∈ ws, 0 ≤ h ∧ h < 4294967296
theorem U32.wd {ws : List Int} (h : U32 ws) (k : Nat) : 0 ≤ wd ws k ∧ wd ws k < 4294967296 := by
  by_cases hk : k < ws.length
  · simp only [Go.Proofs.Ytgnfgeebcphglaa.wd, List.getElem?_eq_getElem hk, Option.getD_some]
    exact h _ (List.getElem_mem hk)
  · simp [Go.Proofs.Ytgnfgeebcphglaa.wd, List.getElem?_eq_none (Nat.le_of_not_lt hk)]
theorem szN_int {h : Int} (h0 : 0 ≤ h) : ((szN h : Nat) : Int) = h / 4096 := by unfold szN; omega
theorem ptN_int (h : Int) : ((ptN h : Nat) : Int) = h / 16 % 256 := by unfold ptN; omega
theorem szN_lt {h : Int} (h1 : h < 4294967296) : szN h < 1048576 := by unfold szN; omega
theorem ptN_lt (h : Int) : ptN h < 256 := by unfold ptN; omega

/-- May an object begin here? -/
def okH (ws : List Int) (p : Nat) : Prop := p < ws.length ∧ ptN (wd ws p) < szN (wd ws p) ∧ szN (wd ws p) ≤ ws.length - p
instance (ws : List Int) (p : Nat) : Decidable (okH ws p) := by unfold okH; infer_instance
def ob (ws : List Int) : Nat → Nat → List (Nat × Int)
  | 0, _ => []
  | f + 1, p => if okH ws p then (p, wd ws p) :: ob ws f (p + szN (wd ws p)) else []
/-- The objects from a place on: places and heads. -/
def obs (ws : List Int) (p : Nat) : List (Nat × Int) := ob ws (ws.length - p) p
theorem ob_fuel (ws : List Int) : ∀ (f g p : Nat), ws.length - p ≤ f → ws.length - p ≤ g → ob ws f p = ob ws g p
  | 0, 0, _, _, _ => rfl
  | 0, g + 1, p, hf, _ => by
    have : ¬ okH ws p := fun h => by have := h.1; omega
    simp [ob, this]
  | f + 1, 0, p, _, hg => by
    have : ¬ okH ws p := fun h => by have := h.1; omega
    simp [ob, this]
  | f + 1, g + 1, p, hf, hg => by
    simp only [ob]
    split
    · rename_i h
      obtain ⟨h1, h2, h3⟩ := h
      rw [ob_fuel ws f g _ (by omega) (by omega)]
    · rfl
theorem obs_step {ws : List Int} {p : Nat} (h : okH ws p) : obs ws p = (p, wd ws p) :: obs ws (p + szN (wd ws p)) := by
  obtain ⟨h1, h2, h3⟩ := h
  unfold obs
  obtain ⟨f, hf⟩ : ∃ f, ws.length - p = f + 1 := ⟨ws.length - p - 1, by omega⟩
  rw [hf, ob, if_pos ⟨h1, h2, h3⟩, ob_fuel ws f (ws.length - (p + szN (wd ws p))) _ (by omega) (by omega)]
theorem obs_stop {ws : List Int} {p : Nat} (h : ¬ okH ws p) : obs ws p = [] := by
  unfold obs
  cases ws.length - p with
  | zero => rfl
  | succ f => simp [ob, h]
/-- Where the objects that came end. -/
def endO (pre : List (Nat × Int)) : Nat := pre.foldl (fun _ x => x.1 + szN x.2) 1
theorem endO_snoc (pre : List (Nat × Int)) (x : Nat × Int) : endO (pre ++ [x]) = x.1 + szN x.2 := by simp [endO]
/-- What comes behind objects is what begins where they end. -/
theorem obs_split {ws : List Int} : ∀ {pre rest : List (Nat × Int)} {p : Nat}, obs ws p = pre ++ rest → rest = obs ws (pre.foldl (fun _ x => x.1 + szN x.2) p)
  | [], rest, p, h => by simpa using h.symm
  | x :: pre, rest, p, h => by
    by_cases hk : okH ws p
    · rw [obs_step hk] at h
      simp only [List.cons_append, List.cons.injEq] at h
      obtain ⟨rfl, h⟩ := h
      exact obs_split (p := p + szN (wd ws p)) h
    · rw [obs_stop hk] at h
      simp at h
theorem obs_head {ws : List Int} {p : Nat} {x : Nat × Int} {rest : List (Nat × Int)} (h : obs ws p = x :: rest) : x.1 = p ∧ x.2 = wd ws p ∧ okH ws p ∧ rest = obs ws (p + szN (wd ws p)) := by
  by_cases hk : okH ws p
  · rw [obs_step hk] at h
    simp only [List.cons.injEq] at h
    obtain ⟨rfl, h⟩ := h
    exact ⟨rfl, rfl, hk, h.symm⟩
  · rw [obs_stop hk] at h
    simp at h
theorem obs_nil {ws : List Int} {p : Nat} (h : obs ws p = []) : ¬ okH ws p := fun hk => by rw [obs_step hk] at h; simp at h
/-- One object more. -/
theorem obs_next {ws : List Int} {pre rest : List (Nat × Int)} {x : Nat × Int} (h : obs ws 1 = pre ++ x :: rest) : x.1 = endO pre ∧ x.2 = wd ws x.1 ∧ okH ws x.1 ∧ rest = obs ws (endO (pre ++ [x])) := by
  have h1 := obs_split h
  obtain ⟨a, b, c, d⟩ := obs_head h1.symm
  have e : endO pre = pre.foldl (fun _ x => x.1 + szN x.2) 1 := rfl
  rw [← e] at a b c d
  refine ⟨a, by rw [a]; exact b, by rw [a]; exact c, ?_⟩
  rw [endO_snoc, d, a, b]
theorem endO_le {ws : List Int} {pre rest : List (Nat × Int)} (h : obs ws 1 = pre ++ rest) : 1 ≤ endO pre ∧ (endO pre ≤ ws.length ∨ endO pre = 1) := by
  rcases List.eq_nil_or_concat pre with rfl | ⟨q, x, rfl⟩
  · exact ⟨Nat.le_refl _, Or.inr rfl⟩
  · rw [List.concat_eq_append, List.append_assoc] at h
    obtain ⟨a, b, c, d⟩ := obs_next h
    rw [List.concat_eq_append, endO_snoc]
    obtain ⟨c1, c2, c3⟩ := c
    rw [← b] at c2 c3
    exact ⟨by omega, Or.inl (by omega)⟩
/-- The objects ahead end at or ahead of the place. -/
theorem obs_ahead {ws : List Int} : ∀ {pre : List (Nat × Int)} {rest : List (Nat × Int)} {x : Nat × Int} {p : Nat}, obs ws p = pre ++ x :: rest → p ≤ x.1 ∧ ∀ y ∈ pre, y.1 < x.1
  | [], rest, x, p, h => by
    obtain ⟨a, _⟩ := obs_head (by simpa using h)
    exact ⟨Nat.le_of_eq a.symm, fun y hy => by cases hy⟩
  | z :: pre, rest, x, p, h => by
    obtain ⟨a, b, c, d⟩ := obs_head (by simpa using h)
    obtain ⟨e, f⟩ := obs_ahead (ws := ws) (pre := pre) (rest := rest) (x := x) (p := p + szN (wd ws p)) d.symm
    obtain ⟨c1, c2, c3⟩ := c
    refine ⟨by omega, fun y hy => ?_⟩
    cases hy with
    | head => omega
    | tail _ hy => exact f y hy
theorem obs_mem {ws : List Int} {x : Nat × Int} (h : x ∈ obs ws 1) : 1 ≤ x.1 ∧ x.2 = wd ws x.1 ∧ okH ws x.1 := by
  obtain ⟨pre, rest, hs⟩ := List.append_of_mem h
  obtain ⟨a, b, c, d⟩ := obs_next hs
  exact ⟨(obs_ahead hs).1, b, c⟩
/-- Of each word: does an object begin there? -/
def marks (n : Nat) (pre : List (Nat × Int)) : List Bool := (List.range n).map fun k => decide (k ∈ pre.map Prod.fst)
theorem marks_length (n : Nat) (pre : List (Nat × Int)) : (marks n pre).length = n := by simp [marks]
theorem marks_nil (n : Nat) : marks n [] = List.replicate n false := by
  apply List.ext_getElem?
  intro k
  simp only [marks, List.map_nil, List.not_mem_nil, decide_false, List.getElem?_map, List.getElem?_replicate]
  by_cases h : k < n
  · simp [h]
  · simp [h]
theorem marks_snoc (n : Nat) (pre : List (Nat × Int)) (x : Nat × Int) : marks n (pre ++ [x]) = (marks n pre).set x.1 true := by
  apply List.ext_getElem?
  intro k
  rw [List.getElem?_set]
  by_cases h : k < n
  · by_cases hk : x.1 = k
    · subst hk; simp [marks, h]
    · have : ¬ k = x.1 := fun e => hk e.symm
      simp [marks, h, hk, this]
  · simp [marks, h]
    intro _; omega
theorem marks_get {n k : Nat} (pre : List (Nat × Int)) (h : k < n) : (marks n pre)[k]? = some (decide (k ∈ pre.map Prod.fst)) := by simp [marks, h]
/-- None, or an object's place. -/
def isPl (n : Nat) (Z : List (Nat × Int)) (a : Int) : Bool := decide (a = 0) || (decide (0 < a) && decide (a < n) && decide (a.toNat ∈ Z.map Prod.fst))
/-- The pointers of an object. -/
def ptrsO (ws : List Int) (x : Nat × Int) : List Int := (ws.drop (x.1 + 1)).take (ptN x.2)
def dataO (ws : List Int) (x : Nat × Int) : List Int := (ws.drop (x.1 + 1 + ptN x.2)).take (szN x.2 - 1 - ptN x.2)
/-- Is it a heap with these roots? -/
def heapB (ws rs : List Int) : Bool := decide (endO (obs ws 1) = ws.length) && (obs ws 1).all (fun x => (ptrsO ws x).all (isPl ws.length (obs ws 1))) && rs.all (isPl ws.length (obs ws 1))
def rightB (ws rs : List Int) : Bool := decide (1 ≤ ws.length) && decide (ws.length ≤ 1048576) && decide (wd ws 0 = 0) && decide (rs.length ≤ 16) && heapB ws rs
/-- The object at a place. -/
def fndO (ws : List Int) (a : Int) : Option (Nat × Int) := (obs ws 1).find? fun x => decide ((x.1 : Int) = a)
end Go.Proofs.Ytgnfgeebcphglaa

/- What lives by roots, as plain data; nothing here speaks of the program. -/
namespace Go.Proofs.Ytgnfgeebcphglaa
open Go.RowKit

/-- The pointers of the object at a place. -/
def ptsA (ws : List Int) (a : Int) : List Int := ptrsO ws (a.toNat, wd ws a.toNat)
/-- What roots lead to: the least set that has the roots, and what its own point to. -/
def Rch (ws rs : List Int) (a : Int) : Prop := ∀ S : Int → Prop, (∀ r ∈ rs, r ≠ 0 → S r) → (∀ b, S b → ∀ p ∈ ptsA ws b, p ≠ 0 → S p) → S a
theorem Rch.root {ws rs : List Int} {a : Int} (h : a ∈ rs) (h0 : a ≠ 0) : Rch ws rs a := fun _ h1 _ => h1 a h h0
theorem Rch.ptr {ws rs : List Int} {a b : Int} (h : Rch ws rs b) (hp : a ∈ ptsA ws b) (h0 : a ≠ 0) : Rch ws rs a := fun S h1 h2 => h2 b (h S h1 h2) a hp h0
theorem Rch.nz {ws rs : List Int} {a : Int} (h : Rch ws rs a) : a ≠ 0 := h (fun x => x ≠ 0) (fun _ _ h => h) (fun _ _ _ _ h => h)
theorem Rch.mono {ws rs ts : List Int} {a : Int} (h : Rch ws rs a) (hs : ∀ r ∈ rs, r ≠ 0 → Rch ws ts r) : Rch ws ts a := h _ hs (fun _ hb _ hp h0 => hb.ptr hp h0)
theorem rch_app {ws rs ts : List Int} {a : Int} : Rch ws (rs ++ ts) a ↔ Rch ws rs a ∨ Rch ws ts a := by
  constructor
  · intro h
    refine h (fun x => Rch ws rs x ∨ Rch ws ts x) (fun r hr h0 => ?_) (fun b hb p hp h0 => ?_)
    · rcases List.mem_append.1 hr with h | h
      · exact Or.inl (.root h h0)
      · exact Or.inr (.root h h0)
    · rcases hb with h | h
      · exact Or.inl (h.ptr hp h0)
      · exact Or.inr (h.ptr hp h0)
  · rintro (h | h)
    · exact h.mono fun r hr h0 => .root (List.mem_append_left _ hr) h0
    · exact h.mono fun r hr h0 => .root (List.mem_append_right _ hr) h0
/-- What lives by roots is what one of them leads to. -/
theorem rch_one {ws rs : List Int} {a : Int} : Rch ws rs a ↔ ∃ r ∈ rs, r ≠ 0 ∧ Rch ws [r] a := by
  constructor
  · intro h
    refine h (fun x => ∃ r ∈ rs, r ≠ 0 ∧ Rch ws [r] x) (fun r hr h0 => ⟨r, hr, h0, .root (List.mem_singleton.2 rfl) h0⟩) (fun b hb p hp h0 => ?_)
    obtain ⟨r, hr, h1, h2⟩ := hb
    exact ⟨r, hr, h1, h2.ptr hp h0⟩
  · rintro ⟨r, hr, h0, h⟩
    refine h.mono fun x hx h1 => ?_
    rw [List.mem_singleton.1 hx]
    exact .root hr h0
theorem rch_trans {ws : List Int} {a b c : Int} (h : Rch ws [a] b) (h2 : Rch ws [b] c) : Rch ws [a] c :=
  h2.mono fun x hx _ => by rw [List.mem_singleton.1 hx]; exact h
/-- Each is a root, or something that lives points to it. -/
theorem rch_led {ws rs : List Int} {a : Int} (h : Rch ws rs a) : a ∈ rs ∨ ∃ b, Rch ws rs b ∧ a ∈ ptsA ws b := by
  have : Rch ws rs a ∧ (a ∈ rs ∨ ∃ b, Rch ws rs b ∧ a ∈ ptsA ws b) := by
    refine h (fun x => Rch ws rs x ∧ (x ∈ rs ∨ ∃ b, Rch ws rs b ∧ x ∈ ptsA ws b)) (fun r hr h0 => ⟨.root hr h0, Or.inl hr⟩) (fun b hb p hp h0 => ⟨hb.1.ptr hp h0, Or.inr ⟨b, hb.1, hp⟩⟩)
  exact this.2
theorem rch_nil {ws : List Int} {a : Int} : ¬ Rch ws [] a := fun h => h (fun _ => False) (fun _ h => by cases h) (fun _ h => h.elim)

/-- An object begins here. -/
def isOb (ws : List Int) (a : Int) : Prop := 0 < a ∧ a < ws.length ∧ (a.toNat, wd ws a.toNat) ∈ obs ws 1
theorem isOb_of_pl {ws : List Int} {a : Int} (h : isPl ws.length (obs ws 1) a = true) (h0 : a ≠ 0) : isOb ws a := by
  unfold isPl at h
  simp only [Bool.or_eq_true, Bool.and_eq_true, decide_eq_true_eq] at h
  rcases h with h | ⟨⟨h1, h2⟩, h3⟩
  · exact absurd h h0
  · obtain ⟨x, hx, hx1⟩ := List.mem_map.1 h3
    have h4 := (obs_mem hx).2.1
    refine ⟨h1, h2, ?_⟩
    rw [← hx1, ← h4]
    exact hx
theorem heap_parts {ws rs : List Int} (h : heapB ws rs = true) : endO (obs ws 1) = ws.length ∧ (∀ x ∈ obs ws 1, ∀ p ∈ ptrsO ws x, isPl ws.length (obs ws 1) p = true) ∧ ∀ r ∈ rs, isPl ws.length (obs ws 1) r = true := by
  unfold heapB at h
  simp only [Bool.and_eq_true, decide_eq_true_eq, List.all_eq_true] at h
  exact ⟨h.1.1, h.1.2, h.2⟩
theorem right_parts {ws rs : List Int} (h : rightB ws rs = true) : 1 ≤ ws.length ∧ ws.length ≤ 1048576 ∧ wd ws 0 = 0 ∧ rs.length ≤ 16 ∧ heapB ws rs = true := by
  unfold rightB at h
  simp only [Bool.and_eq_true, decide_eq_true_eq] at h
  exact ⟨h.1.1.1.1, h.1.1.1.2, h.1.1.2, h.1.2, h.2⟩
theorem right_iff' {ws rs : List Int} : rightB ws rs = true ↔ rightB ws [] = true ∧ rs.length ≤ 16 ∧ ∀ r ∈ rs, isPl ws.length (obs ws 1) r = true := by
  unfold rightB heapB
  simp only [Bool.and_eq_true, decide_eq_true_eq, List.all_eq_true, List.length_nil]
  constructor
  · rintro ⟨⟨h1, h2⟩, ⟨h3, h4⟩⟩
    exact ⟨⟨⟨h1, by omega⟩, h3, fun r hr => by cases hr⟩, h2, h4⟩
  · rintro ⟨⟨⟨h1, _⟩, h3, _⟩, h2, h4⟩
    exact ⟨⟨h1, h2⟩, h3, h4⟩
/-- In a heap what an object points to is an object, or 0. -/
theorem ptsA_pl {ws rs : List Int} (h : heapB ws rs = true) {a p : Int} (ha : isOb ws a) (hp : p ∈ ptsA ws a) : isPl ws.length (obs ws 1) p = true := (heap_parts h).2.1 _ ha.2.2 p hp
theorem rch_ob {ws rs : List Int} (h : heapB ws rs = true) {a : Int} (hr : Rch ws rs a) : isOb ws a :=
  hr (isOb ws) (fun r hr h0 => isOb_of_pl ((heap_parts h).2.2 r hr) h0) (fun _ hb _ hp h0 => isOb_of_pl (ptsA_pl h hb hp) h0)
theorem isOb_size {ws : List Int} {a : Int} (h : isOb ws a) : ptN (wd ws a.toNat) < szN (wd ws a.toNat) ∧ szN (wd ws a.toNat) ≤ ws.length - a.toNat ∧ a.toNat < ws.length ∧ ((a.toNat : Nat) : Int) = a := by
  obtain ⟨h0, h1, h2⟩ := h
  obtain ⟨_, _, o1, o2, o3⟩ := obs_mem h2
  exact ⟨o2, o3, o1, by omega⟩
theorem ptsA_len {ws : List Int} {a : Int} (h : isOb ws a) : (ptsA ws a).length = ptN (wd ws a.toNat) := by
  obtain ⟨h1, h2, h3, h4⟩ := isOb_size h
  unfold ptsA ptrsO
  simp only [List.length_take, List.length_drop]
  omega
theorem ptsA_get {ws : List Int} {a : Int} (h : isOb ws a) {k : Nat} (hk : k < ptN (wd ws a.toNat)) : (ptsA ws a)[k]? = some (wd ws (a.toNat + 1 + k)) := by
  obtain ⟨h1, h2, h3, h4⟩ := isOb_size h
  unfold ptsA ptrsO
  rw [List.getElem?_take, if_pos hk, List.getElem?_drop, wd_get (by omega)]

/-- Distinct objects are no more than the words. -/
theorem obs_nodup (ws : List Int) : ((obs ws 1).map Prod.fst).Nodup := by
  have : ∀ (n : Nat) (p : Nat), ws.length - p ≤ n → ((obs ws p).map Prod.fst).Nodup ∧ ∀ x ∈ obs ws p, p ≤ x.1 := by
    intro n
    induction n with
    | zero =>
      intro p hp
      have : ¬ okH ws p := fun h => by have := h.1; omega
      rw [obs_stop this]
      exact ⟨List.nodup_nil, fun x hx => by cases hx⟩
    | succ n ih =>
      intro p hp
      by_cases hk : okH ws p
      · obtain ⟨k1, k2, k3⟩ := id hk
        obtain ⟨i1, i2⟩ := ih (p + szN (wd ws p)) (by omega)
        rw [obs_step hk, List.map_cons]
        refine ⟨List.nodup_cons.2 ⟨fun hm => ?_, i1⟩, fun x hx => ?_⟩
        · obtain ⟨x, hx, he⟩ := List.mem_map.1 hm
          have := i2 x hx
          dsimp only at he
          omega
        · cases hx with
          | head => exact Nat.le_refl _
          | tail _ hx => have := i2 x hx; omega
      · rw [obs_stop hk]
        exact ⟨List.nodup_nil, fun x hx => by cases hx⟩
  exact (this ws.length 1 (by omega)).1
theorem nodup_lt : ∀ (n : Nat) (l : List Nat), l.Nodup → (∀ x ∈ l, x < n) → l.length ≤ n
  | 0, [], _, _ => Nat.le_refl _
  | 0, x :: l, _, h => by have := h x (List.mem_cons_self ..); omega
  | n + 1, l, hn, h => by
    have h1 := nodup_lt n (l.erase n) (hn.erase n) (fun x hx => by
      have h2 := (hn.mem_erase_iff).1 hx
      have := h x h2.2
      have := h2.1
      omega)
    rw [List.length_erase] at h1
    split at h1 <;> omega
theorem obs_count (ws : List Int) (S : List Int) (hn : S.Nodup) (hs : ∀ a ∈ S, isOb ws a) : S.length ≤ ws.length := by
  have h1 : (S.map Int.toNat).Nodup := by
    refine List.pairwise_map.2 (List.Pairwise.imp_of_mem (fun {a b} ha hb hne e => ?_) hn)
    have := (hs a ha).1
    have := (hs b hb).1
    omega
  have h2 := nodup_lt ws.length (S.map Int.toNat) h1 (fun k hk => by
    obtain ⟨a, ha, rfl⟩ := List.mem_map.1 hk
    have h3 := hs a ha
    have := h3.1
    have := h3.2.1
    omega)
  simpa using h2

/-- The places that live, in their order. -/
def LiveIs (ws rs l : List Int) : Prop := l.Pairwise (fun a b => a < b) ∧ ∀ a, a ∈ l ↔ Rch ws rs a
theorem sorted_unique : ∀ {l m : List Int}, l.Pairwise (fun a b => a < b) → m.Pairwise (fun a b => a < b) → (∀ a, a ∈ l ↔ a ∈ m) → l = m
  | [], [], _, _, _ => rfl
  | [], b :: m, _, _, h => by have := (h b).2 (List.mem_cons_self ..); cases this
  | a :: l, [], _, _, h => by have := (h a).1 (List.mem_cons_self ..); cases this
  | a :: l, b :: m, hl, hm, h => by
    obtain ⟨l1, l2⟩ := List.pairwise_cons.1 hl
    obtain ⟨m1, m2⟩ := List.pairwise_cons.1 hm
    have hab : a = b := by
      have h1 := (h a).1 (List.mem_cons_self ..)
      have h2 := (h b).2 (List.mem_cons_self ..)
      rcases List.mem_cons.1 h1 with e | e
      · exact e
      · rcases List.mem_cons.1 h2 with e2 | e2
        · exact e2.symm
        · have := l1 b e2; have := m1 a e; omega
    subst hab
    congr 1
    refine sorted_unique l2 m2 fun x => ⟨fun hx => ?_, fun hx => ?_⟩
    · rcases List.mem_cons.1 ((h x).1 (List.mem_cons_of_mem _ hx)) with e | e
      · subst e; have := l1 x hx; omega
      · exact e
    · rcases List.mem_cons.1 ((h x).2 (List.mem_cons_of_mem _ hx)) with e | e
      · subst e; have := m1 x hx; omega
      · exact e
theorem LiveIs.unique {ws rs l m : List Int} (h : LiveIs ws rs l) (h2 : LiveIs ws rs m) : l = m := sorted_unique h.1 h2.1 fun a => (h.2 a).trans (h2.2 a).symm

/-- What the walk keeps: what was met (S), what is still open (O), what is at hand (B). -/
structure WInv (ws rs S O B : List Int) : Prop where
  nodup : S.Nodup
  live : ∀ a ∈ S, Rch ws rs a
  op : ∀ a ∈ O, a ∈ S
  closed : ∀ a ∈ S, a ∈ O ∨ ∀ p ∈ ptsA ws a, p ≠ 0 → p ∈ S ∨ p ∈ B
  roots : ∀ r ∈ rs, r ≠ 0 → r ∈ S ∨ r ∈ B
  less : O.length ≤ S.length
  hand : ∀ p ∈ B, p ≠ 0 → Rch ws rs p
theorem WInv.start (ws rs : List Int) : WInv ws rs [] [] rs := ⟨List.nodup_nil, fun _ h => (by cases h), fun _ h => (by cases h), fun _ h => (by cases h), fun r hr _ => Or.inr hr, Nat.le_refl _, fun _ hp h0 => .root hp h0⟩
/-- What is met. -/
def metS (S : List Int) (a : Int) : List Int := if a = 0 ∨ a ∈ S then S else S ++ [a]
def metO (S O : List Int) (a : Int) : List Int := if a = 0 ∨ a ∈ S then O else O ++ [a]
theorem WInv.meet {ws rs S O B : List Int} {a : Int} (h : WInv ws rs S O (a :: B)) : WInv ws rs (metS S a) (metO S O a) B := by
  unfold metS metO
  by_cases hc : a = 0 ∨ a ∈ S
  · rw [if_pos hc, if_pos hc]
    have hin : ∀ p, p ≠ 0 → p ∈ S ∨ p ∈ a :: B → p ∈ S ∨ p ∈ B := fun p h0 hp => by
      rcases hp with hp | hp
      · exact Or.inl hp
      · rcases List.mem_cons.1 hp with rfl | hp
        · rcases hc with hc | hc
          · exact absurd hc h0
          · exact Or.inl hc
        · exact Or.inr hp
    exact ⟨h.nodup, h.live, h.op, fun x hx => (h.closed x hx).imp id fun hq p hp h0 => hin p h0 (hq p hp h0), fun r hr h0 => hin r h0 (h.roots r hr h0), h.less, fun p hp => h.hand p (List.mem_cons_of_mem _ hp)⟩
  · rw [if_neg hc, if_neg hc]
    have h0 : a ≠ 0 := fun e => hc (Or.inl e)
    have hn : a ∉ S := fun e => hc (Or.inr e)
    have hin : ∀ p, p ∈ S ∨ p ∈ a :: B → p ∈ S ++ [a] ∨ p ∈ B := fun p hp => by
      rcases hp with hp | hp
      · exact Or.inl (List.mem_append_left _ hp)
      · rcases List.mem_cons.1 hp with rfl | hp
        · exact Or.inl (List.mem_append_right _ (List.mem_singleton.2 rfl))
        · exact Or.inr hp
    refine ⟨?_, fun x hx => ?_, fun x hx => ?_, fun x hx => ?_, fun r hr h1 => hin r (h.roots r hr h1), ?_, fun p hp => h.hand p (List.mem_cons_of_mem _ hp)⟩
    · exact List.nodup_append.2 ⟨h.nodup, List.pairwise_singleton _ _, fun x hx y hy => by rw [List.mem_singleton.1 hy]; intro e; exact hn (e ▸ hx)⟩
    · rcases List.mem_append.1 hx with hx | hx
      · exact h.live x hx
      · rw [List.mem_singleton.1 hx]; exact h.hand a (List.mem_cons_self ..) h0
    · rcases List.mem_append.1 hx with hx | hx
      · exact List.mem_append_left _ (h.op x hx)
      · exact List.mem_append_right _ hx
    · rcases List.mem_append.1 hx with hx | hx
      · rcases h.closed x hx with hq | hq
        · exact Or.inl (List.mem_append_left _ hq)
        · exact Or.inr fun p hp h1 => hin p (hq p hp h1)
      · exact Or.inl (List.mem_append_right _ hx)
    · have := h.less
      simp only [List.length_append, List.length_singleton]
      omega
/-- The last one that is open comes to hand. -/
theorem WInv.next {ws rs S O : List Int} {a : Int} (h : WInv ws rs S (O ++ [a]) []) : WInv ws rs S O (ptsA ws a) := by
  have ha : a ∈ S := h.op a (List.mem_append_right _ (List.mem_singleton.2 rfl))
  refine ⟨h.nodup, h.live, fun x hx => h.op x (List.mem_append_left _ hx), fun x hx => ?_, fun r hr h0 => ?_, ?_, fun p hp h0 => (h.live a ha).ptr hp h0⟩
  · rcases h.closed x hx with hq | hq
    · rcases List.mem_append.1 hq with hq | hq
      · exact Or.inl hq
      · rw [List.mem_singleton.1 hq]; exact Or.inr fun p hp _ => Or.inr hp
    · exact Or.inr fun p hp h0 => (hq p hp h0).imp id fun h => by cases h
  · exact (h.roots r hr h0).imp id fun h => by cases h
  · have := h.less
    simp only [List.length_append, List.length_singleton] at this
    omega
theorem WInv.done {ws rs S : List Int} (h : WInv ws rs S [] []) (a : Int) : a ∈ S ↔ Rch ws rs a := by
  refine ⟨h.live a, fun hr => hr (fun x => x ∈ S) (fun r hr h0 => ?_) (fun b hb p hp h0 => ?_)⟩
  · exact (h.roots r hr h0).elim id fun h => by cases h
  · rcases h.closed b hb with hq | hq
    · cases hq
    · exact (hq p hp h0).elim id fun h => by cases h

/-- What the reference keeps: marks (m), and what is still to be looked at (L). -/
structure MInv (ws rs : List Int) (m : List Bool) (L : List Int) : Prop where
  len : m.length = ws.length
  live : ∀ k : Nat, m[k]? = some true → Rch ws rs (k : Int)
  list : ∀ a ∈ L, a ≠ 0 → Rch ws rs a
  closed : ∀ k : Nat, m[k]? = some true → ∀ p ∈ ptsA ws (k : Int), p ≠ 0 → m[p.toNat]? = some true ∨ p ∈ L
  roots : ∀ r ∈ rs, r ≠ 0 → m[r.toNat]? = some true ∨ r ∈ L
theorem MInv.start (ws rs : List Int) : MInv ws rs (List.replicate ws.length false) rs := by
  have : ∀ k, ¬ (List.replicate ws.length false)[k]? = some true := fun k h => by
    rw [List.getElem?_replicate] at h
    split at h
    · cases h
    · cases h
  exact ⟨by simp, fun k h => absurd h (this k), fun a ha h0 => .root ha h0, fun k h => absurd h (this k), fun r hr _ => Or.inr hr⟩
/-- Nothing new. -/
theorem MInv.skip {ws rs : List Int} {m : List Bool} {L : List Int} {a : Int} (h : MInv ws rs m (L ++ [a])) (hc : a = 0 ∨ m[a.toNat]? = some true) : MInv ws rs m L := by
  have hin : ∀ p : Int, p ≠ 0 → m[p.toNat]? = some true ∨ p ∈ L ++ [a] → m[p.toNat]? = some true ∨ p ∈ L := fun p h0 hp => by
    rcases hp with hp | hp
    · exact Or.inl hp
    · rcases List.mem_append.1 hp with hp | hp
      · exact Or.inr hp
      · rw [List.mem_singleton.1 hp] at h0 ⊢
        rcases hc with hc | hc
        · exact absurd hc h0
        · exact Or.inl hc
  exact ⟨h.len, h.live, fun x hx => h.list x (List.mem_append_left _ hx), fun k hk p hp h0 => hin p h0 (h.closed k hk p hp h0), fun r hr h0 => hin r h0 (h.roots r hr h0)⟩
/-- One object more. -/
theorem MInv.mark {ws rs : List Int} {m : List Bool} {L : List Int} {a : Int} (h : MInv ws rs m (L ++ [a])) (ha : isOb ws a) : MInv ws rs (m.set a.toNat true) (L ++ ptsA ws a) := by
  obtain ⟨h1, h2, h3, h4⟩ := isOb_size ha
  have hal : a.toNat < m.length := by rw [h.len]; exact h3
  have h0 : a ≠ 0 := by have := ha.1; omega
  have hl : Rch ws rs a := h.list a (List.mem_append_right _ (List.mem_singleton.2 rfl)) h0
  have hset : ∀ k, m[k]? = some true → (m.set a.toNat true)[k]? = some true := fun k hk => by
    rw [List.getElem?_set]
    split
    · first | rfl | rw [if_pos hal]
    · exact hk
  have hin : ∀ p : Int, p ≠ 0 → m[p.toNat]? = some true ∨ p ∈ L ++ [a] → (m.set a.toNat true)[p.toNat]? = some true ∨ p ∈ L ++ ptsA ws a := fun p hp0 hp => by
    rcases hp with hp | hp
    · exact Or.inl (hset _ hp)
    · rcases List.mem_append.1 hp with hp | hp
      · exact Or.inr (List.mem_append_left _ hp)
      · rw [List.mem_singleton.1 hp]
        exact Or.inl (by rw [List.getElem?_set, if_pos rfl, if_pos hal])
  refine ⟨by rw [List.length_set]; exact h.len, fun k hk => ?_, fun x hx hx0 => ?_, fun k hk p hp hp0 => ?_, fun r hr hr0 => hin r hr0 (h.roots r hr hr0)⟩
  · rw [List.getElem?_set] at hk
    split at hk
    · rename_i e
      rw [← e, h4]
      exact hl
    · exact h.live k hk
  · rcases List.mem_append.1 hx with hx | hx
    · exact h.list x (List.mem_append_left _ hx) hx0
    · exact hl.ptr hx hx0
  · rw [List.getElem?_set] at hk
    split at hk
    · rename_i e
      rw [← e, h4] at hp
      exact Or.inr (List.mem_append_right _ hp)
    · exact hin p hp0 (h.closed k hk p hp hp0)
theorem MInv.done {ws rs : List Int} {m : List Bool} (h : MInv ws rs m []) (hh : heapB ws rs = true) (k : Nat) : m[k]? = some true ↔ Rch ws rs (k : Int) := by
  have hb : ∀ {a : Int}, Rch ws rs a → isOb ws a ∧ m[a.toNat]? = some true := fun {a} hr => by
    refine hr (fun x => isOb ws x ∧ m[x.toNat]? = some true) (fun r hr h0 => ⟨rch_ob hh (.root hr h0), ?_⟩) (fun b hb p hp h0 => ⟨isOb_of_pl (ptsA_pl hh hb.1 hp) h0, ?_⟩)
    · exact (h.roots r hr h0).elim id fun h => by cases h
    · refine (h.closed b.toNat hb.2 p ?_ h0).elim id fun h => by cases h
      rw [(isOb_size hb.1).2.2.2]
      exact hp
  refine ⟨h.live k, fun hr => ?_⟩
  have := (hb hr).2
  simpa using this
end Go.Proofs.Ytgnfgeebcphglaa
