/- Texts of ours, one behind the other: CelPlain, MkPlain, CelLayP, ThPlain, ThPlain2, ThPlain3, ThLoom, ThLoom2. -/
import Derived.WalkKit
/- The objects of words, as plain data; nothing here speaks of the program. -/
namespace Go.Proofs.YtlbhhdldeaehkaaGreat
open Go.RowKit

def szN (h : Int) : Nat := (h / 4096).toNat
def ptN (h : Int) : Nat := (h / 16 % 256).toNat
/-- The word at a place. -/
def wd (ws : List Int) (k : Nat) : Int := ws[k]?.getD 0
theorem wd_get {ws : List Int} {k : Nat} (h : k < ws.length) : ws[k]? = some (wd ws k) := by simp [wd, List.getElem?_eq_getElem h]
/-- All of them are words. -/
def U32 (ws : List Int) : Prop := ∀ h ∈ ws, 0 ≤ h ∧ h < 4294967296
theorem U32.wd {ws : List Int} (h : U32 ws) (k : Nat) : 0 ≤ wd ws k ∧ wd ws k < 4294967296 := by
  by_cases hk : k < ws.length
  · simp only [Go.Proofs.YtlbhhdldeaehkaaGreat.wd, List.getElem?_eq_getElem hk, Option.getD_some]
    exact h _ (List.getElem_mem hk)
  · simp [Go.Proofs.YtlbhhdldeaehkaaGreat.wd, List.getElem?_eq_none (Nat.le_of_not_lt hk)]
theorem szN_int {h : Int} (h0 : 0 ≤ h) : ((szN h : Nat) : Int) = h / 4096 := by unfold szN; omega
theorem ptN_int (h : Int) : ((ptN h : Nat) : Int) = h / 16 % 256 := by unfold ptN; omega
theorem szN_lt {h : Int} (h1 : h < 4294967296) : szN h < 1048576 := by unfold szN; omega
theorem ptN_lt (h : Int) : ptN h < 256 := by unfold ptN; omega

/-- May an object begin here? -/
def okH (ws : List Int) (p : Nat) : Prop := p < ws.length ∧ ptN (wd ws p) < szN (wd ws p) ∧ szN (wd ws p) ≤ ws.length - p
instance (ws : List Int) (p : Nat) : Decidable (okH ws p) := by unfold okH; infer_instance
def ob (ws : List Int) : Nat → Nat → List (Nat × Int)
  | 0, _ => []
  | f + 1, p => if okH ws p then (p, wd ws p) :: ob ws f (p + szN (wd ws p)) else []
/-- The objects from a place on: places and heads. -/
def obs (ws : List Int) (p : Nat) : List (Nat × Int) := ob ws (ws.length - p) p
theorem ob_fuel (ws : List Int) : ∀ (f g p : Nat), ws.length - p ≤ f → ws.length - p ≤ g → ob ws f p = ob ws g p
  | 0, 0, _, _, _ => rfl
  | 0, g + 1, p, hf, _ => by
    have : ¬ okH ws p := fun h => by have := h.1; omega
    simp [ob, this]
  | f + 1, 0, p, _, hg => by
    have : ¬ okH ws p := fun h => by have := h.1; omega
    simp [ob, this]
  | f + 1, g + 1, p, hf, hg => by
    simp only [ob]
    split
    · rename_i h
      obtain ⟨h1, h2, h3⟩ := h
      rw [ob_fuel ws f g _ (by omega) (by omega)]
    · rfl
theorem obs_step {ws : List Int} {p : Nat} (h : okH ws p) : obs ws p = (p, wd ws p) :: obs ws (p + szN (wd ws p)) := by
  obtain ⟨h1, h2, h3⟩ := h
  unfold obs
  obtain ⟨f, hf⟩ : ∃ f, ws.length - p = f + 1 := ⟨ws.length - p - 1, by omega⟩
  rw [hf, ob, if_pos ⟨h1, h2, h3⟩, ob_fuel ws f (ws.length - (p + szN (wd ws p))) _ (by omega) (by omega)]
theorem obs_stop {ws : List Int} {p : Nat} (h : ¬ okH ws p) : obs ws p = [] := by
  unfold obs
  cases ws.length - p with
  | zero => rfl
  | succ f => simp [ob, h]
/-- Where the objects that came end. -/
def endO (pre : List (Nat × Int)) : Nat := pre.foldl (fun _ x => x.1 + szN x.2) 1
theorem endO_snoc (pre : List (Nat × Int)) (x : Nat × Int) : endO (pre ++ [x]) = x.1 + szN x.2 := by simp [endO]
/-- What comes behind objects is what begins where they end. -/
theorem obs_split {ws : List Int} : ∀ {pre rest : List (Nat × Int)} {p : Nat}, obs ws p = pre ++ rest → rest = obs ws (pre.foldl (fun _ x => x.1 + szN x.2) p)
  | [], rest, p, h => by simpa using h.symm
  | x :: pre, rest, p, h => by
    by_cases hk : okH ws p
    · rw [obs_step hk] at h
      simp only [List.cons_append, List.cons.injEq] at h
      obtain ⟨rfl, h⟩ := h
      exact obs_split (p := p + szN (wd ws p)) h
    · rw [obs_stop hk] at h
      simp at h
theorem obs_head {ws : List Int} {p : Nat} {x : Nat × Int} {rest : List (Nat × Int)} (h : obs ws p = x :: rest) : x.1 = p ∧ x.2 = wd ws p ∧ okH ws p ∧ rest = obs ws (p + szN (wd ws p)) := by
  by_cases hk : okH ws p
  · rw [obs_step hk] at h
    simp only [List.cons.injEq] at h
    obtain ⟨rfl, h⟩ := h
    exact ⟨rfl, rfl, hk, h.symm⟩
  · rw [obs_stop hk] at h
    simp at h
theorem obs_nil {ws : List Int} {p : Nat} (h : obs ws p = []) : ¬ okH ws p := fun hk => by rw [obs_step hk] at h; simp at h
/-- One object more. -/
theorem obs_next {ws : List Int} {pre rest : List (Nat × Int)} {x : Nat × Int} (h : obs ws 1 = pre ++ x :: rest) : x.1 = endO pre ∧ x.2 = wd ws x.1 ∧ okH ws x.1 ∧ rest = obs ws (endO (pre ++ [x])) := by
  have h1 := obs_split h
  obtain ⟨a, b, c, d⟩ := obs_head h1.symm
  have e : endO pre = pre.foldl (fun _ x => x.1 + szN x.2) 1 := rfl
  rw [← e] at a b c d
  refine ⟨a, by rw [a]; exact b, by rw [a]; exact c, ?_⟩
  rw [endO_snoc, d, a, b]
theorem endO_le {ws : List Int} {pre rest : List (Nat × Int)} (h : obs ws 1 = pre ++ rest) : 1 ≤ endO pre ∧ (endO pre ≤ ws.length ∨ endO pre = 1) := by
  rcases List.eq_nil_or_concat pre with rfl | ⟨q, x, rfl⟩
  · exact ⟨Nat.le_refl _, Or.inr rfl⟩
  · rw [List.concat_eq_append, List.append_assoc] at h
    obtain ⟨a, b, c, d⟩ := obs_next h
    rw [List.concat_eq_append, endO_snoc]
    obtain ⟨c1, c2, c3⟩ := c
    rw [← b] at c2 c3
    exact ⟨by omega, Or.inl (by omega)⟩
/-- The objects ahead end at or ahead of the place. -/
theorem obs_ahead {ws : List Int} : ∀ {pre : List (Nat × Int)} {rest : List (Nat × Int)} {x : Nat × Int} {p : Nat}, obs ws p = pre ++ x :: rest → p ≤ x.1 ∧ ∀ y ∈ pre, y.1 < x.1
  | [], rest, x, p, h => by
    obtain ⟨a, _⟩ := obs_head (by simpa using h)
    exact ⟨Nat.le_of_eq a.symm, fun y hy => by cases hy⟩
  | z :: pre, rest, x, p, h => by
    obtain ⟨a, b, c, d⟩ := obs_head (by simpa using h)
    obtain ⟨e, f⟩ := obs_ahead (ws := ws) (pre := pre) (rest := rest) (x := x) (p := p + szN (wd ws p)) d.symm
    obtain ⟨c1, c2, c3⟩ := c
    refine ⟨by omega, fun y hy => ?_⟩
    cases hy with
    | head => omega
    | tail _ hy => exact f y hy
theorem obs_mem {ws : List Int} {x : Nat × Int} (h : x ∈ obs ws 1) : 1 ≤ x.1 ∧ x.2 = wd ws x.1 ∧ okH ws x.1 := by
  obtain ⟨pre, rest, hs⟩ := List.append_of_mem h
  obtain ⟨a, b, c, d⟩ := obs_next hs
  exact ⟨(obs_ahead hs).1, b, c⟩
/-- Of each word: does an object begin there? -/
def marks (n : Nat) (pre : List (Nat × Int)) : List Bool := (List.range n).map fun k => decide (k ∈ pre.map Prod.fst)
theorem marks_length (n : Nat) (pre : List (Nat × Int)) : (marks n pre).length = n := by simp [marks]
theorem marks_nil (n : Nat) : marks n [] = List.replicate n false := by
  apply List.ext_getElem?
  intro k
  simp only [marks, List.map_nil, List.not_mem_nil, decide_false, List.getElem?_map, List.getElem?_replicate]
  by_cases h : k < n
  · simp [h]
  · simp [h]
theorem marks_snoc (n : Nat) (pre : List (Nat × Int)) (x : Nat × Int) : marks n (pre ++ [x]) = (marks n pre).set x.1 true := by
  apply List.ext_getElem?
  intro k
  rw [List.getElem?_set]
  by_cases h : k < n
  · by_cases hk : x.1 = k
    · subst hk; simp [marks, h]
    · have : ¬ k = x.1 := fun e => hk e.symm
      simp [marks, h, hk, this]
  · simp [marks, h]
    intro _; omega
theorem marks_get {n k : Nat} (pre : List (Nat × Int)) (h : k < n) : (marks n pre)[k]? = some (decide (k ∈ pre.map Prod.fst)) := by simp [marks, h]
/-- None, or an object's place. -/
def isPl (n : Nat) (Z : List (Nat × Int)) (a : Int) : Bool := decide (a = 0) || (decide (0 < a) && decide (a < n) && decide (a.toNat ∈ Z.map Prod.fst))
/-- The pointers of an object. -/
def ptrsO (ws : List Int) (x : Nat × Int) : List Int := (ws.drop (x.1 + 1)).take (ptN x.2)
def dataO (ws : List Int) (x : Nat × Int) : List Int := (ws.drop (x.1 + 1 + ptN x.2)).take (szN x.2 - 1 - ptN x.2)
/-- Is it a heap with these roots? -/
def heapB (ws rs : List Int) : Bool := decide (endO (obs ws 1) = ws.length) && (obs ws 1).all (fun x => (ptrsO ws x).all (isPl ws.length (obs ws 1))) && rs.all (isPl ws.length (obs ws 1))
def rightB (ws rs : List Int) : Bool := decide (1 ≤ ws.length) && decide (ws.length ≤ 1048576) && decide (wd ws 0 = 0) && decide (rs.length ≤ 16) && heapB ws rs
/-- The object at a place. -/
def fndO (ws : List Int) (a : Int) : Option (Nat × Int) := (obs ws 1).find? fun x => decide ((x.1 : Int) = a)
end Go.Proofs.YtlbhhdldeaehkaaGreat

/- What lives by roots, as plain data; nothing here speaks of the program. -/
namespace Go.Proofs.YtlbhhdldeaehkaaGreat
open Go.RowKit

/-- The pointers of the object at a place. -/
def ptsA (ws : List Int) (a : Int) : List Int := ptrsO ws (a.toNat, wd ws a.toNat)
/-- What roots lead to: the least set that has the roots, and what its own point to. -/
def Rch (ws rs : List Int) (a : Int) : Prop := ∀ S : Int → Prop, (∀ r ∈ rs, r ≠ 0 → S r) → (∀ b, S b → ∀ p ∈ ptsA ws b, p ≠ 0 → S p) → S a
theorem Rch.root {ws rs : List Int} {a : Int} (h : a ∈ rs) (h0 : a ≠ 0) : Rch ws rs a := fun _ h1 _ => h1 a h h0
theorem Rch.ptr {ws rs : List Int} {a b : Int} (h : Rch ws rs b) (hp : a ∈ ptsA ws b) (h0 : a ≠ 0) : Rch ws rs a := fun S h1 h2 => h2 b (h S h1 h2) a hp h0
theorem Rch.nz {ws rs : List Int} {a : Int} (h : Rch ws rs a) : a ≠ 0 := h (fun x => x ≠ 0) (fun _ _ h => h) (fun _ _ _ _ h => h)
theorem Rch.mono {ws rs ts : List Int} {a : Int} (h : Rch ws rs a) (hs : ∀ r ∈ rs, r ≠ 0 → Rch ws ts r) : Rch ws ts a := h _ hs (fun _ hb _ hp h0 => hb.ptr hp h0)
theorem rch_app {ws rs ts : List Int} {a : Int} : Rch ws (rs ++ ts) a ↔ Rch ws rs a ∨ Rch ws ts a := by
  constructor
  · intro h
    refine h (fun x => Rch ws rs x ∨ Rch ws ts x) (fun r hr h0 => ?_) (fun b hb p hp h0 => ?_)
    · rcases List.mem_append.1 hr with h | h
      · exact Or.inl (.root h h0)
      · exact Or.inr (.root h h0)
    · rcases hb with h | h
      · exact Or.inl (h.ptr hp h0)
      · exact Or.inr (h.ptr hp h0)
  · rintro (h | h)
    · exact h.mono fun r hr h0 => .root (List.mem_append_left _ hr) h0
    · exact h.mono fun r hr h0 => .root (List.mem_append_right _ hr) h0
/-- What lives by roots is what one of them leads to. -/
theorem rch_one {ws rs : List Int} {a : Int} : Rch ws rs a ↔ ∃ r ∈ rs, r ≠ 0 ∧ Rch ws [r] a := by
  constructor
  · intro h
    refine h (fun x => ∃ r ∈ rs, r ≠ 0 ∧ Rch ws [r] x) (fun r hr h0 => ⟨r, hr, h0, .root (List.mem_singleton.2 rfl) h0⟩) (fun b hb p hp h0 => ?_)
    obtain ⟨r, hr, h1, h2⟩ := hb
    exact ⟨r, hr, h1, h2.ptr hp h0⟩
  · rintro ⟨r, hr, h0, h⟩
    refine h.mono fun x hx h1 => ?_
    rw [List.mem_singleton.1 hx]
    exact .root hr h0
theorem rch_trans {ws : List Int} {a b c : Int} (h : Rch ws [a] b) (h2 : Rch ws [b] c) : Rch ws [a] c :=
  h2.mono fun x hx _ => by rw [List.mem_singleton.1 hx]; exact h
/-- Each is a root, or something that lives points to it. -/
theorem rch_led {ws rs : List Int} {a : Int} (h : Rch ws rs a) : a ∈ rs ∨ ∃ b, Rch ws rs b ∧ a ∈ ptsA ws b := by
  have : Rch ws rs a ∧ (a ∈ rs ∨ ∃ b, Rch ws rs b ∧ a ∈ ptsA ws b) := by
    refine h (fun x => Rch ws rs x ∧ (x ∈ rs ∨ ∃ b, Rch ws rs b ∧ x ∈ ptsA ws b)) (fun r hr h0 => ⟨.root hr h0, Or.inl hr⟩) (fun b hb p hp h0 => ⟨hb.1.ptr hp h0, Or.inr ⟨b, hb.1, hp⟩⟩)
  exact this.2
theorem rch_nil {ws : List Int} {a : Int} : ¬ Rch ws [] a := fun h => h (fun _ => False) (fun _ h => by cases h) (fun _ h => h.elim)

/-- An object begins here. -/
def isOb (ws : List Int) (a : Int) : Prop := 0 < a ∧ a < ws.length ∧ (a.toNat, wd ws a.toNat) ∈ obs ws 1
theorem isOb_of_pl {ws : List Int} {a : Int} (h : isPl ws.length (obs ws 1) a = true) (h0 : a ≠ 0) : isOb ws a := by
  unfold isPl at h
  simp only [Bool.or_eq_true, Bool.and_eq_true, decide_eq_true_eq] at h
  rcases h with h | ⟨⟨h1, h2⟩, h3⟩
  · exact absurd h h0
  · obtain ⟨x, hx, hx1⟩ := List.mem_map.1 h3
    have h4 := (obs_mem hx).2.1
    refine ⟨h1, h2, ?_⟩
    rw [← hx1, ← h4]
    exact hx
theorem heap_parts {ws rs : List Int} (h : heapB ws rs = true) : endO (obs ws 1) = ws.length ∧ (∀ x ∈ obs ws 1, ∀ p ∈ ptrsO ws x, isPl ws.length (obs ws 1) p = true) ∧ ∀ r ∈ rs, isPl ws.length (obs ws 1) r = true := by
  unfold heapB at h
  simp only [Bool.and_eq_true, decide_eq_true_eq, List.all_eq_true] at h
  exact ⟨h.1.1, h.1.2, h.2⟩
theorem right_parts {ws rs : List Int} (h : rightB ws rs = true) : 1 ≤ ws.length ∧ ws.length ≤ 1048576 ∧ wd ws 0 = 0 ∧ rs.length ≤ 16 ∧ heapB ws rs = true := by
  unfold rightB at h
  simp only [Bool.and_eq_true, decide_eq_true_eq] at h
  exact ⟨h.1.1.1.1, h.1.1.1.2, h.1.1.2, h.1.2, h.2⟩
theorem right_iff' {ws rs : List Int} : rightB ws rs = true ↔ rightB ws [] = true ∧ rs.length ≤ 16 ∧ ∀ r ∈ rs, isPl ws.length (obs ws 1) r = true := by
  unfold rightB heapB
  simp only [Bool.and_eq_true, decide_eq_true_eq, List.all_eq_true, List.length_nil]
  constructor
  · rintro ⟨⟨h1, h2⟩, ⟨h3, h4⟩⟩
    exact ⟨⟨⟨h1, by omega⟩, h3, fun r hr => by cases hr⟩, h2, h4⟩
  · rintro ⟨⟨⟨h1, _⟩, h3, _⟩, h2, h4⟩
    exact ⟨⟨h1, h2⟩, h3, h4⟩
/-- In a heap what an object points to is an object, or 0. -/
theorem ptsA_pl {ws rs : List Int} (h : heapB ws rs = true) {a p : Int} (ha : isOb ws a) (hp : p ∈ ptsA ws a) : isPl ws.length (obs ws 1) p = true := (heap_parts h).2.1 _ ha.2.2 p hp
theorem rch_ob {ws rs : List Int} (h : heapB ws rs = true) {a : Int} (hr : Rch ws rs a) : isOb ws a :=
  hr (isOb ws) (fun r hr h0 => isOb_of_pl ((heap_parts h).2.2 r hr) h0) (fun _ hb _ hp h0 => isOb_of_pl (ptsA_pl h hb hp) h0)
theorem isOb_size {ws : List Int} {a : Int} (h : isOb ws a) : ptN (wd ws a.toNat) < szN (wd ws a.toNat) ∧ szN (wd ws a.toNat) ≤ ws.length - a.toNat ∧ a.toNat < ws.length ∧ ((a.toNat : Nat) : Int) = a := by
  obtain ⟨h0, h1, h2⟩ := h
  obtain ⟨_, _, o1, o2, o3⟩ := obs_mem h2
  exact ⟨o2, o3, o1, by omega⟩
theorem ptsA_len {ws : List Int} {a : Int} (h : isOb ws a) : (ptsA ws a).length = ptN (wd ws a.toNat) := by
  obtain ⟨h1, h2, h3, h4⟩ := isOb_size h
  unfold ptsA ptrsO
  simp only [List.length_take, List.length_drop]
  omega
theorem ptsA_get {ws : List Int} {a : Int} (h : isOb ws a) {k : Nat} (hk : k < ptN (wd ws a.toNat)) : (ptsA ws a)[k]? = some (wd ws (a.toNat + 1 + k)) := by
  obtain ⟨h1, h2, h3, h4⟩ := isOb_size h
  unfold ptsA ptrsO
  rw [List.getElem?_take, if_pos hk, List.getElem?_drop, wd_get (by omega)]

/-- Distinct objects are no more than the words. -/
theorem obs_nodup (ws : List Int) : ((obs ws 1).map Prod.fst).Nodup := by
  have : ∀ (n : Nat) (p : Nat), ws.length - p ≤ n → ((obs ws p).map Prod.fst).Nodup ∧ ∀ x ∈ obs ws p, p ≤ x.1 := by
    intro n
    induction n with
    | zero =>
      intro p hp
      have : ¬ okH ws p := fun h => by have := h.1; omega
      rw [obs_stop this]
      exact ⟨List.nodup_nil, fun x hx => by cases hx⟩
    | succ n ih =>
      intro p hp
      by_cases hk : okH ws p
      · obtain ⟨k1, k2, k3⟩ := id hk
        obtain ⟨i1, i2⟩ := ih (p + szN (wd ws p)) (by omega)
        rw [obs_step hk, List.map_cons]
        refine ⟨List.nodup_cons.2 ⟨fun hm => ?_, i1⟩, fun x hx => ?_⟩
        · obtain ⟨x, hx, he⟩ := List.mem_map.1 hm
          have := i2 x hx
          dsimp only at he
          omega
        · cases hx with
          | head => exact Nat.le_refl _
          | tail _ hx => have := i2 x hx; omega
      · rw [obs_stop hk]
        exact ⟨List.nodup_nil, fun x hx => by cases hx⟩
  exact (this ws.length 1 (by omega)).1
theorem nodup_lt : ∀ (n : Nat) (l : List Nat), l.Nodup → (∀ x ∈ l, x < n) → l.length ≤ n
  | 0, [], _, _ => Nat.le_refl _
  | 0, x :: l, _, h => by have := h x (List.mem_cons_self ..); omega
  | n + 1, l, hn, h => by
    have h1 := nodup_lt n (l.erase n) (hn.erase n) (fun x hx => by
      have h2 := (hn.mem_erase_iff).1 hx
      have := h x h2.2
      have := h2.1
      omega)
    rw [List.length_erase] at h1
    split at h1 <;> omega
theorem obs_count (ws : List Int) (S : List Int) (hn : S.Nodup) (hs : ∀ a ∈ S, isOb ws a) : S.length ≤ ws.length := by
  have h1 : (S.map Int.toNat).Nodup := by
    refine List.pairwise_map.2 (List.Pairwise.imp_of_mem (fun {a b} ha hb hne e => ?_) hn)
    have := (hs a ha).1
    have := (hs b hb).1
    omega
  have h2 := nodup_lt ws.length (S.map Int.toNat) h1 (fun k hk => by
    obtain ⟨a, ha, rfl⟩ := List.mem_map.1 hk
    have h3 := hs a ha
    have := h3.1
    have := h3.2.1
    omega)
  simpa using h2

/-- The places that live, in their order. -/
def LiveIs (ws rs l : List Int) : Prop := l.Pairwise (fun a b => a < b) ∧ ∀ a, a ∈ l ↔ Rch ws rs a
theorem sorted_unique : ∀ {l m : List Int}, l.Pairwise (fun a b => a < b) → m.Pairwise (fun a b => a < b) → (∀ a, a ∈ l ↔ a ∈ m) → l = m
  | [], [], _, _, _ => rfl
  | [], b :: m, _, _, h => by have := (h b).2 (List.mem_cons_self ..); cases this
  | a :: l, [], _, _, h => by have := (h a).1 (List.mem_cons_self ..); cases this
  | a :: l, b :: m, hl, hm, h => by
    obtain ⟨l1, l2⟩ := List.pairwise_cons.1 hl
    obtain ⟨m1, m2⟩ := List.pairwise_cons.1 hm
    have hab : a = b := by
      have h1 := (h a).1 (List.mem_cons_self ..)
      have h2 := (h b).2 (List.mem_cons_self ..)
      rcases List.mem_cons.1 h1 with e | e
      · exact e
      · rcases List.mem_cons.1 h2 with e2 | e2
        · exact e2.symm
        · have := l1 b e2; have := m1 a e; omega
    subst hab
    congr 1
    refine sorted_unique l2 m2 fun x => ⟨fun hx => ?_, fun hx => ?_⟩
    · rcases List.mem_cons.1 ((h x).1 (List.mem_cons_of_mem _ hx)) with e | e
      · subst e; have := l1 x hx; omega
      · exact e
    · rcases List.mem_cons.1 ((h x).2 (List.mem_cons_of_mem _ hx)) with e | e
      · subst e; have := m1 x hx; omega
      · exact e
theorem LiveIs.unique {ws rs l m : List Int} (h : LiveIs ws rs l) (h2 : LiveIs ws rs m) : l = m := sorted_unique h.1 h2.1 fun a => (h.2 a).trans (h2.2 a).symm

/-- What the walk keeps: what was met (S), what is still open (O), what is at hand (B). -/
structure WInv (ws rs S O B : List Int) : Prop where
  nodup : S.Nodup
  live : ∀ a ∈ S, Rch ws rs a
  op : ∀ a ∈ O, a ∈ S
  closed : ∀ a ∈ S, a ∈ O ∨ ∀ p ∈ ptsA ws a, p ≠ 0 → p ∈ S ∨ p ∈ B
  roots : ∀ r ∈ rs, r ≠ 0 → r ∈ S ∨ r ∈ B
  less : O.length ≤ S.length
  hand : ∀ p ∈ B, p ≠ 0 → Rch ws rs p
theorem WInv.start (ws rs : List Int) : WInv ws rs [] [] rs := ⟨List.nodup_nil, fun _ h => (by cases h), fun _ h => (by cases h), fun _ h => (by cases h), fun r hr _ => Or.inr hr, Nat.le_refl _, fun _ hp h0 => .root hp h0⟩
/-- What is met. -/
def metS (S : List Int) (a : Int) : List Int := if a = 0 ∨ a ∈ S then S else S ++ [a]
def metO (S O : List Int) (a : Int) : List Int := if a = 0 ∨ a ∈ S then O else O ++ [a]
theorem WInv.meet {ws rs S O B : List Int} {a : Int} (h : WInv ws rs S O (a :: B)) : WInv ws rs (metS S a) (metO S O a) B := by
  unfold metS metO
  by_cases hc : a = 0 ∨ a ∈ S
  · rw [if_pos hc, if_pos hc]
    have hin : ∀ p, p ≠ 0 → p ∈ S ∨ p ∈ a :: B → p ∈ S ∨ p ∈ B := fun p h0 hp => by
      rcases hp with hp | hp
      · exact Or.inl hp
      · rcases List.mem_cons.1 hp with rfl | hp
        · rcases hc with hc | hc
          · exact absurd hc h0
          · exact Or.inl hc
        · exact Or.inr hp
    exact ⟨h.nodup, h.live, h.op, fun x hx => (h.closed x hx).imp id fun hq p hp h0 => hin p h0 (hq p hp h0), fun r hr h0 => hin r h0 (h.roots r hr h0), h.less, fun p hp => h.hand p (List.mem_cons_of_mem _ hp)⟩
  · rw [if_neg hc, if_neg hc]
    have h0 : a ≠ 0 := fun e => hc (Or.inl e)
    have hn : a ∉ S := fun e => hc (Or.inr e)
    have hin : ∀ p, p ∈ S ∨ p ∈ a :: B → p ∈ S ++ [a] ∨ p ∈ B := fun p hp => by
      rcases hp with hp | hp
      · exact Or.inl (List.mem_append_left _ hp)
      · rcases List.mem_cons.1 hp with rfl | hp
        · exact Or.inl (List.mem_append_right _ (List.mem_singleton.2 rfl))
        · exact Or.inr hp
    refine ⟨?_, fun x hx => ?_, fun x hx => ?_, fun x hx => ?_, fun r hr h1 => hin r (h.roots r hr h1), ?_, fun p hp => h.hand p (List.mem_cons_of_mem _ hp)⟩
    · exact List.nodup_append.2 ⟨h.nodup, List.pairwise_singleton _ _, fun x hx y hy => by rw [List.mem_singleton.1 hy]; intro e; exact hn (e ▸ hx)⟩
    · rcases List.mem_append.1 hx with hx | hx
      · exact h.live x hx
      · rw [List.mem_singleton.1 hx]; exact h.hand a (List.mem_cons_self ..) h0
    · rcases List.mem_append.1 hx with hx | hx
      · exact List.mem_append_left _ (h.op x hx)
      · exact List.mem_append_right _ hx
    · rcases List.mem_append.1 hx with hx | hx
      · rcases h.closed x hx with hq | hq
        · exact Or.inl (List.mem_append_left _ hq)
        · exact Or.inr fun p hp h1 => hin p (hq p hp h1)
      · exact Or.inl (List.mem_append_right _ hx)
    · have := h.less
      simp only [List.length_append, List.length_singleton]
      omega
/-- The last one that is open comes to hand. -/
theorem WInv.next {ws rs S O : List Int} {a : Int} (h : WInv ws rs S (O ++ [a]) []) : WInv ws rs S O (ptsA ws a) := by
  have ha : a ∈ S := h.op a (List.mem_append_right _ (List.mem_singleton.2 rfl))
  refine ⟨h.nodup, h.live, fun x hx => h.op x (List.mem_append_left _ hx), fun x hx => ?_, fun r hr h0 => ?_, ?_, fun p hp h0 => (h.live a ha).ptr hp h0⟩
  · rcases h.closed x hx with hq | hq
    · rcases List.mem_append.1 hq with hq | hq
      · exact Or.inl hq
      · rw [List.mem_singleton.1 hq]; exact Or.inr fun p hp _ => Or.inr hp
    · exact Or.inr fun p hp h0 => (hq p hp h0).imp id fun h => by cases h
  · exact (h.roots r hr h0).imp id fun h => by cases h
  · have := h.less
    simp only [List.length_append, List.length_singleton] at this
    omega
theorem WInv.done {ws rs S : List Int} (h : WInv ws rs S [] []) (a : Int) : a ∈ S ↔ Rch ws rs a := by
  refine ⟨h.live a, fun hr => hr (fun x => x ∈ S) (fun r hr h0 => ?_) (fun b hb p hp h0 => ?_)⟩
  · exact (h.roots r hr h0).elim id fun h => by cases h
  · rcases h.closed b hb with hq | hq
    · cases hq
    · exact (hq p hp h0).elim id fun h => by cases h

/-- What the reference keeps: marks (m), and what is still to be looked at (L). -/
structure MInv (ws rs : List Int) (m : List Bool) (L : List Int) : Prop where
  len : m.length = ws.length
  live : ∀ k : Nat, m[k]? = some true → Rch ws rs (k : Int)
  list : ∀ a ∈ L, a ≠ 0 → Rch ws rs a
  closed : ∀ k : Nat, m[k]? = some true → ∀ p ∈ ptsA ws (k : Int), p ≠ 0 → m[p.toNat]? = some true ∨ p ∈ L
  roots : ∀ r ∈ rs, r ≠ 0 → m[r.toNat]? = some true ∨ r ∈ L
theorem MInv.start (ws rs : List Int) : MInv ws rs (List.replicate ws.length false) rs := by
  have : ∀ k, ¬ (List.replicate ws.length false)[k]? = some true := fun k h => by
    rw [List.getElem?_replicate] at h
    split at h
    · cases h
    · cases h
  exact ⟨by simp, fun k h => absurd h (this k), fun a ha h0 => .root ha h0, fun k h => absurd h (this k), fun r hr _ => Or.inr hr⟩
/-- Nothing new. -/
theorem MInv.skip {ws rs : List Int} {m : List Bool} {L : List Int} {a : Int} (h : MInv ws rs m (L ++ [a])) (hc : a = 0 ∨ m[a.toNat]? = some true) : MInv ws rs m L := by
  have hin : ∀ p : Int, p ≠ 0 → m[p.toNat]? = some true ∨ p ∈ L ++ [a] → m[p.toNat]? = some true ∨ p ∈ L := fun p h0 hp => by
    rcases hp with hp | hp
    · exact Or.inl hp
    · rcases List.mem_append.1 hp with hp | hp
      · exact Or.inr hp
      · rw [List.mem_singleton.1 hp] at h0 ⊢
        rcases hc with hc | hc
        · exact absurd hc h0
        · exact Or.inl hc
  exact ⟨h.len, h.live, fun x hx => h.list x (List.mem_append_left _ hx), fun k hk p hp h0 => hin p h0 (h.closed k hk p hp h0), fun r hr h0 => hin r h0 (h.roots r hr h0)⟩
/-- One object more. -/
theorem MInv.mark {ws rs : List Int} {m : List Bool} {L : List Int} {a : Int} (h : MInv ws rs m (L ++ [a])) (ha : isOb ws a) : MInv ws rs (m.set a.toNat true) (L ++ ptsA ws a) := by
  obtain ⟨h1, h2, h3, h4⟩ := isOb_size ha
  have hal : a.toNat < m.length := by rw [h.len]; exact h3
  have h0 : a ≠ 0 := by have := ha.1; omega
  have hl : Rch ws rs a := h.list a (List.mem_append_right _ (List.mem_singleton.2 rfl)) h0
  have hset : ∀ k, m[k]? = some true → (m.set a.toNat true)[k]? = some true := fun k hk => by
    rw [List.getElem?_set]
    split
    · first | rfl | rw [if_pos hal]
    · exact hk
  have hin : ∀ p : Int, p ≠ 0 → m[p.toNat]? = some true ∨ p ∈ L ++ [a] → (m.set a.toNat true)[p.toNat]? = some true ∨ p ∈ L ++ ptsA ws a := fun p hp0 hp => by
    rcases hp with hp | hp
    · exact Or.inl (hset _ hp)
    · rcases List.mem_append.1 hp with hp | hp
      · exact Or.inr (List.mem_append_left _ hp)
      · rw [List.mem_singleton.1 hp]
        exact Or.inl (by rw [List.getElem?_set, if_pos rfl, if_pos hal])
  refine ⟨by rw [List.length_set]; exact h.len, fun k hk => ?_, fun x hx hx0 => ?_, fun k hk p hp hp0 => ?_, fun r hr hr0 => hin r hr0 (h.roots r hr hr0)⟩
  · rw [List.getElem?_set] at hk
    split at hk
    · rename_i e
      rw [← e, h4]
      exact hl
    · exact h.live k hk
  · rcases List.mem_append.1 hx with hx | hx
    · exact h.list x (List.mem_append_left _ hx) hx0
    · exact hl.ptr hx hx0
  · rw [List.getElem?_set] at hk
    split at hk
    · rename_i e
      rw [← e, h4] at hp
      exact Or.inr (List.mem_append_right _ hp)
    · exact hin p hp0 (h.closed k hk p hp hp0)
theorem MInv.done {ws rs : List Int} {m : List Bool} (h : MInv ws rs m []) (hh : heapB ws rs = true) (k : Nat) : m[k]? = some true ↔ Rch ws rs (k : Int) := by
  have hb : ∀ {a : Int}, Rch ws rs a → isOb ws a ∧ m[a.toNat]? = some true := fun {a} hr => by
    refine hr (fun x => isOb ws x ∧ m[x.toNat]? = some true) (fun r hr h0 => ⟨rch_ob hh (.root hr h0), ?_⟩) (fun b hb p hp h0 => ⟨isOb_of_pl (ptsA_pl hh hb.1 hp) h0, ?_⟩)
    · exact (h.roots r hr h0).elim id fun h => by cases h
    · refine (h.closed b.toNat hb.2 p ?_ h0).elim id fun h => by cases h
      rw [(isOb_size hb.1).2.2.2]
      exact hp
  refine ⟨h.live k, fun hr => ?_⟩
  have := (hb hr).2
  simpa using this
end Go.Proofs.YtlbhhdldeaehkaaGreat

/- Objects that are laid one behind the other, as plain data; nothing here speaks of the program. -/
namespace Go.Proofs.YtlbhhdldeaehkaaGreat
open Go.RowKit

/-- An object as it came: kind, pointers, data. -/
abbrev Ob := Int × List Int × List Int
/-- May it have a head? -/
def goodO (x : Ob) : Prop := x.2.1.length ≤ 255 ∧ 0 ≤ x.1 ∧ x.1 ≤ 15 ∧ 1 + x.2.1.length + x.2.2.length < 1048576
instance (x : Ob) : Decidable (goodO x) := by unfold goodO; infer_instance
def hdO (x : Ob) : Int := (1 + (x.2.1.length : Int) + (x.2.2.length : Int)) * 4096 + (x.2.1.length : Int) * 16 + x.1
def w32 (ps : List Int) : List Int := ps.map IntKind.u32.wrap
def wrdO (x : Ob) : List Int := if goodO x then hdO x :: (w32 x.2.1 ++ x.2.2) else []
/-- The words of them. -/
def layW (L : List Ob) : List Int := 0 :: L.flatMap wrdO
theorem layW_nil : layW [] = [0] := rfl
theorem layW_snoc (L : List Ob) (x : Ob) : layW (L ++ [x]) = layW L ++ wrdO x := by simp [layW]
theorem layW_app (L M : List Ob) : layW (L ++ M) = layW L ++ M.flatMap wrdO := by simp [layW]
theorem wrdO_good {x : Ob} (h : goodO x) : wrdO x = hdO x :: (w32 x.2.1 ++ x.2.2) := by simp [wrdO, h]
theorem wrdO_bad {x : Ob} (h : ¬ goodO x) : wrdO x = [] := by simp [wrdO, h]
theorem w32_len (ps : List Int) : (w32 ps).length = ps.length := List.length_map _
theorem wrdO_len (x : Ob) : (wrdO x).length ≤ 1048575 := by
  by_cases h : goodO x
  · rw [wrdO_good h, List.length_cons, List.length_append, w32_len]
    have := h.2.2.2
    omega
  · rw [wrdO_bad h]; simp
theorem layW_len : ∀ L : List Ob, (layW L).length ≤ 1 + L.length * 1048575
  | [] => by simp [layW]
  | x :: L => by
    have h1 := layW_len L
    have h2 := wrdO_len x
    simp only [layW, List.flatMap_cons, List.length_cons, List.length_append] at h1 ⊢
    omega
theorem layW_pos (L : List Ob) : 1 ≤ (layW L).length := by simp [layW]
theorem hdO_parts {x : Ob} (h : goodO x) : 0 ≤ hdO x ∧ hdO x < 4294967296 ∧ szN (hdO x) = 1 + x.2.1.length + x.2.2.length ∧ ptN (hdO x) = x.2.1.length ∧ hdO x % 16 = x.1 := by
  obtain ⟨h1, h2, h3, h4⟩ := h
  unfold hdO szN ptN
  refine ⟨by omega, by omega, by omega, by omega, by omega⟩
theorem layW_u32 {L : List Ob} (h : ∀ x ∈ L, U32 x.2.2) : U32 (layW L) := by
  intro z hz
  simp only [layW, List.mem_cons, List.mem_flatMap] at hz
  rcases hz with rfl | ⟨x, hx, hz⟩
  · omega
  · by_cases hg : goodO x
    · rw [wrdO_good hg] at hz
      simp only [List.mem_cons, List.mem_append, w32, List.mem_map] at hz
      rcases hz with rfl | ⟨y, _, rfl⟩ | hz
      · have := hdO_parts hg; omega
      · rw [IntKind.wrap_u32]; omega
      · exact h x hx z hz
    · rw [wrdO_bad hg] at hz; cases hz
/-- What stands at an object's place. -/
theorem lay_at (M post : List Ob) {x : Ob} (h : goodO x) : okH (layW (M ++ x :: post)) (layW M).length ∧ wd (layW (M ++ x :: post)) (layW M).length = hdO x ∧ ptrsO (layW (M ++ x :: post)) ((layW M).length, hdO x) = w32 x.2.1 ∧ dataO (layW (M ++ x :: post)) ((layW M).length, hdO x) = x.2.2 := by
  obtain ⟨p1, p2, p3, p4, p5⟩ := hdO_parts h
  have e : layW (M ++ x :: post) = layW M ++ (hdO x :: (w32 x.2.1 ++ x.2.2 ++ post.flatMap wrdO)) := by
    rw [layW_app, List.flatMap_cons, wrdO_good h]; simp
  have hw : wd (layW (M ++ x :: post)) (layW M).length = hdO x := by
    rw [wd, e, List.getElem?_append_right (Nat.le_refl _), Nat.sub_self]; rfl
  have hd : ∀ k, (layW (M ++ x :: post)).drop ((layW M).length + 1 + k) = (w32 x.2.1 ++ x.2.2 ++ post.flatMap wrdO).drop k := by
    intro k
    rw [e, Nat.add_assoc, List.drop_append, List.drop_eq_nil_of_le (by omega), List.nil_append, show (layW M).length + (1 + k) - (layW M).length = k + 1 by omega, List.drop_succ_cons]
  refine ⟨⟨?_, ?_, ?_⟩, hw, ?_, ?_⟩
  · rw [e, List.length_append, List.length_cons]; omega
  · rw [hw, p3, p4]; omega
  · rw [hw, p3, e, List.length_append, List.length_cons, List.length_append, List.length_append, w32_len]; omega
  · have := hd 0
    simp only [ptrsO, p4]
    rw [Nat.add_zero] at this
    rw [this, List.drop_zero, List.append_assoc, ← w32_len x.2.1, List.take_left]
  · simp only [dataO, p4, p3]
    rw [hd, ← w32_len x.2.1, List.append_assoc, List.drop_left, show 1 + (w32 x.2.1).length + x.2.2.length - 1 - (w32 x.2.1).length = x.2.2.length by omega, List.take_left]
theorem lay_obs (n : Nat) : ∀ (M post : List Ob), M.length = n → ∃ Z, obs (layW (M ++ post)) 1 = Z ++ obs (layW (M ++ post)) (layW M).length := by
  induction n with
  | zero =>
    intro M post h
    obtain rfl := List.length_eq_zero_iff.1 h
    exact ⟨[], rfl⟩
  | succ n ih =>
    intro M post h
    rcases List.eq_nil_or_concat M with rfl | ⟨M, x, rfl⟩
    · simp at h
    · rw [List.concat_eq_append] at h ⊢
      obtain ⟨Z, hZ⟩ := ih M (x :: post) (by simpa using h)
      rw [show M ++ [x] ++ post = M ++ x :: post by simp, layW_snoc]
      by_cases hg : goodO x
      · obtain ⟨k1, k2, _, _⟩ := lay_at M post hg
        obtain ⟨p1, p2, p3, p4, p5⟩ := hdO_parts hg
        refine ⟨Z ++ [((layW M).length, hdO x)], ?_⟩
        rw [hZ, obs_step k1, k2, p3, wrdO_good hg, List.length_append, List.length_cons, List.length_append, w32_len, List.append_assoc]
        rw [show (layW M).length + (x.2.1.length + x.2.2.length + 1) = (layW M).length + (1 + x.2.1.length + x.2.2.length) by omega]
        rfl
      · rw [wrdO_bad hg, List.append_nil]
        exact ⟨Z, hZ⟩
end Go.Proofs.YtlbhhdldeaehkaaGreat

/- A heap that slides together, as plain data; nothing here speaks of the program. -/
namespace Go.Proofs.YtlbhhdldeaehkaaGreat
open Go.RowKit

/-- How many words the object at a place has. -/
def szA (ws : List Int) (a : Int) : Nat := szN (wd ws a.toNat)
def dtA (ws : List Int) (a : Int) : List Int := dataO ws (a.toNat, wd ws a.toNat)
/-- The object at a place, its pointers followed by t. -/
def obT (ws : List Int) (t : Int → Int) (a : Int) : Ob := (wd ws a.toNat % 16, (ptsA ws a).map t, dtA ws a)
/-- Where a place goes, if objects are laid one behind the other from p on; 0: it is none of them. -/
def toP (ws : List Int) : List Int → Nat → Int → Nat
  | [], _, _ => 0
  | b :: l, p, a => if a = b then p else toP ws l (p + szA ws b) a
def toA (ws l : List Int) (a : Int) : Int := (toP ws l 1 a : Nat)
/-- The heap that slid together, its roots, and where each went. -/
def cW (ws l : List Int) : List Int := layW (l.map (obT ws (toA ws l)))
def cR (ws l rs : List Int) : List Int := rs.map (toA ws l)
def posL (ws l : List Int) : List (Int × Int) := l.map fun a => (a, toA ws l a)
def sums (ws : List Int) : List Int → Nat
  | [] => 0
  | a :: l => szA ws a + sums ws l
theorem sums_app (ws l m : List Int) : sums ws (l ++ m) = sums ws l + sums ws m := by
  induction l with
  | nil => simp [sums]
  | cons a l ih => simp only [List.cons_append, sums, ih]; omega

theorem dtA_len {ws : List Int} {a : Int} (h : isOb ws a) : (dtA ws a).length = szA ws a - 1 - ptN (wd ws a.toNat) := by
  obtain ⟨h1, h2, h3, h4⟩ := isOb_size h
  unfold dtA dataO szA
  simp only [List.length_take, List.length_drop]
  omega
theorem obT_good {ws : List Int} (hU : U32 ws) {t : Int → Int} {a : Int} (h : isOb ws a) : goodO (obT ws t a) ∧ hdO (obT ws t a) = wd ws a.toNat ∧ (wrdO (obT ws t a)).length = szA ws a := by
  obtain ⟨h1, h2, h3, h4⟩ := isOb_size h
  obtain ⟨u0, u1⟩ := hU.wd a.toNat
  have hp := ptsA_len h
  have hd := dtA_len h
  have l1 := ptN_lt (wd ws a.toNat)
  have l2 := szN_lt u1
  have e1 := szN_int u0
  have e2 := ptN_int (wd ws a.toNat)
  have hg : goodO (obT ws t a) := by
    refine ⟨?_, ?_, ?_, ?_⟩
    · show ((ptsA ws a).map t).length ≤ 255
      rw [List.length_map, hp]; omega
    · show 0 ≤ wd ws a.toNat % 16
      omega
    · show wd ws a.toNat % 16 ≤ 15
      omega
    · show 1 + ((ptsA ws a).map t).length + (dtA ws a).length < 1048576
      rw [List.length_map, hp, hd]; unfold szA; omega
  refine ⟨hg, ?_, ?_⟩
  · show (1 + (((ptsA ws a).map t).length : Int) + ((dtA ws a).length : Int)) * 4096 + (((ptsA ws a).map t).length : Int) * 16 + wd ws a.toNat % 16 = wd ws a.toNat
    rw [List.length_map, hp, hd]
    unfold szA
    omega
  · rw [wrdO_good hg, List.length_cons, List.length_append, w32_len]
    show ((ptsA ws a).map t).length + (dtA ws a).length + 1 = szA ws a
    rw [List.length_map, hp, hd]; unfold szA; omega
theorem lay_len {ws : List Int} (hU : U32 ws) {t : Int → Int} : ∀ {M : List Int}, (∀ a ∈ M, isOb ws a) → (layW (M.map (obT ws t))).length = 1 + sums ws M
  | [], _ => rfl
  | a :: M, h => by
    have h1 := lay_len hU (t := t) (M := M) (fun x hx => h x (List.mem_cons_of_mem _ hx))
    have h2 := (obT_good hU (t := t) (h a (List.mem_cons_self ..))).2.2
    simp only [layW, List.map_cons, List.flatMap_cons, List.length_cons, List.length_append, sums] at h1 ⊢
    omega

theorem toP_mem {ws : List Int} : ∀ {M R : List Int} {p : Nat} {a : Int}, a ∉ M → toP ws (M ++ a :: R) p a = p + sums ws M
  | [], R, p, a, _ => by simp [toP, sums]
  | b :: M, R, p, a, h => by
    have hne : a ≠ b := fun e => h (e ▸ List.mem_cons_self ..)
    simp only [List.cons_append, toP, if_neg hne, sums]
    rw [toP_mem (fun e => h (List.mem_cons_of_mem _ e))]
    omega
theorem toP_none {ws : List Int} : ∀ {l : List Int} {p : Nat} {a : Int}, a ∉ l → toP ws l p a = 0
  | [], _, _, _ => rfl
  | b :: l, p, a, h => by
    have hne : a ≠ b := fun e => h (e ▸ List.mem_cons_self ..)
    simp only [toP, if_neg hne]
    exact toP_none (fun e => h (List.mem_cons_of_mem _ e))
theorem toA_none {ws l : List Int} {a : Int} (h : a ∉ l) : toA ws l a = 0 := by unfold toA; rw [toP_none h]; rfl
theorem toA_mem {ws M R : List Int} {a : Int} (h : a ∉ M) : toA ws (M ++ a :: R) a = ((1 + sums ws M : Nat) : Int) := by unfold toA; rw [toP_mem h]

/-- What lives, as it is asked for here: rising objects, closed under pointers. -/
structure Liv (ws l : List Int) : Prop where
  u32 : U32 ws
  most : ws.length ≤ 1048576
  rise : l.Pairwise (fun a b => a < b)
  ob : ∀ a ∈ l, isOb ws a
  closed : ∀ a ∈ l, ∀ p ∈ ptsA ws a, p = 0 ∨ p ∈ l
theorem Liv.nz {ws l : List Int} (h : Liv ws l) : (0 : Int) ∉ l := fun e => by have := (h.ob 0 e).1; omega
theorem Liv.apart {ws l : List Int} (h : Liv ws l) {M R : List Int} {a : Int} (e : l = M ++ a :: R) : a ∉ M := fun hm => by
  have := (List.pairwise_append.1 (e ▸ h.rise)).2.2 a hm a (List.mem_cons_self ..)
  omega
theorem Liv.of {ws rs l : List Int} (hU : U32 ws) (hR : rightB ws rs = true) (h : LiveIs ws rs l) : Liv ws l := by
  obtain ⟨r1, r2, r3, r4, r5⟩ := right_parts hR
  refine ⟨hU, r2, h.1, fun a ha => rch_ob r5 ((h.2 a).1 ha), fun a ha p hp => ?_⟩
  by_cases h0 : p = 0
  · exact Or.inl h0
  · exact Or.inr ((h.2 p).2 (((h.2 a).1 ha).ptr hp h0))

theorem Liv.at {ws l M R : List Int} {a : Int} (h : Liv ws l) (e : l = M ++ a :: R) : toA ws l a = ((1 + sums ws M : Nat) : Int) := by
  have := toA_mem (ws := ws) (R := R) (h.apart e)
  rw [← e] at this
  exact this
/-- What stands at a new place. -/
theorem cW_at {ws l M R : List Int} {a : Int} (h : Liv ws l) (e : l = M ++ a :: R) :
    toA ws l a = ((layW (M.map (obT ws (toA ws l)))).length : Int) ∧ okH (cW ws l) (toA ws l a).toNat ∧ wd (cW ws l) (toA ws l a).toNat = wd ws a.toNat ∧ ptsA (cW ws l) (toA ws l a) = w32 ((ptsA ws a).map (toA ws l)) ∧ dtA (cW ws l) (toA ws l a) = dtA ws a := by
  have hM : ∀ x ∈ M, isOb ws x := fun x hx => h.ob x (by rw [e]; exact List.mem_append_left _ hx)
  have ha : isOb ws a := h.ob a (by rw [e]; exact List.mem_append_right _ (List.mem_cons_self ..))
  have ht : toA ws l a = ((layW (M.map (obT ws (toA ws l)))).length : Int) := by
    rw [lay_len h.u32 hM]
    exact h.at e
  obtain ⟨g1, g2, g3⟩ := obT_good h.u32 (t := toA ws l) ha
  obtain ⟨k1, k2, k3, k4⟩ := lay_at (M.map (obT ws (toA ws l))) (R.map (obT ws (toA ws l))) g1
  have hc : cW ws l = layW (M.map (obT ws (toA ws l)) ++ obT ws (toA ws l) a :: R.map (obT ws (toA ws l))) := by
    unfold cW
    conv => lhs; arg 1; rw [e]
    simp only [List.map_append, List.map_cons]
    rw [← e]
  have hn : (toA ws l a).toNat = (layW (M.map (obT ws (toA ws l)))).length := by rw [ht]; simp
  rw [← hc] at k1 k2 k3 k4
  rw [g2] at k2 k3 k4
  refine ⟨ht, ?_, ?_, ?_, ?_⟩
  · rw [hn]; exact k1
  · rw [hn]; exact k2
  · unfold ptsA; rw [hn, k2]; exact k3
  · unfold dtA; rw [hn, k2]; exact k4

/-- Objects do not overlap. -/
theorem ob_apart {ws : List Int} {a b : Int} (ha : isOb ws a) (hb : isOb ws b) (h : a < b) : a.toNat + szA ws a ≤ b.toNat := by
  obtain ⟨pre, rest, hs⟩ := List.append_of_mem ha.2.2
  obtain ⟨q1, q2, q3, q4⟩ := obs_next hs
  rw [endO_snoc] at q4
  have h2 := hb.2.2
  rw [hs] at h2
  have h1 := ha.1
  rcases List.mem_append.1 h2 with h2 | h2
  · have := (obs_ahead hs).2 _ h2
    dsimp only at this
    omega
  · rcases List.mem_cons.1 h2 with h2 | h2
    · have := congrArg Prod.fst h2
      dsimp only at this
      omega
    · rw [q4] at h2
      obtain ⟨pre2, rest2, hs2⟩ := List.append_of_mem h2
      have := (obs_ahead hs2).1
      dsimp only at this
      exact this
/-- What lies ahead of an object ends ahead of it. -/
theorem sums_le {ws : List Int} : ∀ {M : List Int} {p n : Nat}, M.Pairwise (fun a b => a < b) → (∀ a ∈ M, isOb ws a ∧ p ≤ a.toNat ∧ a.toNat + szA ws a ≤ n) → p ≤ n → p + sums ws M ≤ n
  | [], p, n, _, _, h => by simpa [sums] using h
  | a :: M, p, n, hr, hm, _ => by
    obtain ⟨r1, r2⟩ := List.pairwise_cons.1 hr
    obtain ⟨o1, o2, o3⟩ := hm a (List.mem_cons_self ..)
    have := sums_le (ws := ws) (M := M) (p := p + szA ws a) (n := n) r2 (fun b hb => ?_) (by omega)
    · simp only [sums]; omega
    · obtain ⟨b1, b2, b3⟩ := hm b (List.mem_cons_of_mem _ hb)
      have := ob_apart o1 b1 (r1 b hb)
      exact ⟨b1, by omega, b3⟩
theorem Liv.low {ws l M R : List Int} {a : Int} (h : Liv ws l) (e : l = M ++ a :: R) : 1 + sums ws M ≤ a.toNat := by
  have hp := List.pairwise_append.1 (e ▸ h.rise)
  have ha : isOb ws a := h.ob a (by rw [e]; exact List.mem_append_right _ (List.mem_cons_self ..))
  have h1 := ha.1
  refine sums_le hp.1 (fun b hb => ?_) (by omega)
  have hob : isOb ws b := h.ob b (by rw [e]; exact List.mem_append_left _ hb)
  have := hob.1
  exact ⟨hob, by omega, ob_apart hob ha (hp.2.2 b hb a (List.mem_cons_self ..))⟩
theorem Liv.all {ws l : List Int} (h : Liv ws l) (h0 : 1 ≤ ws.length) : 1 + sums ws l ≤ ws.length := by
  refine sums_le h.rise (fun b hb => ?_) h0
  obtain ⟨h1, h2, h3, h4⟩ := isOb_size (h.ob b hb)
  have := (h.ob b hb).1
  exact ⟨h.ob b hb, by omega, by unfold szA; omega⟩
theorem Liv.to {ws l : List Int} {a : Int} (h : Liv ws l) (ha : a ∈ l) : 0 < toA ws l a ∧ toA ws l a ≤ a := by
  obtain ⟨M, R, e⟩ := List.append_of_mem ha
  have h1 := h.low e
  have h2 : toA ws l a = ((1 + sums ws M : Nat) : Int) := h.at e
  have h3 := (h.ob a ha).1
  omega
theorem Liv.to_bound {ws l : List Int} (h : Liv ws l) (a : Int) : 0 ≤ toA ws l a ∧ toA ws l a < 1048576 := by
  by_cases ha : a ∈ l
  · have h1 := h.to ha
    have h2 := (h.ob a ha).2.1
    have h3 := h.most
    omega
  · rw [toA_none ha]; omega
theorem Liv.w32 {ws l : List Int} (h : Liv ws l) (ps : List Int) : Go.Proofs.YtlbhhdldeaehkaaGreat.w32 (ps.map (toA ws l)) = ps.map (toA ws l) := by
  unfold Go.Proofs.YtlbhhdldeaehkaaGreat.w32
  rw [List.map_map]
  refine List.map_congr_left fun p _ => ?_
  have := h.to_bound p
  show IntKind.u32.wrap (toA ws l p) = toA ws l p
  rw [IntKind.wrap_u32]
  omega
theorem Liv.mono {ws l M R N : List Int} {a b : Int} (h : Liv ws l) (e : l = M ++ a :: (R ++ b :: N)) : toA ws l a + szA ws a ≤ toA ws l b := by
  have h1 : toA ws l a = ((1 + sums ws M : Nat) : Int) := h.at e
  have e2 : l = (M ++ a :: R) ++ b :: N := by rw [e]; simp
  have h2 : toA ws l b = ((1 + sums ws (M ++ a :: R) : Nat) : Int) := h.at e2
  rw [sums_app] at h2
  simp only [sums] at h2
  omega
theorem cW_len {ws l : List Int} (h : Liv ws l) : (cW ws l).length = 1 + sums ws l := lay_len h.u32 h.ob
theorem cW_u32 {ws l : List Int} (h : Liv ws l) : U32 (cW ws l) := layW_u32 fun x hx => by
  obtain ⟨a, _, rfl⟩ := List.mem_map.1 hx
  intro z hz
  exact h.u32 z (List.mem_of_mem_drop (List.mem_of_mem_take hz))
/-- The objects of what slid together. -/
theorem cW_obs {ws l : List Int} (h : Liv ws l) : ∀ (R M : List Int), l = M ++ R → obs (cW ws l) (1 + sums ws M) = R.map fun a => ((toA ws l a).toNat, wd ws a.toNat)
  | [], M, e => by
    refine obs_stop fun hk => ?_
    have h1 := hk.1
    have h2 := cW_len h
    rw [e, List.append_nil] at h2
    rw [e, List.append_nil] at h1
    omega
  | a :: R, M, e => by
    obtain ⟨t, k1, k2, _, _⟩ := cW_at h e
    have hM : ∀ x ∈ M, isOb ws x := fun x hx => h.ob x (by rw [e]; exact List.mem_append_left _ hx)
    rw [lay_len h.u32 hM] at t
    have hn : (toA ws l a).toNat = 1 + sums ws M := by rw [t, Int.toNat_natCast]
    rw [hn] at k1 k2
    have ih := cW_obs h R (M ++ [a]) (by rw [e]; simp)
    rw [sums_app] at ih
    simp only [sums, Nat.add_zero] at ih
    rw [obs_step k1, k2, List.map_cons, hn]
    congr 1
    rw [← ih]
    unfold szA
    congr 1
    omega
theorem cW_obs1 {ws l : List Int} (h : Liv ws l) : obs (cW ws l) 1 = l.map fun a => ((toA ws l a).toNat, wd ws a.toNat) := cW_obs h l [] rfl
theorem cW_ob {ws l : List Int} (h : Liv ws l) {a : Int} (ha : a ∈ l) : isOb (cW ws l) (toA ws l a) := by
  obtain ⟨M, R, e⟩ := List.append_of_mem ha
  obtain ⟨t, k1, k2, _, _⟩ := cW_at h e
  have h1 := (h.to ha).1
  refine ⟨h1, by have := k1.1; omega, ?_⟩
  rw [k2, cW_obs1 h]
  exact List.mem_map.2 ⟨a, ha, rfl⟩
theorem cW_pl {ws l : List Int} (h : Liv ws l) {p : Int} (hp : p = 0 ∨ p ∈ l) : isPl (cW ws l).length (obs (cW ws l) 1) (toA ws l p) = true := by
  rcases hp with rfl | hp
  · rw [toA_none h.nz]; simp [isPl]
  · obtain ⟨h1, h2, h3⟩ := cW_ob h hp
    unfold isPl
    simp only [Bool.or_eq_true, Bool.and_eq_true, decide_eq_true_eq]
    exact Or.inr ⟨⟨h1, h2⟩, List.mem_map.2 ⟨_, h3, rfl⟩⟩
theorem cW_end {ws l : List Int} (h : Liv ws l) : endO (obs (cW ws l) 1) = (cW ws l).length := by
  rw [cW_obs1 h, cW_len h]
  rcases List.eq_nil_or_concat l with e | ⟨M, a, e⟩
  · rw [e]; rfl
  · rw [List.concat_eq_append] at e
    have ht : toA ws l a = ((1 + sums ws M : Nat) : Int) := h.at e
    have hm : (l.map fun a => ((toA ws l a).toNat, wd ws a.toNat)) = (M.map fun a => ((toA ws l a).toNat, wd ws a.toNat)) ++ [((toA ws l a).toNat, wd ws a.toNat)] := by
      conv => lhs; arg 2; rw [e]
      simp
    rw [hm, endO_snoc, ht]
    conv => rhs; rw [e, sums_app]
    simp only [sums, Int.toNat_natCast]
    unfold szA
    omega
theorem cW_right {ws l rs : List Int} (h : Liv ws l) (h0 : 1 ≤ ws.length) (hl : rs.length ≤ 16) (hr : ∀ r ∈ rs, r = 0 ∨ r ∈ l) : rightB (cW ws l) (cR ws l rs) = true := by
  have h1 := cW_len h
  have h2 := h.all h0
  have h3 := h.most
  unfold rightB heapB
  simp only [Bool.and_eq_true, decide_eq_true_eq, List.all_eq_true]
  refine ⟨⟨⟨⟨by omega, by omega⟩, rfl⟩, by unfold cR; rw [List.length_map]; exact hl⟩, ⟨cW_end h, fun x hx p hp => ?_⟩, fun r hr' => ?_⟩
  · rw [cW_obs1 h] at hx
    obtain ⟨a, ha, rfl⟩ := List.mem_map.1 hx
    obtain ⟨M, R, e⟩ := List.append_of_mem ha
    obtain ⟨t, k1, k2, k3, _⟩ := cW_at h e
    rw [h.w32] at k3
    have : ptrsO (cW ws l) ((toA ws l a).toNat, wd ws a.toNat) = (ptsA ws a).map (toA ws l) := by
      rw [← k3]; unfold ptsA; rw [k2]
    rw [this] at hp
    obtain ⟨q, hq, rfl⟩ := List.mem_map.1 hp
    exact cW_pl h (h.closed a ha q hq)
  · obtain ⟨q, hq, rfl⟩ := List.mem_map.1 hr'
    exact cW_pl h (hr q hq)
end Go.Proofs.YtlbhhdldeaehkaaGreat

/- A heap that slides together: what is reached, what lives, and that it may be done again; nothing here speaks of the program. -/
namespace Go.Proofs.YtlbhhdldeaehkaaGreat
open Go.RowKit

theorem cW_pts {ws l : List Int} (h : Liv ws l) {a : Int} (ha : a ∈ l) : ptsA (cW ws l) (toA ws l a) = (ptsA ws a).map (toA ws l) ∧ wd (cW ws l) (toA ws l a).toNat = wd ws a.toNat ∧ dtA (cW ws l) (toA ws l a) = dtA ws a := by
  obtain ⟨M, R, e⟩ := List.append_of_mem ha
  obtain ⟨t, k1, k2, k3, k4⟩ := cW_at h e
  rw [h.w32] at k3
  exact ⟨k3, k2, k4⟩
theorem Liv.lt {ws l : List Int} (h : Liv ws l) {a b : Int} (ha : a ∈ l) (hb : b ∈ l) (hab : a < b) : toA ws l a + szA ws a ≤ toA ws l b := by
  obtain ⟨M, R, e⟩ := List.append_of_mem ha
  have hp := List.pairwise_append.1 (e ▸ h.rise)
  have hbR : b ∈ R := by
    rw [e] at hb
    rcases List.mem_append.1 hb with hb | hb
    · have := hp.2.2 b hb a (List.mem_cons_self ..); omega
    · rcases List.mem_cons.1 hb with hb | hb
      · omega
      · exact hb
  obtain ⟨R1, N, e2⟩ := List.append_of_mem hbR
  exact h.mono (by rw [e, e2])
theorem Liv.size {ws l : List Int} (h : Liv ws l) {a : Int} (ha : a ∈ l) : 0 < szA ws a := by
  have := (isOb_size (h.ob a ha)).1
  unfold szA
  omega
theorem Liv.inj {ws l : List Int} (h : Liv ws l) {a b : Int} (ha : a = 0 ∨ a ∈ l) (hb : b = 0 ∨ b ∈ l) (he : toA ws l a = toA ws l b) : a = b := by
  rcases ha with rfl | ha
  · rcases hb with rfl | hb
    · rfl
    · rw [toA_none h.nz] at he
      have := (h.to hb).1
      omega
  · rcases hb with rfl | hb
    · rw [toA_none h.nz] at he
      have := (h.to ha).1
      omega
    · rcases Int.lt_trichotomy a b with h1 | h1 | h1
      · have := h.lt ha hb h1; have := h.size ha; omega
      · exact h1
      · have := h.lt hb ha h1; have := h.size hb; omega
/-- What some roots lead to is among what lives. -/
theorem Liv.rch {ws l qs : List Int} (h : Liv ws l) (hs : ∀ r ∈ qs, r = 0 ∨ r ∈ l) {a : Int} (hr : Rch ws qs a) : a ∈ l :=
  hr (fun x => x ∈ l) (fun r hr h0 => (hs r hr).resolve_left h0) (fun b hb p hp h0 => (h.closed b hb p hp).resolve_left h0)
theorem cW_rch {ws l qs : List Int} (h : Liv ws l) (hs : ∀ r ∈ qs, r = 0 ∨ r ∈ l) {y : Int} : Rch (cW ws l) (cR ws l qs) y ↔ ∃ a, Rch ws qs a ∧ y = toA ws l a := by
  constructor
  · intro hr
    refine hr (fun y => ∃ a, Rch ws qs a ∧ y = toA ws l a) (fun r hr h0 => ?_) (fun b hb p hp h0 => ?_)
    · obtain ⟨q, hq, rfl⟩ := List.mem_map.1 hr
      have hq0 : q ≠ 0 := fun e => h0 (by rw [e]; exact toA_none h.nz)
      exact ⟨q, .root hq hq0, rfl⟩
    · obtain ⟨a, ha, rfl⟩ := hb
      rw [(cW_pts h (h.rch hs ha)).1] at hp
      obtain ⟨q, hq, rfl⟩ := List.mem_map.1 hp
      have hq0 : q ≠ 0 := fun e => h0 (by rw [e]; exact toA_none h.nz)
      exact ⟨q, ha.ptr hq hq0, rfl⟩
  · rintro ⟨a, ha, rfl⟩
    have key : a ∈ l ∧ Rch (cW ws l) (cR ws l qs) (toA ws l a) := by
      refine ha (fun x => x ∈ l ∧ Rch (cW ws l) (cR ws l qs) (toA ws l x)) (fun r hr h0 => ?_) (fun b hb p hp h0 => ?_)
      · have hrl := (hs r hr).resolve_left h0
        exact ⟨hrl, .root (List.mem_map.2 ⟨r, hr, rfl⟩) (by have := (h.to hrl).1; omega)⟩
      · have hpl := (h.closed b hb.1 p hp).resolve_left h0
        refine ⟨hpl, hb.2.ptr ?_ (by have := (h.to hpl).1; omega)⟩
        rw [(cW_pts h hb.1).1]
        exact List.mem_map.2 ⟨p, hp, rfl⟩
    exact key.2
/-- What lives in what slid together. -/
theorem cW_live {ws l qs m : List Int} (h : Liv ws l) (hs : ∀ r ∈ qs, r = 0 ∨ r ∈ l) (hm : LiveIs ws qs m) : LiveIs (cW ws l) (cR ws l qs) (m.map (toA ws l)) := by
  have hml : ∀ a ∈ m, a ∈ l := fun a ha => h.rch hs ((hm.2 a).1 ha)
  refine ⟨List.pairwise_map.2 (List.Pairwise.imp_of_mem (fun {a b} ha hb hab => ?_) hm.1), fun y => ?_⟩
  · have := h.lt (hml a ha) (hml b hb) hab
    have := h.size (hml a ha)
    omega
  · rw [cW_rch h hs, List.mem_map]
    constructor
    · rintro ⟨a, ha, rfl⟩
      exact ⟨a, (hm.2 a).1 ha, rfl⟩
    · rintro ⟨a, ha, rfl⟩
      exact ⟨a, (hm.2 a).2 ha, rfl⟩
theorem Liv.sub {ws l qs m : List Int} (h : Liv ws l) (hs : ∀ r ∈ qs, r = 0 ∨ r ∈ l) (hm : LiveIs ws qs m) : Liv ws m :=
  ⟨h.u32, h.most, hm.1, fun a ha => h.ob a (h.rch hs ((hm.2 a).1 ha)), fun a ha p hp => by
    by_cases h0 : p = 0
    · exact Or.inl h0
    · exact Or.inr ((hm.2 p).2 (((hm.2 a).1 ha).ptr hp h0))⟩

theorem toP_map {ws vs : List Int} {t : Int → Int} {a : Int} : ∀ {m : List Int} {p : Nat}, (∀ b ∈ m, szA vs (t b) = szA ws b ∧ (t a = t b → a = b)) → toP vs (m.map t) p (t a) = toP ws m p a
  | [], _, _ => rfl
  | b :: m, p, h => by
    obtain ⟨h1, h2⟩ := h b (List.mem_cons_self ..)
    simp only [List.map_cons, toP]
    by_cases e : a = b
    · rw [if_pos e, if_pos (by rw [e])]
    · rw [if_neg e, if_neg (fun e2 => e (h2 e2)), h1]
      exact toP_map fun x hx => h x (List.mem_cons_of_mem _ hx)
/-- To slide what slid together, once more: as if it had been done at once. -/
theorem cc_to {ws l m : List Int} (h : Liv ws l) (hml : ∀ a ∈ m, a ∈ l) {a : Int} (ha : a = 0 ∨ a ∈ l) : toA (cW ws l) (m.map (toA ws l)) (toA ws l a) = toA ws m a := by
  unfold toA
  congr 1
  refine toP_map fun b hb => ⟨?_, fun e => h.inj ha (Or.inr (hml b hb)) e⟩
  unfold szA
  rw [← (cW_pts h (hml b hb)).2.1]
  rfl
theorem cc_cW {ws l m : List Int} (h : Liv ws l) (hm : Liv ws m) (hml : ∀ a ∈ m, a ∈ l) : cW (cW ws l) (m.map (toA ws l)) = cW ws m := by
  unfold cW
  congr 1
  rw [List.map_map]
  refine List.map_congr_left fun a ha => ?_
  obtain ⟨k1, k2, k3⟩ := cW_pts h (hml a ha)
  show obT (cW ws l) (toA (cW ws l) (m.map (toA ws l))) (toA ws l a) = obT ws (toA ws m) a
  unfold obT
  rw [k1, k2, k3, List.map_map]
  congr 2
  refine List.map_congr_left fun q hq => ?_
  exact cc_to h hml ((hm.closed a ha q hq).imp id (hml q))
theorem cc_cR {ws l m qs : List Int} (h : Liv ws l) (hml : ∀ a ∈ m, a ∈ l) (hq : ∀ r ∈ qs, r = 0 ∨ r ∈ l) : cR (cW ws l) (m.map (toA ws l)) (cR ws l qs) = cR ws m qs := by
  unfold cR
  rw [List.map_map]
  exact List.map_congr_left fun q hq' => cc_to h hml (hq q hq')
/-- The list of where each went answers where a place went. -/
def fndP : List (Int × Int) → Int → Int
  | [], _ => 0
  | x :: l, a => if x.1 = a then x.2 else fndP l a
theorem fndP_pos {ws L : List Int} : ∀ {l : List Int} {a : Int}, a ∈ l → fndP (l.map fun a => (a, toA ws L a)) a = toA ws L a
  | b :: l, a, h => by
    simp only [List.map_cons, fndP]
    by_cases e : b = a
    · rw [if_pos e, e]
    · rw [if_neg e]
      exact fndP_pos ((List.mem_cons.1 h).resolve_left (fun e2 => e e2.symm))
theorem fndP_none : ∀ {l : List (Int × Int)} {a : Int}, (∀ x ∈ l, x.1 ≠ a) → fndP l a = 0
  | [], _, _ => rfl
  | x :: l, a, h => by
    simp only [fndP]
    rw [if_neg (h x (List.mem_cons_self ..))]
    exact fndP_none fun y hy => h y (List.mem_cons_of_mem _ hy)
theorem fnd_to (ws l : List Int) (a : Int) : fndP (posL ws l) a = toA ws l a := by
  by_cases h : a ∈ l
  · exact fndP_pos h
  · rw [toA_none h]
    refine fndP_none fun x hx => ?_
    obtain ⟨b, hb, rfl⟩ := List.mem_map.1 hx
    exact fun e => h (e ▸ hb)
theorem isPl_iff14 {ws : List Int} {a : Int} : isPl ws.length (obs ws 1) a = true ↔ a = 0 ∨ isOb ws a := by
  constructor
  · intro h
    by_cases h0 : a = 0
    · exact Or.inl h0
    · exact Or.inr (isOb_of_pl h h0)
  · rintro (h | ⟨h1, h2, h3⟩)
    · subst h; simp [isPl]
    · unfold isPl
      simp only [Bool.or_eq_true, Bool.and_eq_true, decide_eq_true_eq]
      exact Or.inr ⟨⟨h1, h2⟩, List.mem_map.2 ⟨_, h3, rfl⟩⟩
end Go.Proofs.YtlbhhdldeaehkaaGreat

/- A heap that slides together: where all objects live nothing moves, and nothing changes; nothing here speaks of the program. -/
namespace Go.Proofs.YtlbhhdldeaehkaaGreat
open Go.RowKit

theorem obs_rise (ws : List Int) : ∀ (n p : Nat), ws.length - p ≤ n → ((obs ws p).map fun x => (x.1 : Int)).Pairwise (fun a b => a < b) ∧ ∀ x ∈ obs ws p, p ≤ x.1
  | 0, p, h => by
    have : ¬ okH ws p := fun hk => by have := hk.1; omega
    rw [obs_stop this]
    exact ⟨List.Pairwise.nil, fun x hx => by cases hx⟩
  | n + 1, p, h => by
    by_cases hk : okH ws p
    · obtain ⟨k1, k2, k3⟩ := id hk
      obtain ⟨i1, i2⟩ := obs_rise ws n (p + szN (wd ws p)) (by omega)
      rw [obs_step hk, List.map_cons]
      refine ⟨List.pairwise_cons.2 ⟨fun y hy => ?_, i1⟩, fun x hx => ?_⟩
      · obtain ⟨x, hx, rfl⟩ := List.mem_map.1 hy
        have := i2 x hx
        dsimp only
        omega
      · rcases List.mem_cons.1 hx with hx | hx
        · rw [hx]; exact Nat.le_refl _
        · have := i2 x hx; omega
    · rw [obs_stop hk]
      exact ⟨List.Pairwise.nil, fun x hx => by cases hx⟩
theorem all_is {ws l : List Int} (h : Liv ws l) (ha : ∀ x ∈ obs ws 1, (x.1 : Int) ∈ l) : l = (obs ws 1).map fun x => (x.1 : Int) := by
  refine sorted_unique h.rise (obs_rise ws ws.length 1 (by omega)).1 fun a => ⟨fun hl => ?_, fun hm => ?_⟩
  · have h1 := h.ob a hl
    have h2 := h1.1
    exact List.mem_map.2 ⟨_, h1.2.2, by dsimp only; omega⟩
  · obtain ⟨x, hx, rfl⟩ := List.mem_map.1 hm
    exact ha x hx
theorem sums_end {ws : List Int} : ∀ (n : Nat) {pre rest : List (Nat × Int)}, pre.length = n → obs ws 1 = pre ++ rest → 1 + sums ws (pre.map fun x => (x.1 : Int)) = endO pre
  | 0, pre, rest, hn, h => by
    obtain rfl := List.length_eq_zero_iff.1 hn
    rfl
  | n + 1, pre, rest, hn, h => by
    rcases List.eq_nil_or_concat pre with e | ⟨q, x, e⟩
    · rw [e] at hn; simp at hn
    · rw [List.concat_eq_append] at e
      subst e
      rw [List.append_assoc] at h
      obtain ⟨a, b, _, _⟩ := obs_next h
      have ih := sums_end n (pre := q) (by simpa using hn) h
      rw [List.map_append, sums_app, endO_snoc]
      simp only [List.map_cons, List.map_nil, sums, Nat.add_zero]
      unfold szA
      rw [Int.toNat_natCast, ← b]
      omega
theorem all_to {ws l : List Int} (h : Liv ws l) (ha : ∀ x ∈ obs ws 1, (x.1 : Int) ∈ l) {a : Int} (hl : a = 0 ∨ a ∈ l) : toA ws l a = a := by
  rcases hl with rfl | hl
  · exact toA_none h.nz
  · have e := all_is h ha
    rw [e] at hl
    obtain ⟨x, hx, rfl⟩ := List.mem_map.1 hl
    obtain ⟨pre, rest, hs⟩ := List.append_of_mem hx
    have h1 := sums_end pre.length rfl hs
    obtain ⟨q, _⟩ := obs_next hs
    have e2 : l = (pre.map fun x => (x.1 : Int)) ++ (x.1 : Int) :: (rest.map fun x => (x.1 : Int)) := by rw [e, hs]; simp
    rw [h.at e2, h1, q]
theorem word_parts {ws : List Int} {p s q : Nat} (h1 : q < s) (h2 : p + s ≤ ws.length) : wd ws p :: ((ws.drop (p + 1)).take q ++ (ws.drop (p + 1 + q)).take (s - 1 - q)) = (ws.drop p).take s := by
  have e1 : ws.drop p = wd ws p :: ws.drop (p + 1) := by
    rw [List.drop_eq_getElem_cons (by omega : p < ws.length)]
    simp [wd, List.getElem?_eq_getElem (by omega : p < ws.length)]
  obtain ⟨s', rfl⟩ : ∃ s', s = s' + 1 := ⟨s - 1, by omega⟩
  rw [e1, List.take_succ_cons]
  congr 1
  have e3 : ws.drop (p + 1 + q) = (ws.drop (p + 1)).drop q := by rw [List.drop_drop]
  rw [show s' + 1 - 1 - q = s' - q by omega, e3]
  obtain ⟨d, rfl⟩ : ∃ d, s' = q + d := ⟨s' - q, by omega⟩
  rw [show q + d - q = d by omega, List.take_add]
theorem lay_all {ws l : List Int} (h : Liv ws l) (ha : ∀ x ∈ obs ws 1, (x.1 : Int) ∈ l) (h0 : wd ws 0 = 0) (hn : 1 ≤ ws.length) : ∀ (n : Nat) {pre rest : List (Nat × Int)}, pre.length = n → obs ws 1 = pre ++ rest → layW ((pre.map fun x => (x.1 : Int)).map (obT ws (toA ws l))) = ws.take (endO pre)
  | 0, pre, rest, hp, h' => by
    obtain rfl := List.length_eq_zero_iff.1 hp
    show [0] = ws.take 1
    cases ws with
    | nil => simp at hn
    | cons b ws =>
      simp only [wd, List.getElem?_cons_zero, Option.getD_some] at h0
      rw [h0]; rfl
  | n + 1, pre, rest, hp, h' => by
    rcases List.eq_nil_or_concat pre with e | ⟨q, x, e⟩
    · rw [e] at hp; simp at hp
    · rw [List.concat_eq_append] at e
      subst e
      rw [List.append_assoc] at h'
      obtain ⟨a, b, c, _⟩ := obs_next h'
      have ih := lay_all h ha h0 hn n (pre := q) (by simpa using hp) h'
      have hx : (x.1 : Int) ∈ l := ha x (by rw [h']; exact List.mem_append_right _ (List.mem_cons_self ..))
      have hob := h.ob _ hx
      obtain ⟨c1, c2, c3⟩ := c
      have hw : wrdO (obT ws (toA ws l) (x.1 : Int)) = (ws.drop x.1).take (szN x.2) := by
        obtain ⟨g1, g2, _⟩ := obT_good h.u32 (t := toA ws l) hob
        have hid : (ptsA ws (x.1 : Int)).map (toA ws l) = ptsA ws (x.1 : Int) := by
          conv => rhs; rw [← List.map_id (ptsA ws (x.1 : Int))]
          exact List.map_congr_left fun p hp => all_to h ha (h.closed _ hx p hp)
        have h32 := h.w32 (ptsA ws (x.1 : Int))
        rw [wrdO_good g1, g2]
        show wd ws (x.1 : Int).toNat :: (w32 ((ptsA ws (x.1 : Int)).map (toA ws l)) ++ dtA ws (x.1 : Int)) = _
        rw [h32, hid]
        unfold ptsA ptrsO dtA dataO
        simp only [Int.toNat_natCast]
        rw [b]
        exact word_parts c2 (by omega)
      rw [List.map_append, List.map_append]
      simp only [List.map_cons, List.map_nil]
      rw [layW_snoc, ih, hw, endO_snoc, a, List.take_add]
/-- Where all objects live, nothing moves, and nothing changes. -/
theorem cW_all {ws l : List Int} (h : Liv ws l) (ha : ∀ x ∈ obs ws 1, (x.1 : Int) ∈ l) (h0 : wd ws 0 = 0) (hn : 1 ≤ ws.length) (he : endO (obs ws 1) = ws.length) : cW ws l = ws := by
  have := lay_all h ha h0 hn (obs ws 1).length (pre := obs ws 1) (rest := []) rfl (by simp)
  rw [he, List.take_length, ← all_is h ha] at this
  exact this
end Go.Proofs.YtlbhhdldeaehkaaGreat

/- Threads through the pointers of a heap, as plain data: how they are tied and undone; nothing here speaks of the program. -/
namespace Go.Proofs.YtlbhhdldeaehkaaGreat
open Go.RowKit

theorem wd_set_eq {L : List Int} {i : Nat} {v : Int} (h : i < L.length) : wd (L.set i v) i = v := by simp [wd, h]
theorem wd_set_ne {L : List Int} {i j : Nat} {v : Int} (h : i ≠ j) : wd (L.set i v) j = wd L j := by simp [wd, h]

/-- A thread: a word, the places that it leads to one behind the other, and the head at its end. -/
def Chn (L : List Int) : Int → List Nat → Int → Prop
  | v, [], h => v = h * 2 + 1
  | v, s :: ss, h => v = (s : Int) * 2 ∧ Chn L (wd L s) ss h
theorem Chn.congr {L L' : List Int} : ∀ {th : List Nat} {v h : Int}, Chn L v th h → (∀ s ∈ th, wd L' s = wd L s) → Chn L' v th h
  | [], _, _, hc, _ => hc
  | s :: ss, v, h, hc, he => by
    refine ⟨hc.1, ?_⟩
    rw [he s (List.mem_cons_self ..)]
    exact Chn.congr hc.2 fun x hx => he x (List.mem_cons_of_mem _ hx)

/-- A heap some of whose slots are on threads. N words, of which those from c on count; R: the objects in play, hd: their heads; T: where each slot led to; On: which are on a thread; val: what all others hold. -/
structure Lm (N c : Nat) (R : List Int) (hd : Int → Int) (T : Nat → Int) (On : Nat → Prop) (val : Nat → Int) (L : List Int) : Prop where
  len : L.length = N
  bnd : ∀ q ∈ R, (c : Int) ≤ q ∧ q < N
  on : ∀ s, On s → c ≤ s ∧ s < N ∧ T s ∈ R ∧ (s : Int) ∉ R
  thr : ∀ q ∈ R, ∃ th : List Nat, th.Nodup ∧ (∀ s, s ∈ th ↔ On s ∧ T s = q) ∧ Chn L (wd L q.toNat) th (hd q)
  off : ∀ i, c ≤ i → i < N → (i : Int) ∉ R → ¬ On i → wd L i = val i

variable {N c : Nat} {R : List Int} {hd : Int → Int} {T : Nat → Int} {On On' : Nat → Prop} {val val' : Nat → Int} {L : List Int}

theorem Lm.same (h : Lm N c R hd T On val L) (hO : ∀ s, On' s ↔ On s) (hv : ∀ s, c ≤ s → s < N → ¬ On s → val' s = val s) : Lm N c R hd T On' val' L where
  len := h.len
  bnd := h.bnd
  on := fun s hs => h.on s ((hO s).1 hs)
  thr := fun q hq => by
    obtain ⟨th, h1, h2, h3⟩ := h.thr q hq
    exact ⟨th, h1, fun s => by rw [h2 s, hO s], h3⟩
  off := fun i h1 h2 h3 h4 => by
    have hn : ¬ On i := fun e => h4 ((hO i).2 e)
    rw [h.off i h1 h2 h3 hn, hv i h1 h2 hn]

theorem Lm.nat (h : Lm N c R hd T On val L) {q : Int} (hq : q ∈ R) : ((q.toNat : Nat) : Int) = q ∧ q.toNat < N ∧ c ≤ q.toNat := by
  have := h.bnd q hq
  refine ⟨by omega, by omega, by omega⟩

/-- A slot is tied to the thread of the object that it leads to. -/
theorem Lm.tie (h : Lm N c R hd T On val L) {s : Nat} {q : Int} (hc : c ≤ s) (hN : s < N) (hs : (s : Int) ∉ R) (ho : ¬ On s) (hT : T s = q) (hq : q ∈ R) (hO : ∀ x, On' x ↔ On x ∨ x = s) :
    Lm N c R hd T On' val ((L.set s (wd L q.toNat)).set q.toNat ((s : Int) * 2)) := by
  obtain ⟨q1, q2, q3⟩ := h.nat hq
  have hsq : s ≠ q.toNat := fun e => hs (by rw [e, q1]; exact hq)
  have hlen := h.len
  have hw : ∀ x, x ≠ s → x ≠ q.toNat → wd ((L.set s (wd L q.toNat)).set q.toNat ((s : Int) * 2)) x = wd L x := fun x h1 h2 => by
    rw [wd_set_ne (fun e => h2 e.symm), wd_set_ne (fun e => h1 e.symm)]
  have hws : wd ((L.set s (wd L q.toNat)).set q.toNat ((s : Int) * 2)) s = wd L q.toNat := by
    rw [wd_set_ne (fun e => hsq e.symm), wd_set_eq (by omega)]
  have hwq : wd ((L.set s (wd L q.toNat)).set q.toNat ((s : Int) * 2)) q.toNat = (s : Int) * 2 := wd_set_eq (by rw [List.length_set]; omega)
  refine ⟨by rw [List.length_set, List.length_set, hlen], h.bnd, fun x hx => ?_, fun p hp => ?_, fun i h1 h2 h3 h4 => ?_⟩
  · rcases (hO x).1 hx with hx | rfl
    · exact h.on x hx
    · exact ⟨hc, hN, by rw [hT]; exact hq, hs⟩
  · obtain ⟨th, t1, t2, t3⟩ := h.thr p hp
    have hmem : ∀ x ∈ th, x ≠ s ∧ x ≠ q.toNat := fun x hx => by
      have hx := (t2 x).1 hx
      refine ⟨fun e => ho (e ▸ hx.1), fun e => ?_⟩
      have := (h.on x hx.1).2.2.2
      rw [e, q1] at this
      exact this hq
    have hcong := fun x hx => hw x (hmem x hx).1 (hmem x hx).2
    by_cases hpq : p = q
    · subst hpq
      refine ⟨s :: th, List.nodup_cons.2 ⟨fun e => (hmem s e).1 rfl, t1⟩, fun x => ?_, ?_⟩
      · rw [List.mem_cons, t2 x, hO x]
        constructor
        · rintro (rfl | ⟨h1, h2⟩)
          · exact ⟨Or.inr rfl, hT⟩
          · exact ⟨Or.inl h1, h2⟩
        · rintro ⟨h1 | h1, h2⟩
          · exact Or.inr ⟨h1, h2⟩
          · exact Or.inl h1
      · rw [hwq]
        refine ⟨rfl, ?_⟩
        rw [hws]
        exact t3.congr hcong
    · have hpn := h.nat hp
      refine ⟨th, t1, fun x => ?_, ?_⟩
      · rw [t2 x, hO x]
        constructor
        · rintro ⟨h1, h2⟩
          exact ⟨Or.inl h1, h2⟩
        · rintro ⟨h1 | h1, h2⟩
          · exact ⟨h1, h2⟩
          · subst h1
            exact absurd (h2.symm.trans hT) hpq
      · rw [hw p.toNat (fun e => hs (by rw [← e, hpn.1]; exact hp)) (fun e => hpq (by rw [← hpn.1, ← q1, e]))]
        exact t3.congr hcong
  · have hi : i ≠ s := fun e => h4 ((hO i).2 (Or.inr e))
    have hiq : i ≠ q.toNat := fun e => h3 (by rw [e, q1]; exact hq)
    rw [hw i hi hiq]
    exact h.off i h1 h2 h3 fun e => h4 ((hO i).2 (Or.inl e))

/-- All these places hold one value. -/
def setAll (L : List Int) (th : List Nat) (v : Int) : List Int := th.foldl (fun L s => L.set s v) L
theorem setAll_len : ∀ (th : List Nat) (L : List Int) (v : Int), (setAll L th v).length = L.length
  | [], _, _ => rfl
  | s :: ss, L, v => by
    show (setAll (L.set s v) ss v).length = _
    rw [setAll_len ss, List.length_set]
theorem setAll_snoc (L : List Int) (th : List Nat) (s : Nat) (v : Int) : setAll L (th ++ [s]) v = (setAll L th v).set s v := by simp [setAll]
theorem wd_setAll_ne : ∀ {th : List Nat} {L : List Int} {v : Int} {x : Nat}, x ∉ th → wd (setAll L th v) x = wd L x
  | [], _, _, _, _ => rfl
  | s :: ss, L, v, x, h => by
    show wd (setAll (L.set s v) ss v) x = _
    rw [wd_setAll_ne (fun e => h (List.mem_cons_of_mem _ e)), wd_set_ne (fun e => h (by subst e; exact List.mem_cons_self ..))]
theorem wd_setAll_eq : ∀ {th : List Nat} {L : List Int} {v : Int} {x : Nat}, x ∈ th → x < L.length → wd (setAll L th v) x = v
  | s :: ss, L, v, x, h, hl => by
    show wd (setAll (L.set s v) ss v) x = _
    by_cases hx : x ∈ ss
    · exact wd_setAll_eq hx (by rw [List.length_set]; exact hl)
    · rcases List.mem_cons.1 h with rfl | h
      · rw [wd_setAll_ne hx, wd_set_eq hl]
      · exact absurd h hx

/-- A thread is undone: each slot on it gets what is told, and the head comes back. -/
theorem Lm.untie (h : Lm N c R hd T On val L) {q to : Int} (hq : q ∈ R) {th : List Nat} (t2 : ∀ s, s ∈ th ↔ On s ∧ T s = q)
    (hO : ∀ x, On' x ↔ On x ∧ T x ≠ q) (hv1 : ∀ x, On x → T x = q → val' x = to) (hv2 : ∀ x, ¬ On x → val' x = val x) :
    Lm N c R hd T On' val' ((setAll L th to).set q.toNat (hd q * 2 + 1)) := by
  obtain ⟨q1, q2, q3⟩ := h.nat hq
  have hlen := h.len
  have hqth : q.toNat ∉ th := fun e => by
    have := (h.on _ ((t2 _).1 e).1).2.2.2
    rw [q1] at this
    exact this hq
  have hw : ∀ x, x ∉ th → x ≠ q.toNat → wd ((setAll L th to).set q.toNat (hd q * 2 + 1)) x = wd L x := fun x h1 h2 => by
    rw [wd_set_ne (fun e => h2 e.symm), wd_setAll_ne h1]
  refine ⟨by rw [List.length_set, setAll_len, hlen], h.bnd, fun x hx => h.on x ((hO x).1 hx).1, fun p hp => ?_, fun i h1 h2 h3 h4 => ?_⟩
  · by_cases hpq : p = q
    · subst hpq
      refine ⟨[], List.nodup_nil, fun x => ?_, ?_⟩
      · rw [hO x]
        constructor
        · intro e; cases e
        · rintro ⟨⟨_, e1⟩, e2⟩
          exact absurd e2 e1
      · exact wd_set_eq (by rw [setAll_len]; omega)
    · obtain ⟨tp, u1, u2, u3⟩ := h.thr p hp
      have hpn := h.nat hp
      have hoff : ∀ x ∈ tp, x ∉ th := fun x hx e => hpq (((u2 x).1 hx).2.symm.trans ((t2 x).1 e).2)
      refine ⟨tp, u1, fun x => ?_, ?_⟩
      · rw [u2 x, hO x]
        constructor
        · rintro ⟨e1, e2⟩
          exact ⟨⟨e1, fun e => hpq (e2.symm.trans e)⟩, e2⟩
        · rintro ⟨⟨e1, _⟩, e2⟩
          exact ⟨e1, e2⟩
      · have hpth : p.toNat ∉ th := fun e => by
          have := (h.on _ ((t2 _).1 e).1).2.2.2
          rw [hpn.1] at this
          exact this hp
        rw [hw _ hpth (fun e => hpq (by rw [← hpn.1, ← q1, e]))]
        refine u3.congr fun x hx => hw x (hoff x hx) fun e => ?_
        have := (h.on _ ((u2 _).1 hx).1).2.2.2
        rw [e, q1] at this
        exact this hq
  · have hiq : i ≠ q.toNat := fun e => h3 (by rw [e, q1]; exact hq)
    by_cases hi : i ∈ th
    · rw [wd_set_ne (fun e => hiq e.symm), wd_setAll_eq hi (by omega)]
      have := (t2 i).1 hi
      exact (hv1 i this.1 this.2).symm
    · rw [hw i hi hiq]
      have hno : ¬ On i := fun e => by
        by_cases ht : T i = q
        · exact hi ((t2 i).2 ⟨e, ht⟩)
        · exact h4 ((hO i).2 ⟨e, ht⟩)
      rw [hv2 i hno]
      exact h.off i h1 h2 h3 hno

/-- What lies ahead of a place plays no part any more. -/
theorem Lm.up (h : Lm N c R hd T On val L) {c' : Nat} {R' : List Int} (hR : ∀ q, q ∈ R' ↔ q ∈ R ∧ (c' : Int) ≤ q) (hc : c ≤ c') (hOn : ∀ x, On x → c' ≤ x ∧ (c' : Int) ≤ T x) {L' : List Int} (hlen : L'.length = N) (hL : ∀ i, c' ≤ i → wd L' i = wd L i) : Lm N c' R' hd T On val L' where
  len := hlen
  bnd := fun q hq => ⟨((hR q).1 hq).2, (h.bnd q ((hR q).1 hq).1).2⟩
  on := fun s hs => by
    obtain ⟨h1, h2, h3, h4⟩ := h.on s hs
    obtain ⟨k1, k2⟩ := hOn s hs
    exact ⟨k1, h2, (hR _).2 ⟨h3, k2⟩, fun e => h4 ((hR _).1 e).1⟩
  thr := fun q hq => by
    obtain ⟨m1, m2⟩ := (hR q).1 hq
    obtain ⟨th, t1, t2, t3⟩ := h.thr q m1
    have hn := h.nat m1
    refine ⟨th, t1, t2, ?_⟩
    rw [hL q.toNat (by omega)]
    exact t3.congr fun x hx => hL x (hOn x ((t2 x).1 hx).1).1
  off := fun i h1 h2 h3 h4 => by
    rw [hL i h1]
    exact h.off i (by omega) h2 (fun e => h3 ((hR _).2 ⟨e, by omega⟩)) h4

/-- A step along a thread. -/
theorem chn_step {L : List Int} {th : List Nat} {v h : Int} {k : Nat} (hc : Chn L v (th.drop k) h) (hk : k < th.length) : v = ((th[k] : Nat) : Int) * 2 ∧ Chn L (wd L th[k]) (th.drop (k + 1)) h := by
  rw [List.drop_eq_getElem_cons hk] at hc
  exact hc
theorem chn_end {L : List Int} {th : List Nat} {v h : Int} {k : Nat} (hc : Chn L v (th.drop k) h) (hk : ¬ k < th.length) : v = h * 2 + 1 := by
  rw [List.drop_eq_nil_of_le (by omega)] at hc
  exact hc
theorem nodup_take {th : List Nat} (h : th.Nodup) {k : Nat} (hk : k < th.length) : th[k] ∉ th.take k := fun e => by
  rw [← List.take_append_drop k th, List.drop_eq_getElem_cons hk] at h
  have := (List.nodup_append.1 h).2.2 _ e _ (List.mem_cons_self ..)
  exact this rfl
end Go.Proofs.YtlbhhdldeaehkaaGreat

/- The two ways through a heap that slides together, as plain data: which slots are on threads at each moment; nothing here speaks of the program. -/
namespace Go.Proofs.YtlbhhdldeaehkaaGreat
open Go.RowKit

theorem ite_same {P Q : Prop} {_ : Decidable P} {_ : Decidable Q} {α : Type} {u v : α} (h : P ↔ Q) : (if P then u else v) = if Q then u else v := by
  by_cases p : P
  · rw [if_pos p, if_pos (h.1 p)]
  · rw [if_neg p, if_neg (fun q => p (h.2 q))]
/-- Where a slot leads to: a word of the heap, or a root behind it. -/
def tgt (ws rs : List Int) (s : Nat) : Int := wd (ws ++ rs) s
/-- The slots: the roots, and the pointers of what lives. -/
def Slot (ws rs l : List Int) (s : Nat) : Prop := (ws.length ≤ s ∧ s < ws.length + rs.length) ∨ ∃ a ∈ l, a < (s : Int) ∧ (s : Int) ≤ a + ptN (wd ws a.toNat)
/-- On a thread on the first way: slots below b, roots below e are tied, threads of objects below t are undone. -/
def OnG (ws rs l : List Int) (b e t : Nat) (s : Nat) : Prop := Slot ws rs l s ∧ tgt ws rs s ≠ 0 ∧ (s < b ∨ (ws.length ≤ s ∧ s < e)) ∧ ((t : Int) ≤ tgt ws rs s ∨ (tgt ws rs s < s ∧ s < ws.length))
open Classical in
noncomputable def valG (ws rs l : List Int) (b e : Nat) (s : Nat) : Int := if Slot ws rs l s ∧ (s < b ∨ (ws.length ≤ s ∧ s < e)) then toA ws l (tgt ws rs s) else tgt ws rs s
theorem valG_same {ws rs l : List Int} {b e b' e' x : Nat} (h : (Slot ws rs l x ∧ (x < b' ∨ (ws.length ≤ x ∧ x < e'))) ↔ (Slot ws rs l x ∧ (x < b ∨ (ws.length ≤ x ∧ x < e)))) : valG ws rs l b' e' x = valG ws rs l b e x := by
  unfold valG
  exact ite_same h
/-- On a thread on the second way. -/
def OnH (ws rs l : List Int) (t : Nat) (s : Nat) : Prop := Slot ws rs l s ∧ tgt ws rs s ≠ 0 ∧ s < ws.length ∧ tgt ws rs s < s ∧ (t : Int) ≤ tgt ws rs s
open Classical in
noncomputable def valH (ws rs l : List Int) (s : Nat) : Int := if Slot ws rs l s then toA ws l (tgt ws rs s) else tgt ws rs s
def hdA (ws : List Int) (a : Int) : Int := wd ws a.toNat

/-- What is asked of roots. -/
structure Rts (ws rs l : List Int) : Prop extends Liv ws l where
  pos : 1 ≤ ws.length
  zero : wd ws 0 = 0
  few : rs.length ≤ 16
  root : ∀ r ∈ rs, r = 0 ∨ r ∈ l

variable {ws rs l : List Int}
theorem tgt_low {s : Nat} (h : s < ws.length) : tgt ws rs s = wd ws s := by
  unfold tgt wd
  rw [List.getElem?_append_left h]
theorem tgt_high {j : Nat} : tgt ws rs (ws.length + j) = wd rs j := by
  unfold tgt wd
  rw [List.getElem?_append_right (by omega), show ws.length + j - ws.length = j by omega]
theorem Rts.lt (h : Rts ws rs l) {a : Int} (ha : a ∈ l) : 0 < a ∧ a.toNat + szA ws a ≤ ws.length ∧ ptN (wd ws a.toNat) < szA ws a ∧ ((a.toNat : Nat) : Int) = a := by
  obtain ⟨s1, s2, s3, s4⟩ := isOb_size (h.ob a ha)
  refine ⟨(h.ob a ha).1, ?_, s1, s4⟩
  unfold szA
  omega
theorem Rts.apart' (h : Rts ws rs l) {a b : Int} (ha : a ∈ l) (hb : b ∈ l) (hab : a < b) : a + szA ws a ≤ b := by
  have h1 := ob_apart (h.ob a ha) (h.ob b hb) hab
  have h2 := (h.lt ha).2.2.2
  have h3 := (h.lt hb).2.2.2
  omega
theorem Slot.bnd {s : Nat} (h : Rts ws rs l) (hs : Slot ws rs l s) : 1 ≤ s ∧ s < ws.length + rs.length := by
  rcases hs with hs | ⟨a, ha, h1, h2⟩
  · have := h.pos
    omega
  · have := h.lt ha
    omega
theorem Slot.nhead {s : Nat} (h : Rts ws rs l) (hs : Slot ws rs l s) : (s : Int) ∉ l := fun hq => by
  have hl := h.lt hq
  rcases hs with hs | ⟨a, ha, h1, h2⟩
  · omega
  · have := h.apart' ha hq h1
    have := h.lt ha
    omega
theorem Slot.to {s : Nat} (h : Rts ws rs l) (hs : Slot ws rs l s) : tgt ws rs s = 0 ∨ tgt ws rs s ∈ l := by
  rcases hs with ⟨h1, h2⟩ | ⟨a, ha, h1, h2⟩
  · obtain ⟨j, rfl⟩ : ∃ j, s = ws.length + j := ⟨s - ws.length, by omega⟩
    have hj : j < rs.length := by omega
    rw [tgt_high]
    refine h.root _ ?_
    simp only [wd, List.getElem?_eq_getElem hj, Option.getD_some]
    exact List.getElem_mem hj
  · have hl := h.lt ha
    rw [tgt_low (by omega)]
    refine h.closed a ha _ ?_
    have := ptsA_get (h.ob a ha) (k := s - a.toNat - 1) (by omega)
    rw [show a.toNat + 1 + (s - a.toNat - 1) = s by omega] at this
    exact List.mem_of_getElem? this
/-- A slot that lies below an object that lives, or among its own. -/
theorem Slot.own {s : Nat} (h : Rts ws rs l) (hs : Slot ws rs l s) {a : Int} (ha : a ∈ l) (h2 : (s : Int) < a + szA ws a) : (s : Int) ≤ a + ptN (wd ws a.toNat) := by
  have hl := h.lt ha
  rcases hs with ⟨h3, h4⟩ | ⟨b, hb, h3, h4⟩
  · omega
  · have hlb := h.lt hb
    rcases Int.lt_trichotomy a b with hab | hab | hab
    · have := h.apart' ha hb hab; omega
    · subst hab; exact h4
    · have := h.apart' hb ha hab; omega

/-- The loom ahead of the first way: heads of what lives bear a bit. -/
def tagL (ws rs M : List Int) : List Int := M.foldl (fun L a => L.set a.toNat (wd ws a.toNat * 2 + 1)) (ws ++ rs)
theorem tagL_snoc (M : List Int) (a : Int) : tagL ws rs (M ++ [a]) = (tagL ws rs M).set a.toNat (wd ws a.toNat * 2 + 1) := by simp [tagL]
theorem tagL_len (M : List Int) : (tagL ws rs M).length = ws.length + rs.length := by
  rcases List.eq_nil_or_concat M with rfl | ⟨q, x, rfl⟩
  · simp [tagL]
  · rw [List.concat_eq_append, tagL_snoc, List.length_set]
    exact tagL_len q
termination_by M.length
decreasing_by simp [*]
theorem tagL_get (M : List Int) (h : ∀ a ∈ M, 0 ≤ a ∧ a < ws.length) (i : Nat) : wd (tagL ws rs M) i = if (i : Int) ∈ M then wd ws i * 2 + 1 else tgt ws rs i := by
  rcases List.eq_nil_or_concat M with rfl | ⟨q, x, rfl⟩
  · simp [tagL, tgt]
  · rw [List.concat_eq_append] at h ⊢
    have hx := h x (by simp)
    have ih := tagL_get q (fun a ha => h a (List.mem_append_left _ ha)) i
    rw [tagL_snoc]
    by_cases e : x.toNat = i
    · have ei : (i : Int) = x := by omega
      rw [← e, wd_set_eq (by rw [tagL_len]; omega), e, if_pos (by rw [ei]; simp)]
    · have ei : ¬ (i : Int) = x := by omega
      rw [wd_set_ne e, ih]
      by_cases hq : (i : Int) ∈ q
      · rw [if_pos hq, if_pos (List.mem_append_left _ hq)]
      · rw [if_neg hq, if_neg (by rw [List.mem_append, List.mem_singleton]; exact fun e1 => e1.elim hq ei)]
termination_by M.length
decreasing_by simp [*]

abbrev LmG (ws rs l : List Int) (b e t : Nat) (L : List Int) : Prop := Lm (ws.length + rs.length) 0 l (hdA ws) (tgt ws rs) (OnG ws rs l b e t) (valG ws rs l b e) L

theorem lm_start (h : Rts ws rs l) : LmG ws rs l 1 ws.length 1 (tagL ws rs l) := by
  have hb : ∀ a ∈ l, 0 ≤ a ∧ a < ws.length := fun a ha => by have := h.lt ha; omega
  have hno : ∀ s, ¬ OnG ws rs l 1 ws.length 1 s := fun s hs => by
    have := hs.1.bnd h
    have := hs.2.2.1
    omega
  refine ⟨tagL_len l, fun q hq => ?_, fun s hs => absurd hs (hno s), fun q hq => ⟨[], List.nodup_nil, fun s => ?_, ?_⟩, fun i h1 h2 h3 h4 => ?_⟩
  · have := h.lt hq; omega
  · constructor
    · intro e; cases e
    · intro e; exact absurd e.1 (hno s)
  · have hl := h.lt hq
    show wd (tagL ws rs l) q.toNat = _
    rw [tagL_get l hb, if_pos (by rw [hl.2.2.2]; exact hq)]
    rfl
  · rw [tagL_get l hb, if_neg h3]
    unfold valG
    rw [if_neg]
    rintro ⟨s1, s2⟩
    have := s1.bnd h
    omega

/-- One slot more is tied, in general. -/
theorem valG_tie (h : Rts ws rs l) {b e b' e' s : Nat} (hst : ∀ x, (x < b' ∨ (ws.length ≤ x ∧ x < e')) ↔ ((x < b ∨ (ws.length ≤ x ∧ x < e)) ∨ x = s)) {x : Nat} (hx : x = s → ¬ Slot ws rs l s ∨ tgt ws rs s = 0 ∨ (x < b ∨ (ws.length ≤ x ∧ x < e))) : valG ws rs l b' e' x = valG ws rs l b e x := by
  by_cases he : x = s
  · subst he
    rcases hx rfl with h1 | h1 | h1
    · exact valG_same ⟨fun e => absurd e.1 h1, fun e => absurd e.1 h1⟩
    · unfold valG
      rw [h1, toA_none h.nz, ite_self, ite_self]
    · exact valG_same ⟨fun e => ⟨e.1, h1⟩, fun e => ⟨e.1, (hst x).2 (Or.inl h1)⟩⟩
  · exact valG_same ⟨fun e => ⟨e.1, ((hst x).1 e.2).resolve_right he⟩, fun e => ⟨e.1, (hst x).2 (Or.inl e.2)⟩⟩

/-- What tying one slot does to the words. -/
def tieL (ws rs : List Int) (L : List Int) (s : Nat) : List Int := if tgt ws rs s = 0 then L else (L.set s (wd L (tgt ws rs s).toNat)).set (tgt ws rs s).toNat ((s : Int) * 2)

theorem lm_tie (h : Rts ws rs l) {b e b' e' t s : Nat} {L : List Int} (hL : LmG ws rs l b e t L) (hS : Slot ws rs l s) (hns : ¬ (s < b ∨ (ws.length ≤ s ∧ s < e))) (hst : ∀ x, (x < b' ∨ (ws.length ≤ x ∧ x < e')) ↔ ((x < b ∨ (ws.length ≤ x ∧ x < e)) ∨ x = s))
    (hon : tgt ws rs s ≠ 0 → (t : Int) ≤ tgt ws rs s ∨ (tgt ws rs s < s ∧ s < ws.length)) :
    wd L s = tgt ws rs s ∧ LmG ws rs l b' e' t (tieL ws rs L s) := by
  have hno : ¬ OnG ws rs l b e t s := fun e => hns e.2.2.1
  have hb := hS.bnd h
  have hnh := hS.nhead h
  have hv : wd L s = tgt ws rs s := by
    rw [hL.off s (Nat.zero_le _) hb.2 hnh hno]
    unfold valG
    rw [if_neg fun e => hns e.2]
  refine ⟨hv, ?_⟩
  unfold tieL
  by_cases h0 : tgt ws rs s = 0
  · rw [if_pos h0]
    refine hL.same (fun x => ?_) (fun x _ _ _ => valG_tie h hst fun _ => Or.inr (Or.inl h0))
    unfold OnG
    rw [hst x]
    constructor
    · rintro ⟨h1, h2, h3 | rfl, h4⟩
      · exact ⟨h1, h2, h3, h4⟩
      · exact absurd h0 h2
    · rintro ⟨h1, h2, h3, h4⟩
      exact ⟨h1, h2, Or.inl h3, h4⟩
  · rw [if_neg h0]
    have hm := (hS.to h).resolve_left h0
    have hO : ∀ x, OnG ws rs l b' e' t x ↔ OnG ws rs l b e t x ∨ x = s := fun x => by
      unfold OnG
      rw [hst x]
      constructor
      · rintro ⟨h1, h2, h3 | rfl, h4⟩
        · exact Or.inl ⟨h1, h2, h3, h4⟩
        · exact Or.inr rfl
      · rintro (⟨h1, h2, h3, h4⟩ | rfl)
        · exact ⟨h1, h2, Or.inl h3, h4⟩
        · exact ⟨hS, h0, Or.inr rfl, hon h0⟩
    refine (hL.tie (Nat.zero_le _) hb.2 hnh hno rfl hm hO).same (fun _ => Iff.rfl) (fun x _ _ hx => valG_tie h hst fun e => ?_)
    exact absurd ((hO x).2 (Or.inr e)) hx

/-- The place of the next object, or the end. -/
def nxt (n : Nat) : List Int → Nat
  | [] => n
  | a :: _ => a.toNat

/-- From object to object: what is said of the last one's end is said of the next one's place. -/
theorem lm_next (h : Rts ws rs l) {R : List Int} {b t : Nat} {L : List Int} (hL : LmG ws rs l b (ws.length + rs.length) t L)
    (hb : ∀ s, Slot ws rs l s → s < ws.length → (s < b ↔ (s : Int) < nxt ws.length R)) (ht : ∀ q ∈ l, (t : Int) ≤ q ↔ (nxt ws.length R : Int) ≤ q) :
    LmG ws rs l (nxt ws.length R) (ws.length + rs.length) (nxt ws.length R) L := by
  have key : ∀ s, Slot ws rs l s → ((s < b ∨ (ws.length ≤ s ∧ s < ws.length + rs.length)) ↔ (s < nxt ws.length R ∨ (ws.length ≤ s ∧ s < ws.length + rs.length))) := fun s hs => by
    have h2 := hs.bnd h
    by_cases hlt : s < ws.length
    · have := hb s hs hlt
      omega
    · omega
  refine hL.same (fun s => ?_) (fun s _ _ _ => ?_)
  · unfold OnG
    constructor
    · rintro ⟨h1, h2, h3, h4⟩
      refine ⟨h1, h2, (key s h1).2 h3, ?_⟩
      rcases h4 with h4 | h4
      · exact Or.inl ((ht _ ((h1.to h).resolve_left h2)).2 h4)
      · exact Or.inr h4
    · rintro ⟨h1, h2, h3, h4⟩
      refine ⟨h1, h2, (key s h1).1 h3, ?_⟩
      rcases h4 with h4 | h4
      · exact Or.inl ((ht _ ((h1.to h).resolve_left h2)).1 h4)
      · exact Or.inr h4
  · exact valG_same ⟨fun e => ⟨e.1, (key s e.1).2 e.2⟩, fun e => ⟨e.1, (key s e.1).1 e.2⟩⟩
theorem lm_first (h : Rts ws rs l) {L : List Int} (hL : LmG ws rs l 1 (ws.length + rs.length) 1 L) : LmG ws rs l (nxt ws.length l) (ws.length + rs.length) (nxt ws.length l) L := by
  have hlow : ∀ q ∈ l, (nxt ws.length l : Int) ≤ q := fun q hq => by
    cases hl : l with
    | nil => rw [hl] at hq; cases hq
    | cons a R =>
      rw [hl] at hq
      have ha := h.lt (a := a) (by rw [hl]; simp)
      show ((a.toNat : Nat) : Int) ≤ q
      rcases List.mem_cons.1 hq with rfl | hq
      · omega
      · have := (List.pairwise_cons.1 (hl ▸ h.rise)).1 q hq
        omega
  refine lm_next h hL (fun s hs hlt => ?_) (fun q hq => ?_)
  · have h1 := hs.bnd h
    rcases hs with hs | ⟨a, ha, h2, h3⟩
    · omega
    · have := hlow a ha
      omega
  · have := h.lt hq
    have := hlow q hq
    omega
theorem nxt_step (h : Rts ws rs l) {M R : List Int} {a : Int} (hl : l = M ++ a :: R) : (a + szA ws a ≤ (nxt ws.length R : Int)) ∧ ∀ q ∈ l, a < q → (nxt ws.length R : Int) ≤ q := by
  have ha : a ∈ l := by rw [hl]; simp
  have hal := h.lt ha
  cases R with
  | nil =>
    refine ⟨?_, fun q hq hlt => ?_⟩
    · show a + szA ws a ≤ (ws.length : Int)
      omega
    · rw [hl] at hq
      have hp := (List.pairwise_append.1 (hl ▸ h.rise)).2.2
      rcases List.mem_append.1 hq with hq | hq
      · have := hp q hq a (by simp); omega
      · have := List.mem_singleton.1 hq; omega
  | cons b R =>
    have hb : b ∈ l := by rw [hl]; simp
    have hbl := h.lt hb
    have hr := List.pairwise_append.1 (hl ▸ h.rise)
    have hab := (List.pairwise_cons.1 hr.2.1).1 b (by simp)
    refine ⟨?_, fun q hq hlt => ?_⟩
    · have := h.apart' ha hb hab
      show a + szA ws a ≤ ((b.toNat : Nat) : Int)
      omega
    · show ((b.toNat : Nat) : Int) ≤ q
      rw [hl] at hq
      rcases List.mem_append.1 hq with hq | hq
      · have := hr.2.2 q hq a (by simp); omega
      · rcases List.mem_cons.1 hq with hq | hq
        · omega
        · rcases List.mem_cons.1 hq with hq | hq
          · omega
          · have := (List.pairwise_cons.1 (List.pairwise_cons.1 hr.2.1).2).1 q hq
            omega
theorem lm_on (h : Rts ws rs l) {M R : List Int} {a : Int} (hl : l = M ++ a :: R) {L : List Int} (hL : LmG ws rs l (a.toNat + 1 + ptN (wd ws a.toNat)) (ws.length + rs.length) (a.toNat + 1) L) : LmG ws rs l (nxt ws.length R) (ws.length + rs.length) (nxt ws.length R) L := by
  have ha : a ∈ l := by rw [hl]; simp
  have hal := h.lt ha
  obtain ⟨n1, n2⟩ := nxt_step h hl
  refine lm_next h hL (fun s hs hlt => ?_) (fun q hq => ?_)
  · constructor
    · intro hlt2
      omega
    · intro hlt2
      by_cases h1 : a < (s : Int)
      · by_cases h2 : (s : Int) < a + szA ws a
        · have := hs.own h ha h2
          omega
        · exfalso
          rcases hs with hs | ⟨b, hb, h3, h4⟩
          · omega
          · have hbl := h.lt hb
            rcases Int.lt_trichotomy a b with hab | hab | hab
            · have := n2 b hb hab; omega
            · subst hab; omega
            · have := h.apart' hb ha hab; omega
      · omega
  · constructor
    · intro h1
      exact n2 q hq (by omega)
    · intro h1
      omega

/-- The first way: an object's thread is undone. -/
theorem lm_untie (h : Rts ws rs l) {a : Int} (ha : a ∈ l) {L : List Int} (hL : LmG ws rs l a.toNat (ws.length + rs.length) a.toNat L) {th : List Nat} (t2 : ∀ s, s ∈ th ↔ OnG ws rs l a.toNat (ws.length + rs.length) a.toNat s ∧ tgt ws rs s = a) :
    LmG ws rs l a.toNat (ws.length + rs.length) (a.toNat + 1) ((setAll L th (toA ws l a)).set a.toNat (hdA ws a * 2 + 1)) := by
  have hal := h.lt ha
  refine hL.untie ha t2 (fun x => ?_) (fun x h1 h2 => ?_) (fun x _ => rfl)
  · unfold OnG
    constructor
    · rintro ⟨h1, h2, h3, h4⟩
      refine ⟨⟨h1, h2, h3, ?_⟩, ?_⟩
      · rcases h4 with h4 | h4
        · exact Or.inl (by omega)
        · exact Or.inr h4
      · omega
    · rintro ⟨⟨h1, h2, h3, h4⟩, h5⟩
      refine ⟨h1, h2, h3, ?_⟩
      rcases h4 with h4 | h4
      · exact Or.inl (by omega)
      · exact Or.inr h4
  · unfold valG
    rw [if_pos ⟨h1.1, h1.2.2.1⟩, h2]
/-- A slot of an object is tied. -/
theorem lm_tie_own (h : Rts ws rs l) {a : Int} (ha : a ∈ l) {L : List Int} {j : Nat} (hj : j < ptN (wd ws a.toNat)) (hL : LmG ws rs l (a.toNat + 1 + j) (ws.length + rs.length) (a.toNat + 1) L) :
    wd L (a.toNat + 1 + j) = tgt ws rs (a.toNat + 1 + j) ∧ LmG ws rs l (a.toNat + 1 + (j + 1)) (ws.length + rs.length) (a.toNat + 1) (tieL ws rs L (a.toNat + 1 + j)) := by
  have hal := h.lt ha
  refine lm_tie h hL (Or.inr ⟨a, ha, by omega, by omega⟩) (by omega) (fun x => by omega) (fun _ => ?_)
  omega
theorem lm_tie_root (h : Rts ws rs l) {L : List Int} {j : Nat} (hj : j < rs.length) (hL : LmG ws rs l 1 (ws.length + j) 1 L) :
    wd L (ws.length + j) = tgt ws rs (ws.length + j) ∧ LmG ws rs l 1 (ws.length + (j + 1)) 1 (tieL ws rs L (ws.length + j)) := by
  have hp := h.pos
  have hS : Slot ws rs l (ws.length + j) := Or.inl ⟨by omega, by omega⟩
  refine lm_tie h hL hS (by omega) (fun x => by omega) (fun h0 => ?_)
  have := h.lt ((hS.to h).resolve_left h0)
  omega
theorem lm_object (h : Rts ws rs l) {a : Int} (ha : a ∈ l) {L : List Int} (hL : LmG ws rs l a.toNat (ws.length + rs.length) (a.toNat + 1) L) : LmG ws rs l (a.toNat + 1 + 0) (ws.length + rs.length) (a.toNat + 1) L := by
  have hal := h.lt ha
  have key : ∀ x, Slot ws rs l x → (x < a.toNat + 1 + 0 ↔ x < a.toNat) := fun x hx => by
    have hnh := hx.nhead h
    have : x ≠ a.toNat := fun e => hnh (by rw [e, hal.2.2.2]; exact ha)
    omega
  refine hL.same (fun x => ?_) (fun x _ _ _ => ?_)
  · unfold OnG
    constructor
    · rintro ⟨h1, h2, h3, h4⟩
      have := key x h1
      exact ⟨h1, h2, by omega, h4⟩
    · rintro ⟨h1, h2, h3, h4⟩
      have := key x h1
      exact ⟨h1, h2, by omega, h4⟩
  · exact valG_same ⟨fun e => ⟨e.1, by have := key x e.1; have := e.2; omega⟩, fun e => ⟨e.1, by have := key x e.1; have := e.2; omega⟩⟩
end Go.Proofs.YtlbhhdldeaehkaaGreat
