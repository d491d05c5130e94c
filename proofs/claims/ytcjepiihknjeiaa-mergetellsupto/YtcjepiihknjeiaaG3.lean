/- Texts of ours, one behind the other: QPlain. -/

/- A heap as the library keeps it, over things with the number of their pushing, and the sorted list that it stands for; plain lists, nothing of the program. -/
namespace Go.Proofs.Ytcjepiihknjeiaa

section
variable {α : Type}

/-- What less is asked to be. -/
structure Order (lt : α → α → Bool) : Prop where
  irr : ∀ a, lt a a = false
  tr : ∀ a b c, lt a b = true → lt b c = true → lt a c = true
  ntr : ∀ a b c, lt b a = false → lt c b = false → lt c a = false

theorem Order.asym {lt : α → α → Bool} (O : Order lt) {a b : α} (h : lt a b = true) : lt b a = false := by
  cases h2 : lt b a with
  | false => rfl
  | true => have := O.tr a b a h h2; rw [O.irr] at this; cases this

/-- The first of two: by rank, then by the number of their pushing. -/
def bl (lt : α → α → Bool) (a b : α × Nat) : Bool := if a.2 < b.2 then !lt b.1 a.1 else lt a.1 b.1

theorem le_iff {lt : α → α → Bool} {a b : α × Nat} : bl lt b a = false ↔ (b.2 < a.2 ∧ lt a.1 b.1 = true) ∨ (a.2 ≤ b.2 ∧ lt b.1 a.1 = false) := by
  unfold bl
  by_cases h : b.2 < a.2
  · simp [h, Nat.not_le_of_lt h]
  · simp [h, Nat.le_of_not_lt h]
theorem bl_true_iff {lt : α → α → Bool} {a b : α × Nat} : bl lt a b = true ↔ (a.2 < b.2 ∧ lt b.1 a.1 = false) ∨ (b.2 ≤ a.2 ∧ lt a.1 b.1 = true) := by
  unfold bl
  by_cases h : a.2 < b.2
  · simp [h, Nat.not_le_of_lt h]
  · simp [h, Nat.le_of_not_lt h]

theorem lt_of_lt_of_not {lt : α → α → Bool} (O : Order lt) {a b c : α} (h : lt a b = true) (k : lt c b = false) : lt a c = true := by
  cases h2 : lt a c with
  | true => rfl
  | false => have := O.ntr b c a k h2; rw [this] at h; cases h
theorem lt_of_not_of_lt {lt : α → α → Bool} (O : Order lt) {a b c : α} (h : lt b a = false) (k : lt b c = true) : lt a c = true := by
  cases h2 : lt a c with
  | true => rfl
  | false => have := O.ntr c a b h2 h; rw [this] at k; cases k

theorem bl_trans {lt : α → α → Bool} (O : Order lt) {a b c : α × Nat} (h : bl lt b a = false) (k : bl lt c b = false) : bl lt c a = false := by
  rw [le_iff] at h k ⊢
  rcases h with ⟨h1, h2⟩ | ⟨h1, h2⟩ <;> rcases k with ⟨k1, k2⟩ | ⟨k1, k2⟩
  · exact Or.inl ⟨by omega, O.tr _ _ _ h2 k2⟩
  · have h3 := lt_of_lt_of_not O h2 k2
    by_cases e : c.2 < a.2
    · exact Or.inl ⟨e, h3⟩
    · exact Or.inr ⟨by omega, O.asym h3⟩
  · have h3 := lt_of_not_of_lt O h2 k2
    by_cases e : c.2 < a.2
    · exact Or.inl ⟨e, h3⟩
    · exact Or.inr ⟨by omega, O.asym h3⟩
  · exact Or.inr ⟨by omega, O.ntr _ _ _ h2 k2⟩
theorem bl_asym {lt : α → α → Bool} (O : Order lt) {a b : α × Nat} (h : bl lt a b = true) : bl lt b a = false := by
  rw [bl_true_iff] at h
  rw [le_iff]
  rcases h with ⟨h1, h2⟩ | ⟨h1, h2⟩
  · exact Or.inr ⟨by omega, h2⟩
  · by_cases e : b.2 < a.2
    · exact Or.inl ⟨e, h2⟩
    · exact Or.inr ⟨by omega, O.asym h2⟩
theorem bl_anti {lt : α → α → Bool} {a b : α × Nat} (h : bl lt a b = false) (k : bl lt b a = false) : a.2 = b.2 := by
  rw [le_iff] at h k
  rcases h with ⟨h1, h2⟩ | ⟨h1, h2⟩ <;> rcases k with ⟨k1, k2⟩ | ⟨k1, k2⟩
  · omega
  · rw [k2] at h2; cases h2
  · rw [h2] at k2; cases k2
  · omega
theorem bl_refl {lt : α → α → Bool} (O : Order lt) (a : α × Nat) : bl lt a a = false := by
  rw [le_iff]; exact Or.inr ⟨Nat.le_refl _, O.irr _⟩
theorem not_lt_of_le {lt : α → α → Bool} (O : Order lt) {a b : α × Nat} (h : bl lt b a = false) : lt b.1 a.1 = false := by
  rw [le_iff] at h
  rcases h with ⟨_, h⟩ | ⟨_, h⟩
  · exact O.asym h
  · exact h
end

/-! Lists by their places. -/
section
variable {β : Type}
def sw (L : List β) (i j : Nat) (hi : i < L.length) (hj : j < L.length) : List β := (L.set i L[j]).set j L[i]
theorem length_sw (L : List β) (i j : Nat) (hi hj) : (sw L i j hi hj).length = L.length := by simp [sw]
theorem sw_perm (L : List β) (i j : Nat) (hi hj) : (sw L i j hi hj).Perm L := by
  have h := Array.swap_perm (xs := L.toArray) (i := i) (j := j) (by simpa using hi) (by simpa using hj)
  have := h.toList
  simpa [Array.toList_swap, sw] using this
theorem get_sw (L : List β) (i j : Nat) (hi hj) (k : Nat) (hk : k < (sw L i j hi hj).length) : (sw L i j hi hj)[k] = if k = j then L[i] else if k = i then L[j] else L[k]'(by rw [length_sw] at hk; exact hk) := by
  have e : (sw L i j hi hj)[k] = ((L.set i L[j]).set j L[i])[k]'(by simpa [sw] using hk) := rfl
  rw [e, List.getElem_set]
  split
  · rename_i h; rw [if_pos h.symm]
  · rename_i h
    rw [if_neg (fun e => h e.symm), List.getElem_set]
    split
    · rename_i h2; rw [if_pos h2.symm]
    · rename_i h2; rw [if_neg (fun e => h2 e.symm)]
theorem sw_self (L : List β) (i : Nat) (hi hj) : sw L i i hi hj = L := by
  apply List.ext_getElem (by rw [length_sw])
  intro k h1 h2
  rw [get_sw]
  split
  · rename_i h; simp [h]
  · rfl
end

/-! The heap. R a b: a need not come behind b. -/
section
variable {β : Type}
def HeapL (R : β → β → Prop) (L : List β) : Prop := ∀ i (h : i < L.length), 0 < i → R (L[(i - 1) / 2]'(by omega)) L[i]
def HeapUp (R : β → β → Prop) (L : List β) (j : Nat) : Prop :=
  (∀ i (h : i < L.length), 0 < i → i ≠ j → R (L[(i - 1) / 2]'(by omega)) L[i]) ∧
  (∀ i (h : i < L.length) (_ : 0 < i) (_ : (i - 1) / 2 = j) (_ : 0 < j), R (L[(j - 1) / 2]'(by omega)) L[i])
def HeapDown (R : β → β → Prop) (L : List β) (j : Nat) : Prop :=
  (∀ i (h : i < L.length), 0 < i → (i - 1) / 2 ≠ j → R (L[(i - 1) / 2]'(by omega)) L[i]) ∧
  (∀ i (h : i < L.length) (_ : 0 < i) (_ : (i - 1) / 2 = j) (_ : 0 < j), R (L[(j - 1) / 2]'(by omega)) L[i])

theorem rel_at {R : β → β → Prop} {L : List β} {a b c d : Nat} (ha : a < L.length) (hb : b < L.length) (hc : c < L.length) (hd : d < L.length) (h : R L[a] L[b]) (e1 : a = c) (e2 : b = d) : R L[c] L[d] := by
  subst e1; subst e2; exact h

theorem up_step {R : β → β → Prop} (tr : ∀ a b c, R a b → R b c → R a c) {L : List β} {j : Nat} (hj : j < L.length) (h0 : 0 < j) (h : HeapUp R L j) (hR : R L[j] (L[(j - 1) / 2]'(by omega))) :
    HeapUp R (sw L ((j - 1) / 2) j (by omega) hj) ((j - 1) / 2) := by
  obtain ⟨h1, h2⟩ := h
  refine ⟨fun i hi hi0 hne => ?_, fun i hi hi0 hp hp0 => ?_⟩
  · have hi' : i < L.length := by rw [length_sw] at hi; exact hi
    rw [get_sw, get_sw]
    by_cases e : i = j
    · subst e
      rw [if_neg (show ¬ (i - 1) / 2 = i by omega), if_pos rfl, if_pos rfl]
      exact hR
    · rw [if_neg e, if_neg hne]
      by_cases e2 : (i - 1) / 2 = j
      · rw [if_pos e2]; exact h2 i hi' hi0 e2 h0
      · rw [if_neg e2]
        by_cases e3 : (i - 1) / 2 = (j - 1) / 2
        · rw [if_pos e3]
          exact tr _ _ _ hR (rel_at (by omega) hi' _ _ (h1 i hi' hi0 e) e3 rfl)
        · rw [if_neg e3]; exact h1 i hi' hi0 e
  · have hi' : i < L.length := by rw [length_sw] at hi; exact hi
    have hpp : R (L[((j - 1) / 2 - 1) / 2]'(by omega)) (L[(j - 1) / 2]'(by omega)) := h1 ((j - 1) / 2) (by omega) hp0 (by omega)
    rw [get_sw, get_sw]
    rw [if_neg (show ¬ ((j - 1) / 2 - 1) / 2 = j by omega), if_neg (show ¬ ((j - 1) / 2 - 1) / 2 = (j - 1) / 2 by omega)]
    by_cases e : i = j
    · rw [if_pos e]; exact hpp
    · rw [if_neg e, if_neg (show ¬ i = (j - 1) / 2 by omega)]
      exact tr _ _ _ hpp (rel_at (by omega) hi' _ _ (h1 i hi' hi0 e) hp rfl)
theorem up_end {R : β → β → Prop} {L : List β} {j : Nat} (h : HeapUp R L j) (he : j = 0 ∨ ∃ hj : j < L.length, R (L[(j - 1) / 2]'(by omega)) L[j]) : HeapL R L := by
  intro i hi hi0
  by_cases e : i = j
  · subst e
    rcases he with he | ⟨_, he⟩
    · omega
    · exact he
  · exact h.1 i hi hi0 e
theorem up_start {R : β → β → Prop} {L : List β} (x : β) (h : HeapL R L) : HeapUp R (L ++ [x]) L.length := by
  refine ⟨fun i hi hi0 hne => ?_, fun i hi hi0 hp _ => ?_⟩
  · have : i < L.length := by simp at hi; omega
    rw [List.getElem_append_left this, List.getElem_append_left (show (i - 1) / 2 < L.length by omega)]
    exact h i this hi0
  · simp at hi; omega
theorem down_step {R : β → β → Prop} {L : List β} {i j : Nat} (hj : j < L.length) (h0 : 0 < j) (hi : (j - 1) / 2 = i) (h : HeapDown R L i)
    (hm : ∀ c (hc : c < L.length), 0 < c → (c - 1) / 2 = i → R L[j] L[c]) (hR : R L[j] (L[i]'(by omega))) : HeapDown R (sw L i j (by omega) hj) j := by
  obtain ⟨h1, h2⟩ := h
  refine ⟨fun c hc hc0 hne => ?_, fun c hc hc0 hp hp0 => ?_⟩
  · have hc' : c < L.length := by rw [length_sw] at hc; exact hc
    rw [get_sw, get_sw]
    rw [if_neg hne]
    by_cases e : c = j
    · subst e
      rw [if_pos hi, if_pos rfl]
      exact hR
    · rw [if_neg e]
      by_cases e2 : c = i
      · subst e2
        rw [if_neg (show ¬ (c - 1) / 2 = c by omega), if_pos rfl]
        exact h2 j hj h0 hi hc0
      · rw [if_neg e2]
        by_cases e3 : (c - 1) / 2 = i
        · rw [if_pos e3]; exact hm c hc' hc0 e3
        · rw [if_neg e3]; exact h1 c hc' hc0 e3
  · have hc' : c < L.length := by rw [length_sw] at hc; exact hc
    rw [get_sw, get_sw]
    rw [if_neg (show ¬ (j - 1) / 2 = j by omega), if_pos hi, if_neg (show ¬ c = j by omega), if_neg (show ¬ c = i by omega)]
    exact rel_at (by omega) hc' _ _ (h1 c hc' hc0 (by omega)) hp rfl
theorem down_end {R : β → β → Prop} {L : List β} {i : Nat} (h : HeapDown R L i) (he : ∀ c (hc : c < L.length) (_ : 0 < c) (_ : (c - 1) / 2 = i), R (L[i]'(by omega)) L[c]) : HeapL R L := by
  intro c hc hc0
  by_cases e : (c - 1) / 2 = i
  · exact rel_at (by omega) hc _ _ (he c hc hc0 e) e.symm rfl
  · exact h.1 c hc hc0 e
theorem heap_min {R : β → β → Prop} (rf : ∀ a, R a a) (tr : ∀ a b c, R a b → R b c → R a c) {L : List β} (h : HeapL R L) (h0 : 0 < L.length) : ∀ i (hi : i < L.length), R L[0] L[i] := by
  intro i
  induction i using Nat.strongRecOn with
  | _ i ih =>
    intro hi
    by_cases e : i = 0
    · subst e; exact rf _
    · exact tr _ _ _ (ih ((i - 1) / 2) (by omega) (by omega)) (h i hi (by omega))

/-- What is left behind the first: the last one in its place. -/
def dropF (L : List β) (h : 0 < L.length) : List β := (sw L 0 (L.length - 1) h (by omega)).take (L.length - 1)
theorem length_dropF (L : List β) (h) : (dropF L h).length = L.length - 1 := by simp [dropF, length_sw]
theorem dropF_perm (L : List β) (h : 0 < L.length) : L.Perm (L[0] :: dropF L h) := by
  have h1 := (sw_perm L 0 (L.length - 1) h (by omega)).symm
  have h2 : sw L 0 (L.length - 1) h (by omega) = dropF L h ++ [L[0]] := by
    unfold dropF
    have h3 : L.length - 1 < (sw L 0 (L.length - 1) h (by omega)).length := by rw [length_sw]; omega
    have h4 : (sw L 0 (L.length - 1) h (by omega))[L.length - 1] = L[0] := by rw [get_sw, if_pos rfl]
    rw [← h4, ← List.take_succ_eq_append_getElem h3, List.take_of_length_le (by rw [length_sw]; omega)]
  rw [h2] at h1
  exact h1.trans (List.perm_append_singleton _ _)
theorem down_start {R : β → β → Prop} {L : List β} (h : HeapL R L) (h0 : 0 < L.length) : HeapDown R (dropF L h0) 0 := by
  refine ⟨fun i hi hi0 hne => ?_, fun i hi hi0 hp hp0 => by omega⟩
  have hi' := hi
  rw [length_dropF] at hi'
  have e : ∀ k (hk : k < (dropF L h0).length), (dropF L h0)[k] = (sw L 0 (L.length - 1) h0 (by omega))[k]'(by rw [length_dropF] at hk; rw [length_sw]; omega) := fun k hk => List.getElem_take
  rw [e, e, get_sw, get_sw]
  rw [if_neg (show ¬ (i - 1) / 2 = L.length - 1 by omega), if_neg hne, if_neg (show ¬ i = L.length - 1 by omega), if_neg (show ¬ i = 0 by omega)]
  exact h i (by omega) hi0
end

/-! The sorted list that a heap stands for. -/
section
variable {α : Type}
def Le (lt : α → α → Bool) (a b : α × Nat) : Prop := bl lt b a = false
theorem Le.tr {lt : α → α → Bool} (O : Order lt) : ∀ a b c : α × Nat, Le lt a b → Le lt b c → Le lt a c := fun _ _ _ h k => bl_trans O h k
theorem Le.rf {lt : α → α → Bool} (O : Order lt) : ∀ a : α × Nat, Le lt a a := bl_refl O

/-- Behind all that it is not below. -/
def ins (lt : α → α → Bool) (v : α) : List α → List α
  | [] => [v]
  | z :: Z => if lt v z then v :: z :: Z else z :: ins lt v Z
def insT (lt : α → α → Bool) (v : α × Nat) : List (α × Nat) → List (α × Nat)
  | [] => [v]
  | z :: Z => if lt v.1 z.1 then v :: z :: Z else z :: insT lt v Z
theorem length_ins (lt : α → α → Bool) (v : α) (Z : List α) : (ins lt v Z).length = Z.length + 1 := by
  induction Z with
  | nil => rfl
  | cons z Z ih => unfold ins; split <;> simp [ih]
theorem insT_map (lt : α → α → Bool) (v : α × Nat) (T : List (α × Nat)) : (insT lt v T).map (·.1) = ins lt v.1 (T.map (·.1)) := by
  induction T with
  | nil => rfl
  | cons z T ih => simp only [insT, List.map_cons, ins]; split <;> simp [ih]
theorem insT_perm (lt : α → α → Bool) (v : α × Nat) (T : List (α × Nat)) : (insT lt v T).Perm (v :: T) := by
  induction T with
  | nil => exact List.Perm.refl _
  | cons z T ih =>
    simp only [insT]
    split
    · exact List.Perm.refl _
    · exact (List.Perm.cons z ih).trans (List.Perm.swap v z T)

def Srt (lt : α → α → Bool) (T : List (α × Nat)) : Prop := T.Pairwise fun a b => Le lt a b ∧ a.2 ≠ b.2
theorem insT_sorted {lt : α → α → Bool} (O : Order lt) {v : α × Nat} {T : List (α × Nat)} (h : Srt lt T) (hn : ∀ t ∈ T, t.2 < v.2) : Srt lt (insT lt v T) := by
  induction T with
  | nil => simp [insT, Srt]
  | cons z T ih =>
    obtain ⟨h1, h2⟩ := List.pairwise_cons.1 h
    have hz := hn z (List.mem_cons_self ..)
    simp only [insT]
    split
    · rename_i hlt
      refine List.pairwise_cons.2 ⟨fun y hy => ?_, h⟩
      have hy2 := hn y hy
      refine ⟨?_, by omega⟩
      have hvz : Le lt v z := by unfold Le; rw [le_iff]; exact Or.inl ⟨hz, hlt⟩
      rcases List.mem_cons.1 hy with rfl | hy
      · exact hvz
      · exact Le.tr O _ _ _ hvz (h1 y hy).1
    · rename_i hlt
      refine List.pairwise_cons.2 ⟨fun y hy => ?_, ih h2 (fun t ht => hn t (List.mem_cons_of_mem _ ht))⟩
      rcases List.mem_cons.1 ((insT_perm lt v T).mem_iff.1 hy) with rfl | hy
      · refine ⟨?_, by omega⟩
        unfold Le; rw [le_iff]; exact Or.inr ⟨by omega, by simpa using hlt⟩
      · exact h1 y hy

/-- The heap L, of n things pushed so far, stands for Z. -/
def QP (lt : α → α → Bool) (L : List (α × Nat)) (Z : List α) (n : Nat) : Prop :=
  ∃ T, T.map (·.1) = Z ∧ Srt lt T ∧ (∀ t ∈ T, t.2 < n) ∧ L.Perm T ∧ HeapL (Le lt) L
theorem QP.nil (lt : α → α → Bool) : QP lt [] [] 0 := ⟨[], rfl, List.Pairwise.nil, by simp, List.Perm.refl _, fun i h => by simp at h⟩
theorem QP.length {lt : α → α → Bool} {L : List (α × Nat)} {Z : List α} {n : Nat} (h : QP lt L Z n) : L.length = Z.length := by
  obtain ⟨T, rfl, _, _, hp, _⟩ := h
  rw [hp.length_eq, List.length_map]
theorem QP.at_lt {lt : α → α → Bool} {L : List (α × Nat)} {Z : List α} {n : Nat} (h : QP lt L Z n) : ∀ t ∈ L, t.2 < n := by
  obtain ⟨T, rfl, _, hn, hp, _⟩ := h
  exact fun t ht => hn t (hp.mem_iff.1 ht)
theorem QP.heap {lt : α → α → Bool} {L : List (α × Nat)} {Z : List α} {n : Nat} (h : QP lt L Z n) : HeapL (Le lt) L := h.choose_spec.2.2.2.2
theorem QP.push {lt : α → α → Bool} (O : Order lt) {L L' : List (α × Nat)} {Z : List α} {n : Nat} (h : QP lt L Z n) (v : α) (hp : L'.Perm (L ++ [(v, n)])) (hh : HeapL (Le lt) L') : QP lt L' (ins lt v Z) (n + 1) := by
  obtain ⟨T, rfl, hs, hn, hT, _⟩ := h
  refine ⟨insT lt (v, n) T, insT_map _ _ _, insT_sorted O hs hn, fun t ht => ?_, ?_, hh⟩
  · rcases List.mem_cons.1 ((insT_perm lt (v, n) T).mem_iff.1 ht) with rfl | ht
    · exact Nat.lt_succ_self _
    · have := hn t ht; omega
  · refine hp.trans ((List.perm_append_singleton _ _).trans ?_)
    exact (List.Perm.cons _ hT).trans (insT_perm lt (v, n) T).symm
theorem QP.first {lt : α → α → Bool} (O : Order lt) {L : List (α × Nat)} {z : α} {Z : List α} {n : Nat} (h : QP lt L (z :: Z) n) : ∃ h0 : 0 < L.length, L[0].1 = z := by
  have hl := h.length
  have h0 : 0 < L.length := by rw [hl]; simp
  refine ⟨h0, ?_⟩
  obtain ⟨T, hm, hs, hn, hT, hh⟩ := h
  cases T with
  | nil => simp at hm
  | cons t T =>
    simp only [List.map_cons, List.cons.injEq] at hm
    obtain ⟨rfl, rfl⟩ := hm
    obtain ⟨h1, h2⟩ := List.pairwise_cons.1 hs
    have m0 : L[0] ∈ t :: T := hT.mem_iff.1 (List.getElem_mem h0)
    rcases List.mem_cons.1 m0 with e | m
    · rw [e]
    · exfalso
      obtain ⟨i, hi, e⟩ := List.getElem_of_mem (hT.mem_iff.2 (List.mem_cons_self (a := t) (l := T)))
      have k1 := heap_min (Le.rf O) (Le.tr O) hh h0 i hi
      rw [e] at k1
      have k2 := h1 _ m
      exact k2.2 (bl_anti k1 k2.1)
theorem QP.pop {lt : α → α → Bool} (O : Order lt) {L L' : List (α × Nat)} {z : α} {Z : List α} {n : Nat} (h : QP lt L (z :: Z) n) (h0 : 0 < L.length) (hp : L'.Perm (dropF L h0)) (hh : HeapL (Le lt) L') : QP lt L' Z n := by
  have hf := h.first O
  obtain ⟨T, hm, hs, hn, hT, hH⟩ := h
  cases T with
  | nil => simp at hm
  | cons t T =>
    simp only [List.map_cons, List.cons.injEq] at hm
    obtain ⟨rfl, rfl⟩ := hm
    obtain ⟨h1, h2⟩ := List.pairwise_cons.1 hs
    refine ⟨T, rfl, h2, fun x hx => hn x (List.mem_cons_of_mem _ hx), ?_, hh⟩
    have e : L[0] = t := by
      have m0 : L[0] ∈ t :: T := hT.mem_iff.1 (List.getElem_mem h0)
      rcases List.mem_cons.1 m0 with e | m
      · exact e
      · exfalso
        obtain ⟨i, hi, e⟩ := List.getElem_of_mem (hT.mem_iff.2 (List.mem_cons_self (a := t) (l := T)))
        have k1 := heap_min (Le.rf O) (Le.tr O) hH h0 i hi
        rw [e] at k1
        have k2 := h1 _ m
        exact k2.2 (bl_anti k1 k2.1)
    have h3 := (dropF_perm L h0).symm.trans hT
    rw [e] at h3
    exact hp.trans h3.cons_inv
theorem QP.sorted {lt : α → α → Bool} (O : Order lt) {L : List (α × Nat)} {Z : List α} {n : Nat} (h : QP lt L Z n) : Z.Pairwise fun a b => lt b a = false := by
  obtain ⟨T, rfl, hs, _⟩ := h
  exact List.pairwise_map.2 (hs.imp fun h => not_lt_of_le O h.1)
end
end Go.Proofs.Ytcjepiihknjeiaa
