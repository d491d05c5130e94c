/- Texts of ours, one behind the other: SortPlain. -/
import Derived.WalkKit
/- Sorting in place by swaps, as plain lists: each thing bears its first place as a mark, so that the order is strict and total; insertion, rotation and the symmetric merge. Nothing here speaks of the program. -/
namespace Go.Proofs.Ytehnjanllemnlaa

/-- What is asked of an order. -/
structure Ord2 {α : Type} (lt : α → α → Bool) : Prop where
  irr : ∀ x, lt x x = false
  tr : ∀ x y z, lt x y = true → lt y z = true → lt x z = true
  inc : ∀ x y z, lt x y = false → lt y z = false → lt x z = false
/-- By the order, alike ones by their marks. -/
def L2 {α : Type} (lt : α → α → Bool) (x y : α × Nat) : Prop := lt x.1 y.1 = true ∨ (lt y.1 x.1 = false ∧ x.2 < y.2)
theorem L2.trans {α : Type} {lt : α → α → Bool} (O : Ord2 lt) {x y z : α × Nat} (h : L2 lt x y) (h' : L2 lt y z) : L2 lt x z := by
  have bt : ∀ a b, lt a b = true ∨ lt a b = false := fun a b => by cases lt a b <;> simp
  rcases h with h | ⟨h, k⟩
  · rcases h' with h' | ⟨h', k'⟩
    · exact Or.inl (O.tr _ _ _ h h')
    · rcases bt x.1 z.1 with g | g
      · exact Or.inl g
      · have := O.inc _ _ _ g h'; rw [h] at this; cases this
  · rcases h' with h' | ⟨h', k'⟩
    · rcases bt x.1 z.1 with g | g
      · exact Or.inl g
      · have := O.inc _ _ _ h g; rw [h'] at this; cases this
    · exact Or.inr ⟨O.inc _ _ _ h' h, by omega⟩
theorem L2.irr {α : Type} {lt : α → α → Bool} (O : Ord2 lt) {x : α × Nat} (h : L2 lt x x) : False := by
  rcases h with h | ⟨_, h⟩
  · rw [O.irr] at h; cases h
  · omega
theorem L2.of_yes {α : Type} {lt : α → α → Bool} {x y : α × Nat} (h : lt x.1 y.1 = true) : L2 lt x y := Or.inl h
theorem L2.of_no {α : Type} {lt : α → α → Bool} {x y : α × Nat} (h : lt y.1 x.1 = false) (ht : x.2 < y.2) : L2 lt x y := Or.inr ⟨h, ht⟩

/-- From a up to b they stand in order. -/
def So {α : Type} (lt : α → α → Bool) (D : List (α × Nat)) (a b : Nat) : Prop := ∀ i j x y, a ≤ i → i < j → j < b → D[i]? = some x → D[j]? = some y → L2 lt x y
/-- The marks ahead of m are below those from m on. -/
def Cr {α : Type} (D : List (α × Nat)) (a m b : Nat) : Prop := ∀ i j x y, a ≤ i → i < m → m ≤ j → j < b → D[i]? = some x → D[j]? = some y → x.2 < y.2
/-- E is D, but for the order from a up to b. -/
structure Ch {β : Type} (a b : Nat) (D E : List β) : Prop where
  len : E.length = D.length
  out : ∀ i, i < a ∨ b ≤ i → E[i]? = D[i]?
  mem : ∀ i x, a ≤ i → i < b → E[i]? = some x → ∃ j, a ≤ j ∧ j < b ∧ D[j]? = some x
  perm : E.Perm D
theorem Ch.refl {β : Type} (a b : Nat) (D : List β) : Ch a b D D := ⟨rfl, fun _ _ => rfl, fun i _ h1 h2 h => ⟨i, h1, h2, h⟩, List.Perm.refl _⟩
theorem Ch.mono {β : Type} {a b a' b' : Nat} {D E : List β} (h : Ch a b D E) (ha : a' ≤ a) (hb : b ≤ b') : Ch a' b' D E := by
  refine ⟨h.len, fun i hi => h.out i (by omega), fun i x h1 h2 hx => ?_, h.perm⟩
  by_cases hi : a ≤ i ∧ i < b
  · obtain ⟨j, j1, j2, j3⟩ := h.mem i x hi.1 hi.2 hx
    exact ⟨j, by omega, by omega, j3⟩
  · exact ⟨i, h1, h2, by rw [← h.out i (by omega)]; exact hx⟩
theorem Ch.trans {β : Type} {a b : Nat} {D E F : List β} (h : Ch a b D E) (h' : Ch a b E F) : Ch a b D F := by
  refine ⟨h'.len.trans h.len, fun i hi => (h'.out i hi).trans (h.out i hi), fun i x h1 h2 hx => ?_, h'.perm.trans h.perm⟩
  obtain ⟨j, j1, j2, j3⟩ := h'.mem i x h1 h2 hx
  exact h.mem j x j1 j2 j3
/-- E is D with its places turned by f. -/
def Ix {β : Type} (D E : List β) (f : Nat → Nat) : Prop := E.Perm D ∧ ∀ k, E[k]? = D[f k]?
theorem Ix.len {β : Type} {D E : List β} {f : Nat → Nat} (h : Ix D E f) : E.length = D.length := h.1.length_eq
theorem Ix.refl {β : Type} (D : List β) : Ix D D (fun k => k) := ⟨List.Perm.refl _, fun _ => rfl⟩
theorem Ix.congr {β : Type} {D E : List β} {f g : Nat → Nat} (h : Ix D E f) (e : ∀ k, f k = g k) : Ix D E g := ⟨h.1, fun k => by rw [h.2, e]⟩
theorem Ix.ch {β : Type} {D E : List β} {f : Nat → Nat} {a b : Nat} (h : Ix D E f) (ho : ∀ k, k < a ∨ b ≤ k → f k = k) (hi : ∀ k, a ≤ k → k < b → a ≤ f k ∧ f k < b) : Ch a b D E :=
  ⟨h.len, fun i q => by rw [h.2, ho i q], fun i x h1 h2 hx => ⟨f i, (hi i h1 h2).1, (hi i h1 h2).2, by rw [← h.2]; exact hx⟩, h.1⟩
/-- Two places swapped. -/
def tau (i j k : Nat) : Nat := if k = i then j else if k = j then i else k
def swp {β : Type} (D : List β) (i j : Nat) (hi : i < D.length) (hj : j < D.length) : List β := (D.set i D[j]).set j D[i]
theorem swp_ix {β : Type} (D : List β) (i j : Nat) (hi : i < D.length) (hj : j < D.length) : Ix D (swp D i j hi hj) (tau i j) := by
  refine ⟨List.set_set_perm hi hj, fun k => ?_⟩
  unfold swp tau
  rw [List.getElem?_set]
  by_cases h1 : j = k
  · subst h1
    rw [if_pos rfl, if_pos (by simpa using hj)]
    by_cases h2 : j = i
    · subst h2; rw [if_pos rfl]; simp [hi]
    · rw [if_neg h2, if_pos rfl]; simp [hi]
  · rw [if_neg h1, List.getElem?_set]
    by_cases h2 : i = k
    · subst h2; rw [if_pos rfl, if_pos hi, if_pos rfl]; simp [hj]
    · rw [if_neg h2, if_neg (fun e => h2 e.symm), if_neg (fun e => h1 e.symm)]
theorem Ix.swap {β : Type} {D E : List β} {f g : Nat → Nat} (h : Ix D E f) (i j : Nat) (hi : i < E.length) (hj : j < E.length) (e : ∀ k, f (tau i j k) = g k) : Ix D (swp E i j hi hj) g := by
  obtain ⟨p, q⟩ := swp_ix E i j hi hj
  exact ⟨p.trans h.1, fun k => by rw [q, h.2, e]⟩
theorem swp_len {β : Type} (D : List β) (i j : Nat) (hi : i < D.length) (hj : j < D.length) : (swp D i j hi hj).length = D.length := (swp_ix D i j hi hj).len
theorem swp_map {β γ : Type} (f : β → γ) (D : List β) (i j : Nat) (hi : i < D.length) (hj : j < D.length) : (swp D i j hi hj).map f = swp (D.map f) i j (by simpa using hi) (by simpa using hj) := by
  unfold swp
  simp [List.map_set]
theorem Ix.trans {β : Type} {D E F : List β} {f g : Nat → Nat} (h : Ix D E f) (h' : Ix E F g) : Ix D F (fun k => f (g k)) := ⟨h'.1.trans h.1, fun k => by rw [h'.2, h.2]⟩

/-- The turns of places: n from x on with n from y on; the first block behind the second; one down, one up. -/
def sig (x y n k : Nat) : Nat := if x ≤ k ∧ k < x + n then k - x + y else if y ≤ k ∧ k < y + n then k - y + x else k
def rho (a m b k : Nat) : Nat := if k < a ∨ b ≤ k then k else if k < a + (b - m) then k + (m - a) else k - (b - m)
def dn (i m k : Nat) : Nat := if k < i ∨ m < k then k else if k = i then m else k - 1
def upm (a i k : Nat) : Nat := if k < a ∨ i ≤ k then k else if k + 1 = i then a else k + 1
theorem sig_zero (x y k : Nat) : sig x y 0 k = k := by unfold sig; split <;> (try split) <;> omega
theorem sig_step (x y n k : Nat) (h : x + n < y) : sig x y n (tau (x + n) (y + n) k) = sig x y (n + 1) k := by unfold sig tau; (repeat' split) <;> omega
theorem dn_zero (m k : Nat) : dn m m k = k := by unfold dn; (repeat' split) <;> omega
theorem dn_step (j m k : Nat) (h : j < m) : dn (j + 1) m (tau (j + 1) j k) = dn j m k := by unfold dn tau; (repeat' split) <;> omega
theorem upm_zero (a k : Nat) : upm a (a + 1) k = k := by unfold upm; (repeat' split) <;> omega
theorem upm_step (a i k : Nat) (h : a ≤ i) : upm a (i + 1) (tau i (i + 1) k) = upm a (i + 2) k := by unfold upm tau; (repeat' split) <;> omega
theorem rho_left (m i j k : Nat) (hj : j < i) (hi : i ≤ m) : sig (m - i) m j (rho (m - (i - j)) m (m + j) k) = rho (m - i) m (m + j) k := by unfold sig rho; (repeat' split) <;> omega
theorem rho_right (m i j k : Nat) (hj : i < j) (hi : i ≤ m) : sig (m - i) (m + j - i) i (rho (m - i) m (m + (j - i)) k) = rho (m - i) m (m + j) k := by unfold sig rho; (repeat' split) <;> omega
theorem rho_last (m i k : Nat) (hi : i ≤ m) : sig (m - i) m i k = rho (m - i) m (m + i) k := by unfold sig rho; (repeat' split) <;> omega
theorem rho_id (s m e k : Nat) (h : s = m ∨ e = m) (h1 : s ≤ m) (h2 : m ≤ e) : rho s m e k = k := by unfold rho; (repeat' split) <;> omega

/-- One that is put down to its place among ordered ones. -/
theorem So.down {α : Type} {lt : α → α → Bool} {D E : List (α × Nat)} {a i m : Nat} (h : So lt D a m) (hE : Ix D E (dn i m)) (hai : a ≤ i) (hi : i ≤ m)
    (hlo : ∀ k x y, a ≤ k → k < i → D[k]? = some x → D[m]? = some y → L2 lt x y) (hhi : ∀ k x y, i ≤ k → k < m → D[m]? = some x → D[k]? = some y → L2 lt x y) : So lt E a (m + 1) := by
  intro p q x y h1 h2 h3 hp hq
  rw [hE.2] at hp hq
  by_cases c1 : q < i
  · have e1 : dn i m p = p := by unfold dn; rw [if_pos (by omega)]
    have e2 : dn i m q = q := by unfold dn; rw [if_pos (by omega)]
    rw [e1] at hp; rw [e2] at hq
    exact h p q x y h1 h2 (by omega) hp hq
  · by_cases c2 : p < i
    · have e1 : dn i m p = p := by unfold dn; rw [if_pos (by omega)]
      rw [e1] at hp
      by_cases c3 : q = i
      · have e2 : dn i m q = m := by unfold dn; rw [if_neg (by omega), if_pos c3]
        rw [e2] at hq
        exact hlo p x y h1 c2 hp hq
      · have e2 : dn i m q = q - 1 := by unfold dn; rw [if_neg (by omega), if_neg c3]
        rw [e2] at hq
        exact h p (q - 1) x y h1 (by omega) (by omega) hp hq
    · have e2 : dn i m q = q - 1 := by unfold dn; rw [if_neg (by omega), if_neg (by omega)]
      rw [e2] at hq
      by_cases c3 : p = i
      · have e1 : dn i m p = m := by unfold dn; rw [if_neg (by omega), if_pos c3]
        rw [e1] at hp
        exact hhi (q - 1) x y (by omega) (by omega) hp hq
      · have e1 : dn i m p = p - 1 := by unfold dn; rw [if_neg (by omega), if_neg c3]
        rw [e1] at hp
        exact h (p - 1) (q - 1) x y (by omega) (by omega) (by omega) hp hq
/-- One that is put up to its place. -/
theorem So.up {α : Type} {lt : α → α → Bool} {D E : List (α × Nat)} {a i b : Nat} (h : So lt D (a + 1) b) (hE : Ix D E (upm a i)) (hi : a < i) (hib : i ≤ b)
    (hlo : ∀ k x y, a + 1 ≤ k → k < i → D[k]? = some x → D[a]? = some y → L2 lt x y) (hhi : ∀ k x y, i ≤ k → k < b → D[a]? = some x → D[k]? = some y → L2 lt x y) : So lt E a b := by
  intro p q x y h1 h2 h3 hp hq
  rw [hE.2] at hp hq
  by_cases c1 : i ≤ p
  · have e1 : upm a i p = p := by unfold upm; rw [if_pos (by omega)]
    have e2 : upm a i q = q := by unfold upm; rw [if_pos (by omega)]
    rw [e1] at hp; rw [e2] at hq
    exact h p q x y (by omega) h2 h3 hp hq
  · by_cases c2 : i ≤ q
    · have e2 : upm a i q = q := by unfold upm; rw [if_pos (by omega)]
      rw [e2] at hq
      by_cases c3 : p + 1 = i
      · have e1 : upm a i p = a := by unfold upm; rw [if_neg (by omega), if_pos c3]
        rw [e1] at hp
        exact hhi q x y c2 h3 hp hq
      · have e1 : upm a i p = p + 1 := by unfold upm; rw [if_neg (by omega), if_neg c3]
        rw [e1] at hp
        exact h (p + 1) q x y (by omega) (by omega) h3 hp hq
    · have e1 : upm a i p = p + 1 := by unfold upm; rw [if_neg (by omega), if_neg (by omega)]
      rw [e1] at hp
      by_cases c3 : q + 1 = i
      · have e2 : upm a i q = a := by unfold upm; rw [if_neg (by omega), if_pos c3]
        rw [e2] at hq
        exact hlo (p + 1) x y (by omega) (by omega) hp hq
      · have e2 : upm a i q = q + 1 := by unfold upm; rw [if_neg (by omega), if_neg c3]
        rw [e2] at hq
        exact h (p + 1) (q + 1) x y (by omega) (by omega) (by omega) hp hq
theorem dn_ch {β : Type} {D E : List β} {a i m b : Nat} (h : Ix D E (dn i m)) (h1 : a ≤ i) (h2 : i ≤ m) (h3 : m < b) : Ch a b D E :=
  h.ch (fun k hk => by unfold dn; (repeat' split) <;> omega) (fun k k1 k2 => by unfold dn; (repeat' split) <;> omega)
theorem upm_ch {β : Type} {D E : List β} {a i b : Nat} (h : Ix D E (upm a i)) (h1 : a < i) (h2 : i ≤ b) : Ch a b D E :=
  h.ch (fun k hk => by unfold upm; (repeat' split) <;> omega) (fun k k1 k2 => by unfold upm; (repeat' split) <;> omega)
theorem rho_ch {β : Type} {D E : List β} {s m e a b : Nat} (h : Ix D E (rho s m e)) (h1 : a ≤ s) (h2 : s ≤ m) (h3 : m ≤ e) (h4 : e ≤ b) : Ch a b D E :=
  h.ch (fun k hk => by unfold rho; (repeat' split) <;> omega) (fun k k1 k2 => by unfold rho; (repeat' split) <;> omega)

/-- What a search by halves for the cut of a merge has found. -/
structure CutAt {α : Type} (lt : α → α → Bool) (D : List (α × Nat)) (a m b mid s e : Nat) : Prop where
  as : a ≤ s
  sm : s ≤ m
  me : m ≤ e
  eb : e ≤ b
  sum : s + e = mid + m
  lo : ∀ i j x y, a ≤ i → i < s → e ≤ j → j < b → D[i]? = some x → D[j]? = some y → L2 lt x y
  hi : ∀ i j x y, m ≤ i → i < e → s ≤ j → j < m → D[i]? = some x → D[j]? = some y → L2 lt x y
/-- The cut out of what the search asked. -/
theorem cut_of {α : Type} {lt : α → α → Bool} (O : Ord2 lt) {D : List (α × Nat)} {a m b mid s lo hi : Nat} (h1 : So lt D a m) (h2 : So lt D m b) (hl : b ≤ D.length) (hm : a < m) (hb : m < b) (hmid : mid = (a + b) / 2)
    (hlo : lo = if mid < m then mid + m - b else a) (hhi : hi = if mid < m then mid else m) (hs1 : lo ≤ s) (hs2 : s ≤ hi)
    (q1 : ∀ c x y, lo ≤ c → c < s → D[c]? = some x → D[mid + m - 1 - c]? = some y → L2 lt x y) (q2 : ∀ c x y, s ≤ c → c < hi → D[mid + m - 1 - c]? = some x → D[c]? = some y → L2 lt x y) :
    CutAt lt D a m b mid s (mid + m - s) := by
  have hw : (mid < m ∧ lo = mid + m - b ∧ hi = mid) ∨ (m ≤ mid ∧ lo = a ∧ hi = m) := by
    rcases Nat.lt_or_ge mid m with g | g
    · rw [if_pos g] at hlo hhi; exact Or.inl ⟨g, hlo, hhi⟩
    · rw [if_neg (by omega)] at hlo hhi; exact Or.inr ⟨g, hlo, hhi⟩
  clear hlo hhi
  have e1 : a ≤ s ∧ s ≤ m ∧ m ≤ mid + m - s ∧ mid + m - s ≤ b := by omega
  obtain ⟨e1, e2, e3, e4⟩ := e1
  refine ⟨e1, e2, e3, e4, by omega, ?_, ?_⟩
  · intro i j x y i1 i2 j1 j2 hx hy
    by_cases hz : s = lo
    · exfalso
      omega
    · have hlt : s - 1 < D.length := by omega
      have hlt' : mid + m - s < D.length := by omega
      have hc := q1 (s - 1) D[s - 1] D[mid + m - s] (by omega) (by omega) (List.getElem?_eq_getElem hlt) (by rw [show mid + m - 1 - (s - 1) = mid + m - s by omega]; exact List.getElem?_eq_getElem hlt')
      have ha : L2 lt x D[mid + m - s] := by
        by_cases hi' : i = s - 1
        · subst hi'
          rw [List.getElem?_eq_getElem hlt, Option.some.injEq] at hx
          rw [← hx]; exact hc
        · exact (h1 i (s - 1) x _ i1 (by omega) (by omega) hx (List.getElem?_eq_getElem hlt)).trans O hc
      by_cases hj' : j = mid + m - s
      · subst hj'
        rw [List.getElem?_eq_getElem hlt', Option.some.injEq] at hy
        rw [← hy]; exact ha
      · exact ha.trans O (h2 (mid + m - s) j _ y e3 (by omega) j2 (List.getElem?_eq_getElem hlt') hy)
  · intro i j x y i1 i2 j1 j2 hx hy
    by_cases hz : s = hi
    · exfalso
      omega
    · have hlt : s < D.length := by omega
      have hlt' : mid + m - 1 - s < D.length := by omega
      have hc := q2 s D[mid + m - 1 - s] D[s] (Nat.le_refl _) (by omega) (List.getElem?_eq_getElem hlt') (List.getElem?_eq_getElem hlt)
      have ha : L2 lt x D[s] := by
        by_cases hi' : i = mid + m - 1 - s
        · subst hi'
          rw [List.getElem?_eq_getElem hlt', Option.some.injEq] at hx
          rw [← hx]; exact hc
        · exact (h2 i (mid + m - 1 - s) x _ i1 (by omega) (by omega) hx (List.getElem?_eq_getElem hlt')).trans O hc
      by_cases hj' : j = s
      · subst hj'
        rw [List.getElem?_eq_getElem hlt, Option.some.injEq] at hy
        rw [← hy]; exact ha
      · exact ha.trans O (h1 s j _ y e1 (by omega) j2 (List.getElem?_eq_getElem hlt) hy)
/-- Behind the rotation both halves are as a merge asks for. -/
theorem rho_left_so {α : Type} {lt : α → α → Bool} {D E : List (α × Nat)} {a m b mid s e : Nat} (h1 : So lt D a m) (h2 : So lt D m b) (hc : Cr D a m b) (C : CutAt lt D a m b mid s e) (hE : Ix D E (rho s m e)) :
    So lt E a s ∧ So lt E s mid ∧ Cr E a s mid ∧ So lt E mid e ∧ So lt E e b ∧ Cr E mid e b := by
  obtain ⟨c1, c2, c3, c4, c5, _, _⟩ := C
  have f1 : ∀ k, k < s → E[k]? = D[k]? := fun k hk => by rw [hE.2]; congr 1; unfold rho; rw [if_pos (by omega)]
  have f2 : ∀ k, s ≤ k → k < mid → E[k]? = D[k + (m - s)]? := fun k hk hk' => by rw [hE.2]; congr 1; unfold rho; rw [if_neg (by omega), if_pos (by omega)]
  have f3 : ∀ k, mid ≤ k → k < e → E[k]? = D[k - (e - m)]? := fun k hk hk' => by rw [hE.2]; congr 1; unfold rho; rw [if_neg (by omega), if_neg (by omega)]
  have f4 : ∀ k, e ≤ k → E[k]? = D[k]? := fun k hk => by rw [hE.2]; congr 1; unfold rho; rw [if_pos (by omega)]
  refine ⟨?_, ?_, ?_, ?_, ?_, ?_⟩
  · intro i j x y i1 i2 i3 hx hy
    rw [f1 i (by omega)] at hx; rw [f1 j i3] at hy
    exact h1 i j x y i1 i2 (by omega) hx hy
  · intro i j x y i1 i2 i3 hx hy
    rw [f2 i i1 (by omega)] at hx; rw [f2 j (by omega) i3] at hy
    exact h2 _ _ x y (by omega) (by omega) (by omega) hx hy
  · intro i j x y i1 i2 j1 j2 hx hy
    rw [f1 i i2] at hx; rw [f2 j j1 j2] at hy
    exact hc _ _ x y i1 (by omega) (by omega) (by omega) hx hy
  · intro i j x y i1 i2 i3 hx hy
    rw [f3 i i1 (by omega)] at hx; rw [f3 j (by omega) i3] at hy
    exact h1 _ _ x y (by omega) (by omega) (by omega) hx hy
  · intro i j x y i1 i2 i3 hx hy
    rw [f4 i i1] at hx; rw [f4 j (by omega)] at hy
    exact h2 _ _ x y (by omega) (by omega) (by omega) hx hy
  · intro i j x y i1 i2 j1 j2 hx hy
    rw [f3 i i1 i2] at hx; rw [f4 j j1] at hy
    exact hc _ _ x y (by omega) (by omega) (by omega) (by omega) hx hy
/-- Both halves merged: all are. -/
theorem merge_all {α : Type} {lt : α → α → Bool} {D E F G : List (α × Nat)} {a m b mid s e : Nat} (h1 : So lt D a m) (h2 : So lt D m b) (C : CutAt lt D a m b mid s e) (hmid : a ≤ mid) (hmid' : mid ≤ b) (hE : Ix D E (rho s m e))
    (k1 : Ch a mid E F) (g1 : So lt F a mid) (k2 : Ch mid b F G) (g2 : So lt G mid b) : Ch a b D G ∧ So lt G a b := by
  obtain ⟨c1, c2, c3, c4, c5, c6, c7⟩ := C
  refine ⟨((rho_ch hE c1 c2 c3 c4).trans (k1.mono (Nat.le_refl _) hmid')).trans (k2.mono hmid (Nat.le_refl _)), ?_⟩
  intro i j x y i1 i2 i3 hx hy
  by_cases hj : j < mid
  · rw [k2.out i (by omega)] at hx; rw [k2.out j (by omega)] at hy
    exact g1 i j x y i1 i2 hj hx hy
  · by_cases hi : mid ≤ i
    · exact g2 i j x y hi i2 i3 hx hy
    · rw [k2.out i (by omega)] at hx
      obtain ⟨p, p1, p2, p3⟩ := k1.mem i x i1 (by omega) hx
      obtain ⟨q, q1, q2, q3⟩ := k2.mem j y (by omega) i3 hy
      rw [k1.out q (by omega)] at q3
      rw [hE.2] at p3 q3
      by_cases hp : p < s
      · rw [show rho s m e p = p by unfold rho; rw [if_pos (by omega)]] at p3
        by_cases hq : q < e
        · rw [show rho s m e q = q - (e - m) by unfold rho; rw [if_neg (by omega), if_neg (by omega)]] at q3
          exact h1 p _ x y p1 (by omega) (by omega) p3 q3
        · rw [show rho s m e q = q by unfold rho; rw [if_pos (by omega)]] at q3
          exact c6 p q x y p1 hp (by omega) q2 p3 q3
      · rw [show rho s m e p = p + (m - s) by unfold rho; rw [if_neg (by omega), if_pos (by omega)]] at p3
        by_cases hq : q < e
        · rw [show rho s m e q = q - (e - m) by unfold rho; rw [if_neg (by omega), if_neg (by omega)]] at q3
          exact c7 _ _ x y (by omega) (by omega) (by omega) (by omega) p3 q3
        · rw [show rho s m e q = q by unfold rho; rw [if_pos (by omega)]] at q3
          exact h2 _ q x y (by omega) (by omega) (by omega) p3 q3
/-- Where one of both parts is empty, there is nothing to merge. -/
theorem so_empty {α : Type} {lt : α → α → Bool} {D : List (α × Nat)} {a s b : Nat} (h1 : So lt D a s) (h2 : So lt D s b) (h : ¬ (a < s ∧ s < b)) (ha : a ≤ s) (hb : s ≤ b) : So lt D a b := by
  by_cases hs : a < s
  · obtain rfl : s = b := by omega
    exact h1
  · obtain rfl : a = s := by omega
    exact h2

/-- Blocks of so many: behind a each bears its first mark yet; ahead of a blocks are in order. -/
structure Ins {α : Type} (lt : α → α → Bool) (D : List (α × Nat)) (a : Nat) : Prop where
  tag : ∀ i x, D[i]? = some x → i < a → x.2 / 20 = i / 20
  new : ∀ i x, D[i]? = some x → a ≤ i → x.2 = i
  so : ∀ i j x y, i < j → j < a → i / 20 = j / 20 → D[i]? = some x → D[j]? = some y → L2 lt x y
theorem Ins.step {α : Type} {lt : α → α → Bool} {D E : List (α × Nat)} {a b : Nat} (h : Ins lt D a) (ha : a % 20 = 0) (h1 : a ≤ b) (h2 : b ≤ a + 20) (k : Ch a b D E) (s : So lt E a b) : Ins lt E b := by
  refine ⟨fun i x hx hi => ?_, fun i x hx hi => ?_, fun i j x y hij hj hd hx hy => ?_⟩
  · by_cases hia : i < a
    · rw [k.out i (by omega)] at hx
      exact h.tag i x hx hia
    · obtain ⟨j, j1, j2, j3⟩ := k.mem i x (by omega) hi hx
      have := h.new j x j3 j1
      omega
  · rw [k.out i (by omega)] at hx
    exact h.new i x hx (by omega)
  · by_cases hja : j < a
    · rw [k.out i (by omega)] at hx; rw [k.out j (by omega)] at hy
      exact h.so i j x y hij hja hd hx hy
    · exact s i j x y (by omega) hij hj hx hy
/-- Blocks of bs: each is in order, and its marks are its own. -/
structure Blk {α : Type} (lt : α → α → Bool) (D : List (α × Nat)) (bs : Nat) : Prop where
  tag : ∀ i x, D[i]? = some x → x.2 / bs = i / bs
  so : ∀ i j x y, i < j → i / bs = j / bs → D[i]? = some x → D[j]? = some y → L2 lt x y
theorem Ins.blk {α : Type} {lt : α → α → Bool} {D : List (α × Nat)} (h : Ins lt D D.length) : Blk lt D 20 :=
  ⟨fun i x hx => h.tag i x hx (by obtain ⟨hl, _⟩ := List.getElem?_eq_some_iff.1 hx; exact hl), fun i j x y hij hd hx hy => h.so i j x y hij (by obtain ⟨hl, _⟩ := List.getElem?_eq_some_iff.1 hy; exact hl) hd hx hy⟩
/-- While blocks of bs are merged by twos: up to a it is done. -/
structure Mer {α : Type} (lt : α → α → Bool) (D : List (α × Nat)) (bs a : Nat) : Prop where
  tag2 : ∀ i x, D[i]? = some x → i < a → x.2 / (2 * bs) = i / (2 * bs)
  so2 : ∀ i j x y, i < j → j < a → i / (2 * bs) = j / (2 * bs) → D[i]? = some x → D[j]? = some y → L2 lt x y
  tag : ∀ i x, D[i]? = some x → a ≤ i → x.2 / bs = i / bs
  so : ∀ i j x y, i < j → a ≤ i → i / bs = j / bs → D[i]? = some x → D[j]? = some y → L2 lt x y
theorem Mer.start {α : Type} {lt : α → α → Bool} {D : List (α × Nat)} {bs : Nat} (h : Blk lt D bs) : Mer lt D bs 0 :=
  ⟨fun i x _ hi => by omega, fun i j x y _ hj => by omega, fun i x hx _ => h.tag i x hx, fun i j x y hij _ hd hx hy => h.so i j x y hij hd hx hy⟩
theorem div_is {i bs q : Nat} (h1 : q * bs ≤ i) (h2 : i < (q + 1) * bs) : i / bs = q := Nat.div_eq_of_lt_le h1 h2
theorem dbl {a b bs : Nat} (h : a / bs = b / bs) : a / (2 * bs) = b / (2 * bs) := by
  rw [Nat.mul_comm, ← Nat.div_div_eq_div_mul, ← Nat.div_div_eq_div_mul, h]
theorem Mer.asks {α : Type} {lt : α → α → Bool} {D : List (α × Nat)} {bs q b : Nat} (h : Mer lt D bs (2 * bs * q)) (hb0 : 0 < bs) (hb : b ≤ 2 * bs * q + 2 * bs) :
    So lt D (2 * bs * q) (2 * bs * q + bs) ∧ So lt D (2 * bs * q + bs) b ∧ Cr D (2 * bs * q) (2 * bs * q + bs) b := by
  have e0 : 2 * bs * q = (2 * q) * bs := by rw [Nat.mul_assoc, Nat.mul_comm bs q, ← Nat.mul_assoc]
  have e1 : (2 * q + 1) * bs = 2 * bs * q + bs := by rw [Nat.succ_mul, e0]
  have e2 : (2 * q + 1 + 1) * bs = 2 * bs * q + 2 * bs := by rw [Nat.succ_mul, e1]; omega
  have d1 : ∀ i, 2 * bs * q ≤ i → i < 2 * bs * q + bs → i / bs = 2 * q := fun i h1 h2 => div_is (by omega) (by omega)
  have d2 : ∀ i, 2 * bs * q + bs ≤ i → i < 2 * bs * q + 2 * bs → i / bs = 2 * q + 1 := fun i h1 h2 => div_is (by omega) (by omega)
  refine ⟨?_, ?_, ?_⟩
  · intro i j x y i1 i2 i3 hx hy
    exact h.so i j x y i2 i1 (by rw [d1 i i1 (by omega), d1 j (by omega) i3]) hx hy
  · intro i j x y i1 i2 i3 hx hy
    exact h.so i j x y i2 (by omega) (by rw [d2 i i1 (by omega), d2 j (by omega) (by omega)]) hx hy
  · intro i j x y i1 i2 j1 j2 hx hy
    have t1 := h.tag i x hx i1
    have t2 := h.tag j y hy (by omega)
    rw [d1 i i1 i2] at t1
    rw [d2 j j1 (by omega)] at t2
    rcases Nat.lt_or_ge x.2 y.2 with g | g
    · exact g
    · have := Nat.div_le_div_right (c := bs) g
      omega
theorem Mer.step {α : Type} {lt : α → α → Bool} {D E : List (α × Nat)} {bs q b : Nat} (h : Mer lt D bs (2 * bs * q)) (hb0 : 0 < bs) (hb1 : 2 * bs * q ≤ b) (hb : b ≤ 2 * bs * q + 2 * bs) (k : Ch (2 * bs * q) b D E) (s : So lt E (2 * bs * q) b) : Mer lt E bs b := by
  have d : ∀ i, 2 * bs * q ≤ i → i < b → i / (2 * bs) = q := fun i h1 h2 => div_is (by rw [Nat.mul_comm]; exact h1) (by rw [Nat.succ_mul, Nat.mul_comm q]; omega)
  refine ⟨fun i x hx hi => ?_, fun i j x y hij hj hd hx hy => ?_, fun i x hx hi => ?_, fun i j x y hij hi hd hx hy => ?_⟩
  · by_cases hia : i < 2 * bs * q
    · rw [k.out i (by omega)] at hx
      exact h.tag2 i x hx hia
    · obtain ⟨j, j1, j2, j3⟩ := k.mem i x (by omega) hi hx
      have := dbl (h.tag j x j3 j1)
      rw [this, d j j1 j2, d i (by omega) hi]
  · by_cases hja : j < 2 * bs * q
    · rw [k.out i (by omega)] at hx; rw [k.out j (by omega)] at hy
      exact h.so2 i j x y hij hja hd hx hy
    · have hia : 2 * bs * q ≤ i := by
        rcases Nat.lt_or_ge i (2 * bs * q) with g | g
        · have g1 : i / (2 * bs) < q := (Nat.div_lt_iff_lt_mul (by omega)).2 (by rw [Nat.mul_comm]; exact g)
          have g2 := d j (by omega) hj
          omega
        · exact g
      exact s i j x y hia hij hj hx hy
  · rw [k.out i (by omega)] at hx
    exact h.tag i x hx (by omega)
  · rw [k.out i (by omega)] at hx; rw [k.out j (by omega)] at hy
    exact h.so i j x y hij (by omega) hd hx hy
/-- The rest is one block of bs: nothing is to merge. -/
theorem Mer.rest {α : Type} {lt : α → α → Bool} {D : List (α × Nat)} {bs q : Nat} (h : Mer lt D bs (2 * bs * q)) (hb0 : 0 < bs) (hl : D.length ≤ 2 * bs * q + bs) : Blk lt D (2 * bs) := by
  have e0 : 2 * bs * q = (2 * q) * bs := by rw [Nat.mul_assoc, Nat.mul_comm bs q, ← Nat.mul_assoc]
  have e1 : (2 * q + 1) * bs = 2 * bs * q + bs := by rw [Nat.succ_mul, e0]
  have d1 : ∀ i, 2 * bs * q ≤ i → i < 2 * bs * q + bs → i / bs = 2 * q := fun i h1 h2 => div_is (by omega) (by omega)
  refine ⟨fun i x hx => ?_, fun i j x y hij hd hx hy => ?_⟩
  · by_cases hia : i < 2 * bs * q
    · exact h.tag2 i x hx hia
    · exact dbl (h.tag i x hx (by omega))
  · obtain ⟨hjl, _⟩ := List.getElem?_eq_some_iff.1 hy
    by_cases hja : j < 2 * bs * q
    · exact h.so2 i j x y hij hja hd hx hy
    · have hia : 2 * bs * q ≤ i := by
        rcases Nat.lt_or_ge i (2 * bs * q) with g | g
        · have g1 : i / (2 * bs) < q := (Nat.div_lt_iff_lt_mul (by omega)).2 (by rw [Nat.mul_comm]; exact g)
          have g2 : q ≤ j / (2 * bs) := (Nat.le_div_iff_mul_le (by omega)).2 (by rw [Nat.mul_comm]; omega)
          omega
        · exact g
      exact h.so i j x y hij hia (by rw [d1 i hia (by omega), d1 j (by omega) (by omega)]) hx hy
theorem Mer.blk {α : Type} {lt : α → α → Bool} {D : List (α × Nat)} {bs : Nat} (h : Mer lt D bs D.length) : Blk lt D (2 * bs) :=
  ⟨fun i x hx => h.tag2 i x hx (by obtain ⟨hl, _⟩ := List.getElem?_eq_some_iff.1 hx; exact hl), fun i j x y hij hd hx hy => h.so2 i j x y hij (by obtain ⟨hl, _⟩ := List.getElem?_eq_some_iff.1 hy; exact hl) hd hx hy⟩
theorem Blk.all {α : Type} {lt : α → α → Bool} {D : List (α × Nat)} {bs : Nat} (h : Blk lt D bs) (hl : D.length ≤ bs) : So lt D 0 D.length := by
  intro i j x y _ hij hj hx hy
  exact h.so i j x y hij (by rw [Nat.div_eq_of_lt (by omega), Nat.div_eq_of_lt (by omega)]) hx hy
end Go.Proofs.Ytehnjanllemnlaa
