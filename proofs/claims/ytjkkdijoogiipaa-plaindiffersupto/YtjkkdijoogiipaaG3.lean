/- Texts of ours, one behind the other: SortPlain, KeysPlain. -/
import Derived.WalkKit
/- Sorting in place by swaps, as plain lists: each thing bears its first place as a mark, so that the order is strict and total; insertion, rotation and the symmetric merge. Nothing here speaks of the program. -/
namespace Go.Proofs.Ytjkkdijoogiipaa

/-- What is asked of an order. -/
structure Ord2 {α : Type} (lt : α → α → Bool) : Prop where
  irr : ∀ x, lt x x = false
  tr : ∀ x y z, lt x y = true → lt y z = true → lt x z = true
  inc : ∀ x y z, lt x y = false → lt y z = false → lt x z = false
/-- By the order, alike ones by their marks. -/
def L2 {α : Type} (lt : α → α → Bool) (x y : α × Nat) : Prop := lt x.1 y.1 = true ∨ (lt y.1 x.1 = false ∧ x.2 < y.2)
theorem L2.trans {α : Type} {lt : α → α → Bool} (O : Ord2 lt) {x y z : α × Nat} (h : L2 lt x y) (h' : L2 lt y z) : L2 lt x z := by
  have bt : ∀ a b, lt a b = true ∨ lt a b = false := fun a b => by cases lt a b <;> simp
  rcases h with h | ⟨h, k⟩
  · rcases h' with h' | ⟨h', k'⟩
    · exact Or.inl (O.tr _ _ _ h h')
    · rcases bt x.1 z.1 with g | g
      · exact Or.inl g
      · have := O.inc _ _ _ g h'; rw [h] at this; cases this
  · rcases h' with h' | ⟨h', k'⟩
    · rcases bt x.1 z.1 with g | g
      · exact Or.inl g
      · have := O.inc _ _ _ h g; rw [h'] at this; cases this
    · exact Or.inr ⟨O.inc _ _ _ h' h, by omega⟩
theorem L2.irr {α : Type} {lt : α → α → Bool} (O : Ord2 lt) {x : α × Nat} (h : L2 lt x x) : False := by
  rcases h with h | ⟨_, h⟩
  · rw [O.irr] at h; cases h
  · omega
theorem L2.of_yes {α : Type} {lt : α → α → Bool} {x y : α × Nat} (h : lt x.1 y.1 = true) : L2 lt x y := Or.inl h
theorem L2.of_no {α : Type} {lt : α → α → Bool} {x y : α × Nat} (h : lt y.1 x.1 = false) (ht : x.2 < y.2) : L2 lt x y := Or.inr ⟨h, ht⟩

/-- From a up to b they stand in order. -/
def So {α : Type} (lt : α → α → Bool) (D : List (α × Nat)) (a b : Nat) : Prop := ∀ i j x y, a ≤ i → i < j → j < b → D[i]? = some x → D[j]? = some y → L2 lt x y
/-- The marks ahead of m are below those from m on. -/
def Cr {α : Type} (D : List (α × Nat)) (a m b : Nat) : Prop := ∀ i j x y, a ≤ i → i < m → m ≤ j → j < b → D[i]? = some x → D[j]? = some y → x.2 < y.2
/-- E is D, but for the order from a up to b. -/
structure Ch {β : Type} (a b : Nat) (D E : List β) : Prop where
  len : E.length = D.length
  out : ∀ i, i < a ∨ b ≤ i → E[i]? = D[i]?
  mem : ∀ i x, a ≤ i → i < b → E[i]? = some x → ∃ j, a ≤ j ∧ j < b ∧ D[j]? = some x
  perm : E.Perm D
theorem Ch.refl {β : Type} (a b : Nat) (D : List β) : Ch a b D D := ⟨rfl, fun _ _ => rfl, fun i _ h1 h2 h => ⟨i, h1, h2, h⟩, List.Perm.refl _⟩
theorem Ch.mono {β : Type} {a b a' b' : Nat} {D E : List β} (h : Ch a b D E) (ha : a' ≤ a) (hb : b ≤ b') : Ch a' b' D E := by
  refine ⟨h.len, fun i hi => h.out i (by omega), fun i x h1 h2 hx => ?_, h.perm⟩
  by_cases hi : a ≤ i ∧ i < b
  · obtain ⟨j, j1, j2, j3⟩ := h.mem i x hi.1 hi.2 hx
    exact ⟨j, by omega, by omega, j3⟩
  · exact ⟨i, h1, h2, by rw [← h.out i (by omega)]; exact hx⟩
theorem Ch.trans {β : Type} {a b : Nat} {D E F : List β} (h : Ch a b D E) (h' : Ch a b E F) : Ch a b D F := by
  refine ⟨h'.len.trans h.len, fun i hi => (h'.out i hi).trans (h.out i hi), fun i x h1 h2 hx => ?_, h'.perm.trans h.perm⟩
  obtain ⟨j, j1, j2, j3⟩ := h'.mem i x h1 h2 hx
  exact h.mem j x j1 j2 j3
/-- E is D with its places turned by f. -/
def Ix {β : Type} (D E : List β) (f : Nat → Nat) : Prop := E.Perm D ∧ ∀ k, E[k]? = D[f k]?
theorem Ix.len {β : Type} {D E : List β} {f : Nat → Nat} (h : Ix D E f) : E.length = D.length := h.1.length_eq
theorem Ix.refl {β : Type} (D : List β) : Ix D D (fun k => k) := ⟨List.Perm.refl _, fun _ => rfl⟩
theorem Ix.congr {β : Type} {D E : List β} {f g : Nat → Nat} (h : Ix D E f) (e : ∀ k, f k = g k) : Ix D E g := ⟨h.1, fun k => by rw [h.2, e]⟩
theorem Ix.ch {β : Type} {D E : List β} {f : Nat → Nat} {a b : Nat} (h : Ix D E f) (ho : ∀ k, k < a ∨ b ≤ k → f k = k) (hi : ∀ k, a ≤ k → k < b → a ≤ f k ∧ f k < b) : Ch a b D E :=
  ⟨h.len, fun i q => by rw [h.2, ho i q], fun i x h1 h2 hx => ⟨f i, (hi i h1 h2).1, (hi i h1 h2).2, by rw [← h.2]; exact hx⟩, h.1⟩
/-- Two places swapped. -/
def tau (i j k : Nat) : Nat := if k = i then j else if k = j then i else k
def swp {β : Type} (D : List β) (i j : Nat) (hi : i < D.length) (hj : j < D.length) : List β := (D.set i D[j]).set j D[i]
theorem swp_ix {β : Type} (D : List β) (i j : Nat) (hi : i < D.length) (hj : j < D.length) : Ix D (swp D i j hi hj) (tau i j) := by
  refine ⟨List.set_set_perm hi hj, fun k => ?_⟩
  unfold swp tau
  rw [List.getElem?_set]
  by_cases h1 : j = k
  · subst h1
    rw [if_pos rfl, if_pos (by simpa using hj)]
    by_cases h2 : j = i
    · subst h2; rw [if_pos rfl]; simp [hi]
    · rw [if_neg h2, if_pos rfl]; simp [hi]
  · rw [if_neg h1, List.getElem?_set]
    by_cases h2 : i = k
    · subst h2; rw [if_pos rfl, if_pos hi, if_pos rfl]; simp [hj]
    · rw [if_neg h2, if_neg (fun e => h2 e.symm), if_neg (fun e => h1 e.symm)]
theorem Ix.swap {β : Type} {D E : List β} {f g : Nat → Nat} (h : Ix D E f) (i j : Nat) (hi : i < E.length) (hj : j < E.length) (e : ∀ k, f (tau i j k) = g k) : Ix D (swp E i j hi hj) g := by
  obtain ⟨p, q⟩ := swp_ix E i j hi hj
  exact ⟨p.trans h.1, fun k => by rw [q, h.2, e]⟩
theorem swp_len {β : Type} (D : List β) (i j : Nat) (hi : i < D.length) (hj : j < D.length) : (swp D i j hi hj).length = D.length := (swp_ix D i j hi hj).len
theorem swp_map {β γ : Type} (f : β → γ) (D : List β) (i j : Nat) (hi : i < D.length) (hj : j < D.length) : (swp D i j hi hj).map f = swp (D.map f) i j (by simpa using hi) (by simpa using hj) := by
  unfold swp
  simp [List.map_set]
theorem Ix.trans {β : Type} {D E F : List β} {f g : Nat → Nat} (h : Ix D E f) (h' : Ix E F g) : Ix D F (fun k => f (g k)) := ⟨h'.1.trans h.1, fun k => by rw [h'.2, h.2]⟩

/-- The turns of places: n from x on with n from y on; the first block behind the second; one down, one up. -/
def sig (x y n k : Nat) : Nat := if x ≤ k ∧ k < x + n then k - x + y else if y ≤ k ∧ k < y + n then k - y + x else k
def rho (a m b k : Nat) : Nat := if k < a ∨ b ≤ k then k else if k < a + (b - m) then k + (m - a) else k - (b - m)
def dn (i m k : Nat) : Nat := if k < i ∨ m < k then k else if k = i then m else k - 1
def upm (a i k : Nat) : Nat := if k < a ∨ i ≤ k then k else if k + 1 = i then a else k + 1
theorem sig_zero (x y k : Nat) : sig x y 0 k = k := by unfold sig; split <;> (try split) <;> omega
theorem sig_step (x y n k : Nat) (h : x + n < y) : sig x y n (tau (x + n) (y + n) k) = sig x y (n + 1) k := by unfold sig tau; (repeat' split) <;> omega
theorem dn_zero (m k : Nat) : dn m m k = k := by unfold dn; (repeat' split) <;> omega
theorem dn_step (j m k : Nat) (h : j < m) : dn (j + 1) m (tau (j + 1) j k) = dn j m k := by unfold dn tau; (repeat' split) <;> omega
theorem upm_zero (a k : Nat) : upm a (a + 1) k = k := by unfold upm; (repeat' split) <;> omega
theorem upm_step (a i k : Nat) (h : a ≤ i) : upm a (i + 1) (tau i (i + 1) k) = upm a (i + 2) k := by unfold upm tau; (repeat' split) <;> omega
theorem rho_left (m i j k : Nat) (hj : j < i) (hi : i ≤ m) : sig (m - i) m j (rho (m - (i - j)) m (m + j) k) = rho (m - i) m (m + j) k := by unfold sig rho; (repeat' split) <;> omega
theorem rho_right (m i j k : Nat) (hj : i < j) (hi : i ≤ m) : sig (m - i) (m + j - i) i (rho (m - i) m (m + (j - i)) k) = rho (m - i) m (m + j) k := by unfold sig rho; (repeat' split) <;> omega
theorem rho_last (m i k : Nat) (hi : i ≤ m) : sig (m - i) m i k = rho (m - i) m (m + i) k := by unfold sig rho; (repeat' split) <;> omega
theorem rho_id (s m e k : Nat) (h : s = m ∨ e = m) (h1 : s ≤ m) (h2 : m ≤ e) : rho s m e k = k := by unfold rho; (repeat' split) <;> omega

/-- One that is put down to its place among ordered ones. -/
theorem So.down {α : Type} {lt : α → α → Bool} {D E : List (α × Nat)} {a i m : Nat} (h : So lt D a m) (hE : Ix D E (dn i m)) (hai : a ≤ i) (hi : i ≤ m)
    (hlo : ∀ k x y, a ≤ k → k < i → D[k]? = some x → D[m]? = some y → L2 lt x y) (hhi : ∀ k x y, i ≤ k → k < m → D[m]? = some x → D[k]? = some y → L2 lt x y) : So lt E a (m + 1) := by
  intro p q x y h1 h2 h3 hp hq
  rw [hE.2] at hp hq
  by_cases c1 : q < i
  · have e1 : dn i m p = p := by unfold dn; rw [if_pos (by omega)]
    have e2 : dn i m q = q := by unfold dn; rw [if_pos (by omega)]
    rw [e1] at hp; rw [e2] at hq
    exact h p q x y h1 h2 (by omega) hp hq
  · by_cases c2 : p < i
    · have e1 : dn i m p = p := by unfold dn; rw [if_pos (by omega)]
      rw [e1] at hp
      by_cases c3 : q = i
      · have e2 : dn i m q = m := by unfold dn; rw [if_neg (by omega), if_pos c3]
        rw [e2] at hq
        exact hlo p x y h1 c2 hp hq
      · have e2 : dn i m q = q - 1 := by unfold dn; rw [if_neg (by omega), if_neg c3]
        rw [e2] at hq
        exact h p (q - 1) x y h1 (by omega) (by omega) hp hq
    · have e2 : dn i m q = q - 1 := by unfold dn; rw [if_neg (by omega), if_neg (by omega)]
      rw [e2] at hq
      by_cases c3 : p = i
      · have e1 : dn i m p = m := by unfold dn; rw [if_neg (by omega), if_pos c3]
        rw [e1] at hp
        exact hhi (q - 1) x y (by omega) (by omega) hp hq
      · have e1 : dn i m p = p - 1 := by unfold dn; rw [if_neg (by omega), if_neg c3]
        rw [e1] at hp
        exact h (p - 1) (q - 1) x y (by omega) (by omega) (by omega) hp hq
/-- One that is put up to its place. -/
theorem So.up {α : Type} {lt : α → α → Bool} {D E : List (α × Nat)} {a i b : Nat} (h : So lt D (a + 1) b) (hE : Ix D E (upm a i)) (hi : a < i) (hib : i ≤ b)
    (hlo : ∀ k x y, a + 1 ≤ k → k < i → D[k]? = some x → D[a]? = some y → L2 lt x y) (hhi : ∀ k x y, i ≤ k → k < b → D[a]? = some x → D[k]? = some y → L2 lt x y) : So lt E a b := by
  intro p q x y h1 h2 h3 hp hq
  rw [hE.2] at hp hq
  by_cases c1 : i ≤ p
  · have e1 : upm a i p = p := by unfold upm; rw [if_pos (by omega)]
    have e2 : upm a i q = q := by unfold upm; rw [if_pos (by omega)]
    rw [e1] at hp; rw [e2] at hq
    exact h p q x y (by omega) h2 h3 hp hq
  · by_cases c2 : i ≤ q
    · have e2 : upm a i q = q := by unfold upm; rw [if_pos (by omega)]
      rw [e2] at hq
      by_cases c3 : p + 1 = i
      · have e1 : upm a i p = a := by unfold upm; rw [if_neg (by omega), if_pos c3]
        rw [e1] at hp
        exact hhi q x y c2 h3 hp hq
      · have e1 : upm a i p = p + 1 := by unfold upm; rw [if_neg (by omega), if_neg c3]
        rw [e1] at hp
        exact h (p + 1) q x y (by omega) (by omega) h3 hp hq
    · have e1 : upm a i p = p + 1 := by unfold upm; rw [if_neg (by omega), if_neg (by omega)]
      rw [e1] at hp
      by_cases c3 : q + 1 = i
      · have e2 : upm a i q = a := by unfold upm; rw [if_neg (by omega), if_pos c3]
        rw [e2] at hq
        exact hlo (p + 1) x y (by omega) (by omega) hp hq
      · have e2 : upm a i q = q + 1 := by unfold upm; rw [if_neg (by omega), if_neg c3]
        rw [e2] at hq
        exact h (p + 1) (q + 1) x y (by omega) (by omega) (by omega) hp hq
theorem dn_ch {β : Type} {D E : List β} {a i m b : Nat} (h : Ix D E (dn i m)) (h1 : a ≤ i) (h2 : i ≤ m) (h3 : m < b) : Ch a b D E :=
  h.ch (fun k hk => by unfold dn; (repeat' split) <;> omega) (fun k k1 k2 => by unfold dn; (repeat' split) <;> omega)
theorem upm_ch {β : Type} {D E : List β} {a i b : Nat} (h : Ix D E (upm a i)) (h1 : a < i) (h2 : i ≤ b) : Ch a b D E :=
  h.ch (fun k hk => by unfold upm; (repeat' split) <;> omega) (fun k k1 k2 => by unfold upm; (repeat' split) <;> omega)
theorem rho_ch {β : Type} {D E : List β} {s m e a b : Nat} (h : Ix D E (rho s m e)) (h1 : a ≤ s) (h2 : s ≤ m) (h3 : m ≤ e) (h4 : e ≤ b) : Ch a b D E :=
  h.ch (fun k hk => by unfold rho; (repeat' split) <;> omega) (fun k k1 k2 => by unfold rho; (repeat' split) <;> omega)

/-- What a search by halves for the cut of a merge has found. -/
structure CutAt {α : Type} (lt : α → α → Bool) (D : List (α × Nat)) (a m b mid s e : Nat) : Prop where
  as : a ≤ s
  sm : s ≤ m
  me : m ≤ e
  eb : e ≤ b
  sum : s + e = mid + m
  lo : ∀ i j x y, a ≤ i → i < s → e ≤ j → j < b → D[i]? = some x → D[j]? = some y → L2 lt x y
  hi : ∀ i j x y, m ≤ i → i < e → s ≤ j → j < m → D[i]? = some x → D[j]? = some y → L2 lt x y
/-- The cut out of what the search asked. -/
theorem cut_of {α : Type} {lt : α → α → Bool} (O : Ord2 lt) {D : List (α × Nat)} {a m b mid s lo hi : Nat} (h1 : So lt D a m) (h2 : So lt D m b) (hl : b ≤ D.length) (hm : a < m) (hb : m < b) (hmid : mid = (a + b) / 2)
    (hlo : lo = if mid < m then mid + m - b else a) (hhi : hi = if mid < m then mid else m) (hs1 : lo ≤ s) (hs2 : s ≤ hi)
    (q1 : ∀ c x y, lo ≤ c → c < s → D[c]? = some x → D[mid + m - 1 - c]? = some y → L2 lt x y) (q2 : ∀ c x y, s ≤ c → c < hi → D[mid + m - 1 - c]? = some x → D[c]? = some y → L2 lt x y) :
    CutAt lt D a m b mid s (mid + m - s) := by
  have hw : (mid < m ∧ lo = mid + m - b ∧ hi = mid) ∨ (m ≤ mid ∧ lo = a ∧ hi = m) := by
    rcases Nat.lt_or_ge mid m with g | g
    · rw [if_pos g] at hlo hhi; exact Or.inl ⟨g, hlo, hhi⟩
    · rw [if_neg (by omega)] at hlo hhi; exact Or.inr ⟨g, hlo, hhi⟩
  clear hlo hhi
  have e1 : a ≤ s ∧ s ≤ m ∧ m ≤ mid + m - s ∧ mid + m - s ≤ b := by omega
  obtain ⟨e1, e2, e3, e4⟩ := e1
  refine ⟨e1, e2, e3, e4, by omega, ?_, ?_⟩
  · intro i j x y i1 i2 j1 j2 hx hy
    by_cases hz : s = lo
    · exfalso
      omega
    · have hlt : s - 1 < D.length := by omega
      have hlt' : mid + m - s < D.length := by omega
      have hc := q1 (s - 1) D[s - 1] D[mid + m - s] (by omega) (by omega) (List.getElem?_eq_getElem hlt) (by rw [show mid + m - 1 - (s - 1) = mid + m - s by omega]; exact List.getElem?_eq_getElem hlt')
      have ha : L2 lt x D[mid + m - s] := by
        by_cases hi' : i = s - 1
        · subst hi'
          rw [List.getElem?_eq_getElem hlt, Option.some.injEq] at hx
          rw [← hx]; exact hc
        · exact (h1 i (s - 1) x _ i1 (by omega) (by omega) hx (List.getElem?_eq_getElem hlt)).trans O hc
      by_cases hj' : j = mid + m - s
      · subst hj'
        rw [List.getElem?_eq_getElem hlt', Option.some.injEq] at hy
        rw [← hy]; exact ha
      · exact ha.trans O (h2 (mid + m - s) j _ y e3 (by omega) j2 (List.getElem?_eq_getElem hlt') hy)
  · intro i j x y i1 i2 j1 j2 hx hy
    by_cases hz : s = hi
    · exfalso
      omega
    · have hlt : s < D.length := by omega
      have hlt' : mid + m - 1 - s < D.length := by omega
      have hc := q2 s D[mid + m - 1 - s] D[s] (Nat.le_refl _) (by omega) (List.getElem?_eq_getElem hlt') (List.getElem?_eq_getElem hlt)
      have ha : L2 lt x D[s] := by
        by_cases hi' : i = mid + m - 1 - s
        · subst hi'
          rw [List.getElem?_eq_getElem hlt', Option.some.injEq] at hx
          rw [← hx]; exact hc
        · exact (h2 i (mid + m - 1 - s) x _ i1 (by omega) (by omega) hx (List.getElem?_eq_getElem hlt')).trans O hc
      by_cases hj' : j = s
      · subst hj'
        rw [List.getElem?_eq_getElem hlt, Option.some.injEq] at hy
        rw [← hy]; exact ha
      · exact ha.trans O (h1 s j _ y e1 (by omega) j2 (List.getElem?_eq_getElem hlt) hy)
/-- Behind the rotation both halves are as a merge asks for. -/
theorem rho_left_so {α : Type} {lt : α → α → Bool} {D E : List (α × Nat)} {a m b mid s e : Nat} (h1 : So lt D a m) (h2 : So lt D m b) (hc : Cr D a m b) (C : CutAt lt D a m b mid s e) (hE : Ix D E (rho s m e)) :
    So lt E a s ∧ So lt E s mid ∧ Cr E a s mid ∧ So lt E mid e ∧ So lt E e b ∧ Cr E mid e b := by
  obtain ⟨c1, c2, c3, c4, c5, _, _⟩ := C
  have f1 : ∀ k, k < s → E[k]? = D[k]? := fun k hk => by rw [hE.2]; congr 1; unfold rho; rw [if_pos (by omega)]
  have f2 : ∀ k, s ≤ k → k < mid → E[k]? = D[k + (m - s)]? := fun k hk hk' => by rw [hE.2]; congr 1; unfold rho; rw [if_neg (by omega), if_pos (by omega)]
  have f3 : ∀ k, mid ≤ k → k < e → E[k]? = D[k - (e - m)]? := fun k hk hk' => by rw [hE.2]; congr 1; unfold rho; rw [if_neg (by omega), if_neg (by omega)]
  have f4 : ∀ k, e ≤ k → E[k]? = D[k]? := fun k hk => by rw [hE.2]; congr 1; unfold rho; rw [if_pos (by omega)]
  refine ⟨?_, ?_, ?_, ?_, ?_, ?_⟩
  · intro i j x y i1 i2 i3 hx hy
    rw [f1 i (by omega)] at hx; rw [f1 j i3] at hy
    exact h1 i j x y i1 i2 (by omega) hx hy
  · intro i j x y i1 i2 i3 hx hy
    rw [f2 i i1 (by omega)] at hx; rw [f2 j (by omega) i3] at hy
    exact h2 _ _ x y (by omega) (by omega) (by omega) hx hy
  · intro i j x y i1 i2 j1 j2 hx hy
    rw [f1 i i2] at hx; rw [f2 j j1 j2] at hy
    exact hc _ _ x y i1 (by omega) (by omega) (by omega) hx hy
  · intro i j x y i1 i2 i3 hx hy
    rw [f3 i i1 (by omega)] at hx; rw [f3 j (by omega) i3] at hy
    exact h1 _ _ x y (by omega) (by omega) (by omega) hx hy
  · intro i j x y i1 i2 i3 hx hy
    rw [f4 i i1] at hx; rw [f4 j (by omega)] at hy
    exact h2 _ _ x y (by omega) (by omega) (by omega) hx hy
  · intro i j x y i1 i2 j1 j2 hx hy
    rw [f3 i i1 i2] at hx; rw [f4 j j1] at hy
    exact hc _ _ x y (by omega) (by omega) (by omega) (by omega) hx hy
/-- Both halves merged: all are. -/
theorem merge_all {α : Type} {lt : α → α → Bool} {D E F G : List (α × Nat)} {a m b mid s e : Nat} (h1 : So lt D a m) (h2 : So lt D m b) (C : CutAt lt D a m b mid s e) (hmid : a ≤ mid) (hmid' : mid ≤ b) (hE : Ix D E (rho s m e))
    (k1 : Ch a mid E F) (g1 : So lt F a mid) (k2 : Ch mid b F G) (g2 : So lt G mid b) : Ch a b D G ∧ So lt G a b := by
  obtain ⟨c1, c2, c3, c4, c5, c6, c7⟩ := C
  refine ⟨((rho_ch hE c1 c2 c3 c4).trans (k1.mono (Nat.le_refl _) hmid')).trans (k2.mono hmid (Nat.le_refl _)), ?_⟩
  intro i j x y i1 i2 i3 hx hy
  by_cases hj : j < mid
  · rw [k2.out i (by omega)] at hx; rw [k2.out j (by omega)] at hy
    exact g1 i j x y i1 i2 hj hx hy
  · by_cases hi : mid ≤ i
    · exact g2 i j x y hi i2 i3 hx hy
    · rw [k2.out i (by omega)] at hx
      obtain ⟨p, p1, p2, p3⟩ := k1.mem i x i1 (by omega) hx
      obtain ⟨q, q1, q2, q3⟩ := k2.mem j y (by omega) i3 hy
      rw [k1.out q (by omega)] at q3
      rw [hE.2] at p3 q3
      by_cases hp : p < s
      · rw [show rho s m e p = p by unfold rho; rw [if_pos (by omega)]] at p3
        by_cases hq : q < e
        · rw [show rho s m e q = q - (e - m) by unfold rho; rw [if_neg (by omega), if_neg (by omega)]] at q3
          exact h1 p _ x y p1 (by omega) (by omega) p3 q3
        · rw [show rho s m e q = q by unfold rho; rw [if_pos (by omega)]] at q3
          exact c6 p q x y p1 hp (by omega) q2 p3 q3
      · rw [show rho s m e p = p + (m - s) by unfold rho; rw [if_neg (by omega), if_pos (by omega)]] at p3
        by_cases hq : q < e
        · rw [show rho s m e q = q - (e - m) by unfold rho; rw [if_neg (by omega), if_neg (by omega)]] at q3
          exact c7 _ _ x y (by omega) (by omega) (by omega) (by omega) p3 q3
        · rw [show rho s m e q = q by unfold rho; rw [if_pos (by omega)]] at q3
          exact h2 _ q x y (by omega) (by omega) (by omega) p3 q3
/-- Where one of both parts is empty, there is nothing to merge. -/
theorem so_empty {α : Type} {lt : α → α → Bool} {D : List (α × Nat)} {a s b : Nat} (h1 : So lt D a s) (h2 : So lt D s b) (h : ¬ (a < s ∧ s < b)) (ha : a ≤ s) (hb : s ≤ b) : So lt D a b := by
  by_cases hs : a < s
  · obtain rfl : s = b := by omega
    exact h1
  · obtain rfl : a = s := by omega
    exact h2

/-- Blocks of so many: behind a each bears its first mark yet; ahead of a blocks are in order. -/
structure Ins {α : Type} (lt : α → α → Bool) (D : List (α × Nat)) (a : Nat) : Prop where
  tag : ∀ i x, D[i]? = some x → i < a → x.2 / 20 = i / 20
  new : ∀ i x, D[i]? = some x → a ≤ i → x.2 = i
  so : ∀ i j x y, i < j → j < a → i / 20 = j / 20 → D[i]? = some x → D[j]? = some y → L2 lt x y
theorem Ins.step {α : Type} {lt : α → α → Bool} {D E : List (α × Nat)} {a b : Nat} (h : Ins lt D a) (ha : a % 20 = 0) (h1 : a ≤ b) (h2 : b ≤ a + 20) (k : Ch a b D E) (s : So lt E a b) : Ins lt E b := by
  refine ⟨fun i x hx hi => ?_, fun i x hx hi => ?_, fun i j x y hij hj hd hx hy => ?_⟩
  · by_cases hia : i < a
    · rw [k.out i (by omega)] at hx
      exact h.tag i x hx hia
    · obtain ⟨j, j1, j2, j3⟩ := k.mem i x (by omega) hi hx
      have := h.new j x j3 j1
      omega
  · rw [k.out i (by omega)] at hx
    exact h.new i x hx (by omega)
  · by_cases hja : j < a
    · rw [k.out i (by omega)] at hx; rw [k.out j (by omega)] at hy
      exact h.so i j x y hij hja hd hx hy
    · exact s i j x y (by omega) hij hj hx hy
/-- Blocks of bs: each is in order, and its marks are its own. -/
structure Blk {α : Type} (lt : α → α → Bool) (D : List (α × Nat)) (bs : Nat) : Prop where
  tag : ∀ i x, D[i]? = some x → x.2 / bs = i / bs
  so : ∀ i j x y, i < j → i / bs = j / bs → D[i]? = some x → D[j]? = some y → L2 lt x y
theorem Ins.blk {α : Type} {lt : α → α → Bool} {D : List (α × Nat)} (h : Ins lt D D.length) : Blk lt D 20 :=
  ⟨fun i x hx => h.tag i x hx (by obtain ⟨hl, _⟩ := List.getElem?_eq_some_iff.1 hx; exact hl), fun i j x y hij hd hx hy => h.so i j x y hij (by obtain ⟨hl, _⟩ := List.getElem?_eq_some_iff.1 hy; exact hl) hd hx hy⟩
/-- While blocks of bs are merged by twos: up to a it is done. -/
structure Mer {α : Type} (lt : α → α → Bool) (D : List (α × Nat)) (bs a : Nat) : Prop where
  tag2 : ∀ i x, D[i]? = some x → i < a → x.2 / (2 * bs) = i / (2 * bs)
  so2 : ∀ i j x y, i < j → j < a → i / (2 * bs) = j / (2 * bs) → D[i]? = some x → D[j]? = some y → L2 lt x y
  tag : ∀ i x, D[i]? = some x → a ≤ i → x.2 / bs = i / bs
  so : ∀ i j x y, i < j → a ≤ i → i / bs = j / bs → D[i]? = some x → D[j]? = some y → L2 lt x y
theorem Mer.start {α : Type} {lt : α → α → Bool} {D : List (α × Nat)} {bs : Nat} (h : Blk lt D bs) : Mer lt D bs 0 :=
  ⟨fun i x _ hi => by omega, fun i j x y _ hj => by omega, fun i x hx _ => h.tag i x hx, fun i j x y hij _ hd hx hy => h.so i j x y hij hd hx hy⟩
theorem div_is {i bs q : Nat} (h1 : q * bs ≤ i) (h2 : i < (q + 1) * bs) : i / bs = q := Nat.div_eq_of_lt_le h1 h2
theorem dbl {a b bs : Nat} (h : a / bs = b / bs) : a / (2 * bs) = b / (2 * bs) := by
  rw [Nat.mul_comm, ← Nat.div_div_eq_div_mul, ← Nat.div_div_eq_div_mul, h]
theorem Mer.asks {α : Type} {lt : α → α → Bool} {D : List (α × Nat)} {bs q b : Nat} (h : Mer lt D bs (2 * bs * q)) (hb0 : 0 < bs) (hb : b ≤ 2 * bs * q + 2 * bs) :
    So lt D (2 * bs * q) (2 * bs * q + bs) ∧ So lt D (2 * bs * q + bs) b ∧ Cr D (2 * bs * q) (2 * bs * q + bs) b := by
  have e0 : 2 * bs * q = (2 * q) * bs := by rw [Nat.mul_assoc, Nat.mul_comm bs q, ← Nat.mul_assoc]
  have e1 : (2 * q + 1) * bs = 2 * bs * q + bs := by rw [Nat.succ_mul, e0]
  have e2 : (2 * q + 1 + 1) * bs = 2 * bs * q + 2 * bs := by rw [Nat.succ_mul, e1]; omega
  have d1 : ∀ i, 2 * bs * q ≤ i → i < 2 * bs * q + bs → i / bs = 2 * q := fun i h1 h2 => div_is (by omega) (by omega)
  have d2 : ∀ i, 2 * bs * q + bs ≤ i → i < 2 * bs * q + 2 * bs → i / bs = 2 * q + 1 := fun i h1 h2 => div_is (by omega) (by omega)
  refine ⟨?_, ?_, ?_⟩
  · intro i j x y i1 i2 i3 hx hy
    exact h.so i j x y i2 i1 (by rw [d1 i i1 (by omega), d1 j (by omega) i3]) hx hy
  · intro i j x y i1 i2 i3 hx hy
    exact h.so i j x y i2 (by omega) (by rw [d2 i i1 (by omega), d2 j (by omega) (by omega)]) hx hy
  · intro i j x y i1 i2 j1 j2 hx hy
    have t1 := h.tag i x hx i1
    have t2 := h.tag j y hy (by omega)
    rw [d1 i i1 i2] at t1
    rw [d2 j j1 (by omega)] at t2
    rcases Nat.lt_or_ge x.2 y.2 with g | g
    · exact g
    · have := Nat.div_le_div_right (c := bs) g
      omega
theorem Mer.step {α : Type} {lt : α → α → Bool} {D E : List (α × Nat)} {bs q b : Nat} (h : Mer lt D bs (2 * bs * q)) (hb0 : 0 < bs) (hb1 : 2 * bs * q ≤ b) (hb : b ≤ 2 * bs * q + 2 * bs) (k : Ch (2 * bs * q) b D E) (s : So lt E (2 * bs * q) b) : Mer lt E bs b := by
  have d : ∀ i, 2 * bs * q ≤ i → i < b → i / (2 * bs) = q := fun i h1 h2 => div_is (by rw [Nat.mul_comm]; exact h1) (by rw [Nat.succ_mul, Nat.mul_comm q]; omega)
  refine ⟨fun i x hx hi => ?_, fun i j x y hij hj hd hx hy => ?_, fun i x hx hi => ?_, fun i j x y hij hi hd hx hy => ?_⟩
  · by_cases hia : i < 2 * bs * q
    · rw [k.out i (by omega)] at hx
      exact h.tag2 i x hx hia
    · obtain ⟨j, j1, j2, j3⟩ := k.mem i x (by omega) hi hx
      have := dbl (h.tag j x j3 j1)
      rw [this, d j j1 j2, d i (by omega) hi]
  · by_cases hja : j < 2 * bs * q
    · rw [k.out i (by omega)] at hx; rw [k.out j (by omega)] at hy
      exact h.so2 i j x y hij hja hd hx hy
    · have hia : 2 * bs * q ≤ i := by
        rcases Nat.lt_or_ge i (2 * bs * q) with g | g
        · have g1 : i / (2 * bs) < q := (Nat.div_lt_iff_lt_mul (by omega)).2 (by rw [Nat.mul_comm]; exact g)
          have g2 := d j (by omega) hj
          omega
        · exact g
      exact s i j x y hia hij hj hx hy
  · rw [k.out i (by omega)] at hx
    exact h.tag i x hx (by omega)
  · rw [k.out i (by omega)] at hx; rw [k.out j (by omega)] at hy
    exact h.so i j x y hij (by omega) hd hx hy
/-- The rest is one block of bs: nothing is to merge. -/
theorem Mer.rest {α : Type} {lt : α → α → Bool} {D : List (α × Nat)} {bs q : Nat} (h : Mer lt D bs (2 * bs * q)) (hb0 : 0 < bs) (hl : D.length ≤ 2 * bs * q + bs) : Blk lt D (2 * bs) := by
  have e0 : 2 * bs * q = (2 * q) * bs := by rw [Nat.mul_assoc, Nat.mul_comm bs q, ← Nat.mul_assoc]
  have e1 : (2 * q + 1) * bs = 2 * bs * q + bs := by rw [Nat.succ_mul, e0]
  have d1 : ∀ i, 2 * bs * q ≤ i → i < 2 * bs * q + bs → i / bs = 2 * q := fun i h1 h2 => div_is (by omega) (by omega)
  refine ⟨fun i x hx => ?_, fun i j x y hij hd hx hy => ?_⟩
  · by_cases hia : i < 2 * bs * q
    · exact h.tag2 i x hx hia
    · exact dbl (h.tag i x hx (by omega))
  · obtain ⟨hjl, _⟩ := List.getElem?_eq_some_iff.1 hy
    by_cases hja : j < 2 * bs * q
    · exact h.so2 i j x y hij hja hd hx hy
    · have hia : 2 * bs * q ≤ i := by
        rcases Nat.lt_or_ge i (2 * bs * q) with g | g
        · have g1 : i / (2 * bs) < q := (Nat.div_lt_iff_lt_mul (by omega)).2 (by rw [Nat.mul_comm]; exact g)
          have g2 : q ≤ j / (2 * bs) := (Nat.le_div_iff_mul_le (by omega)).2 (by rw [Nat.mul_comm]; omega)
          omega
        · exact g
      exact h.so i j x y hij hia (by rw [d1 i hia (by omega), d1 j (by omega) (by omega)]) hx hy
theorem Mer.blk {α : Type} {lt : α → α → Bool} {D : List (α × Nat)} {bs : Nat} (h : Mer lt D bs D.length) : Blk lt D (2 * bs) :=
  ⟨fun i x hx => h.tag2 i x hx (by obtain ⟨hl, _⟩ := List.getElem?_eq_some_iff.1 hx; exact hl), fun i j x y hij hd hx hy => h.so2 i j x y hij (by obtain ⟨hl, _⟩ := List.getElem?_eq_some_iff.1 hy; exact hl) hd hx hy⟩
theorem Blk.all {α : Type} {lt : α → α → Bool} {D : List (α × Nat)} {bs : Nat} (h : Blk lt D bs) (hl : D.length ≤ bs) : So lt D 0 D.length := by
  intro i j x y _ hij hj hx hy
  exact h.so i j x y hij (by rw [Nat.div_eq_of_lt (by omega), Nat.div_eq_of_lt (by omega)]) hx hy
end Go.Proofs.Ytjkkdijoogiipaa

/- Texts as plain data: their order, the next one, ranges, what begins with a text; nothing here speaks of the program. -/
namespace Go.Proofs.Ytjkkdijoogiipaa
open Go.RowKit

abbrev tl := Op.bytesLess
theorem kr_true {b : Bool} (h : b = true) : Ending.returned (.bool b) = .returned (.bool true) := by rw [h]
theorem khide {p : Prop} (h : p) : Hid p := h
theorem kunhide {p : Prop} (h : Hid p) : p := h

theorem tl_nil (a : List UInt8) : tl a [] = false := by cases a <;> rfl
theorem tl_cons (a b : UInt8) (x y : List UInt8) : tl (a :: x) (b :: y) = (decide (a < b) || (a == b && tl x y)) := rfl
theorem u8_cases (a b : UInt8) : (a < b ∧ ¬ a = b ∧ ¬ b < a) ∨ (a = b ∧ ¬ a < b ∧ ¬ b < a) ∨ (b < a ∧ ¬ a = b ∧ ¬ a < b) := by
  simp only [UInt8.lt_iff_toNat_lt, ← UInt8.toNat_inj]
  omega
theorem u8_irr (x : UInt8) : ¬ x < x := by simp
theorem beq_no {a b : UInt8} (h : ¬ a = b) : (a == b) = false := by simp [h]
theorem tl_irr (a : List UInt8) : tl a a = false := by
  induction a with
  | nil => rfl
  | cons x a ih => rw [tl_cons, ih, decide_eq_false (u8_irr x)]; simp
theorem tl_asym : ∀ (a b : List UInt8), tl a b = true → tl b a = false
  | a, [] => fun h => by rw [tl_nil] at h; cases h
  | [], _ :: _ => fun _ => tl_nil _
  | x :: a, y :: b => fun h => by
    rw [tl_cons] at *
    have ih := tl_asym a b
    rcases u8_cases x y with ⟨h1, h2, h3⟩ | ⟨h1, h2, h3⟩ | ⟨h1, h2, h3⟩
    · simp [h3]; intro e; exact absurd e.symm h2
    · subst h1; simp [h2] at *; exact ih h
    · simp [h3, h2] at h
theorem tl_trans : ∀ (a b c : List UInt8), tl a b = true → tl b c = true → tl a c = true
  | a, b, [] => fun _ h => by rw [tl_nil] at h; cases h
  | a, [], _ :: _ => fun h _ => by rw [tl_nil] at h; cases h
  | [], _ :: _, _ :: _ => fun _ _ => rfl
  | x :: a, y :: b, z :: c => fun h k => by
    rw [tl_cons] at *
    have ih := tl_trans a b c
    simp only [Bool.or_eq_true, Bool.and_eq_true, decide_eq_true_eq, beq_iff_eq] at *
    rcases h with h | ⟨rfl, h⟩
    · rcases k with k | ⟨rfl, k⟩
      · exact Or.inl (by simp only [UInt8.lt_iff_toNat_lt] at *; omega)
      · exact Or.inl h
    · rcases k with k | ⟨rfl, k⟩
      · exact Or.inl k
      · exact Or.inr ⟨rfl, ih h k⟩
theorem tl_total : ∀ (a b : List UInt8), tl a b = false → tl b a = false → a = b
  | [], [] => fun _ _ => rfl
  | [], _ :: _ => fun h _ => by cases h
  | _ :: _, [] => fun _ h => by cases h
  | x :: a, y :: b => fun h k => by
    rw [tl_cons] at *
    have ih := tl_total a b
    rcases u8_cases x y with ⟨h1, h2, h3⟩ | ⟨h1, h2, h3⟩ | ⟨h1, h2, h3⟩
    · simp [h1] at h
    · subst h1; simp [h2] at h k; rw [ih h k]
    · simp [h1] at k
theorem tl_next : ∀ (a b : List UInt8), tl b (a ++ [0]) = !tl a b
  | a, [] => by rw [tl_nil]; cases a <;> rfl
  | [], y :: b => by
    show (decide (y < 0) || (y == 0 && tl b [])) = !true
    rw [tl_nil]
    have : ¬ y < 0 := by simp only [UInt8.lt_iff_toNat_lt]; simp
    simp [this]
  | x :: a, y :: b => by
    rw [List.cons_append, tl_cons, tl_cons, tl_next a b]
    rcases u8_cases x y with ⟨h1, h2, h3⟩ | ⟨h1, h2, h3⟩ | ⟨h1, h2, h3⟩
    · have h4 : ¬ y = x := fun e => h2 e.symm
      simp [h1, h3, h4]
    · subst h1; simp [h2]
    · simp [h1, h2, h3]

/-- What a range has: from lo on, below hi; an empty hi is no end. -/
def wi (lo hi k : List UInt8) : Bool := !tl k lo && (hi.isEmpty || tl k hi)
/-- No text is in it. -/
def em (lo hi : List UInt8) : Bool := !(hi.isEmpty || tl lo hi)
theorem em_eq (lo hi : List UInt8) : em lo hi = !wi lo hi lo := by simp [em, wi, tl_irr]
def mlo (a c : List UInt8) : List UInt8 := if tl a c then c else a
def mhi (b d : List UInt8) : List UInt8 := if d.isEmpty || (!b.isEmpty && tl b d) then b else d
theorem wi_meet (a b c d k : List UInt8) : wi (mlo a c) (mhi b d) k = (wi a b k && wi c d k) := by
  have h1 : tl k (mlo a c) = (tl k a || tl k c) := by
    unfold mlo
    cases hac : tl a c with
    | true =>
      simp only [if_true]
      cases hka : tl k a with
      | true => rw [tl_trans k a c hka hac]; rfl
      | false => simp
    | false =>
      simp only [Bool.false_eq_true, if_false]
      cases hkc : tl k c with
      | true =>
        cases hka : tl k a with
        | true => rfl
        | false =>
          exfalso
          cases hca : tl c a with
          | true => rw [tl_trans k c a hkc hca] at hka; cases hka
          | false => have := tl_total a c hac hca; subst this; rw [hka] at hkc; cases hkc
      | false => simp
  have h2 : ((mhi b d).isEmpty || tl k (mhi b d)) = ((b.isEmpty || tl k b) && (d.isEmpty || tl k d)) := by
    unfold mhi
    cases hd : d.isEmpty with
    | true => simp
    | false =>
      cases hb : b.isEmpty with
      | true => simp [hd]
      | false =>
        cases hbd : tl b d with
        | true =>
          simp only [Bool.false_or, Bool.not_false, Bool.true_and, if_true, hb]
          cases hkb : tl k b with
          | true => rw [tl_trans k b d hkb hbd]; rfl
          | false => simp
        | false =>
          simp only [Bool.false_or, Bool.not_false, Bool.true_and, Bool.false_eq_true, if_false, hd]
          cases hkd : tl k d with
          | true =>
            cases hkb : tl k b with
            | true => rfl
            | false =>
              exfalso
              cases hdb : tl d b with
              | true => rw [tl_trans k d b hkd hdb] at hkb; cases hkb
              | false => have := tl_total b d hbd hdb; subst this; rw [hkb] at hkd; cases hkd
          | false => simp
  unfold wi
  rw [h1, h2]
  cases tl k a <;> cases tl k c <;> cases (b.isEmpty || tl k b) <;> cases (d.isEmpty || tl k d) <;> rfl
theorem mhi_eq (b d : List UInt8) : mhi b d = if b.isEmpty || (!d.isEmpty && tl d b) then d else b := by
  unfold mhi
  cases hd : d.isEmpty with
  | true =>
    cases hb : b.isEmpty with
    | true => simp at *; rw [hb, hd]
    | false => simp
  | false =>
    cases hb : b.isEmpty with
    | true => simp
    | false =>
      cases hbd : tl b d with
      | true => simp [tl_asym b d hbd]
      | false =>
        cases hdb : tl d b with
        | true => simp
        | false => simp [tl_total b d hbd hdb]
/-- In an empty range nothing is. -/
theorem wi_em (lo hi k : List UInt8) (h : em lo hi = true) : wi lo hi k = false := by
  unfold em at h
  unfold wi
  simp only [Bool.not_eq_true', Bool.or_eq_false_iff] at h
  rw [h.1]
  cases hk : tl k lo with
  | true => rfl
  | false =>
    cases hh : tl k hi with
    | false => rfl
    | true =>
      exfalso
      cases hl : tl lo k with
      | true => have := tl_trans lo k hi hl hh; rw [h.2] at this; cases this
      | false => have := tl_total lo k hl hk; subst this; rw [h.2] at hh; cases hh

/-- The end of what begins with a text, from the front. -/
def bhd : List UInt8 → Option (List UInt8)
  | [] => none
  | c :: r => match bhd r with
    | some e => some (c :: e)
    | none => if c = 255 then none else some [c + 1]
def bhE (p : List UInt8) : List UInt8 := (bhd p).getD []
theorem bhd_ne (p e : List UInt8) (h : bhd p = some e) : e.isEmpty = false := by
  cases p with
  | nil => cases h
  | cons c r =>
    rw [bhd] at h
    cases hr : bhd r with
    | some x => rw [hr] at h; cases h; rfl
    | none =>
      rw [hr] at h
      simp only at h
      split at h
      · cases h
      · cases h; rfl
theorem bhd_all (p : List UInt8) (h : ∀ c ∈ p, c = 255) : bhd p = none := by
  induction p with
  | nil => rfl
  | cons c r ih => rw [bhd, ih (fun c hc => h c (List.mem_cons_of_mem _ hc)), h c List.mem_cons_self]; rfl
theorem bhd_at (x y : List UInt8) (c : UInt8) (hc : ¬ c = 255) (h : ∀ c ∈ y, c = 255) : bhd (x ++ c :: y) = some (x ++ [c + 1]) := by
  induction x with
  | nil => rw [List.nil_append, bhd, bhd_all y h]; simp [hc]
  | cons a x ih => rw [List.cons_append, bhd, ih]; rfl
theorem wi_pre : ∀ (p k : List UInt8), (!tl k p && (match bhd p with | some e => tl k e | none => true)) = p.isPrefixOf k
  | [], k => by rw [tl_nil]; rfl
  | c :: r, [] => rfl
  | c :: r, x :: k => by
    have ih := wi_pre r k
    have hx : x.toNat < 256 := x.toNat_lt
    rw [tl_cons, bhd, List.isPrefixOf, ← ih]
    cases hr : bhd r with
    | some e =>
      simp only [tl_cons]
      rcases u8_cases x c with ⟨h1, h2, h3⟩ | ⟨h1, h2, h3⟩ | ⟨h1, h2, h3⟩
      · have h4 : ¬ c = x := fun e => h2 e.symm
        simp [h1, h4]
      · subst h1; simp [h2]
      · have h4 : ¬ c = x := fun e => h2 e.symm
        rw [decide_eq_false h3, beq_no h2, beq_no h4]; rfl
    | none =>
      by_cases h255 : c = 255
      · simp only [if_pos h255]
        rcases u8_cases x c with ⟨h1, h2, h3⟩ | ⟨h1, h2, h3⟩ | ⟨h1, h2, h3⟩
        · have h4 : ¬ c = x := fun e => h2 e.symm
          simp [h1, h4]
        · subst h1; simp [h2]
        · exfalso; subst h255; simp only [UInt8.lt_iff_toNat_lt] at h1; simp at h1; omega
      · simp only [if_neg h255, tl_cons, tl_nil, Bool.and_false, Bool.or_false]
        have hc : c.toNat < 255 := by
          have := c.toNat_lt
          have h3 : ¬ c.toNat = (255 : UInt8).toNat := fun e => h255 (UInt8.toNat_inj.1 e)
          simp at h3; omega
        have hc1 : (c + 1).toNat = c.toNat + 1 := by rw [UInt8.toNat_add]; simp; omega
        rcases u8_cases x c with ⟨h1, h2, h3⟩ | ⟨h1, h2, h3⟩ | ⟨h1, h2, h3⟩
        · have h4 : ¬ c = x := fun e => h2 e.symm
          simp [h1, h4]
        · subst h1
          have : x < x + 1 := by simp only [UInt8.lt_iff_toNat_lt]; omega
          simp [h2, this]
        · have h4 : ¬ c = x := fun e => h2 e.symm
          have h5 : ¬ x < c + 1 := by simp only [UInt8.lt_iff_toNat_lt] at *; omega
          simp [h4, h5]
theorem wi_bhE (p k : List UInt8) : wi p (bhE p) k = p.isPrefixOf k := by
  rw [← wi_pre p k]
  unfold wi bhE
  cases h : bhd p with
  | none => simp
  | some e => simp [bhd_ne p e h]
theorem pre_app (p k : List UInt8) : p.isPrefixOf (p ++ k) = true := by
  induction p with
  | nil => rfl
  | cons c p ih => simp [ih]
theorem pre_eq (p k : List UInt8) : p.isPrefixOf k = (decide (p.length ≤ k.length) && k.take p.length == p) := by
  induction p generalizing k with
  | nil => simp
  | cons c p ih =>
    cases k with
    | nil => simp [List.isPrefixOf]
    | cons x k =>
      rw [List.isPrefixOf, ih k]
      simp only [List.length_cons, List.take_succ_cons, Nat.add_le_add_iff_right]
      by_cases h : c = x
      · subst h; simp
      · have h2 : ¬ x = c := fun e => h e.symm
        rw [show (x :: List.take p.length k == c :: p) = (x == c && List.take p.length k == p) from rfl, beq_no h, beq_no h2]; simp
theorem wi_parts (lo hi a k : List UInt8) (h : wi lo hi a = true) (ha : a.isEmpty = false) :
    (wi lo a k && wi a hi k) = false ∧ (wi lo a k || wi a hi k) = wi lo hi k := by
  unfold wi at *
  rw [ha]
  simp only [Bool.and_eq_true, Bool.not_eq_true', Bool.false_or] at *
  obtain ⟨h1, h2⟩ := h
  cases hka : tl k a with
  | true =>
    refine ⟨by simp, ?_⟩
    cases hkl : tl k lo with
    | true => simp
    | false =>
      cases hh : hi.isEmpty with
      | true => simp
      | false => rw [hh, Bool.false_or] at h2; rw [tl_trans k a hi hka h2]; rfl
  | false =>
    refine ⟨by simp, ?_⟩
    cases hkl : tl k lo with
    | false => simp
    | true =>
      exfalso
      cases hal : tl a k with
      | true => have := tl_trans a k lo hal hkl; rw [h1] at this; cases this
      | false => have := tl_total k a hka hal; subst this; rw [h1] at hkl; cases hkl
theorem tl_drop (a b : List UInt8) (i : Nat) (h : i ≤ a.length) (k : i ≤ b.length) (he : a.take i = b.take i) : tl (a.drop i) (b.drop i) = tl a b := by
  induction i generalizing a b with
  | zero => rfl
  | succ i ih =>
    cases a with
    | nil => simp at h
    | cons x a =>
      cases b with
      | nil => simp at k
      | cons y b =>
        simp only [List.take_succ_cons, List.cons.injEq] at he
        rw [List.drop_succ_cons, List.drop_succ_cons, ih a b (by simpa using h) (by simpa using k) he.2, tl_cons, he.1, decide_eq_false (u8_irr y)]
        simp

theorem bl_len (p : ByteArray) : p.toList.length = p.size := by rw [ByteArray.toList_eq, Array.length_toList]; rfl
theorem bl_get (p : ByteArray) (j : Nat) (h : j < p.size) : p.toList[j]'(by rw [bl_len]; exact h) = p[j] := by simp only [ByteArray.toList_eq]; rfl
theorem bl_app (a b : ByteArray) : (a ++ b).toList = a.toList ++ b.toList := by
  rw [ByteArray.toList_eq, ByteArray.toList_eq, ByteArray.toList_eq, ByteArray.data_append, Array.toList_append]
theorem bl_take (p : ByteArray) (j : Nat) : (p.extract 0 j).toList = p.toList.take j := by
  rw [ByteArray.toList_eq, ByteArray.toList_eq, ByteArray.data_extract, Array.toList_extract]
  simp
theorem bl_one (c : UInt8) : (⟨#[c]⟩ : ByteArray).toList = [c] := by rw [ByteArray.toList_eq]
theorem bl_nil : (⟨#[]⟩ : ByteArray).toList = [] := by rw [ByteArray.toList_eq]
theorem bl_inj {a b : ByteArray} (h : a.toList = b.toList) : a = b := by
  rw [ByteArray.toList_eq, ByteArray.toList_eq] at h
  obtain ⟨⟨x⟩⟩ := a
  obtain ⟨⟨y⟩⟩ := b
  simp only at h
  rw [h]
theorem bhE_at (p : ByteArray) (j : Nat) (h : j < p.size) (hc : ¬ p[j].toNat = 255) (hz : ∀ c ∈ p.toList.drop (j + 1), c = 255) :
    (p.extract 0 j ++ ⟨#[p[j] + 1]⟩).toList = bhE p.toList := by
  have hl : j < p.toList.length := by rw [bl_len]; exact h
  have e : p.toList = p.toList.take j ++ p[j] :: p.toList.drop (j + 1) := by
    rw [← bl_get p j h, ← List.drop_eq_getElem_cons hl, List.take_append_drop]
  have hb : bhE p.toList = p.toList.take j ++ [p[j] + 1] := by
    have h2 := bhd_at (p.toList.take j) (p.toList.drop (j + 1)) p[j] (fun e => hc (by rw [e]; rfl)) hz
    rw [← e] at h2
    unfold bhE
    rw [h2]
    rfl
  rw [hb, bl_app, bl_take, bl_one]
theorem bhE_all (p : List UInt8) (hz : ∀ c ∈ p, c = 255) : bhE p = [] := by unfold bhE; rw [bhd_all p hz]; rfl
theorem drop_more (p : ByteArray) (j : Nat) (h : j < p.size) (hc : p[j].toNat = 255) (hz : ∀ c ∈ p.toList.drop (j + 1), c = 255) : ∀ c ∈ p.toList.drop j, c = 255 := by
  have hl : j < p.toList.length := by rw [bl_len]; exact h
  rw [List.drop_eq_getElem_cons hl, bl_get p j h]
  intro c hm
  rcases List.mem_cons.1 hm with rfl | hm
  · exact UInt8.toNat_inj.1 hc
  · exact hz c hm

theorem take_step {a b : ByteArray} {k : Nat} (ha : k < a.size) (hb : k < b.size) (h : a[k] = b[k]) (ht : a.toList.take k = b.toList.take k) : a.toList.take (k + 1) = b.toList.take (k + 1) := by
  rw [List.take_add_one, List.take_add_one, ht, List.getElem?_eq_getElem (by rw [bl_len]; exact ha), List.getElem?_eq_getElem (by rw [bl_len]; exact hb), bl_get a k ha, bl_get b k hb, h]
theorem tl_differ {a b : ByteArray} {k : Nat} (ha : k < a.size) (hb : k < b.size) (h : ¬ a[k].toNat = b[k].toNat) (ht : a.toList.take k = b.toList.take k) : tl a.toList b.toList = decide (a[k].toNat < b[k].toNat) := by
  have la : k < a.toList.length := by rw [bl_len]; exact ha
  have lb : k < b.toList.length := by rw [bl_len]; exact hb
  rw [← tl_drop a.toList b.toList k (by omega) (by omega) ht, List.drop_eq_getElem_cons la, List.drop_eq_getElem_cons lb, tl_cons, bl_get a k ha, bl_get b k hb]
  have h2 : ¬ a[k] = b[k] := fun e => h (by rw [e])
  rw [beq_no h2]
  simp [UInt8.lt_iff_toNat_lt]
theorem tl_end {a b : ByteArray} {k : Nat} (ha : k ≤ a.size) (hb : k ≤ b.size) (hk : ¬ (k < a.size ∧ k < b.size)) (ht : a.toList.take k = b.toList.take k) : tl a.toList b.toList = decide (a.size < b.size) := by
  rw [← tl_drop a.toList b.toList k (by rw [bl_len]; exact ha) (by rw [bl_len]; exact hb) ht]
  by_cases h1 : k < a.size
  · have h2 : k = b.size := by omega
    rw [List.drop_eq_nil_of_le (as := b.toList) (by rw [bl_len]; omega), tl_nil]
    simp; omega
  · rw [List.drop_eq_nil_of_le (as := a.toList) (by rw [bl_len]; omega)]
    by_cases h2 : k < b.size
    · rw [List.drop_eq_getElem_cons (by rw [bl_len]; exact h2)]
      simp [tl, Op.bytesLess]; omega
    · rw [List.drop_eq_nil_of_le (as := b.toList) (by rw [bl_len]; omega)]
      simp [tl, Op.bytesLess]; omega
end Go.Proofs.Ytjkkdijoogiipaa
