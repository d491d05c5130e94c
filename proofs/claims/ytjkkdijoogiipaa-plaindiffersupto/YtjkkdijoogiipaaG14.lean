/- Texts of ours, one behind the other: PlPlain, PlDifP, PlOwn1, KSlice, OpCopy, PlDifQ. -/
import Derived.Test.YtjkkdijoogiipaaG4
import Derived.Test.YtjkkdijoogiipaaG5
import Derived.Test.YtjkkdijoogiipaaG12
import Derived.Test.YtjkkdijoogiipaaG16
import Derived.Laws.AppendOwnNone
/- Lists of pairs as plain data: which are right, what a key has, what operations make of them, what a range has; nothing here speaks of the program. -/
namespace Go.Proofs.Ytjkkdijoogiipaa
open Go.RowKit

abbrev kP (x : Pd) : List UInt8 := x.1.toList
/-- In strict order of their keys. -/
def SP (l : List Pd) : Prop := l.Pairwise fun x y => tl (kP x) (kP y) = true
def pmay (x : Pd) : Bool := kmay x.1 && decide (x.2.length ≤ 4096)
def okP (x : Pd) (i : Nat) (y : Pd) : Bool := pmay x && (decide (i = 0) || tl (kP y) (kP x))
def okAt (l : List Pd) (i : Nat) : Bool := match l[i]?, l[i - 1]? with
  | some x, some y => okP x i y
  | _, _ => true
def rightD (l : List Pd) : Bool := (List.range l.length).all (okAt l)
theorem okAt_eq (l : List Pd) (i : Nat) (h : i < l.length) : okAt l i = okP l[i] i (l[i - 1]'(by omega)) := by
  unfold okAt
  rw [List.getElem?_eq_getElem h, List.getElem?_eq_getElem (by omega)]
theorem right_all (l : List Pd) : rightD l = true ↔ ∀ i (h : i < l.length), okP l[i] i (l[i - 1]'(by omega)) = true := by
  unfold rightD
  rw [List.all_eq_true]
  constructor
  · intro h i hi
    rw [← okAt_eq l i hi]
    exact h i (List.mem_range.2 hi)
  · intro h i hi
    rw [okAt_eq l i (List.mem_range.1 hi)]
    exact h i (List.mem_range.1 hi)
theorem right_no (l : List Pd) (i : Nat) (h : i < l.length) (hn : okP l[i] i (l[i - 1]'(by omega)) = false) : rightD l = false := by
  cases hr : rightD l with
  | false => rfl
  | true => rw [(right_all l).1 hr i h] at hn; cases hn
theorem right_nil : rightD [] = true := rfl
theorem right_iff (l : List Pd) : rightD l = true ↔ SP l ∧ ∀ x ∈ l, pmay x = true := by
  rw [right_all]
  constructor
  · intro h
    refine ⟨?_, fun x hx => ?_⟩
    · unfold SP
      rw [List.pairwise_iff_getElem]
      intro i j hi hj hij
      induction j with
      | zero => omega
      | succ j ih =>
        have a := h (j + 1) hj
        unfold okP at a
        simp only [Nat.add_sub_cancel, Bool.and_eq_true, Bool.or_eq_true, decide_eq_true_eq, Nat.succ_ne_zero, false_or] at a
        rcases Nat.lt_or_eq_of_le (Nat.lt_succ_iff.1 hij) with g | g
        · exact tl_trans _ _ _ (ih (by omega) g) a.2
        · subst g
          exact a.2
    · obtain ⟨i, hi, rfl⟩ := List.mem_iff_getElem.1 hx
      have a := h i hi
      unfold okP at a
      rw [Bool.and_eq_true] at a
      exact a.1
  · rintro ⟨h1, h2⟩ i hi
    unfold okP
    rw [h2 _ (List.getElem_mem hi)]
    by_cases h0 : i = 0
    · simp [h0]
    · have := List.pairwise_iff_getElem.1 h1 (i - 1) i (by omega) hi (by omega)
      rw [this]
      simp
theorem SP.of {l : List Pd} (h : rightD l = true) : SP l := ((right_iff l).1 h).1
theorem sp_ext {l m : List Pd} (h1 : SP l) (h2 : SP m) (h : ∀ x, x ∈ l ↔ x ∈ m) : l = m := by
  have e := sd_ext (l.map fun x => (x.1, x.2, false)) (m.map fun x => (x.1, x.2, false)) (by unfold Sd; rw [List.pairwise_map]; exact h1) (by unfold Sd; rw [List.pairwise_map]; exact h2) (fun x => by
    simp only [List.mem_map]
    constructor
    · rintro ⟨y, hy, rfl⟩
      exact ⟨y, (h y).1 hy, rfl⟩
    · rintro ⟨y, hy, rfl⟩
      exact ⟨y, (h y).2 hy, rfl⟩)
  have := congrArg (List.map fun x : Dat => ((x.1, x.2.1) : Pd)) e
  simpa [List.map_map, Function.comp_def] using this
/-- What a key has. -/
def look (l : List Pd) (k : List UInt8) : Option (List UInt8) := (l.find? fun x => decide (kP x = k)).map fun x => x.2
theorem look_app (l m : List Pd) (k : List UInt8) : look (l ++ m) k = (look l k).or (look m k) := by
  unfold look
  rw [List.find?_append]
  cases l.find? fun x => decide (kP x = k) <;> rfl
theorem look_cons (x : Pd) (l : List Pd) (k : List UInt8) : look (x :: l) k = if kP x = k then some x.2 else look l k := by
  unfold look
  rw [List.find?_cons]
  by_cases h : kP x = k
  · rw [if_pos h]; simp [h]
  · rw [if_neg h]; simp [h]
theorem look_none {l : List Pd} {k : List UInt8} (h : ∀ x ∈ l, kP x ≠ k) : look l k = none := by
  unfold look
  rw [List.find?_eq_none.2 (fun x hx => by simpa using h x hx)]
  rfl
theorem look_mem {l : List Pd} (h : SP l) (x : Pd) : x ∈ l ↔ look l (kP x) = some x.2 := by
  induction l with
  | nil => simp [look]
  | cons y l ih =>
    obtain ⟨h1, h2⟩ := List.pairwise_cons.1 h
    rw [look_cons, List.mem_cons]
    by_cases hk : kP y = kP x
    · rw [if_pos hk]
      constructor
      · rintro (rfl | hx)
        · rfl
        · have := h1 x hx
          rw [hk, tl_irr] at this
          cases this
      · intro e
        simp only [Option.some.injEq] at e
        exact Or.inl (Prod.ext (bl_inj hk.symm) e.symm)
    · rw [if_neg hk, ← ih h2]
      constructor
      · rintro (rfl | hx)
        · exact absurd rfl hk
        · exact hx
      · exact Or.inr
theorem look_ext {l m : List Pd} (h1 : SP l) (h2 : SP m) (h : ∀ k, look l k = look m k) : l = m := sp_ext h1 h2 fun x => by rw [look_mem h1, look_mem h2, h]
/-- How many things ahead do so. -/
theorem tw_of {α : Type} (p : α → Bool) (l : List α) : ∀ (k : Nat), k ≤ l.length → (∀ i x, i < k → l[i]? = some x → p x = true) → (∀ x, l[k]? = some x → p x = false) → l.takeWhile p = l.take k ∧ l.dropWhile p = l.drop k := by
  induction l with
  | nil => intro k _ _ _; simp
  | cons y l ih =>
    intro k hk h1 h2
    cases k with
    | zero =>
      have := h2 y (by simp)
      simp [this]
    | succ k =>
      have hy := h1 0 y (by omega) (by simp)
      obtain ⟨e1, e2⟩ := ih k (by simpa using hk) (fun i x hi hx => h1 (i + 1) x (by omega) (by simpa using hx)) (fun x hx => h2 x (by simpa using hx))
      simp [hy, e1, e2]
/-- The place of a key: behind all that are below it. -/
def plc (l : List Pd) (k : List UInt8) : Nat := (l.takeWhile fun x => tl (kP x) k).length
theorem plc_of {l : List Pd} {k : List UInt8} (h : SP l) (r : Nat) (hr : r ≤ l.length) (h1 : ∀ t x, r = t + 1 → l[t]? = some x → tl (kP x) k = true) (h2 : ∀ x, l[r]? = some x → tl (kP x) k = false) : plc l k = r := by
  unfold plc
  rw [(tw_of (fun x => tl (kP x) k) l r hr (fun i x hi hx => ?_) h2).1, List.length_take]
  · omega
  · obtain ⟨t, rfl⟩ : ∃ t, r = t + 1 := ⟨r - 1, by omega⟩
    have ht : t < l.length := by omega
    have e := h1 t _ rfl (List.getElem?_eq_getElem ht)
    obtain ⟨hi', rfl⟩ := List.getElem?_eq_some_iff.1 hx
    rcases Nat.lt_or_eq_of_le (Nat.lt_succ_iff.1 hi) with g | g
    · exact tl_trans _ _ _ (List.pairwise_iff_getElem.1 h i t hi' ht g) e
    · subst g; exact e
theorem plc_le (l : List Pd) (k : List UInt8) : plc l k ≤ l.length := List.Sublist.length_le (List.takeWhile_sublist _)
theorem plc_split (l : List Pd) (k : List UInt8) : l.take (plc l k) = l.takeWhile (fun x => tl (kP x) k) ∧ l.drop (plc l k) = l.dropWhile (fun x => tl (kP x) k) := by
  unfold plc
  constructor
  · conv => lhs; rw [← List.takeWhile_append_dropWhile (p := fun x => tl (kP x) k) (l := l)]
    rw [List.take_left' (by simp)]
  · conv => lhs; arg 2; rw [← List.takeWhile_append_dropWhile (p := fun x => tl (kP x) k) (l := l)]
    rw [List.drop_left' (by simp)]
theorem drop_hd {α : Type} (p : α → Bool) (l : List α) (x : α) (m : List α) (h : l.dropWhile p = x :: m) : p x = false := by
  induction l with
  | nil => simp at h
  | cons y l ih =>
    rw [List.dropWhile_cons] at h
    split at h
    · exact ih h
    · rename_i hn
      simp only [List.cons.injEq] at h
      rw [← h.1]
      simpa using hn
/-- Ahead of its place, and from it on. -/
theorem plc_parts {l : List Pd} (h : SP l) (k : List UInt8) : ∃ A B, l = A ++ B ∧ A = l.take (plc l k) ∧ B = l.drop (plc l k) ∧ A.length = plc l k ∧ SP A ∧ SP B ∧ (∀ x ∈ A, tl (kP x) k = true) ∧ (∀ x ∈ B, tl (kP x) k = false) ∧ (∀ x ∈ A, ∀ y ∈ B, tl (kP x) (kP y) = true) := by
  obtain ⟨e1, e2⟩ := plc_split l k
  have hl : l = l.take (plc l k) ++ l.drop (plc l k) := (List.take_append_drop _ _).symm
  have hp := h
  unfold SP at hp
  rw [hl, List.pairwise_append] at hp
  refine ⟨l.take (plc l k), l.drop (plc l k), hl, rfl, rfl, by rw [List.length_take]; have := plc_le l k; omega, hp.1, hp.2.1, fun x hx => ?_, fun x hx => ?_, hp.2.2⟩
  · rw [e1] at hx
    exact List.all_eq_true.1 (List.all_takeWhile (l := l) (p := fun x => tl (kP x) k)) x hx
  · cases hB : l.drop (plc l k) with
    | nil => rw [hB] at hx; cases hx
    | cons b B =>
      rw [hB] at hx
      have hb := drop_hd _ l b B (by rw [← e2]; exact hB)
      rcases List.mem_cons.1 hx with rfl | hx
      · exact hb
      · have hbx := (List.pairwise_cons.1 (hB ▸ hp.2.1)).1 x hx
        cases ht : tl (kP x) k with
        | false => rfl
        | true => rw [tl_trans _ _ _ hbx ht] at hb; cases hb
/-- One operation. -/
def oneD (l : List Pd) (o : Dat) : List Pd :=
  if (l[plc l (kD o)]?).any (fun x => decide (kP x = kD o)) then
    (if o.2.2 then l.take (plc l (kD o)) ++ l.drop (plc l (kD o) + 1) else l.take (plc l (kD o)) ++ (o.1, o.2.1) :: l.drop (plc l (kD o) + 1))
  else if o.2.2 then l else l.take (plc l (kD o)) ++ (o.1, o.2.1) :: l.drop (plc l (kD o))
theorem tl_ne {a b : List UInt8} (h : tl a b = true) : a ≠ b := fun e => by rw [e, tl_irr] at h; cases h
theorem oneD_all {l : List Pd} (h : SP l) (o : Dat) : SP (oneD l o) ∧ (∀ k, look (oneD l o) k = if k = kD o then (if o.2.2 then none else some o.2.1) else look l k) ∧ ∀ x ∈ oneD l o, x ∈ l ∨ (x = (o.1, o.2.1) ∧ o.2.2 = false) := by
  obtain ⟨A, B, hl, hA, hB, hlen, sA, sB, a1, b1, ab⟩ := plc_parts h (kD o)
  have hd1 : l.drop (plc l (kD o) + 1) = B.drop 1 := by rw [hB, List.drop_drop]
  have hat : l[plc l (kD o)]? = B.head? := by
    rw [hB, List.head?_drop]
  unfold oneD
  rw [hd1, hat, ← hA, ← hB]
  have hSP : SP (A ++ B) := hl ▸ h
  have lA : ∀ k, k = kD o → look A k = none := fun k e => look_none fun x hx => by rw [e]; exact tl_ne (a1 x hx)
  cases B with
  | nil =>
    simp only [List.head?_nil, Option.any_none, Bool.false_eq_true, if_false]
    cases hdl : o.2.2 with
    | true =>
      rw [if_pos rfl, hl]
      refine ⟨hSP, fun k => ?_, fun x hx => Or.inl hx⟩
      rw [List.append_nil]
      split
      · rename_i e
        rw [lA k e]
        rfl
      · rfl
    | false =>
      rw [if_neg (by simp)]
      refine ⟨?_, fun k => ?_, fun x hx => ?_⟩
      · unfold SP
        rw [List.pairwise_append]
        exact ⟨sA, by simp, fun x hx y hy => by rw [List.mem_singleton.1 hy]; exact a1 x hx⟩
      · rw [look_app, look_cons, hl, List.append_nil]
        by_cases e : k = kD o
        · rw [if_pos e, if_pos (show kP (o.1, o.2.1) = k from e.symm), lA k e]
          rfl
        · rw [if_neg e, if_neg (fun e' : kP (o.1, o.2.1) = k => e e'.symm)]
          simp [look]
      · rcases List.mem_append.1 hx with hx | hx
        · exact Or.inl (by rw [hl]; exact List.mem_append_left _ hx)
        · exact Or.inr ⟨List.mem_singleton.1 hx, rfl⟩
  | cons b B =>
    obtain ⟨hb1, hb2⟩ := List.pairwise_cons.1 sB
    simp only [List.head?_cons, Option.any_some, List.drop_succ_cons, List.drop_zero]
    have hbo : tl (kP b) (kD o) = false := b1 b (by simp)
    by_cases hk : kP b = kD o
    · rw [if_pos (by simpa using hk)]
      have lB : ∀ k, k = kD o → look B k = none := fun k e => look_none fun x hx => by
        have := hb1 x hx
        rw [hk] at this
        rw [e]
        exact (tl_ne this).symm
      cases hdl : o.2.2 with
      | true =>
        rw [if_pos rfl]
        refine ⟨?_, fun k => ?_, fun x hx => ?_⟩
        · unfold SP
          rw [List.pairwise_append]
          exact ⟨sA, hb2, fun x hx y hy => ab x hx y (List.mem_cons_of_mem _ hy)⟩
        · rw [look_app, hl, look_app, look_cons]
          by_cases e : k = kD o
          · rw [if_pos e, lA k e, lB k e]
            rfl
          · rw [if_neg e, if_neg (fun e' : kP b = k => e (by rw [← e', hk]))]
        · left
          rw [hl]
          rcases List.mem_append.1 hx with hx | hx
          · exact List.mem_append_left _ hx
          · exact List.mem_append_right _ (List.mem_cons_of_mem _ hx)
      | false =>
        rw [if_neg (by simp)]
        refine ⟨?_, fun k => ?_, fun x hx => ?_⟩
        · unfold SP
          rw [List.pairwise_append]
          refine ⟨sA, List.pairwise_cons.2 ⟨fun y hy => ?_, hb2⟩, fun x hx y hy => ?_⟩
          · have := hb1 y hy
            rw [hk] at this
            exact this
          · rcases List.mem_cons.1 hy with rfl | hy
            · exact a1 x hx
            · exact ab x hx y (List.mem_cons_of_mem _ hy)
        · rw [look_app, hl, look_app, look_cons, look_cons]
          by_cases e : k = kD o
          · rw [if_pos e, if_pos (show kP (o.1, o.2.1) = k from e.symm), lA k e]
            rfl
          · rw [if_neg e, if_neg (fun e' : kP (o.1, o.2.1) = k => e e'.symm), if_neg (fun e' : kP b = k => e (by rw [← e', hk]))]
        · rcases List.mem_append.1 hx with hx | hx
          · exact Or.inl (by rw [hl]; exact List.mem_append_left _ hx)
          · rcases List.mem_cons.1 hx with hx | hx
            · exact Or.inr ⟨hx, rfl⟩
            · exact Or.inl (by rw [hl]; exact List.mem_append_right _ (List.mem_cons_of_mem _ hx))
    · rw [if_neg (by simpa using hk)]
      have hob : tl (kD o) (kP b) = true := by
        cases ht : tl (kD o) (kP b) with
        | true => rfl
        | false => exact absurd (tl_total _ _ hbo ht) hk
      have lB : ∀ k, k = kD o → look (b :: B) k = none := fun k e => look_none fun x hx => by
        rw [e]
        rcases List.mem_cons.1 hx with rfl | hx
        · exact hk
        · exact (tl_ne (tl_trans _ _ _ hob (hb1 x hx))).symm
      cases hdl : o.2.2 with
      | true =>
        rw [if_pos rfl]
        refine ⟨h, fun k => ?_, fun x hx => Or.inl hx⟩
        by_cases e : k = kD o
        · rw [if_pos e, hl, look_app, lA k e, lB k e]
          rfl
        · rw [if_neg e]
      | false =>
        rw [if_neg (by simp)]
        refine ⟨?_, fun k => ?_, fun x hx => ?_⟩
        · unfold SP
          rw [List.pairwise_append]
          refine ⟨sA, List.pairwise_cons.2 ⟨fun y hy => ?_, sB⟩, fun x hx y hy => ?_⟩
          · rcases List.mem_cons.1 hy with rfl | hy
            · exact hob
            · exact tl_trans _ _ _ hob (hb1 y hy)
          · rcases List.mem_cons.1 hy with rfl | hy
            · exact a1 x hx
            · exact ab x hx y hy
        · rw [look_app, look_cons, hl, look_app]
          by_cases e : k = kD o
          · rw [if_pos e, if_pos (show kP (o.1, o.2.1) = k from e.symm), lA k e]
            rfl
          · rw [if_neg e, if_neg (fun e' : kP (o.1, o.2.1) = k => e e'.symm)]
        · rcases List.mem_append.1 hx with hx | hx
          · exact Or.inl (by rw [hl]; exact List.mem_append_left _ hx)
          · rcases List.mem_cons.1 hx with hx | hx
            · exact Or.inr ⟨hx, rfl⟩
            · exact Or.inl (by rw [hl]; exact List.mem_append_right _ hx)
/-- Operations, one behind the other. -/
def doD (l : List Pd) (ops : List Dat) : List Pd := ops.foldl oneD l
theorem doD_snoc (l : List Pd) (ops : List Dat) (o : Dat) : doD l (ops ++ [o]) = oneD (doD l ops) o := by simp [doD, List.foldl_append]
theorem doD_app (l : List Pd) (a b : List Dat) : doD l (a ++ b) = doD (doD l a) b := by simp [doD, List.foldl_append]
/-- The last operation of a key. -/
def eff (ops : List Dat) (k : List UInt8) : Option Dat := ops.foldl (fun a o => if kD o = k then some o else a) none
theorem eff_snoc (ops : List Dat) (o : Dat) (k : List UInt8) : eff (ops ++ [o]) k = if kD o = k then some o else eff ops k := by simp [eff, List.foldl_append]
theorem snoc_ind {α : Type} {C : List α → Prop} (h0 : C []) (h1 : ∀ l x, C l → C (l ++ [x])) (l : List α) : C l := by
  have : ∀ n (l : List α), l.length = n → C l := by
    intro n
    induction n with
    | zero => intro l hl; rw [List.eq_nil_of_length_eq_zero hl]; exact h0
    | succ n ih =>
      intro l hl
      have e : l = l.take n ++ [l[n]] := by
        conv => lhs; rw [← List.take_append_drop n l]
        rw [List.drop_eq_getElem_cons (by omega), List.drop_eq_nil_of_le (by omega)]
      rw [e]
      exact h1 _ _ (ih _ (by rw [List.length_take]; omega))
  exact this _ l rfl
theorem eff_iff (k : List UInt8) (o : Dat) (ops : List Dat) : eff ops k = some o ↔ Lk ops o ∧ kD o = k := by
  induction ops using snoc_ind with
  | h0 =>
    constructor
    · intro h; cases h
    · rintro ⟨⟨t, ht, _⟩, _⟩; simp at ht
  | h1 l x ih =>
    rw [eff_snoc, lk_snoc]
    by_cases hk : kD x = k
    · rw [if_pos hk]
      constructor
      · intro e
        simp only [Option.some.injEq] at e
        exact ⟨Or.inl e.symm, by rw [← e]; exact hk⟩
      · rintro ⟨rfl | ⟨_, hne⟩, e⟩
        · rfl
        · exact absurd (e.trans hk.symm) hne
    · rw [if_neg hk, ih]
      constructor
      · rintro ⟨a, e⟩
        exact ⟨Or.inr ⟨a, fun e' => hk (e'.symm.trans e)⟩, e⟩
      · rintro ⟨rfl | ⟨a, _⟩, e⟩
        · exact absurd e hk
        · exact ⟨a, e⟩
theorem eff_last (ops : List Dat) (k : List UInt8) : eff (lastD ops) k = eff ops k := by
  apply Option.ext
  intro o
  rw [eff_iff, eff_iff, lk_sd (lastD_all ops).1, (lastD_all ops).2]
def took (l : List Pd) (ops : List Dat) (k : List UInt8) : Option (List UInt8) := match eff ops k with
  | some o => if o.2.2 then none else some o.2.1
  | none => look l k
theorem doD_all {l : List Pd} (h : SP l) (ops : List Dat) : SP (doD l ops) ∧ (∀ k, look (doD l ops) k = took l ops k) ∧ ∀ x ∈ doD l ops, x ∈ l ∨ ∃ o ∈ ops, x = (o.1, o.2.1) ∧ o.2.2 = false := by
  induction ops using snoc_ind with
  | h0 => exact ⟨h, fun k => rfl, fun x hx => Or.inl hx⟩
  | h1 ops o ih =>
    obtain ⟨i1, i2, i3⟩ := ih
    obtain ⟨o1, o2, o3⟩ := oneD_all i1 o
    rw [doD_snoc]
    refine ⟨o1, fun k => ?_, fun x hx => ?_⟩
    · rw [o2, took, eff_snoc]
      by_cases e : kD o = k
      · rw [if_pos e.symm, if_pos e]
      · rw [if_neg (fun e' => e e'.symm), if_neg e, i2, took]
    · rcases o3 x hx with hx | ⟨e1, e2⟩
      · rcases i3 x hx with hx | ⟨p, hp, hq⟩
        · exact Or.inl hx
        · exact Or.inr ⟨p, List.mem_append_left _ hp, hq⟩
      · exact Or.inr ⟨o, by simp, e1, e2⟩
theorem doD_last {l : List Pd} (h : SP l) (ops : List Dat) : doD l (lastD ops) = doD l ops := by
  refine look_ext (doD_all h _).1 (doD_all h _).1 fun k => ?_
  rw [(doD_all h _).2.1, (doD_all h _).2.1, took, took, eff_last]
theorem doD_len (l : List Pd) (ops : List Dat) : (doD l ops).length ≤ l.length + ops.length := by
  induction ops using snoc_ind with
  | h0 => simp [doD]
  | h1 ops o ih =>
    rw [doD_snoc, List.length_append]
    have : (oneD (doD l ops) o).length ≤ (doD l ops).length + 1 := by
      unfold oneD
      have hp := plc_le (doD l ops) (kD o)
      split
      · rename_i hs
        have hlt : plc (doD l ops) (kD o) < (doD l ops).length := by
          cases hg : (doD l ops)[plc (doD l ops) (kD o)]? with
          | none => rw [hg] at hs; cases hs
          | some x => exact (List.getElem?_eq_some_iff.1 hg).1
        split
        · rw [List.length_append, List.length_take, List.length_drop]; omega
        · rw [List.length_append, List.length_take, List.length_cons, List.length_drop]; omega
      · split
        · omega
        · rw [List.length_append, List.length_take, List.length_cons, List.length_drop]; omega
    simp only [List.length_cons, List.length_nil]
    omega
/-- What operations that may be make of a right list is right. -/
theorem doD_right {l : List Pd} (h : rightD l = true) {ops : List Dat} (ho : chkE ops = 0) : rightD (doD l ops) = true := by
  obtain ⟨h1, h2⟩ := (right_iff l).1 h
  refine (right_iff _).2 ⟨(doD_all h1 ops).1, fun x hx => ?_⟩
  rcases (doD_all h1 ops).2.2 x hx with hx | ⟨o, hm, rfl, hd⟩
  · exact h2 x hx
  · unfold chkE at ho
    split at ho
    · cases ho
    · split at ho
      · cases ho
      · rename_i hw
        split at ho
        · cases ho
        · split at ho
          · cases ho
          · rename_i hlg
            simp only [Bool.not_eq_true, List.any_eq_false] at hw hlg
            have w1 := hw o hm
            have w2 := hlg o hm
            unfold wrongD at w1
            unfold largeD at w2
            unfold pmay
            simp only [hd, Bool.false_and, Bool.or_false, Bool.not_eq_false', Nat.not_lt, decide_eq_false_iff_not] at w1 w2
            simp only [Bool.and_eq_true, decide_eq_true_eq]
            exact ⟨by simpa [kmayB, kmay] using w1, w2⟩
/-- What a range has. -/
def scanD (l : List Pd) (lo hi : List UInt8) (most : Nat) : List Pd := (l.filter fun x => wi lo hi (kP x)).take most
theorem tw_take {α : Type} (p : α → Bool) (l : List α) : ∀ m, (l.take m).takeWhile p = (l.takeWhile p).take m := by
  induction l with
  | nil => intro m; simp
  | cons x l ih =>
    intro m
    cases m with
    | zero => simp
    | succ m =>
      rw [List.take_succ_cons, List.takeWhile_cons, List.takeWhile_cons]
      split
      · rw [ih, List.take_succ_cons]
      · simp
theorem wi_stop {lo hi a b : List UInt8} (h1 : tl a lo = false) (h2 : tl a b = true) (h3 : wi lo hi a = false) : wi lo hi b = false := by
  unfold wi at *
  rw [h1] at h3
  simp only [Bool.not_false, Bool.true_and, Bool.or_eq_false_iff] at h3
  cases hb : tl b hi with
  | false => simp [h3.1]
  | true => rw [tl_trans _ _ _ h2 hb] at h3; cases h3.2
theorem tw_filter {B : List Pd} (h : SP B) (lo hi : List UInt8) (hlo : ∀ x ∈ B, tl (kP x) lo = false) : B.filter (fun x => wi lo hi (kP x)) = B.takeWhile (fun x => wi lo hi (kP x)) := by
  induction B with
  | nil => rfl
  | cons b B ih =>
    obtain ⟨h1, h2⟩ := List.pairwise_cons.1 h
    rw [List.filter_cons, List.takeWhile_cons]
    cases hw : wi lo hi (kP b) with
    | true => simp [ih h2 (fun x hx => hlo x (List.mem_cons_of_mem _ hx))]
    | false =>
      simp only [Bool.false_eq_true, if_false]
      rw [List.filter_eq_nil_iff]
      intro x hx
      rw [wi_stop (hlo b (by simp)) (h1 x hx) hw]
      simp
/-- What the landed code finds, by halves. -/
theorem scan_of {l : List Pd} (h : SP l) (lo hi : List UInt8) (most r : Nat) (hr : r ≤ ((l.drop (plc l lo)).take most).length)
    (h1 : ∀ t x, r = t + 1 → ((l.drop (plc l lo)).take most)[t]? = some x → wi lo hi (kP x) = true) (h2 : ∀ x, ((l.drop (plc l lo)).take most)[r]? = some x → wi lo hi (kP x) = false) :
    ((l.drop (plc l lo)).take most).take r = scanD l lo hi most := by
  obtain ⟨A, B, hl, hA, hB, hlen, sA, sB, a1, b1, ab⟩ := plc_parts h lo
  rw [← hB] at hr h1 h2 ⊢
  have sT : SP (B.take most) := List.Pairwise.sublist (List.take_sublist _ _) sB
  have hT : ∀ x ∈ B.take most, tl (kP x) lo = false := fun x hx => b1 x (List.mem_of_mem_take hx)
  have e := (tw_of (fun x => wi lo hi (kP x)) (B.take most) r hr (fun i x hi' hx => ?_) h2).1
  · have eA : A.filter (fun x => wi lo hi (kP x)) = [] := List.filter_eq_nil_iff.2 (fun x hx => by unfold wi; rw [a1 x hx]; simp)
    rw [← e, tw_take, ← tw_filter sB lo hi b1]
    unfold scanD
    conv => rhs; rw [hl, List.filter_append, eA, List.nil_append]
  · obtain ⟨t, rfl⟩ : ∃ t, r = t + 1 := ⟨r - 1, by omega⟩
    have ht : t < (B.take most).length := by omega
    have et := h1 t _ rfl (List.getElem?_eq_getElem ht)
    obtain ⟨hi'', rfl⟩ := List.getElem?_eq_some_iff.1 hx
    rcases Nat.lt_or_eq_of_le (Nat.lt_succ_iff.1 hi') with g | g
    · cases hw : wi lo hi (kP (B.take most)[i]) with
      | true => rfl
      | false => rw [wi_stop (hT _ (List.getElem_mem hi'')) (List.pairwise_iff_getElem.1 sT i t hi'' ht g) hw] at et; cases et
    · subst g; exact et
/-- All bytes. -/
def bytesP (l : List Pd) : Nat := (l.map fun x => x.1.size + x.2.length).sum
theorem bytesP_app (l m : List Pd) : bytesP (l ++ m) = bytesP l + bytesP m := by simp [bytesP]
theorem bytesP_take (l : List Pd) (k : Nat) (h : k < l.length) : bytesP (l.take (k + 1)) = bytesP (l.take k) + (l[k].1.size + l[k].2.length) := by
  rw [List.take_succ_eq_append_getElem h, bytesP_app]
  simp [bytesP]
end Go.Proofs.Ytjkkdijoogiipaa

/- What two lists of pairs differ in, as plain data; nothing here speaks of the program. -/
namespace Go.Proofs.Ytjkkdijoogiipaa
open Go.RowKit

/-- A difference: its key, was it there, is it there, the value that was, the value that is. -/
abbrev Df := ByteArray × Bool × Bool × List UInt8 × List UInt8
/-- The least key of both. -/
def lstK : List Pd → List Pd → ByteArray
  | [], [] => ⟨#[]⟩
  | x :: _, [] => x.1
  | [], y :: _ => y.1
  | x :: _, y :: _ => if tl (kP x) (kP y) then x.1 else y.1
/-- The first pair's value, if its key is this one, and the rest. -/
def tkn (l : List Pd) (k : ByteArray) : List UInt8 × Bool × List Pd := match l with
  | [] => ([], false, [])
  | x :: r => if kP x = k.toList then (x.2, true, r) else ([], false, x :: r)
def difF : Nat → List Pd → List Pd → List Df
  | 0, _, _ => []
  | n + 1, a, b => if a.isEmpty && b.isEmpty then [] else
      if ((tkn a (lstK a b)).2.1 == (tkn b (lstK a b)).2.1) && ((tkn a (lstK a b)).1 == (tkn b (lstK a b)).1) then difF n (tkn a (lstK a b)).2.2 (tkn b (lstK a b)).2.2
      else (lstK a b, (tkn a (lstK a b)).2.1, (tkn b (lstK a b)).2.1, (tkn a (lstK a b)).1, (tkn b (lstK a b)).1) :: difF n (tkn a (lstK a b)).2.2 (tkn b (lstK a b)).2.2
def difD (a b : List Pd) : List Df := difF (a.length + b.length) a b
theorem difF_step (n : Nat) (a b : List Pd) (h : (a.isEmpty && b.isEmpty) = false) : difF (n + 1) a b = if ((tkn a (lstK a b)).2.1 == (tkn b (lstK a b)).2.1) && ((tkn a (lstK a b)).1 == (tkn b (lstK a b)).1) then difF n (tkn a (lstK a b)).2.2 (tkn b (lstK a b)).2.2
      else (lstK a b, (tkn a (lstK a b)).2.1, (tkn b (lstK a b)).2.1, (tkn a (lstK a b)).1, (tkn b (lstK a b)).1) :: difF n (tkn a (lstK a b)).2.2 (tkn b (lstK a b)).2.2 := by
  rw [difF, if_neg (by simp [h])]
theorem difF_nil (n : Nat) : difF n [] [] = [] := by cases n <;> rfl
theorem tkn_len (l : List Pd) (k : ByteArray) : (tkn l k).2.2.length ≤ l.length := by
  unfold tkn
  split
  · simp
  · split <;> simp
theorem tkn_hit (x : Pd) (l : List Pd) : tkn (x :: l) x.1 = (x.2, true, l) := by
  unfold tkn
  simp [kP]
/-- At least one is taken. -/
theorem dif_less (a b : List Pd) (h : 0 < a.length ∨ 0 < b.length) : (tkn a (lstK a b)).2.2.length + (tkn b (lstK a b)).2.2.length + 1 ≤ a.length + b.length := by
  match a, b with
  | [], [] => simp at h
  | x :: a, [] =>
    have h1 := tkn_len [] (lstK (x :: a) [])
    have h2 : lstK (x :: a) [] = x.1 := rfl
    rw [h2] at h1 ⊢
    rw [tkn_hit]
    simp only [List.length_cons, List.length_nil] at h1 ⊢
    omega
  | [], y :: b =>
    have h1 := tkn_len [] (lstK [] (y :: b))
    have h2 : lstK [] (y :: b) = y.1 := rfl
    rw [h2] at h1 ⊢
    rw [tkn_hit]
    simp only [List.length_cons, List.length_nil] at h1 ⊢
    omega
  | x :: a, y :: b =>
    by_cases hl : tl (kP x) (kP y) = true
    · have h2 : lstK (x :: a) (y :: b) = x.1 := by simp [lstK, hl]
      have h1 := tkn_len (y :: b) x.1
      rw [h2, tkn_hit]
      simp only [List.length_cons] at h1 ⊢
      omega
    · have h2 : lstK (x :: a) (y :: b) = y.1 := by simp [lstK, hl]
      have h1 := tkn_len (x :: a) y.1
      rw [h2, tkn_hit]
      simp only [List.length_cons] at h1 ⊢
      omega
end Go.Proofs.Ytjkkdijoogiipaa

/- Package plain as landed: may, Check. -/
namespace Go.Proofs.Ytjkkdijoogiipaa
open Go.RowKit

set_option maxRecDepth 20000 in
set_option maxHeartbeats 2000000 in
theorem pmay_any (x : El) (w : World) (h : Row w (vof x.1) x.2) : Calls Try.prog 26 #[.agg (prA x.1)] w fun e w' => e = .returned (.bool (pmay (x.1.key, x.2))) ∧ Below w.heap.size w w' := by
  obtain ⟨rn, rl⟩ := row_n h
  obtain ⟨⟨ak, ap, an, ac, ad⟩, av⟩ := x
  simp only at rn rl
  subst rn
  have hE : pmay (ak, av) = (kmay ak && decide (av.length ≤ 4096)) := rfl
  simp only
  generalize pmay (ak, av) = R at *
  have HB := hide (fun (o1 : Obj) => (Below.refl w.heap.size w).alloc (Nat.le_refl _) o1)
  have HK : Hid (∀ W, Calls Try.prog 33 #[.string ak] W fun e w' => e = .returned (.bool (kmay ak)) ∧ w' = W) := fun W => kmay_any ak W
  unfold prA
  simp only
  have hl1 : (av.length : Int) ≤ 9223372036854775807 := by omega
  generalize kmay ak = KB at *
  generalize av.length = n at *
  have HE := hide hE
  clear hE h rl
  cases KB with
  | false =>
    go_enter Try.func26, Try.ntmps26
    go_wp2_with (go_at_call 33; refine Calls.mono (unhide HK _) ?_; rintro e w' ⟨rfl, rfl⟩)
    go_ret
    exact ⟨by rw [unhide HE]; rfl, unhide HB _⟩
  | true =>
    go_enter Try.func26, Try.ntmps26
    go_wp2_with (go_at_call 33; refine Calls.mono (unhide HK _) ?_; rintro e w' ⟨rfl, rfl⟩)
    go_ret
    refine ⟨?_, unhide HB _⟩
    rw [unhide HE]
    simp
    omega

set_option maxRecDepth 20000 in
set_option maxHeartbeats 4000000 in
theorem pcheck_any (v : Value) (L : List El) (w : World) (h : EL 2 prC w v L) :
    Calls Try.prog 12 #[v] w fun e w' => e = .returned (.int .i64 (if rightD (pdat L) then 0 else 11)) ∧ Below w.heap.size w w' := by
  by_cases h0 : L.length = 0
  · obtain ⟨p1, c1, rfl, _⟩ := h.shape
    obtain rfl : L = [] := List.eq_nil_of_length_eq_zero h0
    go_enter Try.func12, Try.ntmps12
    go_wp2
    refine wp_loop_rounds 1 ?_
    rw [rounds_succ]
    go_wp2
    go_ret
    exact ⟨rfl, Below.refl _ _⟩
  obtain ⟨b1, o1, c1, rfl, k1, k2, hsn⟩ := h.seenP (by omega)
  obtain ⟨l, hl⟩ : ∃ l, l = L.length := ⟨_, rfl⟩
  rw [← hl] at k1 ⊢
  unfold maxLen at k2
  have hl0 : (l : Int) ≤ 9223372036854775807 := by omega
  have HSN := hide hsn
  have HLN := hide hl
  obtain ⟨R, hR⟩ : ∃ R, R = rightD (pdat L) := ⟨_, rfl⟩
  obtain ⟨E, hE⟩ : ∃ E : Int, E = if rightD (pdat L) then 0 else 11 := ⟨_, rfl⟩
  rw [← hE]
  rw [← hR] at hE
  have HR := hide hR
  have HE := hide hE
  clear h hsn k1 k2 hl h0 hR hE
  go_enter Try.func12, Try.ntmps12
  go_wp2
  go_loopw [7] (fun i wr => ∃ k : Nat, k ≤ l ∧ i = .int .i64 k ∧ Hid ((∀ j (h : j < (pdat L).length), j < k → okP (pdat L)[j] j ((pdat L)[j - 1]'(by omega)) = true) ∧ Below w.heap.size w wr)) (fun i _ => l - (intOf i).toNat)
  case atStart => exact ⟨0, Nat.zero_le _, rfl, fun j _ hj => by omega, Below.refl _ _⟩
  case round =>
    obtain ⟨k, hk, rfl, hst⟩ := hrel
    obtain ⟨hn, hb⟩ := unhide hst
    by_cases hlt : (k : Int) < (l : Int)
    · have hl := unhide HLN
      have i1 : k < L.length := by omega
      have i0 : k - 1 < L.length := by omega
      have e1 : (pdat L)[k]'(by rw [pdat_len]; exact i1) = (L[k].1.key, L[k].2) := pdat_get L k i1
      have e0 : (pdat L)[k - 1]'(by rw [pdat_len]; exact i0) = (L[k - 1].1.key, L[k - 1].2) := pdat_get L (k - 1) i0
      have hyes : okP (L[k].1.key, L[k].2) k (L[k - 1].1.key, L[k - 1].2) = true → ∀ j (h : j < (pdat L).length), j < k + 1 → okP (pdat L)[j] j ((pdat L)[j - 1]'(by omega)) = true := by
        intro ho j hj hjk
        by_cases g : j = k
        · subst g
          rw [e1, e0]
          exact ho
        · exact hn j hj (by omega)
      have hno : okP (L[k].1.key, L[k].2) k (L[k - 1].1.key, L[k - 1].2) = false → R = false := by
        intro ho
        rw [unhide HR]
        refine right_no (pdat L) k (by rw [pdat_len]; exact i1) ?_
        rw [e1, e0]
        exact ho
      have HS := hide (fun W hW => And.intro (unhide HSN k i1 W hW) (unhide HSN (k - 1) i0 W hW))
      obtain ⟨⟨a1, a2, ar⟩, a3, a4, ar0⟩ := unhide HS wr hb
      have HMY := hide (fun W hW => pmay_any L[k] W (unhide HS W hW).1.2.2)
      have HOK : Hid (okP (L[k].1.key, L[k].2) k (L[k - 1].1.key, L[k - 1].2) = (pmay (L[k].1.key, L[k].2) && (decide (k = 0) || tl L[k - 1].1.key.toList L[k].1.key.toList))) := rfl
      generalize okP (L[k].1.key, L[k].2) k (L[k - 1].1.key, L[k - 1].2) = OK at *
      generalize pmay (L[k].1.key, L[k].2) = PM at *
      generalize L[k] = x at *
      generalize L[k - 1] = y at *
      obtain ⟨⟨ak, ap, an, ac, ad⟩, av⟩ := x
      obtain ⟨⟨bk, bp, bn, bc, bd⟩, bv⟩ := y
      unfold prA vof at *
      simp only at *
      obtain ⟨W1, hW1⟩ : ∃ W1, W1 = wr.alloc (.cells #[.string ak, .slice ap an ac] 34) := ⟨_, rfl⟩
      have hb1 : Below wr.heap.size wr W1 := by rw [hW1]; exact (Below.refl _ _).alloc (Nat.le_refl _) _
      have hBW : Below w.heap.size w W1 := hb.trans (hb1.mono hb.size)
      have hn5 : W1.cell? ⟨wr.heap.size, 0, none⟩ = some (.string ak) ∧ W1.cell? ⟨wr.heap.size, 1, none⟩ = some (.slice ap an ac) := by
        rw [hW1]; simp
      obtain ⟨CC, hCC⟩ : ∃ CC : World → Prop, CC = fun w' => Below W1.heap.size W1 w' := ⟨_, rfl⟩
      have HC0 : Hid (CC { W1 with drawn := W1.drawn + 1 }) := by
        unfold Hid
        rw [hCC]
        exact (Below.refl _ _).drew
      have hW1l : wr.heap.size < W1.heap.size := World.block_lt_of_cell? W1 _ hn5.1
      have HCWa : ∀ w', CC w' → Below w.heap.size w w' := by
        rw [hCC]
        exact fun w' hb => hBW.trans (hb.mono hBW.size)
      have HCC0 : Hid (∀ w', CC w' → w'.cell? ⟨wr.heap.size, 0, none⟩ = some (.string ak) ∧ w'.cell? ⟨wr.heap.size, 1, none⟩ = some (.slice ap an ac) ∧ w'.cell? ⟨b1, o1 + (k - 1) * 2, none⟩ = some (.string bk)) := by
        unfold Hid
        intro w' hb'
        have h9 := (unhide HS w' (HCWa w' hb')).2.1
        rw [hCC] at hb'
        have hc := fun i => hb'.cell (p := ⟨wr.heap.size, i, none⟩) hW1l
        exact ⟨(hc _).trans hn5.1, (hc _).trans hn5.2, h9⟩
      have HMC2 : Hid (∀ w', CC w' → Calls Try.prog 26 #[.agg #[.string ak, .slice ap an ac]] w' fun e w'' => e = .returned (.bool PM) ∧ CC w'') := by
        unfold Hid
        intro w' hb'
        have h9 := unhide HMY w' (HCWa w' hb')
        rw [hCC] at hb' ⊢
        exact h9.mono fun e w'' hx => ⟨hx.1, hb'.trans (hx.2.mono hb'.size)⟩
      have HCW := hide HCWa
      have HLS : Hid (∀ W, Calls Try.prog 27 #[.string bk, .string ak] W fun e w' => e = .returned (.bool (tl bk.toList ak.toList)) ∧ w' = W) := fun W => kless_any bk ak W
      generalize tl bk.toList ak.toList = TL at *
      have HYN := hide (And.intro hyes hno)
      have HW1 := hide hW1
      clear hn hb hl i1 i0 e1 e0 hyes hno ar ar0 hst hCC hn5 hb1 hBW HMY hW1l hW1 HCWa a3 a4 HS
      cases PM with
      | false =>
        have HCC := HCC0
        go_wp2_with fail
        rw [← unhide HW1]
        refine region_calm CC (by kernel_rfl) (by kernel_rfl) (unhide HC0) ?_
        repeat (first
          | go_big_quiet_skip
          | (go_big_quiet_want
             apply Exists.intro
             refine ⟨fun w' hw' => ?_, ?_⟩
             · obtain ⟨c0, c1, c2⟩ := unhide HCC w' hw'
               go_simp
               first | done | rfl | exact unhide HMC2 w' hw' | exact Calls.mono (unhide HLS w') (fun e w'' hx => ⟨hx.1, hx.2 ▸ hw'⟩)
             simp only [Act.put, List.setIfInBounds_toArray, List.set_cons_zero, List.set_cons_succ]
             go_big_quiet_on))
        refine wpQuiet_nil ?_
        intro w' hw'
        have HBW := hide (unhide HCW w' hw')
        go_wp2
        go_ret
        exact ⟨by rw [unhide HE, (unhide HYN).2 (by rw [unhide HOK]; rfl)]; rfl, unhide HBW⟩
      | true =>
        by_cases hk0 : k = 0
        · subst hk0
          simp only [Nat.zero_mul, Nat.add_zero] at a1 a2
          have HCC := HCC0
          go_wp2_with fail
          rw [← unhide HW1]
          refine region_calm CC (by kernel_rfl) (by kernel_rfl) (unhide HC0) ?_
          repeat (first
            | go_big_quiet_skip
            | (go_big_quiet_want
               apply Exists.intro
               refine ⟨fun w' hw' => ?_, ?_⟩
               · obtain ⟨c0, c1, c2⟩ := unhide HCC w' hw'
                 go_simp
                 first | done | rfl | exact unhide HMC2 w' hw' | exact Calls.mono (unhide HLS w') (fun e w'' hx => ⟨hx.1, hx.2 ▸ hw'⟩)
               simp only [Act.put, List.setIfInBounds_toArray, List.set_cons_zero, List.set_cons_succ]
               go_big_quiet_on))
          refine wpQuiet_nil ?_
          intro w' hw'
          have HBW := hide (unhide HCW w' hw')
          go_wp2
          go_roundw
          case rel => exact ⟨0 + 1, by omega, by go_num, (unhide HYN).1 (by rw [unhide HOK]; rfl), unhide HBW⟩
          case measure => simp [intOf]; omega
        · obtain ⟨m, rfl⟩ : ∃ m, k = m + 1 := ⟨k - 1, by omega⟩
          have HCC := HCC0
          simp only [Nat.add_sub_cancel] at HCC
          have HK0 : Hid (decide (m + 1 = 0) = false) := by simp [Hid]
          have hm1 : (m : Int) < l := by omega
          have hwm : IntKind.i64.wrap (m : Int) = m := by rw [IntKind.wrap_i64]; omega
          clear hk0
          cases TL with
          | false =>
            go_wp2_with fail
            rw [← unhide HW1]
            refine region_calm CC (by kernel_rfl) (by kernel_rfl) (unhide HC0) ?_
            repeat (first
              | go_big_quiet_skip
              | (go_big_quiet_want
                 apply Exists.intro
                 refine ⟨fun w' hw' => ?_, ?_⟩
                 · obtain ⟨c0, c1, c2⟩ := unhide HCC w' hw'
                   go_simp
                   first | done | rfl | exact unhide HMC2 w' hw' | exact Calls.mono (unhide HLS w') (fun e w'' hx => ⟨hx.1, hx.2 ▸ hw'⟩)
                 simp only [Act.put, List.setIfInBounds_toArray, List.set_cons_zero, List.set_cons_succ]
                 go_big_quiet_on))
            refine wpQuiet_nil ?_
            intro w' hw'
            have HBW := hide (unhide HCW w' hw')
            go_wp2
            go_ret
            exact ⟨by rw [unhide HE, (unhide HYN).2 (by rw [unhide HOK, unhide HK0]; rfl)]; rfl, unhide HBW⟩
          | true =>
            go_wp2_with fail
            rw [← unhide HW1]
            refine region_calm CC (by kernel_rfl) (by kernel_rfl) (unhide HC0) ?_
            repeat (first
              | go_big_quiet_skip
              | (go_big_quiet_want
                 apply Exists.intro
                 refine ⟨fun w' hw' => ?_, ?_⟩
                 · obtain ⟨c0, c1, c2⟩ := unhide HCC w' hw'
                   go_simp
                   first | done | rfl | exact unhide HMC2 w' hw' | exact Calls.mono (unhide HLS w') (fun e w'' hx => ⟨hx.1, hx.2 ▸ hw'⟩)
                 simp only [Act.put, List.setIfInBounds_toArray, List.set_cons_zero, List.set_cons_succ]
                 go_big_quiet_on))
            refine wpQuiet_nil ?_
            intro w' hw'
            have HBW := hide (unhide HCW w' hw')
            go_wp2
            go_roundw
            case rel => exact ⟨m + 1 + 1, by omega, by go_num, (unhide HYN).1 (by rw [unhide HOK]; simp), unhide HBW⟩
            case measure => simp [intOf]; omega
    · have HA := hide (And.intro hn hb)
      clear hn hb hst
      go_wp2
      go_ret
      obtain ⟨hn, hb⟩ := unhide HA
      refine ⟨?_, hb⟩
      have hT : R = true := by
        rw [unhide HR, right_all]
        intro j hj
        exact hn j hj (by have := unhide HLN; rw [pdat_len] at hj; omega)
      rw [unhide HE, hT]
      rfl
end Go.Proofs.Ytjkkdijoogiipaa

/- 's[l:]', 's[:h]' and append of whatever row of things of k cells, as steps of a walk; nothing here speaks of the program. -/
namespace Go.Proofs.Ytjkkdijoogiipaa
open Go.RowKit

theorem krow_sliced {k : Nat} {w : World} {n : Nat} {cs : List Value} {a : Option Addr} {cap : Nat} (h : KRow k w (.slice a n cap) n cs) (l hh m : Nat) (h1 : l ≤ hh) (h2 : hh ≤ n) (h3 : hh ≤ m) (h4 : m ≤ cap) :
    KRow k w (sliced a l hh m k) (hh - l) ((cs.drop (l * k)).take ((hh - l) * k)) := by
  obtain ⟨a', cap', e, k1, k2, k3, k5, k4⟩ := h
  simp only [Value.slice.injEq] at e
  obtain ⟨rfl, _, rfl⟩ := e
  have hm : hh * k ≤ n * k := Nat.mul_le_mul_right k h2
  have hd : (hh - l) * k = hh * k - l * k := Nat.sub_mul ..
  have hlk : l * k ≤ hh * k := Nat.mul_le_mul_right k h1
  have hlen : ((cs.drop (l * k)).take ((hh - l) * k)).length = (hh - l) * k := by
    rw [List.length_take, List.length_drop, k5]
    omega
  unfold sliced
  refine ⟨_, m - l, rfl, by omega, by omega, ?_, hlen, ?_⟩
  · intro e
    split at e
    · omega
    · cases a with
      | none => have := k3 rfl; omega
      | some ad => simp at e
  · by_cases h0 : hh = l
    · left; omega
    · right
      rcases k4 with k4 | ⟨b, off, rfl, hc⟩
      · omega
      · refine ⟨b, off + l * k, ?_, fun j v hj => ?_⟩
        · rw [if_neg (by omega), Option.map_some, Addr.add_lit]
        · have hj' : cs[l * k + j]? = some v := by
            rw [List.getElem?_take] at hj
            split at hj
            · rwa [List.getElem?_drop] at hj
            · cases hj
          have := hc (l * k + j) v hj'
          rwa [← Nat.add_assoc] at this
theorem ksize {P : Program} {w : World} {t e : TypeId} {k : Nat} (ht : P.underlying t = some (.slice e)) (hsz : (P.info? e).map (·.size) = some k) : (sizeOf (P.elem t)).run P w = .ok k w := by
  rw [elem_of ht]
  cases hi : P.info? e with
  | none => rw [hi] at hsz; cases hsz
  | some i => rw [hi] at hsz; simp at hsz; simp [sizeOf, typeInfo, hi, hsz]
theorem wpList_kslice_l {P : Program} {w w0 : World} {ops : Array Oper} {rest : List Oper} {o : Oper} {a : Act} {Q : Exit → Act → World → Prop} (hgd : o.guard = none) (t e : TypeId) (x lo : Operand)
    (ho : o.op = .slice t x (some lo) none none) (k : Nat) (ht : P.underlying t = some (.slice e)) (hsz : (P.info? e).map (·.size) = some k)
    (p : Option Addr) (n cap : Nat) (cs : List Value) (l : Nat) (hx : a.eval x = .slice p n cap) (hl : a.eval lo = .int .i64 (l : Int)) (hr : KRow k w0 (.slice p n cap) n cs) (h1 : l ≤ n)
    (hk : ∀ q c, KRow k w0 (.slice q (n - l) c) (n - l) (cs.drop (l * k)) → wpList P ops Q rest (a.put o.dst (.slice q (n - l) c)) w) : wpList P ops Q (o :: rest) a w := by
  have hcap : n ≤ cap := by obtain ⟨_, _, e, h, _⟩ := hr; simp only [Value.slice.injEq] at e; omega
  have hrow := krow_sliced hr l n cap h1 (Nat.le_refl _) hcap (Nat.le_refl _)
  have hlen : cs.length = n * k := by obtain ⟨_, _, _, _, _, _, h, _⟩ := hr; exact h
  rw [List.take_of_length_le (by rw [List.length_drop, hlen, Nat.sub_mul]; omega)] at hrow
  have hrun := run_slice_l (P := P) w t p n cap (by rw [elem_of ht]; exact ht) .i64 (l : Int) (by omega) (by omega)
  rw [ksize ht hsz] at hrun
  simp only [Result.andThen_ok, Int.toNat_natCast] at hrun
  refine wpList_plain hgd fun K hK => ?_
  unfold Oper.wp execOp
  simp only [ho, hx, hl, Option.map_some, Option.map_none, Sem.run_bind, run_sliceAt_slice (P := P) w t _ _ _ _ (by rw [elem_of ht]; exact ht), hrun, Result.andThen_ok, Sem.run_pure]
  unfold sliced at hrow ⊢
  exact hK _ _ (hk _ _ hrow)
theorem wpList_kslice_h {P : Program} {w w0 : World} {ops : Array Oper} {rest : List Oper} {o : Oper} {a : Act} {Q : Exit → Act → World → Prop} (hgd : o.guard = none) (t e : TypeId) (x hi : Operand)
    (ho : o.op = .slice t x none (some hi) none) (k : Nat) (ht : P.underlying t = some (.slice e)) (hsz : (P.info? e).map (·.size) = some k)
    (p : Option Addr) (n cap : Nat) (cs : List Value) (l : Nat) (hx : a.eval x = .slice p n cap) (hl : a.eval hi = .int .i64 (l : Int)) (hr : KRow k w0 (.slice p n cap) n cs) (h1 : l ≤ n)
    (hk : ∀ q c, KRow k w0 (.slice q l c) l (cs.take (l * k)) → wpList P ops Q rest (a.put o.dst (.slice q l c)) w) : wpList P ops Q (o :: rest) a w := by
  have hcap : n ≤ cap := by obtain ⟨_, _, e, h, _⟩ := hr; simp only [Value.slice.injEq] at e; omega
  have hrow := krow_sliced hr 0 l cap (by omega) h1 (by omega) (Nat.le_refl _)
  simp only [Nat.zero_mul, List.drop_zero, Nat.sub_zero] at hrow
  have hrun := run_slice_h (P := P) w t p n cap (by rw [elem_of ht]; exact ht) .i64 (l : Int) (by omega) (by omega)
  rw [ksize ht hsz] at hrun
  simp only [Result.andThen_ok, Int.toNat_natCast] at hrun
  refine wpList_plain hgd fun K hK => ?_
  unfold Oper.wp execOp
  simp only [ho, hx, hl, Option.map_some, Option.map_none, Sem.run_bind, run_sliceAt_slice (P := P) w t _ _ _ _ (by rw [elem_of ht]; exact ht), hrun, Result.andThen_ok, Sem.run_pure]
  unfold sliced at hrow ⊢
  exact hK _ _ (hk _ _ hrow)
/-- append of a row of things. -/
theorem wpList_append_krow {P : Program} {w : World} {ops : Array Oper} {rest : List Oper} {o : Oper} {a : Act} {Q : Exit → Act → World → Prop} (hgd : o.guard = none) (s x : Operand) (t : TypeId)
    (ho : o.op = .call { callee := .builtin .append, args := #[s, x], argTypes := #[t, t] })
    (base : Nat) (e : TypeId) (i : TypeInfo) (z : Value) (ht : P.underlying t = some (.slice e)) (hi : P.info? e = some i) (hz : i.zero = some z)
    (size bytes : Nat) (hsz0 : 0 < size) (hsize : i.size = size) (hby : i.bytes = bytes) (hzs : z.cells.size = size)
    (v : Value) (n : Nat) (xs : List Value) (hs : a.eval s = v) (hown : w.ownsRow base e size v n xs) (p : Option Addr) (m c : Nat) (news : List Value) (hx : a.eval x = .slice p m c)
    (hrow : KRow size w (.slice p m c) m news) (hone : ∀ u ∈ news, u.oneCell' = true) (h63 : n + m ≤ maxLen) (hbytes : (n + m) * bytes ≤ 140737488355328) (hbase : base ≤ w.heap.size)
    (h : ∀ v' w', w'.ownsRow base e size v' (n + m) (xs ++ news) → w.grownBy w' v.ownBlock → (v'.ownBlock = v.ownBlock ∨ v'.ownBlock = some w.heap.size) → wpList P ops Q rest (a.put o.dst v') w') : wpList P ops Q (o :: rest) a w := by
  have hr := hrow
  obtain ⟨a', cap', e', k1, k2, k3, k5, k4⟩ := hr
  simp only [Value.slice.injEq] at e'
  obtain ⟨rfl, _, rfl⟩ := e'
  cases p with
  | none =>
    have hc0 := k3 rfl
    subst hc0
    have hm0 : m = 0 := by omega
    subst hm0
    have hn0 : news = [] := List.eq_nil_of_length_eq_zero (by rw [k5]; simp)
    subst hn0
    exact wpList_append_own_none hgd s x t ho base e i size ht hi v n xs hs hown hx (h v w (by simpa using hown) (World.grownBy.refl _ _) (Or.inl rfl))
  | some ad =>
    refine wpList_append_gen hgd s x t ho base e i z ht hi hz size bytes hsz0 hsize hby hzs v n xs hs hown ad m c news hx k5 (fun j u hu => ?_) hone h63 hbytes hbase h
    rcases k4 with k4 | ⟨b, off, e2, hc⟩
    · subst k4
      have : news = [] := List.eq_nil_of_length_eq_zero (by rw [k5]; simp)
      subst this
      simp at hu
    · simp only [Option.some.injEq] at e2
      rw [e2, Addr.add_lit]
      exact hc j u hu
theorem elC_take {k : Nat} {cf : Opv → List Value} (hk : ∀ o, (cf o).length = k) (L : List El) (j : Nat) (hj : j ≤ L.length) : (elC cf L).take (j * k) = elC cf (L.take j) := by
  conv => lhs; rw [← List.take_append_drop j L, elC_app]
  rw [List.take_left' (by rw [elC_len hk, List.length_take]; congr 1; omega)]
theorem elC_drop {k : Nat} {cf : Opv → List Value} (hk : ∀ o, (cf o).length = k) (L : List El) (j : Nat) (hj : j ≤ L.length) : (elC cf L).drop (j * k) = elC cf (L.drop j) := by
  conv => lhs; rw [← List.take_append_drop j L, elC_app]
  rw [List.drop_left' (by rw [elC_len hk, List.length_take]; congr 1; omega)]
theorem dat_take (L : List El) (j : Nat) : dat (L.take j) = (dat L).take j := by simp [dat, List.map_take]
theorem dat_drop (L : List El) (j : Nat) : dat (L.drop j) = (dat L).drop j := by simp [dat, List.map_drop]
theorem dat_set (L : List El) (j : Nat) (x : El) : dat (L.set j x) = (dat L).set j (x.1.key, x.2, x.1.del) := by simp [dat, List.map_set]
end Go.Proofs.Ytjkkdijoogiipaa

/- The helper CopyOps: operations of their own. -/
namespace Go.Proofs.Ytjkkdijoogiipaa
open Go.RowKit

/-- A row of operations of the call's own, whose values are new, each in a block of its own. -/
def OO (T k : Nat) (cf : Opv → List Value) (w : World) (base : Nat) (v : Value) (L : List El) : Prop := EO T k cf w base v L ∧ News w base L ∧ Dif L
theorem OO.nil (T k : Nat) (cf : Opv → List Value) (w : World) (base : Nat) : OO T k cf w base (.slice none 0 0) [] := ⟨EO.nil T k cf w base, ⟨fun x hx => by simp at hx, Dif.nil⟩⟩
theorem OO.below {T k : Nat} {cf : Opv → List Value} {w w' : World} {base : Nat} {v : Value} {L : List El} (h : OO T k cf w base v L) (hb : Below w.heap.size w w') : OO T k cf w' base v L := ⟨h.1.below hb, h.2.1.below hb, h.2.2⟩
theorem OO.base {T k : Nat} {cf : Opv → List Value} {w : World} {base base' : Nat} {v : Value} {L : List El} (h : OO T k cf w base v L) (hb : base' ≤ base) : OO T k cf w base' v L := ⟨h.1.base hb, fun x hx => (h.2.1 x hx).base hb, h.2.2⟩
/-- One more, whose value was made since w. -/
theorem OO.push {T k : Nat} {cf : Opv → List Value} {w W w2 : World} {base : Nat} {v v' : Value} {L : List El} {x : El} (h : OO T k cf w base v L) (hW : Below w.heap.size w W) (hx : Mine W w.heap.size (vof x.1) x.2) (hb : base ≤ w.heap.size)
    (hown : w2.ownsRow base T k v' (L.length + 1) (elC cf L ++ cf x.1)) (hg : W.grownBy w2 v.ownBlock) (hv : v'.ownBlock = v.ownBlock ∨ v'.ownBlock = some W.heap.size) : OO T k cf w2 base v' (L ++ [x]) := by
  have hap : ∀ b off, x.1.p = some ⟨b, off, none⟩ → x.2 ≠ [] → v.ownBlock ≠ some b := fun b off e hne ho => by
    have h1 := hx.blk b off hne e
    have h2 := (h.1.1.lt b ho).2
    omega
  refine ⟨(h.1.below hW).more (M := [x]) (fun y hy => ?_) (by rw [elC_one]; exact hown) hg hv, fun y hy => ?_, h.2.2.more w.heap.size (fun y hy b off hne e => row_lt (h.1.2 y hy).1 e hne) (fun b off hne e => hx.blk b off hne e)⟩
  · rw [List.mem_singleton.1 hy]
    exact ⟨hx.1, hap⟩
  · rcases List.mem_append.1 hy with hy | hy
    · exact ((h.2.1 y hy).below hW).grown hg (fun b off e hne => (h.1.2 y hy).2 b off e hne)
    · rw [List.mem_singleton.1 hy]
      exact (hx.base hb).grown hg hap

end Go.Proofs.Ytjkkdijoogiipaa

/- One step of what two lists differ in, by the order of their first keys; nothing here speaks of the program. -/
namespace Go.Proofs.Ytjkkdijoogiipaa
open Go.RowKit

theorem tkn_miss {x : Pd} (l : List Pd) {k : ByteArray} (h : kP x ≠ k.toList) : tkn (x :: l) k = ([], false, x :: l) := by
  unfold tkn
  simp [h]
theorem dif_lt (n : Nat) {x y : Pd} (a b : List Pd) (h : tl (kP x) (kP y) = true) : difF (n + 1) (x :: a) (y :: b) = (x.1, true, false, x.2, []) :: difF n a (y :: b) := by
  have h1 : lstK (x :: a) (y :: b) = x.1 := by simp [lstK, h]
  have h2 : tkn (y :: b) x.1 = ([], false, y :: b) := tkn_miss b (fun e => by
    have : kP y = kP x := e
    rw [this, tl_irr] at h; cases h)
  rw [difF_step n _ _ rfl, h1, tkn_hit, h2]
  simp
theorem dif_gt (n : Nat) {x y : Pd} (a b : List Pd) (h : tl (kP y) (kP x) = true) : difF (n + 1) (x :: a) (y :: b) = (y.1, false, true, [], y.2) :: difF n (x :: a) b := by
  have h0 : tl (kP x) (kP y) = false := tl_asym _ _ h
  have h1 : lstK (x :: a) (y :: b) = y.1 := by simp [lstK, h0]
  have h2 : tkn (x :: a) y.1 = ([], false, x :: a) := tkn_miss a (fun e => by
    have : kP x = kP y := e
    rw [this, tl_irr] at h; cases h)
  rw [difF_step n _ _ rfl, h1, tkn_hit, h2]
  simp
theorem dif_eq (n : Nat) {x y : Pd} (a b : List Pd) (h1 : tl (kP x) (kP y) = false) (h2 : tl (kP y) (kP x) = false) : x.1 = y.1 ∧ difF (n + 1) (x :: a) (y :: b) = if x.2 == y.2 then difF n a b else (y.1, true, true, x.2, y.2) :: difF n a b := by
  have e : x.1 = y.1 := bl_inj (tl_total _ _ h1 h2)
  have h3 : lstK (x :: a) (y :: b) = y.1 := by simp [lstK, h1]
  have h4 : tkn (x :: a) y.1 = (x.2, true, a) := by rw [← e]; exact tkn_hit x a
  refine ⟨e, ?_⟩
  rw [difF_step n _ _ rfl, h3, tkn_hit, h4]
  simp
theorem dif_a (n : Nat) (x : Pd) (a : List Pd) : difF (n + 1) (x :: a) [] = (x.1, true, false, x.2, []) :: difF n a [] := by
  have h3 : lstK (x :: a) [] = x.1 := rfl
  have h4 : tkn [] x.1 = ([], false, []) := rfl
  rw [difF_step n _ _ rfl, h3, tkn_hit, h4]
  simp
theorem dif_b (n : Nat) (y : Pd) (b : List Pd) : difF (n + 1) [] (y :: b) = (y.1, false, true, [], y.2) :: difF n [] b := by
  have h3 : lstK [] (y :: b) = y.1 := rfl
  have h4 : tkn [] y.1 = ([], false, []) := rfl
  rw [difF_step n _ _ rfl, h3, tkn_hit, h4]
  simp
end Go.Proofs.Ytjkkdijoogiipaa
