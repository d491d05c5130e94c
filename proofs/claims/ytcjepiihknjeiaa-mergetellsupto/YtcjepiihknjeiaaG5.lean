/- Texts of ours, one behind the other: KeysPlain, MgPlain, MgSeq, CelPlain, MgWith. -/
import Derived.WalkKit
/- Texts as plain data: their order, the next one, ranges, what begins with a text; nothing here speaks of the program. -/
namespace Go.Proofs.Ytcjepiihknjeiaa
open Go.RowKit

abbrev tl := Op.bytesLess
theorem kr_true {b : Bool} (h : b = true) : Ending.returned (.bool b) = .returned (.bool true) := by rw [h]
theorem khide {p : Prop} (h : p) : Hid p := h
theorem kunhide {p : Prop} (h : Hid p) : p := h

theorem tl_nil (a : List UInt8) : tl a [] = false := by cases a <;> rfl
theorem tl_cons (a b : UInt8) (x y : List UInt8) : tl (a :: x) (b :: y) = (decide (a < b) || (a == b && tl x y)) := rfl
theorem u8_cases (a b : UInt8) : (a < b ∧ ¬ a = b ∧ ¬ b < a) ∨ (a = b ∧ ¬ a < b ∧ ¬ b < a) ∨ (b < a ∧ ¬ a = b ∧ ¬ a < b) := by
  simp only [UInt8.lt_iff_toNat_lt, ← UInt8.toNat_inj]
  omega
theorem u8_irr (x : UInt8) : ¬ x < x := by simp
theorem beq_no {a b : UInt8} (h : ¬ a = b) : (a == b) = false := by simp [h]
theorem tl_irr (a : List UInt8) : tl a a = false := by
  induction a with
  | nil => rfl
  | cons x a ih => rw [tl_cons, ih, decide_eq_false (u8_irr x)]; simp
theorem tl_asym : ∀ (a b : List UInt8), tl a b = true → tl b a = false
  | a, [] => fun h => by rw [tl_nil] at h; cases h
  | [], _ :: _ => fun _ => tl_nil _
  | x :: a, y :: b => fun h => by
    rw [tl_cons] at *
    have ih := tl_asym a b
    rcases u8_cases x y with ⟨h1, h2, h3⟩ | ⟨h1, h2, h3⟩ | ⟨h1, h2, h3⟩
    · simp [h3]; intro e; exact absurd e.symm h2
    · subst h1; simp [h2] at *; exact ih h
    · simp [h3, h2] at h
theorem tl_trans : ∀ (a b c : List UInt8), tl a b = true → tl b c = true → tl a c = true
  | a, b, [] => fun _ h => by rw [tl_nil] at h; cases h
  | a, [], _ :: _ => fun h _ => by rw [tl_nil] at h; cases h
  | [], _ :: _, _ :: _ => fun _ _ => rfl
  | x :: a, y :: b, z :: c => fun h k => by
    rw [tl_cons] at *
    have ih := tl_trans a b c
    simp only [Bool.or_eq_true, Bool.and_eq_true, decide_eq_true_eq, beq_iff_eq] at *
    rcases h with h | ⟨rfl, h⟩
    · rcases k with k | ⟨rfl, k⟩
      · exact Or.inl (by simp only [UInt8.lt_iff_toNat_lt] at *; omega)
      · exact Or.inl h
    · rcases k with k | ⟨rfl, k⟩
      · exact Or.inl k
      · exact Or.inr ⟨rfl, ih h k⟩
theorem tl_total : ∀ (a b : List UInt8), tl a b = false → tl b a = false → a = b
  | [], [] => fun _ _ => rfl
  | [], _ :: _ => fun h _ => by cases h
  | _ :: _, [] => fun _ h => by cases h
  | x :: a, y :: b => fun h k => by
    rw [tl_cons] at *
    have ih := tl_total a b
    rcases u8_cases x y with ⟨h1, h2, h3⟩ | ⟨h1, h2, h3⟩ | ⟨h1, h2, h3⟩
    · simp [h1] at h
    · subst h1; simp [h2] at h k; rw [ih h k]
    · simp [h1] at k
theorem tl_next : ∀ (a b : List UInt8), tl b (a ++ [0]) = !tl a b
  | a, [] => by rw [tl_nil]; cases a <;> rfl
  | [], y :: b => by
    show (decide (y < 0) || (y == 0 && tl b [])) = !true
    rw [tl_nil]
    have : ¬ y < 0 := by simp only [UInt8.lt_iff_toNat_lt]; simp
    simp [this]
  | x :: a, y :: b => by
    rw [List.cons_append, tl_cons, tl_cons, tl_next a b]
    rcases u8_cases x y with ⟨h1, h2, h3⟩ | ⟨h1, h2, h3⟩ | ⟨h1, h2, h3⟩
    · have h4 : ¬ y = x := fun e => h2 e.symm
      simp [h1, h3, h4]
    · subst h1; simp [h2]
    · simp [h1, h2, h3]

/-- What a range has: from lo on, below hi; an empty hi is no end. -/
def wi (lo hi k : List UInt8) : Bool := !tl k lo && (hi.isEmpty || tl k hi)
/-- No text is in it. -/
def em (lo hi : List UInt8) : Bool := !(hi.isEmpty || tl lo hi)
theorem em_eq (lo hi : List UInt8) : em lo hi = !wi lo hi lo := by simp [em, wi, tl_irr]
def mlo (a c : List UInt8) : List UInt8 := if tl a c then c else a
def mhi (b d : List UInt8) : List UInt8 := if d.isEmpty || (!b.isEmpty && tl b d) then b else d
theorem wi_meet (a b c d k : List UInt8) : wi (mlo a c) (mhi b d) k = (wi a b k && wi c d k) := by
  have h1 : tl k (mlo a c) = (tl k a || tl k c) := by
    unfold mlo
    cases hac : tl a c with
    | true =>
      simp only [if_true]
      cases hka : tl k a with
      | true => rw [tl_trans k a c hka hac]; rfl
      | false => simp
    | false =>
      simp only [Bool.false_eq_true, if_false]
      cases hkc : tl k c with
      | true =>
        cases hka : tl k a with
        | true => rfl
        | false =>
          exfalso
          cases hca : tl c a with
          | true => rw [tl_trans k c a hkc hca] at hka; cases hka
          | false => have := tl_total a c hac hca; subst this; rw [hka] at hkc; cases hkc
      | false => simp
  have h2 : ((mhi b d).isEmpty || tl k (mhi b d)) = ((b.isEmpty || tl k b) && (d.isEmpty || tl k d)) := by
    unfold mhi
    cases hd : d.isEmpty with
    | true => simp
    | false =>
      cases hb : b.isEmpty with
      | true => simp [hd]
      | false =>
        cases hbd : tl b d with
        | true =>
          simp only [Bool.false_or, Bool.not_false, Bool.true_and, if_true, hb]
          cases hkb : tl k b with
          | true => rw [tl_trans k b d hkb hbd]; rfl
          | false => simp
        | false =>
          simp only [Bool.false_or, Bool.not_false, Bool.true_and, Bool.false_eq_true, if_false, hd]
          cases hkd : tl k d with
          | true =>
            cases hkb : tl k b with
            | true => rfl
            | false =>
              exfalso
              cases hdb : tl d b with
              | true => rw [tl_trans k d b hkd hdb] at hkb; cases hkb
              | false => have := tl_total b d hbd hdb; subst this; rw [hkb] at hkd; cases hkd
          | false => simp
  unfold wi
  rw [h1, h2]
  cases tl k a <;> cases tl k c <;> cases (b.isEmpty || tl k b) <;> cases (d.isEmpty || tl k d) <;> rfl
theorem mhi_eq (b d : List UInt8) : mhi b d = if b.isEmpty || (!d.isEmpty && tl d b) then d else b := by
  unfold mhi
  cases hd : d.isEmpty with
  | true =>
    cases hb : b.isEmpty with
    | true => simp at *; rw [hb, hd]
    | false => simp
  | false =>
    cases hb : b.isEmpty with
    | true => simp
    | false =>
      cases hbd : tl b d with
      | true => simp [tl_asym b d hbd]
      | false =>
        cases hdb : tl d b with
        | true => simp
        | false => simp [tl_total b d hbd hdb]
/-- In an empty range nothing is. -/
theorem wi_em (lo hi k : List UInt8) (h : em lo hi = true) : wi lo hi k = false := by
  unfold em at h
  unfold wi
  simp only [Bool.not_eq_true', Bool.or_eq_false_iff] at h
  rw [h.1]
  cases hk : tl k lo with
  | true => rfl
  | false =>
    cases hh : tl k hi with
    | false => rfl
    | true =>
      exfalso
      cases hl : tl lo k with
      | true => have := tl_trans lo k hi hl hh; rw [h.2] at this; cases this
      | false => have := tl_total lo k hl hk; subst this; rw [h.2] at hh; cases hh

/-- The end of what begins with a text, from the front. -/
def bhd : List UInt8 → Option (List UInt8)
  | [] => none
  | c :: r => match bhd r with
    | some e => some (c :: e)
    | none => if c = 255 then none else some [c + 1]
def bhE (p : List UInt8) : List UInt8 := (bhd p).getD []
theorem bhd_ne (p e : List UInt8) (h : bhd p = some e) : e.isEmpty = false := by
  cases p with
  | nil => cases h
  | cons c r =>
    rw [bhd] at h
    cases hr : bhd r with
    | some x => rw [hr] at h; cases h; rfl
    | none =>
      rw [hr] at h
      simp only at h
      split at h
      · cases h
      · cases h; rfl
theorem bhd_all (p : List UInt8) (h : ∀ c ∈ p, c = 255) : bhd p = none := by
  induction p with
  | nil => rfl
  | cons c r ih => rw [bhd, ih (fun c hc => h c (List.mem_cons_of_mem _ hc)), h c List.mem_cons_self]; rfl
theorem bhd_at (x y : List UInt8) (c : UInt8) (hc : ¬ c = 255) (h : ∀ c ∈ y, c = 255) : bhd (x ++ c :: y) = some (x ++ [c + 1]) := by
  induction x with
  | nil => rw [List.nil_append, bhd, bhd_all y h]; simp [hc]
  | cons a x ih => rw [List.cons_append, bhd, ih]; rfl
theorem wi_pre : ∀ (p k : List UInt8), (!tl k p && (match bhd p with | some e => tl k e | none => true)) = p.isPrefixOf k
  | [], k => by rw [tl_nil]; rfl
  | c :: r, [] => rfl
  | c :: r, x :: k => by
    have ih := wi_pre r k
    have hx : x.toNat < 256 := x.toNat_lt
    rw [tl_cons, bhd, List.isPrefixOf, ← ih]
    cases hr : bhd r with
    | some e =>
      simp only [tl_cons]
      rcases u8_cases x c with ⟨h1, h2, h3⟩ | ⟨h1, h2, h3⟩ | ⟨h1, h2, h3⟩
      · have h4 : ¬ c = x := fun e => h2 e.symm
        simp [h1, h4]
      · subst h1; simp [h2]
      · have h4 : ¬ c = x := fun e => h2 e.symm
        rw [decide_eq_false h3, beq_no h2, beq_no h4]; rfl
    | none =>
      by_cases h255 : c = 255
      · simp only [if_pos h255]
        rcases u8_cases x c with ⟨h1, h2, h3⟩ | ⟨h1, h2, h3⟩ | ⟨h1, h2, h3⟩
        · have h4 : ¬ c = x := fun e => h2 e.symm
          simp [h1, h4]
        · subst h1; simp [h2]
        · exfalso; subst h255; simp only [UInt8.lt_iff_toNat_lt] at h1; simp at h1; omega
      · simp only [if_neg h255, tl_cons, tl_nil, Bool.and_false, Bool.or_false]
        have hc : c.toNat < 255 := by
          have := c.toNat_lt
          have h3 : ¬ c.toNat = (255 : UInt8).toNat := fun e => h255 (UInt8.toNat_inj.1 e)
          simp at h3; omega
        have hc1 : (c + 1).toNat = c.toNat + 1 := by rw [UInt8.toNat_add]; simp; omega
        rcases u8_cases x c with ⟨h1, h2, h3⟩ | ⟨h1, h2, h3⟩ | ⟨h1, h2, h3⟩
        · have h4 : ¬ c = x := fun e => h2 e.symm
          simp [h1, h4]
        · subst h1
          have : x < x + 1 := by simp only [UInt8.lt_iff_toNat_lt]; omega
          simp [h2, this]
        · have h4 : ¬ c = x := fun e => h2 e.symm
          have h5 : ¬ x < c + 1 := by simp only [UInt8.lt_iff_toNat_lt] at *; omega
          simp [h4, h5]
theorem wi_bhE (p k : List UInt8) : wi p (bhE p) k = p.isPrefixOf k := by
  rw [← wi_pre p k]
  unfold wi bhE
  cases h : bhd p with
  | none => simp
  | some e => simp [bhd_ne p e h]
theorem pre_app (p k : List UInt8) : p.isPrefixOf (p ++ k) = true := by
  induction p with
  | nil => rfl
  | cons c p ih => simp [ih]
theorem pre_eq (p k : List UInt8) : p.isPrefixOf k = (decide (p.length ≤ k.length) && k.take p.length == p) := by
  induction p generalizing k with
  | nil => simp
  | cons c p ih =>
    cases k with
    | nil => simp [List.isPrefixOf]
    | cons x k =>
      rw [List.isPrefixOf, ih k]
      simp only [List.length_cons, List.take_succ_cons, Nat.add_le_add_iff_right]
      by_cases h : c = x
      · subst h; simp
      · have h2 : ¬ x = c := fun e => h e.symm
        rw [show (x :: List.take p.length k == c :: p) = (x == c && List.take p.length k == p) from rfl, beq_no h, beq_no h2]; simp
theorem wi_parts (lo hi a k : List UInt8) (h : wi lo hi a = true) (ha : a.isEmpty = false) :
    (wi lo a k && wi a hi k) = false ∧ (wi lo a k || wi a hi k) = wi lo hi k := by
  unfold wi at *
  rw [ha]
  simp only [Bool.and_eq_true, Bool.not_eq_true', Bool.false_or] at *
  obtain ⟨h1, h2⟩ := h
  cases hka : tl k a with
  | true =>
    refine ⟨by simp, ?_⟩
    cases hkl : tl k lo with
    | true => simp
    | false =>
      cases hh : hi.isEmpty with
      | true => simp
      | false => rw [hh, Bool.false_or] at h2; rw [tl_trans k a hi hka h2]; rfl
  | false =>
    refine ⟨by simp, ?_⟩
    cases hkl : tl k lo with
    | false => simp
    | true =>
      exfalso
      cases hal : tl a k with
      | true => have := tl_trans a k lo hal hkl; rw [h1] at this; cases this
      | false => have := tl_total k a hka hal; subst this; rw [h1] at hkl; cases hkl
theorem tl_drop (a b : List UInt8) (i : Nat) (h : i ≤ a.length) (k : i ≤ b.length) (he : a.take i = b.take i) : tl (a.drop i) (b.drop i) = tl a b := by
  induction i generalizing a b with
  | zero => rfl
  | succ i ih =>
    cases a with
    | nil => simp at h
    | cons x a =>
      cases b with
      | nil => simp at k
      | cons y b =>
        simp only [List.take_succ_cons, List.cons.injEq] at he
        rw [List.drop_succ_cons, List.drop_succ_cons, ih a b (by simpa using h) (by simpa using k) he.2, tl_cons, he.1, decide_eq_false (u8_irr y)]
        simp

theorem bl_len (p : ByteArray) : p.toList.length = p.size := by rw [ByteArray.toList_eq, Array.length_toList]; rfl
theorem bl_get (p : ByteArray) (j : Nat) (h : j < p.size) : p.toList[j]'(by rw [bl_len]; exact h) = p[j] := by simp only [ByteArray.toList_eq]; rfl
theorem bl_app (a b : ByteArray) : (a ++ b).toList = a.toList ++ b.toList := by
  rw [ByteArray.toList_eq, ByteArray.toList_eq, ByteArray.toList_eq, ByteArray.data_append, Array.toList_append]
theorem bl_take (p : ByteArray) (j : Nat) : (p.extract 0 j).toList = p.toList.take j := by
  rw [ByteArray.toList_eq, ByteArray.toList_eq, ByteArray.data_extract, Array.toList_extract]
  simp
theorem bl_one (c : UInt8) : (⟨#[c]⟩ : ByteArray).toList = [c] := by rw [ByteArray.toList_eq]
theorem bl_nil : (⟨#[]⟩ : ByteArray).toList = [] := by rw [ByteArray.toList_eq]
theorem bl_inj {a b : ByteArray} (h : a.toList = b.toList) : a = b := by
  rw [ByteArray.toList_eq, ByteArray.toList_eq] at h
  obtain ⟨⟨x⟩⟩ := a
  obtain ⟨⟨y⟩⟩ := b
  simp only at h
  rw [h]
theorem bhE_at (p : ByteArray) (j : Nat) (h : j < p.size) (hc : ¬ p[j].toNat = 255) (hz : ∀ c ∈ p.toList.drop (j + 1), c = 255) :
    (p.extract 0 j ++ ⟨#[p[j] + 1]⟩).toList = bhE p.toList := by
  have hl : j < p.toList.length := by rw [bl_len]; exact h
  have e : p.toList = p.toList.take j ++ p[j] :: p.toList.drop (j + 1) := by
    rw [← bl_get p j h, ← List.drop_eq_getElem_cons hl, List.take_append_drop]
  have hb : bhE p.toList = p.toList.take j ++ [p[j] + 1] := by
    have h2 := bhd_at (p.toList.take j) (p.toList.drop (j + 1)) p[j] (fun e => hc (by rw [e]; rfl)) hz
    rw [← e] at h2
    unfold bhE
    rw [h2]
    rfl
  rw [hb, bl_app, bl_take, bl_one]
theorem bhE_all (p : List UInt8) (hz : ∀ c ∈ p, c = 255) : bhE p = [] := by unfold bhE; rw [bhd_all p hz]; rfl
theorem drop_more (p : ByteArray) (j : Nat) (h : j < p.size) (hc : p[j].toNat = 255) (hz : ∀ c ∈ p.toList.drop (j + 1), c = 255) : ∀ c ∈ p.toList.drop j, c = 255 := by
  have hl : j < p.toList.length := by rw [bl_len]; exact h
  rw [List.drop_eq_getElem_cons hl, bl_get p j h]
  intro c hm
  rcases List.mem_cons.1 hm with rfl | hm
  · exact UInt8.toNat_inj.1 hc
  · exact hz c hm

theorem take_step {a b : ByteArray} {k : Nat} (ha : k < a.size) (hb : k < b.size) (h : a[k] = b[k]) (ht : a.toList.take k = b.toList.take k) : a.toList.take (k + 1) = b.toList.take (k + 1) := by
  rw [List.take_add_one, List.take_add_one, ht, List.getElem?_eq_getElem (by rw [bl_len]; exact ha), List.getElem?_eq_getElem (by rw [bl_len]; exact hb), bl_get a k ha, bl_get b k hb, h]
theorem tl_differ {a b : ByteArray} {k : Nat} (ha : k < a.size) (hb : k < b.size) (h : ¬ a[k].toNat = b[k].toNat) (ht : a.toList.take k = b.toList.take k) : tl a.toList b.toList = decide (a[k].toNat < b[k].toNat) := by
  have la : k < a.toList.length := by rw [bl_len]; exact ha
  have lb : k < b.toList.length := by rw [bl_len]; exact hb
  rw [← tl_drop a.toList b.toList k (by omega) (by omega) ht, List.drop_eq_getElem_cons la, List.drop_eq_getElem_cons lb, tl_cons, bl_get a k ha, bl_get b k hb]
  have h2 : ¬ a[k] = b[k] := fun e => h (by rw [e])
  rw [beq_no h2]
  simp [UInt8.lt_iff_toNat_lt]
theorem tl_end {a b : ByteArray} {k : Nat} (ha : k ≤ a.size) (hb : k ≤ b.size) (hk : ¬ (k < a.size ∧ k < b.size)) (ht : a.toList.take k = b.toList.take k) : tl a.toList b.toList = decide (a.size < b.size) := by
  rw [← tl_drop a.toList b.toList k (by rw [bl_len]; exact ha) (by rw [bl_len]; exact hb) ht]
  by_cases h1 : k < a.size
  · have h2 : k = b.size := by omega
    rw [List.drop_eq_nil_of_le (as := b.toList) (by rw [bl_len]; omega), tl_nil]
    simp; omega
  · rw [List.drop_eq_nil_of_le (as := a.toList) (by rw [bl_len]; omega)]
    by_cases h2 : k < b.size
    · rw [List.drop_eq_getElem_cons (by rw [bl_len]; exact h2)]
      simp [tl, Op.bytesLess]; omega
    · rw [List.drop_eq_nil_of_le (as := b.toList) (by rw [bl_len]; omega)]
      simp [tl, Op.bytesLess]; omega
end Go.Proofs.Ytcjepiihknjeiaa

/- Lists of entries as plain data: which are in order, what a key has, what lists are as one; nothing here speaks of the program. -/
namespace Go.Proofs.Ytcjepiihknjeiaa
open Go.RowKit

/-- An entry: its key, and the three parts of its ref. -/
abbrev En := ByteArray × Int × Int × Int
def kE (x : En) : List UInt8 := x.1.toList
/-- In strict order of their keys. -/
def SE (l : List En) : Prop := l.Pairwise fun x y => tl (kE x) (kE y) = true
/-- A key's entry. -/
def ofE : List En → ByteArray → Option En
  | [], _ => none
  | x :: l, k => if x.1 = k then some x else ofE l k
/-- An entry more, in its place. -/
def withE : List En → En → List En
  | [], e => [e]
  | x :: l, e => if tl (kE x) (kE e) = true then x :: withE l e else if x.1 = e.1 then e :: l else e :: x :: l
/-- Lists as one: of each key the first list's entry. -/
def mrgE (L : List (List En)) : List En := L.foldr (fun l acc => l.foldl withE acc) []

theorem kE_ne {x y : En} (h : tl (kE x) (kE y) = true) : x.1 ≠ y.1 := fun e => by
  unfold kE at h
  rw [e, tl_irr] at h
  cases h
theorem ofE_none : ∀ (l : List En) (k : ByteArray), (∀ y ∈ l, y.1 ≠ k) → ofE l k = none
  | [], _, _ => rfl
  | x :: l, k, h => by
    unfold ofE
    rw [if_neg (h x (by simp))]
    exact ofE_none l k (fun y hy => h y (by simp [hy]))
theorem ofE_some : ∀ (l : List En) (k : ByteArray) (x : En), ofE l k = some x → x ∈ l ∧ x.1 = k
  | [], _, _, h => by cases h
  | y :: l, k, x, h => by
    unfold ofE at h
    by_cases e : y.1 = k
    · rw [if_pos e] at h
      cases h
      exact ⟨by simp, e⟩
    · rw [if_neg e] at h
      obtain ⟨h1, h2⟩ := ofE_some l k x h
      exact ⟨by simp [h1], h2⟩
theorem SE.tail {x : En} {l : List En} (h : SE (x :: l)) : SE l := (List.pairwise_cons.1 h).2
theorem SE.head {x : En} {l : List En} (h : SE (x :: l)) : ∀ y ∈ l, tl (kE x) (kE y) = true := (List.pairwise_cons.1 h).1
/-- Of a list in order what its first key, or a lesser one, has behind it: nothing. -/
theorem ofE_below {l : List En} {k : ByteArray} (h : ∀ y ∈ l, tl k.toList (kE y) = true) : ofE l k = none :=
  ofE_none l k fun y hy e => by
    have := h y hy
    unfold kE at this
    rw [e, tl_irr] at this
    cases this
theorem SE.ext : ∀ {a b : List En}, SE a → SE b → (∀ k, ofE a k = ofE b k) → a = b
  | [], [], _, _, _ => rfl
  | [], y :: b, _, _, h => by have := h y.1; simp [ofE] at this
  | x :: a, [], _, _, h => by have := h x.1; simp [ofE] at this
  | x :: a, y :: b, ha, hb, h => by
    have h1 : tl (kE x) (kE y) = false := by
      cases q : tl (kE x) (kE y) with
      | false => rfl
      | true =>
        have e1 := h x.1
        have e2 : ofE (y :: b) x.1 = none := ofE_below fun z hz => by
          rcases List.mem_cons.1 hz with rfl | hz
          · exact q
          · exact tl_trans _ _ _ q (hb.head z hz)
        rw [e2] at e1
        simp [ofE] at e1
    have h2 : tl (kE y) (kE x) = false := by
      cases q : tl (kE y) (kE x) with
      | false => rfl
      | true =>
        have e1 := h y.1
        have e2 : ofE (x :: a) y.1 = none := ofE_below fun z hz => by
          rcases List.mem_cons.1 hz with rfl | hz
          · exact q
          · exact tl_trans _ _ _ q (ha.head z hz)
        rw [e2] at e1
        simp [ofE] at e1
    have hk : x.1 = y.1 := bl_inj (tl_total _ _ h1 h2)
    have hxy : x = y := by
      have := h x.1
      unfold ofE at this
      rw [if_pos rfl, if_pos hk.symm] at this
      exact Option.some.inj this
    subst hxy
    rw [SE.ext ha.tail hb.tail fun k => ?_]
    by_cases e : x.1 = k
    · subst e
      rw [ofE_below ha.head, ofE_below hb.head]
    · have := h k
      unfold ofE at this
      rwa [if_neg e, if_neg e] at this
theorem withE_mem : ∀ (l : List En) (e y : En), y ∈ withE l e → y ∈ l ∨ y = e
  | [], e, y, h => Or.inr (by simpa [withE] using h)
  | x :: l, e, y, h => by
    unfold withE at h
    split at h
    · rcases List.mem_cons.1 h with rfl | h
      · simp
      · rcases withE_mem l e y h with h | h
        · simp [h]
        · simp [h]
    · split at h
      · rcases List.mem_cons.1 h with rfl | h
        · simp
        · simp [h]
      · rcases List.mem_cons.1 h with rfl | h
        · simp
        · exact Or.inl h
theorem SE.with : ∀ {l : List En} (e : En), SE l → SE (withE l e)
  | [], e, _ => by simp [withE, SE]
  | x :: l, e, h => by
    unfold withE
    split
    · rename_i q
      refine List.pairwise_cons.2 ⟨fun y hy => ?_, SE.with e h.tail⟩
      rcases withE_mem l e y hy with hy | rfl
      · exact h.head y hy
      · exact q
    · rename_i q
      split
      · rename_i q2
        refine List.pairwise_cons.2 ⟨fun y hy => ?_, h.tail⟩
        have := h.head y hy
        unfold kE at this ⊢
        rwa [← q2]
      · rename_i q2
        have q3 : tl (kE e) (kE x) = true := by
          cases r : tl (kE e) (kE x) with
          | true => rfl
          | false => exact absurd (bl_inj (tl_total _ _ (by unfold kE at q; simpa using q) r)) q2
        refine List.pairwise_cons.2 ⟨fun y hy => ?_, h⟩
        rcases List.mem_cons.1 hy with rfl | hy
        · exact q3
        · exact tl_trans _ _ _ q3 (h.head y hy)
theorem ofE_with : ∀ (l : List En) (e : En) (k : ByteArray), ofE (withE l e) k = if e.1 = k then some e else ofE l k
  | [], e, k => rfl
  | x :: l, e, k => by
    unfold withE
    split
    · rename_i q
      have := kE_ne q
      simp only [ofE]
      rw [ofE_with l e k]
      by_cases h1 : x.1 = k
      · rw [if_pos h1, if_neg (fun h2 => this (h1.trans h2.symm)), if_pos h1]
      · rw [if_neg h1, if_neg h1]
    · split
      · rename_i q2
        simp only [ofE]
        by_cases h1 : e.1 = k
        · rw [if_pos h1, if_pos h1]
        · rw [if_neg h1, if_neg h1, if_neg (by rw [q2]; exact h1)]
      · simp only [ofE]
theorem SE.fold : ∀ (l : List En) {acc : List En}, SE acc → SE (l.foldl withE acc)
  | [], _, h => h
  | x :: l, _, h => SE.fold l (SE.with x h)
theorem ofE_fold : ∀ (l acc : List En) (k : ByteArray), SE l → ofE (l.foldl withE acc) k = (ofE l k).or (ofE acc k)
  | [], acc, k, _ => by simp [ofE]
  | x :: l, acc, k, h => by
    rw [List.foldl_cons, ofE_fold l _ k h.tail, ofE_with]
    simp only [ofE]
    by_cases e : x.1 = k
    · subst e
      rw [if_pos rfl, if_pos rfl, ofE_below h.head]
      simp
    · rw [if_neg e, if_neg e]
theorem SE.mrg : ∀ (L : List (List En)), SE (mrgE L)
  | [] => List.Pairwise.nil
  | l :: L => SE.fold l (SE.mrg L)
/-- Of each key the first list that has it counts. -/
theorem ofE_mrg : ∀ (L : List (List En)) (k : ByteArray), (∀ l ∈ L, SE l) → ofE (mrgE L) k = L.findSome? (fun l => ofE l k)
  | [], _, _ => rfl
  | l :: L, k, h => by
    have ih := ofE_mrg L k fun m hm => h m (by simp [hm])
    show ofE (l.foldl withE (mrgE L)) k = _
    rw [ofE_fold l _ k (h l (by simp)), ih, List.findSome?_cons]
    cases ofE l k <;> simp
/-- What has what lists have, in order, is these lists as one. -/
theorem mrg_of {L : List (List En)} {m : List En} (h : ∀ l ∈ L, SE l) (hm : SE m) (he : ∀ k, ofE m k = L.findSome? (fun l => ofE l k)) : m = mrgE L :=
  SE.ext hm (SE.mrg L) fun k => by rw [he k, ofE_mrg L k h]
theorem mrg_one {a : List En} (h : SE a) : mrgE [[], a, []] = a :=
  (mrg_of (fun l hl => by
    simp only [List.mem_cons, List.not_mem_nil, or_false] at hl
    rcases hl with rfl | rfl | rfl
    · exact List.Pairwise.nil
    · exact h
    · exact List.Pairwise.nil) h fun k => by
      simp only [List.findSome?_cons, List.findSome?_nil, ofE]
      cases ofE a k <;> rfl).symm
theorem mrg_left {a b c : List En} (ha : SE a) (hb : SE b) (hc : SE c) : mrgE [mrgE [a, b], c] = mrgE [a, b, c] :=
  mrg_of (fun l hl => by
    simp only [List.mem_cons, List.not_mem_nil, or_false] at hl
    rcases hl with rfl | rfl | rfl <;> assumption) (SE.mrg _) fun k => by
      rw [ofE_mrg _ k (fun l hl => by
        simp only [List.mem_cons, List.not_mem_nil, or_false] at hl
        rcases hl with rfl | rfl
        · exact SE.mrg _
        · exact hc)]
      simp only [List.findSome?_cons, List.findSome?_nil]
      rw [ofE_mrg _ k (fun l hl => by
        simp only [List.mem_cons, List.not_mem_nil, or_false] at hl
        rcases hl with rfl | rfl <;> assumption)]
      simp only [List.findSome?_cons, List.findSome?_nil]
      cases ofE a k <;> cases ofE b k <;> rfl
theorem mrg_right {a b c : List En} (ha : SE a) (hb : SE b) (hc : SE c) : mrgE [a, mrgE [b, c]] = mrgE [a, b, c] :=
  mrg_of (fun l hl => by
    simp only [List.mem_cons, List.not_mem_nil, or_false] at hl
    rcases hl with rfl | rfl | rfl <;> assumption) (SE.mrg _) fun k => by
      rw [ofE_mrg _ k (fun l hl => by
        simp only [List.mem_cons, List.not_mem_nil, or_false] at hl
        rcases hl with rfl | rfl
        · exact ha
        · exact SE.mrg _)]
      simp only [List.findSome?_cons, List.findSome?_nil]
      rw [ofE_mrg _ k (fun l hl => by
        simp only [List.mem_cons, List.not_mem_nil, or_false] at hl
        rcases hl with rfl | rfl <;> assumption)]
      simp only [List.findSome?_cons, List.findSome?_nil]
      cases ofE a k <;> cases ofE b k <;> cases ofE c k <;> rfl

/-- The first of the least first entries. -/
def leastE : List (List En) → Option En
  | [] => none
  | [] :: L => leastE L
  | (x :: _) :: L => match leastE L with
    | none => some x
    | some y => if tl (kE y) (kE x) = true then some y else some x
/-- Behind its first entry, if that has this key. -/
def drop1 (k : ByteArray) : List En → List En
  | [] => []
  | x :: t => if x.1 = k then t else x :: t
theorem least_cons (x : En) (t : List En) (L : List (List En)) : leastE ((x :: t) :: L) = match leastE L with
    | none => some x
    | some y => if tl (kE y) (kE x) = true then some y else some x := rfl
theorem drop1_cons (k : ByteArray) (x : En) (t : List En) : drop1 k (x :: t) = if x.1 = k then t else x :: t := rfl
theorem least_none : ∀ (L : List (List En)), leastE L = none → ∀ l ∈ L, l = []
  | [], _, _, hl => by cases hl
  | [] :: L, h, l, hl => by
    rcases List.mem_cons.1 hl with rfl | hl
    · rfl
    · exact least_none L h l hl
  | (x :: t) :: L, h, _, _ => by
    rw [least_cons] at h
    cases hu : leastE L with
    | none => rw [hu] at h; cases h
    | some u =>
      rw [hu] at h
      simp only at h
      split at h <;> cases h
/-- None is below the least, and the first list that has its key has it. -/
theorem least_some : ∀ (L : List (List En)) (x : En), (∀ l ∈ L, SE l) → leastE L = some x → (∀ l ∈ L, ∀ y ∈ l, tl (kE y) (kE x) = false) ∧ L.findSome? (fun l => ofE l x.1) = some x
  | [], _, _, h => by cases h
  | [] :: L, x, hs, h => by
    obtain ⟨h1, h2⟩ := least_some L x (fun l hl => hs l (by simp [hl])) h
    refine ⟨fun l hl y hy => ?_, by rw [List.findSome?_cons]; exact h2⟩
    rcases List.mem_cons.1 hl with rfl | hl
    · cases hy
    · exact h1 l hl y hy
  | (z :: t) :: L, x, hs, h => by
    have hz := hs (z :: t) (by simp)
    have hzt : ∀ y ∈ z :: t, tl (kE y) (kE z) = false := fun y hy => by
      rcases List.mem_cons.1 hy with rfl | hy
      · exact tl_irr _
      · exact tl_asym _ _ (hz.head y hy)
    rw [least_cons] at h
    cases hu : leastE L with
    | none =>
      rw [hu] at h
      obtain rfl : z = x := Option.some.inj h
      refine ⟨fun l hl y hy => ?_, by rw [List.findSome?_cons]; simp [ofE]⟩
      rcases List.mem_cons.1 hl with rfl | hl
      · exact hzt y hy
      · rw [least_none L hu l hl] at hy; cases hy
    | some u =>
      rw [hu] at h
      simp only at h
      obtain ⟨h1, h2⟩ := least_some L u (fun l hl => hs l (by simp [hl])) hu
      cases q : tl (kE u) (kE z) with
      | true =>
        rw [if_pos q] at h
        obtain rfl : u = x := Option.some.inj h
        refine ⟨fun l hl y hy => ?_, ?_⟩
        · rcases List.mem_cons.1 hl with rfl | hl
          · cases r : tl (kE y) (kE u) with
            | false => rfl
            | true => have := tl_trans _ _ _ r q; rw [hzt y hy] at this; cases this
          · exact h1 l hl y hy
        · rw [List.findSome?_cons, ofE_below (k := u.1) (fun y hy => ?_)]
          · exact h2
          · rcases List.mem_cons.1 hy with rfl | hy
            · exact q
            · exact tl_trans _ _ _ q (hz.head y hy)
      | false =>
        rw [if_neg (by rw [q]; exact Bool.false_ne_true)] at h
        obtain rfl : z = x := Option.some.inj h
        refine ⟨fun l hl y hy => ?_, by rw [List.findSome?_cons]; simp [ofE]⟩
        rcases List.mem_cons.1 hl with rfl | hl
        · exact hzt y hy
        · cases r : tl (kE y) (kE z) with
          | false => rfl
          | true =>
            exfalso
            have hyu := h1 l hl y hy
            cases r2 : tl (kE z) (kE u) with
            | true => have := tl_trans _ _ _ r r2; rw [hyu] at this; cases this
            | false => have e := tl_total _ _ q r2; rw [← e, hyu] at r; cases r
theorem drop1_SE {l : List En} (k : ByteArray) (h : SE l) : SE (drop1 k l) := by
  cases l with
  | nil => exact h
  | cons x t =>
    rw [drop1_cons]
    by_cases e : x.1 = k
    · rw [if_pos e]; exact h.tail
    · rw [if_neg e]; exact h
theorem ofE_drop1 {l : List En} {k j : ByteArray} (hj : k ≠ j) : ofE (drop1 k l) j = ofE l j := by
  cases l with
  | nil => rfl
  | cons x t =>
    rw [drop1_cons]
    by_cases e : x.1 = k
    · rw [if_pos e]
      simp only [ofE]
      rw [if_neg (by rw [e]; exact hj)]
    · rw [if_neg e]
theorem drop1_above {l : List En} {x : En} (h : SE l) (hb : ∀ y ∈ l, tl (kE y) (kE x) = false) : ∀ y ∈ drop1 x.1 l, tl (kE x) (kE y) = true := by
  cases l with
  | nil => intro y hy; cases hy
  | cons z t =>
    intro y hy
    rw [drop1_cons] at hy
    by_cases e : z.1 = x.1
    · rw [if_pos e] at hy
      have := h.head y hy
      unfold kE at this ⊢
      rwa [← e]
    · rw [if_neg e] at hy
      have hzx : tl (kE x) (kE z) = true := by
        cases r : tl (kE x) (kE z) with
        | true => rfl
        | false => exact absurd (bl_inj (tl_total _ _ (hb z (by simp)) r)) e
      rcases List.mem_cons.1 hy with rfl | hy
      · exact hzx
      · exact tl_trans _ _ _ hzx (h.head y hy)
theorem fold_mem : ∀ (l acc : List En) (y : En), y ∈ l.foldl withE acc → y ∈ l ∨ y ∈ acc
  | [], _, _, h => Or.inr h
  | x :: l, acc, y, h => by
    rcases fold_mem l _ y h with h | h
    · exact Or.inl (by simp [h])
    · rcases withE_mem acc x y h with h | rfl
      · exact Or.inr h
      · exact Or.inl (by simp)
theorem mrg_mem : ∀ (L : List (List En)) (y : En), y ∈ mrgE L → ∃ l ∈ L, y ∈ l
  | [], y, h => by cases h
  | l :: L, y, h => by
    rcases fold_mem l (mrgE L) y h with h | h
    · exact ⟨l, by simp, h⟩
    · obtain ⟨m, h1, h2⟩ := mrg_mem L y h
      exact ⟨m, by simp [h1], h2⟩
theorem mrg_end {L : List (List En)} (hs : ∀ l ∈ L, SE l) (h : leastE L = none) : mrgE L = [] :=
  (mrg_of hs (show SE [] from List.Pairwise.nil) fun k => by
    refine (List.findSome?_eq_none_iff.2 fun l hl => ?_).symm
    rw [least_none L h l hl]
    rfl).symm
/-- One step of merging: the least entry, and what is left behind its key. -/
theorem mrg_step {L : List (List En)} {x : En} (hs : ∀ l ∈ L, SE l) (h : leastE L = some x) : mrgE L = x :: mrgE (L.map (drop1 x.1)) := by
  obtain ⟨h1, h2⟩ := least_some L x hs h
  have hs2 : ∀ l ∈ L.map (drop1 x.1), SE l := fun l hl => by
    obtain ⟨m, hm, rfl⟩ := List.mem_map.1 hl
    exact drop1_SE _ (hs m hm)
  refine (mrg_of hs (List.pairwise_cons.2 ⟨fun y hy => ?_, SE.mrg _⟩) fun k => ?_).symm
  · obtain ⟨l, hl, hyl⟩ := mrg_mem _ y hy
    obtain ⟨m, hm, rfl⟩ := List.mem_map.1 hl
    exact drop1_above (hs m hm) (h1 m hm) y hyl
  · simp only [ofE]
    by_cases e : x.1 = k
    · subst e
      rw [if_pos rfl, h2]
    · rw [if_neg e, ofE_mrg _ k hs2, List.findSome?_map]
      congr 1
      funext l
      exact ofE_drop1 e
end Go.Proofs.Ytcjepiihknjeiaa

/- Lists gone through by rows of one key each; nothing here speaks of the program. -/
namespace Go.Proofs.Ytcjepiihknjeiaa
open Go.RowKit

/-- The lists that stand at this key, by their numbers, and their entries. -/
def hdK (k : ByteArray) : Nat → List (List En) → List (Nat × En)
  | _, [] => []
  | i, [] :: L => hdK k (i + 1) L
  | i, (x :: _) :: L => if x.1 = k then (i, x) :: hdK k (i + 1) L else hdK k (i + 1) L
/-- Row by row. -/
def rowsS : Nat → List (List En) → List (List (Nat × En))
  | 0, _ => []
  | n + 1, S => match leastE S with
    | none => []
    | some x => hdK x.1 0 S :: rowsS n (S.map (drop1 x.1))
def totS (S : List (List En)) : Nat := (S.map List.length).sum
def zeroEn : En := (⟨#[]⟩, 0, 0, 0)
def firstR (r : List (Nat × En)) : En := match r with
  | [] => zeroEn
  | y :: _ => y.2
theorem hdK_cons (k : ByteArray) (i : Nat) (x : En) (t : List En) (L : List (List En)) : hdK k i ((x :: t) :: L) = if x.1 = k then (i, x) :: hdK k (i + 1) L else hdK k (i + 1) L := rfl
theorem hdK_mem (k : ByteArray) : ∀ (S : List (List En)) (j i : Nat) (x : En), (i, x) ∈ hdK k j S ↔ ∃ t, j ≤ i ∧ S[i - j]? = some (x :: t) ∧ x.1 = k
  | [], j, i, x => by simp [hdK]
  | l :: L, j, i, x => by
    have ih := hdK_mem k L (j + 1) i x
    have hs : ∀ t, (j ≤ i ∧ (l :: L)[i - j]? = some (x :: t) ∧ x.1 = k) ↔ (i = j ∧ l = x :: t ∧ x.1 = k) ∨ (j + 1 ≤ i ∧ L[i - (j + 1)]? = some (x :: t) ∧ x.1 = k) := fun t => by
      constructor
      · rintro ⟨h1, h2, h3⟩
        by_cases e : i = j
        · subst e
          rw [Nat.sub_self] at h2
          exact Or.inl ⟨rfl, by simpa using h2, h3⟩
        · rw [show i - j = i - (j + 1) + 1 by omega, List.getElem?_cons_succ] at h2
          exact Or.inr ⟨by omega, h2, h3⟩
      · rintro (⟨rfl, rfl, h3⟩ | ⟨h1, h2, h3⟩)
        · exact ⟨Nat.le_refl _, by rw [Nat.sub_self]; rfl, h3⟩
        · refine ⟨by omega, ?_, h3⟩
          rw [show i - j = i - (j + 1) + 1 by omega, List.getElem?_cons_succ]
          exact h2
    simp only [hs]
    cases l with
    | nil =>
      show (i, x) ∈ hdK k (j + 1) L ↔ _
      rw [ih]
      simp
    | cons y t =>
      rw [hdK_cons]
      by_cases e : y.1 = k
      · rw [if_pos e, List.mem_cons, ih]
        constructor
        · rintro (h | ⟨t2, h⟩)
          · obtain ⟨rfl, rfl⟩ := Prod.mk.injEq .. ▸ h
            exact ⟨t, Or.inl ⟨rfl, rfl, e⟩⟩
          · exact ⟨t2, Or.inr h⟩
        · rintro ⟨t2, ⟨rfl, h2, h3⟩ | h⟩
          · exact Or.inl (by rw [(List.cons.inj h2).1])
          · exact Or.inr ⟨t2, h⟩
      · rw [if_neg e, ih]
        constructor
        · rintro ⟨t2, h⟩
          exact ⟨t2, Or.inr h⟩
        · rintro ⟨t2, ⟨rfl, h2, h3⟩ | h⟩
          · exact absurd ((congrArg Prod.fst (List.cons.inj h2).1).trans h3) e
          · exact ⟨t2, h⟩
theorem hdK_sorted (k : ByteArray) : ∀ (S : List (List En)) (j : Nat), (hdK k j S).Pairwise fun a b => a.1 < b.1
  | [], _ => List.Pairwise.nil
  | [] :: L, j => hdK_sorted k L (j + 1)
  | (x :: t) :: L, j => by
    rw [hdK_cons]
    split
    · refine List.pairwise_cons.2 ⟨fun y hy => ?_, hdK_sorted k L (j + 1)⟩
      obtain ⟨_, h, _⟩ := (hdK_mem k L (j + 1) y.1 y.2).1 hy
      show j < y.1
      omega
    · exact hdK_sorted k L (j + 1)
theorem hdK_first : ∀ (S : List (List En)) (j : Nat) (x : En), leastE S = some x → ∃ i r, hdK x.1 j S = (i, x) :: r
  | [], _, _, h => by cases h
  | [] :: L, j, x, h => hdK_first L (j + 1) x h
  | (z :: t) :: L, j, x, h => by
    rw [least_cons] at h
    rw [hdK_cons]
    cases hu : leastE L with
    | none =>
      rw [hu] at h
      obtain rfl : z = x := Option.some.inj h
      rw [if_pos rfl]
      exact ⟨_, _, rfl⟩
    | some u =>
      rw [hu] at h
      simp only at h
      by_cases q : tl (kE u) (kE z) = true
      · rw [if_pos q] at h
        obtain rfl : u = x := Option.some.inj h
        rw [if_neg (fun e => kE_ne q e.symm)]
        exact hdK_first L (j + 1) u hu
      · rw [if_neg q] at h
        obtain rfl : z = x := Option.some.inj h
        rw [if_pos rfl]
        exact ⟨_, _, rfl⟩
theorem drop1_le (k : ByteArray) (l : List En) : (drop1 k l).length ≤ l.length := by
  cases l with
  | nil => exact Nat.le_refl _
  | cons x t => rw [drop1_cons]; split <;> simp
theorem tot_le (k : ByteArray) : ∀ S : List (List En), totS (S.map (drop1 k)) ≤ totS S
  | [] => Nat.le_refl _
  | l :: S => by
    have := tot_le k S
    have := drop1_le k l
    simp only [totS, List.map_cons, List.sum_cons] at *
    omega
theorem tot_lt : ∀ (S : List (List En)) (x : En), leastE S = some x → totS (S.map (drop1 x.1)) < totS S := by
  intro S x h
  obtain ⟨i, r, hr⟩ := hdK_first S 0 x h
  obtain ⟨t, _, h2, _⟩ := (hdK_mem x.1 S 0 i x).1 (by rw [hr]; simp)
  rw [Nat.sub_zero] at h2
  have : ∀ (S : List (List En)) (i : Nat), S[i]? = some (x :: t) → totS (S.map (drop1 x.1)) < totS S := by
    intro S
    induction S with
    | nil => intro i h; simp at h
    | cons l S ih =>
      intro i h
      cases i with
      | zero =>
        simp only [List.getElem?_cons_zero, Option.some.injEq] at h
        subst h
        have := tot_le x.1 S
        simp only [totS, List.map_cons, List.sum_cons, drop1_cons, if_pos, List.length_cons] at *
        omega
      | succ i =>
        have := ih i (by simpa using h)
        have := drop1_le x.1 l
        simp only [totS, List.map_cons, List.sum_cons] at *
        omega
  exact this S i h2
theorem rowsS_ne : ∀ (n : Nat) (S : List (List En)) (r : List (Nat × En)), r ∈ rowsS n S → r ≠ []
  | 0, _, _, h => by cases h
  | n + 1, S, r, h => by
    unfold rowsS at h
    cases hl : leastE S with
    | none => rw [hl] at h; cases h
    | some x =>
      rw [hl] at h
      rcases List.mem_cons.1 h with rfl | h
      · obtain ⟨i, q, e⟩ := hdK_first S 0 x hl
        rw [e]
        simp
      · exact rowsS_ne n _ r h
theorem rows_none {n : Nat} {S : List (List En)} (h : leastE S = none) : rowsS n S = [] := by
  cases n with
  | zero => rfl
  | succ n => unfold rowsS; rw [h]
theorem tot_pos {S : List (List En)} {x : En} (h : leastE S = some x) : 0 < totS S := Nat.lt_of_le_of_lt (Nat.zero_le _) (tot_lt S x h)
theorem rows_some {n : Nat} {S : List (List En)} {x : En} (h : leastE S = some x) (hn : totS S ≤ n) : ∃ m, n = m + 1 ∧ rowsS n S = hdK x.1 0 S :: rowsS m (S.map (drop1 x.1)) ∧ totS (S.map (drop1 x.1)) ≤ m := by
  have h1 := tot_lt S x h
  cases n with
  | zero => omega
  | succ m => exact ⟨m, rfl, by rw [rowsS]; rw [h], by omega⟩
theorem SE.drops {S : List (List En)} (k : ByteArray) (h : ∀ l ∈ S, SE l) : ∀ l ∈ S.map (drop1 k), SE l := fun l hl => by
  obtain ⟨m, hm, rfl⟩ := List.mem_map.1 hl
  exact drop1_SE _ (h m hm)
/-- The first of each row: the lists as one. -/
theorem rows_first : ∀ (n : Nat) (S : List (List En)), (∀ l ∈ S, SE l) → totS S ≤ n → (rowsS n S).map firstR = mrgE S := by
  intro n
  induction n with
  | zero =>
    intro S hs hn
    cases hl : leastE S with
    | none => rw [mrg_end hs hl]; rfl
    | some x => have := tot_pos hl; omega
  | succ n ih =>
    intro S hs hn
    cases hl : leastE S with
    | none => rw [mrg_end hs hl, rows_none hl]; rfl
    | some x =>
      obtain ⟨m, e, h1, h2⟩ := rows_some hl hn
      obtain rfl : n = m := by omega
      obtain ⟨i, r, e⟩ := hdK_first S 0 x hl
      rw [h1, mrg_step hs hl, List.map_cons, ih _ (SE.drops _ hs) h2, e]
      rfl
/-- Two lists side by side. -/
def lookR (i : Nat) : List (Nat × En) → En
  | [] => zeroEn
  | y :: r => if y.1 = i then y.2 else lookR i r
def pairR (r : List (Nat × En)) : En × En := (lookR 0 r, lookR 1 r)
def sideE (a b : List En) (x : En) : En × En := ((ofE a x.1).getD zeroEn, (ofE b x.1).getD zeroEn)
theorem of_least {l : List En} {x : En} (hs : SE l) (hb : ∀ y ∈ l, tl (kE y) (kE x) = false) : ofE l x.1 = match l with
    | [] => none
    | y :: _ => if y.1 = x.1 then some y else none := by
  cases l with
  | nil => rfl
  | cons y t =>
    by_cases e : y.1 = x.1
    · simp [ofE, e]
    · simp only [if_neg e]
      refine ofE_below fun z hz => ?_
      have hyx : tl (kE x) (kE y) = true := by
        cases r : tl (kE x) (kE y) with
        | true => rfl
        | false => exact absurd (bl_inj (tl_total _ _ (hb y (by simp)) r)) e
      rcases List.mem_cons.1 hz with rfl | hz
      · exact hyx
      · exact tl_trans _ _ _ hyx (hs.head z hz)
theorem rows_pairs : ∀ (n : Nat) (a b : List En), SE a → SE b → totS [a, b] ≤ n → (rowsS n [a, b]).map pairR = (mrgE [a, b]).map (sideE a b) := by
  intro n
  induction n with
  | zero =>
    intro a b ha hb hn
    have hs : ∀ l ∈ [a, b], SE l := fun l hl => by
      simp only [List.mem_cons, List.not_mem_nil, or_false] at hl
      rcases hl with rfl | rfl <;> assumption
    cases hl : leastE [a, b] with
    | none => rw [mrg_end hs hl]; rfl
    | some x => have := tot_pos hl; omega
  | succ n ih =>
    intro a b ha hb hn
    have hs : ∀ l ∈ [a, b], SE l := fun l hl => by
      simp only [List.mem_cons, List.not_mem_nil, or_false] at hl
      rcases hl with rfl | rfl <;> assumption
    cases hl : leastE [a, b] with
    | none => rw [mrg_end hs hl, rows_none hl]; rfl
    | some x =>
      obtain ⟨m, e, h1, h2⟩ := rows_some hl hn
      obtain rfl : n = m := by omega
      have hst := mrg_step hs hl
      have hsorted : SE (x :: mrgE ([a, b].map (drop1 x.1))) := hst ▸ SE.mrg _
      obtain ⟨hb1, _⟩ := least_some _ x hs hl
      have e2 : [a, b].map (drop1 x.1) = [drop1 x.1 a, drop1 x.1 b] := rfl
      rw [e2] at h2 hsorted hst h1
      rw [h1, hst, List.map_cons, List.map_cons]
      rw [ih _ _ (drop1_SE _ ha) (drop1_SE _ hb) h2]
      congr 1
      · unfold pairR sideE
        rw [of_least ha (hb1 a (by simp)), of_least hb (hb1 b (by simp))]
        cases a with
        | nil =>
          cases b with
          | nil => rfl
          | cons y s =>
            show (lookR 0 (hdK x.1 1 ((y :: s) :: [])), lookR 1 (hdK x.1 1 ((y :: s) :: []))) = _
            rw [hdK_cons]
            by_cases q : y.1 = x.1
            · simp only [if_pos q]; rfl
            · simp only [if_neg q]; rfl
        | cons z t =>
          rw [hdK_cons]
          cases b with
          | nil =>
            by_cases p : z.1 = x.1
            · simp only [if_pos p]; rfl
            · simp only [if_neg p]; rfl
          | cons y s =>
            rw [hdK_cons]
            by_cases p : z.1 = x.1
            · by_cases q : y.1 = x.1
              · simp only [if_pos p, if_pos q]; rfl
              · simp only [if_pos p, if_neg q]; rfl
            · by_cases q : y.1 = x.1
              · simp only [if_neg p, if_pos q]; rfl
              · simp only [if_neg p, if_neg q]; rfl
      · refine List.map_congr_left fun y hy => ?_
        have hne : x.1 ≠ y.1 := kE_ne (hsorted.head y hy)
        unfold sideE
        rw [ofE_drop1 hne, ofE_drop1 hne]
end Go.Proofs.Ytcjepiihknjeiaa

/- The objects of words, as plain data; nothing here speaks of the program. -/
namespace Go.Proofs.Ytcjepiihknjeiaa
open Go.RowKit

def szN (h : Int) : Nat := (h / 4096).toNat
def ptN (h : Int) : Nat := (h / 16 % 256).toNat
/-- The word at a place. -/
def wd (ws : List Int) (k : Nat) : Int := ws[k]?.getD 0
theorem wd_get {ws : List Int} {k : Nat} (h : k < ws.length) : ws[k]? = some (wd ws k) := by simp [wd, List.getElem?_eq_getElem h]
/-- All of them are words. -/
def U32 (ws : List Int) : Prop := ∀ h ∈ ws, 0 ≤ h ∧ h < 4294967296
theorem U32.wd {ws : List Int} (h : U32 ws) (k : Nat) : 0 ≤ wd ws k ∧ wd ws k < 4294967296 := by
  by_cases hk : k < ws.length
  · simp only [Go.Proofs.Ytcjepiihknjeiaa.wd, List.getElem?_eq_getElem hk, Option.getD_some]
    exact h _ (List.getElem_mem hk)
  · simp [Go.Proofs.Ytcjepiihknjeiaa.wd, List.getElem?_eq_none (Nat.le_of_not_lt hk)]
theorem szN_int {h : Int} (h0 : 0 ≤ h) : ((szN h : Nat) : Int) = h / 4096 := by unfold szN; omega
theorem ptN_int (h : Int) : ((ptN h : Nat) : Int) = h / 16 % 256 := by unfold ptN; omega
theorem szN_lt {h : Int} (h1 : h < 4294967296) : szN h < 1048576 := by unfold szN; omega
theorem ptN_lt (h : Int) : ptN h < 256 := by unfold ptN; omega

/-- May an object begin here? -/
def okH (ws : List Int) (p : Nat) : Prop := p < ws.length ∧ ptN (wd ws p) < szN (wd ws p) ∧ szN (wd ws p) ≤ ws.length - p
instance (ws : List Int) (p : Nat) : Decidable (okH ws p) := by unfold okH; infer_instance
def ob (ws : List Int) : Nat → Nat → List (Nat × Int)
  | 0, _ => []
  | f + 1, p => if okH ws p then (p, wd ws p) :: ob ws f (p + szN (wd ws p)) else []
/-- The objects from a place on: places and heads. -/
def obs (ws : List Int) (p : Nat) : List (Nat × Int) := ob ws (ws.length - p) p
theorem ob_fuel (ws : List Int) : ∀ (f g p : Nat), ws.length - p ≤ f → ws.length - p ≤ g → ob ws f p = ob ws g p
  | 0, 0, _, _, _ => rfl
  | 0, g + 1, p, hf, _ => by
    have : ¬ okH ws p := fun h => by have := h.1; omega
    simp [ob, this]
  | f + 1, 0, p, _, hg => by
    have : ¬ okH ws p := fun h => by have := h.1; omega
    simp [ob, this]
  | f + 1, g + 1, p, hf, hg => by
    simp only [ob]
    split
    · rename_i h
      obtain ⟨h1, h2, h3⟩ := h
      rw [ob_fuel ws f g _ (by omega) (by omega)]
    · rfl
theorem obs_step {ws : List Int} {p : Nat} (h : okH ws p) : obs ws p = (p, wd ws p) :: obs ws (p + szN (wd ws p)) := by
  obtain ⟨h1, h2, h3⟩ := h
  unfold obs
  obtain ⟨f, hf⟩ : ∃ f, ws.length - p = f + 1 := ⟨ws.length - p - 1, by omega⟩
  rw [hf, ob, if_pos ⟨h1, h2, h3⟩, ob_fuel ws f (ws.length - (p + szN (wd ws p))) _ (by omega) (by omega)]
theorem obs_stop {ws : List Int} {p : Nat} (h : ¬ okH ws p) : obs ws p = [] := by
  unfold obs
  cases ws.length - p with
  | zero => rfl
  | succ f => simp [ob, h]
/-- Where the objects that came end. -/
def endO (pre : List (Nat × Int)) : Nat := pre.foldl (fun _ x => x.1 + szN x.2) 1
theorem endO_snoc (pre : List (Nat × Int)) (x : Nat × Int) : endO (pre ++ [x]) = x.1 + szN x.2 := by simp [endO]
/-- What comes behind objects is what begins where they end. -/
theorem obs_split {ws : List Int} : ∀ {pre rest : List (Nat × Int)} {p : Nat}, obs ws p = pre ++ rest → rest = obs ws (pre.foldl (fun _ x => x.1 + szN x.2) p)
  | [], rest, p, h => by simpa using h.symm
  | x :: pre, rest, p, h => by
    by_cases hk : okH ws p
    · rw [obs_step hk] at h
      simp only [List.cons_append, List.cons.injEq] at h
      obtain ⟨rfl, h⟩ := h
      exact obs_split (p := p + szN (wd ws p)) h
    · rw [obs_stop hk] at h
      simp at h
theorem obs_head {ws : List Int} {p : Nat} {x : Nat × Int} {rest : List (Nat × Int)} (h : obs ws p = x :: rest) : x.1 = p ∧ x.2 = wd ws p ∧ okH ws p ∧ rest = obs ws (p + szN (wd ws p)) := by
  by_cases hk : okH ws p
  · rw [obs_step hk] at h
    simp only [List.cons.injEq] at h
    obtain ⟨rfl, h⟩ := h
    exact ⟨rfl, rfl, hk, h.symm⟩
  · rw [obs_stop hk] at h
    simp at h
theorem obs_nil {ws : List Int} {p : Nat} (h : obs ws p = []) : ¬ okH ws p := fun hk => by rw [obs_step hk] at h; simp at h
/-- One object more. -/
theorem obs_next {ws : List Int} {pre rest : List (Nat × Int)} {x : Nat × Int} (h : obs ws 1 = pre ++ x :: rest) : x.1 = endO pre ∧ x.2 = wd ws x.1 ∧ okH ws x.1 ∧ rest = obs ws (endO (pre ++ [x])) := by
  have h1 := obs_split h
  obtain ⟨a, b, c, d⟩ := obs_head h1.symm
  have e : endO pre = pre.foldl (fun _ x => x.1 + szN x.2) 1 := rfl
  rw [← e] at a b c d
  refine ⟨a, by rw [a]; exact b, by rw [a]; exact c, ?_⟩
  rw [endO_snoc, d, a, b]
theorem endO_le {ws : List Int} {pre rest : List (Nat × Int)} (h : obs ws 1 = pre ++ rest) : 1 ≤ endO pre ∧ (endO pre ≤ ws.length ∨ endO pre = 1) := by
  rcases List.eq_nil_or_concat pre with rfl | ⟨q, x, rfl⟩
  · exact ⟨Nat.le_refl _, Or.inr rfl⟩
  · rw [List.concat_eq_append, List.append_assoc] at h
    obtain ⟨a, b, c, d⟩ := obs_next h
    rw [List.concat_eq_append, endO_snoc]
    obtain ⟨c1, c2, c3⟩ := c
    rw [← b] at c2 c3
    exact ⟨by omega, Or.inl (by omega)⟩
/-- The objects ahead end at or ahead of the place. -/
theorem obs_ahead {ws : List Int} : ∀ {pre : List (Nat × Int)} {rest : List (Nat × Int)} {x : Nat × Int} {p : Nat}, obs ws p = pre ++ x :: rest → p ≤ x.1 ∧ ∀ y ∈ pre, y.1 < x.1
  | [], rest, x, p, h => by
    obtain ⟨a, _⟩ := obs_head (by simpa using h)
    exact ⟨Nat.le_of_eq a.symm, fun y hy => by cases hy⟩
  | z :: pre, rest, x, p, h => by
    obtain ⟨a, b, c, d⟩ := obs_head (by simpa using h)
    obtain ⟨e, f⟩ := obs_ahead (ws := ws) (pre := pre) (rest := rest) (x := x) (p := p + szN (wd ws p)) d.symm
    obtain ⟨c1, c2, c3⟩ := c
    refine ⟨by omega, fun y hy => ?_⟩
    cases hy with
    | head => omega
    | tail _ hy => exact f y hy
theorem obs_mem {ws : List Int} {x : Nat × Int} (h : x ∈ obs ws 1) : 1 ≤ x.1 ∧ x.2 = wd ws x.1 ∧ okH ws x.1 := by
  obtain ⟨pre, rest, hs⟩ := List.append_of_mem h
  obtain ⟨a, b, c, d⟩ := obs_next hs
  exact ⟨(obs_ahead hs).1, b, c⟩
/-- Of each word: does an object begin there? -/
def marks (n : Nat) (pre : List (Nat × Int)) : List Bool := (List.range n).map fun k => decide (k ∈ pre.map Prod.fst)
theorem marks_length (n : Nat) (pre : List (Nat × Int)) : (marks n pre).length = n := by simp [marks]
theorem marks_nil (n : Nat) : marks n [] = List.replicate n false := by
  apply List.ext_getElem?
  intro k
  simp only [marks, List.map_nil, List.not_mem_nil, decide_false, List.getElem?_map, List.getElem?_replicate]
  by_cases h : k < n
  · simp [h]
  · simp [h]
theorem marks_snoc (n : Nat) (pre : List (Nat × Int)) (x : Nat × Int) : marks n (pre ++ [x]) = (marks n pre).set x.1 true := by
  apply List.ext_getElem?
  intro k
  rw [List.getElem?_set]
  by_cases h : k < n
  · by_cases hk : x.1 = k
    · subst hk; simp [marks, h]
    · have : ¬ k = x.1 := fun e => hk e.symm
      simp [marks, h, hk, this]
  · simp [marks, h]
    intro _; omega
theorem marks_get {n k : Nat} (pre : List (Nat × Int)) (h : k < n) : (marks n pre)[k]? = some (decide (k ∈ pre.map Prod.fst)) := by simp [marks, h]
/-- None, or an object's place. -/
def isPl (n : Nat) (Z : List (Nat × Int)) (a : Int) : Bool := decide (a = 0) || (decide (0 < a) && decide (a < n) && decide (a.toNat ∈ Z.map Prod.fst))
/-- The pointers of an object. -/
def ptrsO (ws : List Int) (x : Nat × Int) : List Int := (ws.drop (x.1 + 1)).take (ptN x.2)
def dataO (ws : List Int) (x : Nat × Int) : List Int := (ws.drop (x.1 + 1 + ptN x.2)).take (szN x.2 - 1 - ptN x.2)
/-- Is it a heap with these roots? -/
def heapB (ws rs : List Int) : Bool := decide (endO (obs ws 1) = ws.length) && (obs ws 1).all (fun x => (ptrsO ws x).all (isPl ws.length (obs ws 1))) && rs.all (isPl ws.length (obs ws 1))
def rightB (ws rs : List Int) : Bool := decide (1 ≤ ws.length) && decide (ws.length ≤ 1048576) && decide (wd ws 0 = 0) && decide (rs.length ≤ 16) && heapB ws rs
/-- The object at a place. -/
def fndO (ws : List Int) (a : Int) : Option (Nat × Int) := (obs ws 1).find? fun x => decide ((x.1 : Int) = a)
end Go.Proofs.Ytcjepiihknjeiaa

/- An entry more in its place, by where it goes; nothing here speaks of the program. -/
namespace Go.Proofs.Ytcjepiihknjeiaa
open Go.RowKit

theorem withE_at {e : En} : ∀ (k : Nat) (l : List En), k ≤ l.length → (∀ j x, j < k → l[j]? = some x → tl (kE x) (kE e) = true) → (∀ x, l[k]? = some x → tl (kE x) (kE e) = false) →
    ∀ m, (m = k + 1 ∧ ∃ x, l[k]? = some x ∧ x.1 = e.1) ∨ (m = k ∧ ∀ x, l[k]? = some x → x.1 ≠ e.1) → withE l e = l.take k ++ e :: l.drop m
  | 0, [], _, _, _, m, _ => by simp [withE]
  | 0, x :: l, _, _, hs, m, hm => by
    have h1 := hs x rfl
    unfold withE
    rw [if_neg (by rw [h1]; decide)]
    rcases hm with ⟨rfl, y, hy, h2⟩ | ⟨rfl, h2⟩
    · simp at hy
      subst hy
      rw [if_pos h2]
      rfl
    · rw [if_neg (h2 x rfl)]
      rfl
  | k + 1, [], hk, _, _, _, _ => by simp at hk
  | k + 1, x :: l, hk, hl, hs, m, hm => by
    unfold withE
    rw [if_pos (hl 0 x (by omega) rfl)]
    have hm2 : ∃ n, m = n + 1 ∧ ((n = k + 1 ∧ ∃ x, l[k]? = some x ∧ x.1 = e.1) ∨ (n = k ∧ ∀ x, l[k]? = some x → x.1 ≠ e.1)) := by
      rcases hm with ⟨rfl, h⟩ | ⟨rfl, h⟩
      · exact ⟨k + 1, rfl, Or.inl ⟨rfl, by simpa using h⟩⟩
      · exact ⟨k, rfl, Or.inr ⟨rfl, by simpa using h⟩⟩
    obtain ⟨n, rfl, hn⟩ := hm2
    rw [withE_at k l (by simpa using hk) (fun j y hj hy => hl (j + 1) y (by omega) (by simpa using hy)) (fun y hy => hs y (by simpa using hy)) n hn]
    rfl
theorem withE_len : ∀ (l : List En) (e : En), (withE l e).length ≤ l.length + 1
  | [], e => by simp [withE]
  | x :: l, e => by
    unfold withE
    have := withE_len l e
    split
    · simp; omega
    · split
      · simp
      · simp
end Go.Proofs.Ytcjepiihknjeiaa
