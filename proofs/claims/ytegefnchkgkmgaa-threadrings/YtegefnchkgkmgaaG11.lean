/- Texts of ours, one behind the other: ThPlain4, KeysPlain. -/
import Derived.Test.YtegefnchkgkmgaaG3
import Derived.WalkKit
/- The words of an object whose pointers were followed; nothing here speaks of the program. -/
namespace Go.Proofs.Ytegefnchkgkmgaa
open Go.RowKit

theorem wrd_get {ws l : List Int} (h : Liv ws l) {a : Int} {p j : Nat} (hp : (p : Int) = a) (ha : isOb ws a) (hj : j + 1 < szA ws a) :
    (wrdO (obT ws (toA ws l) a))[j + 1]? = some (if j < ptN (wd ws p) then toA ws l (wd ws (p + 1 + j)) else wd ws (p + 1 + j)) := by
  subst hp
  obtain ⟨g1, g2, g3⟩ := obT_good h.u32 (t := toA ws l) ha
  obtain ⟨s1, s2, s3, s4⟩ := isOb_size ha
  have hpl := ptsA_len ha
  rw [Int.toNat_natCast] at *
  rw [wrdO_good g1, List.getElem?_cons_succ]
  show (w32 ((ptsA ws (p : Int)).map (toA ws l)) ++ dtA ws (p : Int))[j]? = _
  rw [h.w32]
  unfold szA at hj
  rw [Int.toNat_natCast] at hj
  by_cases hlt : j < ptN (wd ws p)
  · rw [if_pos hlt, List.getElem?_append_left (by rw [List.length_map, hpl]; exact hlt), List.getElem?_map]
    have := ptsA_get ha (k := j) (by rw [Int.toNat_natCast]; exact hlt)
    rw [Int.toNat_natCast] at this
    rw [this]; rfl
  · rw [if_neg hlt, List.getElem?_append_right (by rw [List.length_map, hpl]; omega), List.length_map, hpl]
    unfold dtA dataO
    dsimp only
    rw [Int.toNat_natCast, List.getElem?_take, if_pos (by omega), List.getElem?_drop, show p + 1 + ptN (wd ws p) + (j - ptN (wd ws p)) = p + 1 + j by omega]
    exact wd_get (by omega)
theorem wrd_take {ws l : List Int} {a y : Int} {j : Nat} (h : (wrdO (obT ws (toA ws l) a))[j]? = some y) : (wrdO (obT ws (toA ws l) a)).take (j + 1) = (wrdO (obT ws (toA ws l) a)).take j ++ [y] := by
  rw [List.take_add_one, h]; rfl
theorem lay_snoc' {ws l M : List Int} {a : Int} : layW ((M ++ [a]).map (obT ws (toA ws l))) = layW (M.map (obT ws (toA ws l))) ++ wrdO (obT ws (toA ws l) a) := by
  rw [List.map_append, List.map_cons, List.map_nil, layW_snoc]

end Go.Proofs.Ytegefnchkgkmgaa

/- Texts as plain data: their order, the next one, ranges, what begins with a text; nothing here speaks of the program. -/
namespace Go.Proofs.Ytegefnchkgkmgaa
open Go.RowKit

abbrev tl := Op.bytesLess
theorem kr_true {b : Bool} (h : b = true) : Ending.returned (.bool b) = .returned (.bool true) := by rw [h]
theorem khide {p : Prop} (h : p) : Hid p := h
theorem kunhide {p : Prop} (h : Hid p) : p := h

theorem tl_nil (a : List UInt8) : tl a [] = false := by cases a <;> rfl
theorem tl_cons (a b : UInt8) (x y : List UInt8) : tl (a :: x) (b :: y) = (decide (a < b) || (a == b && tl x y)) := rfl
theorem u8_cases (a b : UInt8) : (a < b ∧ ¬ a = b ∧ ¬ b < a) ∨ (a = b ∧ ¬ a < b ∧ ¬ b < a) ∨ (b < a ∧ ¬ a = b ∧ ¬ a < b) := by
  simp only [UInt8.lt_iff_toNat_lt, ← UInt8.toNat_inj]
  omega
theorem u8_irr (x : UInt8) : ¬ x < x := by simp
theorem beq_no {a b : UInt8} (h : ¬ a = b) : (a == b) = false := by simp [h]
theorem tl_irr (a : List UInt8) : tl a a = false := by
  induction a with
  | nil => rfl
  | cons x a ih => rw [tl_cons, ih, decide_eq_false (u8_irr x)]; simp
theorem tl_asym : ∀ (a b : List UInt8), tl a b = true → tl b a = false
  | a, [] => fun h => by rw [tl_nil] at h; cases h
  | [], _ :: _ => fun _ => tl_nil _
  | x :: a, y :: b => fun h => by
    rw [tl_cons] at *
    have ih := tl_asym a b
    rcases u8_cases x y with ⟨h1, h2, h3⟩ | ⟨h1, h2, h3⟩ | ⟨h1, h2, h3⟩
    · simp [h3]; intro e; exact absurd e.symm h2
    · subst h1; simp [h2] at *; exact ih h
    · simp [h3, h2] at h
theorem tl_trans : ∀ (a b c : List UInt8), tl a b = true → tl b c = true → tl a c = true
  | a, b, [] => fun _ h => by rw [tl_nil] at h; cases h
  | a, [], _ :: _ => fun h _ => by rw [tl_nil] at h; cases h
  | [], _ :: _, _ :: _ => fun _ _ => rfl
  | x :: a, y :: b, z :: c => fun h k => by
    rw [tl_cons] at *
    have ih := tl_trans a b c
    simp only [Bool.or_eq_true, Bool.and_eq_true, decide_eq_true_eq, beq_iff_eq] at *
    rcases h with h | ⟨rfl, h⟩
    · rcases k with k | ⟨rfl, k⟩
      · exact Or.inl (by simp only [UInt8.lt_iff_toNat_lt] at *; omega)
      · exact Or.inl h
    · rcases k with k | ⟨rfl, k⟩
      · exact Or.inl k
      · exact Or.inr ⟨rfl, ih h k⟩
theorem tl_total : ∀ (a b : List UInt8), tl a b = false → tl b a = false → a = b
  | [], [] => fun _ _ => rfl
  | [], _ :: _ => fun h _ => by cases h
  | _ :: _, [] => fun _ h => by cases h
  | x :: a, y :: b => fun h k => by
    rw [tl_cons] at *
    have ih := tl_total a b
    rcases u8_cases x y with ⟨h1, h2, h3⟩ | ⟨h1, h2, h3⟩ | ⟨h1, h2, h3⟩
    · simp [h1] at h
    · subst h1; simp [h2] at h k; rw [ih h k]
    · simp [h1] at k
theorem tl_next : ∀ (a b : List UInt8), tl b (a ++ [0]) = !tl a b
  | a, [] => by rw [tl_nil]; cases a <;> rfl
  | [], y :: b => by
    show (decide (y < 0) || (y == 0 && tl b [])) = !true
    rw [tl_nil]
    have : ¬ y < 0 := by simp only [UInt8.lt_iff_toNat_lt]; simp
    simp [this]
  | x :: a, y :: b => by
    rw [List.cons_append, tl_cons, tl_cons, tl_next a b]
    rcases u8_cases x y with ⟨h1, h2, h3⟩ | ⟨h1, h2, h3⟩ | ⟨h1, h2, h3⟩
    · have h4 : ¬ y = x := fun e => h2 e.symm
      simp [h1, h3, h4]
    · subst h1; simp [h2]
    · simp [h1, h2, h3]

/-- What a range has: from lo on, below hi; an empty hi is no end. -/
def wi (lo hi k : List UInt8) : Bool := !tl k lo && (hi.isEmpty || tl k hi)
/-- No text is in it. -/
def em (lo hi : List UInt8) : Bool := !(hi.isEmpty || tl lo hi)
theorem em_eq (lo hi : List UInt8) : em lo hi = !wi lo hi lo := by simp [em, wi, tl_irr]
def mlo (a c : List UInt8) : List UInt8 := if tl a c then c else a
def mhi (b d : List UInt8) : List UInt8 := if d.isEmpty || (!b.isEmpty && tl b d) then b else d
theorem wi_meet (a b c d k : List UInt8) : wi (mlo a c) (mhi b d) k = (wi a b k && wi c d k) := by
  have h1 : tl k (mlo a c) = (tl k a || tl k c) := by
    unfold mlo
    cases hac : tl a c with
    | true =>
      simp only [if_true]
      cases hka : tl k a with
      | true => rw [tl_trans k a c hka hac]; rfl
      | false => simp
    | false =>
      simp only [Bool.false_eq_true, if_false]
      cases hkc : tl k c with
      | true =>
        cases hka : tl k a with
        | true => rfl
        | false =>
          exfalso
          cases hca : tl c a with
          | true => rw [tl_trans k c a hkc hca] at hka; cases hka
          | false => have := tl_total a c hac hca; subst this; rw [hka] at hkc; cases hkc
      | false => simp
  have h2 : ((mhi b d).isEmpty || tl k (mhi b d)) = ((b.isEmpty || tl k b) && (d.isEmpty || tl k d)) := by
    unfold mhi
    cases hd : d.isEmpty with
    | true => simp
    | false =>
      cases hb : b.isEmpty with
      | true => simp [hd]
      | false =>
        cases hbd : tl b d with
        | true =>
          simp only [Bool.false_or, Bool.not_false, Bool.true_and, if_true, hb]
          cases hkb : tl k b with
          | true => rw [tl_trans k b d hkb hbd]; rfl
          | false => simp
        | false =>
          simp only [Bool.false_or, Bool.not_false, Bool.true_and, Bool.false_eq_true, if_false, hd]
          cases hkd : tl k d with
          | true =>
            cases hkb : tl k b with
            | true => rfl
            | false =>
              exfalso
              cases hdb : tl d b with
              | true => rw [tl_trans k d b hkd hdb] at hkb; cases hkb
              | false => have := tl_total b d hbd hdb; subst this; rw [hkb] at hkd; cases hkd
          | false => simp
  unfold wi
  rw [h1, h2]
  cases tl k a <;> cases tl k c <;> cases (b.isEmpty || tl k b) <;> cases (d.isEmpty || tl k d) <;> rfl
theorem mhi_eq (b d : List UInt8) : mhi b d = if b.isEmpty || (!d.isEmpty && tl d b) then d else b := by
  unfold mhi
  cases hd : d.isEmpty with
  | true =>
    cases hb : b.isEmpty with
    | true => simp at *; rw [hb, hd]
    | false => simp
  | false =>
    cases hb : b.isEmpty with
    | true => simp
    | false =>
      cases hbd : tl b d with
      | true => simp [tl_asym b d hbd]
      | false =>
        cases hdb : tl d b with
        | true => simp
        | false => simp [tl_total b d hbd hdb]
/-- In an empty range nothing is. -/
theorem wi_em (lo hi k : List UInt8) (h : em lo hi = true) : wi lo hi k = false := by
  unfold em at h
  unfold wi
  simp only [Bool.not_eq_true', Bool.or_eq_false_iff] at h
  rw [h.1]
  cases hk : tl k lo with
  | true => rfl
  | false =>
    cases hh : tl k hi with
    | false => rfl
    | true =>
      exfalso
      cases hl : tl lo k with
      | true => have := tl_trans lo k hi hl hh; rw [h.2] at this; cases this
      | false => have := tl_total lo k hl hk; subst this; rw [h.2] at hh; cases hh

/-- The end of what begins with a text, from the front. -/
def bhd : List UInt8 → Option (List UInt8)
  | [] => none
  | c :: r => match bhd r with
    | some e => some (c :: e)
    | none => if c = 255 then none else some [c + 1]
def bhE (p : List UInt8) : List UInt8 := (bhd p).getD []
theorem bhd_ne (p e : List UInt8) (h : bhd p = some e) : e.isEmpty = false := by
  cases p with
  | nil => cases h
  | cons c r =>
    rw [bhd] at h
    cases hr : bhd r with
    | some x => rw [hr] at h; cases h; rfl
    | none =>
      rw [hr] at h
      simp only at h
      split at h
      · cases h
      · cases h; rfl
theorem bhd_all (p : List UInt8) (h : ∀ c ∈ p, c = 255) : bhd p = none := by
  induction p with
  | nil => rfl
  | cons c r ih => rw [bhd, ih (fun c hc => h c (List.mem_cons_of_mem _ hc)), h c List.mem_cons_self]; rfl
theorem bhd_at (x y : List UInt8) (c : UInt8) (hc : ¬ c = 255) (h : ∀ c ∈ y, c = 255) : bhd (x ++ c :: y) = some (x ++ [c + 1]) := by
  induction x with
  | nil => rw [List.nil_append, bhd, bhd_all y h]; simp [hc]
  | cons a x ih => rw [List.cons_append, bhd, ih]; rfl
theorem wi_pre : ∀ (p k : List UInt8), (!tl k p && (match bhd p with | some e => tl k e | none => true)) = p.isPrefixOf k
  | [], k => by rw [tl_nil]; rfl
  | c :: r, [] => rfl
  | c :: r, x :: k => by
    have ih := wi_pre r k
    have hx : x.toNat < 256 := x.toNat_lt
    rw [tl_cons, bhd, List.isPrefixOf, ← ih]
    cases hr : bhd r with
    | some e =>
      simp only [tl_cons]
      rcases u8_cases x c with ⟨h1, h2, h3⟩ | ⟨h1, h2, h3⟩ | ⟨h1, h2, h3⟩
      · have h4 : ¬ c = x := fun e => h2 e.symm
        simp [h1, h4]
      · subst h1; simp [h2]
      · have h4 : ¬ c = x := fun e => h2 e.symm
        rw [decide_eq_false h3, beq_no h2, beq_no h4]; rfl
    | none =>
      by_cases h255 : c = 255
      · simp only [if_pos h255]
        rcases u8_cases x c with ⟨h1, h2, h3⟩ | ⟨h1, h2, h3⟩ | ⟨h1, h2, h3⟩
        · have h4 : ¬ c = x := fun e => h2 e.symm
          simp [h1, h4]
        · subst h1; simp [h2]
        · exfalso; subst h255; simp only [UInt8.lt_iff_toNat_lt] at h1; simp at h1; omega
      · simp only [if_neg h255, tl_cons, tl_nil, Bool.and_false, Bool.or_false]
        have hc : c.toNat < 255 := by
          have := c.toNat_lt
          have h3 : ¬ c.toNat = (255 : UInt8).toNat := fun e => h255 (UInt8.toNat_inj.1 e)
          simp at h3; omega
        have hc1 : (c + 1).toNat = c.toNat + 1 := by rw [UInt8.toNat_add]; simp; omega
        rcases u8_cases x c with ⟨h1, h2, h3⟩ | ⟨h1, h2, h3⟩ | ⟨h1, h2, h3⟩
        · have h4 : ¬ c = x := fun e => h2 e.symm
          simp [h1, h4]
        · subst h1
          have : x < x + 1 := by simp only [UInt8.lt_iff_toNat_lt]; omega
          simp [h2, this]
        · have h4 : ¬ c = x := fun e => h2 e.symm
          have h5 : ¬ x < c + 1 := by simp only [UInt8.lt_iff_toNat_lt] at *; omega
          simp [h4, h5]
theorem wi_bhE (p k : List UInt8) : wi p (bhE p) k = p.isPrefixOf k := by
  rw [← wi_pre p k]
  unfold wi bhE
  cases h : bhd p with
  | none => simp
  | some e => simp [bhd_ne p e h]
theorem pre_app (p k : List UInt8) : p.isPrefixOf (p ++ k) = true := by
  induction p with
  | nil => rfl
  | cons c p ih => simp [ih]
theorem pre_eq (p k : List UInt8) : p.isPrefixOf k = (decide (p.length ≤ k.length) && k.take p.length == p) := by
  induction p generalizing k with
  | nil => simp
  | cons c p ih =>
    cases k with
    | nil => simp [List.isPrefixOf]
    | cons x k =>
      rw [List.isPrefixOf, ih k]
      simp only [List.length_cons, List.take_succ_cons, Nat.add_le_add_iff_right]
      by_cases h : c = x
      · subst h; simp
      · have h2 : ¬ x = c := fun e => h e.symm
        rw [show (x :: List.take p.length k == c :: p) = (x == c && List.take p.length k == p) from rfl, beq_no h, beq_no h2]; simp
theorem wi_parts (lo hi a k : List UInt8) (h : wi lo hi a = true) (ha : a.isEmpty = false) :
    (wi lo a k && wi a hi k) = false ∧ (wi lo a k || wi a hi k) = wi lo hi k := by
  unfold wi at *
  rw [ha]
  simp only [Bool.and_eq_true, Bool.not_eq_true', Bool.false_or] at *
  obtain ⟨h1, h2⟩ := h
  cases hka : tl k a with
  | true =>
    refine ⟨by simp, ?_⟩
    cases hkl : tl k lo with
    | true => simp
    | false =>
      cases hh : hi.isEmpty with
      | true => simp
      | false => rw [hh, Bool.false_or] at h2; rw [tl_trans k a hi hka h2]; rfl
  | false =>
    refine ⟨by simp, ?_⟩
    cases hkl : tl k lo with
    | false => simp
    | true =>
      exfalso
      cases hal : tl a k with
      | true => have := tl_trans a k lo hal hkl; rw [h1] at this; cases this
      | false => have := tl_total k a hka hal; subst this; rw [h1] at hkl; cases hkl
theorem tl_drop (a b : List UInt8) (i : Nat) (h : i ≤ a.length) (k : i ≤ b.length) (he : a.take i = b.take i) : tl (a.drop i) (b.drop i) = tl a b := by
  induction i generalizing a b with
  | zero => rfl
  | succ i ih =>
    cases a with
    | nil => simp at h
    | cons x a =>
      cases b with
      | nil => simp at k
      | cons y b =>
        simp only [List.take_succ_cons, List.cons.injEq] at he
        rw [List.drop_succ_cons, List.drop_succ_cons, ih a b (by simpa using h) (by simpa using k) he.2, tl_cons, he.1, decide_eq_false (u8_irr y)]
        simp

theorem bl_len (p : ByteArray) : p.toList.length = p.size := by rw [ByteArray.toList_eq, Array.length_toList]; rfl
theorem bl_get (p : ByteArray) (j : Nat) (h : j < p.size) : p.toList[j]'(by rw [bl_len]; exact h) = p[j] := by simp only [ByteArray.toList_eq]; rfl
theorem bl_app (a b : ByteArray) : (a ++ b).toList = a.toList ++ b.toList := by
  rw [ByteArray.toList_eq, ByteArray.toList_eq, ByteArray.toList_eq, ByteArray.data_append, Array.toList_append]
theorem bl_take (p : ByteArray) (j : Nat) : (p.extract 0 j).toList = p.toList.take j := by
  rw [ByteArray.toList_eq, ByteArray.toList_eq, ByteArray.data_extract, Array.toList_extract]
  simp
theorem bl_one (c : UInt8) : (⟨#[c]⟩ : ByteArray).toList = [c] := by rw [ByteArray.toList_eq]
theorem bl_nil : (⟨#[]⟩ : ByteArray).toList = [] := by rw [ByteArray.toList_eq]
theorem bl_inj {a b : ByteArray} (h : a.toList = b.toList) : a = b := by
  rw [ByteArray.toList_eq, ByteArray.toList_eq] at h
  obtain ⟨⟨x⟩⟩ := a
  obtain ⟨⟨y⟩⟩ := b
  simp only at h
  rw [h]
theorem bhE_at (p : ByteArray) (j : Nat) (h : j < p.size) (hc : ¬ p[j].toNat = 255) (hz : ∀ c ∈ p.toList.drop (j + 1), c = 255) :
    (p.extract 0 j ++ ⟨#[p[j] + 1]⟩).toList = bhE p.toList := by
  have hl : j < p.toList.length := by rw [bl_len]; exact h
  have e : p.toList = p.toList.take j ++ p[j] :: p.toList.drop (j + 1) := by
    rw [← bl_get p j h, ← List.drop_eq_getElem_cons hl, List.take_append_drop]
  have hb : bhE p.toList = p.toList.take j ++ [p[j] + 1] := by
    have h2 := bhd_at (p.toList.take j) (p.toList.drop (j + 1)) p[j] (fun e => hc (by rw [e]; rfl)) hz
    rw [← e] at h2
    unfold bhE
    rw [h2]
    rfl
  rw [hb, bl_app, bl_take, bl_one]
theorem bhE_all (p : List UInt8) (hz : ∀ c ∈ p, c = 255) : bhE p = [] := by unfold bhE; rw [bhd_all p hz]; rfl
theorem drop_more (p : ByteArray) (j : Nat) (h : j < p.size) (hc : p[j].toNat = 255) (hz : ∀ c ∈ p.toList.drop (j + 1), c = 255) : ∀ c ∈ p.toList.drop j, c = 255 := by
  have hl : j < p.toList.length := by rw [bl_len]; exact h
  rw [List.drop_eq_getElem_cons hl, bl_get p j h]
  intro c hm
  rcases List.mem_cons.1 hm with rfl | hm
  · exact UInt8.toNat_inj.1 hc
  · exact hz c hm

theorem take_step {a b : ByteArray} {k : Nat} (ha : k < a.size) (hb : k < b.size) (h : a[k] = b[k]) (ht : a.toList.take k = b.toList.take k) : a.toList.take (k + 1) = b.toList.take (k + 1) := by
  rw [List.take_add_one, List.take_add_one, ht, List.getElem?_eq_getElem (by rw [bl_len]; exact ha), List.getElem?_eq_getElem (by rw [bl_len]; exact hb), bl_get a k ha, bl_get b k hb, h]
theorem tl_differ {a b : ByteArray} {k : Nat} (ha : k < a.size) (hb : k < b.size) (h : ¬ a[k].toNat = b[k].toNat) (ht : a.toList.take k = b.toList.take k) : tl a.toList b.toList = decide (a[k].toNat < b[k].toNat) := by
  have la : k < a.toList.length := by rw [bl_len]; exact ha
  have lb : k < b.toList.length := by rw [bl_len]; exact hb
  rw [← tl_drop a.toList b.toList k (by omega) (by omega) ht, List.drop_eq_getElem_cons la, List.drop_eq_getElem_cons lb, tl_cons, bl_get a k ha, bl_get b k hb]
  have h2 : ¬ a[k] = b[k] := fun e => h (by rw [e])
  rw [beq_no h2]
  simp [UInt8.lt_iff_toNat_lt]
theorem tl_end {a b : ByteArray} {k : Nat} (ha : k ≤ a.size) (hb : k ≤ b.size) (hk : ¬ (k < a.size ∧ k < b.size)) (ht : a.toList.take k = b.toList.take k) : tl a.toList b.toList = decide (a.size < b.size) := by
  rw [← tl_drop a.toList b.toList k (by rw [bl_len]; exact ha) (by rw [bl_len]; exact hb) ht]
  by_cases h1 : k < a.size
  · have h2 : k = b.size := by omega
    rw [List.drop_eq_nil_of_le (as := b.toList) (by rw [bl_len]; omega), tl_nil]
    simp; omega
  · rw [List.drop_eq_nil_of_le (as := a.toList) (by rw [bl_len]; omega)]
    by_cases h2 : k < b.size
    · rw [List.drop_eq_getElem_cons (by rw [bl_len]; exact h2)]
      simp [tl, Op.bytesLess]; omega
    · rw [List.drop_eq_nil_of_le (as := b.toList) (by rw [bl_len]; omega)]
      simp [tl, Op.bytesLess]; omega
end Go.Proofs.Ytegefnchkgkmgaa
