/- Texts of ours, one behind the other: ArSeenP. -/
import Derived.Test.YtlbhhdldeaehkaaG16
/- What is seen of an arena from a root on, as plain data. -/
namespace Go.Proofs.Ytlbhhdldeaehkaa
open Go.RowKit

/-- The last place of p in a list, as the loop finds it. -/
def lastIx (p : Int) : List Int → Nat → Int → Int
  | [], _, n => n
  | a :: l, j, n => lastIx p l (j + 1) (if a = p then (j : Int) else n)
def numOf (list : List Int) (p : Int) : Int := lastIx p list 0 (-1)
theorem lastIx_snoc (p : Int) : ∀ (l : List Int) (a : Int) (j : Nat) (n : Int), lastIx p (l ++ [a]) j n = if a = p then ((j + l.length : Nat) : Int) else lastIx p l j n
  | [], a, j, n => rfl
  | b :: l, a, j, n => by
    simp only [List.cons_append, lastIx]
    rw [lastIx_snoc p l a (j + 1)]
    simp only [List.length_cons]
    rw [show j + 1 + l.length = j + (l.length + 1) by omega]
theorem lastIx_map (f : Int → Int) (p : Int) : ∀ (l : List Int) (j : Nat) (n : Int), (∀ a ∈ l, f a = f p ↔ a = p) → lastIx (f p) (l.map f) j n = lastIx p l j n
  | [], _, _, _ => rfl
  | a :: l, j, n, h => by
    simp only [List.map_cons, lastIx]
    have h1 := h a (List.mem_cons_self ..)
    have e : (if f a = f p then (j : Int) else n) = (if a = p then (j : Int) else n) := by
      by_cases ha : a = p
      · rw [if_pos ha, if_pos (h1.2 ha)]
      · rw [if_neg ha, if_neg (fun h => ha (h1.1 h))]
    rw [e]
    exact lastIx_map f p l (j + 1) _ (fun b hb => h b (List.mem_cons_of_mem _ hb))
theorem lastIx_range (p : Int) : ∀ (l : List Int) (j : Nat) (n : Int), lastIx p l j n = n ∧ p ∉ l ∨ 0 ≤ lastIx p l j n ∧ p ∈ l ∧ lastIx p l j n < (j + l.length : Nat)
  | [], j, n => Or.inl ⟨rfl, by simp⟩
  | a :: l, j, n => by
    simp only [lastIx]
    by_cases ha : a = p
    · rw [if_pos ha]
      rcases lastIx_range p l (j + 1) (j : Int) with ⟨h1, h2⟩ | ⟨h1, h2, h3⟩
      · exact Or.inr ⟨by omega, by simp [ha], by rw [h1]; simp; omega⟩
      · exact Or.inr ⟨h1, List.mem_cons_of_mem _ h2, by simp only [List.length_cons]; omega⟩
    · rw [if_neg ha]
      rcases lastIx_range p l (j + 1) n with ⟨h1, h2⟩ | ⟨h1, h2, h3⟩
      · exact Or.inl ⟨h1, by simp only [List.mem_cons, not_or]; exact ⟨fun h => ha h.symm, h2⟩⟩
      · exact Or.inr ⟨h1, List.mem_cons_of_mem _ h2, by simp only [List.length_cons]; omega⟩
theorem numOf_neg {l : List Int} {p : Int} (h : numOf l p < 0) : numOf l p = -1 ∧ p ∉ l := by
  rcases lastIx_range p l 0 (-1) with h1 | h1
  · exact h1
  · unfold numOf at h; omega
theorem numOf_pos {l : List Int} {p : Int} (h : ¬ numOf l p < 0) : p ∈ l ∧ numOf l p < l.length := by
  rcases lastIx_range p l 0 (-1) with h1 | h1
  · unfold numOf at h; omega
  · have := h1.2.2; rw [Nat.zero_add] at this; exact ⟨h1.2.1, this⟩
/-- One pointer: the list as it is then, and the pointer's number. -/
def onePtr (list : List Int) (p : Int) : List Int × Int := if numOf list p < 0 ∧ p ≠ 0 then (list ++ [p], (list.length : Int)) else (list, numOf list p)
def allPtrs (list : List Int) : List Int → List Int × List Int
  | [] => (list, [])
  | p :: ps => ((allPtrs (onePtr list p).1 ps).1, (onePtr list p).2 :: (allPtrs (onePtr list p).1 ps).2)
theorem allPtrs_snoc : ∀ (ps : List Int) (list : List Int) (p : Int), allPtrs list (ps ++ [p]) = ((onePtr (allPtrs list ps).1 p).1, (allPtrs list ps).2 ++ [(onePtr (allPtrs list ps).1 p).2])
  | [], _, _ => rfl
  | q :: ps, list, p => by
    simp only [List.cons_append, allPtrs]
    rw [allPtrs_snoc ps]
theorem allPtrs_len : ∀ (ps list : List Int), (allPtrs list ps).2.length = ps.length
  | [], _ => rfl
  | p :: ps, list => by simp only [allPtrs, List.length_cons]; rw [allPtrs_len ps]
/-- What a list of places met is. -/
structure MetL (ws list : List Int) : Prop where
  nodup : list.Nodup
  ob : ∀ a ∈ list, isOb ws a
theorem MetL.len {ws list : List Int} (h : MetL ws list) : list.length ≤ ws.length := obs_count ws list h.nodup h.ob
theorem MetL.one {ws list : List Int} {p : Int} (h : MetL ws list) (hp : p = 0 ∨ isOb ws p) : MetL ws (onePtr list p).1 := by
  unfold onePtr
  split
  · rename_i hc
    refine ⟨?_, fun a ha => ?_⟩
    · rw [List.nodup_append]
      exact ⟨h.nodup, by simp, fun a ha b hb e => (numOf_neg hc.1).2 (by rw [List.mem_singleton.1 hb] at e; exact e ▸ ha)⟩
    · rcases List.mem_append.1 ha with ha | ha
      · exact h.ob a ha
      · rw [List.mem_singleton.1 ha]; exact hp.resolve_left hc.2
  · exact h
theorem MetL.all {ws : List Int} : ∀ {ps list : List Int}, MetL ws list → (∀ p ∈ ps, p = 0 ∨ isOb ws p) → MetL ws (allPtrs list ps).1
  | [], _, h, _ => h
  | p :: _, _, h, hp => (h.one (hp p (List.mem_cons_self ..))).all (fun q hq => hp q (List.mem_cons_of_mem _ hq))
theorem onePtr_pre (list : List Int) (p : Int) : ∃ m, (onePtr list p).1 = list ++ m := by
  unfold onePtr
  split
  · exact ⟨[p], rfl⟩
  · exact ⟨[], by simp⟩
theorem allPtrs_pre : ∀ (ps list : List Int), ∃ m, (allPtrs list ps).1 = list ++ m
  | [], _ => ⟨[], by simp [allPtrs]⟩
  | p :: ps, list => by
    obtain ⟨m, hm⟩ := onePtr_pre list p
    obtain ⟨m2, hm2⟩ := allPtrs_pre ps (onePtr list p).1
    exact ⟨m ++ m2, by simp only [allPtrs]; rw [hm2, hm, List.append_assoc]⟩
/-- Object by object. -/
def seenN (ws l0 : List Int) : Nat → List Int × List Ob
  | 0 => (l0, [])
  | i + 1 => match (seenN ws l0 i).1[i]? with
    | some a => ((allPtrs (seenN ws l0 i).1 (ptsA ws a)).1, (seenN ws l0 i).2 ++ [(wd ws a.toNat % 16, (allPtrs (seenN ws l0 i).1 (ptsA ws a)).2, dtA ws a)])
    | none => seenN ws l0 i
theorem seenN_stop {ws l0 : List Int} {i : Nat} (h : (seenN ws l0 i).1.length ≤ i) : ∀ k, seenN ws l0 (i + k) = seenN ws l0 i
  | 0 => rfl
  | k + 1 => by
    have ih := seenN_stop h k
    show (match (seenN ws l0 (i + k)).1[i + k]? with | some a => _ | none => seenN ws l0 (i + k)) = _
    rw [ih, List.getElem?_eq_none (by omega)]
theorem seenN_same {ws l0 : List Int} {i j : Nat} (hi : (seenN ws l0 i).1.length ≤ i) (hj : (seenN ws l0 j).1.length ≤ j) : seenN ws l0 i = seenN ws l0 j := by
  rw [← seenN_stop hi j, ← seenN_stop hj i, Nat.add_comm]
/-- A root's list. -/
def lst0 (r : Int) : List Int := if r = 0 then [] else [r]

theorem toA_inj {ws l : List Int} (h : Liv ws l) {a b : Int} (ha : a ∈ l) (hb : b ∈ l) (e : toA ws l a = toA ws l b) : a = b := by
  have hnd : l.Nodup := h.rise.imp (fun hab => by omega)
  have key : ∀ {a b : Int}, a ∈ l → b ∈ l → toA ws l a = toA ws l b → ∀ M R, l = M ++ a :: R → b ∈ M → False := fun {a b} ha hb e M R hl hm => by
    obtain ⟨M1, M2, rfl⟩ := List.append_of_mem hm
    have hd := hnd
    rw [hl] at hd
    have na : a ∉ M1 ++ b :: M2 := fun hh => by
      have := (List.nodup_append.1 hd).2.2 a hh a (List.mem_cons_self ..)
      exact this rfl
    have nb : b ∉ M1 := fun hh => by
      have h1 := (List.nodup_append.1 hd).1
      have := (List.nodup_append.1 h1).2.2 b hh b (List.mem_cons_self ..)
      exact this rfl
    have e1 : toA ws l a = ((1 + sums ws (M1 ++ b :: M2) : Nat) : Int) := by rw [hl]; exact toA_mem na
    have e2 : toA ws l b = ((1 + sums ws M1 : Nat) : Int) := by
      rw [hl, show M1 ++ b :: M2 ++ a :: R = M1 ++ b :: (M2 ++ a :: R) by simp]; exact toA_mem nb
    have hs := (isOb_size (h.ob b hb)).1
    rw [e1, e2, sums_app] at e
    simp only [sums] at e
    unfold szA at e
    omega
  obtain ⟨M, R, hl⟩ := List.append_of_mem ha
  have hb2 := hb
  rw [hl] at hb2
  rcases List.mem_append.1 hb2 with hm | hm
  · exact (key ha hb e M R hl hm).elim
  · rcases List.mem_cons.1 hm with rfl | hm
    · rfl
    · obtain ⟨R1, R2, rfl⟩ := List.append_of_mem hm
      exact (key hb ha e.symm (M ++ a :: R1) R2 (by rw [hl]; simp) (by simp)).elim
theorem toA_pos {ws l : List Int} {a : Int} (h : a ∈ l) : toA ws l a ≠ 0 := by
  obtain ⟨M, R, rfl, hn⟩ : ∃ M R, l = M ++ a :: R ∧ a ∉ M := by
    induction l with
    | nil => cases h
    | cons b l ih =>
      by_cases e : a = b
      · exact ⟨[], l, by rw [e]; rfl, by simp⟩
      · obtain ⟨M, R, h1, h2⟩ := ih ((List.mem_cons.1 h).resolve_left e)
        exact ⟨b :: M, R, by rw [h1]; rfl, by simp only [List.mem_cons, not_or]; exact ⟨e, h2⟩⟩
  rw [toA_mem hn]
  omega
theorem toA_nil {ws l : List Int} (h : Liv ws l) : toA ws l 0 = 0 := toA_none h.nz
theorem onePtr_map {ws l : List Int} (h : Liv ws l) {list : List Int} {p : Int} (hl : ∀ a ∈ list, a ∈ l) (hp : p = 0 ∨ p ∈ l) : onePtr (list.map (toA ws l)) (toA ws l p) = ((onePtr list p).1.map (toA ws l), (onePtr list p).2) ∧ ∀ a ∈ (onePtr list p).1, a ∈ l := by
  have hn : numOf (list.map (toA ws l)) (toA ws l p) = numOf list p := by
    refine lastIx_map _ _ _ _ _ fun a ha => ⟨fun e => ?_, fun e => by rw [e]⟩
    rcases hp with rfl | hp
    · rw [toA_nil h] at e; exact absurd e (toA_pos (hl a ha))
    · exact toA_inj h (hl a ha) hp e
  have hz : toA ws l p ≠ 0 ↔ p ≠ 0 := by
    rcases hp with rfl | hp
    · rw [toA_nil h]
    · exact ⟨fun _ e => h.nz (e ▸ hp), fun _ => toA_pos hp⟩
  unfold onePtr
  rw [hn]
  by_cases hc : numOf list p < 0 ∧ p ≠ 0
  · rw [if_pos hc, if_pos ⟨hc.1, hz.2 hc.2⟩]
    refine ⟨by simp, fun a ha => ?_⟩
    rcases List.mem_append.1 ha with ha | ha
    · exact hl a ha
    · rw [List.mem_singleton.1 ha]; exact hp.resolve_left hc.2
  · rw [if_neg hc, if_neg (fun h2 => hc ⟨h2.1, hz.1 h2.2⟩)]
    exact ⟨rfl, hl⟩
theorem allPtrs_map {ws l : List Int} (h : Liv ws l) : ∀ (ps : List Int) {list : List Int}, (∀ a ∈ list, a ∈ l) → (∀ p ∈ ps, p = 0 ∨ p ∈ l) → allPtrs (list.map (toA ws l)) (ps.map (toA ws l)) = ((allPtrs list ps).1.map (toA ws l), (allPtrs list ps).2) ∧ ∀ a ∈ (allPtrs list ps).1, a ∈ l
  | [], _, hl, _ => ⟨rfl, hl⟩
  | p :: ps, list, hl, hp => by
    obtain ⟨h1, h2⟩ := onePtr_map h hl (hp p (List.mem_cons_self ..))
    obtain ⟨h3, h4⟩ := allPtrs_map h ps h2 (fun q hq => hp q (List.mem_cons_of_mem _ hq))
    simp only [List.map_cons, allPtrs]
    rw [h1]
    dsimp only
    rw [h3]
    exact ⟨rfl, h4⟩
theorem seenN_map {ws rs l : List Int} (h : Rts ws rs l) {l0 : List Int} (h0 : ∀ a ∈ l0, a ∈ l) : ∀ i, seenN (cW ws l) (l0.map (toA ws l)) i = ((seenN ws l0 i).1.map (toA ws l), (seenN ws l0 i).2) ∧ ∀ a ∈ (seenN ws l0 i).1, a ∈ l
  | 0 => ⟨rfl, h0⟩
  | i + 1 => by
    obtain ⟨h1, h2⟩ := seenN_map h h0 i
    simp only [seenN]
    rw [h1]
    dsimp only
    rw [List.getElem?_map]
    cases hg : (seenN ws l0 i).1[i]? with
    | none => exact ⟨rfl, h2⟩
    | some a =>
      have ha := h2 a (List.mem_of_getElem? hg)
      obtain ⟨_, k1, k2, k3⟩ := alike_of h ha
      obtain ⟨h3, h4⟩ := allPtrs_map h.toLiv (ptsA ws a) h2 (h.closed a ha)
      simp only [Option.map_some]
      rw [k1, k2, k3, h3]
      exact ⟨rfl, h4⟩
theorem lst0_map {ws l : List Int} (h : Liv ws l) {r : Int} (hr : r = 0 ∨ r ∈ l) : lst0 (toA ws l r) = (lst0 r).map (toA ws l) ∧ ∀ a ∈ lst0 r, a ∈ l := by
  unfold lst0
  rcases hr with rfl | hr
  · rw [toA_nil h]; exact ⟨rfl, by simp⟩
  · have hz : r ≠ 0 := fun e => h.nz (e ▸ hr)
    rw [if_neg (toA_pos hr), if_neg hz]
    exact ⟨rfl, by simpa using hr⟩
/-- What is seen of a packed arena is what was seen. -/
theorem seen_pack {ws rs l : List Int} (h : Rts ws rs l) {r : Int} (hr : r = 0 ∨ r ∈ l) {i j : Nat} (hi : (seenN ws (lst0 r) i).1.length ≤ i) (hj : (seenN (cW ws l) (lst0 (toA ws l r)) j).1.length ≤ j) :
    (seenN (cW ws l) (lst0 (toA ws l r)) j).2 = (seenN ws (lst0 r) i).2 := by
  obtain ⟨e0, h0⟩ := lst0_map h.toLiv hr
  rw [e0] at hj ⊢
  have hj2 := (seenN_map h h0 j).1
  rw [hj2] at hj ⊢
  dsimp only at hj ⊢
  rw [List.length_map] at hj
  rw [seenN_same hi hj]
theorem ptrs_ob {n : Nat} {ws rs : List Int} (h : AOk n ws rs) {a : Int} (ha : isOb ws a) : ∀ p ∈ ptsA ws a, p = 0 ∨ isOb ws p := fun p hp => by
  obtain ⟨r1, r2, r3, r4, r5⟩ := right_parts h.right
  obtain ⟨k1, k2, k3⟩ := heap_parts r5
  exact isPl_iff.1 (k2 _ ha.2.2 p hp)
end Go.Proofs.Ytlbhhdldeaehkaa
