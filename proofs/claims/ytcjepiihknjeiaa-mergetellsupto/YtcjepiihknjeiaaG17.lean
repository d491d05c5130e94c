/- Texts of ours, one behind the other: QuietOnce. -/
import Derived.StillTail
import Derived.Deep.Quiet
import Derived.BigQuiet
/- A region that draws its order: a head that is quiet in two classes of worlds, one operation that comes at any time and leads from the one class to the other (the making of a variable), and a tail that comes in order; nothing here speaks of the program. -/
namespace Go.Proofs.Ytcjepiihknjeiaa
open Go Go.RowKit

section
variable {P : Program} {ops : Array Oper} {md : Region.Mode} {C0 C1 : World → Prop} {i0 : Nat} {v0 : Value}

/-- Operation i yields v here: the one apart its own value, all others the same in both classes. -/
def YieldsO (P : Program) (ops : Array Oper) (C0 C1 : World → Prop) (i0 : Nat) (v0 : Value) (i : Nat) (o : Oper) (v : Value) (a : Act) : Prop :=
  if i = i0 then v = v0 else YieldsIn P ops C0 o v a ∧ YieldsIn P ops C1 o v a
theorem YieldsO.of_same {i : Nat} {o : Oper} {v : Value} {a a' : Act} (hy : YieldsO P ops C0 C1 i0 v0 i o v a) (he : execOp a'.eval o = execOp a.eval o) (hw : Region.wanted o (yielded ops a'.tmps) = Region.wanted o (yielded ops a.tmps)) : YieldsO P ops C0 C1 i0 v0 i o v a' := by
  unfold YieldsO at *
  split
  · rename_i h; rw [if_pos h] at hy; exact hy
  · rename_i h; rw [if_neg h] at hy; exact ⟨hy.1.of_same he hw, hy.2.of_same he hw⟩
/-- Operation number i comes up. -/
def oOp (P : Program) (ops : Array Oper) (C0 C1 : World → Prop) (i0 : Nat) (v0 : Value) (i : Nat) (K : Act → Prop) (a : Act) : Prop :=
  match ops[i]? with
  | none => K a
  | some o => ∃ v, YieldsO P ops C0 C1 i0 v0 i o v a ∧ K (a.put o.dst v)
theorem oOp_mono {i : Nat} {a : Act} {K K' : Act → Prop} (h : ∀ a, K a → K' a) (hh : oOp P ops C0 C1 i0 v0 i K a) : oOp P ops C0 C1 i0 v0 i K' a := by
  unfold oOp at *
  split
  · rename_i ho; simp only [ho] at hh; exact h _ hh
  · rename_i o ho
    simp only [ho] at hh
    obtain ⟨v, h1, h2⟩ := hh
    exact ⟨v, h1, h _ h2⟩
theorem oOp_put {i j : Nat} {oi oj : Oper} {v : Value} (hj : ops[j]? = some oj) (hap : oi.apart ops oj = true)
    (hsi : ∀ cs b, oi.op ≠ .select cs b) (hsj : ∀ cs b, oj.op ≠ .select cs b) {K : Act → Prop} {a : Act}
    (hy : YieldsO P ops C0 C1 i0 v0 i oi v a) (h : oOp P ops C0 C1 i0 v0 j K (a.put oi.dst v)) :
    oOp P ops C0 C1 i0 v0 j (fun a' => YieldsO P ops C0 C1 i0 v0 i oi v a' ∧ K (a'.put oi.dst v)) a := by
  obtain ⟨h1, h2, h3⟩ := Oper.apart_spec hap
  unfold oOp at *
  simp only [hj] at *
  obtain ⟨u, hu, hK⟩ := h
  refine ⟨u, hu.of_same (execOp_put oj hsj a oi.dst v h1).symm (wanted_put oj a oi.dst v h1).symm, hy.of_same (execOp_put oi hsi a oj.dst u h3) (wanted_put oi a oj.dst u h3), ?_⟩
  rw [← Act.put_comm a v u h2]
  exact hK

/-- The head of a region, in whatever order it comes; L = what is asked behind it. -/
def HeadO (P : Program) (md : Region.Mode) (ops : Array Oper) (C0 C1 : World → Prop) (i0 : Nat) (v0 : Value) (n : Nat) (L : Array Bool → Act → Prop) : Nat → Array Bool → Act → Prop
  | 0, seen, a => L seen a
  | f + 1, seen, a => Region.ready md ops seen ≠ [] ∧ ∀ i ∈ Region.ready md ops seen, i < n ∧ oOp P ops C0 C1 i0 v0 i (HeadO P md ops C0 C1 i0 v0 n L f (seen.setIfInBounds i true)) a

/-- The class that counts. -/
def CO (C0 C1 : World → Prop) (i0 : Nat) (seen : Array Bool) (w : World) : Prop := if seen.getD i0 true = true then C1 w else C0 w
theorem wpOp_of_in {i : Nat} {o : Oper} {a : Act} {C : World → Prop} {v : Value} {K : Act → World → Prop} {Q : Exit → Act → World → Prop} {w : World} (ho : ops[i]? = some o) (hw : C w) (hy : YieldsIn P ops C o v a) (h : ∀ w', C w' → K (a.put o.dst v) w') : wpOp P ops Q i K a w :=
  wpOp_of_qOp (K := fun a' => a' = a.put o.dst v) hw (fun _ w' hw' e => e ▸ h w' hw') (hy.qOp ho rfl)

theorem any_of_headO {n g : Nat} {o0 : Oper} {L : Array Bool → Act → Prop} {Q : Exit → Act → World → Prop} (ho : ops[i0]? = some o0) (hg : o0.guard = none) (hA : ∀ (a : Act) (w : World), C0 w → ∃ w', (execOp a.eval o0).run P w = .ok (.value v0) w' ∧ C1 w')
    (hL : ∀ seen a w, CO C0 C1 i0 seen w → L seen a → wpAny P md ops Q g seen a w) (f : Nat) : ∀ (seen : Array Bool) (a : Act) (w : World), CO C0 C1 i0 seen w → HeadO P md ops C0 C1 i0 v0 n L f seen a → wpAny P md ops Q (f + g) seen a w := by
  induction f with
  | zero => intro seen a w hw h; rw [Nat.zero_add]; exact hL _ _ _ hw h
  | succ f ih =>
    intro seen a w hw h
    rw [show f + 1 + g = (f + g) + 1 by omega]
    refine ⟨fun h0 => absurd h0 h.1, fun i hi => ?_⟩
    have hop := (h.2 i hi).2
    have hun := (mem_ready.1 hi).1
    have hlt : i < seen.size := by
      rcases Nat.lt_or_ge i seen.size with h' | h'
      · exact h'
      · simp [Array.getElem?_eq_none h'] at hun
    unfold oOp at hop
    by_cases e : i = i0
    · subst e
      simp only [ho] at hop
      obtain ⟨v, hv, hK⟩ := hop
      unfold YieldsO at hv
      rw [if_pos rfl] at hv
      subst hv
      have hw0 : C0 w := by unfold CO at hw; rw [hun] at hw; simpa using hw
      obtain ⟨w', hr, hw'⟩ := hA a w hw0
      have hwt : Region.wanted o0 (yielded ops a.tmps) = true := by simp [Region.wanted, hg]
      unfold wpOp
      simp only [ho, hwt, if_true]
      refine .inl ?_
      unfold Oper.wp
      rw [hr]
      refine ih _ _ _ ?_ hK
      unfold CO
      rw [if_pos (by simp [hlt])]
      exact hw'
    · obtain ⟨_, oj, hoj, _⟩ := mem_ready.1 hi
      simp only [hoj] at hop
      obtain ⟨v, hv, hK⟩ := hop
      unfold YieldsO at hv
      rw [if_neg e] at hv
      have hkeep : (seen.setIfInBounds i true).getD i0 true = seen.getD i0 true := getD_set_ne true e
      by_cases hs : seen.getD i0 true = true
      · have hw1 : C1 w := by unfold CO at hw; rw [if_pos hs] at hw; exact hw
        exact wpOp_of_in hoj hw1 hv.2 fun w' hw' => ih _ _ _ (by unfold CO; rw [hkeep, if_pos hs]; exact hw') hK
      · have hw1 : C0 w := by unfold CO at hw; rw [if_neg hs] at hw; exact hw
        exact wpOp_of_in hoj hw1 hv.1 fun w' hw' => ih _ _ _ (by unfold CO; rw [hkeep, if_neg hs]; exact hw') hK

theorem headO_first {n i : Nat} {o : Oper} {v : Value} {L : Array Bool → Act → Prop} (hi : ops[i]? = some o) (hsel : ∀ (j : Nat) (o : Oper) cs b, ops[j]? = some o → o.op ≠ .select cs b)
    (hs : Region.sinkB md ops n = true) (hc : Region.chainB md ops n = true) (hn : n < ops.size) (hin : i < n) (hd : ∀ seen a, L seen a → ∀ j ∈ Region.ready md ops seen, n ≤ j) (f : Nat) :
    ∀ (seen : Array Bool) (a : Act), HeadInv md ops n seen →
      (∀ j oj, ops[j]? = some oj → j ≠ i → seen.getD j true = false → (∀ e ∈ oj.after, Region.binds md e = true → e.on ≠ i) → o.apart ops oj = true) →
      i ∈ Region.ready md ops seen → YieldsO P ops C0 C1 i0 v0 i o v a →
      HeadO P md ops C0 C1 i0 v0 n L f (seen.setIfInBounds i true) (a.put o.dst v) → HeadO P md ops C0 C1 i0 v0 n L (f + 1) seen a := by
  have here : ∀ {K : Act → Prop} {a : Act}, YieldsO P ops C0 C1 i0 v0 i o v a → K (a.put o.dst v) → oOp P ops C0 C1 i0 v0 i K a := fun {K a} hy h => by
    unfold oOp
    simp only [hi]
    exact ⟨v, hy, h⟩
  induction f with
  | zero =>
    intro seen a inv _ hr hy H
    have hun := (mem_ready.1 hr).1
    refine ⟨List.ne_nil_of_mem hr, fun j hj => ?_⟩
    have hjn : j < n := Nat.lt_of_not_le fun h => tail_waits hs hc hn inv _ i rfl hin hun j h hj
    refine ⟨hjn, ?_⟩
    by_cases e : j = i
    · subst e; exact here hy H
    · exact absurd (hd _ _ H j (ready_mono hj e)) (Nat.not_le_of_lt hjn)
  | succ f ih =>
    intro seen a inv hfree hr hy H
    have hun := (mem_ready.1 hr).1
    refine ⟨List.ne_nil_of_mem hr, fun j hj => ?_⟩
    have hjn : j < n := Nat.lt_of_not_le fun h => tail_waits hs hc hn inv _ i rfl hin hun j h hj
    refine ⟨hjn, ?_⟩
    by_cases e : j = i
    · subst e; exact here hy H
    · obtain ⟨hjun, oj, hoj, hall⟩ := mem_ready.1 hj
      have hno : ∀ x ∈ oj.after, Region.binds md x = true → x.on ≠ i := fun x hx hb he => by
        have h1 := hall x hx hb
        rw [he, getD_both hun] at h1
        cases h1
      have h2 := oOp_put hoj (hfree j oj hoj e hjun hno) (fun cs b => hsel i o cs b hi) (fun cs b => hsel j oj cs b hoj) hy (H.2 j (ready_mono hj e)).2
      refine oOp_mono (fun a' h3 => ih (seen.setIfInBounds j true) a' (inv.set hj hjn) (fun k ok hk hki hu hx => hfree k ok hk hki ?_ hx) (ready_mono hr (Ne.symm e)) h3.1 ?_) h2
      · by_cases q : j = k
        · subst q; exact hjun
        · rw [getD_set_ne true q] at hu; exact hu
      · rw [Array.setIfInBounds_comm _ _ e]; exact h3.2

/-- The walk in the order of the text. -/
def lexO (P : Program) (ops : Array Oper) (C0 C1 : World → Prop) (i0 : Nat) (v0 : Value) (Q : Act → Prop) : Nat → List Oper → Act → Prop
  | _, [], a => Q a
  | k, o :: rest, a => ∃ v, YieldsO P ops C0 C1 i0 v0 k o v a ∧ lexO P ops C0 C1 i0 v0 Q (k + 1) rest (a.put o.dst v)

theorem headO_lex {n g : Nat} {Lq : Act → Prop} (hsel : Region.noSelect ops = true) (hs : Region.sinkB md ops n = true) (hc : Region.chainB md ops n = true) (hn : n < ops.size) :
    ∀ (l : List Oper) (k : Nat) (seen : Array Bool) (a : Act), (∀ j, j < l.length → l[j]? = ops[k + j]?) → k + l.length = n → HeadInv md ops n seen →
    Region.lexHead md ops g l.length k seen = true → lexO P ops C0 C1 i0 v0 Lq k l a →
    HeadO P md ops C0 C1 i0 v0 n (fun seen' a' => Region.seqB md ops g n seen' = true ∧ seen'.getD i0 true = (if k ≤ i0 ∧ i0 < n then true else seen.getD i0 true) ∧ Lq a') l.length seen a := by
  intro l
  induction l with
  | nil =>
    intro k seen a _ hk _ hB h
    have e : k = n := by simpa using hk
    subst e
    refine ⟨by simpa [Region.lexHead] using hB, ?_, h⟩
    rw [if_neg (by omega)]
  | cons o l ih =>
    intro k seen a hl hk inv hB h
    have h0 : ops[k]? = some o := by simpa using (hl 0 (by simp)).symm
    simp only [List.length_cons] at hk
    simp only [List.length_cons, Region.lexHead, Bool.and_eq_true] at hB
    obtain ⟨⟨hr, hf⟩, hB'⟩ := hB
    have hr' : k ∈ Region.ready md ops seen := by simpa using hr
    obtain ⟨v, hy, hK⟩ := h
    have hlt : k < seen.size := by
      have hun := (mem_ready.1 hr').1
      rcases Nat.lt_or_ge k seen.size with h' | h'
      · exact h'
      · simp [Array.getElem?_eq_none h'] at hun
    have hrec := ih (k + 1) (seen.setIfInBounds k true) (a.put o.dst v) (fun j hj => by
      have := hl (j + 1) (by simp; omega)
      simpa [Nat.add_assoc, Nat.add_comm 1 j] using this) (by omega) (inv.set hr' (by omega)) hB' hK
    have hsame : (if k + 1 ≤ i0 ∧ i0 < n then true else (seen.setIfInBounds k true).getD i0 true) = (if k ≤ i0 ∧ i0 < n then true else seen.getD i0 true) := by
      by_cases e : k = i0
      · subst e
        rw [if_neg (by omega), if_pos (by omega)]
        simp [hlt]
      · rw [getD_set_ne true e]
        by_cases hc2 : k ≤ i0 ∧ i0 < n
        · rw [if_pos hc2, if_pos (by omega)]
        · rw [if_neg hc2, if_neg (by omega)]
    rw [hsame] at hrec
    exact headO_first h0 (Region.noSelect_spec hsel) hs hc hn (by omega) (fun seen' a' hL => seqB_ready hL.1) l.length seen a inv (Region.free_spec h0 hf) hr' hy hrec

/-- No two operations of a row write one temporary, and all of them are there. -/
def onceB (m : Nat) : List Oper → Bool
  | [] => true
  | o :: l => (match o.dst with | none => false | some d => decide (d < m) && l.all fun q => match q.dst with | none => true | some e => !(decide (d = e))) && onceB m l
theorem put_get_ne {a : Act} {d : Option Tmp} {v : Value} {e : Nat} (h : d ≠ some e) : (a.put d v).tmps[e]? = a.tmps[e]? := by
  unfold Act.put
  split
  · rename_i x
    have : x ≠ e := fun q => h (by rw [q])
    simp [this]
  · rfl
theorem put_size {a : Act} {d : Option Tmp} {v : Value} : (a.put d v).tmps.size = a.tmps.size := by
  unfold Act.put
  split <;> simp
/-- What a temporary holds that no operation of a walk writes. -/
theorem quiet_keeps {C : World → Prop} {A : Act} {e : Nat} : ∀ (l : List Oper) (a : Act), (∀ o ∈ l, o.dst ≠ some e) → wpQuiet P ops C (fun a' => a' = A) l a → A.tmps[e]? = a.tmps[e]?
  | [], a, _, h => by
    have h2 : a = A := h
    rw [h2]
  | o :: l, a, hn, h => by
    have hrest : ∀ v, wpQuiet P ops C (fun a' => a' = A) l (a.put o.dst v) → A.tmps[e]? = a.tmps[e]? := fun v hv => by
      rw [quiet_keeps l _ (fun q hq => hn q (List.mem_cons_of_mem _ hq)) hv]
      exact put_get_ne (hn o (List.mem_cons_self ..))
    unfold wpQuiet at h
    split at h
    · obtain ⟨v, _, hv⟩ := h
      exact hrest v hv
    · exact hrest _ h
/-- Two walks that come to one frame. -/
theorem lexO_of_two {A : Act} {Q : Act → Prop} {r : List Oper} (m : Nat) : ∀ (l : List Oper) (k : Nat) (a : Act), onceB m l = true → m = a.tmps.size → k + l.length ≤ i0 → wpQuiet P ops C0 (fun a' => a' = A) l a → wpQuiet P ops C1 (fun a' => a' = A) l a → lexO P ops C0 C1 i0 v0 Q (k + l.length) r A → lexO P ops C0 C1 i0 v0 Q k (l ++ r) a
  | [], k, a, _, _, _, h0, _, hr => by
    have h2 : a = A := h0
    rw [h2]
    exact hr
  | o :: l, k, a, ho, hm, hk, h0, h1, hr => by
    simp only [onceB, Bool.and_eq_true] at ho
    obtain ⟨ho1, ho2⟩ := ho
    cases hd : o.dst with
    | none => rw [hd] at ho1; simp at ho1
    | some d =>
      rw [hd] at ho1
      simp only [Bool.and_eq_true, decide_eq_true_eq, List.all_eq_true] at ho1
      obtain ⟨hdm, hall⟩ := ho1
      have hne : ∀ q ∈ l, q.dst ≠ some d := fun q hq e => by
        have := hall q hq
        rw [e] at this
        simp at this
      have hsame : ∀ {C : World → Prop} {v : Value}, wpQuiet P ops C (fun a' => a' = A) l (a.put o.dst v) → A.tmps[d]? = some v := fun {C v} hv => by
        rw [quiet_keeps l _ hne hv, hd]
        unfold Act.put
        simp [← hm, hdm]
      have key : ∀ v, wpQuiet P ops C0 (fun a' => a' = A) l (a.put o.dst v) → wpQuiet P ops C1 (fun a' => a' = A) l (a.put o.dst v) → YieldsIn P ops C0 o v a → YieldsIn P ops C1 o v a → lexO P ops C0 C1 i0 v0 Q k (o :: l ++ r) a := fun v k0 k1 y0 y1 => by
        refine ⟨v, ?_, lexO_of_two m l (k + 1) _ ho2 (by rw [put_size]; exact hm) (by simp only [List.length_cons] at hk; omega) k0 k1 (by simp only [List.length_cons] at hr; rw [show k + 1 + l.length = k + (l.length + 1) by omega]; exact hr)⟩
        unfold YieldsO
        rw [if_neg (by simp only [List.length_cons] at hk; omega)]
        exact ⟨y0, y1⟩
      unfold wpQuiet at h0 h1
      by_cases hw : Region.wanted o (yielded ops a.tmps) = true
      · rw [if_pos hw] at h0 h1
        obtain ⟨u0, a0, b0⟩ := h0
        obtain ⟨u1, a1, b1⟩ := h1
        have e : u0 = u1 := by
          have q0 := hsame b0
          have q1 := hsame b1
          rw [q0] at q1
          exact Option.some.inj q1
        subst e
        exact key u0 b0 b1 (.inl ⟨hw, a0⟩) (.inl ⟨hw, a1⟩)
      · rw [if_neg hw] at h0 h1
        have hw' : Region.wanted o (yielded ops a.tmps) = false := by simpa using hw
        exact key undef h0 h1 (.inr ⟨hw', rfl⟩) (.inr ⟨hw', rfl⟩)

/-- The law: head l1, quiet in whatever class of the two; then (at any time) o0, which leads from C0 to C1; then the tail. -/
theorem region_once {id : Nat} {Q : Exit → Act → World → Prop} {a : Act} {w : World} {l : List Oper} (n : Nat) (o0 : Oper) (v0 : Value) (C0 C1 : World → Prop) (I : (World → Prop) → Prop) (A : Act) (hm : P.follows .mixedOrders = true) (hB : Region.lexTailB .any l.toArray (n + 1) = true)
    (ho : l.take (n + 1) = l.take n ++ [o0]) (hg : o0.guard = none) (h1 : onceB a.tmps.size (l.take n) = true) (hI0 : I C0) (hI1 : I C1) (hC : C0 { w with drawn := w.drawn + 1 })
    (hA : ∀ (a : Act) (w : World), C0 w → ∃ w', (execOp a.eval o0).run P w = .ok (.value v0) w' ∧ C1 w')
    (h : ∀ C, I C → wpQuiet P l.toArray C (fun a' => a' = A) (l.take n) a)
    (ht : ∀ w', C1 w' → wpList P l.toArray Q (l.drop (n + 1)) (A.put o0.dst v0) w') : (Code.region id l.toArray true).wp P Q a w := by
  simp only [Region.lexTailB, Bool.and_eq_true, decide_eq_true_eq] at hB
  obtain ⟨⟨⟨⟨hsel, hn⟩, hs⟩, hc⟩, hlex⟩ := hB
  have hn' : n + 1 < l.length := by simpa using hn
  have htl : (l.take (n + 1)).length = n + 1 := by simp; omega
  have htn : (l.take n).length = n := by simp; omega
  have hdl : (l.drop (n + 1)).length = l.toArray.size - (n + 1) := by simp
  have hon : l.toArray[n]? = some o0 := by
    have := congrArg (fun x => x[n]?) ho
    simp only [List.getElem?_take, if_pos (Nat.lt_succ_self n)] at this
    rw [List.getElem?_append_right (by omega), htn, Nat.sub_self] at this
    simpa using this
  have inv0 : HeadInv .any l.toArray (n + 1) (Array.replicate l.toArray.size false) :=
    ⟨by simp, fun j oj _ hl => (by rw [getD_replicate_false] at hl; cases hl), fun t _ ht => getD_in (by simpa using ht) (getD_replicate_false _ _)⟩
  have hL : lexO P l.toArray C0 C1 n v0 (fun a' => a' = A.put o0.dst v0) 0 (l.take (n + 1)) a := by
    rw [ho]
    refine lexO_of_two a.tmps.size (l.take n) 0 a h1 rfl (by omega) (h C0 hI0) (h C1 hI1) ?_
    rw [Nat.zero_add, htn]
    exact ⟨v0, by unfold YieldsO; rw [if_pos rfl], rfl⟩
  have H := headO_lex (md := .any) (g := l.toArray.size - (n + 1)) hsel hs hc hn (l.take (n + 1)) 0 _ a (fun j hj => by
    rw [htl] at hj
    simp [hj]) (by simpa using htl) inv0 (by rw [htl]; exact hlex) hL
  refine wp_region_any hm ?_
  have := any_of_headO (Q := Q) (g := l.toArray.size - (n + 1)) hon hg hA (fun seen a' w' hw' hL => by
    obtain ⟨s1, s2, s3⟩ := hL
    rw [if_pos (by omega)] at s2
    have hw1 : C1 w' := by unfold CO at hw'; rw [if_pos s2] at hw'; exact hw'
    subst s3
    have h1 := wpAny_of_seq (P := P) (md := .any) (ops := l.toArray) (Q' := Q) (l.drop (n + 1)) (n + 1) seen _ w' (fun j => by simp [List.getElem?_drop]) (by rw [hdl]; exact s1) (ht w' hw1)
    rwa [hdl] at h1) _ _ a _ (by unfold CO; rw [if_neg (by have hz : n < l.length := (by omega); simp [hz])]; exact hC) H
  rw [htl] at this
  rwa [show n + 1 + (l.toArray.size - (n + 1)) = l.toArray.size by omega] at this
/-- The same, with the frame behind the head as what is to be found. -/
theorem region_onceE {id : Nat} {Q : Exit → Act → World → Prop} {a : Act} {w : World} {l : List Oper} (n : Nat) (o0 : Oper) (v0 : Value) (C0 C1 : World → Prop) (I : (World → Prop) → Prop) (hm : P.follows .mixedOrders = true) (hB : Region.lexTailB .any l.toArray (n + 1) = true)
    (ho : l.take (n + 1) = l.take n ++ [o0]) (hg : o0.guard = none) (h1 : onceB a.tmps.size (l.take n) = true) (hI0 : I C0) (hI1 : I C1) (hC : C0 { w with drawn := w.drawn + 1 })
    (hA : ∀ (a : Act) (w : World), C0 w → ∃ w', (execOp a.eval o0).run P w = .ok (.value v0) w' ∧ C1 w')
    (h : ∃ A, (∀ C, I C → wpQuiet P l.toArray C (fun a' => a' = A) (l.take n) a) ∧ ∀ w', C1 w' → wpList P l.toArray Q (l.drop (n + 1)) (A.put o0.dst v0) w') : (Code.region id l.toArray true).wp P Q a w := by
  obtain ⟨A, h2, h3⟩ := h
  exact region_once n o0 v0 C0 C1 I A hm hB ho hg h1 hI0 hI1 hC hA h2 h3
end
end Go.Proofs.Ytcjepiihknjeiaa
