/- Texts of ours, one behind the other: RoundReg. -/
import Derived.Sort.BigQuietIn
import Derived.RangeFuncNested
import Derived.RangeFuncCalls
import Derived.StillTail
import Derived.StillTactics
/- A region that draws, in a round of a range over a function: by a class of worlds, one walk in the order of the text; nothing here speaks of the program. -/
namespace Go.Proofs.Ytegefnchkgkmgaa
open Go.RowKit

section
variable {F : Fence} {n : Nat} {P : Program} {ops : Array Oper} {Q : Exit → Act → World → Prop} {md : Region.Mode}
theorem uponIn_round (l : Nat) (o : Oper) (a : Act) (next : Act → World → Prop) (r : Result Next) (h : o.uponIn F n P a next Q r) : o.uponIn (F.inRound l) n P a next Q r := by
  cases r with
  | ok x w' => cases x <;> exact h
  | halt x w' => cases x <;> exact h
theorem wpIn_round (l : Nat) (o : Oper) (hnd : ∀ c, o.op ≠ .defer c) (hro : F.round = none) (a : Act) (w : World) (next : Act → World → Prop) (h : o.wpIn F n P a w next Q) : o.wpIn (F.inRound l) n P a w next Q := by
  refine ⟨h.1, ?_⟩
  have h2 := h.2
  rw [hro, Oper.semAt_none] at h2
  rw [Fence.inRound_round, Oper.semAt_eq _ _ _ hnd]
  exact uponIn_round l o a next _ h2
theorem wpAnyIn_round (l : Nat) (hnd : ∀ o ∈ ops.toList, ∀ c, o.op ≠ .defer c) (hro : F.round = none) : ∀ (fuel : Nat) (listed : Array Bool) (a : Act) (w : World), wpAnyIn F n P md ops Q fuel listed a w → wpAnyIn (F.inRound l) n P md ops Q fuel listed a w
  | 0, _, _, _, h => h
  | fuel + 1, listed, a, w, h => by
    refine ⟨h.1, fun i hi => ?_⟩
    have h2 := wpOpIn_mono (fun a w => wpAnyIn_round l hnd hro fuel (listed.setIfInBounds i true) a w) (h.2 i hi)
    unfold wpOpIn at h2 ⊢
    cases ho : ops[i]? with
    | none => simp only [ho] at h2 ⊢; exact h2
    | some o =>
      simp only [ho] at h2 ⊢
      split
      · rename_i hw
        rw [if_pos hw] at h2
        exact wpIn_round l o (hnd o (by obtain ⟨h1, rfl⟩ := Array.getElem?_eq_some_iff.1 ho; simp)) hro a w _ h2
      · rename_i hw
        rw [if_neg hw] at h2
        exact h2
/-- By a class of worlds. -/
theorem region_calmR {id : Nat} {a : Act} {w : World} {l : Nat} {L : List Oper} (C : World → Prop) (hro : F.round = none) (hm : P.follows .mixedOrders = true) (hB : Region.lexB .any L.toArray = true) (hnd : ∀ o ∈ L, ∀ c, o.op ≠ .defer c) (hC : C { w with drawn := w.drawn + 1 })
    (h : wpQuietIn F n P L.toArray C (fun a' => ∀ w', C w' → Q .normal a' w') L a) : (Code.region id L.toArray true).wpIn (F.inRound l) n P Q a w := by
  simp only [Region.lexB, Bool.and_eq_true] at hB
  refine wpIn_region_any hm (wpAnyIn_round l (by simpa using hnd) hro _ _ _ _ (wpAnyIn_of_quiet (Q := fun a' => ∀ w', C w' → Q .normal a' w') hro (fun _ w' hw' h => h w' hw') _ _ _ _ hC ?_))
  have := wpAnyQIn_lex (F := F) (n := n) (C := C) (md := .any) hB.1 L 0 (Array.replicate L.toArray.size false) a (by simp) (by simpa using hB.2) h
  simpa using this
theorem wpQuietIn_wide {C : World → Prop} {Q : Act → Prop} : ∀ (L : List Oper) (a : Act), wpQuiet P ops C Q L a → wpQuietIn Fence.wide n P ops C Q L a
  | [], _, h => h
  | o :: L, a, h => by
    refine ⟨fun _ _ _ _ => trivial, ?_⟩
    simp only [wpQuiet] at h
    split
    · rename_i hw
      rw [if_pos hw] at h
      obtain ⟨v, h1, h2⟩ := h
      refine ⟨v, fun w hw => ?_, wpQuietIn_wide L _ h2⟩
      have h3 := h1 w hw
      unfold Oper.quietAt at h3
      unfold Oper.quietAtIn
      revert h3
      cases (execOp a.eval o).run P w with
      | ok x w' =>
        cases x with
        | enter f args => exact fun h3 => ⟨h3.1, (fun h => (by cases h)), callsIn_wide.2 h3.2⟩
        | _ => exact fun h3 => h3
      | halt x w' => exact fun h3 => h3
    · rename_i hw
      rw [if_neg hw] at h
      exact wpQuietIn_wide L _ h
/-- The same, at the wide fence, by the plain walk. -/
theorem region_calmW {id : Nat} {a : Act} {w : World} {l : Nat} {L : List Oper} (C : World → Prop) (hm : P.follows .mixedOrders = true) (hB : Region.lexB .any L.toArray = true) (hnd : ∀ o ∈ L, ∀ c, o.op ≠ .defer c) (hC : C { w with drawn := w.drawn + 1 })
    (h : wpQuiet P L.toArray C (fun a' => ∀ w', C w' → Q .normal a' w') L a) : (Code.region id L.toArray true).wpIn (Fence.wide.inRound l) n P Q a w :=
  region_calmR C rfl hm hB hnd hC (wpQuietIn_wide L a h)
/-- .. outside of a round. -/
theorem region_calmO {id : Nat} {a : Act} {w : World} {L : List Oper} (C : World → Prop) (hm : P.follows .mixedOrders = true) (hB : Region.lexB .any L.toArray = true) (hC : C { w with drawn := w.drawn + 1 })
    (h : wpQuiet P L.toArray C (fun a' => ∀ w', C w' → Q .normal a' w') L a) : (Code.region id L.toArray true).wpIn Fence.wide n P Q a w :=
  wpIn_region_quiet rfl hm hB hC (by simpa using wpQuietIn_wide (n := n) L a h)
theorem wpIn_of_wp (l : Nat) (o : Oper) (hnd : ∀ c, o.op ≠ .defer c) (a : Act) (w : World) (next : Act → World → Prop) (h : o.wp P a w next Q) : o.wpIn (Fence.wide.inRound l) n P a w next Q := by
  refine ⟨fun _ _ => trivial, ?_⟩
  rw [Fence.inRound_round, Oper.semAt_eq _ _ _ hnd]
  unfold Oper.wp at h
  revert h
  cases (execOp a.eval o).run P w with
  | ok x w' =>
    cases x with
    | enter f args => exact fun h => ⟨(fun h => (by cases h)), callsIn_wide.2 h⟩
    | row row args => exact fun h => ⟨(fun h => (by cases h)), fun c cs _ => let ⟨v, w', r, s⟩ := h c cs; ⟨v, w', r, stepsIn_wide.2 s⟩⟩
    | round _ _ _ _ _ => exact fun h => h.elim
    | _ => exact fun h => h
  | halt x w' => cases x <;> exact fun h => h
theorem wpAnyIn_of_wpAny (l : Nat) (hnd : ∀ o ∈ ops.toList, ∀ c, o.op ≠ .defer c) (hlo : ¬ LetsOut Q) : ∀ (fuel : Nat) (listed : Array Bool) (a : Act) (w : World), wpAny P md ops Q fuel listed a w → wpAnyIn (Fence.wide.inRound l) n P md ops Q fuel listed a w
  | 0, _, _, _, h => h
  | fuel + 1, listed, a, w, h => by
    refine ⟨h.1, fun i hi => ?_⟩
    have h2 := wpOp_mono (fun a w => wpAnyIn_of_wpAny l hnd hlo fuel (listed.setIfInBounds i true) a w) (h.2 i hi)
    unfold wpOp at h2
    unfold wpOpIn
    cases ho : ops[i]? with
    | none => simp only [ho] at h2 ⊢; exact h2
    | some o =>
      simp only [ho] at h2 ⊢
      split
      · rename_i hw
        rw [if_pos hw] at h2
        rcases h2 with h2 | h2
        · exact wpIn_of_wp l o (hnd o (by obtain ⟨h1, rfl⟩ := Array.getElem?_eq_some_iff.1 ho; simp)) a w _ h2
        · exact absurd h2.2 hlo
      · rename_i hw
        rw [if_neg hw] at h2
        exact ⟨fun _ _ => trivial, h2⟩
/-- In a round: operations that leave the world alone, and then some in their order ('n' is the first of these). -/
theorem region_tailW {id : Nat} {a : Act} {w : World} {l : Nat} {L : List Oper} (k : Nat) (hm : P.follows .mixedOrders = true) (hB : Region.lexTailB .any L.toArray k = true) (hnd : ∀ o ∈ L, ∀ c, o.op ≠ .defer c) (hlo : ¬ LetsOut Q)
    (h : wpStill P L.toArray { w with drawn := w.drawn + 1 } (fun a' => wpList P L.toArray Q (L.drop k) a' { w with drawn := w.drawn + 1 }) (L.take k) a) : (Code.region id L.toArray true).wpIn (Fence.wide.inRound l) n P Q a w := by
  simp only [Region.lexTailB, Bool.and_eq_true, decide_eq_true_eq] at hB
  obtain ⟨⟨⟨⟨hsel, hn⟩, hs⟩, hc⟩, hlex⟩ := hB
  have hn' : k < L.length := by simpa using hn
  have htl : (L.take k).length = k := by simp; omega
  have hdl : (L.drop k).length = L.toArray.size - k := by simp
  have inv0 : HeadInv .any L.toArray k (Array.replicate L.toArray.size false) :=
    ⟨by simp, fun j oj _ hl => (by rw [getD_replicate_false] at hl; cases hl), fun t _ ht => getD_in (by simpa using ht) (getD_replicate_false _ _)⟩
  have H := wpAnyL_lex (md := .any) (g := L.toArray.size - k) hsel hs hc hn (L.take k) 0 _ a (fun j hj => by
    have hj' : j < k := by rw [htl] at hj; exact hj
    simp [hj']) (by simpa using htl) inv0 (by rw [htl]; exact hlex) h
  refine wpIn_region_any hm (wpAnyIn_of_wpAny l (by simpa using hnd) hlo _ _ _ _ ?_)
  have := wpAny_of_head (Q' := Q) (g := L.toArray.size - k) (fun listed a' hL => by
    have := wpAny_of_seq (md := .any) (Q' := Q) (L.drop k) k listed a' { w with drawn := w.drawn + 1 } (fun j => by simp [List.getElem?_drop]) (by rw [hdl]; exact hL.1) hL.2
    rwa [hdl] at this) _ _ _ H
  rw [htl, show k + (L.toArray.size - k) = L.toArray.size by omega] at this
  exact this
end
end Go.Proofs.Ytegefnchkgkmgaa
