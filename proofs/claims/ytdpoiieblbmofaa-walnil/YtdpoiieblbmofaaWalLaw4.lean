/- The statements of layer 7: a book and its log; a record more. -/
import Derived.Test.YtdpoiieblbmofaaWalTail
import Derived.Test.YtdpoiieblbmofaaFrRef1
namespace Go.Proofs.Ytdpoiieblbmofaa
open Go.RowKit

/-- A call of a Go function of one argument, as one step of a region that draws its order. -/
theorem step_call1 {P : Program} {ops : Array Oper} {o : Oper} {a : Act} {w : World} {K : Act → World → Prop} {Q : Exit → Act → World → Prop} {E : Prop} (hgd : o.guard = none) (f : FuncId) (x : Operand) (t : TypeId)
    (ho : o.op = .call { callee := .value (.func f), args := #[x], argTypes := #[t] }) (v : Value) (hx : a.eval x = v) (hent : ∀ args w, (callFunc f args).run P w = .ok (.enter f args) w) {Post : Value → World → Prop}
    (hc : Calls P f #[v] w fun e w' => ∃ t, e = .returned t ∧ Post t w') (h : ∀ t w', Post t w' → K (a.put o.dst t) w') :
    if Region.wanted o (yielded ops a.tmps) = true then Oper.wp P o a w K Q else E := by
  have hw : Region.wanted o (yielded ops a.tmps) = true := by simp [Region.wanted, hgd]
  rw [if_pos hw]
  unfold Oper.wp execOp
  have hfe : a.eval (.func f) = .func (.func f) #[] #[] := rfl
  simp only [ho, resolve, invoke, Deferred.ofValue, Sem.run_bind, Sem.run_pure, Result.andThen_ok, List.map_toArray, List.map_cons, List.map_nil, hx, hfe]
  simp only [List.append_toArray, List.append_nil, List.nil_append, hent, Oper.upon_enter]
  refine hc.mono ?_
  rintro e w' ⟨t, rfl, hp⟩
  exact h t w' hp

section
variable {K : Nat → Prop} {w w1 W w2 : World} {g : Nat} {dp lp : Value} {b : BK} {rv tv av rv' tv' av' : Value}
theorem BAt.rg (h : BAt K w g dp lp b rv tv av) : rv.ownBlock ≠ some g := fun e => by
  obtain ⟨vs, _, h2, _⟩ := h.recs
  obtain ⟨cur, hh⟩ := h2.kind g e
  rw [h.blk] at hh
  cases hh
theorem BAt.tg (h : BAt K w g dp lp b rv tv av) : tv.ownBlock ≠ some g := fun e => by
  obtain ⟨cur, hh⟩ := h.turns.kind g e
  rw [h.blk] at hh
  cases hh
theorem BAt.ag (h : BAt K w g dp lp b rv tv av) : av.ownBlock ≠ some g := fun e => by
  obtain ⟨cur, hh⟩ := h.ages.kind g e
  rw [h.blk] at hh
  cases hh
theorem BAt.rt (h : BAt K w g dp lp b rv tv av) : ∀ k, rv.ownBlock = some k → tv.ownBlock ≠ some k ∧ av.ownBlock ≠ some k := fun k e => by
  obtain ⟨vs, _, h2, _⟩ := h.recs
  obtain ⟨cur, hh⟩ := h2.kind k e
  refine ⟨fun e2 => ?_, fun e2 => ?_⟩
  · obtain ⟨cur', hh'⟩ := h.turns.kind k e2
    rw [hh] at hh'
    cases hh'
  · obtain ⟨cur', hh'⟩ := h.ages.kind k e2
    rw [hh] at hh'
    cases hh'

/-- What is there from a size on, is new. -/
def newK (K : Nat → Prop) (w w' : World) : Nat → Prop := fun k => K k ∨ (w.heap.size ≤ k ∧ k < w'.heap.size)

theorem TRow.lt {e : TypeId} {v : Value} {xs : List Value} (h : TRow K w e v xs) : ∀ k, v.ownBlock = some k → k < w.heap.size := fun k hk => by
  obtain ⟨cur, hh⟩ := h.kind k hk
  exact (Array.getElem?_eq_some_iff.1 hh).1
/-- A slice of the book's is another. -/
theorem TRow.new {e : TypeId} {v : Value} {xs : List Value} {N : Nat} (h : TRow (fun k => K k ∨ N ≤ k) w2 e v xs) (hN : w.heap.size ≤ N) (w3 : World) (hs : w2.heap.size ≤ w3.heap.size) : TRow (newK K w w3) w2 e v xs :=
  ⟨fun k hk => (h.1 k hk).imp_right (fun h1 => ⟨Nat.le_trans hN h1, Nat.lt_of_lt_of_le (h.lt k hk) hs⟩), h.2⟩

theorem BAt.addTurn {u : Nat} (h : BAt K w g dp lp b rv tv av) (hW : Below w.heap.size w W) (hk : Keep (fun k => tv.ownBlock = some k) W w2) (hr : TRow (fun k => K k ∨ W.heap.size ≤ k) w2 35 tv' (b.turns.map U64 ++ [U64 u])) (hv : ∀ k, tv'.ownBlock = some k → tv.ownBlock = some k ∨ W.heap.size ≤ k) :
    BAt (newK K w (w2.setCell ⟨g, 13, none⟩ tv')) (w2.setCell ⟨g, 13, none⟩ tv') g dp lp { b with turns := b.turns ++ [u] } rv tv' av ∧ Moves K (newK K w (w2.setCell ⟨g, 13, none⟩ tv')) w (w2.setCell ⟨g, 13, none⟩ tv') := by
  have hgl := h.lt g h.fg
  have hb2 : w2.heap[g]? = _ := (hk.block g (Nat.lt_of_lt_of_le hgl hW.size) h.tg).trans ((hW.block g hgl).trans h.blk)
  have b1 := heap_setCell_same w2 g 13 _ _ tv' hb2
  have hsz : (w2.setCell ⟨g, 13, none⟩ tv').heap.size = w2.heap.size := by simp
  have hoth : ∀ k, k < w.heap.size → k ≠ g → tv.ownBlock ≠ some k → (w2.setCell ⟨g, 13, none⟩ tv').heap[k]? = w.heap[k]? := fun k h1 h2 h3 => (Below.heap_setCell _ _ _ _ h2).trans ((hk.block k (Nat.lt_of_lt_of_le h1 hW.size) h3).trans (hW.block k h1))
  have hvg : ∀ k, tv'.ownBlock = some k → k ≠ g := fun k hk' e => by
    rcases hv k hk' with h1 | h1
    · exact h.tg (e ▸ h1)
    · have := hW.size; omega
  have KA : Keep K w (w2.setCell ⟨g, 13, none⟩ tv') := by
    have k1 : Keep K w w2 := (Keep.of_below hW).trans hk (fun x hx => Or.inl (h.turns.1 x hx))
    exact k1.sset h.fg _
  refine ⟨⟨b1.trans rfl, ?_, ?_, ?_, ?_, Or.inl h.fg, fun k hk' => ?_⟩, KA, fun k hk' => hk'.imp_right (fun h1 => h1.1)⟩
  · have h1 := h.recs.stays (w' := w2.setCell ⟨g, 13, none⟩ tv') (fun k hK hc => hoth k (h.lt k hK) (fun e => by
      rcases hc with ⟨cur, hc⟩ | hc
      · rw [e, h.blk] at hc; cases hc
      · exact h.rg (e ▸ hc)) (fun e => by
      rcases hc with ⟨cur, hc⟩ | hc
      · obtain ⟨cur', hh⟩ := h.turns.kind k e
        rw [hc] at hh
        cases hh
      · exact (h.rt k hc).1 e))
    obtain ⟨vs, a1, a2, a3⟩ := h1
    exact ⟨vs, a1, a2.weak (fun k hK => Or.inl hK), fun j hj => let ⟨t, c1, c2, c3⟩ := a3 j hj; ⟨t, c1, c2, fun b' off n c' e hne => ⟨Or.inl (c3 b' off n c' e hne).1, (c3 b' off n c' e hne).2⟩⟩⟩
  · have h1 := hr.new (w := w) hW.size (w2.setCell ⟨g, 13, none⟩ tv') (by rw [hsz]; exact Nat.le_refl _)
    have h2 := h1.stays (w' := w2.setCell ⟨g, 13, none⟩ tv') (fun k hk' => Below.heap_setCell _ _ _ _ (hvg k hk'))
    simpa using h2
  · exact (h.ages.stays (w' := w2.setCell ⟨g, 13, none⟩ tv') (fun k e => hoth k (h.ages.lt k e) (fun e2 => h.ag (e2 ▸ e)) (fun e2 => h.two k e2 e))).weak (fun k hK => Or.inl hK)
  · intro k hk' ha
    rcases hv k hk' with h1 | h1
    · exact h.two k h1 ha
    · have := h.ages.lt k ha; have := hW.size; omega
  · rcases hk' with h1 | h1
    · exact Nat.lt_of_lt_of_le (h.lt k h1) KA.size
    · exact h1.2
theorem BAt.addAge {u : Nat} (h : BAt K w g dp lp b rv tv av) (hW : Below w.heap.size w W) (hk : Keep (fun k => av.ownBlock = some k) W w2) (hr : TRow (fun k => K k ∨ W.heap.size ≤ k) w2 35 av' (b.ages.map U64 ++ [U64 u])) (hv : ∀ k, av'.ownBlock = some k → av.ownBlock = some k ∨ W.heap.size ≤ k) :
    BAt (newK K w (w2.setCell ⟨g, 14, none⟩ av')) (w2.setCell ⟨g, 14, none⟩ av') g dp lp { b with ages := b.ages ++ [u] } rv tv av' ∧ Moves K (newK K w (w2.setCell ⟨g, 14, none⟩ av')) w (w2.setCell ⟨g, 14, none⟩ av') := by
  have hgl := h.lt g h.fg
  have hb2 : w2.heap[g]? = _ := (hk.block g (Nat.lt_of_lt_of_le hgl hW.size) h.ag).trans ((hW.block g hgl).trans h.blk)
  have b1 := heap_setCell_same w2 g 14 _ _ av' hb2
  have hsz : (w2.setCell ⟨g, 14, none⟩ av').heap.size = w2.heap.size := by simp
  have hoth : ∀ k, k < w.heap.size → k ≠ g → av.ownBlock ≠ some k → (w2.setCell ⟨g, 14, none⟩ av').heap[k]? = w.heap[k]? := fun k h1 h2 h3 => (Below.heap_setCell _ _ _ _ h2).trans ((hk.block k (Nat.lt_of_lt_of_le h1 hW.size) h3).trans (hW.block k h1))
  have hvg : ∀ k, av'.ownBlock = some k → k ≠ g := fun k hk' e => by
    rcases hv k hk' with h1 | h1
    · exact h.ag (e ▸ h1)
    · have := hW.size; omega
  have KA : Keep K w (w2.setCell ⟨g, 14, none⟩ av') := by
    have k1 : Keep K w w2 := (Keep.of_below hW).trans hk (fun x hx => Or.inl (h.ages.1 x hx))
    exact k1.sset h.fg _
  refine ⟨⟨b1.trans rfl, ?_, ?_, ?_, ?_, Or.inl h.fg, fun k hk' => ?_⟩, KA, fun k hk' => hk'.imp_right (fun h1 => h1.1)⟩
  · have h1 := h.recs.stays (w' := w2.setCell ⟨g, 14, none⟩ av') (fun k hK hc => hoth k (h.lt k hK) (fun e => by
      rcases hc with ⟨cur, hc⟩ | hc
      · rw [e, h.blk] at hc; cases hc
      · exact h.rg (e ▸ hc)) (fun e => by
      rcases hc with ⟨cur, hc⟩ | hc
      · obtain ⟨cur', hh⟩ := h.ages.kind k e
        rw [hc] at hh
        cases hh
      · exact (h.rt k hc).2 e))
    obtain ⟨vs, a1, a2, a3⟩ := h1
    exact ⟨vs, a1, a2.weak (fun k hK => Or.inl hK), fun j hj => let ⟨t, c1, c2, c3⟩ := a3 j hj; ⟨t, c1, c2, fun b' off n c' e hne => ⟨Or.inl (c3 b' off n c' e hne).1, (c3 b' off n c' e hne).2⟩⟩⟩
  · exact (h.turns.stays (w' := w2.setCell ⟨g, 14, none⟩ av') (fun k e => hoth k (h.turns.lt k e) (fun e2 => h.tg (e2 ▸ e)) (fun e2 => h.two k e e2))).weak (fun k hK => Or.inl hK)
  · have h1 := hr.new (w := w) hW.size (w2.setCell ⟨g, 14, none⟩ av') (by rw [hsz]; exact Nat.le_refl _)
    have h2 := h1.stays (w' := w2.setCell ⟨g, 14, none⟩ av') (fun k hk' => Below.heap_setCell _ _ _ _ (hvg k hk'))
    simpa using h2
  · intro k ht hk'
    rcases hv k hk' with h1 | h1
    · exact h.two k ht h1
    · have := h.turns.lt k ht; have := hW.size; omega
  · rcases hk' with h1 | h1
    · exact Nat.lt_of_lt_of_le (h.lt k h1) KA.size
    · exact h1.2
theorem BAt.addRec {x : List UInt8} {t : Value} {vs : List Value} (h : BAt K w g dp lp b rv tv av) (hvl : vs.length = b.recs.length) (hvr : TRow K w 27 rv vs) (h1 : Below w.heap.size w w1) (ht : w1.ownsRow w.heap.size 5 1 t x.length (x.map B)) (hW : Below w1.heap.size w1 W)
    (hk : Keep (fun k => rv.ownBlock = some k) W w2) (hr : TRow (fun k => K k ∨ W.heap.size ≤ k) w2 27 rv' (vs ++ [t])) (hv : ∀ k, rv'.ownBlock = some k → rv.ownBlock = some k ∨ W.heap.size ≤ k) :
    BAt (newK K w (w2.setCell ⟨g, 12, none⟩ rv')) (w2.setCell ⟨g, 12, none⟩ rv') g dp lp { b with recs := b.recs ++ [x] } rv' tv av ∧ Moves K (newK K w (w2.setCell ⟨g, 12, none⟩ rv')) w (w2.setCell ⟨g, 12, none⟩ rv') := by
  have hgl := h.lt g h.fg
  have hwW : Below w.heap.size w W := h1.trans (hW.mono h1.size)
  have hb2 : w2.heap[g]? = _ := (hk.block g (Nat.lt_of_lt_of_le hgl hwW.size) h.rg).trans ((hwW.block g hgl).trans h.blk)
  have b1 := heap_setCell_same w2 g 12 _ _ rv' hb2
  have hsz : (w2.setCell ⟨g, 12, none⟩ rv').heap.size = w2.heap.size := by simp
  have hoth : ∀ k, k < w.heap.size → k ≠ g → rv.ownBlock ≠ some k → (w2.setCell ⟨g, 12, none⟩ rv').heap[k]? = w.heap[k]? := fun k h1' h2 h3 => (Below.heap_setCell _ _ _ _ h2).trans ((hk.block k (Nat.lt_of_lt_of_le h1' hwW.size) h3).trans (hwW.block k h1'))
  have hvg : ∀ k, rv'.ownBlock = some k → k ≠ g := fun k hk' e => by
    rcases hv k hk' with h1 | h1
    · exact h.rg (e ▸ h1)
    · have := hwW.size; omega
  have KA : Keep K w (w2.setCell ⟨g, 12, none⟩ rv') := by
    have k1 : Keep K w w2 := (Keep.of_below hwW).trans hk (fun x hx => Or.inl (hvr.1 x hx))
    exact k1.sset h.fg _
  refine ⟨⟨b1.trans rfl, ?_, ?_, ?_, h.two, Or.inl h.fg, fun k hk' => ?_⟩, KA, fun k hk' => hk'.imp_right (fun h1 => h1.1)⟩
  · obtain ⟨vs0, a1, a2, a3⟩ := h.recs
    have hvv : vs0 = vs := by
      rcases a2.2 with ⟨e1, e2⟩ | ⟨k, off, cap, cur, e1, e3, _, _, _, e7⟩
      · rw [e2] at a1; rw [e2]; symm; exact List.eq_nil_of_length_eq_zero (by simp at a1; omega)
      · rcases hvr.2 with ⟨f1, f2⟩ | ⟨k', off', cap', cur', f1, f3, _, _, _, f7⟩
        · rw [e1] at f1; cases f1
        · rw [e1] at f1
          simp only [Value.slice.injEq, Option.some.injEq, Addr.mk.injEq, and_true] at f1
          obtain ⟨⟨rfl, rfl⟩, _, _⟩ := f1
          apply List.ext_getElem (by omega)
          intro i hi1 hi2
          have q1 := e7 i _ (List.getElem?_eq_getElem hi1)
          have q2 := f7 i _ (List.getElem?_eq_getElem hi2)
          rw [q1] at q2
          simpa using q2
    subst hvv
    refine ⟨vs0 ++ [t], by simp [a1], ?_, fun j hj => ?_⟩
    · exact (hr.new (w := w) hwW.size (w2.setCell ⟨g, 12, none⟩ rv') (by rw [hsz]; exact Nat.le_refl _)).stays (fun k hk' => Below.heap_setCell _ _ _ _ (hvg k hk'))
    · by_cases hjl : j < b.recs.length
      · obtain ⟨t', c1, c2, c3⟩ := a3 j hjl
        have e1 : (b.recs ++ [x])[j] = b.recs[j] := List.getElem_append_left hjl
        refine ⟨t', by rw [List.getElem?_append_left (by omega)]; exact c1, ?_, fun b' off n c' e hne => ?_⟩
        · show Row _ t' (b.recs ++ [x])[j]
          rw [e1]
          obtain ⟨p, cap, e, r1, r2, r3, r4⟩ := c2
          refine ⟨p, cap, e, r1, r2, r3, ?_⟩
          by_cases hne : b.recs[j] = []
          · exact Or.inl hne
          · rcases r4 with r4 | ⟨b', off, rfl, hc⟩
            · exact Or.inl r4
            · obtain ⟨k1, cur, k2⟩ := c3 b' off _ _ e hne
              refine Or.inr ⟨b', off, rfl, fun i hi => (World.cell?_of_block (w := w) (hoth b' (h.lt b' k1) (fun e => ?_) (fun e => ?_))).trans (hc i hi)⟩
              · rw [e, h.blk] at k2; cases k2
              · obtain ⟨cur', hh⟩ := hvr.kind b' e
                rw [k2] at hh
                cases hh
        · have hne' : b.recs[j] ≠ [] := by rw [← e1]; exact hne
          obtain ⟨k1, cur, k2⟩ := c3 b' off n c' e hne'
          refine ⟨Or.inl k1, cur, (hoth b' (h.lt b' k1) (fun e => ?_) (fun e => ?_)).trans k2⟩
          · rw [e, h.blk] at k2; cases k2
          · obtain ⟨cur', hh⟩ := hvr.kind b' e
            rw [k2] at hh
            cases hh
      · have hj' : j = b.recs.length := by simp at hj; omega
        subst hj'
        have e1 : (b.recs ++ [x])[b.recs.length] = x := by simp
        have hrow := row_of_owns ht
        have hst : ∀ k, w.heap.size ≤ k → k < w1.heap.size → (w2.setCell ⟨g, 12, none⟩ rv').heap[k]? = w1.heap[k]? := fun k h1' h2' =>
          (Below.heap_setCell _ _ _ _ (by show k ≠ g; omega)).trans ((hk.block k (Nat.lt_of_lt_of_le h2' hW.size) (fun e => by have := hvr.lt k e; omega)).trans (hW.block k h2'))
        refine ⟨t, by rw [← a1]; simp, ?_, fun b' off n c' e hne => ?_⟩
        · show Row _ t (b.recs ++ [x])[b.recs.length]
          rw [e1]
          obtain ⟨p, cap, e, r1, r2, r3, r4⟩ := hrow
          refine ⟨p, cap, e, r1, r2, r3, ?_⟩
          rcases r4 with r4 | ⟨b', off, rfl, hc⟩
          · exact Or.inl r4
          · by_cases hne : x = []
            · exact Or.inl hne
            · refine Or.inr ⟨b', off, rfl, fun i hi => (World.cell?_of_block (w := w1) (hst b' ?_ (World.block_lt_of_cell? w1 _ (hc i hi)))).trans (hc i hi)⟩
              have := (ht.lt b' (by rw [e]; rfl)).1
              exact this
        · obtain ⟨g5, cap5, cur5, e5, hb5, hh5⟩ : ∃ g5 cap5 cur5, t = .slice (some ⟨g5, 0, none⟩) x.length cap5 ∧ w.heap.size ≤ g5 ∧ w1.heap[g5]? = some (.cells cur5 5 (0, 0)) := by
            rcases ht.2 with ⟨q1, q2⟩ | ⟨g5, cap5, cur5, q1, q2, q3, _⟩
            · rw [q1] at e; cases e
            · exact ⟨g5, cap5, cur5, q1, q2, q3⟩
          rw [e5] at e
          simp only [Value.slice.injEq, Option.some.injEq, Addr.mk.injEq, and_true] at e
          obtain ⟨⟨rfl, _⟩, _, _⟩ := e
          have hl5 := (Array.getElem?_eq_some_iff.1 hh5).1
          refine ⟨Or.inr ⟨hb5, ?_⟩, cur5, (hst g5 hb5 hl5).trans hh5⟩
          have := hW.size; have := hk.size; rw [hsz]; omega
  · exact (h.turns.stays (w' := w2.setCell ⟨g, 12, none⟩ rv') (fun k e => hoth k (h.turns.lt k e) (fun e2 => h.tg (e2 ▸ e)) (fun e2 => (h.rt k e2).1 e))).weak (fun k hK => Or.inl hK)
  · exact (h.ages.stays (w' := w2.setCell ⟨g, 12, none⟩ rv') (fun k e => hoth k (h.ages.lt k e) (fun e2 => h.ag (e2 ▸ e)) (fun e2 => (h.rt k e2).2 e))).weak (fun k hK => Or.inl hK)
  · rcases hk' with h1 | h1
    · exact Nat.lt_of_lt_of_le (h.lt k h1) KA.size
    · exact h1.2
/-- The number of the next turn is another. -/
theorem BAt.setNext (h : BAt K w g dp lp b rv tv av) (u : Nat) : BAt K (w.setCell ⟨g, 16, none⟩ (.int .u64 (u : Int))) g dp lp { b with next := u } rv tv av ∧ Keep K w (w.setCell ⟨g, 16, none⟩ (.int .u64 (u : Int))) := by
  have b1 := heap_setCell_same w g 16 _ _ (.int .u64 (u : Int)) h.blk
  have hoth : ∀ k, k ≠ g → (w.setCell ⟨g, 16, none⟩ (.int .u64 (u : Int))).heap[k]? = w.heap[k]? := fun k h2 => Below.heap_setCell _ _ _ _ h2
  refine ⟨⟨b1.trans rfl, h.recs.stays (fun k hK hc => hoth k (fun e => ?_)), h.turns.stays (fun k e => hoth k (fun e2 => h.tg (e2 ▸ e))), h.ages.stays (fun k e => hoth k (fun e2 => h.ag (e2 ▸ e))), h.two, h.fg, fun k hK => by simpa using h.lt k hK⟩, (Keep.refl _ _).sset h.fg _⟩
  rcases hc with ⟨cur, hc⟩ | hc
  · rw [e, h.blk] at hc; cases hc
  · exact h.rg (e ▸ hc)
end
end Go.Proofs.Ytdpoiieblbmofaa
