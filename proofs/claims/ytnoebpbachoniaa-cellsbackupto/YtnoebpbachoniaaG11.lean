/- Texts of ours, one behind the other: GrowRow. -/
import Derived.Test.YtnoebpbachoniaaG3
/- A row that a caller's variable holds and that grows in the rounds of a range over a function; nothing here speaks of the program. -/
namespace Go.Proofs.Ytnoebpbachoniaa
open Go.RowKit Go.Shelf
attribute [local go_sem] Oper.semAt_some

theorem wpListIn_append_any {F : Fence} {n : Nat} {P : Program} {w : World} {ops : Array Oper} {rest : List Oper} {o : Oper} {a : Act} {Q : Exit → Act → World → Prop} (hgd : o.guard = none) (s x : Operand) (t : TypeId)
    (ho : o.op = .call { callee := .builtin .append, args := #[s, x], argTypes := #[t, t] })
    (base : Nat) (e : TypeId) (i : TypeInfo) (z : Value) (ht : P.underlying t = some (.slice e)) (hi : P.info? e = some i) (hz : i.zero = some z)
    (size bytes : Nat) (hsz0 : 0 < size) (hsize : i.size = size) (hby : i.bytes = bytes) (hzs : z.cells.size = size)
    (v : Value) (k : Nat) (xs : List Value) (hs : a.eval s = v) (hown : w.ownsRow base e size v k xs) (ad : Addr) (m c : Nat) (news : List Value) (hx : a.eval x = .slice (some ad) m c)
    (hl : news.length = m * size) (hnews : ∀ j u, news[j]? = some u → w.cell? (ad.add j) = some u) (hone : ∀ u ∈ news, u.oneCell' = true) (h63 : k + m ≤ maxLen) (hbytes : (k + m) * bytes ≤ 140737488355328) (hbase : base ≤ w.heap.size)
    (h : ∀ v' w', w'.ownsRow base e size v' (k + m) (xs ++ news) → w.grownBy w' v.ownBlock → (v'.ownBlock = v.ownBlock ∨ v'.ownBlock = some w.heap.size) → wpListIn F n P ops Q rest (a.put o.dst v') w') : wpListIn F n P ops Q (o :: rest) a w := by
  obtain ⟨v', w', hr, g1, g2, _⟩ := run_append_own (P := P) w base t o.type e i z size bytes ht hi hz hsize hby hzs hsz0 v k xs hown ad m c news hl hnews hone h63 hbytes hbase
  have g3 := append_block (P := P) w t o.type e i z ht hi hz (base := base) (v := v) (n := k) (xs := xs) (by rw [hsize]; exact hown) ad m c news (by rw [hsize]; omega) hnews hone h63 (by rw [hby]; exact hbytes) hr
  refine wpListIn_plain hgd fun K hK => ?_
  unfold Oper.wpIn
  refine ⟨?_, ?_⟩
  · simp [Oper.about, ho, resolve, Target.leads, Sem.run_pure]
  · rw [Oper.semAt_plain F _ _ (by rw [ho]; intro c hc'; cases hc')]
    simp [execOp, ho, resolve, invoke, builtin, hs, hx, hr, Result.andThen]
    exact hK _ _ (h v' w' g1 g2 g3)

/-- The block of a variable, and that of the row which it holds. -/
def VF (q : Nat) (v : Value) (k : Nat) : Prop := k = q ∨ v.ownBlock = some k
theorem ownsV_keep {F : Nat → Prop} {w w' : World} {base e sz : Nat} {v : Value} {n : Nat} {xs : List Value} (h : w.ownsRow base e sz v n xs) (hk : Keep F w w') (hn : ∀ k, v.ownBlock = some k → ¬ F k) : w'.ownsRow base e sz v n xs := by
  refine ⟨h.1, ?_⟩
  rcases h.2 with h2 | ⟨g, cap, cur, rfl, hg, hh, r⟩
  · exact Or.inl h2
  · exact Or.inr ⟨g, cap, cur, rfl, hg, (hk.block g (Array.getElem?_eq_some_iff.1 hh).1 (hn g rfl)).trans hh, r⟩
theorem ownsV_shape {w : World} {base e sz n : Nat} {v : Value} {xs : List Value} (h : w.ownsRow base e sz v n xs) : ∃ p c, v = .slice p n c := by
  rcases h.2 with ⟨h', h0⟩ | ⟨g', cap', cur, h', _⟩
  · exact ⟨none, 0, by rw [h', h0]⟩
  · exact ⟨_, _, h'⟩
/-- A variable B that holds a row of the call's own: n things of so many cells. -/
def GR (B TB E sz : Nat) (n : Nat) (xs : List Value) (C : Nat → Prop) (W : World) : Prop :=
  ∃ v, W.heap[B]? = some (.cells #[v] TB (0, 0)) ∧ W.ownsRow 0 E sz v n xs ∧ v.ownBlock ≠ some B ∧ ∀ k, C k ↔ VF B v k
theorem GR.stays {B TB E sz n : Nat} {xs : List Value} {C : Nat → Prop} {W W' : World} {G : Nat → Prop} (h : GR B TB E sz n xs C W) (hk : Keep G W W') (hn : ∀ k, C k → ¬ G k) : GR B TB E sz n xs C W' := by
  obtain ⟨v, h1, h2, h3, h4⟩ := h
  exact ⟨v, (hk.block B (Array.getElem?_eq_some_iff.1 h1).1 (hn B ((h4 B).2 (Or.inl rfl)))).trans h1, ownsV_keep h2 hk (fun k hv => hn k ((h4 k).2 (Or.inr hv))), h3, h4⟩
theorem GR.lt {B TB E sz n : Nat} {xs : List Value} {C : Nat → Prop} {W : World} (h : GR B TB E sz n xs C W) (k : Nat) (hc : C k) : k < W.heap.size := by
  obtain ⟨v, h1, h2, h3, h4⟩ := h
  rcases (h4 k).1 hc with h | h
  · rw [h]; exact (Array.getElem?_eq_some_iff.1 h1).1
  · exact (h2.lt k h).2
/-- One more, laid aside first (Wx), then appended (w2), and stored. -/
theorem GR.more {B TB E sz n m : Nat} {xs news : List Value} {C : Nat → Prop} {v v2 : Value} {W Wx w2 : World} (h1 : W.heap[B]? = some (.cells #[v] TB (0, 0))) (h3 : v.ownBlock ≠ some B) (hC : ∀ k, VF B v k → C k)
    (hW : Below W.heap.size W Wx) (hown : w2.ownsRow 0 E sz v2 (n + m) (xs ++ news)) (hg : Wx.grownBy w2 v.ownBlock) (hob : v2.ownBlock = v.ownBlock ∨ v2.ownBlock = some Wx.heap.size) :
    GR B TB E sz (n + m) (xs ++ news) (VF B v2) (w2.setCell ⟨B, 0, none⟩ v2) ∧ Moves C (VF B v2) W (w2.setCell ⟨B, 0, none⟩ v2) := by
  have hBl : B < W.heap.size := (Array.getElem?_eq_some_iff.1 h1).1
  have hb2 : w2.heap[B]? = some (.cells #[v] TB (0, 0)) := (hg.block B (Nat.lt_of_lt_of_le hBl hW.size) (fun e => h3 e.symm)).trans ((hW.block B hBl).trans h1)
  have b2 := heap_setCell_same w2 B 0 _ _ v2 hb2
  have hv2 : v2.ownBlock ≠ some B := by
    rcases hob with e | e
    · rw [e]; exact h3
    · rw [e]; intro e2; simp only [Option.some.injEq] at e2; have := hW.size; omega
  have K3 : Keep (fun k => k = B) w2 (w2.setCell ⟨B, 0, none⟩ v2) := ⟨rfl, rfl, rfl, by simp [World.setCell], fun k _ hk => heap_setCell_other w2 ⟨B, 0, none⟩ k _ (fun e => hk (by simp at e; exact e.symm ▸ rfl))⟩
  have K2 : Keep (VF B v) Wx w2 := ⟨hg.os, hg.tape, hg.output, hg.size, fun k hk hn => hg.block k hk (fun e => hn (Or.inr e.symm))⟩
  have K1 : Keep (VF B v) W w2 := (Keep.of_below hW).trans K2 (fun x hx => Or.inl hx)
  refine ⟨⟨v2, by rw [b2]; rfl, ownsV_keep hown K3 (fun k hk e => hv2 (e ▸ hk)), hv2, fun _ => Iff.rfl⟩, (K1.trans K3 (fun x hx => Or.inl (Or.inl hx))).weak hC, fun k hk => ?_⟩
  rcases hk with hk | hk
  · exact Or.inl (hC k (Or.inl hk))
  · rcases hob with e | e
    · exact Or.inl (hC k (Or.inr (e ▸ hk)))
    · rw [e] at hk; simp only [Option.some.injEq] at hk; exact Or.inr (by have := hW.size; omega)
end Go.Proofs.Ytnoebpbachoniaa
