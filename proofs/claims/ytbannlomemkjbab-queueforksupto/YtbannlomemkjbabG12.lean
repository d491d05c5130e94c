/- Texts of ours, one behind the other: QOwn8. -/
import Derived.Test.YtbannlomemkjbabG9
import Derived.Laws.Externs
import Derived.Laws.EntriesVeiled
/- The landed package queue: Fork. -/
namespace Go.Proofs.Ytbannlomemkjbab
open Go.RowKit

section
variable {P : Program} (w : World)
theorem qrun_equalIn_row_nil (d : Nat) (t e : TypeId) (a : Option Addr) (l c : Nat) (h : P.underlying t = some (.slice e)) :
    (Op.equalIn (d + 1) t (.slice a l c) (.slice none 0 0)).run P w = .ok a.isNone w := by
  cases a <;> simp [Op.equalIn, run_underlying h]
theorem qrun_eql_row_nil (t e : TypeId) (a : Option Addr) (l c : Nat) (h : P.underlying t = some (.slice e)) :
    (binOp .eql t (.slice a l c) (.slice none 0 0)).run P w = .ok (.bool a.isNone) w := by
  simp only [binOp]
  simp [show Op.equal t (.slice a l c) (.slice none 0 0) = Op.equalIn (9999 + 1) t (.slice a l c) (.slice none 0 0) from rfl, qrun_equalIn_row_nil w 9999 t e a l c h]
end
theorem qowns_base {w : World} {base e sz : Nat} {v : Value} {n : Nat} {xs : List Value} (h : w.ownsRow base e sz v n xs) : w.ownsRow 0 e sz v n xs := by
  refine ⟨h.1, ?_⟩
  rcases h.2 with h2 | ⟨g, cap, cur, hv, _, r⟩
  · exact Or.inl h2
  · exact Or.inr ⟨g, cap, cur, hv, Nat.zero_le _, r⟩
theorem qempty_own (w : World) (e size : Nat) : (w.alloc (.cells #[] e)).ownsRow w.heap.size e size (.slice (some ⟨w.heap.size, 0, none⟩) 0 0) 0 [] :=
  ⟨by simp, Or.inr ⟨w.heap.size, 0, #[], rfl, Nat.le_refl _, heap_alloc_new _ _, Nat.le_refl _, Nat.zero_le _, by simp, by simp⟩⟩

set_option maxRecDepth 20000 in
set_option maxHeartbeats 1000000 in
theorem qclone_any (w : World) (v : Value) (L : List (It × Nat)) (h : w.ownsRow 0 50 3 v L.length (cellsQ L)) (hs : L.length * 32 ≤ 140737488355328) :
    Calls Try.prog 15 #[v] w fun e w' => ∃ p cap, e = .returned (.slice p L.length cap) ∧ w'.ownsRow w.heap.size 50 3 (.slice p L.length cap) L.length (cellsQ L) ∧ Below w.heap.size w w' := by
  obtain ⟨is, his, hs0, hs1, hs2⟩ := info_parts Try.info50
  rcases h.2 with ⟨rfl, h0⟩ | ⟨g, cap, cur, rfl, hb, hh, h1, h2, h3, h4⟩
  · have hL : L = [] := List.eq_nil_of_length_eq_zero h0
    subst hL
    have he : ∀ W : World, (binOp .eql 41 (.slice none 0 0) (.slice none 0 0)).run Try.prog W = .ok (.bool true) W := fun W => qrun_eql_row_nil W _ _ none 0 0 Try.underlying41
    go_enter Try.func15, Try.ntmps15
    go_wp2
    go_ret
    exact ⟨none, 0, rfl, World.ownsRow_nil _ _ _ _, Below.refl _ _⟩
  · have he : ∀ W : World, (binOp .eql 41 (.slice (some ⟨g, 0, none⟩) L.length cap) (.slice none 0 0)).run Try.prog W = .ok (.bool false) W := fun W => qrun_eql_row_nil W _ _ (some ⟨g, 0, none⟩) L.length cap Try.underlying41
    have hg := (Array.getElem?_eq_some_iff.1 hh).1
    have HN : Hid (∀ j u, (cellsQ L)[j]? = some u → (w.alloc (.cells #[] 50)).cell? ((⟨g, 0, none⟩ : Addr).add j) = some u) := fun j u hu => by
      have := h.cells (g := g) rfl j u hu
      rw [Addr.add_lit] at this ⊢
      exact (World.cell?_of_block (w := w) (Below.heap_alloc _ _ _ hg)).trans this
    have HO := hide (qempty_own w 50 3)
    have HS1 : Hid (0 + L.length ≤ maxLen) := by unfold Hid maxLen; omega
    have HS2 : Hid ((0 + L.length) * 32 ≤ 140737488355328) := by unfold Hid; omega
    clear h hs h1 h2 h3 h4 hh hb
    go_enter Try.func15, Try.ntmps15
    go_wp2_with (first
      | (with_reducible show wpList _ _ _ (Oper.mk _ (Op.call _) _ _ _ _ :: _) _ _; refine wpList_append_gen rfl _ _ 41 rfl w.heap.size 50 is (.agg #[.int .i64 0, .string ⟨#[]⟩, .int .u64 0]) Try.underlying41 his hs0 3 32 (by omega) hs1 hs2 rfl (.slice (some ⟨w.heap.size, 0, none⟩) 0 0) 0 [] rfl (unhide HO) ⟨g, 0, none⟩ L.length cap (cellsQ L) rfl (length_cellsQ L) (unhide HN) (oneCell_cellsQ L) (unhide HS1) (unhide HS2) (by simp) ?_))
    intro v' w' hown hgrow hob
    have HB := hide (((Below.refl w.heap.size w).alloc (Nat.le_refl _) (.cells #[] 50)).grown hgrow (by simp) (fun k hk => by cases hk; exact Nat.le_refl _))
    have HOW := hide hown
    have hsh : ∃ p c, v' = .slice p L.length c := by
      rcases hown.2 with ⟨h', h0⟩ | ⟨g', cap', cur, h', _⟩
      · exact ⟨none, 0, by rw [h', h0]⟩
      · exact ⟨_, _, h'⟩
    obtain ⟨p, c, rfl⟩ := hsh
    clear hown hgrow hob
    go_wp2
    go_ret
    exact ⟨p, c, rfl, unhide HOW, unhide HB⟩

set_option maxRecDepth 20000 in
set_option maxHeartbeats 1000000 in
theorem qfork_any (lt : It → It → Bool) (F : Nat → Prop) (w : World) (q n : Nat) (f : Value) (Z : List It) (h : QAt F w q f lt Z n) :
    Calls Try.prog 8 #[.pointer (some ⟨q, 0, none⟩)] w fun e w' => ∃ q' F', e = .returned (.pointer (some ⟨q', 0, none⟩)) ∧ QAt F' w' q' f lt Z n ∧ Below w.heap.size w w' ∧ ∀ k, F' k → w.heap.size ≤ k := by
  obtain ⟨hC, L, v, hL, hQ, hF⟩ := h
  obtain ⟨p, cap, rfl, k0, k1, k2⟩ := hL.shape
  obtain ⟨c0, c1, c2, fz⟩ := hL.cells
  have hql : q < w.heap.size := hL.lt q (Or.inl rfl)
  have n1 : ¬ w.heap.size = q := by omega
  have HL := hide hL
  have HQ := hide hQ
  clear hL hQ hF k0 k1 k2
  have hfv : ∃ a b c d, f = .func a b c ∨ f = .nilFunc ∧ d = 0 := by
    rcases hC.calls with ⟨rfl, _⟩ | ⟨k, rfl, _⟩
    · exact ⟨.func 0, #[], #[], (0 : Nat), Or.inr ⟨rfl, rfl⟩⟩
    · exact ⟨_, _, _, (0 : Nat), Or.inl rfl⟩
  obtain ⟨a, b, c, d, hfv⟩ := hfv
  have hb1 : Below w.heap.size w (w.alloc (.cells #[f, .slice p L.length cap, .int .u64 (n : Int)] 46)) := (Below.refl _ _).alloc (Nat.le_refl _) _
  rcases hfv with rfl | ⟨rfl, _⟩
  all_goals
    go_enter Try.func8, Try.ntmps8
    go_wp2_with fail
    refine Calls.mono (qclone_any _ _ L ((unhide HL).below hb1).row (unhide HL).small) ?_
    rintro e w2 ⟨p2, cap2, rfl, o2, b2⟩
    have hh2 := (b2.block w.heap.size (by simp)).trans (heap_alloc_new w _)
    have hs2 := b2.size
    have d1 : w2.cell? ⟨w.heap.size, 1, none⟩ = some (.slice p L.length cap) := by rw [cell_of_row w2 w.heap.size _ _ _ (0, 0) hh2]; rfl
    have f1 : w2.frozen? ⟨w.heap.size, 1, none⟩ = false := frozen_of_block hh2
    have hb2 := heap_setCell_same w2 w.heap.size 1 _ _ (.slice p2 L.length cap2) hh2
    have hne : (Value.slice p2 L.length cap2).ownBlock ≠ some w.heap.size := fun e => by have := (o2.lt _ e).1; rw [World.size_alloc] at this; omega
    have K : Keep (fun k => k = w.heap.size) w2 (w2.setCell ⟨w.heap.size, 1, none⟩ (.slice p2 L.length cap2)) := ⟨rfl, rfl, rfl, by simp [World.setCell], fun k _ hk => heap_setCell_other w2 ⟨w.heap.size, 1, none⟩ k _ (fun e => hk (by simp at e; exact e.symm ▸ rfl))⟩
    have HE : Hid (QAt (QF w.heap.size (.slice p2 L.length cap2)) (w2.setCell ⟨w.heap.size, 1, none⟩ (.slice p2 L.length cap2)) w.heap.size _ lt Z n ∧ Below w.heap.size w (w2.setCell ⟨w.heap.size, 1, none⟩ (.slice p2 L.length cap2)) ∧ ∀ k, QF w.heap.size (.slice p2 L.length cap2) k → w.heap.size ≤ k) :=
      hide ⟨⟨hC, L, _, ⟨by rw [hb2]; rfl, owns_keep (qowns_base o2) K (fun k hk e => hne (e ▸ hk)), hne, (unhide HL).small⟩, unhide HQ, fun _ => Iff.rfl⟩, (hb1.trans (b2.mono (by simp))).setCell (p := ⟨w.heap.size, 1, none⟩) (Nat.le_refl _) _, fun k hk => by
        rcases hk with hk | hk
        · omega
        · have := (o2.lt _ hk).1; rw [World.size_alloc] at this; omega⟩
    clear o2 b2 hh2 hs2 hb2 hne K
    go_wp2_with fail
    go_ret
    exact ⟨_, _, rfl, unhide HE⟩
end Go.Proofs.Ytbannlomemkjbab
