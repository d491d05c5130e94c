/- Texts of ours, one behind the other: QhOwn3, QhOwn4, QhOwn5, QhOwn6. -/
import Derived.Test.YtcjepiihknjeiaaG4
import Derived.Test.YtcjepiihknjeiaaG8
import Derived.Test.YtcjepiihknjeiaaG9
import Derived.BigQuiet
import Derived.BigRegion
import Derived.Deep.RegionHeld3
import Derived.WalkSmall
import Derived.Defers
import Derived.Recover
/- The landed package queue: the line's Push and Pop. -/
namespace Go.Proofs.Ytcjepiihknjeiaa.QH
open Go.RowKit

theorem Try.info92 : (Try.prog.info? 92).map (fun i => (i.zero, i.size, i.bytes)) = some (some (.agg #[.int .i64 0, .slice none 0 0, .int .u64 0]), 3, 40) := by kernel_rfl

/-- The last item is taken off. -/
theorem LQR.less {w : World} {q n g cap : Nat} {f : Value} {L : List (It × Nat)} (h : LQR w q f L n (.slice (some ⟨g, 0, none⟩) L.length cap)) (h0 : 0 < L.length) :
    LQR ((((w.setCell ⟨g, (L.length - 1) * 3, none⟩ (.int .i64 0)).setCell ⟨g, (L.length - 1) * 3 + 1, none⟩ (.slice none 0 0)).setCell ⟨g, (L.length - 1) * 3 + 2, none⟩ (.int .u64 0)).setCell ⟨q, 1, none⟩ (.slice (some ⟨g, 0, none⟩) (L.length - 1) cap)) q f (L.take (L.length - 1)) n (.slice (some ⟨g, 0, none⟩) (L.length - 1) cap) ∧
    Keep (QF q (.slice (some ⟨g, 0, none⟩) L.length cap)) w ((((w.setCell ⟨g, (L.length - 1) * 3, none⟩ (.int .i64 0)).setCell ⟨g, (L.length - 1) * 3 + 1, none⟩ (.slice none 0 0)).setCell ⟨g, (L.length - 1) * 3 + 2, none⟩ (.int .u64 0)).setCell ⟨q, 1, none⟩ (.slice (some ⟨g, 0, none⟩) (L.length - 1) cap)) := by
  obtain ⟨h1, k1⟩ := h.set (L.length - 1) (by omega) (Hd.zero, 0)
  have e1 : (L.set (L.length - 1) (Hd.zero, 0)).length = L.length := List.length_set ..
  rw [e1] at h1
  simp only [Int.natCast_zero, show Hd.zero.of = 0 from rfl, show Hd.zero.p = none from rfl, show Hd.zero.n = 0 from rfl, show Hd.zero.c = 0 from rfl] at h1 k1
  generalize hW : (((w.setCell ⟨g, (L.length - 1) * 3, none⟩ (.int .i64 0)).setCell ⟨g, (L.length - 1) * 3 + 1, none⟩ (.slice none 0 0)).setCell ⟨g, (L.length - 1) * 3 + 2, none⟩ (.int .u64 0)) = W at *
  have hgq : g ≠ q := fun e => h.own (by simp [Value.ownBlock, e])
  have b2 := heap_setCell_same W q 1 _ _ (.slice (some ⟨g, 0, none⟩) (L.length - 1) cap) h1.blk
  have hlen : (L.take (L.length - 1)).length = L.length - 1 := by rw [List.length_take]; omega
  have htk : L.set (L.length - 1) (Hd.zero, 0) = L.take (L.length - 1) ++ [(Hd.zero, 0)] := by
    apply List.ext_getElem
    · simp; omega
    · intro k a b
      rw [List.getElem_set]
      split
      · rename_i e; subst e; simp
      · rename_i e
        have : k < L.length - 1 := by simp at a; omega
        rw [List.getElem_append_left (by simp; omega), List.getElem_take]
  have hpop : W.ownsRow 0 92 3 (.slice (some ⟨g, 0, none⟩) (L.length - 1) cap) (L.length - 1) (cellsQ (L.take (L.length - 1))) := by
    have hr := h1.row
    rw [e1, htk, cellsQ_append] at hr
    have e2 : L.length = L.length - 1 + 1 := by omega
    rw [e2] at hr
    exact ownsRow_pop (by rw [length_cellsQ, hlen]) hr
  refine ⟨⟨?_, ?_, ?_, ?_⟩, ?_⟩
  · rw [b2]; rfl
  · rw [hlen]
    refine owns_keep (F := fun k => k = q) hpop ⟨rfl, rfl, rfl, by simp [World.setCell], fun k _ hk => heap_setCell_other W ⟨q, 1, none⟩ k _ (fun e => hk (by simp at e; exact e.symm ▸ rfl))⟩ (fun k hk e => ?_)
    simp only [Value.ownBlock, Option.some.injEq] at hk
    exact hgq (hk.trans e)
  · simpa [Value.ownBlock] using hgq
  · rw [hlen]; have := h.small; omega
  · refine (k1.weak (G := QF q (.slice (some ⟨g, 0, none⟩) L.length cap)) (fun x hx => Or.inr (by simp [Value.ownBlock, hx]))).trans (G := fun k => k = q) ⟨rfl, rfl, rfl, by simp [World.setCell], fun k _ hk => heap_setCell_other W ⟨q, 1, none⟩ k _ (fun e => hk (by simp at e; exact e.symm ▸ rfl))⟩ (fun x hx => Or.inl (Or.inl hx))

theorem LQ.less {w : World} {q n g cap : Nat} {f : Value} {L : List (It × Nat)} (h : LQ w q f L n (.slice (some ⟨g, 0, none⟩) L.length cap)) (h0 : 0 < L.length) :
    LQ ((((w.setCell ⟨g, (L.length - 1) * 3, none⟩ (.int .i64 0)).setCell ⟨g, (L.length - 1) * 3 + 1, none⟩ (.slice none 0 0)).setCell ⟨g, (L.length - 1) * 3 + 2, none⟩ (.int .u64 0)).setCell ⟨q, 1, none⟩ (.slice (some ⟨g, 0, none⟩) (L.length - 1) cap)) q f (L.take (L.length - 1)) n (.slice (some ⟨g, 0, none⟩) (L.length - 1) cap) ∧
    Keep (QF q (.slice (some ⟨g, 0, none⟩) L.length cap)) w ((((w.setCell ⟨g, (L.length - 1) * 3, none⟩ (.int .i64 0)).setCell ⟨g, (L.length - 1) * 3 + 1, none⟩ (.slice none 0 0)).setCell ⟨g, (L.length - 1) * 3 + 2, none⟩ (.int .u64 0)).setCell ⟨q, 1, none⟩ (.slice (some ⟨g, 0, none⟩) (L.length - 1) cap)) := by
  obtain ⟨r, k⟩ := h.raw.less h0
  exact ⟨⟨r, fun p hp => ⟨(h.hds p (List.mem_of_mem_take hp)).1.keep k (h.hds p (List.mem_of_mem_take hp)).2, (h.hds p (List.mem_of_mem_take hp)).2⟩⟩, k⟩

set_option maxRecDepth 20000 in
set_option maxHeartbeats 2000000 in
theorem lpop_any (w : World) (q n : Nat) (f v : Value) (L : List (It × Nat)) (h : LQ w q f L n v) (h0 : 0 < L.length) :
    Calls Try.prog 56 #[.pointer (some ⟨q, 0, none⟩)] w fun e w' => ∃ r v', e = .returned r ∧ LQ w' q f (L.take (L.length - 1)) n v' ∧ Moves (QF q v) (QF q v') w w' := by
  obtain ⟨g, cap, rfl, hgq, hgl, k1, k2, fzg, hc⟩ := h.open (by omega)
  obtain ⟨c0, c1, c2, fz⟩ := h.cells
  obtain ⟨a1, a2, a3⟩ := hc (L.length - 1) (by omega)
  have hql : q < w.heap.size := h.lt q (Or.inl rfl)
  have hsm := h.small
  have hless := h.less h0
  obtain ⟨m, hm⟩ : ∃ m, L.length = m + 1 := ⟨L.length - 1, by omega⟩
  simp only [hm, Nat.add_sub_cancel] at *
  have H := hide hless
  have hm2 : (m : Int) + 1 ≤ 140737488355328 := by omega
  have n1 : ¬ w.heap.size = q := by omega
  have n3 : ¬ w.heap.size = g := by omega
  generalize L[m] = X at *
  clear h hc c0 c2 hsm hless hm h0
  go_enter Try.func56, Try.ntmps56
  go_wp2
  go_ret
  obtain ⟨h1, h2⟩ := unhide H
  have hb : ∀ (W : World) (o : Obj), Below W.heap.size W (W.alloc o) := fun W o => (Below.refl _ W).alloc (Nat.le_refl _) _
  exact ⟨_, _, rfl, h1.below (hb _ _), h2.trans (Keep.of_below (F := fun _ => False) (hb _ _)) (fun _ h => h.elim), fun k hk => Or.inl hk⟩

/-- One item more. -/
theorem LQR.more {w W w2 : World} {q n : Nat} {f v v2 : Value} {L : List (It × Nat)} {x : It × Nat} (h : LQR w q f L n v) (hW : Below w.heap.size w W) (hs : (L.length + 1) * 40 ≤ 140737488355328)
    (hown : w2.ownsRow 0 92 3 v2 (L.length + 1) (cellsQ L ++ itC x)) (hg : W.grownBy w2 v.ownBlock) (hob : v2.ownBlock = v.ownBlock ∨ v2.ownBlock = some W.heap.size) :
    LQR (w2.setCell ⟨q, 1, none⟩ v2) q f (L ++ [x]) n v2 ∧ Moves (QF q v) (QF q v2) w (w2.setCell ⟨q, 1, none⟩ v2) := by
  have hql := h.lt q (Or.inl rfl)
  have hb2 : w2.heap[q]? = some (.cells #[f, v, .int .u64 (n : Int)] 87 (0, 0)) := (hg.block q (Nat.lt_of_lt_of_le hql hW.size) (fun e => h.own e.symm)).trans ((hW.block q hql).trans h.blk)
  have b2 := heap_setCell_same w2 q 1 _ _ v2 hb2
  have hv2 : v2.ownBlock ≠ some q := by
    rcases hob with e | e
    · rw [e]; exact h.own
    · rw [e]; intro e; simp only [Option.some.injEq] at e; have := hW.size; omega
  have K3 : Keep (fun k => k = q) w2 (w2.setCell ⟨q, 1, none⟩ v2) := ⟨rfl, rfl, rfl, by simp [World.setCell], fun k _ hk => heap_setCell_other w2 ⟨q, 1, none⟩ k _ (fun e => hk (by simp at e; exact e.symm ▸ rfl))⟩
  have K2 : Keep (QF q v) W w2 := ⟨hg.os, hg.tape, hg.output, hg.size, fun k hk hn => hg.block k hk (fun e => hn (Or.inr e.symm))⟩
  have K1 : Keep (QF q v) w w2 := (Keep.of_below hW).trans K2 (fun x hx => Or.inl hx)
  refine ⟨⟨by rw [b2]; rfl, ?_, hv2, by rw [List.length_append]; exact hs⟩, K1.trans K3 (fun x hx => Or.inl (Or.inl hx)), fun k hk => ?_⟩
  · rw [List.length_append, cellsQ_append]
    have e : cellsQ [x] = itC x := by simp [cellsQ]
    rw [e]
    exact owns_keep hown K3 (fun k hk e => hv2 (e ▸ hk))
  · rcases hk with hk | hk
    · exact Or.inl (Or.inl hk)
    · rcases hob with e | e
      · exact Or.inl (Or.inr (e ▸ hk))
      · rw [e] at hk; simp only [Option.some.injEq] at hk; exact Or.inr (by have := hW.size; omega)

theorem LQ.more {w W w2 : World} {q n : Nat} {f v v2 : Value} {L : List (It × Nat)} {x : It × Nat} (h : LQ w q f L n v) (hW : Below w.heap.size w W) (hx : HdE w x.1 ∧ ∀ k, x.1.blk k → ¬ QF q v k) (hs : (L.length + 1) * 40 ≤ 140737488355328)
    (hown : w2.ownsRow 0 92 3 v2 (L.length + 1) (cellsQ L ++ itC x)) (hg : W.grownBy w2 v.ownBlock) (hob : v2.ownBlock = v.ownBlock ∨ v2.ownBlock = some W.heap.size) :
    LQ (w2.setCell ⟨q, 1, none⟩ v2) q f (L ++ [x]) n v2 ∧ Moves (QF q v) (QF q v2) w (w2.setCell ⟨q, 1, none⟩ v2) := by
  obtain ⟨r, k⟩ := h.raw.more hW hs hown hg hob
  refine ⟨⟨r, fun p hp => ?_⟩, k⟩
  have hp2 : HdE w p.1 ∧ ∀ k, p.1.blk k → ¬ QF q v k := by
    rcases List.mem_append.1 hp with hp | hp
    · exact h.hds p hp
    · rw [List.mem_singleton.1 hp]; exact hx
  refine ⟨hp2.1.keep k.keep hp2.2, fun j hj hf => ?_⟩
  rcases k.sub j hf with h1 | h1
  · exact hp2.2 j hj h1
  · have := hp2.1.lt j hj; omega

set_option maxRecDepth 20000 in
set_option maxHeartbeats 2000000 in
theorem lpush_any (w : World) (q n a : Nat) (x : It) (f v : Value) (L : List (It × Nat)) (h : LQ w q f L n v) (hx : HdE w x ∧ ∀ k, x.blk k → ¬ QF q v k) (hs : (L.length + 1) * 40 ≤ 140737488355328) :
    Calls Try.prog 77 #[.pointer (some ⟨q, 0, none⟩), .iface 92 (.agg #[.int .i64 x.of, .slice x.p x.n x.c, .int .u64 (a : Int)])] w fun e w' => e = .returned (.tuple #[]) ∧ ∃ v', LQ w' q f (L ++ [(x, a)]) n v' ∧ Moves (QF q v) (QF q v') w w' := by
  obtain ⟨is, his, hs0, hs1, hs2⟩ := info_parts Try.info92
  obtain ⟨p, cap, rfl, k0, k1, k2⟩ := h.shape
  obtain ⟨c0, c1, c2, fz⟩ := h.cells
  have hql : q < w.heap.size := h.lt q (Or.inl rfl)
  have n1 : ¬ w.heap.size = q := by omega
  have n2 : ¬ w.heap.size + 1 = q := by omega
  have hf1 := fz 1
  have HR := hide h
  have HS := hide hs
  have HX := hide hx
  have hta : ∀ W : World, (Instr.typeAssert (.iface 92 (.agg #[.int .i64 x.of, .slice x.p x.n x.c, .int .u64 (a : Int)])) 20 92 true).run Try.prog W = .ok (.tuple #[.agg #[.int .i64 x.of, .slice x.p x.n x.c, .int .u64 (a : Int)], .bool true]) W := fun _ => by kernel_rfl
  clear h k0 k1 c0 c2 fz hs hx
  go_enter Try.func77, Try.ntmps77
  go_wp2_with fail
  go_region_law (first
    | (refine step_append_gen rfl _ _ 83 rfl 0 92 is (.agg #[.int .i64 0, .slice none 0 0, .int .u64 0]) Try.underlying83 his hs0 3 40 (by omega) hs1 hs2 rfl (.slice p L.length cap) L.length (cellsQ L) (by simp [Act.eval]) ((((unhide HR).below ((((Below.refl w.heap.size w).alloc (Nat.le_refl _) _).alloc (by simp) _).drew))).row) ⟨w.heap.size + 1, 0, none⟩ 1 (itC (x, a)) (by simp [Act.eval]) rfl (by intro j u hj; match j, hj with | 0, hj => (simp [itC] at hj; subst hj; simp [Addr.add]) | 1, hj => (simp [itC] at hj; subst hj; simp [Addr.add]) | 2, hj => (simp [itC] at hj; subst hj; simp [Addr.add])) (by intro u hu; simp [itC] at hu; rcases hu with rfl | rfl | rfl <;> rfl) (by have := unhide HS; unfold maxLen; omega) (unhide HS) (Nat.zero_le _) ?_; intro v2 w2 hown2 hgrow2 hob2; have hW : Below w.heap.size w (((w.alloc (.cells #[.int .i64 x.of, .slice x.p x.n x.c, .int .u64 (a : Int)] 92)).alloc (.cells #[.int .i64 x.of, .slice x.p x.n x.c, .int .u64 (a : Int)] 92)).drew) := ((((Below.refl w.heap.size w).alloc (Nat.le_refl _) _).alloc (by simp) _).drew); have hblk2 := (hgrow2.block q (by have := hW.size; omega) (fun e => (unhide HR).own e.symm)).trans ((hW.block q hql).trans (unhide HR).blk); have y1 := (cell_of_row w2 q 1 _ _ (0, 0) hblk2); have yf1 : w2.frozen? ⟨q, 1, none⟩ = false := (by simp [World.frozen?, hblk2]); rcases hown2.2 with ⟨_, h0⟩ | ⟨g2, cap2, cur2, e2, _⟩; (exact absurd h0 (by omega)); subst e2; have HJ := hide ((unhide HR).more (x := (x, a)) hW (unhide HX) (unhide HS) hown2 hgrow2 hob2); clear hown2 hgrow2 hob2 hW hblk2 c1 hf1))
  all_goals
    go_wp2
    go_end0
    obtain ⟨hR', hM'⟩ := unhide HJ
    exact ⟨rfl, _, hR', hM'⟩
end Go.Proofs.Ytcjepiihknjeiaa.QH

/- The library's heap over the landed package queue's line: up, down, Push, Fix. -/
namespace Go.Proofs.Ytcjepiihknjeiaa.QH
open Go.RowKit

theorem lless_at (lt : It → It → Bool) (w : World) (q n : Nat) (I J : Int) (i j : Nat) (f v : Value) (L : List (It × Nat)) (hC : LessC f lt) (h : LQ w q f L n v) (hi : i < L.length) (hj : j < L.length) (eI : I = (i : Int)) (eJ : J = (j : Int)) :
    Calls Try.prog 76 #[.pointer (some ⟨q, 0, none⟩), .int .i64 I, .int .i64 J] w fun e w' => e = .returned (.bool (bl lt L[i] L[j])) ∧ Below w.heap.size w w' := by
  subst eI; subst eJ; exact lless_any lt w q n i j f v L hC h hi hj
theorem lswap_at (w : World) (q n : Nat) (I J : Int) (i j : Nat) (f v : Value) (L : List (It × Nat)) (h : LQ w q f L n v) (hi : i < L.length) (hj : j < L.length) (eI : I = (i : Int)) (eJ : J = (j : Int)) :
    Calls Try.prog 55 #[.pointer (some ⟨q, 0, none⟩), .int .i64 I, .int .i64 J] w fun e w' => e = .returned (.tuple #[]) ∧ LQ w' q f (sw L i j hi hj) n v ∧ Keep (fun k => v.ownBlock = some k) w w' := by
  subst eI; subst eJ; exact lswap_any w q n i j f v L h hi hj

theorem m_less (q : Nat) : ∀ W : World, Sem.run Try.prog (method 223 96 (.pointer (some ⟨q, 0, none⟩)) "Less") W = .ok (76, .pointer (some ⟨q, 0, none⟩)) W := fun _ => by kernel_rfl
theorem m_swap (q : Nat) : ∀ W : World, Sem.run Try.prog (method 223 96 (.pointer (some ⟨q, 0, none⟩)) "Swap") W = .ok (55, .pointer (some ⟨q, 0, none⟩)) W := fun _ => by kernel_rfl
theorem m_len (q : Nat) : ∀ W : World, Sem.run Try.prog (method 223 96 (.pointer (some ⟨q, 0, none⟩)) "Len") W = .ok (47, .pointer (some ⟨q, 0, none⟩)) W := fun _ => by kernel_rfl
theorem m_push (q : Nat) : ∀ W : World, Sem.run Try.prog (method 223 96 (.pointer (some ⟨q, 0, none⟩)) "Push") W = .ok (77, .pointer (some ⟨q, 0, none⟩)) W := fun _ => by kernel_rfl

/-- A line whose items have been put into another order. -/
structure Mixed (w w' : World) (q n : Nat) (f v : Value) (L L' : List (It × Nat)) : Prop where
  lq : LQ w' q f L' n v
  perm : L'.Perm L
  keep : Keep (QF q v) w w'
theorem Mixed.start {w : World} {q n : Nat} {f v : Value} {L : List (It × Nat)} (h : LQ w q f L n v) : Mixed w w q n f v L L := ⟨h, List.Perm.refl _, Keep.refl _ _⟩
theorem Mixed.below {w w' w'' : World} {q n : Nat} {f v : Value} {L L' : List (It × Nat)} (h : Mixed w w' q n f v L L') (hb : Below w'.heap.size w' w'') : Mixed w w'' q n f v L L' :=
  ⟨h.lq.below hb, h.perm, h.keep.trans (Keep.of_below (F := fun _ => False) hb) (fun _ h => h.elim)⟩
theorem Mixed.swap {w w' w'' : World} {q n i j : Nat} {f v : Value} {L L' : List (It × Nat)} {hi : i < L'.length} {hj : j < L'.length} (h : Mixed w w' q n f v L L') (k : LQ w'' q f (sw L' i j hi hj) n v) (hk : Keep (fun k => v.ownBlock = some k) w' w'') : Mixed w w'' q n f v L (sw L' i j hi hj) :=
  ⟨k, (sw_perm _ _ _ _ _).trans h.perm, h.keep.trans hk (fun _ hx => Or.inl (Or.inr hx))⟩
theorem Mixed.length {w w' : World} {q n : Nat} {f v : Value} {L L' : List (It × Nat)} (h : Mixed w w' q n f v L L') : L'.length = L.length := h.perm.length_eq

set_option maxRecDepth 20000 in
set_option maxHeartbeats 2000000 in
theorem up_any (lt : It → It → Bool) (w : World) (q n j : Nat) (f v : Value) (L : List (It × Nat)) (hC : LessC f lt) (h : LQ w q f L n v) (hj : j < L.length) (hu : HeapUp (Le lt) L j) :
    Calls Try.prog 58 #[.iface 96 (.pointer (some ⟨q, 0, none⟩)), .int .i64 (j : Int)] w fun e w' => e = .returned (.tuple #[]) ∧ ∃ L', Mixed w w' q n f v L L' ∧ HeapL (Le lt) L' := by
  have hsm := h.small
  have hlen : L.length ≤ 4398046511104 := by omega
  have HLEN := hide hlen
  have hO := hC.ord
  have h0 := Mixed.start h
  clear hsm hlen h
  go_enter Try.func58, Try.ntmps58
  go_wp2_with fail
  go_loopw [1] (fun t wr => ∃ (k : Nat) (M : List (It × Nat)), t = .int .i64 (k : Int) ∧ k < L.length ∧ Mixed w wr q n f v L M ∧ HeapUp (Le lt) M k) (fun t _ => (intOf t).toNat)
  case atStart => exact ⟨j, L, rfl, hj, h0, hu⟩
  case round =>
    obtain ⟨k, M, rfl, hk, hM, hU⟩ := hrel
    have hl := hM.length
    have HM := hide hM
    have HU := hide hU
    cases k with
    | zero =>
      have hd : IntKind.i64.wrap (Int.tdiv (((0 : Nat) : Int) - 1) 2) = 0 := by decide
      clear hM hU hl h0 hu hj hk
      go_wp2_with fail
      go_end0
      exact ⟨rfl, M, unhide HM, up_end (unhide HU) (Or.inl rfl)⟩
    | succ m =>
      have hk2 : (m : Int) + 1 ≤ 4611686018427387904 := by have := unhide HLEN; omega
      have HK := hide hk
      have HL := hide hl
      have hne : ((m : Int) / 2 == (m : Int) + 1) = false := by rw [beq_eq_false_iff_ne]; omega
      clear hM hU h0 hu hj hk hl
      have mL := m_less q
      have mS := m_swap q
      go_wp2_with fail
      refine Calls.mono (lless_at lt _ q n _ _ (m + 1) (m / 2) f v M hC (unhide HM).lq (by have := unhide HK; have := unhide HL; omega) (by have := unhide HK; have := unhide HL; omega) (by omega) (by omega)) ?_
      rintro e w1 ⟨rfl, b1⟩
      have hm1 : m + 1 < M.length := by have := unhide HK; have := unhide HL; omega
      generalize hbv : bl lt M[m + 1] (M[m / 2]'(by omega)) = bv
      have HBV : Hid (∀ (a : m + 1 < M.length) (b : m / 2 < M.length), bl lt M[m + 1] M[m / 2] = bv) := hide (fun _ _ => hbv)
      have HM1 := hide ((unhide HM).below b1)
      have HH := hide hm1
      clear hbv hm1 b1
      cases bv with
      | false =>
        go_wp2_with fail
        go_end0
        refine ⟨rfl, M, unhide HM1, up_end (unhide HU) (Or.inr ⟨unhide HH, ?_⟩)⟩
        exact unhide HBV _ _
      | true =>
        go_wp2_with fail
        refine Calls.mono (lswap_at _ q n _ _ (m / 2) (m + 1) f v M (unhide HM1).lq (by have := unhide HH; omega) (unhide HH) (by omega) (by omega)) ?_
        rintro e w2 ⟨rfl, l2, k2⟩
        have HM2 := hide ((unhide HM1).swap l2 k2)
        have HS2 := hide (up_step (Le.tr hO) (unhide HH) (Nat.succ_pos m) (unhide HU) (bl_asym hO (unhide HBV _ _)))
        clear l2 k2
        go_wp2_with fail
        go_roundw
        case rel => exact ⟨m / 2, _, by go_num, by have := unhide HK; omega, unhide HM2, unhide HS2⟩
        case measure => simp [intOf]; omega
end Go.Proofs.Ytcjepiihknjeiaa.QH

/- The library's heap over the landed package queue's line: down, Push, Fix. -/
namespace Go.Proofs.Ytcjepiihknjeiaa.QH
open Go.RowKit

theorem up_zero (w : World) (q : Nat) :
    Calls Try.prog 58 #[.iface 96 (.pointer (some ⟨q, 0, none⟩)), .int .i64 0] w fun e w' => e = .returned (.tuple #[]) ∧ w' = w := by
  have hd : IntKind.i64.wrap (Int.tdiv (((0 : Nat) : Int) - 1) 2) = 0 := by decide
  go_enter Try.func58, Try.ntmps58
  go_wp2_with fail
  go_loopw [1] (fun t wr => t = .int .i64 0 ∧ wr = w) (fun _ _ => 0)
  case atStart => exact ⟨rfl, rfl⟩
  case round =>
    obtain ⟨rfl, rfl⟩ := hrel
    go_wp2_with fail
    go_end0
    exact ⟨rfl, rfl⟩

set_option maxRecDepth 20000 in
set_option maxHeartbeats 4000000 in
theorem down_any (lt : It → It → Bool) (w : World) (q n : Nat) (f v : Value) (L : List (It × Nat)) (hC : LessC f lt) (h : LQ w q f L n v) (hu : HeapDown (Le lt) L 0) :
    Calls Try.prog 59 #[.iface 96 (.pointer (some ⟨q, 0, none⟩)), .int .i64 0, .int .i64 (L.length : Int)] w fun e w' => ∃ b, e = .returned (.bool b) ∧ ∃ L', Mixed w w' q n f v L L' ∧ HeapL (Le lt) L' := by
  have hsm := h.small
  have hlen : L.length ≤ 4398046511104 := by omega
  have HLEN := hide hlen
  have hO := hC.ord
  have h0 := Mixed.start h
  have mL := m_less q
  have mS := m_swap q
  clear hsm hlen h
  go_enter Try.func59, Try.ntmps59
  go_wp2_with fail
  go_loopw [7] (fun t wr => ∃ (k : Nat) (M : List (It × Nat)), t = .int .i64 (k : Int) ∧ (k < L.length ∨ k = 0) ∧ Mixed w wr q n f v L M ∧ HeapDown (Le lt) M k) (fun t _ => L.length - (intOf t).toNat)
  case atStart => exact ⟨0, L, rfl, Or.inr rfl, h0, hu⟩
  case round =>
    obtain ⟨k, M, rfl, hk, hM, hU⟩ := hrel
    have hl := hM.length
    have HM := hide hM
    have HU := hide hU
    have HL := hide hl
    have hk2 : (k : Int) ≤ 4398046511104 := by have := unhide HLEN; omega
    have hk3 : ¬ 2 * (k : Int) + 1 < 0 := by omega
    clear hM hU h0 hu hl
    by_cases hb : L.length ≤ 2 * k + 1
    · have hbI : (L.length : Int) ≤ 2 * (k : Int) + 1 := by omega
      have HB := hide hb
      clear hb hk
      go_wp2_with fail
      go_ret
      refine ⟨?_, M, unhide HM, down_end (unhide HU) (fun c hc hc0 hp => ?_)⟩
      · show Ending.returned (Value.bool (decide (0 < k))) = _ ∨ Ending.returned (Value.bool (decide (0 < k))) = _
        cases decide (0 < k) <;> simp
      have := unhide HB
      have := unhide HL
      omega
    · have HK := hide hb
      have hbI : 2 * (k : Int) + 1 < (L.length : Int) := by omega
      by_cases hj : 2 * k + 2 < L.length
      · have hjI : 2 * (k : Int) + 2 < (L.length : Int) := by omega
        have HJ := hide hj
        clear hb hk hj
        go_wp2_with fail
        refine Calls.mono (lless_at lt _ q n _ _ (2 * k + 2) (2 * k + 1) f v M hC (unhide HM).lq (by have := unhide HJ; have := unhide HL; omega) (by have := unhide HJ; have := unhide HL; omega) (by omega) (by omega)) ?_
        rintro e w2 ⟨rfl, b2⟩
        have hj2 : 2 * k + 2 < M.length := by have := unhide HJ; have := unhide HL; omega
        generalize hbv2 : bl lt M[2 * k + 2] (M[2 * k + 1]'(by omega)) = bv2
        have HBV2 : Hid (∀ (a : 2 * k + 2 < M.length) (b : 2 * k + 1 < M.length), bl lt M[2 * k + 2] M[2 * k + 1] = bv2) := hide (fun _ _ => hbv2)
        have HM2 := hide ((unhide HM).below b2)
        have HJ2 := hide hj2
        clear hbv2 hj2 b2
        cases bv2 with
        | false =>
          have HMIN : Hid (∀ c (hc : c < M.length), 0 < c → (c - 1) / 2 = k → Le lt (M[2 * k + 1]'(by have := unhide HJ2; omega)) M[c]) := hide (fun c hc hc0 hp => by
            have hcc : c = 2 * k + 1 ∨ c = 2 * k + 2 := by omega
            rcases hcc with rfl | rfl
            · exact Le.rf hO _
            · exact unhide HBV2 _ _)
          go_wp2_with fail
          refine Calls.mono (lless_at lt _ q n _ _ (2 * k + 1) k f v M hC (unhide HM2).lq (by have := unhide HK; have := unhide HL; omega) (by have := unhide HK; have := unhide HL; omega) (by omega) (by omega)) ?_
          rintro e w3 ⟨rfl, b3⟩
          have hjj : 2 * k + 1 < M.length := by have := unhide HK; have := unhide HL; omega
          generalize hbv : bl lt M[2 * k + 1] (M[k]'(by omega)) = bv
          have HBV : Hid (∀ (a : 2 * k + 1 < M.length) (b : k < M.length), bl lt M[2 * k + 1] M[k] = bv) := hide (fun _ _ => hbv)
          have HM3 := hide ((unhide HM2).below b3)
          have HH := hide hjj
          clear hbv hjj b3
          cases bv with
          | false =>
            go_wp2_with fail
            go_ret
            refine ⟨_, rfl, M, unhide HM3, down_end (unhide HU) (fun c hc hc0 hp => ?_)⟩
            exact Le.tr hO _ _ _ (unhide HBV (unhide HH) (by have := unhide HH; omega)) (unhide HMIN c hc hc0 hp)
          | true =>
            go_wp2_with fail
            refine Calls.mono (lswap_at _ q n _ _ k (2 * k + 1) f v M (unhide HM3).lq (by have := unhide HH; omega) (unhide HH) (by omega) (by omega)) ?_
            rintro e w4 ⟨rfl, l4, k4⟩
            have HM4 := hide ((unhide HM3).swap l4 k4)
            have HS4 := hide (down_step (unhide HH) (by omega) (by omega) (unhide HU) (unhide HMIN) (bl_asym hO (unhide HBV _ _)))
            clear l4 k4
            go_wp2_with fail
            go_roundw
            case rel => exact ⟨2 * k + 1, _, by go_num, Or.inl (by have := unhide HH; have := unhide HL; omega), unhide HM4, unhide HS4⟩
            case measure => (have := unhide HK; simp [intOf]; omega)
        | true =>
          have HMIN : Hid (∀ c (hc : c < M.length), 0 < c → (c - 1) / 2 = k → Le lt (M[2 * k + 2]'(by have := unhide HJ2; omega)) M[c]) := hide (fun c hc hc0 hp => by
            have hcc : c = 2 * k + 1 ∨ c = 2 * k + 2 := by omega
            rcases hcc with rfl | rfl
            · exact bl_asym hO (unhide HBV2 _ _)
            · exact Le.rf hO _)
          have HK := HJ
          go_wp2_with fail
          refine Calls.mono (lless_at lt _ q n _ _ (2 * k + 2) k f v M hC (unhide HM2).lq (by have := unhide HK; have := unhide HL; omega) (by have := unhide HK; have := unhide HL; omega) (by omega) (by omega)) ?_
          rintro e w3 ⟨rfl, b3⟩
          have hjj : 2 * k + 2 < M.length := by have := unhide HK; have := unhide HL; omega
          generalize hbv : bl lt M[2 * k + 2] (M[k]'(by omega)) = bv
          have HBV : Hid (∀ (a : 2 * k + 2 < M.length) (b : k < M.length), bl lt M[2 * k + 2] M[k] = bv) := hide (fun _ _ => hbv)
          have HM3 := hide ((unhide HM2).below b3)
          have HH := hide hjj
          clear hbv hjj b3
          cases bv with
          | false =>
            go_wp2_with fail
            go_ret
            refine ⟨_, rfl, M, unhide HM3, down_end (unhide HU) (fun c hc hc0 hp => ?_)⟩
            exact Le.tr hO _ _ _ (unhide HBV (unhide HH) (by have := unhide HH; omega)) (unhide HMIN c hc hc0 hp)
          | true =>
            go_wp2_with fail
            refine Calls.mono (lswap_at _ q n _ _ k (2 * k + 2) f v M (unhide HM3).lq (by have := unhide HH; omega) (unhide HH) (by omega) (by omega)) ?_
            rintro e w4 ⟨rfl, l4, k4⟩
            have HM4 := hide ((unhide HM3).swap l4 k4)
            have HS4 := hide (down_step (unhide HH) (by omega) (by omega) (unhide HU) (unhide HMIN) (bl_asym hO (unhide HBV _ _)))
            clear l4 k4
            go_wp2_with fail
            go_roundw
            case rel => exact ⟨2 * k + 2, _, by go_num, Or.inl (by have := unhide HH; have := unhide HL; omega), unhide HM4, unhide HS4⟩
            case measure => (have := unhide HK; simp [intOf]; omega)
      · have hjI : (L.length : Int) ≤ 2 * (k : Int) + 2 := by omega
        have HJ := hide hj
        clear hb hk hj
        have HMIN : Hid (∀ c (hc : c < M.length), 0 < c → (c - 1) / 2 = k → Le lt (M[2 * k + 1]'(by have := unhide HK; have := unhide HL; omega)) M[c]) := hide (fun c hc hc0 hp => by
          have hcc : c = 2 * k + 1 := by have := unhide HJ; have := unhide HL; omega
          subst hcc
          exact Le.rf hO _)
        go_wp2_with fail
        refine Calls.mono (lless_at lt _ q n _ _ (2 * k + 1) k f v M hC (unhide HM).lq (by have := unhide HK; have := unhide HL; omega) (by have := unhide HK; have := unhide HL; omega) (by omega) (by omega)) ?_
        rintro e w3 ⟨rfl, b3⟩
        have hjj : 2 * k + 1 < M.length := by have := unhide HK; have := unhide HL; omega
        generalize hbv : bl lt M[2 * k + 1] (M[k]'(by omega)) = bv
        have HBV : Hid (∀ (a : 2 * k + 1 < M.length) (b : k < M.length), bl lt M[2 * k + 1] M[k] = bv) := hide (fun _ _ => hbv)
        have HM3 := hide ((unhide HM).below b3)
        have HH := hide hjj
        clear hbv hjj b3
        cases bv with
        | false =>
          go_wp2_with fail
          go_ret
          refine ⟨_, rfl, M, unhide HM3, down_end (unhide HU) (fun c hc hc0 hp => ?_)⟩
          exact Le.tr hO _ _ _ (unhide HBV (unhide HH) (by have := unhide HH; omega)) (unhide HMIN c hc hc0 hp)
        | true =>
          go_wp2_with fail
          refine Calls.mono (lswap_at _ q n _ _ k (2 * k + 1) f v M (unhide HM3).lq (by have := unhide HH; omega) (unhide HH) (by omega) (by omega)) ?_
          rintro e w4 ⟨rfl, l4, k4⟩
          have HM4 := hide ((unhide HM3).swap l4 k4)
          have HS4 := hide (down_step (unhide HH) (by omega) (by omega) (unhide HU) (unhide HMIN) (bl_asym hO (unhide HBV _ _)))
          clear l4 k4
          go_wp2_with fail
          go_roundw
          case rel => exact ⟨2 * k + 1, _, by go_num, Or.inl (by have := unhide HH; have := unhide HL; omega), unhide HM4, unhide HS4⟩
          case measure => (have := unhide HK; simp [intOf]; omega)

theorem heap_up0 {lt : It → It → Bool} {L : List (It × Nat)} (h : HeapL (Le lt) L) : HeapUp (Le lt) L 0 := ⟨fun i hi hi0 _ => h i hi hi0, fun _ _ _ _ h0 => absurd h0 (by omega)⟩

set_option maxRecDepth 20000 in
set_option maxHeartbeats 1000000 in
theorem fix_any (lt : It → It → Bool) (w : World) (q n : Nat) (f v : Value) (L : List (It × Nat)) (hC : LessC f lt) (h : LQ w q f L n v) (hu : HeapDown (Le lt) L 0) :
    Calls Try.prog 57 #[.iface 96 (.pointer (some ⟨q, 0, none⟩)), .int .i64 0] w fun e w' => e = .returned (.tuple #[]) ∧ ∃ L', Mixed w w' q n f v L L' ∧ HeapL (Le lt) L' := by
  have mN := m_len q
  go_enter Try.func57, Try.ntmps57
  go_wp2_with fail
  refine Calls.mono (llen_any _ q n f v L h) ?_
  rintro e w1 ⟨rfl, b1⟩
  have h1 := h.below b1
  have HB := hide b1
  clear b1
  go_wp2_with fail
  refine Calls.mono (down_any lt _ q n f v L hC h1 hu) ?_
  rintro e w2 ⟨b, rfl, M, m2, u2⟩
  have M2 : Mixed w w2 q n f v L M := ⟨m2.lq, m2.perm, (Keep.of_below (unhide HB)).trans m2.keep (fun _ hx => Or.inl hx)⟩
  have HM2 := hide M2
  clear m2 M2 h1
  cases b with
  | true =>
    go_wp2_with fail
    go_end0
    exact ⟨rfl, M, unhide HM2, u2⟩
  | false =>
    go_wp2_with fail
    refine Calls.mono (up_zero _ q) ?_
    rintro e w3 ⟨rfl, rfl⟩
    go_wp2_with fail
    go_end0
    exact ⟨rfl, M, unhide HM2, u2⟩

set_option maxRecDepth 20000 in
set_option maxHeartbeats 1000000 in
theorem hpush_any (lt : It → It → Bool) (w : World) (q n a : Nat) (x : It) (f v : Value) (L : List (It × Nat)) (hC : LessC f lt) (h : LQ w q f L n v) (hh : HeapL (Le lt) L) (hx : HdE w x ∧ ∀ k, x.blk k → ¬ QF q v k) (hs : (L.length + 1) * 40 ≤ 140737488355328) :
    Calls Try.prog 53 #[.iface 96 (.pointer (some ⟨q, 0, none⟩)), .iface 92 (.agg #[.int .i64 x.of, .slice x.p x.n x.c, .int .u64 (a : Int)])] w fun e w' => e = .returned (.tuple #[]) ∧ ∃ L' v', LQ w' q f L' n v' ∧ L'.Perm (L ++ [(x, a)]) ∧ HeapL (Le lt) L' ∧ Moves (QF q v) (QF q v') w w' := by
  have mN := m_len q
  have mP := m_push q
  have hb : (L.length : Int) + 1 ≤ 4611686018427387904 := by omega
  have HS := hide hs
  clear hs
  go_enter Try.func53, Try.ntmps53
  go_wp2_with fail
  refine Calls.mono (lpush_any _ q n a x f v L h hx (unhide HS)) ?_
  rintro e w1 ⟨rfl, v1, l1, m1⟩
  have HM1 := hide m1
  clear m1 h hx
  go_wp2_with fail
  refine Calls.mono (llen_any _ q n f v1 _ l1) ?_
  rintro e w2 ⟨rfl, b2⟩
  have l2 := l1.below b2
  have HB := hide b2
  have hU := up_start (R := Le lt) (x, a) hh
  have hl : (L ++ [(x, a)]).length = L.length + 1 := by simp
  rw [hl]
  clear b2 l1
  go_wp2_with fail
  refine Calls.mono (up_any lt _ q n L.length f v1 _ hC l2 (by omega) hU) ?_
  rintro e w3 ⟨rfl, M, m3, u3⟩
  have HF : Hid (LQ w3 q f M n v1 ∧ M.Perm (L ++ [(x, a)]) ∧ HeapL (Le lt) M ∧ Moves (QF q v) (QF q v1) w w3) := hide ⟨m3.lq, m3.perm, u3, (unhide HM1).trans ⟨(Keep.of_below (unhide HB)).trans m3.keep (fun _ hx => Or.inl hx), fun _ hx => Or.inl hx⟩⟩
  clear m3 u3 l2 hU
  go_wp2_with fail
  go_end0
  exact ⟨rfl, M, v1, unhide HF⟩
end Go.Proofs.Ytcjepiihknjeiaa.QH

/- The landed package queue: add and drop. -/
namespace Go.Proofs.Ytcjepiihknjeiaa.QH
open Go.RowKit

theorem LQR.tick {w : World} {q n : Nat} {f v : Value} {L : List (It × Nat)} (h : LQR w q f L n v) : LQR (w.setCell ⟨q, 2, none⟩ (.int .u64 ((n : Int) + 1))) q f L (n + 1) v ∧ Keep (fun k => k = q) w (w.setCell ⟨q, 2, none⟩ (.int .u64 ((n : Int) + 1))) := by
  have b2 := heap_setCell_same w q 2 _ _ (.int .u64 ((n : Int) + 1)) h.blk
  have K : Keep (fun k => k = q) w (w.setCell ⟨q, 2, none⟩ (.int .u64 ((n : Int) + 1))) := ⟨rfl, rfl, rfl, by simp [World.setCell], fun k _ hk => heap_setCell_other w ⟨q, 2, none⟩ k _ (fun e => hk (by simp at e; exact e.symm ▸ rfl))⟩
  refine ⟨⟨by rw [b2, Int.natCast_add]; rfl, owns_keep h.row K (fun k hk e => h.own (e ▸ hk)), h.own, h.small⟩, K⟩

theorem LQ.tick {w : World} {q n : Nat} {f v : Value} {L : List (It × Nat)} (h : LQ w q f L n v) : LQ (w.setCell ⟨q, 2, none⟩ (.int .u64 ((n : Int) + 1))) q f L (n + 1) v ∧ Keep (fun k => k = q) w (w.setCell ⟨q, 2, none⟩ (.int .u64 ((n : Int) + 1))) := by
  obtain ⟨r, k⟩ := h.raw.tick
  exact ⟨⟨r, fun p hp => ⟨(h.hds p hp).1.keep k (fun j hj e => (h.hds p hp).2 j hj (Or.inl e)), (h.hds p hp).2⟩⟩, k⟩

theorem caught_add (w : World) : CallsD Try.prog 52 #[] .returning w fun e u' w' => e = .returned (.tuple #[]) ∧ u' = .returning ∧ w' = w := by
  refine callsD_of_wpS Try.func52 rfl fun c₀ cs hu => ?_
  apply wpS_region
  simp [wpOpsS, go_sem, recoverD, hu, Try.ntmps52]
  cases c₀
  simp_all [bodyPostS, results, Try.results52]
theorem caught_drop (w : World) : CallsD Try.prog 54 #[] .returning w fun e u' w' => e = .returned (.tuple #[]) ∧ u' = .returning ∧ w' = w := by
  refine callsD_of_wpS Try.func54 rfl fun c₀ cs hu => ?_
  apply wpS_region
  simp [wpOpsS, go_sem, recoverD, hu, Try.ntmps54]
  cases c₀
  simp_all [bodyPostS, results, Try.results54]

/-- A queue in memory: its blocks F, what less it has, what it stands for, how many were pushed. -/
structure QAt (F : Nat → Prop) (w : World) (q : Nat) (f : Value) (lt : It → It → Bool) (Z : List It) (n : Nat) : Prop where
  less : LessC f lt
  all : ∃ L v, LQ w q f L n v ∧ QP lt L Z n ∧ ∀ k, F k ↔ QF q v k

set_option maxRecDepth 20000 in
set_option maxHeartbeats 1000000 in
theorem add_any (lt : It → It → Bool) (F : Nat → Prop) (w : World) (q n : Nat) (x : It) (f : Value) (Z : List It) (h : QAt F w q f lt Z n) (hx : HdE w x ∧ ∀ k, x.blk k → ¬ F k) (hs : (Z.length + 1) * 40 ≤ 140737488355328) (hn : n < 4611686018427387904) :
    Calls Try.prog 50 #[.pointer (some ⟨q, 0, none⟩), .agg #[.int .i64 x.of, .slice x.p x.n x.c]] w fun e w' => e = .returned (.tuple #[]) ∧ ∃ F', QAt F' w' q f lt (ins lt x Z) (n + 1) ∧ Moves F F' w w' := by
  obtain ⟨hC, L, v, hL, hQ, hF⟩ := h
  obtain ⟨p, cap, rfl, k0, k1, k2⟩ := hL.shape
  obtain ⟨c0, c1, c2, fz⟩ := hL.cells
  have hlen := hQ.length
  have hql : q < w.heap.size := hL.lt q (Or.inl rfl)
  have n1 : ¬ w.heap.size = q := by omega
  have n2 : ¬ w.heap.size + 1 = q := by omega
  have hnI : (n : Int) ≤ 4611686018427387904 := by omega
  have hf2 := fz 2
  have hb0 : ∀ (W : World) (a b : Obj), Below W.heap.size W ((W.alloc a).alloc b).drew := fun W a b => (((Below.refl _ _).alloc (Nat.le_refl _) _).alloc (by simp) _).drew
  obtain ⟨t1, t2⟩ := hL.tick
  have hx2 : ∀ k, x.blk k → ¬ QF q (.slice p L.length cap) k := fun k hk hf => hx.2 k hk ((hF k).2 hf)
  have H : Hid (LQ ((((w.setCell ⟨q, 2, none⟩ (.int .u64 ((n : Int) + 1))).alloc (.cells #[.int .i64 x.of, .slice x.p x.n x.c] 71)).alloc (.cells #[.int .i64 x.of, .slice x.p x.n x.c, .int .u64 (n : Int)] 92)).drew) q f L (n + 1) (.slice p L.length cap) ∧ Keep F w ((((w.setCell ⟨q, 2, none⟩ (.int .u64 ((n : Int) + 1))).alloc (.cells #[.int .i64 x.of, .slice x.p x.n x.c] 71)).alloc (.cells #[.int .i64 x.of, .slice x.p x.n x.c, .int .u64 (n : Int)] 92)).drew)) :=
    hide ⟨t1.below (hb0 _ _ _), (t2.trans (Keep.of_below (F := fun _ => False) (hb0 _ _ _)) (fun _ h => h.elim)).weak (fun k hk => (hF k).2 (Or.inl hk))⟩
  have HX : Hid (HdE ((((w.setCell ⟨q, 2, none⟩ (.int .u64 ((n : Int) + 1))).alloc (.cells #[.int .i64 x.of, .slice x.p x.n x.c] 71)).alloc (.cells #[.int .i64 x.of, .slice x.p x.n x.c, .int .u64 (n : Int)] 92)).drew) x ∧ ∀ k, x.blk k → ¬ QF q (.slice p L.length cap) k) := hide ⟨(hx.1.keep t2 (fun k hk e => hx2 k hk (Or.inl e))).below (hb0 _ _ _), hx2⟩
  clear t1 t2 hx hx2
  have HS := hide hs
  have HQ := hide hQ
  have HF := hide hF
  have HLEN := hide hlen
  clear hL hb0 hs hQ hF k0 k1 k2 c0 c1 fz hn hlen
  go_enter_defers Try.func50, Try.ntmps50
  go_wp2_with fail
  go_region
  go_wp2_with fail
  refine Calls.mono (hpush_any lt _ q (n + 1) n x f _ L hC (unhide H).1 (unhide HQ).heap (unhide HX) (by rw [unhide HLEN]; exact unhide HS)) ?_
  rintro e w1 ⟨rfl, M, v1, l1, p1, u1, m1⟩
  have HE : Hid (∃ F', QAt F' w1 q f lt (ins lt x Z) (n + 1) ∧ Moves F F' w w1) := hide ⟨QF q v1, ⟨hC, M, v1, l1, (unhide HQ).push hC.ord x p1 u1, fun _ => Iff.rfl⟩,
    ⟨(unhide H).2.trans m1.keep (fun k hk => Or.inl ((unhide HF k).2 hk)), fun k hk => by
      rcases m1.sub k hk with h | h
      · exact Or.inl ((unhide HF k).2 h)
      · exact Or.inr (Nat.le_trans (unhide H).2.size h)⟩⟩
  clear l1 p1 u1 m1
  go_wp2_with fail
  refine leaves_cons (f := 52) (args := #[]) (by simp) (by simp [go_sem]) ?_
  refine (caught_add _).mono ?_
  rintro e u' w'' ⟨rfl, rfl, rfl⟩
  simp [Leaves, settle, results, Try.results50, go_sem]
  exact unhide HE

set_option maxRecDepth 20000 in
set_option maxHeartbeats 1000000 in
theorem drop_any (lt : It → It → Bool) (F : Nat → Prop) (w : World) (q n : Nat) (z : It) (f : Value) (Z : List It) (h : QAt F w q f lt (z :: Z) n) :
    Calls Try.prog 51 #[.pointer (some ⟨q, 0, none⟩)] w fun e w' => e = .returned (.tuple #[]) ∧ ∃ F', QAt F' w' q f lt Z n ∧ Moves F F' w w' := by
  obtain ⟨hC, L, v, hL, hQ, hF⟩ := h
  have hlen := hQ.length
  have h0 : 0 < L.length := by rw [hlen]; simp
  have hsm := hL.small
  have hb : (L.length : Int) ≤ 4611686018427387904 := by omega
  have HQ := hide hQ
  have HF := hide hF
  have HLEN := hide hlen
  have HL := hide hL
  have H0 := hide h0
  clear hL hQ hF hsm hlen h0
  go_enter_defers Try.func51, Try.ntmps51
  go_wp2_with fail
  refine Calls.mono (llen_any _ q n f v L (unhide HL)) ?_
  rintro e w1 ⟨rfl, b1⟩
  have HL1 := hide ((unhide HL).below b1)
  have HB1 := hide b1
  clear b1
  go_wp2_with fail
  refine Calls.mono (lswap_at _ q n _ _ 0 (L.length - 1) f v L (unhide HL1) (unhide H0) (by have := unhide H0; omega) rfl (by have := unhide H0; omega)) ?_
  rintro e w2 ⟨rfl, l2, k2⟩
  have HL2 := hide l2
  have HK2 := hide k2
  clear l2 k2
  go_wp2_with fail
  refine Calls.mono (lpop_any _ q n f v _ (unhide HL2) (by rw [length_sw]; exact unhide H0)) ?_
  rintro e w3 ⟨r, v3, rfl, l3, m3⟩
  have l3' : LQ w3 q f (dropF L (unhide H0)) n v3 := by
    rw [length_sw] at l3
    exact l3
  have HL3 := hide l3'
  have HM3 := hide m3
  clear l3 m3 l3'
  go_wp2_with fail
  refine Calls.mono (fix_any lt _ q n f v3 _ hC (unhide HL3) (down_start (unhide HQ).heap (unhide H0))) ?_
  rintro e w4 ⟨rfl, M, m4, u4⟩
  have HE : Hid (∃ F', QAt F' w4 q f lt Z n ∧ Moves F F' w w4) := hide ⟨QF q v3, ⟨hC, M, v3, m4.lq, (unhide HQ).pop hC.ord (unhide H0) m4.perm u4, fun _ => Iff.rfl⟩, by
    have k1 : Keep F w w1 := Keep.of_below (unhide HB1)
    have k2 : Keep F w w2 := k1.trans (unhide HK2) (fun k hk => Or.inl ((unhide HF k).2 (Or.inr hk)))
    have k3 : Keep F w w3 := k2.trans (unhide HM3).keep (fun k hk => Or.inl ((unhide HF k).2 hk))
    have hsub : ∀ k, QF q v3 k → F k ∨ w.heap.size ≤ k := fun k hk => by
      rcases (unhide HM3).sub k hk with h | h
      · exact Or.inl ((unhide HF k).2 h)
      · exact Or.inr (Nat.le_trans k2.size h)
    exact ⟨k3.trans m4.keep hsub, hsub⟩⟩
  clear m4 u4
  go_wp2_with fail
  refine leaves_cons (f := 54) (args := #[]) (by simp) (by simp [go_sem]) ?_
  refine (caught_drop _).mono ?_
  rintro e u' w'' ⟨rfl, rfl, rfl⟩
  simp [Leaves, settle, results, Try.results51, go_sem]
  exact unhide HE
end Go.Proofs.Ytcjepiihknjeiaa.QH
