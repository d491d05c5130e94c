/- Texts of ours, one behind the other: QhOwn2. -/
import Derived.Test.YtcjepiihknjeiaaG8
import Derived.BigQuiet
import Derived.BigRegion
import Derived.Deep.RegionHeld3
/- The landed package queue: the line's Less. -/
namespace Go.Proofs.Ytcjepiihknjeiaa.QH
open Go.RowKit

/-- What is asked of a less: it answers as lt does, and changes nothing. -/
structure LessC (f : Value) (lt : It → It → Bool) : Prop where
  ord : Order lt
  calls : ∃ k, f = .func (.func k) #[] #[] ∧ (∀ args w, (callFunc k args).run Try.prog w = .ok (.enter k args) w) ∧
    ∀ (x y : It) (w : World), HdE w x → HdE w y → Calls Try.prog k #[itV x, itV y] w fun e w' => e = .returned (.bool (lt x y)) ∧ Below w.heap.size w w'

theorem qfive_below {w w' : World} {q a b : Nat} {f x1 x2 y1 y2 : Value} (hb : Below w.heap.size w w') (h : w.cell? ⟨q, 0, none⟩ = some f ∧ w.cell? ⟨a, 0, none⟩ = some x1 ∧ w.cell? ⟨a, 1, none⟩ = some x2 ∧ w.cell? ⟨b, 0, none⟩ = some y1 ∧ w.cell? ⟨b, 1, none⟩ = some y2) :
    w'.cell? ⟨q, 0, none⟩ = some f ∧ w'.cell? ⟨a, 0, none⟩ = some x1 ∧ w'.cell? ⟨a, 1, none⟩ = some x2 ∧ w'.cell? ⟨b, 0, none⟩ = some y1 ∧ w'.cell? ⟨b, 1, none⟩ = some y2 := by
  have hc : ∀ (p : Addr) (v : Value), w.cell? p = some v → w'.cell? p = some v := fun p v e => (hb.cell (World.block_lt_of_cell? w p e)).trans e
  exact ⟨hc _ _ h.1, hc _ _ h.2.1, hc _ _ h.2.2.1, hc _ _ h.2.2.2.1, hc _ _ h.2.2.2.2⟩

set_option maxRecDepth 20000 in
set_option maxHeartbeats 2000000 in
theorem lless_any (lt : It → It → Bool) (w : World) (q n i j : Nat) (f v : Value) (L : List (It × Nat)) (hC : LessC f lt) (h : LQ w q f L n v) (hi : i < L.length) (hj : j < L.length) :
    Calls Try.prog 76 #[.pointer (some ⟨q, 0, none⟩), .int .i64 (i : Int), .int .i64 (j : Int)] w fun e w' => e = .returned (.bool (bl lt L[i] L[j])) ∧ Below w.heap.size w w' := by
  obtain ⟨g, cap, rfl, hgq, hgl, k1, k2, fzg, hc⟩ := h.open (by omega)
  obtain ⟨c0, c1, c2, fz⟩ := h.cells
  obtain ⟨a1, a2, a3⟩ := hc i hi
  obtain ⟨b1, b2, b3⟩ := hc j hj
  have hsm := h.small
  have hdi := (h.hds _ (List.getElem_mem hi)).1
  have hdj := (h.hds _ (List.getElem_mem hj)).1
  have hil : (i : Int) < (L.length : Int) := by omega
  have hjl : (j : Int) < (L.length : Int) := by omega
  have hql : q < w.heap.size := h.lt q (Or.inl rfl)
  have n1 : ¬ w.heap.size = q := by omega
  have n2 : ¬ w.heap.size + 1 = q := by omega
  have n3 : ¬ w.heap.size = g := by omega
  have n4 : ¬ w.heap.size + 1 = g := by omega
  clear h hc k1 c2 hsm
  have hO := hC.ord
  obtain ⟨k, rfl, hk, hcall⟩ := hC.calls
  · have HD : Hid (∀ W, Below w.heap.size w W → HdE W L[i].1 ∧ HdE W L[j].1) := hide (fun W hb => ⟨hdi.below hb, hdj.below hb⟩)
    clear hdi hdj
    have he : ∀ W : World, (binOp .eql 76 (.func (.func k) #[] #[]) .nilFunc).run Try.prog W = .ok (.bool false) W := fun _ => rfl
    have HC : Hid (∀ (x y : It) (w : World), HdE w x → HdE w y → Calls Try.prog k #[.agg #[.int .i64 x.of, .slice x.p x.n x.c], .agg #[.int .i64 y.of, .slice y.p y.n y.c]] w fun e w' => e = .returned (.bool (lt x y)) ∧ Below w.heap.size w w') := hide hcall
    by_cases hat : L[i].2 < L[j].2
    · have hfin : bl lt L[i] L[j] = !lt L[j].1 L[i].1 := by unfold bl; rw [if_pos hat]
      rw [hfin]
      generalize L[i] = X at *
      generalize L[j] = Y at *
      clear hfin hC hO hcall
      go_enter Try.func76, Try.ntmps76
      go_wp2_with fail
      go_region
      · go_wp2_with fail
        have hB0 : Below w.heap.size w (((w.alloc (Obj.cells #[Value.int .i64 X.1.of, Value.slice X.1.p X.1.n X.1.c, Value.int .u64 (X.2 : Int)] 92)).alloc (Obj.cells #[Value.int .i64 Y.1.of, Value.slice Y.1.p Y.1.n Y.1.c, Value.int .u64 (Y.2 : Int)] 92)).drew) := (((Below.refl _ _).alloc (Nat.le_refl _) _).alloc (by simp) _).drew
        have d0 : (((w.alloc (Obj.cells #[Value.int .i64 X.1.of, Value.slice X.1.p X.1.n X.1.c, Value.int .u64 (X.2 : Int)] 92)).alloc (Obj.cells #[Value.int .i64 Y.1.of, Value.slice Y.1.p Y.1.n Y.1.c, Value.int .u64 (Y.2 : Int)] 92)).drew).cell? ⟨q, 0, none⟩ = some (.func (.func k) #[] #[]) := (hB0.cell (p := ⟨q, 0, none⟩) hql).trans c0
        have x1 : (((w.alloc (Obj.cells #[Value.int .i64 X.1.of, Value.slice X.1.p X.1.n X.1.c, Value.int .u64 (X.2 : Int)] 92)).alloc (Obj.cells #[Value.int .i64 Y.1.of, Value.slice Y.1.p Y.1.n Y.1.c, Value.int .u64 (Y.2 : Int)] 92)).drew).cell? ⟨w.heap.size, 0, none⟩ = some (.int .i64 X.1.of) := by simp
        have x2 : (((w.alloc (Obj.cells #[Value.int .i64 X.1.of, Value.slice X.1.p X.1.n X.1.c, Value.int .u64 (X.2 : Int)] 92)).alloc (Obj.cells #[Value.int .i64 Y.1.of, Value.slice Y.1.p Y.1.n Y.1.c, Value.int .u64 (Y.2 : Int)] 92)).drew).cell? ⟨w.heap.size, 1, none⟩ = some (.slice X.1.p X.1.n X.1.c) := by simp
        have y1 : (((w.alloc (Obj.cells #[Value.int .i64 X.1.of, Value.slice X.1.p X.1.n X.1.c, Value.int .u64 (X.2 : Int)] 92)).alloc (Obj.cells #[Value.int .i64 Y.1.of, Value.slice Y.1.p Y.1.n Y.1.c, Value.int .u64 (Y.2 : Int)] 92)).drew).cell? ⟨w.heap.size + 1, 0, none⟩ = some (.int .i64 Y.1.of) := by simp
        have y2 : (((w.alloc (Obj.cells #[Value.int .i64 X.1.of, Value.slice X.1.p X.1.n X.1.c, Value.int .u64 (X.2 : Int)] 92)).alloc (Obj.cells #[Value.int .i64 Y.1.of, Value.slice Y.1.p Y.1.n Y.1.c, Value.int .u64 (Y.2 : Int)] 92)).drew).cell? ⟨w.heap.size + 1, 1, none⟩ = some (.slice Y.1.p Y.1.n Y.1.c) := by simp
        have HB0 := hide hB0
        clear hB0
        obtain ⟨W0, hW0⟩ : ∃ W0, (((w.alloc (Obj.cells #[Value.int .i64 X.1.of, Value.slice X.1.p X.1.n X.1.c, Value.int .u64 (X.2 : Int)] 92)).alloc (Obj.cells #[Value.int .i64 Y.1.of, Value.slice Y.1.p Y.1.n Y.1.c, Value.int .u64 (Y.2 : Int)] 92)).drew) = W0 := ⟨_, rfl⟩
        rw [hW0] at HB0 d0 x1 x2 y1 y2 ⊢
        clear hW0 c0 c1 a1 a2 a3 b1 b2 b3
        have c0 := d0
        clear d0
        go_region_held3 (fun w' => w'.cell? ⟨q, 0, none⟩ = some (.func (.func k) #[] #[]) ∧ w'.cell? ⟨w.heap.size, 0, none⟩ = some (.int .i64 X.1.of) ∧ w'.cell? ⟨w.heap.size, 1, none⟩ = some (.slice X.1.p X.1.n X.1.c) ∧ w'.cell? ⟨w.heap.size + 1, 0, none⟩ = some (.int .i64 Y.1.of) ∧ w'.cell? ⟨w.heap.size + 1, 1, none⟩ = some (.slice Y.1.p Y.1.n Y.1.c)) (first | assumption | go_keep)
          (first
            | (refine Calls.mono (unhide HC Y.1 X.1 _ (unhide HD _ (by first | exact unhide HB0 | exact (unhide HB0).drew)).2 (unhide HD _ (by first | exact unhide HB0 | exact (unhide HB0).drew)).1) ?_; rintro e w1 ⟨rfl, b1⟩; have hk1 := qfive_below b1 ⟨c0, x1, x2, y1, y2⟩))
        go_wp2
        go_ret
        exact ⟨rfl, (unhide HB0).drew.trans (b1.mono (unhide HB0).size)⟩
      · go_wp2_with fail
        have hB0 : Below w.heap.size w (((w.alloc (Obj.cells #[Value.int .i64 Y.1.of, Value.slice Y.1.p Y.1.n Y.1.c, Value.int .u64 (Y.2 : Int)] 92)).alloc (Obj.cells #[Value.int .i64 X.1.of, Value.slice X.1.p X.1.n X.1.c, Value.int .u64 (X.2 : Int)] 92)).drew) := (((Below.refl _ _).alloc (Nat.le_refl _) _).alloc (by simp) _).drew
        have d0 : (((w.alloc (Obj.cells #[Value.int .i64 Y.1.of, Value.slice Y.1.p Y.1.n Y.1.c, Value.int .u64 (Y.2 : Int)] 92)).alloc (Obj.cells #[Value.int .i64 X.1.of, Value.slice X.1.p X.1.n X.1.c, Value.int .u64 (X.2 : Int)] 92)).drew).cell? ⟨q, 0, none⟩ = some (.func (.func k) #[] #[]) := (hB0.cell (p := ⟨q, 0, none⟩) hql).trans c0
        have x1 : (((w.alloc (Obj.cells #[Value.int .i64 Y.1.of, Value.slice Y.1.p Y.1.n Y.1.c, Value.int .u64 (Y.2 : Int)] 92)).alloc (Obj.cells #[Value.int .i64 X.1.of, Value.slice X.1.p X.1.n X.1.c, Value.int .u64 (X.2 : Int)] 92)).drew).cell? ⟨w.heap.size + 1, 0, none⟩ = some (.int .i64 X.1.of) := by simp
        have x2 : (((w.alloc (Obj.cells #[Value.int .i64 Y.1.of, Value.slice Y.1.p Y.1.n Y.1.c, Value.int .u64 (Y.2 : Int)] 92)).alloc (Obj.cells #[Value.int .i64 X.1.of, Value.slice X.1.p X.1.n X.1.c, Value.int .u64 (X.2 : Int)] 92)).drew).cell? ⟨w.heap.size + 1, 1, none⟩ = some (.slice X.1.p X.1.n X.1.c) := by simp
        have y1 : (((w.alloc (Obj.cells #[Value.int .i64 Y.1.of, Value.slice Y.1.p Y.1.n Y.1.c, Value.int .u64 (Y.2 : Int)] 92)).alloc (Obj.cells #[Value.int .i64 X.1.of, Value.slice X.1.p X.1.n X.1.c, Value.int .u64 (X.2 : Int)] 92)).drew).cell? ⟨w.heap.size, 0, none⟩ = some (.int .i64 Y.1.of) := by simp
        have y2 : (((w.alloc (Obj.cells #[Value.int .i64 Y.1.of, Value.slice Y.1.p Y.1.n Y.1.c, Value.int .u64 (Y.2 : Int)] 92)).alloc (Obj.cells #[Value.int .i64 X.1.of, Value.slice X.1.p X.1.n X.1.c, Value.int .u64 (X.2 : Int)] 92)).drew).cell? ⟨w.heap.size, 1, none⟩ = some (.slice Y.1.p Y.1.n Y.1.c) := by simp
        have HB0 := hide hB0
        clear hB0
        obtain ⟨W0, hW0⟩ : ∃ W0, (((w.alloc (Obj.cells #[Value.int .i64 Y.1.of, Value.slice Y.1.p Y.1.n Y.1.c, Value.int .u64 (Y.2 : Int)] 92)).alloc (Obj.cells #[Value.int .i64 X.1.of, Value.slice X.1.p X.1.n X.1.c, Value.int .u64 (X.2 : Int)] 92)).drew) = W0 := ⟨_, rfl⟩
        rw [hW0] at HB0 d0 x1 x2 y1 y2 ⊢
        clear hW0 c0 c1 a1 a2 a3 b1 b2 b3
        have c0 := d0
        clear d0
        go_region_held3 (fun w' => w'.cell? ⟨q, 0, none⟩ = some (.func (.func k) #[] #[]) ∧ w'.cell? ⟨w.heap.size + 1, 0, none⟩ = some (.int .i64 X.1.of) ∧ w'.cell? ⟨w.heap.size + 1, 1, none⟩ = some (.slice X.1.p X.1.n X.1.c) ∧ w'.cell? ⟨w.heap.size, 0, none⟩ = some (.int .i64 Y.1.of) ∧ w'.cell? ⟨w.heap.size, 1, none⟩ = some (.slice Y.1.p Y.1.n Y.1.c)) (first | assumption | go_keep)
          (first
            | (refine Calls.mono (unhide HC Y.1 X.1 _ (unhide HD _ (by first | exact unhide HB0 | exact (unhide HB0).drew)).2 (unhide HD _ (by first | exact unhide HB0 | exact (unhide HB0).drew)).1) ?_; rintro e w1 ⟨rfl, b1⟩; have hk1 := qfive_below b1 ⟨c0, x1, x2, y1, y2⟩))
        go_wp2
        go_ret
        exact ⟨rfl, (unhide HB0).drew.trans (b1.mono (unhide HB0).size)⟩
    · have hfin : bl lt L[i] L[j] = lt L[i].1 L[j].1 := by unfold bl; rw [if_neg hat]
      rw [hfin]
      generalize L[i] = X at *
      generalize L[j] = Y at *
      clear hfin hC hO hcall
      go_enter Try.func76, Try.ntmps76
      go_wp2_with fail
      go_region
      · go_wp2_with fail
        have hB0 : Below w.heap.size w (((w.alloc (Obj.cells #[Value.int .i64 X.1.of, Value.slice X.1.p X.1.n X.1.c, Value.int .u64 (X.2 : Int)] 92)).alloc (Obj.cells #[Value.int .i64 Y.1.of, Value.slice Y.1.p Y.1.n Y.1.c, Value.int .u64 (Y.2 : Int)] 92)).drew) := (((Below.refl _ _).alloc (Nat.le_refl _) _).alloc (by simp) _).drew
        have d0 : (((w.alloc (Obj.cells #[Value.int .i64 X.1.of, Value.slice X.1.p X.1.n X.1.c, Value.int .u64 (X.2 : Int)] 92)).alloc (Obj.cells #[Value.int .i64 Y.1.of, Value.slice Y.1.p Y.1.n Y.1.c, Value.int .u64 (Y.2 : Int)] 92)).drew).cell? ⟨q, 0, none⟩ = some (.func (.func k) #[] #[]) := (hB0.cell (p := ⟨q, 0, none⟩) hql).trans c0
        have x1 : (((w.alloc (Obj.cells #[Value.int .i64 X.1.of, Value.slice X.1.p X.1.n X.1.c, Value.int .u64 (X.2 : Int)] 92)).alloc (Obj.cells #[Value.int .i64 Y.1.of, Value.slice Y.1.p Y.1.n Y.1.c, Value.int .u64 (Y.2 : Int)] 92)).drew).cell? ⟨w.heap.size, 0, none⟩ = some (.int .i64 X.1.of) := by simp
        have x2 : (((w.alloc (Obj.cells #[Value.int .i64 X.1.of, Value.slice X.1.p X.1.n X.1.c, Value.int .u64 (X.2 : Int)] 92)).alloc (Obj.cells #[Value.int .i64 Y.1.of, Value.slice Y.1.p Y.1.n Y.1.c, Value.int .u64 (Y.2 : Int)] 92)).drew).cell? ⟨w.heap.size, 1, none⟩ = some (.slice X.1.p X.1.n X.1.c) := by simp
        have y1 : (((w.alloc (Obj.cells #[Value.int .i64 X.1.of, Value.slice X.1.p X.1.n X.1.c, Value.int .u64 (X.2 : Int)] 92)).alloc (Obj.cells #[Value.int .i64 Y.1.of, Value.slice Y.1.p Y.1.n Y.1.c, Value.int .u64 (Y.2 : Int)] 92)).drew).cell? ⟨w.heap.size + 1, 0, none⟩ = some (.int .i64 Y.1.of) := by simp
        have y2 : (((w.alloc (Obj.cells #[Value.int .i64 X.1.of, Value.slice X.1.p X.1.n X.1.c, Value.int .u64 (X.2 : Int)] 92)).alloc (Obj.cells #[Value.int .i64 Y.1.of, Value.slice Y.1.p Y.1.n Y.1.c, Value.int .u64 (Y.2 : Int)] 92)).drew).cell? ⟨w.heap.size + 1, 1, none⟩ = some (.slice Y.1.p Y.1.n Y.1.c) := by simp
        have HB0 := hide hB0
        clear hB0
        obtain ⟨W0, hW0⟩ : ∃ W0, (((w.alloc (Obj.cells #[Value.int .i64 X.1.of, Value.slice X.1.p X.1.n X.1.c, Value.int .u64 (X.2 : Int)] 92)).alloc (Obj.cells #[Value.int .i64 Y.1.of, Value.slice Y.1.p Y.1.n Y.1.c, Value.int .u64 (Y.2 : Int)] 92)).drew) = W0 := ⟨_, rfl⟩
        rw [hW0] at HB0 d0 x1 x2 y1 y2 ⊢
        clear hW0 c0 c1 a1 a2 a3 b1 b2 b3
        have c0 := d0
        clear d0
        go_region_held3 (fun w' => w'.cell? ⟨q, 0, none⟩ = some (.func (.func k) #[] #[]) ∧ w'.cell? ⟨w.heap.size, 0, none⟩ = some (.int .i64 X.1.of) ∧ w'.cell? ⟨w.heap.size, 1, none⟩ = some (.slice X.1.p X.1.n X.1.c) ∧ w'.cell? ⟨w.heap.size + 1, 0, none⟩ = some (.int .i64 Y.1.of) ∧ w'.cell? ⟨w.heap.size + 1, 1, none⟩ = some (.slice Y.1.p Y.1.n Y.1.c)) (first | assumption | go_keep)
          (first
            | (refine Calls.mono (unhide HC X.1 Y.1 _ (unhide HD _ (by first | exact unhide HB0 | exact (unhide HB0).drew)).1 (unhide HD _ (by first | exact unhide HB0 | exact (unhide HB0).drew)).2) ?_; rintro e w1 ⟨rfl, b1⟩; have hk1 := qfive_below b1 ⟨c0, x1, x2, y1, y2⟩))
        go_wp2
        go_ret
        exact ⟨rfl, (unhide HB0).drew.trans (b1.mono (unhide HB0).size)⟩
      · go_wp2_with fail
        have hB0 : Below w.heap.size w (((w.alloc (Obj.cells #[Value.int .i64 Y.1.of, Value.slice Y.1.p Y.1.n Y.1.c, Value.int .u64 (Y.2 : Int)] 92)).alloc (Obj.cells #[Value.int .i64 X.1.of, Value.slice X.1.p X.1.n X.1.c, Value.int .u64 (X.2 : Int)] 92)).drew) := (((Below.refl _ _).alloc (Nat.le_refl _) _).alloc (by simp) _).drew
        have d0 : (((w.alloc (Obj.cells #[Value.int .i64 Y.1.of, Value.slice Y.1.p Y.1.n Y.1.c, Value.int .u64 (Y.2 : Int)] 92)).alloc (Obj.cells #[Value.int .i64 X.1.of, Value.slice X.1.p X.1.n X.1.c, Value.int .u64 (X.2 : Int)] 92)).drew).cell? ⟨q, 0, none⟩ = some (.func (.func k) #[] #[]) := (hB0.cell (p := ⟨q, 0, none⟩) hql).trans c0
        have x1 : (((w.alloc (Obj.cells #[Value.int .i64 Y.1.of, Value.slice Y.1.p Y.1.n Y.1.c, Value.int .u64 (Y.2 : Int)] 92)).alloc (Obj.cells #[Value.int .i64 X.1.of, Value.slice X.1.p X.1.n X.1.c, Value.int .u64 (X.2 : Int)] 92)).drew).cell? ⟨w.heap.size + 1, 0, none⟩ = some (.int .i64 X.1.of) := by simp
        have x2 : (((w.alloc (Obj.cells #[Value.int .i64 Y.1.of, Value.slice Y.1.p Y.1.n Y.1.c, Value.int .u64 (Y.2 : Int)] 92)).alloc (Obj.cells #[Value.int .i64 X.1.of, Value.slice X.1.p X.1.n X.1.c, Value.int .u64 (X.2 : Int)] 92)).drew).cell? ⟨w.heap.size + 1, 1, none⟩ = some (.slice X.1.p X.1.n X.1.c) := by simp
        have y1 : (((w.alloc (Obj.cells #[Value.int .i64 Y.1.of, Value.slice Y.1.p Y.1.n Y.1.c, Value.int .u64 (Y.2 : Int)] 92)).alloc (Obj.cells #[Value.int .i64 X.1.of, Value.slice X.1.p X.1.n X.1.c, Value.int .u64 (X.2 : Int)] 92)).drew).cell? ⟨w.heap.size, 0, none⟩ = some (.int .i64 Y.1.of) := by simp
        have y2 : (((w.alloc (Obj.cells #[Value.int .i64 Y.1.of, Value.slice Y.1.p Y.1.n Y.1.c, Value.int .u64 (Y.2 : Int)] 92)).alloc (Obj.cells #[Value.int .i64 X.1.of, Value.slice X.1.p X.1.n X.1.c, Value.int .u64 (X.2 : Int)] 92)).drew).cell? ⟨w.heap.size, 1, none⟩ = some (.slice Y.1.p Y.1.n Y.1.c) := by simp
        have HB0 := hide hB0
        clear hB0
        obtain ⟨W0, hW0⟩ : ∃ W0, (((w.alloc (Obj.cells #[Value.int .i64 Y.1.of, Value.slice Y.1.p Y.1.n Y.1.c, Value.int .u64 (Y.2 : Int)] 92)).alloc (Obj.cells #[Value.int .i64 X.1.of, Value.slice X.1.p X.1.n X.1.c, Value.int .u64 (X.2 : Int)] 92)).drew) = W0 := ⟨_, rfl⟩
        rw [hW0] at HB0 d0 x1 x2 y1 y2 ⊢
        clear hW0 c0 c1 a1 a2 a3 b1 b2 b3
        have c0 := d0
        clear d0
        go_region_held3 (fun w' => w'.cell? ⟨q, 0, none⟩ = some (.func (.func k) #[] #[]) ∧ w'.cell? ⟨w.heap.size + 1, 0, none⟩ = some (.int .i64 X.1.of) ∧ w'.cell? ⟨w.heap.size + 1, 1, none⟩ = some (.slice X.1.p X.1.n X.1.c) ∧ w'.cell? ⟨w.heap.size, 0, none⟩ = some (.int .i64 Y.1.of) ∧ w'.cell? ⟨w.heap.size, 1, none⟩ = some (.slice Y.1.p Y.1.n Y.1.c)) (first | assumption | go_keep)
          (first
            | (refine Calls.mono (unhide HC X.1 Y.1 _ (unhide HD _ (by first | exact unhide HB0 | exact (unhide HB0).drew)).1 (unhide HD _ (by first | exact unhide HB0 | exact (unhide HB0).drew)).2) ?_; rintro e w1 ⟨rfl, b1⟩; have hk1 := qfive_below b1 ⟨c0, x1, x2, y1, y2⟩))
        go_wp2
        go_ret
        exact ⟨rfl, (unhide HB0).drew.trans (b1.mono (unhide HB0).size)⟩
end Go.Proofs.Ytcjepiihknjeiaa.QH
