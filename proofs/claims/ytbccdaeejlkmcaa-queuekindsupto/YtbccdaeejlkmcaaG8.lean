/- Texts of ours, one behind the other: QOwn2, Q1Own2, Q2Own2. -/
import Derived.Test.YtbccdaeejlkmcaaG6
import Derived.BigQuiet
import Derived.BigRegion
import Derived.Deep.RegionHeld3
/- The landed package queue: the line's Less. -/
namespace Go.Proofs.Ytbccdaeejlkmcaa
open Go.RowKit

/-- What is asked of a less: it answers as lt does, and changes nothing. -/
structure LessC (f : Value) (lt : It → It → Bool) : Prop where
  ord : Order lt
  calls : (f = .nilFunc ∧ ∀ a b, lt a b = false) ∨ ∃ k, f = .func (.func k) #[] #[] ∧ (∀ args w, (callFunc k args).run Try.prog w = .ok (.enter k args) w) ∧
    ∀ (x y : It) (w : World), Calls Try.prog k #[itV x, itV y] w fun e w' => e = .returned (.bool (lt x y)) ∧ Below w.heap.size w w'

theorem qfive_below {w w' : World} {q a b : Nat} {f x1 x2 y1 y2 : Value} (hb : Below w.heap.size w w') (h : w.cell? ⟨q, 0, none⟩ = some f ∧ w.cell? ⟨a, 0, none⟩ = some x1 ∧ w.cell? ⟨a, 1, none⟩ = some x2 ∧ w.cell? ⟨b, 0, none⟩ = some y1 ∧ w.cell? ⟨b, 1, none⟩ = some y2) :
    w'.cell? ⟨q, 0, none⟩ = some f ∧ w'.cell? ⟨a, 0, none⟩ = some x1 ∧ w'.cell? ⟨a, 1, none⟩ = some x2 ∧ w'.cell? ⟨b, 0, none⟩ = some y1 ∧ w'.cell? ⟨b, 1, none⟩ = some y2 := by
  have hc : ∀ (p : Addr) (v : Value), w.cell? p = some v → w'.cell? p = some v := fun p v e => (hb.cell (World.block_lt_of_cell? w p e)).trans e
  exact ⟨hc _ _ h.1, hc _ _ h.2.1, hc _ _ h.2.2.1, hc _ _ h.2.2.2.1, hc _ _ h.2.2.2.2⟩

set_option maxRecDepth 20000 in
set_option maxHeartbeats 2000000 in
theorem lless_any (lt : It → It → Bool) (w : World) (q n i j : Nat) (f v : Value) (L : List (It × Nat)) (hC : LessC f lt) (h : LQ w q f L n v) (hi : i < L.length) (hj : j < L.length) :
    Calls Try.prog 68 #[.pointer (some ⟨q, 0, none⟩), .int .i64 (i : Int), .int .i64 (j : Int)] w fun e w' => e = .returned (.bool (bl lt L[i] L[j])) ∧ Below w.heap.size w w' := by
  obtain ⟨g, cap, rfl, hgq, hgl, k1, k2, fzg, hc⟩ := h.open (by omega)
  obtain ⟨c0, c1, c2, fz⟩ := h.cells
  obtain ⟨a1, a2, a3⟩ := hc i hi
  obtain ⟨b1, b2, b3⟩ := hc j hj
  have hsm := h.small
  have hil : (i : Int) < (L.length : Int) := by omega
  have hjl : (j : Int) < (L.length : Int) := by omega
  have hql : q < w.heap.size := h.lt q (Or.inl rfl)
  have n1 : ¬ w.heap.size = q := by omega
  have n2 : ¬ w.heap.size + 1 = q := by omega
  have n3 : ¬ w.heap.size = g := by omega
  have n4 : ¬ w.heap.size + 1 = g := by omega
  clear h hc k1 c2 hsm
  have hO := hC.ord
  rcases hC.calls with ⟨rfl, hlt⟩ | ⟨k, rfl, hk, hcall⟩
  · have he : ∀ W : World, (binOp .eql 58 .nilFunc .nilFunc).run Try.prog W = .ok (.bool true) W := fun _ => rfl
    have hfin : bl lt L[i] L[j] = decide (L[i].2 < L[j].2) := by
      unfold bl
      by_cases h : L[i].2 < L[j].2
      · rw [if_pos h, hlt, decide_eq_true h]; rfl
      · rw [if_neg h, hlt, decide_eq_false h]
    rw [hfin]
    generalize L[i] = X at *
    generalize L[j] = Y at *
    clear hfin hC hO hlt
    go_enter Try.func68, Try.ntmps68
    go_wp2_with fail
    go_region
    all_goals go_wp2
    all_goals go_ret
    all_goals exact ⟨rfl, (((Below.refl _ _).alloc (Nat.le_refl _) _).alloc (by simp) _).drew⟩
  · have he : ∀ W : World, (binOp .eql 58 (.func (.func k) #[] #[]) .nilFunc).run Try.prog W = .ok (.bool false) W := fun _ => rfl
    have HC : Hid (∀ (x y : It) (w : World), Calls Try.prog k #[.agg #[.int .i64 x.1, .string x.2], .agg #[.int .i64 y.1, .string y.2]] w fun e w' => e = .returned (.bool (lt x y)) ∧ Below w.heap.size w w') := hide hcall
    by_cases hat : L[i].2 < L[j].2
    · have hfin : bl lt L[i] L[j] = !lt L[j].1 L[i].1 := by unfold bl; rw [if_pos hat]
      rw [hfin]
      generalize L[i] = X at *
      generalize L[j] = Y at *
      clear hfin hC hO hcall
      go_enter Try.func68, Try.ntmps68
      go_wp2_with fail
      go_region
      · go_wp2_with fail
        have hB0 : Below w.heap.size w (((w.alloc (Obj.cells #[Value.int .i64 X.1.1, Value.string X.1.2, Value.int .u64 (X.2 : Int)] 77)).alloc (Obj.cells #[Value.int .i64 Y.1.1, Value.string Y.1.2, Value.int .u64 (Y.2 : Int)] 77)).drew) := (((Below.refl _ _).alloc (Nat.le_refl _) _).alloc (by simp) _).drew
        have d0 : (((w.alloc (Obj.cells #[Value.int .i64 X.1.1, Value.string X.1.2, Value.int .u64 (X.2 : Int)] 77)).alloc (Obj.cells #[Value.int .i64 Y.1.1, Value.string Y.1.2, Value.int .u64 (Y.2 : Int)] 77)).drew).cell? ⟨q, 0, none⟩ = some (.func (.func k) #[] #[]) := (hB0.cell (p := ⟨q, 0, none⟩) hql).trans c0
        have x1 : (((w.alloc (Obj.cells #[Value.int .i64 X.1.1, Value.string X.1.2, Value.int .u64 (X.2 : Int)] 77)).alloc (Obj.cells #[Value.int .i64 Y.1.1, Value.string Y.1.2, Value.int .u64 (Y.2 : Int)] 77)).drew).cell? ⟨w.heap.size, 0, none⟩ = some (.int .i64 X.1.1) := by simp
        have x2 : (((w.alloc (Obj.cells #[Value.int .i64 X.1.1, Value.string X.1.2, Value.int .u64 (X.2 : Int)] 77)).alloc (Obj.cells #[Value.int .i64 Y.1.1, Value.string Y.1.2, Value.int .u64 (Y.2 : Int)] 77)).drew).cell? ⟨w.heap.size, 1, none⟩ = some (.string X.1.2) := by simp
        have y1 : (((w.alloc (Obj.cells #[Value.int .i64 X.1.1, Value.string X.1.2, Value.int .u64 (X.2 : Int)] 77)).alloc (Obj.cells #[Value.int .i64 Y.1.1, Value.string Y.1.2, Value.int .u64 (Y.2 : Int)] 77)).drew).cell? ⟨w.heap.size + 1, 0, none⟩ = some (.int .i64 Y.1.1) := by simp
        have y2 : (((w.alloc (Obj.cells #[Value.int .i64 X.1.1, Value.string X.1.2, Value.int .u64 (X.2 : Int)] 77)).alloc (Obj.cells #[Value.int .i64 Y.1.1, Value.string Y.1.2, Value.int .u64 (Y.2 : Int)] 77)).drew).cell? ⟨w.heap.size + 1, 1, none⟩ = some (.string Y.1.2) := by simp
        have HB0 := hide hB0
        clear hB0
        obtain ⟨W0, hW0⟩ : ∃ W0, (((w.alloc (Obj.cells #[Value.int .i64 X.1.1, Value.string X.1.2, Value.int .u64 (X.2 : Int)] 77)).alloc (Obj.cells #[Value.int .i64 Y.1.1, Value.string Y.1.2, Value.int .u64 (Y.2 : Int)] 77)).drew) = W0 := ⟨_, rfl⟩
        rw [hW0] at HB0 d0 x1 x2 y1 y2 ⊢
        clear hW0 c0 c1 a1 a2 a3 b1 b2 b3
        have c0 := d0
        clear d0
        go_region_held3 (fun w' => w'.cell? ⟨q, 0, none⟩ = some (.func (.func k) #[] #[]) ∧ w'.cell? ⟨w.heap.size, 0, none⟩ = some (.int .i64 X.1.1) ∧ w'.cell? ⟨w.heap.size, 1, none⟩ = some (.string X.1.2) ∧ w'.cell? ⟨w.heap.size + 1, 0, none⟩ = some (.int .i64 Y.1.1) ∧ w'.cell? ⟨w.heap.size + 1, 1, none⟩ = some (.string Y.1.2)) (first | assumption | go_keep)
          (first
            | (refine Calls.mono (unhide HC Y.1 X.1 _) ?_; rintro e w1 ⟨rfl, b1⟩; have hk1 := qfive_below b1 ⟨c0, x1, x2, y1, y2⟩))
        go_wp2
        go_ret
        exact ⟨rfl, (unhide HB0).drew.trans (b1.mono (unhide HB0).size)⟩
      · go_wp2_with fail
        have hB0 : Below w.heap.size w (((w.alloc (Obj.cells #[Value.int .i64 Y.1.1, Value.string Y.1.2, Value.int .u64 (Y.2 : Int)] 77)).alloc (Obj.cells #[Value.int .i64 X.1.1, Value.string X.1.2, Value.int .u64 (X.2 : Int)] 77)).drew) := (((Below.refl _ _).alloc (Nat.le_refl _) _).alloc (by simp) _).drew
        have d0 : (((w.alloc (Obj.cells #[Value.int .i64 Y.1.1, Value.string Y.1.2, Value.int .u64 (Y.2 : Int)] 77)).alloc (Obj.cells #[Value.int .i64 X.1.1, Value.string X.1.2, Value.int .u64 (X.2 : Int)] 77)).drew).cell? ⟨q, 0, none⟩ = some (.func (.func k) #[] #[]) := (hB0.cell (p := ⟨q, 0, none⟩) hql).trans c0
        have x1 : (((w.alloc (Obj.cells #[Value.int .i64 Y.1.1, Value.string Y.1.2, Value.int .u64 (Y.2 : Int)] 77)).alloc (Obj.cells #[Value.int .i64 X.1.1, Value.string X.1.2, Value.int .u64 (X.2 : Int)] 77)).drew).cell? ⟨w.heap.size + 1, 0, none⟩ = some (.int .i64 X.1.1) := by simp
        have x2 : (((w.alloc (Obj.cells #[Value.int .i64 Y.1.1, Value.string Y.1.2, Value.int .u64 (Y.2 : Int)] 77)).alloc (Obj.cells #[Value.int .i64 X.1.1, Value.string X.1.2, Value.int .u64 (X.2 : Int)] 77)).drew).cell? ⟨w.heap.size + 1, 1, none⟩ = some (.string X.1.2) := by simp
        have y1 : (((w.alloc (Obj.cells #[Value.int .i64 Y.1.1, Value.string Y.1.2, Value.int .u64 (Y.2 : Int)] 77)).alloc (Obj.cells #[Value.int .i64 X.1.1, Value.string X.1.2, Value.int .u64 (X.2 : Int)] 77)).drew).cell? ⟨w.heap.size, 0, none⟩ = some (.int .i64 Y.1.1) := by simp
        have y2 : (((w.alloc (Obj.cells #[Value.int .i64 Y.1.1, Value.string Y.1.2, Value.int .u64 (Y.2 : Int)] 77)).alloc (Obj.cells #[Value.int .i64 X.1.1, Value.string X.1.2, Value.int .u64 (X.2 : Int)] 77)).drew).cell? ⟨w.heap.size, 1, none⟩ = some (.string Y.1.2) := by simp
        have HB0 := hide hB0
        clear hB0
        obtain ⟨W0, hW0⟩ : ∃ W0, (((w.alloc (Obj.cells #[Value.int .i64 Y.1.1, Value.string Y.1.2, Value.int .u64 (Y.2 : Int)] 77)).alloc (Obj.cells #[Value.int .i64 X.1.1, Value.string X.1.2, Value.int .u64 (X.2 : Int)] 77)).drew) = W0 := ⟨_, rfl⟩
        rw [hW0] at HB0 d0 x1 x2 y1 y2 ⊢
        clear hW0 c0 c1 a1 a2 a3 b1 b2 b3
        have c0 := d0
        clear d0
        go_region_held3 (fun w' => w'.cell? ⟨q, 0, none⟩ = some (.func (.func k) #[] #[]) ∧ w'.cell? ⟨w.heap.size + 1, 0, none⟩ = some (.int .i64 X.1.1) ∧ w'.cell? ⟨w.heap.size + 1, 1, none⟩ = some (.string X.1.2) ∧ w'.cell? ⟨w.heap.size, 0, none⟩ = some (.int .i64 Y.1.1) ∧ w'.cell? ⟨w.heap.size, 1, none⟩ = some (.string Y.1.2)) (first | assumption | go_keep)
          (first
            | (refine Calls.mono (unhide HC Y.1 X.1 _) ?_; rintro e w1 ⟨rfl, b1⟩; have hk1 := qfive_below b1 ⟨c0, x1, x2, y1, y2⟩))
        go_wp2
        go_ret
        exact ⟨rfl, (unhide HB0).drew.trans (b1.mono (unhide HB0).size)⟩
    · have hfin : bl lt L[i] L[j] = lt L[i].1 L[j].1 := by unfold bl; rw [if_neg hat]
      rw [hfin]
      generalize L[i] = X at *
      generalize L[j] = Y at *
      clear hfin hC hO hcall
      go_enter Try.func68, Try.ntmps68
      go_wp2_with fail
      go_region
      · go_wp2_with fail
        have hB0 : Below w.heap.size w (((w.alloc (Obj.cells #[Value.int .i64 X.1.1, Value.string X.1.2, Value.int .u64 (X.2 : Int)] 77)).alloc (Obj.cells #[Value.int .i64 Y.1.1, Value.string Y.1.2, Value.int .u64 (Y.2 : Int)] 77)).drew) := (((Below.refl _ _).alloc (Nat.le_refl _) _).alloc (by simp) _).drew
        have d0 : (((w.alloc (Obj.cells #[Value.int .i64 X.1.1, Value.string X.1.2, Value.int .u64 (X.2 : Int)] 77)).alloc (Obj.cells #[Value.int .i64 Y.1.1, Value.string Y.1.2, Value.int .u64 (Y.2 : Int)] 77)).drew).cell? ⟨q, 0, none⟩ = some (.func (.func k) #[] #[]) := (hB0.cell (p := ⟨q, 0, none⟩) hql).trans c0
        have x1 : (((w.alloc (Obj.cells #[Value.int .i64 X.1.1, Value.string X.1.2, Value.int .u64 (X.2 : Int)] 77)).alloc (Obj.cells #[Value.int .i64 Y.1.1, Value.string Y.1.2, Value.int .u64 (Y.2 : Int)] 77)).drew).cell? ⟨w.heap.size, 0, none⟩ = some (.int .i64 X.1.1) := by simp
        have x2 : (((w.alloc (Obj.cells #[Value.int .i64 X.1.1, Value.string X.1.2, Value.int .u64 (X.2 : Int)] 77)).alloc (Obj.cells #[Value.int .i64 Y.1.1, Value.string Y.1.2, Value.int .u64 (Y.2 : Int)] 77)).drew).cell? ⟨w.heap.size, 1, none⟩ = some (.string X.1.2) := by simp
        have y1 : (((w.alloc (Obj.cells #[Value.int .i64 X.1.1, Value.string X.1.2, Value.int .u64 (X.2 : Int)] 77)).alloc (Obj.cells #[Value.int .i64 Y.1.1, Value.string Y.1.2, Value.int .u64 (Y.2 : Int)] 77)).drew).cell? ⟨w.heap.size + 1, 0, none⟩ = some (.int .i64 Y.1.1) := by simp
        have y2 : (((w.alloc (Obj.cells #[Value.int .i64 X.1.1, Value.string X.1.2, Value.int .u64 (X.2 : Int)] 77)).alloc (Obj.cells #[Value.int .i64 Y.1.1, Value.string Y.1.2, Value.int .u64 (Y.2 : Int)] 77)).drew).cell? ⟨w.heap.size + 1, 1, none⟩ = some (.string Y.1.2) := by simp
        have HB0 := hide hB0
        clear hB0
        obtain ⟨W0, hW0⟩ : ∃ W0, (((w.alloc (Obj.cells #[Value.int .i64 X.1.1, Value.string X.1.2, Value.int .u64 (X.2 : Int)] 77)).alloc (Obj.cells #[Value.int .i64 Y.1.1, Value.string Y.1.2, Value.int .u64 (Y.2 : Int)] 77)).drew) = W0 := ⟨_, rfl⟩
        rw [hW0] at HB0 d0 x1 x2 y1 y2 ⊢
        clear hW0 c0 c1 a1 a2 a3 b1 b2 b3
        have c0 := d0
        clear d0
        go_region_held3 (fun w' => w'.cell? ⟨q, 0, none⟩ = some (.func (.func k) #[] #[]) ∧ w'.cell? ⟨w.heap.size, 0, none⟩ = some (.int .i64 X.1.1) ∧ w'.cell? ⟨w.heap.size, 1, none⟩ = some (.string X.1.2) ∧ w'.cell? ⟨w.heap.size + 1, 0, none⟩ = some (.int .i64 Y.1.1) ∧ w'.cell? ⟨w.heap.size + 1, 1, none⟩ = some (.string Y.1.2)) (first | assumption | go_keep)
          (first
            | (refine Calls.mono (unhide HC X.1 Y.1 _) ?_; rintro e w1 ⟨rfl, b1⟩; have hk1 := qfive_below b1 ⟨c0, x1, x2, y1, y2⟩))
        go_wp2
        go_ret
        exact ⟨rfl, (unhide HB0).drew.trans (b1.mono (unhide HB0).size)⟩
      · go_wp2_with fail
        have hB0 : Below w.heap.size w (((w.alloc (Obj.cells #[Value.int .i64 Y.1.1, Value.string Y.1.2, Value.int .u64 (Y.2 : Int)] 77)).alloc (Obj.cells #[Value.int .i64 X.1.1, Value.string X.1.2, Value.int .u64 (X.2 : Int)] 77)).drew) := (((Below.refl _ _).alloc (Nat.le_refl _) _).alloc (by simp) _).drew
        have d0 : (((w.alloc (Obj.cells #[Value.int .i64 Y.1.1, Value.string Y.1.2, Value.int .u64 (Y.2 : Int)] 77)).alloc (Obj.cells #[Value.int .i64 X.1.1, Value.string X.1.2, Value.int .u64 (X.2 : Int)] 77)).drew).cell? ⟨q, 0, none⟩ = some (.func (.func k) #[] #[]) := (hB0.cell (p := ⟨q, 0, none⟩) hql).trans c0
        have x1 : (((w.alloc (Obj.cells #[Value.int .i64 Y.1.1, Value.string Y.1.2, Value.int .u64 (Y.2 : Int)] 77)).alloc (Obj.cells #[Value.int .i64 X.1.1, Value.string X.1.2, Value.int .u64 (X.2 : Int)] 77)).drew).cell? ⟨w.heap.size + 1, 0, none⟩ = some (.int .i64 X.1.1) := by simp
        have x2 : (((w.alloc (Obj.cells #[Value.int .i64 Y.1.1, Value.string Y.1.2, Value.int .u64 (Y.2 : Int)] 77)).alloc (Obj.cells #[Value.int .i64 X.1.1, Value.string X.1.2, Value.int .u64 (X.2 : Int)] 77)).drew).cell? ⟨w.heap.size + 1, 1, none⟩ = some (.string X.1.2) := by simp
        have y1 : (((w.alloc (Obj.cells #[Value.int .i64 Y.1.1, Value.string Y.1.2, Value.int .u64 (Y.2 : Int)] 77)).alloc (Obj.cells #[Value.int .i64 X.1.1, Value.string X.1.2, Value.int .u64 (X.2 : Int)] 77)).drew).cell? ⟨w.heap.size, 0, none⟩ = some (.int .i64 Y.1.1) := by simp
        have y2 : (((w.alloc (Obj.cells #[Value.int .i64 Y.1.1, Value.string Y.1.2, Value.int .u64 (Y.2 : Int)] 77)).alloc (Obj.cells #[Value.int .i64 X.1.1, Value.string X.1.2, Value.int .u64 (X.2 : Int)] 77)).drew).cell? ⟨w.heap.size, 1, none⟩ = some (.string Y.1.2) := by simp
        have HB0 := hide hB0
        clear hB0
        obtain ⟨W0, hW0⟩ : ∃ W0, (((w.alloc (Obj.cells #[Value.int .i64 Y.1.1, Value.string Y.1.2, Value.int .u64 (Y.2 : Int)] 77)).alloc (Obj.cells #[Value.int .i64 X.1.1, Value.string X.1.2, Value.int .u64 (X.2 : Int)] 77)).drew) = W0 := ⟨_, rfl⟩
        rw [hW0] at HB0 d0 x1 x2 y1 y2 ⊢
        clear hW0 c0 c1 a1 a2 a3 b1 b2 b3
        have c0 := d0
        clear d0
        go_region_held3 (fun w' => w'.cell? ⟨q, 0, none⟩ = some (.func (.func k) #[] #[]) ∧ w'.cell? ⟨w.heap.size + 1, 0, none⟩ = some (.int .i64 X.1.1) ∧ w'.cell? ⟨w.heap.size + 1, 1, none⟩ = some (.string X.1.2) ∧ w'.cell? ⟨w.heap.size, 0, none⟩ = some (.int .i64 Y.1.1) ∧ w'.cell? ⟨w.heap.size, 1, none⟩ = some (.string Y.1.2)) (first | assumption | go_keep)
          (first
            | (refine Calls.mono (unhide HC X.1 Y.1 _) ?_; rintro e w1 ⟨rfl, b1⟩; have hk1 := qfive_below b1 ⟨c0, x1, x2, y1, y2⟩))
        go_wp2
        go_ret
        exact ⟨rfl, (unhide HB0).drew.trans (b1.mono (unhide HB0).size)⟩
end Go.Proofs.Ytbccdaeejlkmcaa

/- The landed package queue: the line's Less. -/
namespace Go.Proofs.Ytbccdaeejlkmcaa.K1
open Go.RowKit

/-- What is asked of a less: it answers as lt does, and changes nothing. -/
structure LessC (f : Value) (lt : It → It → Bool) : Prop where
  ord : Order lt
  calls : (f = .nilFunc ∧ ∀ a b, lt a b = false) ∨ ∃ k, f = .func (.func k) #[] #[] ∧ (∀ args w, (callFunc k args).run Try.prog w = .ok (.enter k args) w) ∧
    ∀ (x y : It) (w : World), Calls Try.prog k #[itV x, itV y] w fun e w' => e = .returned (.bool (lt x y)) ∧ Below w.heap.size w w'

theorem qfive_below {w w' : World} {q a b : Nat} {f x1 y1 : Value} (hb : Below w.heap.size w w') (h : w.cell? ⟨q, 0, none⟩ = some f ∧ w.cell? ⟨a, 0, none⟩ = some x1 ∧ w.cell? ⟨b, 0, none⟩ = some y1) :
    w'.cell? ⟨q, 0, none⟩ = some f ∧ w'.cell? ⟨a, 0, none⟩ = some x1 ∧ w'.cell? ⟨b, 0, none⟩ = some y1 := by
  have hc : ∀ (p : Addr) (v : Value), w.cell? p = some v → w'.cell? p = some v := fun p v e => (hb.cell (World.block_lt_of_cell? w p e)).trans e
  exact ⟨hc _ _ h.1, hc _ _ h.2.1, hc _ _ h.2.2⟩

set_option maxRecDepth 20000 in
set_option maxHeartbeats 2000000 in
theorem lless_any (lt : It → It → Bool) (w : World) (q n i j : Nat) (f v : Value) (L : List (It × Nat)) (hC : LessC f lt) (h : LQ w q f L n v) (hi : i < L.length) (hj : j < L.length) :
    Calls Try.prog 64 #[.pointer (some ⟨q, 0, none⟩), .int .i64 (i : Int), .int .i64 (j : Int)] w fun e w' => e = .returned (.bool (bl lt L[i] L[j])) ∧ Below w.heap.size w w' := by
  obtain ⟨g, cap, rfl, hgq, hgl, k1, k2, fzg, hc⟩ := h.open (by omega)
  obtain ⟨c0, c1, c2, fz⟩ := h.cells
  obtain ⟨a1, a2⟩ := hc i hi
  obtain ⟨b1, b2⟩ := hc j hj
  have hsm := h.small
  have hil : (i : Int) < (L.length : Int) := by omega
  have hjl : (j : Int) < (L.length : Int) := by omega
  have hql : q < w.heap.size := h.lt q (Or.inl rfl)
  have n1 : ¬ w.heap.size = q := by omega
  have n2 : ¬ w.heap.size + 1 = q := by omega
  have n3 : ¬ w.heap.size = g := by omega
  have n4 : ¬ w.heap.size + 1 = g := by omega
  clear h hc k1 c2 hsm
  have hO := hC.ord
  rcases hC.calls with ⟨rfl, hlt⟩ | ⟨k, rfl, hk, hcall⟩
  · have he : ∀ W : World, (binOp .eql 25 .nilFunc .nilFunc).run Try.prog W = .ok (.bool true) W := fun _ => rfl
    have hfin : bl lt L[i] L[j] = decide (L[i].2 < L[j].2) := by
      unfold bl
      by_cases h : L[i].2 < L[j].2
      · rw [if_pos h, hlt, decide_eq_true h]; rfl
      · rw [if_neg h, hlt, decide_eq_false h]
    rw [hfin]
    generalize L[i] = X at *
    generalize L[j] = Y at *
    clear hfin hC hO hlt
    go_enter Try.func64, Try.ntmps64
    go_wp2_with fail
    go_region
    all_goals go_wp2
    all_goals go_ret
    all_goals exact ⟨rfl, (((Below.refl _ _).alloc (Nat.le_refl _) _).alloc (by simp) _).drew⟩
  · have he : ∀ W : World, (binOp .eql 25 (.func (.func k) #[] #[]) .nilFunc).run Try.prog W = .ok (.bool false) W := fun _ => rfl
    have HC : Hid (∀ (x y : It) (w : World), Calls Try.prog k #[.string x, .string y] w fun e w' => e = .returned (.bool (lt x y)) ∧ Below w.heap.size w w') := hide hcall
    by_cases hat : L[i].2 < L[j].2
    · have hfin : bl lt L[i] L[j] = !lt L[j].1 L[i].1 := by unfold bl; rw [if_pos hat]
      rw [hfin]
      generalize L[i] = X at *
      generalize L[j] = Y at *
      clear hfin hC hO hcall
      go_enter Try.func64, Try.ntmps64
      go_wp2_with fail
      go_region
      · go_wp2_with fail
        have hB0 : Below w.heap.size w (((w.alloc (Obj.cells #[Value.string X.1, Value.int .u64 (X.2 : Int)] 70)).alloc (Obj.cells #[Value.string Y.1, Value.int .u64 (Y.2 : Int)] 70)).drew) := (((Below.refl _ _).alloc (Nat.le_refl _) _).alloc (by simp) _).drew
        have d0 : (((w.alloc (Obj.cells #[Value.string X.1, Value.int .u64 (X.2 : Int)] 70)).alloc (Obj.cells #[Value.string Y.1, Value.int .u64 (Y.2 : Int)] 70)).drew).cell? ⟨q, 0, none⟩ = some (.func (.func k) #[] #[]) := (hB0.cell (p := ⟨q, 0, none⟩) hql).trans c0
        have x1 : (((w.alloc (Obj.cells #[Value.string X.1, Value.int .u64 (X.2 : Int)] 70)).alloc (Obj.cells #[Value.string Y.1, Value.int .u64 (Y.2 : Int)] 70)).drew).cell? ⟨w.heap.size, 0, none⟩ = some (.string X.1) := by simp
        have y1 : (((w.alloc (Obj.cells #[Value.string X.1, Value.int .u64 (X.2 : Int)] 70)).alloc (Obj.cells #[Value.string Y.1, Value.int .u64 (Y.2 : Int)] 70)).drew).cell? ⟨w.heap.size + 1, 0, none⟩ = some (.string Y.1) := by simp
        have HB0 := hide hB0
        clear hB0
        obtain ⟨W0, hW0⟩ : ∃ W0, (((w.alloc (Obj.cells #[Value.string X.1, Value.int .u64 (X.2 : Int)] 70)).alloc (Obj.cells #[Value.string Y.1, Value.int .u64 (Y.2 : Int)] 70)).drew) = W0 := ⟨_, rfl⟩
        rw [hW0] at HB0 d0 x1 y1 ⊢
        clear hW0 c0 c1 a1 a2 b1 b2
        have c0 := d0
        clear d0
        go_region_held3 (fun w' => w'.cell? ⟨q, 0, none⟩ = some (.func (.func k) #[] #[]) ∧ w'.cell? ⟨w.heap.size, 0, none⟩ = some (.string X.1) ∧ w'.cell? ⟨w.heap.size + 1, 0, none⟩ = some (.string Y.1)) (first | assumption | go_keep)
          (first
            | (refine Calls.mono (unhide HC Y.1 X.1 _) ?_; rintro e w1 ⟨rfl, b1⟩; have hk1 := qfive_below b1 ⟨c0, x1, y1⟩))
        go_wp2
        go_ret
        exact ⟨rfl, (unhide HB0).drew.trans (b1.mono (unhide HB0).size)⟩
      · go_wp2_with fail
        have hB0 : Below w.heap.size w (((w.alloc (Obj.cells #[Value.string Y.1, Value.int .u64 (Y.2 : Int)] 70)).alloc (Obj.cells #[Value.string X.1, Value.int .u64 (X.2 : Int)] 70)).drew) := (((Below.refl _ _).alloc (Nat.le_refl _) _).alloc (by simp) _).drew
        have d0 : (((w.alloc (Obj.cells #[Value.string Y.1, Value.int .u64 (Y.2 : Int)] 70)).alloc (Obj.cells #[Value.string X.1, Value.int .u64 (X.2 : Int)] 70)).drew).cell? ⟨q, 0, none⟩ = some (.func (.func k) #[] #[]) := (hB0.cell (p := ⟨q, 0, none⟩) hql).trans c0
        have x1 : (((w.alloc (Obj.cells #[Value.string Y.1, Value.int .u64 (Y.2 : Int)] 70)).alloc (Obj.cells #[Value.string X.1, Value.int .u64 (X.2 : Int)] 70)).drew).cell? ⟨w.heap.size + 1, 0, none⟩ = some (.string X.1) := by simp
        have y1 : (((w.alloc (Obj.cells #[Value.string Y.1, Value.int .u64 (Y.2 : Int)] 70)).alloc (Obj.cells #[Value.string X.1, Value.int .u64 (X.2 : Int)] 70)).drew).cell? ⟨w.heap.size, 0, none⟩ = some (.string Y.1) := by simp
        have HB0 := hide hB0
        clear hB0
        obtain ⟨W0, hW0⟩ : ∃ W0, (((w.alloc (Obj.cells #[Value.string Y.1, Value.int .u64 (Y.2 : Int)] 70)).alloc (Obj.cells #[Value.string X.1, Value.int .u64 (X.2 : Int)] 70)).drew) = W0 := ⟨_, rfl⟩
        rw [hW0] at HB0 d0 x1 y1 ⊢
        clear hW0 c0 c1 a1 a2 b1 b2
        have c0 := d0
        clear d0
        go_region_held3 (fun w' => w'.cell? ⟨q, 0, none⟩ = some (.func (.func k) #[] #[]) ∧ w'.cell? ⟨w.heap.size + 1, 0, none⟩ = some (.string X.1) ∧ w'.cell? ⟨w.heap.size, 0, none⟩ = some (.string Y.1)) (first | assumption | go_keep)
          (first
            | (refine Calls.mono (unhide HC Y.1 X.1 _) ?_; rintro e w1 ⟨rfl, b1⟩; have hk1 := qfive_below b1 ⟨c0, x1, y1⟩))
        go_wp2
        go_ret
        exact ⟨rfl, (unhide HB0).drew.trans (b1.mono (unhide HB0).size)⟩
    · have hfin : bl lt L[i] L[j] = lt L[i].1 L[j].1 := by unfold bl; rw [if_neg hat]
      rw [hfin]
      generalize L[i] = X at *
      generalize L[j] = Y at *
      clear hfin hC hO hcall
      go_enter Try.func64, Try.ntmps64
      go_wp2_with fail
      go_region
      · go_wp2_with fail
        have hB0 : Below w.heap.size w (((w.alloc (Obj.cells #[Value.string X.1, Value.int .u64 (X.2 : Int)] 70)).alloc (Obj.cells #[Value.string Y.1, Value.int .u64 (Y.2 : Int)] 70)).drew) := (((Below.refl _ _).alloc (Nat.le_refl _) _).alloc (by simp) _).drew
        have d0 : (((w.alloc (Obj.cells #[Value.string X.1, Value.int .u64 (X.2 : Int)] 70)).alloc (Obj.cells #[Value.string Y.1, Value.int .u64 (Y.2 : Int)] 70)).drew).cell? ⟨q, 0, none⟩ = some (.func (.func k) #[] #[]) := (hB0.cell (p := ⟨q, 0, none⟩) hql).trans c0
        have x1 : (((w.alloc (Obj.cells #[Value.string X.1, Value.int .u64 (X.2 : Int)] 70)).alloc (Obj.cells #[Value.string Y.1, Value.int .u64 (Y.2 : Int)] 70)).drew).cell? ⟨w.heap.size, 0, none⟩ = some (.string X.1) := by simp
        have y1 : (((w.alloc (Obj.cells #[Value.string X.1, Value.int .u64 (X.2 : Int)] 70)).alloc (Obj.cells #[Value.string Y.1, Value.int .u64 (Y.2 : Int)] 70)).drew).cell? ⟨w.heap.size + 1, 0, none⟩ = some (.string Y.1) := by simp
        have HB0 := hide hB0
        clear hB0
        obtain ⟨W0, hW0⟩ : ∃ W0, (((w.alloc (Obj.cells #[Value.string X.1, Value.int .u64 (X.2 : Int)] 70)).alloc (Obj.cells #[Value.string Y.1, Value.int .u64 (Y.2 : Int)] 70)).drew) = W0 := ⟨_, rfl⟩
        rw [hW0] at HB0 d0 x1 y1 ⊢
        clear hW0 c0 c1 a1 a2 b1 b2
        have c0 := d0
        clear d0
        go_region_held3 (fun w' => w'.cell? ⟨q, 0, none⟩ = some (.func (.func k) #[] #[]) ∧ w'.cell? ⟨w.heap.size, 0, none⟩ = some (.string X.1) ∧ w'.cell? ⟨w.heap.size + 1, 0, none⟩ = some (.string Y.1)) (first | assumption | go_keep)
          (first
            | (refine Calls.mono (unhide HC X.1 Y.1 _) ?_; rintro e w1 ⟨rfl, b1⟩; have hk1 := qfive_below b1 ⟨c0, x1, y1⟩))
        go_wp2
        go_ret
        exact ⟨rfl, (unhide HB0).drew.trans (b1.mono (unhide HB0).size)⟩
      · go_wp2_with fail
        have hB0 : Below w.heap.size w (((w.alloc (Obj.cells #[Value.string Y.1, Value.int .u64 (Y.2 : Int)] 70)).alloc (Obj.cells #[Value.string X.1, Value.int .u64 (X.2 : Int)] 70)).drew) := (((Below.refl _ _).alloc (Nat.le_refl _) _).alloc (by simp) _).drew
        have d0 : (((w.alloc (Obj.cells #[Value.string Y.1, Value.int .u64 (Y.2 : Int)] 70)).alloc (Obj.cells #[Value.string X.1, Value.int .u64 (X.2 : Int)] 70)).drew).cell? ⟨q, 0, none⟩ = some (.func (.func k) #[] #[]) := (hB0.cell (p := ⟨q, 0, none⟩) hql).trans c0
        have x1 : (((w.alloc (Obj.cells #[Value.string Y.1, Value.int .u64 (Y.2 : Int)] 70)).alloc (Obj.cells #[Value.string X.1, Value.int .u64 (X.2 : Int)] 70)).drew).cell? ⟨w.heap.size + 1, 0, none⟩ = some (.string X.1) := by simp
        have y1 : (((w.alloc (Obj.cells #[Value.string Y.1, Value.int .u64 (Y.2 : Int)] 70)).alloc (Obj.cells #[Value.string X.1, Value.int .u64 (X.2 : Int)] 70)).drew).cell? ⟨w.heap.size, 0, none⟩ = some (.string Y.1) := by simp
        have HB0 := hide hB0
        clear hB0
        obtain ⟨W0, hW0⟩ : ∃ W0, (((w.alloc (Obj.cells #[Value.string Y.1, Value.int .u64 (Y.2 : Int)] 70)).alloc (Obj.cells #[Value.string X.1, Value.int .u64 (X.2 : Int)] 70)).drew) = W0 := ⟨_, rfl⟩
        rw [hW0] at HB0 d0 x1 y1 ⊢
        clear hW0 c0 c1 a1 a2 b1 b2
        have c0 := d0
        clear d0
        go_region_held3 (fun w' => w'.cell? ⟨q, 0, none⟩ = some (.func (.func k) #[] #[]) ∧ w'.cell? ⟨w.heap.size + 1, 0, none⟩ = some (.string X.1) ∧ w'.cell? ⟨w.heap.size, 0, none⟩ = some (.string Y.1)) (first | assumption | go_keep)
          (first
            | (refine Calls.mono (unhide HC X.1 Y.1 _) ?_; rintro e w1 ⟨rfl, b1⟩; have hk1 := qfive_below b1 ⟨c0, x1, y1⟩))
        go_wp2
        go_ret
        exact ⟨rfl, (unhide HB0).drew.trans (b1.mono (unhide HB0).size)⟩
end Go.Proofs.Ytbccdaeejlkmcaa.K1

/- The landed package queue: the line's Less. -/
namespace Go.Proofs.Ytbccdaeejlkmcaa.K2
open Go.RowKit

/-- What is asked of a less: it answers as lt does, and changes nothing. -/
structure LessC (f : Value) (lt : It → It → Bool) : Prop where
  ord : Order lt
  calls : (f = .nilFunc ∧ ∀ a b, lt a b = false) ∨ ∃ k, f = .func (.func k) #[] #[] ∧ (∀ args w, (callFunc k args).run Try.prog w = .ok (.enter k args) w) ∧
    ∀ (x y : It) (w : World), Calls Try.prog k #[itV x, itV y] w fun e w' => e = .returned (.bool (lt x y)) ∧ Below w.heap.size w w'

theorem qfive_below {w w' : World} {q a b : Nat} {f x1 x2 y1 y2 : Value} (hb : Below w.heap.size w w') (h : w.cell? ⟨q, 0, none⟩ = some f ∧ w.cell? ⟨a, 0, none⟩ = some x1 ∧ w.cell? ⟨a, 1, none⟩ = some x2 ∧ w.cell? ⟨b, 0, none⟩ = some y1 ∧ w.cell? ⟨b, 1, none⟩ = some y2) :
    w'.cell? ⟨q, 0, none⟩ = some f ∧ w'.cell? ⟨a, 0, none⟩ = some x1 ∧ w'.cell? ⟨a, 1, none⟩ = some x2 ∧ w'.cell? ⟨b, 0, none⟩ = some y1 ∧ w'.cell? ⟨b, 1, none⟩ = some y2 := by
  have hc : ∀ (p : Addr) (v : Value), w.cell? p = some v → w'.cell? p = some v := fun p v e => (hb.cell (World.block_lt_of_cell? w p e)).trans e
  exact ⟨hc _ _ h.1, hc _ _ h.2.1, hc _ _ h.2.2.1, hc _ _ h.2.2.2.1, hc _ _ h.2.2.2.2⟩

set_option maxRecDepth 20000 in
set_option maxHeartbeats 2000000 in
theorem lless_any (lt : It → It → Bool) (w : World) (q n i j : Nat) (f v : Value) (L : List (It × Nat)) (hC : LessC f lt) (h : LQ w q f L n v) (hi : i < L.length) (hj : j < L.length) :
    Calls Try.prog 66 #[.pointer (some ⟨q, 0, none⟩), .int .i64 (i : Int), .int .i64 (j : Int)] w fun e w' => e = .returned (.bool (bl lt L[i] L[j])) ∧ Below w.heap.size w w' := by
  obtain ⟨g, cap, rfl, hgq, hgl, k1, k2, fzg, hc⟩ := h.open (by omega)
  obtain ⟨c0, c1, c2, fz⟩ := h.cells
  obtain ⟨a1, a2, a3⟩ := hc i hi
  obtain ⟨b1, b2, b3⟩ := hc j hj
  have hsm := h.small
  have hil : (i : Int) < (L.length : Int) := by omega
  have hjl : (j : Int) < (L.length : Int) := by omega
  have hql : q < w.heap.size := h.lt q (Or.inl rfl)
  have n1 : ¬ w.heap.size = q := by omega
  have n2 : ¬ w.heap.size + 1 = q := by omega
  have n3 : ¬ w.heap.size = g := by omega
  have n4 : ¬ w.heap.size + 1 = g := by omega
  clear h hc k1 c2 hsm
  have hO := hC.ord
  rcases hC.calls with ⟨rfl, hlt⟩ | ⟨k, rfl, hk, hcall⟩
  · have he : ∀ W : World, (binOp .eql 29 .nilFunc .nilFunc).run Try.prog W = .ok (.bool true) W := fun _ => rfl
    have hfin : bl lt L[i] L[j] = decide (L[i].2 < L[j].2) := by
      unfold bl
      by_cases h : L[i].2 < L[j].2
      · rw [if_pos h, hlt, decide_eq_true h]; rfl
      · rw [if_neg h, hlt, decide_eq_false h]
    rw [hfin]
    generalize L[i] = X at *
    generalize L[j] = Y at *
    clear hfin hC hO hlt
    go_enter Try.func66, Try.ntmps66
    go_wp2_with fail
    go_region
    all_goals go_wp2
    all_goals go_ret
    all_goals exact ⟨rfl, (((Below.refl _ _).alloc (Nat.le_refl _) _).alloc (by simp) _).drew⟩
  · have he : ∀ W : World, (binOp .eql 29 (.func (.func k) #[] #[]) .nilFunc).run Try.prog W = .ok (.bool false) W := fun _ => rfl
    have HC : Hid (∀ (x y : It) (w : World), Calls Try.prog k #[.agg #[.string x.1, .string x.2], .agg #[.string y.1, .string y.2]] w fun e w' => e = .returned (.bool (lt x y)) ∧ Below w.heap.size w w') := hide hcall
    by_cases hat : L[i].2 < L[j].2
    · have hfin : bl lt L[i] L[j] = !lt L[j].1 L[i].1 := by unfold bl; rw [if_pos hat]
      rw [hfin]
      generalize L[i] = X at *
      generalize L[j] = Y at *
      clear hfin hC hO hcall
      go_enter Try.func66, Try.ntmps66
      go_wp2_with fail
      go_region
      · go_wp2_with fail
        have hB0 : Below w.heap.size w (((w.alloc (Obj.cells #[Value.string X.1.1, Value.string X.1.2, Value.int .u64 (X.2 : Int)] 74)).alloc (Obj.cells #[Value.string Y.1.1, Value.string Y.1.2, Value.int .u64 (Y.2 : Int)] 74)).drew) := (((Below.refl _ _).alloc (Nat.le_refl _) _).alloc (by simp) _).drew
        have d0 : (((w.alloc (Obj.cells #[Value.string X.1.1, Value.string X.1.2, Value.int .u64 (X.2 : Int)] 74)).alloc (Obj.cells #[Value.string Y.1.1, Value.string Y.1.2, Value.int .u64 (Y.2 : Int)] 74)).drew).cell? ⟨q, 0, none⟩ = some (.func (.func k) #[] #[]) := (hB0.cell (p := ⟨q, 0, none⟩) hql).trans c0
        have x1 : (((w.alloc (Obj.cells #[Value.string X.1.1, Value.string X.1.2, Value.int .u64 (X.2 : Int)] 74)).alloc (Obj.cells #[Value.string Y.1.1, Value.string Y.1.2, Value.int .u64 (Y.2 : Int)] 74)).drew).cell? ⟨w.heap.size, 0, none⟩ = some (.string X.1.1) := by simp
        have x2 : (((w.alloc (Obj.cells #[Value.string X.1.1, Value.string X.1.2, Value.int .u64 (X.2 : Int)] 74)).alloc (Obj.cells #[Value.string Y.1.1, Value.string Y.1.2, Value.int .u64 (Y.2 : Int)] 74)).drew).cell? ⟨w.heap.size, 1, none⟩ = some (.string X.1.2) := by simp
        have y1 : (((w.alloc (Obj.cells #[Value.string X.1.1, Value.string X.1.2, Value.int .u64 (X.2 : Int)] 74)).alloc (Obj.cells #[Value.string Y.1.1, Value.string Y.1.2, Value.int .u64 (Y.2 : Int)] 74)).drew).cell? ⟨w.heap.size + 1, 0, none⟩ = some (.string Y.1.1) := by simp
        have y2 : (((w.alloc (Obj.cells #[Value.string X.1.1, Value.string X.1.2, Value.int .u64 (X.2 : Int)] 74)).alloc (Obj.cells #[Value.string Y.1.1, Value.string Y.1.2, Value.int .u64 (Y.2 : Int)] 74)).drew).cell? ⟨w.heap.size + 1, 1, none⟩ = some (.string Y.1.2) := by simp
        have HB0 := hide hB0
        clear hB0
        obtain ⟨W0, hW0⟩ : ∃ W0, (((w.alloc (Obj.cells #[Value.string X.1.1, Value.string X.1.2, Value.int .u64 (X.2 : Int)] 74)).alloc (Obj.cells #[Value.string Y.1.1, Value.string Y.1.2, Value.int .u64 (Y.2 : Int)] 74)).drew) = W0 := ⟨_, rfl⟩
        rw [hW0] at HB0 d0 x1 x2 y1 y2 ⊢
        clear hW0 c0 c1 a1 a2 a3 b1 b2 b3
        have c0 := d0
        clear d0
        go_region_held3 (fun w' => w'.cell? ⟨q, 0, none⟩ = some (.func (.func k) #[] #[]) ∧ w'.cell? ⟨w.heap.size, 0, none⟩ = some (.string X.1.1) ∧ w'.cell? ⟨w.heap.size, 1, none⟩ = some (.string X.1.2) ∧ w'.cell? ⟨w.heap.size + 1, 0, none⟩ = some (.string Y.1.1) ∧ w'.cell? ⟨w.heap.size + 1, 1, none⟩ = some (.string Y.1.2)) (first | assumption | go_keep)
          (first
            | (refine Calls.mono (unhide HC Y.1 X.1 _) ?_; rintro e w1 ⟨rfl, b1⟩; have hk1 := qfive_below b1 ⟨c0, x1, x2, y1, y2⟩))
        go_wp2
        go_ret
        exact ⟨rfl, (unhide HB0).drew.trans (b1.mono (unhide HB0).size)⟩
      · go_wp2_with fail
        have hB0 : Below w.heap.size w (((w.alloc (Obj.cells #[Value.string Y.1.1, Value.string Y.1.2, Value.int .u64 (Y.2 : Int)] 74)).alloc (Obj.cells #[Value.string X.1.1, Value.string X.1.2, Value.int .u64 (X.2 : Int)] 74)).drew) := (((Below.refl _ _).alloc (Nat.le_refl _) _).alloc (by simp) _).drew
        have d0 : (((w.alloc (Obj.cells #[Value.string Y.1.1, Value.string Y.1.2, Value.int .u64 (Y.2 : Int)] 74)).alloc (Obj.cells #[Value.string X.1.1, Value.string X.1.2, Value.int .u64 (X.2 : Int)] 74)).drew).cell? ⟨q, 0, none⟩ = some (.func (.func k) #[] #[]) := (hB0.cell (p := ⟨q, 0, none⟩) hql).trans c0
        have x1 : (((w.alloc (Obj.cells #[Value.string Y.1.1, Value.string Y.1.2, Value.int .u64 (Y.2 : Int)] 74)).alloc (Obj.cells #[Value.string X.1.1, Value.string X.1.2, Value.int .u64 (X.2 : Int)] 74)).drew).cell? ⟨w.heap.size + 1, 0, none⟩ = some (.string X.1.1) := by simp
        have x2 : (((w.alloc (Obj.cells #[Value.string Y.1.1, Value.string Y.1.2, Value.int .u64 (Y.2 : Int)] 74)).alloc (Obj.cells #[Value.string X.1.1, Value.string X.1.2, Value.int .u64 (X.2 : Int)] 74)).drew).cell? ⟨w.heap.size + 1, 1, none⟩ = some (.string X.1.2) := by simp
        have y1 : (((w.alloc (Obj.cells #[Value.string Y.1.1, Value.string Y.1.2, Value.int .u64 (Y.2 : Int)] 74)).alloc (Obj.cells #[Value.string X.1.1, Value.string X.1.2, Value.int .u64 (X.2 : Int)] 74)).drew).cell? ⟨w.heap.size, 0, none⟩ = some (.string Y.1.1) := by simp
        have y2 : (((w.alloc (Obj.cells #[Value.string Y.1.1, Value.string Y.1.2, Value.int .u64 (Y.2 : Int)] 74)).alloc (Obj.cells #[Value.string X.1.1, Value.string X.1.2, Value.int .u64 (X.2 : Int)] 74)).drew).cell? ⟨w.heap.size, 1, none⟩ = some (.string Y.1.2) := by simp
        have HB0 := hide hB0
        clear hB0
        obtain ⟨W0, hW0⟩ : ∃ W0, (((w.alloc (Obj.cells #[Value.string Y.1.1, Value.string Y.1.2, Value.int .u64 (Y.2 : Int)] 74)).alloc (Obj.cells #[Value.string X.1.1, Value.string X.1.2, Value.int .u64 (X.2 : Int)] 74)).drew) = W0 := ⟨_, rfl⟩
        rw [hW0] at HB0 d0 x1 x2 y1 y2 ⊢
        clear hW0 c0 c1 a1 a2 a3 b1 b2 b3
        have c0 := d0
        clear d0
        go_region_held3 (fun w' => w'.cell? ⟨q, 0, none⟩ = some (.func (.func k) #[] #[]) ∧ w'.cell? ⟨w.heap.size + 1, 0, none⟩ = some (.string X.1.1) ∧ w'.cell? ⟨w.heap.size + 1, 1, none⟩ = some (.string X.1.2) ∧ w'.cell? ⟨w.heap.size, 0, none⟩ = some (.string Y.1.1) ∧ w'.cell? ⟨w.heap.size, 1, none⟩ = some (.string Y.1.2)) (first | assumption | go_keep)
          (first
            | (refine Calls.mono (unhide HC Y.1 X.1 _) ?_; rintro e w1 ⟨rfl, b1⟩; have hk1 := qfive_below b1 ⟨c0, x1, x2, y1, y2⟩))
        go_wp2
        go_ret
        exact ⟨rfl, (unhide HB0).drew.trans (b1.mono (unhide HB0).size)⟩
    · have hfin : bl lt L[i] L[j] = lt L[i].1 L[j].1 := by unfold bl; rw [if_neg hat]
      rw [hfin]
      generalize L[i] = X at *
      generalize L[j] = Y at *
      clear hfin hC hO hcall
      go_enter Try.func66, Try.ntmps66
      go_wp2_with fail
      go_region
      · go_wp2_with fail
        have hB0 : Below w.heap.size w (((w.alloc (Obj.cells #[Value.string X.1.1, Value.string X.1.2, Value.int .u64 (X.2 : Int)] 74)).alloc (Obj.cells #[Value.string Y.1.1, Value.string Y.1.2, Value.int .u64 (Y.2 : Int)] 74)).drew) := (((Below.refl _ _).alloc (Nat.le_refl _) _).alloc (by simp) _).drew
        have d0 : (((w.alloc (Obj.cells #[Value.string X.1.1, Value.string X.1.2, Value.int .u64 (X.2 : Int)] 74)).alloc (Obj.cells #[Value.string Y.1.1, Value.string Y.1.2, Value.int .u64 (Y.2 : Int)] 74)).drew).cell? ⟨q, 0, none⟩ = some (.func (.func k) #[] #[]) := (hB0.cell (p := ⟨q, 0, none⟩) hql).trans c0
        have x1 : (((w.alloc (Obj.cells #[Value.string X.1.1, Value.string X.1.2, Value.int .u64 (X.2 : Int)] 74)).alloc (Obj.cells #[Value.string Y.1.1, Value.string Y.1.2, Value.int .u64 (Y.2 : Int)] 74)).drew).cell? ⟨w.heap.size, 0, none⟩ = some (.string X.1.1) := by simp
        have x2 : (((w.alloc (Obj.cells #[Value.string X.1.1, Value.string X.1.2, Value.int .u64 (X.2 : Int)] 74)).alloc (Obj.cells #[Value.string Y.1.1, Value.string Y.1.2, Value.int .u64 (Y.2 : Int)] 74)).drew).cell? ⟨w.heap.size, 1, none⟩ = some (.string X.1.2) := by simp
        have y1 : (((w.alloc (Obj.cells #[Value.string X.1.1, Value.string X.1.2, Value.int .u64 (X.2 : Int)] 74)).alloc (Obj.cells #[Value.string Y.1.1, Value.string Y.1.2, Value.int .u64 (Y.2 : Int)] 74)).drew).cell? ⟨w.heap.size + 1, 0, none⟩ = some (.string Y.1.1) := by simp
        have y2 : (((w.alloc (Obj.cells #[Value.string X.1.1, Value.string X.1.2, Value.int .u64 (X.2 : Int)] 74)).alloc (Obj.cells #[Value.string Y.1.1, Value.string Y.1.2, Value.int .u64 (Y.2 : Int)] 74)).drew).cell? ⟨w.heap.size + 1, 1, none⟩ = some (.string Y.1.2) := by simp
        have HB0 := hide hB0
        clear hB0
        obtain ⟨W0, hW0⟩ : ∃ W0, (((w.alloc (Obj.cells #[Value.string X.1.1, Value.string X.1.2, Value.int .u64 (X.2 : Int)] 74)).alloc (Obj.cells #[Value.string Y.1.1, Value.string Y.1.2, Value.int .u64 (Y.2 : Int)] 74)).drew) = W0 := ⟨_, rfl⟩
        rw [hW0] at HB0 d0 x1 x2 y1 y2 ⊢
        clear hW0 c0 c1 a1 a2 a3 b1 b2 b3
        have c0 := d0
        clear d0
        go_region_held3 (fun w' => w'.cell? ⟨q, 0, none⟩ = some (.func (.func k) #[] #[]) ∧ w'.cell? ⟨w.heap.size, 0, none⟩ = some (.string X.1.1) ∧ w'.cell? ⟨w.heap.size, 1, none⟩ = some (.string X.1.2) ∧ w'.cell? ⟨w.heap.size + 1, 0, none⟩ = some (.string Y.1.1) ∧ w'.cell? ⟨w.heap.size + 1, 1, none⟩ = some (.string Y.1.2)) (first | assumption | go_keep)
          (first
            | (refine Calls.mono (unhide HC X.1 Y.1 _) ?_; rintro e w1 ⟨rfl, b1⟩; have hk1 := qfive_below b1 ⟨c0, x1, x2, y1, y2⟩))
        go_wp2
        go_ret
        exact ⟨rfl, (unhide HB0).drew.trans (b1.mono (unhide HB0).size)⟩
      · go_wp2_with fail
        have hB0 : Below w.heap.size w (((w.alloc (Obj.cells #[Value.string Y.1.1, Value.string Y.1.2, Value.int .u64 (Y.2 : Int)] 74)).alloc (Obj.cells #[Value.string X.1.1, Value.string X.1.2, Value.int .u64 (X.2 : Int)] 74)).drew) := (((Below.refl _ _).alloc (Nat.le_refl _) _).alloc (by simp) _).drew
        have d0 : (((w.alloc (Obj.cells #[Value.string Y.1.1, Value.string Y.1.2, Value.int .u64 (Y.2 : Int)] 74)).alloc (Obj.cells #[Value.string X.1.1, Value.string X.1.2, Value.int .u64 (X.2 : Int)] 74)).drew).cell? ⟨q, 0, none⟩ = some (.func (.func k) #[] #[]) := (hB0.cell (p := ⟨q, 0, none⟩) hql).trans c0
        have x1 : (((w.alloc (Obj.cells #[Value.string Y.1.1, Value.string Y.1.2, Value.int .u64 (Y.2 : Int)] 74)).alloc (Obj.cells #[Value.string X.1.1, Value.string X.1.2, Value.int .u64 (X.2 : Int)] 74)).drew).cell? ⟨w.heap.size + 1, 0, none⟩ = some (.string X.1.1) := by simp
        have x2 : (((w.alloc (Obj.cells #[Value.string Y.1.1, Value.string Y.1.2, Value.int .u64 (Y.2 : Int)] 74)).alloc (Obj.cells #[Value.string X.1.1, Value.string X.1.2, Value.int .u64 (X.2 : Int)] 74)).drew).cell? ⟨w.heap.size + 1, 1, none⟩ = some (.string X.1.2) := by simp
        have y1 : (((w.alloc (Obj.cells #[Value.string Y.1.1, Value.string Y.1.2, Value.int .u64 (Y.2 : Int)] 74)).alloc (Obj.cells #[Value.string X.1.1, Value.string X.1.2, Value.int .u64 (X.2 : Int)] 74)).drew).cell? ⟨w.heap.size, 0, none⟩ = some (.string Y.1.1) := by simp
        have y2 : (((w.alloc (Obj.cells #[Value.string Y.1.1, Value.string Y.1.2, Value.int .u64 (Y.2 : Int)] 74)).alloc (Obj.cells #[Value.string X.1.1, Value.string X.1.2, Value.int .u64 (X.2 : Int)] 74)).drew).cell? ⟨w.heap.size, 1, none⟩ = some (.string Y.1.2) := by simp
        have HB0 := hide hB0
        clear hB0
        obtain ⟨W0, hW0⟩ : ∃ W0, (((w.alloc (Obj.cells #[Value.string Y.1.1, Value.string Y.1.2, Value.int .u64 (Y.2 : Int)] 74)).alloc (Obj.cells #[Value.string X.1.1, Value.string X.1.2, Value.int .u64 (X.2 : Int)] 74)).drew) = W0 := ⟨_, rfl⟩
        rw [hW0] at HB0 d0 x1 x2 y1 y2 ⊢
        clear hW0 c0 c1 a1 a2 a3 b1 b2 b3
        have c0 := d0
        clear d0
        go_region_held3 (fun w' => w'.cell? ⟨q, 0, none⟩ = some (.func (.func k) #[] #[]) ∧ w'.cell? ⟨w.heap.size + 1, 0, none⟩ = some (.string X.1.1) ∧ w'.cell? ⟨w.heap.size + 1, 1, none⟩ = some (.string X.1.2) ∧ w'.cell? ⟨w.heap.size, 0, none⟩ = some (.string Y.1.1) ∧ w'.cell? ⟨w.heap.size, 1, none⟩ = some (.string Y.1.2)) (first | assumption | go_keep)
          (first
            | (refine Calls.mono (unhide HC X.1 Y.1 _) ?_; rintro e w1 ⟨rfl, b1⟩; have hk1 := qfive_below b1 ⟨c0, x1, x2, y1, y2⟩))
        go_wp2
        go_ret
        exact ⟨rfl, (unhide HB0).drew.trans (b1.mono (unhide HB0).size)⟩
end Go.Proofs.Ytbccdaeejlkmcaa.K2
