/- Texts of ours, one behind the other: QOwn1, Q1Own1, Q2Own1. -/
import Derived.Test.YtbccdaeejlkmcaaG6
import Derived.BigQuiet
import Derived.BigRegion
/- The landed package queue: the line's Len, Swap, Pop. -/
namespace Go.Proofs.Ytbccdaeejlkmcaa
open Go.RowKit

theorem llen_any (w : World) (q n : Nat) (f v : Value) (L : List (It × Nat)) (h : LQ w q f L n v) :
    Calls Try.prog 27 #[.pointer (some ⟨q, 0, none⟩)] w fun e w' => e = .returned (.int .i64 (L.length : Int)) ∧ Below w.heap.size w w' := by
  obtain ⟨p, cap, rfl, h1, h2, h3⟩ := h.shape
  obtain ⟨c0, c1, c2, fz⟩ := h.cells
  clear h h1 c0 c2 fz
  go_enter Try.func27, Try.ntmps27
  go_wp2
  go_ret
  exact ⟨rfl, Below.refl _ _⟩

/-- Two items overwritten, one behind the other. -/
theorem LQ.set2 {w : World} {q n g cap : Nat} {f : Value} {L : List (It × Nat)} (h : LQ w q f L n (.slice (some ⟨g, 0, none⟩) L.length cap)) (i j : Nat) (hi : i < L.length) (hj : j < L.length) (x y : It × Nat) :
    LQ ((((((w.setCell ⟨g, i * 3, none⟩ (.int .i64 x.1.1)).setCell ⟨g, i * 3 + 1, none⟩ (.string x.1.2)).setCell ⟨g, i * 3 + 2, none⟩ (.int .u64 (x.2 : Int))).setCell ⟨g, j * 3, none⟩ (.int .i64 y.1.1)).setCell ⟨g, j * 3 + 1, none⟩ (.string y.1.2)).setCell ⟨g, j * 3 + 2, none⟩ (.int .u64 (y.2 : Int))).drew q f ((L.set i x).set j y) n (.slice (some ⟨g, 0, none⟩) L.length cap) ∧
    Keep (fun k => (Value.slice (some ⟨g, 0, none⟩) L.length cap).ownBlock = some k) w ((((((w.setCell ⟨g, i * 3, none⟩ (.int .i64 x.1.1)).setCell ⟨g, i * 3 + 1, none⟩ (.string x.1.2)).setCell ⟨g, i * 3 + 2, none⟩ (.int .u64 (x.2 : Int))).setCell ⟨g, j * 3, none⟩ (.int .i64 y.1.1)).setCell ⟨g, j * 3 + 1, none⟩ (.string y.1.2)).setCell ⟨g, j * 3 + 2, none⟩ (.int .u64 (y.2 : Int))).drew := by
  obtain ⟨h1, k1⟩ := h.set i hi x
  obtain ⟨h2, k2⟩ := h1.set j (by rw [List.length_set]; exact hj) y
  have e1 : (L.set i x).length = L.length := List.length_set ..
  have e2 : ((L.set i x).set j y).length = L.length := by rw [List.length_set, e1]
  rw [e2] at h2
  have hb : ∀ W : World, Below W.heap.size W W.drew := fun W => (Below.refl _ W).drew
  refine ⟨h2.below (hb _), ?_⟩
  have k3 := (k1.trans k2 (fun x hx => Or.inl hx)).trans (Keep.of_below (F := fun _ => False) (hb _)) (fun x hx => hx.elim)
  exact k3.weak fun x hx => by simp [Value.ownBlock, hx]

set_option maxRecDepth 20000 in
set_option maxHeartbeats 2000000 in
theorem lswap_any (w : World) (q n i j : Nat) (f v : Value) (L : List (It × Nat)) (h : LQ w q f L n v) (hi : i < L.length) (hj : j < L.length) :
    Calls Try.prog 44 #[.pointer (some ⟨q, 0, none⟩), .int .i64 (i : Int), .int .i64 (j : Int)] w fun e w' => e = .returned (.tuple #[]) ∧ LQ w' q f (sw L i j hi hj) n v ∧ Keep (fun k => v.ownBlock = some k) w w' := by
  obtain ⟨g, cap, rfl, hgq, hgl, k1, k2, fzg, hc⟩ := h.open (by omega)
  obtain ⟨c0, c1, c2, fz⟩ := h.cells
  obtain ⟨a1, a2, a3⟩ := hc i hi
  obtain ⟨b1, b2, b3⟩ := hc j hj
  have H := hide (h.set2 i j hi hj L[j] L[i])
  have hsm := h.small
  have hil : (i : Int) < (L.length : Int) := by omega
  have hjl : (j : Int) < (L.length : Int) := by omega
  clear h hc k1 c0 c2 hsm
  by_cases hij : i = j
  · subst hij
    clear b1 b2 b3 hjl
    go_enter Try.func44, Try.ntmps44
    go_wp2_with fail
    go_region
    go_end0
    obtain ⟨h1, h2⟩ := unhide H
    exact ⟨rfl, h1, h2⟩
  · go_enter Try.func44, Try.ntmps44
    go_wp2_with fail
    go_region
    go_end0
    obtain ⟨h1, h2⟩ := unhide H
    exact ⟨rfl, h1, h2⟩
end Go.Proofs.Ytbccdaeejlkmcaa

/- The landed package queue: the line's Len, Swap, Pop. -/
namespace Go.Proofs.Ytbccdaeejlkmcaa.K1
open Go.RowKit

theorem llen_any (w : World) (q n : Nat) (f v : Value) (L : List (It × Nat)) (h : LQ w q f L n v) :
    Calls Try.prog 35 #[.pointer (some ⟨q, 0, none⟩)] w fun e w' => e = .returned (.int .i64 (L.length : Int)) ∧ Below w.heap.size w w' := by
  obtain ⟨p, cap, rfl, h1, h2, h3⟩ := h.shape
  obtain ⟨c0, c1, c2, fz⟩ := h.cells
  clear h h1 c0 c2 fz
  go_enter Try.func35, Try.ntmps35
  go_wp2
  go_ret
  exact ⟨rfl, Below.refl _ _⟩

/-- Two items overwritten, one behind the other. -/
theorem LQ.set2 {w : World} {q n g cap : Nat} {f : Value} {L : List (It × Nat)} (h : LQ w q f L n (.slice (some ⟨g, 0, none⟩) L.length cap)) (i j : Nat) (hi : i < L.length) (hj : j < L.length) (x y : It × Nat) :
    LQ ((((w.setCell ⟨g, i * 2, none⟩ (.string x.1)).setCell ⟨g, i * 2 + 1, none⟩ (.int .u64 (x.2 : Int))).setCell ⟨g, j * 2, none⟩ (.string y.1)).setCell ⟨g, j * 2 + 1, none⟩ (.int .u64 (y.2 : Int))).drew q f ((L.set i x).set j y) n (.slice (some ⟨g, 0, none⟩) L.length cap) ∧
    Keep (fun k => (Value.slice (some ⟨g, 0, none⟩) L.length cap).ownBlock = some k) w ((((w.setCell ⟨g, i * 2, none⟩ (.string x.1)).setCell ⟨g, i * 2 + 1, none⟩ (.int .u64 (x.2 : Int))).setCell ⟨g, j * 2, none⟩ (.string y.1)).setCell ⟨g, j * 2 + 1, none⟩ (.int .u64 (y.2 : Int))).drew := by
  obtain ⟨h1, k1⟩ := h.set i hi x
  obtain ⟨h2, k2⟩ := h1.set j (by rw [List.length_set]; exact hj) y
  have e1 : (L.set i x).length = L.length := List.length_set ..
  have e2 : ((L.set i x).set j y).length = L.length := by rw [List.length_set, e1]
  rw [e2] at h2
  have hb : ∀ W : World, Below W.heap.size W W.drew := fun W => (Below.refl _ W).drew
  refine ⟨h2.below (hb _), ?_⟩
  have k3 := (k1.trans k2 (fun x hx => Or.inl hx)).trans (Keep.of_below (F := fun _ => False) (hb _)) (fun x hx => hx.elim)
  exact k3.weak fun x hx => by simp [Value.ownBlock, hx]

set_option maxRecDepth 20000 in
set_option maxHeartbeats 2000000 in
theorem lswap_any (w : World) (q n i j : Nat) (f v : Value) (L : List (It × Nat)) (h : LQ w q f L n v) (hi : i < L.length) (hj : j < L.length) :
    Calls Try.prog 34 #[.pointer (some ⟨q, 0, none⟩), .int .i64 (i : Int), .int .i64 (j : Int)] w fun e w' => e = .returned (.tuple #[]) ∧ LQ w' q f (sw L i j hi hj) n v ∧ Keep (fun k => v.ownBlock = some k) w w' := by
  obtain ⟨g, cap, rfl, hgq, hgl, k1, k2, fzg, hc⟩ := h.open (by omega)
  obtain ⟨c0, c1, c2, fz⟩ := h.cells
  obtain ⟨a1, a2⟩ := hc i hi
  obtain ⟨b1, b2⟩ := hc j hj
  have H := hide (h.set2 i j hi hj L[j] L[i])
  have hsm := h.small
  have hil : (i : Int) < (L.length : Int) := by omega
  have hjl : (j : Int) < (L.length : Int) := by omega
  clear h hc k1 c0 c2 hsm
  by_cases hij : i = j
  · subst hij
    clear b1 b2 hjl
    go_enter Try.func34, Try.ntmps34
    go_wp2_with fail
    go_region
    go_end0
    obtain ⟨h1, h2⟩ := unhide H
    exact ⟨rfl, h1, h2⟩
  · go_enter Try.func34, Try.ntmps34
    go_wp2_with fail
    go_region
    go_end0
    obtain ⟨h1, h2⟩ := unhide H
    exact ⟨rfl, h1, h2⟩
end Go.Proofs.Ytbccdaeejlkmcaa.K1

/- The landed package queue: the line's Len, Swap, Pop. -/
namespace Go.Proofs.Ytbccdaeejlkmcaa.K2
open Go.RowKit

theorem llen_any (w : World) (q n : Nat) (f v : Value) (L : List (It × Nat)) (h : LQ w q f L n v) :
    Calls Try.prog 41 #[.pointer (some ⟨q, 0, none⟩)] w fun e w' => e = .returned (.int .i64 (L.length : Int)) ∧ Below w.heap.size w w' := by
  obtain ⟨p, cap, rfl, h1, h2, h3⟩ := h.shape
  obtain ⟨c0, c1, c2, fz⟩ := h.cells
  clear h h1 c0 c2 fz
  go_enter Try.func41, Try.ntmps41
  go_wp2
  go_ret
  exact ⟨rfl, Below.refl _ _⟩

/-- Two items overwritten, one behind the other. -/
theorem LQ.set2 {w : World} {q n g cap : Nat} {f : Value} {L : List (It × Nat)} (h : LQ w q f L n (.slice (some ⟨g, 0, none⟩) L.length cap)) (i j : Nat) (hi : i < L.length) (hj : j < L.length) (x y : It × Nat) :
    LQ ((((((w.setCell ⟨g, i * 3, none⟩ (.string x.1.1)).setCell ⟨g, i * 3 + 1, none⟩ (.string x.1.2)).setCell ⟨g, i * 3 + 2, none⟩ (.int .u64 (x.2 : Int))).setCell ⟨g, j * 3, none⟩ (.string y.1.1)).setCell ⟨g, j * 3 + 1, none⟩ (.string y.1.2)).setCell ⟨g, j * 3 + 2, none⟩ (.int .u64 (y.2 : Int))).drew q f ((L.set i x).set j y) n (.slice (some ⟨g, 0, none⟩) L.length cap) ∧
    Keep (fun k => (Value.slice (some ⟨g, 0, none⟩) L.length cap).ownBlock = some k) w ((((((w.setCell ⟨g, i * 3, none⟩ (.string x.1.1)).setCell ⟨g, i * 3 + 1, none⟩ (.string x.1.2)).setCell ⟨g, i * 3 + 2, none⟩ (.int .u64 (x.2 : Int))).setCell ⟨g, j * 3, none⟩ (.string y.1.1)).setCell ⟨g, j * 3 + 1, none⟩ (.string y.1.2)).setCell ⟨g, j * 3 + 2, none⟩ (.int .u64 (y.2 : Int))).drew := by
  obtain ⟨h1, k1⟩ := h.set i hi x
  obtain ⟨h2, k2⟩ := h1.set j (by rw [List.length_set]; exact hj) y
  have e1 : (L.set i x).length = L.length := List.length_set ..
  have e2 : ((L.set i x).set j y).length = L.length := by rw [List.length_set, e1]
  rw [e2] at h2
  have hb : ∀ W : World, Below W.heap.size W W.drew := fun W => (Below.refl _ W).drew
  refine ⟨h2.below (hb _), ?_⟩
  have k3 := (k1.trans k2 (fun x hx => Or.inl hx)).trans (Keep.of_below (F := fun _ => False) (hb _)) (fun x hx => hx.elim)
  exact k3.weak fun x hx => by simp [Value.ownBlock, hx]

set_option maxRecDepth 20000 in
set_option maxHeartbeats 2000000 in
theorem lswap_any (w : World) (q n i j : Nat) (f v : Value) (L : List (It × Nat)) (h : LQ w q f L n v) (hi : i < L.length) (hj : j < L.length) :
    Calls Try.prog 40 #[.pointer (some ⟨q, 0, none⟩), .int .i64 (i : Int), .int .i64 (j : Int)] w fun e w' => e = .returned (.tuple #[]) ∧ LQ w' q f (sw L i j hi hj) n v ∧ Keep (fun k => v.ownBlock = some k) w w' := by
  obtain ⟨g, cap, rfl, hgq, hgl, k1, k2, fzg, hc⟩ := h.open (by omega)
  obtain ⟨c0, c1, c2, fz⟩ := h.cells
  obtain ⟨a1, a2, a3⟩ := hc i hi
  obtain ⟨b1, b2, b3⟩ := hc j hj
  have H := hide (h.set2 i j hi hj L[j] L[i])
  have hsm := h.small
  have hil : (i : Int) < (L.length : Int) := by omega
  have hjl : (j : Int) < (L.length : Int) := by omega
  clear h hc k1 c0 c2 hsm
  by_cases hij : i = j
  · subst hij
    clear b1 b2 b3 hjl
    go_enter Try.func40, Try.ntmps40
    go_wp2_with fail
    go_region
    go_end0
    obtain ⟨h1, h2⟩ := unhide H
    exact ⟨rfl, h1, h2⟩
  · go_enter Try.func40, Try.ntmps40
    go_wp2_with fail
    go_region
    go_end0
    obtain ⟨h1, h2⟩ := unhide H
    exact ⟨rfl, h1, h2⟩
end Go.Proofs.Ytbccdaeejlkmcaa.K2
