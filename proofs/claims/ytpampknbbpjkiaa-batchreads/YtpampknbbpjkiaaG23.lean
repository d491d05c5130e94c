/- Texts of ours, one behind the other: FrOwn2, FrRef5. -/
import Derived.Test.YtpampknbbpjkiaaG12
import Derived.Test.YtpampknbbpjkiaaG13
import Derived.Test.YtpampknbbpjkiaaG20
import Derived.Deep.RegionHeld3
/- What package frame does: readHead, Read; and bytes.Clone. -/
namespace Go.Proofs.Ytpampknbbpjkiaa
open Go.RowKit

set_option maxRecDepth 20000 in
theorem clone_any (s : Value) (bs : List UInt8) (w : World) (hs : Row w s bs) (hroom : bs.length ≤ 140737488351232) :
    Calls Try.prog 38 #[s] w fun e w' => ∃ t, e = .returned t ∧ Mine w' w.heap.size t bs ∧ Below w.heap.size w w' := by
  obtain ⟨i0, hi, hz0, hz1, hz2⟩ := info_parts Try.info5
  have HS := hide hs
  obtain ⟨q, c, rfl, c1, c2, c3, _⟩ := hs
  cases q with
  | none =>
    have hc := c3 rfl
    subst hc
    have hb : bs = [] := List.eq_nil_of_length_eq_zero (by omega)
    subst hb
    have he : ∀ w : World, (binOp .eql 30 (.slice none 0 0) (.slice none 0 0)).run Try.prog w = .ok (.bool true) w := fun _ => rfl
    go_enter Try.func38, Try.ntmps38
    go_wp2
    go_ret
    exact ⟨_, rfl, mine_nil _ _, Below.refl _ _⟩
  | some ad =>
    have he : ∀ w : World, (binOp .eql 30 (.slice (some ad) bs.length c) (.slice none 0 0)).run Try.prog w = .ok (.bool false) w := fun _ => rfl
    have hb0 : Below w.heap.size w (w.alloc (.cells #[] 5)) := (Below.refl _ _).alloc (Nat.le_refl _) _
    have hown : (w.alloc (.cells #[] 5)).ownsRow w.heap.size 5 1 (.slice (some ⟨w.heap.size, 0, none⟩) 0 0) 0 [] :=
      ⟨rfl, Or.inr ⟨w.heap.size, 0, #[], rfl, Nat.le_refl _, heap_alloc_new _ _, Nat.le_refl _, by unfold maxLen; omega, rfl, rfl⟩⟩
    have HS0 := hide ((unhide HS).below hb0)
    clear HS
    go_enter Try.func38, Try.ntmps38
    go_wp2_with (at_builtin; refine wpList_append_row rfl _ _ 30 rfl w.heap.size 5 i0 (.int .u8 0) Try.underlying30 hi hz0 hz1 hz2 rfl _ 0 [] rfl hown _ bs rfl (unhide HS0) (by omega) (by simp) ?_)
    intro v' w2 hown2 hgrow
    have hb2 : Below w.heap.size w w2 := hb0.grown hgrow hb0.size (fun j hj => by cases hj; exact Nat.le_refl _)
    clear hgrow
    go_wp2
    go_ret
    exact ⟨_, rfl, mine_of_owns (by simpa using hown2), hb2⟩

/-- What readHead answers: the three numbers, the place behind them, the error. -/
def headR (b : List UInt8) : (Nat × Nat × Nat) × Int × Int :=
  if readE b 0 ≠ 0 then ((0, 0, 0), 0, readE b 0)
  else if readE b (readN b 0) ≠ 0 then ((0, 0, 0), 0, readE b (readN b 0))
  else if readE b (readN b (readN b 0)) ≠ 0 then ((0, 0, 0), 0, readE b (readN b (readN b 0)))
  else ((readV b 0, readV b (readN b 0), readV b (readN b (readN b 0))), readN b (readN b (readN b 0)), 0)

/-- Three numbers in a block. -/
def At3 (w : World) (g : Nat) (t : TypeId) (x y z : Value) : Prop := w.heap[g]? = some (.cells #[x, y, z] t (0, 0))
theorem At3.below {w w' : World} {g t : Nat} {x y z : Value} (h : At3 w g t x y z) (hb : Below w.heap.size w w') : At3 w' g t x y z := (hb.block g (Array.getElem?_eq_some_iff.1 h).1).trans h
theorem At3.cells {w : World} {g t : Nat} {x y z : Value} (h : At3 w g t x y z) : w.cell? ⟨g, 0, none⟩ = some x ∧ w.cell? ⟨g, 1, none⟩ = some y ∧ w.cell? ⟨g, 2, none⟩ = some z ∧ ∀ j, w.frozen? ⟨g, j, none⟩ = false := by
  refine ⟨?_, ?_, ?_, fun j => frozen_of_block h⟩ <;> (rw [cell_of_row _ _ _ _ _ (0, 0) h]; rfl)
theorem At3.set0 {w : World} {g t : Nat} {x y z : Value} (h : At3 w g t x y z) (v : Value) : At3 (w.setCell ⟨g, 0, none⟩ v) g t v y z := heap_setCell_same w g 0 _ _ _ h
theorem At3.set1 {w : World} {g t : Nat} {x y z : Value} (h : At3 w g t x y z) (v : Value) : At3 (w.setCell ⟨g, 1, none⟩ v) g t x v z := heap_setCell_same w g 1 _ _ _ h
theorem At3.set2 {w : World} {g t : Nat} {x y z : Value} (h : At3 w g t x y z) (v : Value) : At3 (w.setCell ⟨g, 2, none⟩ v) g t x y v := heap_setCell_same w g 2 _ _ _ h
theorem At3.other {w : World} {g t k : Nat} {x y z : Value} (h : At3 w g t x y z) (j : Nat) (v : Value) (hne : g ≠ k) : At3 (w.setCell ⟨k, j, none⟩ v) g t x y z := by
  unfold At3
  unfold At3 at h
  rw [← h]
  exact Below.heap_setCell _ _ _ _ hne

end Go.Proofs.Ytpampknbbpjkiaa

/- The document's own answers: the reader of layer 1 (Num, Most). -/
namespace Go.Proofs.Ytpampknbbpjkiaa
open Go.RowKit

/-- What Num answers at a place with an error, and the place and the error then. -/
def numF (b : List UInt8) (p e : Int) : Nat × Int × Int := if e ≠ 0 then (0, p, e) else if readE b p ≠ 0 then (0, p, readE b p) else (readV b p, readN b p, 0)
def mostF (b : List UInt8) (m : Nat) (p e : Int) : Nat × Int × Int :=
  if (numF b p e).2.2 ≠ 0 then (0, (numF b p e).2) else if m < (numF b p e).1 then (0, (numF b p e).2.1, 11) else numF b p e

set_option maxRecDepth 20000 in
set_option maxHeartbeats 1000000 in
theorem num_any (g : Nat) (p e : Int) (s : Value) (b : List UInt8) (w0 w : World) (hs : Row w0 s b) (hroom : b.length ≤ 140737488351232) (hb : Below w0.heap.size w0 w) (hg : w0.heap.size ≤ g)
    (h3 : At3 w g 91 s (.int .i64 p) (.int .i64 e)) :
    Calls Try.prog 55 #[.pointer (some ⟨g, 0, none⟩)] w fun x w' => x = .returned (.int .u64 ((numF b p e).1 : Int)) ∧ At3 w' g 91 s (.int .i64 (numF b p e).2.1) (.int .i64 (numF b p e).2.2) ∧ Below w0.heap.size w0 w' := by
  obtain ⟨q0, l0, cc0, hs0⟩ : ∃ q l c, s = .slice q l c := by obtain ⟨p, c, l, e, _⟩ := hs.shape; exact ⟨p, l, c, e⟩
  subst hs0
  obtain ⟨c0, c1, c2, fz⟩ := h3.cells
  unfold numF
  by_cases he : e = 0
  · subst he
    rw [if_neg (by simp)]
    have hdw : Below w.heap.size w w.drew := (Below.refl _ _).drew
    have HRV := hide (rrv_any (.slice q0 l0 cc0) b p w.drew ((hs.below hb).below hdw) hroom)
    obtain ⟨k0, k1, k2, fz'⟩ := (h3.below hdw).cells
    have H3 := hide (h3.below hdw)
    have HB := hide (hb.drew)
    have d0 := c0
    have d1 := c1
    by_cases hE : readE b p = 0
    · rw [if_neg (by simp [hE])]
      rw [hE] at HRV
      have f1 := fz 1
      clear fz fz' h3 hb hs hdw hE
      generalize readV b p = V at *
      generalize readN b p = N at *
      go_enter Try.func55, Try.ntmps55
      go_wp2_with fail
      go_region_held3 (fun w' => w'.cell? ⟨g, 0, none⟩ = some (.slice q0 l0 cc0) ∧ w'.cell? ⟨g, 1, none⟩ = some (.int .i64 p)) (first | assumption | go_keep)
        (first | (go_at_call 74; refine Calls.mono (unhide HRV) ?_; rintro x w1 ⟨rfl, rfl⟩))
      obtain ⟨k0, k1, k2, fz⟩ := (unhide H3).cells
      have f1' := fz 1
      clear fz
      go_wp2
      go_ret
      exact ⟨rfl, (unhide H3).set1 _, (unhide HB).setCell (p := ⟨g, 1, none⟩) hg _⟩
    · rw [if_pos hE]
      have hE' : (readE b p == 0) = false := by simp [hE]
      have f2 := fz 2
      clear fz fz' h3 hb hs hdw
      generalize readE b p = E at *
      generalize readV b p = V at *
      generalize readN b p = N at *
      go_enter Try.func55, Try.ntmps55
      go_wp2_with fail
      go_region_held3 (fun w' => w'.cell? ⟨g, 0, none⟩ = some (.slice q0 l0 cc0) ∧ w'.cell? ⟨g, 1, none⟩ = some (.int .i64 p)) (first | assumption | go_keep)
        (first | (go_at_call 74; refine Calls.mono (unhide HRV) ?_; rintro x w1 ⟨rfl, rfl⟩))
      obtain ⟨k0, k1, k2, fz⟩ := (unhide H3).cells
      have f2' := fz 2
      clear fz
      go_wp2
      go_ret
      exact ⟨rfl, (unhide H3).set2 _, (unhide HB).setCell (p := ⟨g, 2, none⟩) hg _⟩
  · rw [if_pos he]
    have he' : (e == 0) = false := by simp [he]
    clear fz
    go_enter Try.func55, Try.ntmps55
    go_wp2
    go_ret
    exact ⟨rfl, h3, hb⟩

theorem num_err (b : List UInt8) (p e : Int) : (numF b p e).1 < 18446744073709551616 := by
  unfold numF
  split
  · simp
  · split
    · simp
    · rename_i h1 h2
      exact (read_ok b p (by simpa using h2)).2.2.2

set_option maxRecDepth 20000 in
set_option maxHeartbeats 1000000 in
theorem most_any (g : Nat) (p e : Int) (s : Value) (b : List UInt8) (w0 w : World) (hs : Row w0 s b) (hroom : b.length ≤ 140737488351232) (hb : Below w0.heap.size w0 w) (hg : w0.heap.size ≤ g)
    (h3 : At3 w g 91 s (.int .i64 p) (.int .i64 e)) :
    Calls Try.prog 56 #[.pointer (some ⟨g, 0, none⟩), .int .u64 32] w fun x w' => x = .returned (.int .i64 ((mostF b 32 p e).1 : Int)) ∧ At3 w' g 91 s (.int .i64 (mostF b 32 p e).2.1) (.int .i64 (mostF b 32 p e).2.2) ∧ Below w0.heap.size w0 w' := by
  have HN := hide (num_any g p e s b w0 w hs hroom hb hg h3)
  have hv := num_err b p e
  unfold mostF
  generalize numF b p e = R at *
  obtain ⟨V, P, E⟩ := R
  simp only at HN hv ⊢
  clear h3 hb
  by_cases hE : E = 0
  · subst hE
    rw [if_neg (by simp)]
    by_cases hV : 32 < V
    · rw [if_pos hV]
      have hV' : (32 : Int) < V := by omega
      go_enter Try.func56, Try.ntmps56
      go_wp2_with fail
      refine Calls.mono (unhide HN) ?_
      rintro x w1 ⟨rfl, k3, b1⟩
      have H3 := hide k3
      have HB := hide b1
      obtain ⟨c0, c1, c2, fz⟩ := k3.cells
      have f2 := fz 2
      clear fz k3 b1
      go_wp2
      go_ret
      exact ⟨rfl, (unhide H3).set2 _, (unhide HB).setCell (p := ⟨g, 2, none⟩) hg _⟩
    · rw [if_neg hV]
      have hV' : ¬ (32 : Int) < V := by omega
      have hwv : IntKind.i64.wrap (V : Int) = V := by rw [IntKind.wrap_i64]; omega
      go_enter Try.func56, Try.ntmps56
      go_wp2_with fail
      refine Calls.mono (unhide HN) ?_
      rintro x w1 ⟨rfl, k3, b1⟩
      have H3 := hide k3
      have HB := hide b1
      obtain ⟨c0, c1, c2, fz⟩ := k3.cells
      clear fz k3 b1
      go_wp2
      go_ret
      exact ⟨rfl, unhide H3, unhide HB⟩
  · rw [if_pos hE]
    have hE' : (E == 0) = false := by simp [hE]
    go_enter Try.func56, Try.ntmps56
    go_wp2_with fail
    refine Calls.mono (unhide HN) ?_
    rintro x w1 ⟨rfl, k3, b1⟩
    have H3 := hide k3
    have HB := hide b1
    obtain ⟨c0, c1, c2, fz⟩ := k3.cells
    clear fz k3 b1
    go_wp2
    go_ret
    exact ⟨rfl, unhide H3, unhide HB⟩
end Go.Proofs.Ytpampknbbpjkiaa
