/- The document's own answers: the reader of layer 1 (Num, Most). -/
import Derived.Test.YtpiekbjpnifjlaaRefRv
import Derived.Test.YtpiekbjpnifjlaaFrOwn2
import Derived.Deep.RegionHeld3
namespace Go.Proofs.Ytpiekbjpnifjlaa
open Go.RowKit

/-- What Num answers at a place with an error, and the place and the error then. -/
def numF (b : List UInt8) (p e : Int) : Nat × Int × Int := if e ≠ 0 then (0, p, e) else if readE b p ≠ 0 then (0, p, readE b p) else (readV b p, readN b p, 0)
def mostF (b : List UInt8) (m : Nat) (p e : Int) : Nat × Int × Int :=
  if (numF b p e).2.2 ≠ 0 then (0, (numF b p e).2) else if m < (numF b p e).1 then (0, (numF b p e).2.1, 11) else numF b p e

set_option maxRecDepth 20000 in
set_option maxHeartbeats 1000000 in
theorem num_any (g : Nat) (p e : Int) (s : Value) (b : List UInt8) (w0 w : World) (hs : Row w0 s b) (hroom : b.length ≤ 140737488351232) (hb : Below w0.heap.size w0 w) (hg : w0.heap.size ≤ g)
    (h3 : At3 w g 61 s (.int .i64 p) (.int .i64 e)) :
    Calls Try.prog 32 #[.pointer (some ⟨g, 0, none⟩)] w fun x w' => x = .returned (.int .u64 ((numF b p e).1 : Int)) ∧ At3 w' g 61 s (.int .i64 (numF b p e).2.1) (.int .i64 (numF b p e).2.2) ∧ Below w0.heap.size w0 w' := by
  obtain ⟨q0, l0, cc0, hs0⟩ : ∃ q l c, s = .slice q l c := by obtain ⟨p, c, l, e, _⟩ := hs.shape; exact ⟨p, l, c, e⟩
  subst hs0
  obtain ⟨c0, c1, c2, fz⟩ := h3.cells
  unfold numF
  by_cases he : e = 0
  · subst he
    rw [if_neg (by simp)]
    have hdw : Below w.heap.size w w.drew := (Below.refl _ _).drew
    have HRV := hide (rrv_any (.slice q0 l0 cc0) b p w.drew ((hs.below hb).below hdw) hroom)
    obtain ⟨k0, k1, k2, fz'⟩ := (h3.below hdw).cells
    have H3 := hide (h3.below hdw)
    have HB := hide (hb.drew)
    have d0 := c0
    have d1 := c1
    by_cases hE : readE b p = 0
    · rw [if_neg (by simp [hE])]
      rw [hE] at HRV
      have f1 := fz 1
      clear fz fz' h3 hb hs hdw hE
      generalize readV b p = V at *
      generalize readN b p = N at *
      go_enter Try.func32, Try.ntmps32
      go_wp2_with fail
      go_region_held3 (fun w' => w'.cell? ⟨g, 0, none⟩ = some (.slice q0 l0 cc0) ∧ w'.cell? ⟨g, 1, none⟩ = some (.int .i64 p)) (first | assumption | go_keep)
        (first | (go_at_call 43; refine Calls.mono (unhide HRV) ?_; rintro x w1 ⟨rfl, rfl⟩))
      obtain ⟨k0, k1, k2, fz⟩ := (unhide H3).cells
      have f1' := fz 1
      clear fz
      go_wp2
      go_ret
      exact ⟨rfl, (unhide H3).set1 _, (unhide HB).setCell (p := ⟨g, 1, none⟩) hg _⟩
    · rw [if_pos hE]
      have hE' : (readE b p == 0) = false := by simp [hE]
      have f2 := fz 2
      clear fz fz' h3 hb hs hdw
      generalize readE b p = E at *
      generalize readV b p = V at *
      generalize readN b p = N at *
      go_enter Try.func32, Try.ntmps32
      go_wp2_with fail
      go_region_held3 (fun w' => w'.cell? ⟨g, 0, none⟩ = some (.slice q0 l0 cc0) ∧ w'.cell? ⟨g, 1, none⟩ = some (.int .i64 p)) (first | assumption | go_keep)
        (first | (go_at_call 43; refine Calls.mono (unhide HRV) ?_; rintro x w1 ⟨rfl, rfl⟩))
      obtain ⟨k0, k1, k2, fz⟩ := (unhide H3).cells
      have f2' := fz 2
      clear fz
      go_wp2
      go_ret
      exact ⟨rfl, (unhide H3).set2 _, (unhide HB).setCell (p := ⟨g, 2, none⟩) hg _⟩
  · rw [if_pos he]
    have he' : (e == 0) = false := by simp [he]
    clear fz
    go_enter Try.func32, Try.ntmps32
    go_wp2
    go_ret
    exact ⟨rfl, h3, hb⟩

theorem num_err (b : List UInt8) (p e : Int) : (numF b p e).1 < 18446744073709551616 := by
  unfold numF
  split
  · simp
  · split
    · simp
    · rename_i h1 h2
      exact (read_ok b p (by simpa using h2)).2.2.2

set_option maxRecDepth 20000 in
set_option maxHeartbeats 1000000 in
theorem most_any (g : Nat) (p e : Int) (s : Value) (b : List UInt8) (w0 w : World) (hs : Row w0 s b) (hroom : b.length ≤ 140737488351232) (hb : Below w0.heap.size w0 w) (hg : w0.heap.size ≤ g)
    (h3 : At3 w g 61 s (.int .i64 p) (.int .i64 e)) :
    Calls Try.prog 33 #[.pointer (some ⟨g, 0, none⟩), .int .u64 32] w fun x w' => x = .returned (.int .i64 ((mostF b 32 p e).1 : Int)) ∧ At3 w' g 61 s (.int .i64 (mostF b 32 p e).2.1) (.int .i64 (mostF b 32 p e).2.2) ∧ Below w0.heap.size w0 w' := by
  have HN := hide (num_any g p e s b w0 w hs hroom hb hg h3)
  have hv := num_err b p e
  unfold mostF
  generalize numF b p e = R at *
  obtain ⟨V, P, E⟩ := R
  simp only at HN hv ⊢
  clear h3 hb
  by_cases hE : E = 0
  · subst hE
    rw [if_neg (by simp)]
    by_cases hV : 32 < V
    · rw [if_pos hV]
      have hV' : (32 : Int) < V := by omega
      go_enter Try.func33, Try.ntmps33
      go_wp2_with fail
      refine Calls.mono (unhide HN) ?_
      rintro x w1 ⟨rfl, k3, b1⟩
      have H3 := hide k3
      have HB := hide b1
      obtain ⟨c0, c1, c2, fz⟩ := k3.cells
      have f2 := fz 2
      clear fz k3 b1
      go_wp2
      go_ret
      exact ⟨rfl, (unhide H3).set2 _, (unhide HB).setCell (p := ⟨g, 2, none⟩) hg _⟩
    · rw [if_neg hV]
      have hV' : ¬ (32 : Int) < V := by omega
      have hwv : IntKind.i64.wrap (V : Int) = V := by rw [IntKind.wrap_i64]; omega
      go_enter Try.func33, Try.ntmps33
      go_wp2_with fail
      refine Calls.mono (unhide HN) ?_
      rintro x w1 ⟨rfl, k3, b1⟩
      have H3 := hide k3
      have HB := hide b1
      obtain ⟨c0, c1, c2, fz⟩ := k3.cells
      clear fz k3 b1
      go_wp2
      go_ret
      exact ⟨rfl, unhide H3, unhide HB⟩
  · rw [if_pos hE]
    have hE' : (E == 0) = false := by simp [hE]
    go_enter Try.func33, Try.ntmps33
    go_wp2_with fail
    refine Calls.mono (unhide HN) ?_
    rintro x w1 ⟨rfl, k3, b1⟩
    have H3 := hide k3
    have HB := hide b1
    obtain ⟨c0, c1, c2, fz⟩ := k3.cells
    clear fz k3 b1
    go_wp2
    go_ret
    exact ⟨rfl, unhide H3, unhide HB⟩
end Go.Proofs.Ytpiekbjpnifjlaa
