/- Texts of ours, one behind the other: ThAlP. -/
import Derived.Test.YtegefnchkgkmgaaG16
import Derived.Test.YtegefnchkgkmgaaG19
import Derived.Test.YtegefnchkgkmgaaG30
/- What stands at a place of a heap, and of the heap compacted; a contract for cells.At at an object. -/
namespace Go.Proofs.Ytegefnchkgkmgaa
open Go.RowKit

theorem atR_is {ws : List Int} {a : Int} (h : isOb ws a) : atR ws a = (wd ws a.toNat % 16, ptsA ws a, dtA ws a, 0) := by
  obtain ⟨pre, rest, hs⟩ := List.append_of_mem h.2.2
  have := atR_some hs
  have h4 := (isOb_size h).2.2.2
  rw [h4] at this
  exact this
theorem cat_ob (s : Value) (ws : List Int) (a : Int) (w : World) (hs : VRow w s (Uw ws)) (hU : U32 ws) (hl : ws.length ≤ 1048577) (h : isOb ws a) :
    Calls Try.prog 26 #[s, .int .i64 a] w fun e w' => ∃ p cp d cd, e = .returned (.tuple #[.agg #[.int .i64 (wd ws a.toNat % 16), .slice p (ptsA ws a).length cp, .slice d (dtA ws a).length cd], .int .i64 0]) ∧ VRow w' (.slice p (ptsA ws a).length cp) (Iw (ptsA ws a)) ∧ VRow w' (.slice d (dtA ws a).length cd) (Uw (dtA ws a)) ∧ Below w.heap.size w w' := by
  refine (cat_any s ws a w hs hU (by omega)).mono ?_
  rintro e w' ⟨p, d, kd, er, ps, ds, rfl, hat, hop, hod, b⟩
  rw [atR_is h] at hat
  simp only [Prod.mk.injEq] at hat
  obtain ⟨rfl, rfl, rfl, rfl⟩ := hat
  obtain ⟨p, cp, rfl⟩ := ownsV_shape hop
  obtain ⟨d, cd, rfl⟩ := ownsV_shape hod
  exact ⟨p, cp, d, cd, rfl, vrow_of_owns (by simpa [Iw] using hop), vrow_of_owns (by simpa [Uw] using hod), b⟩
theorem sums_int {ws : List Int} (hU : U32 ws) (l : List Int) : sumW ws l = ((sums ws l : Nat) : Int) := by
  induction l with
  | nil => rfl
  | cons a l ih =>
    simp only [sumW, sums, ih, Int.natCast_add]
    unfold szA
    rw [szN_int (hU.wd a.toNat).1]
/-- What is asked of a compacted heap, object by object. -/
theorem alike_of {ws rs l : List Int} (h : Rts ws rs l) {a : Int} (ha : a ∈ l) : isOb (cW ws l) (toA ws l a) ∧ wd (cW ws l) (toA ws l a).toNat % 16 = wd ws a.toNat % 16 ∧ ptsA (cW ws l) (toA ws l a) = (ptsA ws a).map (toA ws l) ∧ dtA (cW ws l) (toA ws l a) = dtA ws a := by
  obtain ⟨h1, h2, h3⟩ := cW_pts h.toLiv ha
  exact ⟨cW_ob h.toLiv ha, by rw [h2], h1, h3⟩
end Go.Proofs.Ytegefnchkgkmgaa
