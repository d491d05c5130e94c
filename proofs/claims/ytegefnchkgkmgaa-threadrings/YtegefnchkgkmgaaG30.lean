/- Texts of ours, one behind the other: ThTwice. -/
import Derived.Test.YtegefnchkgkmgaaG3
import Derived.Test.YtegefnchkgkmgaaG10
/- A heap that is compacted twice, as plain data; nothing here speaks of the program. -/
namespace Go.Proofs.Ytegefnchkgkmgaa
open Go.RowKit

theorem rts_live {ws rs l : List Int} (hU : U32 ws) (hR : rightB ws rs = true) (h : LiveIs ws rs l) : Rts ws rs l := by
  obtain ⟨r1, r2, r3, r4, r5⟩ := right_parts hR
  exact ⟨Liv.of hU hR h, r1, r3, r4, fun r hr => by
    by_cases h0 : r = 0
    · exact Or.inl h0
    · exact Or.inr ((h.2 r).2 (.root hr h0))⟩
/-- Compacted for some of its roots: as if it had been compacted for all first. -/
theorem twice_of {ws rs l qs m l2 : List Int} (h : Rts ws rs l) (hs : ∀ r ∈ qs, r = 0 ∨ r ∈ l) (hq : qs.length ≤ 16) (hm : LiveIs ws qs m) (h2 : LivD (cW ws l) (cR ws l qs) l2) :
    rightB (cW ws l) (cR ws l qs) = true ∧ l2 = m.map (toA ws l) ∧ outW (cW ws l) (cR ws l qs) l2 = cW ws m ∧ outR (cW ws l) (cR ws l qs) l2 = cR ws m qs := by
  have hR := cW_right h.toLiv h.pos hq hs
  have hl2 := (h2.1 hR).unique (cW_live h.toLiv hs hm)
  have hms := h.toLiv.sub hs hm
  have hml : ∀ a ∈ m, a ∈ l := fun a ha => h.toLiv.rch hs ((hm.2 a).1 ha)
  subst hl2
  refine ⟨hR, rfl, ?_, ?_⟩
  · unfold outW
    rw [if_pos hR]
    exact cc_cW h.toLiv hms hml
  · unfold outR
    rw [if_pos hR]
    exact cc_cR h.toLiv hml hs
theorem again_of {ws rs l l2 : List Int} (h : Rts ws rs l) (hl : LiveIs ws rs l) (h2 : LivD (cW ws l) (cR ws l rs) l2) :
    rightB (cW ws l) (cR ws l rs) = true ∧ outW (cW ws l) (cR ws l rs) l2 = cW ws l ∧ outR (cW ws l) (cR ws l rs) l2 = cR ws l rs ∧ (∀ x ∈ outP (cW ws l) (cR ws l rs) l2, x.1 = x.2) ∧ (outP (cW ws l) (cR ws l rs) l2).length ≤ 1048576 := by
  obtain ⟨a1, a2, a3, a4⟩ := twice_of h h.root h.few hl h2
  refine ⟨a1, a3, a4, fun x hx => ?_, ?_⟩
  · unfold outP at hx
    rw [if_pos a1, a2] at hx
    unfold posL at hx
    obtain ⟨y, hy, rfl⟩ := List.mem_map.1 hx
    obtain ⟨b, hb, rfl⟩ := List.mem_map.1 hy
    exact (cc_to h.toLiv (fun a ha => ha) (Or.inr hb)).symm
  · unfold outP
    rw [if_pos a1, a2]
    unfold posL
    rw [List.length_map, List.length_map]
    exact Nat.le_trans (obs_count ws l (h.rise.imp fun {a b} h => by omega) h.ob) h.most
end Go.Proofs.Ytegefnchkgkmgaa
