/- Texts of ours, one behind the other: HelpObj. -/
import Derived.Test.YtlbhhdldeaehkaaGreatG10
import Derived.Test.YtlbhhdldeaehkaaGreatG34
/- help.Object: two objects that say the same. -/
namespace Go.Proofs.YtlbhhdldeaehkaaGreat
open Go.RowKit

theorem two_objs (w : World) (a b c d e f : Value) (t : Nat) : ((w.alloc (.cells #[a, b, c] t)).alloc (.cells #[d, e, f] t)).heap[w.heap.size]? = some (.cells #[a, b, c] t (0, 0)) ∧ ((w.alloc (.cells #[a, b, c] t)).alloc (.cells #[d, e, f] t)).heap[w.heap.size + 1]? = some (.cells #[d, e, f] t (0, 0)) := by
  refine ⟨(Below.heap_alloc _ _ _ (by simp)).trans (World.alloc_heap_new w _), ?_⟩
  have := World.alloc_heap_new (w.alloc (.cells #[a, b, c] t)) (.cells #[d, e, f] t)
  rwa [World.size_alloc] at this
theorem hobject_any (kd : Int) (ps ds : List Int) (p d p' d' : Value) (w : World) (h1 : VRow w p (Iw ps)) (h2 : VRow w d (Uw ds)) (h3 : VRow w p' (Iw ps)) (h4 : VRow w d' (Uw ds)) :
    Calls Tryz.prog 25 #[.agg #[.int .i64 kd, p, d], .agg #[.int .i64 kd, p', d']] w fun e w' => e = .returned (.bool true) ∧ Below w.heap.size w w' := by
  have HP := hide (fun w' (hb : Below w.heap.size w w') => HInt.plain_any p p' ps w' (h1.below hb) (h3.below hb))
  have HD := hide (fun w' (hb : Below w.heap.size w w') => HU32.plain_any d d' ds w' (h2.below hb) (h4.below hb))
  obtain ⟨a1, c1, rfl, q1⟩ := h1.shape
  obtain ⟨a2, c2, rfl, q2⟩ := h2.shape
  obtain ⟨a3, c3, rfl, q3⟩ := h3.shape
  obtain ⟨a4, c4, rfl, q4⟩ := h4.shape
  have eU : (Uw ds).length = ds.length := List.length_map _
  have eI : (Iw ps).length = ps.length := List.length_map _
  rw [eI] at HP ⊢
  rw [eU] at HD ⊢
  have hb0 : Below w.heap.size w ((w.alloc (.cells #[.int .i64 kd, .slice a1 ps.length c1, .slice a2 ds.length c2] 66)).alloc (.cells #[.int .i64 kd, .slice a3 ps.length c3, .slice a4 ds.length c4] 66)) := ((Below.refl _ w).alloc (Nat.le_refl _) _).alloc (by simp) _
  have HB0 := hide hb0
  have HV := hide (two_objs w (.int .i64 kd) (.slice a1 ps.length c1) (.slice a2 ds.length c2) (.int .i64 kd) (.slice a3 ps.length c3) (.slice a4 ds.length c4) 66)
  clear h1 h2 h3 h4 q1 q2 q3 q4 eU eI hb0
  go_enter Tryz.func25, Tryz.ntmps25
  go_wp2_with fail
  refine Calls.mono (unhide HP _ (unhide HB0)) ?_
  rintro e w1 ⟨rfl, b1⟩
  have HB1 := hide ((unhide HB0).trans (b1.mono (unhide HB0).size))
  obtain ⟨e1, e2⟩ := unhide HV
  obtain ⟨_, _, x2, _⟩ := three_cells ((b1.block _ (Array.getElem?_eq_some_iff.1 e1).1).trans e1)
  obtain ⟨_, _, y2, _⟩ := three_cells ((b1.block _ (Array.getElem?_eq_some_iff.1 e2).1).trans e2)
  clear b1 e1 e2
  go_wp2_with fail
  refine Calls.mono (unhide HD w1 (unhide HB1)) ?_
  rintro e w2 ⟨rfl, b2⟩
  have HB2 := hide ((unhide HB1).trans (b2.mono (unhide HB1).size))
  clear b2
  go_wp2_with fail
  go_ret
  exact ⟨rfl, unhide HB2⟩

end Go.Proofs.YtlbhhdldeaehkaaGreat
