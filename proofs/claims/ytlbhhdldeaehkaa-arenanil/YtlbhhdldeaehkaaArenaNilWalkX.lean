/- The walk of ArenaNil. -/
import Derived.Test.YtlbhhdldeaehkaaG20
import Derived.Test.YtlbhhdldeaehkaaG24
import Derived.Test.YtlbhhdldeaehkaaG26
import Derived.Test.YtlbhhdldeaehkaaG28
import Derived.Test.YtlbhhdldeaehkaaG33
namespace Go.Proofs.Ytlbhhdldeaehkaa
open Go.RowKit

set_option maxRecDepth 20000 in
set_option maxHeartbeats 2000000 in
theorem walk_ArenaNil (a0 : Int) (_ : (Lit.int .i64 a0).wf = true) (a1 : Int) (_ : (Lit.int .i64 a1).wf = true) (s2 : Value) (d2 : Dt) (w : World) (h2 : Reads limSaid w (.row 8 (.int .i64)) [s2] d2) :
    Calls Try.prog 5 #[.int .i64 a0, .int .i64 a1, s2] w fun e w' => e = .returned (.bool true) ∧ Below w.heap.size w w' := by
  obtain ⟨ps, hrow, _, _⟩ := nums_of_reads h2
  obtain ⟨p2, c2, rfl, _⟩ := hrow.shape
  clear hrow h2
  generalize (List.map (Value.int IntKind.i64) ps).length = n2
  have HMK := hide (fun W => amake_nil 1 (.slice p2 n2 c2) (.slice none 0 0) W)
  have HAT := hide (fun W => aat_nil a0 W)
  have HTD := hide (fun W => told16_any (.pointer none) [] W (fun z hz => by cases hz) (by simp) (aall_nil W))
  have HAW := hide (fun W => aawake16_any W)
  have HOB := hide (fun W => hobject_any 0 [] [] (.slice none 0 0) (.slice none 0 0) (.slice none 0 0) (.slice none 0 0) W (VRow.nil _) (VRow.nil _) (VRow.nil _) (VRow.nil _))
  have HSET := hide (fun W => aset_nil a0 a1 1 W)
  have HSR := hide (fun W => asetroot_nil a1 a0 W)
  have HRT := hide (fun W => aroot_nil a1 W)
  have HPK := hide (fun W => apack_nil W)
  have HUS := hide (fun W => aused_nil W)
  have HLV := hide (fun W => alive_nil W)
  have HWD := hide (fun W => awords_nil W)
  have HFK := hide (fun W => afork_nil W)
  go_enter Try.func5, Try.ntmps5
  go_wp2_with fail
  refine Calls.mono (unhide HMK _) ?_
  rintro e w1 ⟨rfl, rfl⟩
  go_wp2_with fail
  refine Calls.mono (unhide HAT _) ?_
  rintro e w2 ⟨rfl, b2⟩
  have HB2 := hide b2
  clear b2
  go_wp2_with fail
  refine Calls.mono (unhide HTD _) ?_
  rintro e w3 ⟨v3, vo3, rfl, hr3, _, b3⟩
  obtain ⟨p3, c3, rfl, _⟩ := hr3.shape
  have hlen0 : (plV (obs [] 1)).length = 0 := by decide
  rw [hlen0] at hr3 ⊢
  have hnw := World.alloc_heap_new w2 (.cells #[.int .i64 0, .slice none 0 0, .slice none 0 0] 35)
  have hb23 : Below w2.heap.size w2 w3 := ((Below.refl _ w2).alloc (Nat.le_refl _) _).trans (b3.mono (by simp))
  have HO : Hid (∀ W, Below w3.heap.size w3 W → W.cell? ⟨w2.heap.size, 0, none⟩ = some (.int .i64 0) ∧ W.cell? ⟨w2.heap.size, 1, none⟩ = some (.slice none 0 0) ∧ W.cell? ⟨w2.heap.size, 2, none⟩ = some (.slice none 0 0)) := fun W hb => by
    have h3 := (b3.block _ (Array.getElem?_eq_some_iff.1 hnw).1).trans hnw
    have h4 := (hb.block _ (Array.getElem?_eq_some_iff.1 h3).1).trans h3
    obtain ⟨z0, z1, z2, _⟩ := three_cells h4
    exact ⟨z0, z1, z2⟩
  have HB3 := hide ((unhide HB2).trans (hb23.mono (unhide HB2).size))
  clear hr3 b3 hnw hb23
  go_wp2_with fail
  refine Calls.mono (unhide HAW _) ?_
  rintro e w4 ⟨rfl, b4⟩
  obtain ⟨z0, z1, z2⟩ := unhide HO w4 b4
  have HB4 := hide ((unhide HB3).trans (b4.mono (unhide HB3).size))
  clear b4
  go_wp2_with fail
  refine Calls.mono (unhide HOB _) ?_
  rintro e w5 ⟨rfl, b5⟩
  have HB5 := hide ((unhide HB4).trans (b5.mono (unhide HB4).size))
  clear b5 z0 z1 z2
  go_wp2_with fail
  refine Calls.mono (unhide HSET _) ?_
  rintro e wz ⟨rfl, rfl⟩
  go_wp2_with fail
  refine Calls.mono (unhide HSR _) ?_
  rintro e wz ⟨rfl, rfl⟩
  go_wp2_with fail
  refine Calls.mono (unhide HRT _) ?_
  rintro e wz ⟨rfl, rfl⟩
  go_wp2_with fail
  refine Calls.mono (unhide HPK _) ?_
  rintro e wz ⟨rfl, rfl⟩
  go_wp2_with fail
  refine Calls.mono (unhide HUS _) ?_
  rintro e wz ⟨rfl, rfl⟩
  go_wp2_with fail
  refine Calls.mono (unhide HLV _) ?_
  rintro e wz ⟨rfl, rfl⟩
  go_wp2_with fail
  refine Calls.mono (unhide HWD _) ?_
  rintro e wz ⟨rfl, rfl⟩
  go_wp2_with fail
  refine Calls.mono (unhide HFK _) ?_
  rintro e wz ⟨rfl, rfl⟩
  go_wp2_with fail
  go_ret
  exact ⟨rfl, unhide HB5⟩
end Go.Proofs.Ytlbhhdldeaehkaa
