/- Texts of ours, one behind the other: ArSameO. -/
import Derived.Test.YtlbhhdldeaehkaaG26
import Derived.Test.YtlbhhdldeaehkaaG33
/- help.Same of objects: two rows that read as the same objects. -/
namespace Go.Proofs.Ytlbhhdldeaehkaa
open Go.RowKit

set_option maxRecDepth 20000 in
set_option maxHeartbeats 2000000 in
theorem hsameobj_any (s1 s2 : Value) (L : List Ob) (w : World) (h1 : OL w s1 L) (h2 : OL w s2 L) (hl : L.length ≤ 1048576) :
    Calls Try.prog 13 #[s1, s2, .func (.func 15) #[] #[]] w fun e w' => e = .returned (.bool true) ∧ Below w.heap.size w w' := by
  have H1 := hide h1
  have H2 := hide h2
  obtain ⟨a1, c1, rfl, _⟩ := h1
  obtain ⟨a2, c2, rfl, _⟩ := h2
  have hn : ((L.length : Int) == L.length) = true := by simp
  have hmx : Try.prog.follows .mixedOrders = true := by kernel_rfl
  go_enter Try.func13, Try.ntmps13
  go_wp2_with fail
  go_loopw [7] (fun i wr => ∃ k : Nat, k ≤ L.length ∧ i = .int .i64 k ∧ Below w.heap.size w wr) (fun i _ => L.length - (intOf i).toNat)
  case atStart => exact ⟨0, Nat.zero_le _, rfl, Below.refl _ _⟩
  case round =>
    obtain ⟨k, hk, rfl, hb⟩ := hrel
    by_cases hlt : k < L.length
    · have hkI : (k : Int) < (L.length : Int) := by omega
      obtain ⟨g1, o1, p1, pc1, d1, dc1, rfl, x0, x1, x2, xr, xd⟩ := ((unhide H1).below hb).at k hlt
      obtain ⟨g2, o2, p2, pc2, d2, dc2, rfl, y0, y1, y2, yr, yd⟩ := ((unhide H2).below hb).at k hlt
      have HO := hide (fun (W : World) (hb : Below wr.heap.size wr W) => hobject_any L[k].1 L[k].2.1 L[k].2.2 _ _ _ _ W (xr.below hb) (xd.below hb) (yr.below hb) (yd.below hb))
      have hknw : IntKind.i64.wrap ((k : Int) + 1) = (k : Int) + 1 := by rw [IntKind.wrap_i64]; omega
      have HK := hide (And.intro hlt hb)
      generalize L[k] = x at *
      clear xr xd yr yd hk hlt hb
      go_wp2_with fail
      refine wp_region_still_tail 9 hmx (by kernel_rfl) ?_
      simp only [List.take_succ_cons, List.take_zero, List.drop_succ_cons, List.drop_zero]
      repeat (first | still_step)
      refine wpStill_nil ?_
      go_wp2_with fail
      refine Calls.mono (unhide HO _ ((Below.refl _ wr).drew)) ?_
      rintro e w3 ⟨rfl, b3⟩
      have HB3 := hide b3
      clear b3 x0 x1 x2 y0 y1 y2
      go_wp2_with fail
      refine ⟨⟨k + 1, (unhide HK).1, by go_num, (unhide HK).2.trans (((Below.refl _ wr).drew.trans (unhide HB3)).mono (unhide HK).2.size)⟩, ?_⟩
      have := (unhide HK).1
      simp [intOf]; omega
    · have hge : ¬ ((k : Int) < (L.length : Int)) := by omega
      clear hk hlt
      go_wp2_with fail
      go_ret
      exact ⟨rfl, hb⟩
end Go.Proofs.Ytlbhhdldeaehkaa
