/- The walk of the law SectorOpens, by the contracts of package sector. -/
import Derived.Test.YtndlnppgihhepaaSecLaws
import Derived.Test.YtndlnppgihhepaaSecOpen2
import Derived.Test.YtndlnppgihhepaaSecHelp
import Derived.Test.YtndlnppgihhepaaHelp
import Derived.OpenShut
namespace Go.Proofs.Ytndlnppgihhepaa
open Go.RowKit

set_option maxHeartbeats 1000000 in
theorem opens_any (cs : SealC) (ck : KnownC) (co : OpenC) (cg : GoodC) (s : Value) (b : List UInt8) (w : World) (hs : Row w s b) (hroom : b.length ≤ 140737488351232) :
    Calls Try.prog 4 #[s] w fun e w' => e = .returned (.bool true) ∧ Below w.heap.size w w' := by
  have HS := hide hs
  obtain ⟨⟨kk, tt, pl, ee⟩, ho⟩ : ∃ r, r = openR b := ⟨_, rfl⟩
  have CO := hide (fun s w (h : Row w s b) => co s b w hroom h)
  have CG := hide (fun s w (h : Row w s b) => cg s b w hroom h)
  have CR := hide (fun s w (h : Row w s b) => ropen_any s b w h)
  rw [← ho] at CO CG CR
  have CA := hide (awake_any cs ck)
  clear ho co cg cs ck
  go_enter Try.func4, Try.ntmps4
  go_wp2_with fail
  refine (own_any s b 71 71 rfl w hs hroom).mono ?_
  rintro e w1 ⟨g, rfl, hg, ho1, hb1⟩
  have hg1 : g < w1.heap.size := ho1.lt
  clear hs
  go_wp2_with fail
  refine Calls.mono (unhide CO _ w1 (ho1.row (by unfold maxLen; omega))) ?_
  rintro e w2 ⟨t, rfl, hm2, hb2⟩
  have ho2 := ho1.below hb2
  have B2 : Below w.heap.size w w2 := hb1.trans (hb2.mono hb1.size)
  clear ho1
  obtain ⟨pt, ct, lt, rfl, hlt⟩ := hm2.row.shape
  have HT := hide hlt
  clear hlt
  have BA : Below w2.heap.size w2 (w2.alloc (.cells #[.int .u8 (kk.toNat : Int), .int .u64 (tt : Nat), .slice pt lt ct] 35)) := (Below.refl _ _).alloc (Nat.le_refl _) _
  have HA := hide (And.intro (ho2.below BA) (And.intro (hm2.below BA) (B2.trans (BA.mono B2.size))))
  clear BA ho2 hm2 B2
  go_wp2_with fail
  refine Calls.mono (unhide CR _ _ ((unhide HS).below (unhide HA).2.2)) ?_
  rintro e w3 ⟨u, rfl, hown3, hb3⟩
  have ho3 := (unhide HA).1.below hb3
  have hm3 := (unhide HA).2.1.below hb3
  have B3 : Below w.heap.size w w3 := (unhide HA).2.2.trans (hb3.mono (unhide HA).2.2.size)
  have hx3 := (hb3.block w2.heap.size (by simp)).trans (heap_alloc_new _ _)
  have hs2 : w2.heap.size < w3.heap.size := (Array.getElem?_eq_some_iff.1 hx3).1
  have hu3 := row_of_owns hown3
  obtain ⟨pu, cu, lu, rfl, hlu⟩ := hu3.shape
  have HU := hide hlu
  clear hlu hown3 HA hb3
  obtain ⟨K, K0, Kx, CAW, CSE, CGO⟩ : ∃ K : World → Prop, K (w3.alloc (.cells #[.int .u8 (kk.toNat : Int), .int .u64 (tt : Nat), .slice pu lu cu] 35))
      ∧ Hid (∀ w', K w' → Below w.heap.size w w' ∧ Owned w' g b 71 ∧ Mine w' w1.heap.size (.slice pt lt ct) pl ∧ w'.heap[w2.heap.size]? = some (.cells #[.int .u8 (kk.toNat : Int), .int .u64 (tt : Nat), .slice pt lt ct] 35 (0, 0)) ∧ w'.heap[w3.heap.size]? = some (.cells #[.int .u8 (kk.toNat : Int), .int .u64 (tt : Nat), .slice pu lu cu] 35 (0, 0)))
      ∧ Hid (∀ w', K w' → Calls Try.prog 11 #[] w' fun e w'' => e = .returned (.bool true) ∧ K w'')
      ∧ Hid (∀ w', K w' → Calls Try.prog 19 #[.agg #[.int .u8 (kk.toNat : Int), .int .u64 (tt : Nat), .slice pt lt ct], .agg #[.int .u8 (kk.toNat : Int), .int .u64 (tt : Nat), .slice pu lu cu]] w' fun e w'' => e = .returned (.bool true) ∧ K w'')
      ∧ Hid (∀ w', K w' → Calls Try.prog 20 #[.slice (some ⟨g, 0, none⟩) b.length (b.length + 3)] w' fun e w'' => e = .returned (.bool (ee == 0)) ∧ K w'') := by
    have BA : Below w3.heap.size w3 (w3.alloc (.cells #[.int .u8 (kk.toNat : Int), .int .u64 (tt : Nat), .slice pu lu cu] 35)) := (Below.refl _ _).alloc (Nat.le_refl _) _
    refine ⟨fun w' => Row w' (.slice pu lu cu) pl ∧ Below w.heap.size w w' ∧ Owned w' g b 71 ∧ Mine w' w1.heap.size (.slice pt lt ct) pl ∧ w'.heap[w2.heap.size]? = some (.cells #[.int .u8 (kk.toNat : Int), .int .u64 (tt : Nat), .slice pt lt ct] 35 (0, 0)) ∧ w'.heap[w3.heap.size]? = some (.cells #[.int .u8 (kk.toNat : Int), .int .u64 (tt : Nat), .slice pu lu cu] 35 (0, 0)),
      ⟨hu3.below BA, B3.trans (BA.mono B3.size), ho3.below BA, hm3.below BA, (BA.block _ hs2).trans hx3, heap_alloc_new _ _⟩, fun w' h => h.2, ?_, ?_, ?_⟩
    · rintro w' ⟨h0, h1, h2, h3, h4, h5⟩
      refine (unhide CA w').mono ?_
      rintro e w'' ⟨rfl, hd⟩
      exact ⟨rfl, h0.below hd, h1.trans (hd.mono h1.size), h2.below hd, h3.below hd, (hd.block _ (Array.getElem?_eq_some_iff.1 h4).1).trans h4, (hd.block _ (Array.getElem?_eq_some_iff.1 h5).1).trans h5⟩
    · rintro w' ⟨h0, h1, h2, h3, h4, h5⟩
      refine (sector_any _ _ _ _ _ _ pl pl w' h3.row h0).mono ?_
      rintro e w'' ⟨rfl, hd⟩
      exact ⟨by simp, h0.below hd, h1.trans (hd.mono h1.size), h2.below hd, h3.below hd, (hd.block _ (Array.getElem?_eq_some_iff.1 h4).1).trans h4, (hd.block _ (Array.getElem?_eq_some_iff.1 h5).1).trans h5⟩
    · rintro w' ⟨h0, h1, h2, h3, h4, h5⟩
      refine Calls.mono (unhide CG _ w' (h2.row (by unfold maxLen; omega))) ?_
      rintro e w'' ⟨rfl, hd⟩
      exact ⟨rfl, h0.below hd, h1.trans (hd.mono h1.size), h2.below hd, h3.below hd, (hd.block _ (Array.getElem?_eq_some_iff.1 h4).1).trans h4, (hd.block _ (Array.getElem?_eq_some_iff.1 h5).1).trans h5⟩
  clear hx3 hu3 ho3 hm3 B3 CO CG CR CA hs2
  go_wp2_with fail
  refine Calls.mono (unhide CAW _ K0) ?_
  rintro e w4 ⟨rfl, k4⟩
  obtain ⟨_, _, _, x4, y4⟩ := unhide Kx _ k4
  have X4 := three_cells x4
  have Y4 := three_cells y4
  clear x4 y4 K0
  go_wp2_with fail
  refine Calls.mono (unhide CSE _ k4) ?_
  rintro e w5 ⟨rfl, k5⟩
  clear X4 Y4
  have hE : (ee != ee) = false := by simp
  go_wp2_with fail
  refine Calls.mono (unhide CGO _ k5) ?_
  rintro e w6 ⟨rfl, k6⟩
  have hG : ((ee == 0) != (ee == 0)) = false := by simp
  have hG2 : (!((ee == 0) == (ee == 0))) = false := by simp
  obtain ⟨B6, O6, M6, x6, _⟩ := unhide Kx _ k6
  obtain ⟨x0, x1, x2, _, _, _⟩ := three_cells x6
  clear x6
  go_wp2_with fail
  refine (spoil_mine _ pl w1.heap.size w6 M6).mono ?_
  rintro e w7 ⟨rfl, hb7⟩
  have ho7 := O6.below' hb7 hg1
  have B7 : Below w.heap.size w w7 := B6.trans (hb7.mono hb1.size)
  clear x0 x1 x2
  go_wp2_with fail
  refine (kept_any g s b 71 71 rfl w7 ho7 ((unhide HS).below B7) hroom).mono ?_
  rintro e w8 ⟨rfl, hb8⟩
  go_wp2
  go_ret
  exact ⟨rfl, B7.trans (hb8.mono B7.size)⟩

theorem walk_SectorOpens (s : Value) (b : List UInt8) (w : World) (hs : Row w s b) (hroom : b.length ≤ 140737488351232) :
    Calls Try.prog 4 #[s] w fun e w' => e = .returned (.bool true) ∧ Below w.heap.size w w' := by
  exact opens_any sealC knownC openC goodC s b w hs hroom
end Go.Proofs.Ytndlnppgihhepaa
