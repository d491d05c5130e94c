/- The walk of the statement 'ThreadFollows'. -/
import Derived.Test.YtegefnchkgkmgaaG19
import Derived.Test.YtegefnchkgkmgaaG21
import Derived.Test.YtegefnchkgkmgaaG28
import Derived.Test.YtegefnchkgkmgaaG29
namespace Go.Proofs.Ytegefnchkgkmgaa
open Go.RowKit

theorem pr_of_krow {w : World} {v : Value} {L : List (Int × Int)} (h : HPos.R w v L) : PR w v L := by
  obtain ⟨a, cap, e, h1, h2, h3, h4, h5⟩ := h
  refine ⟨a, cap, e, h1, h2, h3, ?_⟩
  rcases h5 with h5 | ⟨b, off, e2, hc⟩
  · exact Or.inl (List.length_eq_zero_iff.1 h5)
  · exact Or.inr ⟨b, off, e2, fun j hj => HPos.R.at hc j hj⟩
def posSh : Sh := .struct (.cons (.int .i64) (.cons (.int .i64) .nil))
theorem pos_of_reads {w : World} {v : Value} {d : Dt} (h : Reads limSaid w (.row 16 posSh) [v] d) : ∃ l : List (Int × Int), HPos.R w v l ∧ l.length * 16 ≤ 140737488351232 := by
  obtain ⟨l, h1, _, h3⟩ := krow_of_reads (X := Int × Int) (C := HPos.C) (P := fun _ => True) (k := 2) (0, 0) (fun _ => rfl) (by decide) rfl (fun {cs d} h => by
    obtain ⟨c1, r1, d1, dr1, rfl, _, rfl, ⟨n1, rfl, w1, _⟩, c2, r2, d2, dr2, rfl, _, rfl, ⟨n2, rfl, w2, _⟩, rfl, _⟩ := h
    exact ⟨(n1, n2), rfl, trivial⟩) h
  unfold limSaid reachBytes at h3
  exact ⟨l, h1, by omega⟩

set_option maxRecDepth 20000 in
set_option maxHeartbeats 2000000 in
theorem follows_any (s : Value) (L : List (Int × Int)) (a : Int) (w : World) (hs : HPos.R w s L) (hl : L.length * 16 ≤ 140737488351232) :
    Calls Try.prog 4 #[s, .int .i64 a] w fun e w' => e = .returned (.bool true) ∧ Below w.heap.size w w' := by
  have hm : L.length + 3 ≤ maxLen := by unfold maxLen; omega
  have HOW := hide (HPos.own_any s L (71, 0) w hs hl)
  have HFO := hide (fun W (g : Nat) (h : HPos.Owned W g L (71, 0)) => follow_any _ L a W (pr_of_krow (h.row hm)) (by omega))
  have HRF := hide (fun W (hb : Below w.heap.size w W) => rfollow_any s L a W ((pr_of_krow hs).below hb) (by omega))
  have HK := hide (fun W (g : Nat) (h : HPos.Owned W g L (71, 0)) (hb : Below w.heap.size w W) => HPos.kept_any g s L (71, 0) W h (hs.below hb) hl)
  generalize fndP L a = FA at *
  clear hs hl hm
  go_enter Try.func4, Try.ntmps4
  go_wp2_with fail
  refine Calls.mono (unhide HOW) ?_
  rintro e w1 ⟨g, rfl, hg, ho1, b1⟩
  have HO1 := hide ho1
  have HB1 := hide b1
  clear ho1 b1 hg HOW
  go_wp2_with fail
  refine Calls.mono (lawake15_any askC w1) ?_
  rintro e w2 ⟨rfl, b2⟩
  have HO2 := hide ((unhide HO1).below b2)
  have HB2 := hide ((unhide HB1).trans (b2.mono (unhide HB1).size))
  clear b2 HO1 HB1
  go_wp2_with fail
  refine Calls.mono (unhide HFO w2 g (unhide HO2)) ?_
  rintro e w3 ⟨rfl, b3⟩
  have HO3 := hide ((unhide HO2).below b3)
  have HB3 := hide ((unhide HB2).trans (b3.mono (unhide HB2).size))
  clear b3 HO2 HB2
  go_wp2_with fail
  refine Calls.mono (unhide HRF w3 (unhide HB3)) ?_
  rintro e w4 ⟨rfl, hw⟩
  obtain rfl := hw.symm
  go_wp2_with fail
  refine Calls.mono (unhide HK w3 g (unhide HO3) (unhide HB3)) ?_
  rintro e w5 ⟨rfl, b5⟩
  have HB5 := hide ((unhide HB3).trans (b5.mono (unhide HB3).size))
  clear b5
  go_wp2_with fail
  go_ret
  exact ⟨rfl, unhide HB5⟩

theorem walk_ThreadFollows (s0 : Value) (d0 : Dt) (a1 : Int) (_w1 : (Lit.int .i64 a1).wf = true) (w : World) (h0 : Reads limSaid w (.row 16 (.struct (.cons (.int .i64) (.cons (.int .i64) .nil)))) [s0] d0) :
    Calls Try.prog 4 #[s0, .int .i64 a1] w fun e w' => e = .returned (.bool true) ∧ Below w.heap.size w w' := by
  obtain ⟨l, h1, h2⟩ := pos_of_reads h0
  exact follows_any s0 l a1 w h1 h2
end Go.Proofs.Ytegefnchkgkmgaa
