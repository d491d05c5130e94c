/- What package frame does: Join. -/
import Derived.Test.YtdpoiieblbmofaaFrOwn7
import Derived.Test.YtdpoiieblbmofaaMine
namespace Go.Proofs.Ytdpoiieblbmofaa
open Go.RowKit

set_option maxRecDepth 20000 in
set_option maxHeartbeats 1000000 in
theorem join_any (v : Value) (l : List (Fr × Value)) (w : World) (hl : FL w v l) :
    Calls Try.prog 64 #[v] w fun e w' => ∃ t, e = .returned (.tuple #[t, .int .i64 (joinE (frs l))]) ∧ Mine w' w.heap.size t (joinB (frs l)) ∧ Below w.heap.size w w' := by
  obtain ⟨i0, hi, hz0, hz1, hz2⟩ := info_parts Try.info5
  have HWH := hide (whole_any v l w hl)
  unfold joinE joinB
  by_cases hr : IsRec (frs l)
  · rw [if_pos hr, if_pos hr]
    rw [decide_eq_true hr] at HWH
    have hne : l ≠ [] := by intro e; subst e; exact hr.1 rfl
    have hlen : (frs l).length = l.length := by simp [frs]
    have hle : (flatF (frs l)).length ≤ 8192 := hr.2.1
    have HTK : Hid (∀ k, (flatF ((frs l).take k)).length ≤ 8192) := by
      intro k
      have : flatF (frs l) = flatF ((frs l).take k) ++ flatF ((frs l).drop k) := by
        unfold flatF
        rw [← List.flatten_append, ← List.map_append, List.take_append_drop]
      rw [this, List.length_append] at hle
      omega
    have HFT := hide (fun k (h : k < (frs l).length) => flat_take (frs l) k h)
    have HGET : Hid (∀ j (h : j < l.length) (h' : j < (frs l).length), (frs l)[j] = l[j].1) := fun j h h' => by simp [frs]
    obtain ⟨b, off, cap, rfl, hc1, hc2, _, hat⟩ := hl.open hne
    have HAT := hide (fun w' (hb : Below w.heap.size w w') j (hj : j < l.length) => And.intro ((hat j hj).1.below hb) ((hat j hj).2.below hb))
    have HLEN := hide hlen
    have HALL : Hid (flatF ((frs l).take l.length) = flatF (frs l)) := by unfold Hid; rw [List.take_of_length_le (by omega)]
    unfold maxLen at hc2
    clear hat hl hr hlen hle
    go_enter Try.func64, Try.ntmps64
    go_wp2_with fail
    refine Calls.mono (unhide HWH) ?_
    rintro e w0 ⟨rfl, hb0⟩
    go_wp2_with fail
    go_loopw [4, 12] (fun t i wr => ∃ k : Nat, k ≤ l.length ∧ i = .int .i64 k ∧ wr.ownsRow w.heap.size 5 1 t (flatF ((frs l).take k)).length ((flatF ((frs l).take k)).map B) ∧ Hid (Below w.heap.size w wr)) (fun _ i _ => l.length - (intOf i).toNat)
    case atStart => exact ⟨0, Nat.zero_le _, rfl, by simpa [flatF] using World.ownsRow_nil _ _ _ _, hb0⟩
    case round =>
      obtain ⟨k, hk, rfl, hown, hbel⟩ := hrel
      by_cases hlt : k < l.length
      · obtain ⟨hatk, hrk⟩ := unhide HAT wr (unhide hbel) k hlt
        have hkf : k < (frs l).length := by rw [unhide HLEN]; exact hlt
        have hgk := unhide HGET k hlt hkf
        have hft := unhide HFT k hkf
        have hle := unhide HTK (k + 1)
        rw [hgk] at hft
        rw [hft, List.length_append] at hle
        have HF := hide hft
        obtain ⟨pk, lk, qk, hsk⟩ := slice_of_row hrk
        rw [hsk] at hatk hrk
        generalize l[k].1 = f at *
        obtain ⟨c0, c1, c2, c3⟩ := hatk
        have hkl : (k : Int) < l.length := by omega
        have hbA : Below wr.heap.size wr (wr.alloc (.cells #[.int .u64 (f.age : Int), .int .u64 (f.first : Int), .int .i64 f.of, .slice pk lk qk] 91)) := (Below.refl _ _).alloc (Nat.le_refl _) _
        have HRA := hide (hrk.below hbA)
        have HOA := hide (owns_below hown hbA)
        have hsz := (unhide hbel).size
        have HLT := hide (fun j hj => (hown.lt j hj).1)
        clear hft hgk hrk hbA hsk hown
        generalize flatF ((frs l).take k) = X at *
        go_wp2_with (at_builtin; refine wpList_append_row rfl _ _ 27 rfl w.heap.size 5 i0 (.int .u8 0) Try.underlying27 hi hz0 hz1 hz2 rfl _ _ _ rfl (unhide HOA) _ f.data rfl (unhide HRA) (by omega) (by simp; omega) ?_)
        intro v' w2 hown2 hgrow
        have hb2 : Below w.heap.size w w2 := ((unhide hbel).alloc hsz _).grown hgrow (by simp; omega) (fun j hj => unhide HLT j hj)
        have HB2 := hide hb2
        clear hgrow hb2 HLT HOA HRA c0 c1 c2 c3
        go_wp2
        go_roundw
        case rel => exact ⟨k + 1, by omega, by go_num, by rw [unhide HF, List.length_append, List.map_append]; exact hown2, unhide HB2⟩
        case measure => simp [intOf]; omega
      · have hkn : k = l.length := by omega
        subst hkn
        rw [unhide HALL] at hown
        go_wp2
        go_ret2
        exact ⟨_, rfl, mine_of_owns hown, unhide hbel⟩
  · rw [if_neg hr, if_neg hr]
    rw [decide_eq_false hr] at HWH
    clear hl hr
    go_enter Try.func64, Try.ntmps64
    go_wp2_with fail
    refine Calls.mono (unhide HWH) ?_
    rintro e w0 ⟨rfl, hb0⟩
    go_wp2
    go_ret2
    exact ⟨_, rfl, mine_nil _ _, hb0⟩
end Go.Proofs.Ytdpoiieblbmofaa
