/- What the helper 'full' of layer 4's statements does, and that 'awake' answers true by the contracts of package disk. -/
import Derived.Test.YtkekikfiijbjmaaDiskCon
namespace Go.Proofs.Ytkekikfiijbjmaa
open Go.RowKit

/-- A sector of bytes one behind the other, from v on. -/
def fullB (v : UInt8) : List UInt8 := (List.range 512).map fun i => v + UInt8.ofNat i
def fullS (v : UInt8) (short : Bool) : List UInt8 := if short = true then (fullB v).take 511 else fullB v
theorem length_fullB (v : UInt8) : (fullB v).length = 512 := by unfold fullB; rw [List.length_map, List.length_range]
theorem full_step {cur : Array Value} {v : UInt8} {k : Nat} (hk : k < 512) (hc : cur.size = 512) (h : cur.toList.take k = ((fullB v).take k).map B) :
    (cur.setIfInBounds k (B (v + UInt8.ofNat k))).toList.take (k + 1) = ((fullB v).take (k + 1)).map B := by
  have hl := length_fullB v
  rw [Array.toList_setIfInBounds, List.take_succ_eq_append_getElem (by rw [List.length_set, Array.length_toList]; omega), List.take_set, List.set_eq_of_length_le (by simp; omega), h, List.take_succ_eq_append_getElem (by omega), List.map_append]
  simp [fullB]
theorem full_byte (v : UInt8) (k : Nat) : ((v.toNat : Int) + (k : Int)) % 256 = ((v + UInt8.ofNat k).toNat : Int) := by
  simp

set_option maxRecDepth 20000 in
set_option maxHeartbeats 1000000 in
theorem full_any (v : UInt8) (short : Bool) (w : World) : Calls Try.prog 20 #[.int .u8 (v.toNat : Int), .bool short] w fun e w' => ∃ t, e = .returned t ∧ Mine w' w.heap.size t (fullS v short) ∧ Below w.heap.size w w' := by
  obtain ⟨i0, hi, hz0, hz1, hz2⟩ := info_parts Try.info5
  have hv := v.toNat_lt
  go_enter Try.func20, Try.ntmps20
  go_wp2_with (at_make; refine wpList_make_full _ rfl _ _ 40 rfl w.heap.size 5 i0 (.int .u8 0) 1 Try.underlying40 hi hz0 hz1 .i64 .i64 512 512 512 rfl rfl (by omega) (by omega) (by rw [hz2]; omega) (by unfold maxLen; omega) (Nat.le_refl _) ?_)
  intro w1 hown hgrow
  have hb1 := (Below.refl w.heap.size w).grown hgrow (Nat.le_refl _) (fun k hk => by cases hk)
  have hblk := made_block hown
  have HB := hide hblk
  clear hown hgrow hblk
  go_wp2_with fail
  go_loopw [6] (fun i wr => ∃ (k : Nat) (cur : Array Value), k ≤ 512 ∧ i = .int .i64 k ∧ wr.heap[w.heap.size]? = some (.cells cur 5 (0, 0)) ∧ cur.size = 512 ∧ Hid (cur.toList.take k = ((fullB v).take k).map B) ∧ Below w.heap.size w wr) (fun i _ => 512 - (intOf i).toNat)
  case atStart => exact ⟨0, _, by omega, rfl, unhide HB, by simp, by unfold Hid; simp, hb1⟩
  case round =>
    obtain ⟨k, cur, hk, rfl, hblk, hcs, htk, hbel⟩ := hrel
    by_cases hlt : k < 512
    · obtain ⟨u, hcell⟩ : ∃ u, wr.cell? ⟨w.heap.size, k, none⟩ = some u := by
        rw [cell_of_row wr w.heap.size k cur _ (0, 0) hblk]; exact ⟨_, Array.getElem?_eq_getElem (by omega)⟩
      have hfz : wr.frozen? ⟨w.heap.size, k, none⟩ = false := frozen_of_block hblk
      have HN := hide (full_step (v := v) hlt hcs htk.out)
      have HBK := hide hblk
      have hvI : (v.toNat : Int) < 256 := by omega
      have hkI : (k : Int) < 512 := by omega
      have HV := hide (full_byte v k)
      have HCS := hide hcs
      clear hblk htk hcs hv
      go_wp2
      rw [unhide HV]
      exact ⟨⟨k + 1, cur.setIfInBounds k (B (v + UInt8.ofNat k)), by omega, by go_num, heap_setCell_same wr _ k cur _ _ (unhide HBK), by simpa using unhide HCS, unhide HN, hbel.setCell (Nat.le_refl _) _⟩, by simp [intOf]; omega⟩
    · obtain rfl : k = 512 := by omega
      have hlI : ¬ (512 : Int) < 512 := by omega
      have hrow : w.heap.size < wr.heap.size ∧ Row wr (.slice (some ⟨w.heap.size, 0, none⟩) 512 512) (fullB v) := by
        have hl := length_fullB v
        have ht := htk.out
        rw [List.take_of_length_le (by rw [Array.length_toList]; omega), List.take_of_length_le (by omega)] at ht
        have hc : cur = ((fullB v).map B).toArray := by rw [← ht]
        rw [hc] at hblk
        have h := row_of_block hblk 0 512 512 (by omega) (Nat.le_refl _) (by unfold maxLen; omega)
        rw [List.drop_zero, List.take_of_length_le (by omega)] at h
        exact ⟨(Array.getElem?_eq_some_iff.1 hblk).1, h⟩
      have HM : Hid (Mine wr w.heap.size (.slice (some ⟨w.heap.size, 0, none⟩) 512 512) (fullB v)) :=
        ⟨hrow.2, Or.inr ⟨w.heap.size, 0, 512, _, cur, by rw [length_fullB], Nat.le_refl _, hblk⟩⟩
      have HM2 : Hid (Mine wr w.heap.size (.slice (some ⟨w.heap.size, 0, none⟩) 511 512) ((fullB v).take 511)) := by
        have hl := length_fullB v
        have hl2 : ((fullB v).take 511).length = 511 := by rw [List.length_take]; omega
        obtain ⟨g2, o2, c2, e2, _, _, hc2⟩ := hrow.2.open (by intro e; rw [e] at hl; simp at hl)
        simp only [Value.slice.injEq, Option.some.injEq, Addr.mk.injEq, and_true] at e2
        obtain ⟨⟨rfl, rfl⟩, _, rfl⟩ := e2
        have h := Row.cut hc2 0 511 512 (by omega) (by omega) (by unfold maxLen; omega)
        rw [List.drop_zero] at h
        exact ⟨h, Or.inr ⟨w.heap.size, 0, 512, _, cur, by rw [hl2], Nat.le_refl _, hblk⟩⟩
      clear hrow hblk htk hcs
      cases short with
      | true =>
        go_wp2
        go_ret
        exact ⟨_, rfl, unhide HM2, hbel⟩
      | false =>
        go_wp2
        go_ret
        exact ⟨_, rfl, unhide HM, hbel⟩
end Go.Proofs.Ytkekikfiijbjmaa
