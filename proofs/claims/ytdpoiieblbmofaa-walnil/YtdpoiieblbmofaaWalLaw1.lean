/- The statements of layer 7: a device, a log on it, that the statements are awake; Spoil changes its own bytes alone. -/
import Derived.Test.YtdpoiieblbmofaaWalOwn10
import Derived.Test.YtdpoiieblbmofaaWalOwn6
import Derived.Test.YtdpoiieblbmofaaDiskOwn6
import Derived.Test.YtdpoiieblbmofaaLayRef
import Derived.Test.YtdpoiieblbmofaaHelp
import Derived.Lib.SlBytesConst
namespace Go.Proofs.Ytdpoiieblbmofaa
open Go.RowKit

theorem Keep.sset {F : Nat → Prop} {w w' : World} (h : Keep F w w') {b o : Nat} (hp : F b) (v : Value) : Keep F w (w'.setCell ⟨b, o, none⟩ v) := h.trans (keep_set w' b o v) (fun x hx => Or.inl (by rw [hx]; exact hp))
theorem Keep.salloc {F : Nat → Prop} {w w' : World} (h : Keep F w w') (ob : Obj) : Keep F w (w'.alloc ob) := h.trans (Keep.of_below (F := fun _ => False) ((Below.refl _ _).alloc (Nat.le_refl _) ob)) (fun _ hx => hx.elim)
theorem Keep.sdrew {F : Nat → Prop} {w w' : World} (h : Keep F w w') : Keep F w w'.drew := h.trans (Keep.of_below (F := fun _ => False) ((Below.refl _ _).drew)) (fun _ hx => hx.elim)

theorem spoil_own (g : Nat) (bs : List UInt8) (f : UInt8) (w : World) (ho : Owned w g bs f) (hroom : bs.length ≤ 140737488351232) :
    Calls Try.prog 28 #[.slice (some ⟨g, 0, none⟩) bs.length (bs.length + 3)] w fun e w' => e = .returned (.tuple #[]) ∧ Keep (fun k => k = g) w w' := by
  obtain ⟨cur, hcur⟩ : ∃ cur, cur = ((bs ++ List.replicate 3 f).map B).toArray := ⟨_, rfl⟩
  have hh : w.heap[g]? = some (.cells cur 5 (0, 0)) := by rw [hcur]; exact ho
  have hint : ∀ j, j < bs.length → ∃ z : Int, cur[j]? = some (.int .u8 z) := fun j hj => by
    have h := ho.cell j hj
    rw [cell_of_row w g j cur _ (0, 0) hh] at h
    exact ⟨(bs[j].toNat : Int), h⟩
  clear ho hcur
  go_enter Try.func28, Try.ntmps28
  go_wp2
  go_loopw [2] (fun i wr => ∃ (k : Nat) (cur : Array Value), k ≤ bs.length ∧ i = .int .i64 k ∧ wr.heap[g]? = some (.cells cur 5 (0, 0)) ∧ Hid (∀ j, j < bs.length → ∃ z : Int, cur[j]? = some (.int .u8 z)) ∧ Hid (Keep (fun k => k = g) w wr))
    (fun i _ => bs.length - (intOf i).toNat)
  case atStart => exact ⟨0, cur, Nat.zero_le _, rfl, hh, hint, Keep.refl _ _⟩
  case round =>
    obtain ⟨k, cur, hk, rfl, hblk, hint, hbel⟩ := hrel
    by_cases hlt : k < bs.length
    · obtain ⟨z, hz⟩ := hint.out k hlt
      have hc : wr.cell? ⟨g, k, none⟩ = some (.int .u8 z) := by rw [cell_of_row wr g k cur _ (0, 0) hblk]; exact hz
      have hf : wr.frozen? ⟨g, k, none⟩ = false := frozen_of_block hblk
      have hsz : k < cur.size := (Array.getElem?_eq_some_iff.1 hz).1
      clear hz
      go_wp2
      go_roundw
      case rel =>
        refine ⟨k + 1, cur.setIfInBounds k _, by omega, by go_num, heap_setCell_same wr g k cur _ _ hblk, ?_, (unhide hbel).trans (keep_set wr g k _) (fun _ h => Or.inl h)⟩
        intro j hj
        by_cases hjk : k = j
        · subst hjk
          exact ⟨_, by rw [Array.getElem?_setIfInBounds_self_of_lt hsz]⟩
        · rw [Array.getElem?_setIfInBounds_ne (by omega)]
          exact hint.out j hj
      case measure => simp [intOf]; omega
    · have hkn : k = bs.length := by omega
      subst hkn
      go_wp2
      go_end0
      exact ⟨rfl, unhide hbel⟩

set_option maxRecDepth 20000 in
set_option maxHeartbeats 400000 in
theorem device_any (w : World) : Calls Try.prog 12 #[] w fun e w' => ∃ dp, e = .returned (.tuple #[dp, layV 256]) ∧ (∃ F, DRep F w' dp (DK.new 256) ∧ ∀ k, F k → w.heap.size ≤ k) ∧ Below w.heap.size w w' := by
  have HN := hide (fun w' => onew_ok 256 w' (by omega) (by omega))
  have HP := hide (fun w' => rplan_any 256 w')
  rw [(plan_fits fits256).1, (plan_fits fits256).2] at HP
  unfold layV at HP ⊢
  generalize lz 256 = z at *
  generalize lseg 256 = m at *
  obtain ⟨W0, hW0⟩ : ∃ W0, W0 = w.alloc (.cells #[.int .i64 0, .int .i64 0, .int .i64 0, .int .i64 0, .int .i64 0, .int .i64 0, .int .i64 0, .int .i64 0, .int .i64 0] 33) := ⟨_, rfl⟩
  have hB0 : Below w.heap.size w W0 := by rw [hW0]; exact (Below.refl _ _).alloc (Nat.le_refl _) _
  have hX0 : W0.heap[w.heap.size]? = some (.cells #[.int .i64 0, .int .i64 0, .int .i64 0, .int .i64 0, .int .i64 0, .int .i64 0, .int .i64 0, .int .i64 0, .int .i64 0] 33 (0, 0)) := by rw [hW0]; exact heap_alloc_new w _
  have HW0 := hide hW0
  have HB0 := hide hB0
  have HX0 := hide hX0
  clear hW0 hB0 hX0
  go_enter Try.func12, Try.ntmps12
  go_wp2_with fail
  rw [← unhide HW0]
  refine Calls.mono (unhide HN _) ?_
  rintro e w1 ⟨dp, rfl, ⟨F, hD, hF⟩, b1⟩
  obtain ⟨dg, rfl⟩ := hD.ptr
  have HD1 := hide hD
  have HF1 := hide hF
  have HB1 := hide ((unhide HB0).trans (b1.mono (unhide HB0).size))
  have HX1 := hide ((b1.block w.heap.size (Array.getElem?_eq_some_iff.1 (unhide HX0)).1).trans (unhide HX0))
  have HS0 : Hid (w.heap.size < W0.heap.size) := (Array.getElem?_eq_some_iff.1 (unhide HX0)).1
  clear hD hF b1 HX0
  go_wp2_with fail
  refine Calls.mono (unhide HP _) ?_
  rintro e w2 ⟨rfl, b2⟩
  have HD2 := hide ((unhide HD1).stays b2.size (fun k hk => b2.block k ((unhide HD1).lt k hk)))
  have HB2 := hide ((unhide HB1).trans (b2.mono (unhide HB1).size))
  have hX2 := (b2.block w.heap.size (Array.getElem?_eq_some_iff.1 (unhide HX1)).1).trans (unhide HX1)
  obtain ⟨c0, c1, c2, c3, c4, c5, c6, c7, c8⟩ := nine_cells hX2
  have f : ∀ j, w2.frozen? ⟨w.heap.size, j, none⟩ = false := fun j => frozen_of_block hX2
  have f0 := f 0
  have f1 := f 1
  have f2 := f 2
  have f3 := f 3
  have f4 := f 4
  have f5 := f 5
  have f6 := f 6
  have f7 := f 7
  have f8 := f 8
  have hnl : w.heap.size < w2.heap.size := World.block_lt_of_cell? w2 _ c0
  have hnw : ¬ w2.heap.size = w.heap.size := by omega
  have hnw' : ¬ w.heap.size = w2.heap.size := by omega
  clear b2 f hX2 HX1
  go_wp2_with fail
  go_region
  go_wp2_with fail
  refine bodyPost_ret (v := .tuple #[.pointer (some dg), .agg #[.int .i64 256, .int .i64 3, .int .i64 13, .int .i64 z, .int .i64 (13 + z), .int .i64 (13 + 2 * z), .int .i64 z, .int .i64 (13 + 3 * z), .int .i64 m]]) (by simp [results, Try.results12, go_sem, *]) rfl ?_
  have key : ∀ W, Keep (fun k => k = w.heap.size) w2 W → ∃ dp, Ending.returned (.tuple #[.pointer (some dg), .agg #[.int .i64 256, .int .i64 3, .int .i64 13, .int .i64 z, .int .i64 (13 + z), .int .i64 (13 + 2 * z), .int .i64 z, .int .i64 (13 + 3 * z), .int .i64 m]]) = .returned (.tuple #[dp, .agg #[.int .i64 256, .int .i64 3, .int .i64 13, .int .i64 z, .int .i64 (13 + z), .int .i64 (13 + 2 * z), .int .i64 z, .int .i64 (13 + 3 * z), .int .i64 m]]) ∧ (∃ F, DRep F W dp (DK.new 256) ∧ ∀ k, F k → w.heap.size ≤ k) ∧ Below w.heap.size w W := by
    intro W hK
    refine ⟨_, rfl, ⟨F, (unhide HD2).stays hK.size (fun k hk => hK.block k ((unhide HD2).lt k hk) (fun e => by have h1 := unhide HF1 k hk; have h2 := unhide HS0; omega)), fun k hk => Nat.le_trans (unhide HB0).size (unhide HF1 k hk)⟩, ?_⟩
    exact (unhide HB2).trans (hK.below (unhide HB2).size (fun k hk => by rw [hk]; exact Nat.le_refl _))
  exact key _ (Keep.sdrew (Keep.salloc (Keep.sset (F := fun k => k = w.heap.size) (Keep.sset (F := fun k => k = w.heap.size) (Keep.sset (F := fun k => k = w.heap.size) (Keep.sset (F := fun k => k = w.heap.size) (Keep.sset (F := fun k => k = w.heap.size) (Keep.sset (F := fun k => k = w.heap.size) (Keep.sset (F := fun k => k = w.heap.size) (Keep.sset (F := fun k => k = w.heap.size) (Keep.sset (F := fun k => k = w.heap.size) (Keep.refl _ _) rfl _) rfl _) rfl _) rfl _) rfl _) rfl _) rfl _) rfl _) rfl _) _))

theorem open_blank512 : openR blank = (0, 0, [], 0) := by
  have h1 : blank.all (· == 0) = true := by
    rw [List.all_eq_true]
    intro x hx
    rw [List.eq_of_mem_replicate hx]
    rfl
  unfold openR
  rw [if_neg (by rw [length_blank]; decide), if_pos h1]
theorem shown_new (k : Nat) : (DK.new 256).shown k = blank := rfl
theorem opened_new (p A : Nat) : opened (DK.new 256) 256 0 p A = ([], lg0 0 A, 0) := by
  have hb : ∀ t, bearsW (shW (DK.new 256) 256 t) t = (zeroF, 0) := by
    intro t
    unfold bearsW shW
    rw [shown_new, open_blank512]
    rfl
  have hf : ∀ t, frameW (shW (DK.new 256) 256) (lz 256).toNat 0 t = (zeroF, 0) := by
    intro t
    unfold frameW
    rw [hb]
    split <;> rfl
  have hp : partsW (frameW (shW (DK.new 256) 256) (lz 256).toNat 0) A (lg0 0 A).next p = ([], 0) := by
    unfold partsW
    rw [hf, if_neg (by simp), if_pos (show headBad zeroF (lg0 0 A).next p A from Or.inl (by decide))]
  unfold opened recallW
  rw [hp, if_neg (by simp), if_pos (by decide)]
end Go.Proofs.Ytdpoiieblbmofaa
