/- Texts of ours, one behind the other: HelpU32, HelpInt. -/
import Derived.Test.YtlbhhdldeaehkaaG4
import Derived.Test.YtlbhhdldeaehkaaG31
import Derived.Deep.RegionHeld3
import Derived.BigQuiet
import Derived.WalkSmall
/- What the verifier's helpers do with slices of uint32: Own (a copy with three elements of spare room that are known), Plain and Kept (is it as it was?). -/
namespace Go.Proofs.Ytlbhhdldeaehkaa.HU32
open Go.RowKit

theorem info : (Try.prog.info? 44).map (fun i => (i.zero, i.size, i.bytes)) = some (some (.int .u32 0), 1, 4) := by kernel_rfl

/-- Block g holds these elements and three elements f of spare room behind. -/
def Owned (w : World) (g : Nat) (bs : List Int) (f : Int) : Prop := w.heap[g]? = some (.cells ((bs ++ List.replicate 3 f).map (Value.int .u32)).toArray 44 (0, 0))

theorem Owned.lt {w : World} {g : Nat} {bs : List Int} {f : Int} (h : Owned w g bs f) : g < w.heap.size := (Array.getElem?_eq_some_iff.1 h).1
theorem Owned.below {w w' : World} {g : Nat} {bs : List Int} {f : Int} (h : Owned w g bs f) (hb : Below w.heap.size w w') : Owned w' g bs f := (hb.block g h.lt).trans h
theorem Owned.stays {w w' : World} {g : Nat} {bs : List Int} {f : Int} (h : Owned w g bs f) (hb : w'.heap[g]? = w.heap[g]?) : Owned w' g bs f := hb.trans h
theorem Owned.cell {w : World} {g : Nat} {bs : List Int} {f : Int} (h : Owned w g bs f) (j : Nat) (hj : j < bs.length) : w.cell? ⟨g, j, none⟩ = some ((Value.int .u32) bs[j]) := by
  rw [cell_of_row w g j _ _ (0, 0) h]
  simp [List.getElem?_append, hj]
theorem Owned.spare {w : World} {g : Nat} {bs : List Int} {f : Int} (h : Owned w g bs f) (j : Nat) (h1 : bs.length ≤ j) (h2 : j < bs.length + 3) : w.cell? ⟨g, j, none⟩ = some ((Value.int .u32) f) := by
  rw [cell_of_row w g j _ _ (0, 0) h]
  rw [List.getElem?_toArray, List.getElem?_map, List.getElem?_append_right h1, List.getElem?_replicate, if_pos (by omega)]
  rfl
theorem Owned.row {w : World} {g : Nat} {bs : List Int} {f : Int} (h : Owned w g bs f) (hm : bs.length + 3 ≤ maxLen) : VRow w (.slice (some ⟨g, 0, none⟩) bs.length (bs.length + 3)) (bs.map (Value.int .u32)) := by
  refine ⟨_, _, by rw [List.length_map], by rw [List.length_map]; omega, hm, by simp, Or.inr ⟨g, 0, rfl, fun j v hv => ?_⟩⟩
  rw [List.getElem?_map] at hv
  obtain ⟨x, hx, rfl⟩ := Option.map_eq_some_iff.1 hv
  obtain ⟨hj, rfl⟩ := List.getElem?_eq_some_iff.1 hx
  rw [Nat.zero_add]
  exact h.cell j hj

theorem take_full {cur : Array Value} {l : List Value} {n : Nat} (hs : cur.size = n) (h : cur.toList.take n = l) : cur = l.toArray := by
  rw [List.take_of_length_le (by simp [hs])] at h
  rw [← h]
theorem own_step {cur : Array Value} {bs : List Int} {k : Nat} {f : Int} (h1 : bs.length ≤ k) (h2 : k < cur.size) (h : cur.toList.take k = (bs ++ List.replicate (k - bs.length) f).map (Value.int .u32)) :
    (cur.setIfInBounds k ((Value.int .u32) f)).toList.take (k + 1) = (bs ++ List.replicate (k + 1 - bs.length) f).map (Value.int .u32) := by
  rw [Array.toList_setIfInBounds, List.take_succ_eq_append_getElem (by simpa using h2), List.take_set, List.set_eq_of_length_le (by simp; omega), h]
  have e : k + 1 - bs.length = (k - bs.length) + 1 := by omega
  rw [e, List.replicate_succ']
  simp
theorem oneCell (bs : List Int) : ∀ u ∈ bs.map (Value.int .u32), u.oneCell' = true := by
  intro u hu
  obtain ⟨_, _, rfl⟩ := List.mem_map.1 hu
  rfl

theorem plain1_same (x : Int) (w : World) : Calls Try.prog 58 #[(Value.int .u32) x, (Value.int .u32) x] w fun e w' => e = .returned (.bool true) ∧ w' = w := by
  go_enter Try.func58, Try.ntmps58
  go_wp2
  go_ret
  exact ⟨by simp, rfl⟩

set_option maxHeartbeats 1000000 in
theorem same_any (s1 s2 : Value) (bs : List Int) (w : World) (h1 : VRow w s1 (bs.map (Value.int .u32))) (h2 : VRow w s2 (bs.map (Value.int .u32))) :
    Calls Try.prog 57 #[s1, s2, .func (.func 58) #[] #[]] w fun e w' => e = .returned (.bool true) ∧ Below w.heap.size w w' := by
  by_cases h0 : bs = []
  · subst h0
    obtain ⟨p1, c1, rfl, _, _, _⟩ := h1.shape
    obtain ⟨p2, c2, rfl, _, _, _⟩ := h2.shape
    clear h1 h2
    go_enter Try.func57, Try.ntmps57
    go_wp2
    refine wp_loop_rounds 1 ?_
    rw [rounds_succ]
    go_wp2
    go_ret
    exact ⟨rfl, Below.refl _ _⟩
  · have hne : bs.map (Value.int .u32) ≠ [] := by intro e; exact h0 (List.map_eq_nil_iff.1 e)
    obtain ⟨b1, o1, c1, rfl, hc1, hm1, hcell1⟩ := h1.open hne
    obtain ⟨b2, o2, c2, rfl, hc2, hm2, hcell2⟩ := h2.open hne
    rw [List.length_map] at hc1 hc2 ⊢
    unfold maxLen at hm1
    clear h1 h2 hne
    have hn : ((bs.length : Int) == bs.length) = true := by simp
    have HC1 := hide hcell1
    have HC2 := hide hcell2
    clear hcell1 hcell2
    go_enter Try.func57, Try.ntmps57
    go_wp2
    go_loopw [7] (fun i wr => ∃ k : Nat, k ≤ bs.length ∧ i = .int .i64 k ∧ Below w.heap.size w wr) (fun i _ => bs.length - (intOf i).toNat)
    case atStart => exact ⟨0, Nat.zero_le _, rfl, Below.refl _ _⟩
    case round =>
      obtain ⟨k, hk, rfl, hbel⟩ := hrel
      by_cases hlt : k < bs.length
      · have hgk : (bs.map (Value.int .u32))[k]? = some ((Value.int .u32) bs[k]) := by simp [List.getElem?_eq_getElem hlt]
        have ha := (hbel.cell (World.block_lt_of_cell? w _ (unhide HC1 k _ hgk))).trans (unhide HC1 k _ hgk)
        have hb := (hbel.cell (World.block_lt_of_cell? w _ (unhide HC2 k _ hgk))).trans (unhide HC2 k _ hgk)
        have hk0 : (0 : Int) ≤ k := by omega
        have hk1 : (k : Int) < bs.length := by omega
        generalize bs[k] = z at ha hb
        clear hgk
        go_wp2
        go_quiet ((go_at_call 58; exact Calls.quiet_of_same (plain1_same _ _)))
        go_wp2
        go_roundw
        case rel => exact ⟨k + 1, by omega, by go_num, below_drewN hbel _⟩
        case measure => simp [intOf]; omega
      · have hkn : k = bs.length := by omega
        subst hkn
        go_wp2
        go_ret
        exact ⟨rfl, hbel⟩

theorem plain_any (s1 s2 : Value) (bs : List Int) (w : World) (h1 : VRow w s1 (bs.map (Value.int .u32))) (h2 : VRow w s2 (bs.map (Value.int .u32))) :
    Calls Try.prog 32 #[s1, s2] w fun e w' => e = .returned (.bool true) ∧ Below w.heap.size w w' := by
  go_enter Try.func32, Try.ntmps32
  go_wp2_with fail
  refine (same_any s1 s2 bs w h1 h2).mono ?_
  rintro e w' ⟨rfl, hb⟩
  go_wp2
  go_ret
  exact ⟨rfl, hb⟩

end Go.Proofs.Ytlbhhdldeaehkaa.HU32

/- What the verifier's helpers do with slices of int: Own (a copy with three elements of spare room that are known), Plain and Kept (is it as it was?). -/
namespace Go.Proofs.Ytlbhhdldeaehkaa.HInt
open Go.RowKit

theorem info : (Try.prog.info? 3).map (fun i => (i.zero, i.size, i.bytes)) = some (some (.int .i64 0), 1, 8) := by kernel_rfl

/-- Block g holds these elements and three elements f of spare room behind. -/
def Owned (w : World) (g : Nat) (bs : List Int) (f : Int) : Prop := w.heap[g]? = some (.cells ((bs ++ List.replicate 3 f).map (Value.int .i64)).toArray 3 (0, 0))

theorem Owned.lt {w : World} {g : Nat} {bs : List Int} {f : Int} (h : Owned w g bs f) : g < w.heap.size := (Array.getElem?_eq_some_iff.1 h).1
theorem Owned.below {w w' : World} {g : Nat} {bs : List Int} {f : Int} (h : Owned w g bs f) (hb : Below w.heap.size w w') : Owned w' g bs f := (hb.block g h.lt).trans h
theorem Owned.stays {w w' : World} {g : Nat} {bs : List Int} {f : Int} (h : Owned w g bs f) (hb : w'.heap[g]? = w.heap[g]?) : Owned w' g bs f := hb.trans h
theorem Owned.cell {w : World} {g : Nat} {bs : List Int} {f : Int} (h : Owned w g bs f) (j : Nat) (hj : j < bs.length) : w.cell? ⟨g, j, none⟩ = some ((Value.int .i64) bs[j]) := by
  rw [cell_of_row w g j _ _ (0, 0) h]
  simp [List.getElem?_append, hj]
theorem Owned.spare {w : World} {g : Nat} {bs : List Int} {f : Int} (h : Owned w g bs f) (j : Nat) (h1 : bs.length ≤ j) (h2 : j < bs.length + 3) : w.cell? ⟨g, j, none⟩ = some ((Value.int .i64) f) := by
  rw [cell_of_row w g j _ _ (0, 0) h]
  rw [List.getElem?_toArray, List.getElem?_map, List.getElem?_append_right h1, List.getElem?_replicate, if_pos (by omega)]
  rfl
theorem Owned.row {w : World} {g : Nat} {bs : List Int} {f : Int} (h : Owned w g bs f) (hm : bs.length + 3 ≤ maxLen) : VRow w (.slice (some ⟨g, 0, none⟩) bs.length (bs.length + 3)) (bs.map (Value.int .i64)) := by
  refine ⟨_, _, by rw [List.length_map], by rw [List.length_map]; omega, hm, by simp, Or.inr ⟨g, 0, rfl, fun j v hv => ?_⟩⟩
  rw [List.getElem?_map] at hv
  obtain ⟨x, hx, rfl⟩ := Option.map_eq_some_iff.1 hv
  obtain ⟨hj, rfl⟩ := List.getElem?_eq_some_iff.1 hx
  rw [Nat.zero_add]
  exact h.cell j hj

theorem take_full {cur : Array Value} {l : List Value} {n : Nat} (hs : cur.size = n) (h : cur.toList.take n = l) : cur = l.toArray := by
  rw [List.take_of_length_le (by simp [hs])] at h
  rw [← h]
theorem own_step {cur : Array Value} {bs : List Int} {k : Nat} {f : Int} (h1 : bs.length ≤ k) (h2 : k < cur.size) (h : cur.toList.take k = (bs ++ List.replicate (k - bs.length) f).map (Value.int .i64)) :
    (cur.setIfInBounds k ((Value.int .i64) f)).toList.take (k + 1) = (bs ++ List.replicate (k + 1 - bs.length) f).map (Value.int .i64) := by
  rw [Array.toList_setIfInBounds, List.take_succ_eq_append_getElem (by simpa using h2), List.take_set, List.set_eq_of_length_le (by simp; omega), h]
  have e : k + 1 - bs.length = (k - bs.length) + 1 := by omega
  rw [e, List.replicate_succ']
  simp
theorem oneCell (bs : List Int) : ∀ u ∈ bs.map (Value.int .i64), u.oneCell' = true := by
  intro u hu
  obtain ⟨_, _, rfl⟩ := List.mem_map.1 hu
  rfl

theorem plain1_same (x : Int) (w : World) : Calls Try.prog 56 #[(Value.int .i64) x, (Value.int .i64) x] w fun e w' => e = .returned (.bool true) ∧ w' = w := by
  go_enter Try.func56, Try.ntmps56
  go_wp2
  go_ret
  exact ⟨by simp, rfl⟩

set_option maxHeartbeats 1000000 in
theorem same_any (s1 s2 : Value) (bs : List Int) (w : World) (h1 : VRow w s1 (bs.map (Value.int .i64))) (h2 : VRow w s2 (bs.map (Value.int .i64))) :
    Calls Try.prog 55 #[s1, s2, .func (.func 56) #[] #[]] w fun e w' => e = .returned (.bool true) ∧ Below w.heap.size w w' := by
  by_cases h0 : bs = []
  · subst h0
    obtain ⟨p1, c1, rfl, _, _, _⟩ := h1.shape
    obtain ⟨p2, c2, rfl, _, _, _⟩ := h2.shape
    clear h1 h2
    go_enter Try.func55, Try.ntmps55
    go_wp2
    refine wp_loop_rounds 1 ?_
    rw [rounds_succ]
    go_wp2
    go_ret
    exact ⟨rfl, Below.refl _ _⟩
  · have hne : bs.map (Value.int .i64) ≠ [] := by intro e; exact h0 (List.map_eq_nil_iff.1 e)
    obtain ⟨b1, o1, c1, rfl, hc1, hm1, hcell1⟩ := h1.open hne
    obtain ⟨b2, o2, c2, rfl, hc2, hm2, hcell2⟩ := h2.open hne
    rw [List.length_map] at hc1 hc2 ⊢
    unfold maxLen at hm1
    clear h1 h2 hne
    have hn : ((bs.length : Int) == bs.length) = true := by simp
    have HC1 := hide hcell1
    have HC2 := hide hcell2
    clear hcell1 hcell2
    go_enter Try.func55, Try.ntmps55
    go_wp2
    go_loopw [7] (fun i wr => ∃ k : Nat, k ≤ bs.length ∧ i = .int .i64 k ∧ Below w.heap.size w wr) (fun i _ => bs.length - (intOf i).toNat)
    case atStart => exact ⟨0, Nat.zero_le _, rfl, Below.refl _ _⟩
    case round =>
      obtain ⟨k, hk, rfl, hbel⟩ := hrel
      by_cases hlt : k < bs.length
      · have hgk : (bs.map (Value.int .i64))[k]? = some ((Value.int .i64) bs[k]) := by simp [List.getElem?_eq_getElem hlt]
        have ha := (hbel.cell (World.block_lt_of_cell? w _ (unhide HC1 k _ hgk))).trans (unhide HC1 k _ hgk)
        have hb := (hbel.cell (World.block_lt_of_cell? w _ (unhide HC2 k _ hgk))).trans (unhide HC2 k _ hgk)
        have hk0 : (0 : Int) ≤ k := by omega
        have hk1 : (k : Int) < bs.length := by omega
        generalize bs[k] = z at ha hb
        clear hgk
        go_wp2
        go_quiet ((go_at_call 56; exact Calls.quiet_of_same (plain1_same _ _)))
        go_wp2
        go_roundw
        case rel => exact ⟨k + 1, by omega, by go_num, below_drewN hbel _⟩
        case measure => simp [intOf]; omega
      · have hkn : k = bs.length := by omega
        subst hkn
        go_wp2
        go_ret
        exact ⟨rfl, hbel⟩

theorem plain_any (s1 s2 : Value) (bs : List Int) (w : World) (h1 : VRow w s1 (bs.map (Value.int .i64))) (h2 : VRow w s2 (bs.map (Value.int .i64))) :
    Calls Try.prog 31 #[s1, s2] w fun e w' => e = .returned (.bool true) ∧ Below w.heap.size w w' := by
  go_enter Try.func31, Try.ntmps31
  go_wp2_with fail
  refine (same_any s1 s2 bs w h1 h2).mono ?_
  rintro e w' ⟨rfl, hb⟩
  go_wp2
  go_ret
  exact ⟨rfl, hb⟩

end Go.Proofs.Ytlbhhdldeaehkaa.HInt
