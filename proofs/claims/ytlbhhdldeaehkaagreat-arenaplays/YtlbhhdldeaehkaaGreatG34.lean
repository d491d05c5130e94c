/- Texts of ours, one behind the other: HelpU32, HelpInt. -/
import Derived.Test.YtlbhhdldeaehkaaGreatG4
import Derived.Test.YtlbhhdldeaehkaaGreatG33
import Derived.Deep.RegionHeld3
import Derived.BigQuiet
import Derived.WalkSmall
/- What the verifier's helpers do with slices of uint32: Own (a copy with three elements of spare room that are known), Plain and Kept (is it as it was?). -/
namespace Go.Proofs.YtlbhhdldeaehkaaGreat.HU32
open Go.RowKit

theorem info : (Tryz.prog.info? 31).map (fun i => (i.zero, i.size, i.bytes)) = some (some (.int .u32 0), 1, 4) := by kernel_rfl

/-- Block g holds these elements and three elements f of spare room behind. -/
def Owned (w : World) (g : Nat) (bs : List Int) (f : Int) : Prop := w.heap[g]? = some (.cells ((bs ++ List.replicate 3 f).map (Value.int .u32)).toArray 31 (0, 0))

theorem Owned.lt {w : World} {g : Nat} {bs : List Int} {f : Int} (h : Owned w g bs f) : g < w.heap.size := (Array.getElem?_eq_some_iff.1 h).1
theorem Owned.below {w w' : World} {g : Nat} {bs : List Int} {f : Int} (h : Owned w g bs f) (hb : Below w.heap.size w w') : Owned w' g bs f := (hb.block g h.lt).trans h
theorem Owned.stays {w w' : World} {g : Nat} {bs : List Int} {f : Int} (h : Owned w g bs f) (hb : w'.heap[g]? = w.heap[g]?) : Owned w' g bs f := hb.trans h
theorem Owned.cell {w : World} {g : Nat} {bs : List Int} {f : Int} (h : Owned w g bs f) (j : Nat) (hj : j < bs.length) : w.cell? ⟨g, j, none⟩ = some ((Value.int .u32) bs[j]) := by
  rw [cell_of_row w g j _ _ (0, 0) h]
  simp [List.getElem?_append, hj]
theorem Owned.spare {w : World} {g : Nat} {bs : List Int} {f : Int} (h : Owned w g bs f) (j : Nat) (h1 : bs.length ≤ j) (h2 : j < bs.length + 3) : w.cell? ⟨g, j, none⟩ = some ((Value.int .u32) f) := by
  rw [cell_of_row w g j _ _ (0, 0) h]
  rw [List.getElem?_toArray, List.getElem?_map, List.getElem?_append_right h1, List.getElem?_replicate, if_pos (by omega)]
  rfl
theorem Owned.row {w : World} {g : Nat} {bs : List Int} {f : Int} (h : Owned w g bs f) (hm : bs.length + 3 ≤ maxLen) : VRow w (.slice (some ⟨g, 0, none⟩) bs.length (bs.length + 3)) (bs.map (Value.int .u32)) := by
  refine ⟨_, _, by rw [List.length_map], by rw [List.length_map]; omega, hm, by simp, Or.inr ⟨g, 0, rfl, fun j v hv => ?_⟩⟩
  rw [List.getElem?_map] at hv
  obtain ⟨x, hx, rfl⟩ := Option.map_eq_some_iff.1 hv
  obtain ⟨hj, rfl⟩ := List.getElem?_eq_some_iff.1 hx
  rw [Nat.zero_add]
  exact h.cell j hj

theorem take_full {cur : Array Value} {l : List Value} {n : Nat} (hs : cur.size = n) (h : cur.toList.take n = l) : cur = l.toArray := by
  rw [List.take_of_length_le (by simp [hs])] at h
  rw [← h]
theorem own_step {cur : Array Value} {bs : List Int} {k : Nat} {f : Int} (h1 : bs.length ≤ k) (h2 : k < cur.size) (h : cur.toList.take k = (bs ++ List.replicate (k - bs.length) f).map (Value.int .u32)) :
    (cur.setIfInBounds k ((Value.int .u32) f)).toList.take (k + 1) = (bs ++ List.replicate (k + 1 - bs.length) f).map (Value.int .u32) := by
  rw [Array.toList_setIfInBounds, List.take_succ_eq_append_getElem (by simpa using h2), List.take_set, List.set_eq_of_length_le (by simp; omega), h]
  have e : k + 1 - bs.length = (k - bs.length) + 1 := by omega
  rw [e, List.replicate_succ']
  simp
theorem oneCell (bs : List Int) : ∀ u ∈ bs.map (Value.int .u32), u.oneCell' = true := by
  intro u hu
  obtain ⟨_, _, rfl⟩ := List.mem_map.1 hu
  rfl

set_option maxRecDepth 20000 in
set_option maxHeartbeats 1000000 in
theorem own_any (s : Value) (bs : List Int) (f : Int) (w : World) (hs : VRow w s (bs.map (Value.int .u32))) (hroom : (bs.length + 3) * 4 ≤ 140737488355328) :
    Calls Tryz.prog 34 #[s, (Value.int .u32) f] w fun e w' => ∃ g, e = .returned (.slice (some ⟨g, 0, none⟩) bs.length (bs.length + 3)) ∧ w.heap.size ≤ g ∧ Owned w' g bs f ∧ Below w.heap.size w w' := by
  obtain ⟨i0, hi, hz0, hz1, hz2⟩ := info_parts info
  have hs0 := hs
  obtain ⟨a, cap, rfl, hc1, hc2, hc3⟩ := hs.shape
  rw [List.length_map] at hc1
  rw [List.length_map] at hs0 ⊢
  clear hs
  go_enter Tryz.func34, Tryz.ntmps34
  go_wp2_with (at_make; refine wpList_make_own _ rfl _ _ 33 rfl w.heap.size 31 i0 (.int .u32 0) 1 Tryz.underlying33 hi hz0 hz1 .i64 .i64 ((bs.length : Int) + 3) (bs.length + 3) rfl rfl (by omega) ?b2 ?b3 ?b4 ?_)
  case b2 => rw [hz2]; omega
  case b3 => unfold maxLen; omega
  case b4 => exact Nat.le_refl _
  intro w1 hown1 hgrow1
  have hb1 : Below w.heap.size w w1 := (Below.refl _ _).grown hgrow1 (Nat.le_refl _) (fun k hk => by cases hk)
  have hcp := (hs0.below hb1).pos
  have hsz1 := hb1.size
  clear hgrow1 hs0
  go_wp2_with (at_builtin; refine wpList_append_fits_any _ rfl _ _ 33 rfl w.heap.size 31 i0 1 Tryz.underlying33 hi hz1 w.heap.size 0 (bs.length + 3) [] rfl hown1 a bs.length cap (bs.map (Value.int .u32)) rfl ?c1 ?c2 ?c3 ?c4 ?c5 ?_)
  case c1 => simp
  case c2 => intro ha; have := hc3 ha; omega
  case c3 =>
    intro ad had j u hu
    obtain ⟨ad', e1, e2⟩ := hcp (by obtain ⟨hj, _⟩ := List.getElem?_eq_some_iff.1 hu; omega)
    rw [had] at e1
    cases e1
    exact e2 j u hu
  case c4 => exact oneCell bs
  case c5 => omega
  intro w2 hown2 hgrow2
  have hb2 : Below w.heap.size w w2 := hb1.grown hgrow2 hsz1 (fun k hk => by cases hk; exact Nat.le_refl _)
  obtain ⟨cur, hblk, hcs, htake⟩ : ∃ cur : Array Value, w2.heap[w.heap.size]? = some (.cells cur 31 (0, 0)) ∧ cur.size = bs.length + 3 ∧ cur.toList.take bs.length = bs.map (Value.int .u32) := by
    rcases hown2.2 with ⟨h', _⟩ | ⟨g', cap', cur, h', _, hh, _, _, hcs, htake⟩
    · simp at h'
    · simp only [Value.slice.injEq, Option.some.injEq, Addr.mk.injEq, and_true, true_and] at h'
      obtain ⟨rfl, rfl⟩ := h'
      exact ⟨cur, hh, by simpa using hcs, by simpa using htake⟩
  clear hown2 hgrow2 hown1 hcp hb1 hc3
  go_wp2_with fail
  go_loopw [7] (fun i wr => ∃ (k : Nat) (cur : Array Value), bs.length ≤ k ∧ k ≤ bs.length + 3 ∧ i = .int .i64 k ∧ wr.heap[w.heap.size]? = some (.cells cur 31 (0, 0)) ∧ cur.size = bs.length + 3 ∧ Hid (cur.toList.take k = (bs ++ List.replicate (k - bs.length) f).map (Value.int .u32)) ∧ Below w.heap.size w wr)
    (fun i _ => bs.length + 3 - (intOf i).toNat)
  case atStart => exact ⟨bs.length, cur, Nat.le_refl _, by omega, rfl, hblk, hcs, by unfold Hid; simpa using htake, hb2⟩
  case round =>
    obtain ⟨k, cur, h1, h2, rfl, hblk, hcs, htake, hbel⟩ := hrel
    by_cases hlt : k < bs.length + 3
    · have hcell : wr.cell? ⟨w.heap.size, k, none⟩ = some (cur[k]'(by omega)) := by
        rw [cell_of_row wr w.heap.size k cur _ (0, 0) hblk]; exact Array.getElem?_eq_getElem (by omega)
      have hfz : wr.frozen? ⟨w.heap.size, k, none⟩ = false := frozen_of_block hblk
      go_wp2
      go_roundw
      case rel =>
        refine ⟨k + 1, cur.setIfInBounds k ((Value.int .u32) f), by omega, by omega, by go_num, heap_setCell_same wr _ k cur _ _ hblk, by simpa using hcs, own_step h1 (by omega) htake.out, hbel.setCell (Nat.le_refl _) _⟩
      case measure => simp [intOf]; omega
    · have hk : k = bs.length + 3 := by omega
      subst hk
      go_wp2
      go_ret
      refine ⟨w.heap.size, rfl, Nat.le_refl _, ?_, hbel⟩
      have := take_full hcs htake.out
      unfold Owned
      rw [hblk, this]
      simp

theorem plain1_same (x : Int) (w : World) : Calls Tryz.prog 87 #[(Value.int .u32) x, (Value.int .u32) x] w fun e w' => e = .returned (.bool true) ∧ w' = w := by
  go_enter Tryz.func87, Tryz.ntmps87
  go_wp2
  go_ret
  exact ⟨by simp, rfl⟩

set_option maxHeartbeats 1000000 in
theorem same_any (s1 s2 : Value) (bs : List Int) (w : World) (h1 : VRow w s1 (bs.map (Value.int .u32))) (h2 : VRow w s2 (bs.map (Value.int .u32))) :
    Calls Tryz.prog 86 #[s1, s2, .func (.func 87) #[] #[]] w fun e w' => e = .returned (.bool true) ∧ Below w.heap.size w w' := by
  by_cases h0 : bs = []
  · subst h0
    obtain ⟨p1, c1, rfl, _, _, _⟩ := h1.shape
    obtain ⟨p2, c2, rfl, _, _, _⟩ := h2.shape
    clear h1 h2
    go_enter Tryz.func86, Tryz.ntmps86
    go_wp2
    refine wp_loop_rounds 1 ?_
    rw [rounds_succ]
    go_wp2
    go_ret
    exact ⟨rfl, Below.refl _ _⟩
  · have hne : bs.map (Value.int .u32) ≠ [] := by intro e; exact h0 (List.map_eq_nil_iff.1 e)
    obtain ⟨b1, o1, c1, rfl, hc1, hm1, hcell1⟩ := h1.open hne
    obtain ⟨b2, o2, c2, rfl, hc2, hm2, hcell2⟩ := h2.open hne
    rw [List.length_map] at hc1 hc2 ⊢
    unfold maxLen at hm1
    clear h1 h2 hne
    have hn : ((bs.length : Int) == bs.length) = true := by simp
    have HC1 := hide hcell1
    have HC2 := hide hcell2
    clear hcell1 hcell2
    go_enter Tryz.func86, Tryz.ntmps86
    go_wp2
    go_loopw [7] (fun i wr => ∃ k : Nat, k ≤ bs.length ∧ i = .int .i64 k ∧ Below w.heap.size w wr) (fun i _ => bs.length - (intOf i).toNat)
    case atStart => exact ⟨0, Nat.zero_le _, rfl, Below.refl _ _⟩
    case round =>
      obtain ⟨k, hk, rfl, hbel⟩ := hrel
      by_cases hlt : k < bs.length
      · have hgk : (bs.map (Value.int .u32))[k]? = some ((Value.int .u32) bs[k]) := by simp [List.getElem?_eq_getElem hlt]
        have ha := (hbel.cell (World.block_lt_of_cell? w _ (unhide HC1 k _ hgk))).trans (unhide HC1 k _ hgk)
        have hb := (hbel.cell (World.block_lt_of_cell? w _ (unhide HC2 k _ hgk))).trans (unhide HC2 k _ hgk)
        have hk0 : (0 : Int) ≤ k := by omega
        have hk1 : (k : Int) < bs.length := by omega
        generalize bs[k] = z at ha hb
        clear hgk
        go_wp2
        go_quiet ((go_at_call 87; exact Calls.quiet_of_same (plain1_same _ _)))
        go_wp2
        go_roundw
        case rel => exact ⟨k + 1, by omega, by go_num, below_drewN hbel _⟩
        case measure => simp [intOf]; omega
      · have hkn : k = bs.length := by omega
        subst hkn
        go_wp2
        go_ret
        exact ⟨rfl, hbel⟩

theorem plain_any (s1 s2 : Value) (bs : List Int) (w : World) (h1 : VRow w s1 (bs.map (Value.int .u32))) (h2 : VRow w s2 (bs.map (Value.int .u32))) :
    Calls Tryz.prog 62 #[s1, s2] w fun e w' => e = .returned (.bool true) ∧ Below w.heap.size w w' := by
  go_enter Tryz.func62, Tryz.ntmps62
  go_wp2_with fail
  refine (same_any s1 s2 bs w h1 h2).mono ?_
  rintro e w' ⟨rfl, hb⟩
  go_wp2
  go_ret
  exact ⟨rfl, hb⟩

set_option maxHeartbeats 1000000 in
theorem kept_any (g : Nat) (s : Value) (bs : List Int) (f : Int) (w : World) (ho : Owned w g bs f) (hs : VRow w s (bs.map (Value.int .u32))) (hroom : (bs.length + 3) * 4 ≤ 140737488355328) :
    Calls Tryz.prog 37 #[.slice (some ⟨g, 0, none⟩) bs.length (bs.length + 3), s, (Value.int .u32) f] w fun e w' => e = .returned (.bool true) ∧ Below w.heap.size w w' := by
  have hr := ho.row (by unfold maxLen; omega)
  have HP := hide (plain_any _ s bs w hr hs)
  obtain ⟨p, c, rfl, _, _, _⟩ := hs.shape
  rw [List.length_map] at HP ⊢
  clear hs hr
  go_enter Tryz.func37, Tryz.ntmps37
  go_wp2_with fail
  refine Calls.mono (unhide HP) ?_
  rintro e w1 ⟨rfl, hb1⟩
  have ho1 := ho.below hb1
  clear HP ho
  go_wp2_with fail
  go_loop [8] (fun i => ∃ k : Nat, bs.length ≤ k ∧ k ≤ bs.length + 3 ∧ i = .int .i64 k) (fun i => bs.length + 3 - (intOf i).toNat)
  case atStart => exact ⟨bs.length, Nat.le_refl _, by omega, rfl⟩
  case round =>
    obtain ⟨k, h1, h2, rfl⟩ := hrel
    by_cases hlt : k < bs.length + 3
    · have hc := ho1.spare k h1 hlt
      clear ho1
      go_wp2
      go_round
      case rel => exact ⟨k + 1, by omega, by omega, by go_num⟩
      case measure => simp [intOf]; omega
    · have hk : k = bs.length + 3 := by omega
      subst hk
      go_wp2
      go_ret
      exact ⟨rfl, hb1⟩
end Go.Proofs.YtlbhhdldeaehkaaGreat.HU32

/- What the verifier's helpers do with slices of int: Own (a copy with three elements of spare room that are known), Plain and Kept (is it as it was?). -/
namespace Go.Proofs.YtlbhhdldeaehkaaGreat.HInt
open Go.RowKit

theorem info : (Tryz.prog.info? 3).map (fun i => (i.zero, i.size, i.bytes)) = some (some (.int .i64 0), 1, 8) := by kernel_rfl

/-- Block g holds these elements and three elements f of spare room behind. -/
def Owned (w : World) (g : Nat) (bs : List Int) (f : Int) : Prop := w.heap[g]? = some (.cells ((bs ++ List.replicate 3 f).map (Value.int .i64)).toArray 3 (0, 0))

theorem Owned.lt {w : World} {g : Nat} {bs : List Int} {f : Int} (h : Owned w g bs f) : g < w.heap.size := (Array.getElem?_eq_some_iff.1 h).1
theorem Owned.below {w w' : World} {g : Nat} {bs : List Int} {f : Int} (h : Owned w g bs f) (hb : Below w.heap.size w w') : Owned w' g bs f := (hb.block g h.lt).trans h
theorem Owned.stays {w w' : World} {g : Nat} {bs : List Int} {f : Int} (h : Owned w g bs f) (hb : w'.heap[g]? = w.heap[g]?) : Owned w' g bs f := hb.trans h
theorem Owned.cell {w : World} {g : Nat} {bs : List Int} {f : Int} (h : Owned w g bs f) (j : Nat) (hj : j < bs.length) : w.cell? ⟨g, j, none⟩ = some ((Value.int .i64) bs[j]) := by
  rw [cell_of_row w g j _ _ (0, 0) h]
  simp [List.getElem?_append, hj]
theorem Owned.spare {w : World} {g : Nat} {bs : List Int} {f : Int} (h : Owned w g bs f) (j : Nat) (h1 : bs.length ≤ j) (h2 : j < bs.length + 3) : w.cell? ⟨g, j, none⟩ = some ((Value.int .i64) f) := by
  rw [cell_of_row w g j _ _ (0, 0) h]
  rw [List.getElem?_toArray, List.getElem?_map, List.getElem?_append_right h1, List.getElem?_replicate, if_pos (by omega)]
  rfl
theorem Owned.row {w : World} {g : Nat} {bs : List Int} {f : Int} (h : Owned w g bs f) (hm : bs.length + 3 ≤ maxLen) : VRow w (.slice (some ⟨g, 0, none⟩) bs.length (bs.length + 3)) (bs.map (Value.int .i64)) := by
  refine ⟨_, _, by rw [List.length_map], by rw [List.length_map]; omega, hm, by simp, Or.inr ⟨g, 0, rfl, fun j v hv => ?_⟩⟩
  rw [List.getElem?_map] at hv
  obtain ⟨x, hx, rfl⟩ := Option.map_eq_some_iff.1 hv
  obtain ⟨hj, rfl⟩ := List.getElem?_eq_some_iff.1 hx
  rw [Nat.zero_add]
  exact h.cell j hj

theorem take_full {cur : Array Value} {l : List Value} {n : Nat} (hs : cur.size = n) (h : cur.toList.take n = l) : cur = l.toArray := by
  rw [List.take_of_length_le (by simp [hs])] at h
  rw [← h]
theorem own_step {cur : Array Value} {bs : List Int} {k : Nat} {f : Int} (h1 : bs.length ≤ k) (h2 : k < cur.size) (h : cur.toList.take k = (bs ++ List.replicate (k - bs.length) f).map (Value.int .i64)) :
    (cur.setIfInBounds k ((Value.int .i64) f)).toList.take (k + 1) = (bs ++ List.replicate (k + 1 - bs.length) f).map (Value.int .i64) := by
  rw [Array.toList_setIfInBounds, List.take_succ_eq_append_getElem (by simpa using h2), List.take_set, List.set_eq_of_length_le (by simp; omega), h]
  have e : k + 1 - bs.length = (k - bs.length) + 1 := by omega
  rw [e, List.replicate_succ']
  simp
theorem oneCell (bs : List Int) : ∀ u ∈ bs.map (Value.int .i64), u.oneCell' = true := by
  intro u hu
  obtain ⟨_, _, rfl⟩ := List.mem_map.1 hu
  rfl

set_option maxRecDepth 20000 in
set_option maxHeartbeats 1000000 in
theorem own_any (s : Value) (bs : List Int) (f : Int) (w : World) (hs : VRow w s (bs.map (Value.int .i64))) (hroom : (bs.length + 3) * 8 ≤ 140737488355328) :
    Calls Tryz.prog 33 #[s, (Value.int .i64) f] w fun e w' => ∃ g, e = .returned (.slice (some ⟨g, 0, none⟩) bs.length (bs.length + 3)) ∧ w.heap.size ≤ g ∧ Owned w' g bs f ∧ Below w.heap.size w w' := by
  obtain ⟨i0, hi, hz0, hz1, hz2⟩ := info_parts info
  have hs0 := hs
  obtain ⟨a, cap, rfl, hc1, hc2, hc3⟩ := hs.shape
  rw [List.length_map] at hc1
  rw [List.length_map] at hs0 ⊢
  clear hs
  go_enter Tryz.func33, Tryz.ntmps33
  go_wp2_with (at_make; refine wpList_make_own _ rfl _ _ 32 rfl w.heap.size 3 i0 (.int .i64 0) 1 Tryz.underlying32 hi hz0 hz1 .i64 .i64 ((bs.length : Int) + 3) (bs.length + 3) rfl rfl (by omega) ?b2 ?b3 ?b4 ?_)
  case b2 => rw [hz2]; omega
  case b3 => unfold maxLen; omega
  case b4 => exact Nat.le_refl _
  intro w1 hown1 hgrow1
  have hb1 : Below w.heap.size w w1 := (Below.refl _ _).grown hgrow1 (Nat.le_refl _) (fun k hk => by cases hk)
  have hcp := (hs0.below hb1).pos
  have hsz1 := hb1.size
  clear hgrow1 hs0
  go_wp2_with (at_builtin; refine wpList_append_fits_any _ rfl _ _ 32 rfl w.heap.size 3 i0 1 Tryz.underlying32 hi hz1 w.heap.size 0 (bs.length + 3) [] rfl hown1 a bs.length cap (bs.map (Value.int .i64)) rfl ?c1 ?c2 ?c3 ?c4 ?c5 ?_)
  case c1 => simp
  case c2 => intro ha; have := hc3 ha; omega
  case c3 =>
    intro ad had j u hu
    obtain ⟨ad', e1, e2⟩ := hcp (by obtain ⟨hj, _⟩ := List.getElem?_eq_some_iff.1 hu; omega)
    rw [had] at e1
    cases e1
    exact e2 j u hu
  case c4 => exact oneCell bs
  case c5 => omega
  intro w2 hown2 hgrow2
  have hb2 : Below w.heap.size w w2 := hb1.grown hgrow2 hsz1 (fun k hk => by cases hk; exact Nat.le_refl _)
  obtain ⟨cur, hblk, hcs, htake⟩ : ∃ cur : Array Value, w2.heap[w.heap.size]? = some (.cells cur 3 (0, 0)) ∧ cur.size = bs.length + 3 ∧ cur.toList.take bs.length = bs.map (Value.int .i64) := by
    rcases hown2.2 with ⟨h', _⟩ | ⟨g', cap', cur, h', _, hh, _, _, hcs, htake⟩
    · simp at h'
    · simp only [Value.slice.injEq, Option.some.injEq, Addr.mk.injEq, and_true, true_and] at h'
      obtain ⟨rfl, rfl⟩ := h'
      exact ⟨cur, hh, by simpa using hcs, by simpa using htake⟩
  clear hown2 hgrow2 hown1 hcp hb1 hc3
  go_wp2_with fail
  go_loopw [7] (fun i wr => ∃ (k : Nat) (cur : Array Value), bs.length ≤ k ∧ k ≤ bs.length + 3 ∧ i = .int .i64 k ∧ wr.heap[w.heap.size]? = some (.cells cur 3 (0, 0)) ∧ cur.size = bs.length + 3 ∧ Hid (cur.toList.take k = (bs ++ List.replicate (k - bs.length) f).map (Value.int .i64)) ∧ Below w.heap.size w wr)
    (fun i _ => bs.length + 3 - (intOf i).toNat)
  case atStart => exact ⟨bs.length, cur, Nat.le_refl _, by omega, rfl, hblk, hcs, by unfold Hid; simpa using htake, hb2⟩
  case round =>
    obtain ⟨k, cur, h1, h2, rfl, hblk, hcs, htake, hbel⟩ := hrel
    by_cases hlt : k < bs.length + 3
    · have hcell : wr.cell? ⟨w.heap.size, k, none⟩ = some (cur[k]'(by omega)) := by
        rw [cell_of_row wr w.heap.size k cur _ (0, 0) hblk]; exact Array.getElem?_eq_getElem (by omega)
      have hfz : wr.frozen? ⟨w.heap.size, k, none⟩ = false := frozen_of_block hblk
      go_wp2
      go_roundw
      case rel =>
        refine ⟨k + 1, cur.setIfInBounds k ((Value.int .i64) f), by omega, by omega, by go_num, heap_setCell_same wr _ k cur _ _ hblk, by simpa using hcs, own_step h1 (by omega) htake.out, hbel.setCell (Nat.le_refl _) _⟩
      case measure => simp [intOf]; omega
    · have hk : k = bs.length + 3 := by omega
      subst hk
      go_wp2
      go_ret
      refine ⟨w.heap.size, rfl, Nat.le_refl _, ?_, hbel⟩
      have := take_full hcs htake.out
      unfold Owned
      rw [hblk, this]
      simp

theorem plain1_same (x : Int) (w : World) : Calls Tryz.prog 72 #[(Value.int .i64) x, (Value.int .i64) x] w fun e w' => e = .returned (.bool true) ∧ w' = w := by
  go_enter Tryz.func72, Tryz.ntmps72
  go_wp2
  go_ret
  exact ⟨by simp, rfl⟩

set_option maxHeartbeats 1000000 in
theorem same_any (s1 s2 : Value) (bs : List Int) (w : World) (h1 : VRow w s1 (bs.map (Value.int .i64))) (h2 : VRow w s2 (bs.map (Value.int .i64))) :
    Calls Tryz.prog 71 #[s1, s2, .func (.func 72) #[] #[]] w fun e w' => e = .returned (.bool true) ∧ Below w.heap.size w w' := by
  by_cases h0 : bs = []
  · subst h0
    obtain ⟨p1, c1, rfl, _, _, _⟩ := h1.shape
    obtain ⟨p2, c2, rfl, _, _, _⟩ := h2.shape
    clear h1 h2
    go_enter Tryz.func71, Tryz.ntmps71
    go_wp2
    refine wp_loop_rounds 1 ?_
    rw [rounds_succ]
    go_wp2
    go_ret
    exact ⟨rfl, Below.refl _ _⟩
  · have hne : bs.map (Value.int .i64) ≠ [] := by intro e; exact h0 (List.map_eq_nil_iff.1 e)
    obtain ⟨b1, o1, c1, rfl, hc1, hm1, hcell1⟩ := h1.open hne
    obtain ⟨b2, o2, c2, rfl, hc2, hm2, hcell2⟩ := h2.open hne
    rw [List.length_map] at hc1 hc2 ⊢
    unfold maxLen at hm1
    clear h1 h2 hne
    have hn : ((bs.length : Int) == bs.length) = true := by simp
    have HC1 := hide hcell1
    have HC2 := hide hcell2
    clear hcell1 hcell2
    go_enter Tryz.func71, Tryz.ntmps71
    go_wp2
    go_loopw [7] (fun i wr => ∃ k : Nat, k ≤ bs.length ∧ i = .int .i64 k ∧ Below w.heap.size w wr) (fun i _ => bs.length - (intOf i).toNat)
    case atStart => exact ⟨0, Nat.zero_le _, rfl, Below.refl _ _⟩
    case round =>
      obtain ⟨k, hk, rfl, hbel⟩ := hrel
      by_cases hlt : k < bs.length
      · have hgk : (bs.map (Value.int .i64))[k]? = some ((Value.int .i64) bs[k]) := by simp [List.getElem?_eq_getElem hlt]
        have ha := (hbel.cell (World.block_lt_of_cell? w _ (unhide HC1 k _ hgk))).trans (unhide HC1 k _ hgk)
        have hb := (hbel.cell (World.block_lt_of_cell? w _ (unhide HC2 k _ hgk))).trans (unhide HC2 k _ hgk)
        have hk0 : (0 : Int) ≤ k := by omega
        have hk1 : (k : Int) < bs.length := by omega
        generalize bs[k] = z at ha hb
        clear hgk
        go_wp2
        go_quiet ((go_at_call 72; exact Calls.quiet_of_same (plain1_same _ _)))
        go_wp2
        go_roundw
        case rel => exact ⟨k + 1, by omega, by go_num, below_drewN hbel _⟩
        case measure => simp [intOf]; omega
      · have hkn : k = bs.length := by omega
        subst hkn
        go_wp2
        go_ret
        exact ⟨rfl, hbel⟩

theorem plain_any (s1 s2 : Value) (bs : List Int) (w : World) (h1 : VRow w s1 (bs.map (Value.int .i64))) (h2 : VRow w s2 (bs.map (Value.int .i64))) :
    Calls Tryz.prog 40 #[s1, s2] w fun e w' => e = .returned (.bool true) ∧ Below w.heap.size w w' := by
  go_enter Tryz.func40, Tryz.ntmps40
  go_wp2_with fail
  refine (same_any s1 s2 bs w h1 h2).mono ?_
  rintro e w' ⟨rfl, hb⟩
  go_wp2
  go_ret
  exact ⟨rfl, hb⟩

set_option maxHeartbeats 1000000 in
theorem kept_any (g : Nat) (s : Value) (bs : List Int) (f : Int) (w : World) (ho : Owned w g bs f) (hs : VRow w s (bs.map (Value.int .i64))) (hroom : (bs.length + 3) * 8 ≤ 140737488355328) :
    Calls Tryz.prog 36 #[.slice (some ⟨g, 0, none⟩) bs.length (bs.length + 3), s, (Value.int .i64) f] w fun e w' => e = .returned (.bool true) ∧ Below w.heap.size w w' := by
  have hr := ho.row (by unfold maxLen; omega)
  have HP := hide (plain_any _ s bs w hr hs)
  obtain ⟨p, c, rfl, _, _, _⟩ := hs.shape
  rw [List.length_map] at HP ⊢
  clear hs hr
  go_enter Tryz.func36, Tryz.ntmps36
  go_wp2_with fail
  refine Calls.mono (unhide HP) ?_
  rintro e w1 ⟨rfl, hb1⟩
  have ho1 := ho.below hb1
  clear HP ho
  go_wp2_with fail
  go_loop [8] (fun i => ∃ k : Nat, bs.length ≤ k ∧ k ≤ bs.length + 3 ∧ i = .int .i64 k) (fun i => bs.length + 3 - (intOf i).toNat)
  case atStart => exact ⟨bs.length, Nat.le_refl _, by omega, rfl⟩
  case round =>
    obtain ⟨k, h1, h2, rfl⟩ := hrel
    by_cases hlt : k < bs.length + 3
    · have hc := ho1.spare k h1 hlt
      clear ho1
      go_wp2
      go_round
      case rel => exact ⟨k + 1, by omega, by omega, by go_num⟩
      case measure => simp [intOf]; omega
    · have hk : k = bs.length + 3 := by omega
      subst hk
      go_wp2
      go_ret
      exact ⟨rfl, hb1⟩
end Go.Proofs.YtlbhhdldeaehkaaGreat.HInt
