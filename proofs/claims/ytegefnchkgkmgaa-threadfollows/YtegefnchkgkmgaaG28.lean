/- Texts of ours, one behind the other: HelpPos. -/
import Derived.Test.YtegefnchkgkmgaaG4
import Derived.Test.YtegefnchkgkmgaaG23
import Derived.Test.YtegefnchkgkmgaaG27
/- What the verifier's helpers do with slices of dunnage/api.Pos: Own, Plain, Same, Kept. (Written by mkhelpk.py.) -/
namespace Go.Proofs.Ytegefnchkgkmgaa.HPos
open Go.RowKit

theorem info : (Try.prog.info? 36).map (fun i => (i.zero, i.size, i.bytes)) = some (some (.agg #[.int .i64 0, .int .i64 0]), 2, 16) := by kernel_rfl
abbrev X : Type := Int × Int
def C (x : X) : List Value := [.int .i64 x.1, .int .i64 x.2]
theorem C_len (x : X) : (C x).length = 2 := rfl
theorem set_take {cur : Array Value} {pre : List Value} {n : Nat} (a0 a1 : Value) (h : cur.toList.take n = pre) (hn : n + 2 ≤ cur.size) :
    ((cur.setIfInBounds n a0).setIfInBounds (n + 1) a1).toList.take (n + 2) = pre ++ [a0, a1] := by
  simp only [Array.toList_setIfInBounds]
  have hl : cur.toList.length = cur.size := Array.length_toList
  have h0 := h
  have h1 := setk_take a0 h0 (by omega)
  have h2 := setk_take a1 h1 (by simp only [List.length_set]; omega)
  simpa using h2

/-- Rows of these. -/
abbrev R (w : World) (s : Value) (l : List X) : Prop := KRow 2 w s l.length (l.flatMap C)
theorem R.at {w : World} {b off : Nat} {l : List X} (h : ∀ (j : Nat) (v : Value), (l.flatMap C)[j]? = some v → w.cell? ⟨b, off + j, none⟩ = some v) (k : Nat) (hk : k < l.length) :
    w.cell? ⟨b, off + k * 2, none⟩ = some (.int .i64 l[k].1) ∧ w.cell? ⟨b, off + k * 2 + 1, none⟩ = some (.int .i64 l[k].2) := by
  have hc := fun i hi => flat_get C_len l k hk i hi
  refine ⟨?_, ?_⟩
  · exact h (k * 2) _ (by have := hc 0 (by omega); rw [Nat.add_zero] at this; rw [this]; rfl)
  · rw [Nat.add_assoc]; exact h (k * 2 + 1) _ (by rw [hc 1 (by omega)]; rfl)

/-- Block g holds these and three things f of spare room behind. -/
def Owned (w : World) (g : Nat) (l : List X) (f : X) : Prop := w.heap[g]? = some (.cells ((l ++ List.replicate 3 f).flatMap C).toArray 36 (0, 0))
theorem Owned.lt {w : World} {g : Nat} {l : List X} {f : X} (h : Owned w g l f) : g < w.heap.size := (Array.getElem?_eq_some_iff.1 h).1
theorem Owned.below {w w' : World} {g : Nat} {l : List X} {f : X} (h : Owned w g l f) (hb : Below w.heap.size w w') : Owned w' g l f := (hb.block g (Array.getElem?_eq_some_iff.1 h).1).trans h
theorem Owned.row {w : World} {g : Nat} {l : List X} {f : X} (h : Owned w g l f) (hm : l.length + 3 ≤ maxLen) : R w (.slice (some ⟨g, 0, none⟩) l.length (l.length + 3)) l := by
  refine ⟨_, _, rfl, by omega, hm, by simp, flat_len C_len l, Or.inr ⟨g, 0, rfl, fun j v hj => ?_⟩⟩
  rw [Nat.zero_add, cell_of_row w g j _ _ (0, 0) h, List.getElem?_toArray, List.flatMap_append, List.getElem?_append_left (List.getElem?_eq_some_iff.1 hj).1]
  exact hj
theorem Owned.spare {w : World} {g : Nat} {l : List X} {f : X} (h : Owned w g l f) (k : Nat) (h1 : l.length ≤ k) (h2 : k < l.length + 3) (i : Nat) (hi : i < 2) : w.cell? ⟨g, k * 2 + i, none⟩ = (C f)[i]? := by
  rw [cell_of_row w g _ _ _ (0, 0) h, List.getElem?_toArray, flat_get C_len (l ++ List.replicate 3 f) k (by simp; omega) i hi, List.getElem_append_right h1, List.getElem_replicate]

set_option maxRecDepth 20000 in
set_option maxHeartbeats 2000000 in
theorem own_any (s : Value) (l : List X) (f : X) (w : World) (hs : R w s l) (hroom : l.length * 16 ≤ 140737488351232) :
    Calls Try.prog 21 #[s, .agg #[.int .i64 f.1, .int .i64 f.2]] w fun e w' => ∃ g, e = .returned (.slice (some ⟨g, 0, none⟩) l.length (l.length + 3)) ∧ w.heap.size ≤ g ∧ Owned w' g l f ∧ Below w.heap.size w w' := by
  obtain ⟨i0, hi, hz0, hz1, hz2⟩ := info_parts info
  obtain ⟨a, cap, rfl, hc1, hc2, hc3⟩ := KRow.shape hs
  obtain ⟨o, ho⟩ : ∃ o, o = Obj.cells #[.int .i64 f.1, .int .i64 f.2] 36 := ⟨_, rfl⟩
  have hb0 : Below w.heap.size w (w.alloc o) := (Below.refl _ _).alloc (Nat.le_refl _) _
  have hs0 : (w.alloc o).heap.size = w.heap.size + 1 := by simp
  have HB0 := hide hb0
  have HNB := hide (alloc_newk w o)
  rw [ho] at HB0 HNB hs0
  have HS0 := hide hs0
  clear hb0 hs0
  go_enter Try.func21, Try.ntmps21
  go_wp2_with (at_make; refine wpList_make_own _ rfl _ _ 27 rfl (w.heap.size + 1) 36 i0 (.agg #[.int .i64 0, .int .i64 0]) 2 Try.underlying27 hi hz0 hz1 .i64 .i64 ((l.length : Int) + 3) (l.length + 3) rfl rfl (by omega) ?b2 ?b3 ?b4 ?_)
  case b2 => rw [hz2]; omega
  case b3 => unfold maxLen; omega
  case b4 => rw [unhide HS0]; omega
  intro w1 hown1 hgrow1
  have hb1 : Below (w.heap.size + 1) (w.alloc (.cells #[.int .i64 f.1, .int .i64 f.2] 36)) w1 := (Below.refl _ _).grown hgrow1 (by rw [unhide HS0]; omega) (fun k hk => by cases hk)
  have hB1 : Below w.heap.size w w1 := (unhide HB0).trans (hb1.mono (by omega))
  have hblk1 := (hb1.block w.heap.size (by omega)).trans (unhide HNB)
  have hcp := KRow.pos (hs.below hB1)
  have hsz1 := hB1.size
  have hlt1 : w.heap.size + 1 < w1.heap.size := by
    have := (hown1.lt (w.heap.size + 1) rfl).2
    exact this
  clear hgrow1 hb1 hs HS0 HNB
  go_wp2_with (at_builtin; refine wpList_append_fits_any _ rfl _ _ 27 rfl (w.heap.size + 1) 36 i0 2 Try.underlying27 hi hz1 (w.heap.size + 1) 0 (l.length + 3) [] rfl hown1 a l.length cap (l.flatMap C) rfl ?c1 ?c2 ?c3 ?c4 ?c5 ?_)
  case c1 => exact flat_len C_len l
  case c2 => intro ha; have := hc3 ha; omega
  case c3 =>
    intro ad had j u hu
    have hj := (List.getElem?_eq_some_iff.1 hu).1
    rw [flat_len C_len] at hj
    obtain ⟨ad', e1, e2⟩ := hcp (by omega)
    rw [had] at e1
    cases e1
    exact e2 j u hu
  case c4 =>
    intro u hu
    simp only [List.mem_flatMap, C, List.mem_cons, List.not_mem_nil, or_false] at hu
    obtain ⟨x, _, rfl | rfl⟩ := hu <;> rfl
  case c5 => omega
  intro w2 hown2 hgrow2
  have hB2 : Below w.heap.size w w2 := hB1.grown hgrow2 hsz1 (fun k hk => by cases hk; omega)
  have hblk2 := (hgrow2.block w.heap.size (by omega) (fun e => by simp at e)).trans hblk1
  obtain ⟨cur, hcur, hcs, htake⟩ : ∃ cur : Array Value, w2.heap[w.heap.size + 1]? = some (.cells cur 36 (0, 0)) ∧ cur.size = (l.length + 3) * 2 ∧ cur.toList.take (l.length * 2) = l.flatMap C := by
    rcases hown2.2 with ⟨h', _⟩ | ⟨g', cap', cur, h', _, hh, _, _, hcs, htake⟩
    · simp at h'
    · simp only [Value.slice.injEq, Option.some.injEq, Addr.mk.injEq, and_true, true_and] at h'
      obtain ⟨rfl, rfl⟩ := h'
      exact ⟨cur, hh, by simpa using hcs, by simpa using htake⟩
  have HBL := hide hblk2
  clear hown2 hgrow2 hown1 hcp hB1 hblk1 hblk2
  go_wp2_with fail
  go_loopw [7] (fun i wr => ∃ (k : Nat) (cur : Array Value), l.length ≤ k ∧ k ≤ l.length + 3 ∧ i = .int .i64 k ∧ wr.heap[w.heap.size + 1]? = some (.cells cur 36 (0, 0)) ∧ Hid (cur.size = (l.length + 3) * 2) ∧ Hid (cur.toList.take (k * 2) = (l ++ List.replicate (k - l.length) f).flatMap C) ∧ Hid (Below w.heap.size w wr) ∧ Hid (wr.heap[w.heap.size]? = some (.cells #[.int .i64 f.1, .int .i64 f.2] 36 (0, 0))))
    (fun i _ => l.length + 3 - (intOf i).toNat)
  case atStart => exact ⟨l.length, cur, Nat.le_refl _, by omega, rfl, hcur, hcs, by unfold Hid; simpa using htake, hB2, HBL⟩
  case round =>
    obtain ⟨k, cur, h1, h2, rfl, hcur, hcs, htake, hbel, hfb⟩ := hrel
    by_cases hlt : k < l.length + 3
    · have hci : ∀ i, i < 2 → ∃ u, wr.cell? ⟨w.heap.size + 1, k * 2 + i, none⟩ = some u := fun i hi => by
        have hq : k * 2 + i < cur.size := by rw [unhide hcs]; omega
        exact ⟨cur[k * 2 + i], by rw [cell_of_row wr (w.heap.size + 1) (k * 2 + i) cur _ (0, 0) hcur]; exact Array.getElem?_eq_getElem hq⟩
      obtain ⟨u0, c0⟩ : ∃ u, wr.cell? ⟨w.heap.size + 1, k * 2, none⟩ = some u := hci 0 (by omega)
      obtain ⟨u1, c1⟩ := hci 1 (by omega)
      have fz : ∀ j, wr.frozen? ⟨w.heap.size + 1, j, none⟩ = false := fun j => frozen_of_block hcur
      have f0 := fz (k * 2)
      have f1 := fz (k * 2 + 1)
      have m0 := cell_of_row wr w.heap.size 0 _ _ (0, 0) (unhide hfb)
      have m1 := cell_of_row wr w.heap.size 1 _ _ (0, 0) (unhide hfb)
      simp only [List.getElem?_toArray, List.getElem?_cons_succ, List.getElem?_cons_zero] at m0 m1
      have HCU := hide hcur
      clear fz hci hcur
      go_wp2
      go_roundw
      case rel =>
        have e1 := heap_setCell_same wr (w.heap.size + 1) (k * 2) cur _ (.int .i64 f.1) (unhide HCU)
        have e2 := heap_setCell_same _ (w.heap.size + 1) (k * 2 + 1) _ _ (.int .i64 f.2) e1
        refine ⟨k + 1, _, by omega, by omega, by go_num, e2, ?_, ?_, ?_, ?_⟩
        · unfold Hid; simpa using unhide hcs
        · unfold Hid
          have h9 := set_take (.int .i64 f.1) (.int .i64 f.2) (unhide htake) (by rw [unhide hcs]; omega)
          rw [Nat.succ_mul, h9, show k + 1 - l.length = (k - l.length) + 1 by omega, List.replicate_succ', ← List.append_assoc, List.flatMap_append]
          simp [C]
        · exact ((unhide hbel).setCell (p := ⟨w.heap.size + 1, k * 2, none⟩) (by simp) _).setCell (p := ⟨w.heap.size + 1, k * 2 + 1, none⟩) (by simp) _
        · unfold Hid
          rw [heap_setCell_other _ ⟨w.heap.size + 1, k * 2 + 1, none⟩ _ _ (by simp), heap_setCell_other _ ⟨w.heap.size + 1, k * 2, none⟩ _ _ (by simp)]
          exact unhide hfb
      case measure => simp [intOf]; omega
    · have hk : k = l.length + 3 := by omega
      subst hk
      have HCU := hide hcur
      clear hcur
      go_wp2
      go_ret
      refine ⟨w.heap.size + 1, rfl, by omega, ?_, unhide hbel⟩
      unfold Owned
      have h9 := unhide htake
      rw [List.take_of_length_le (by rw [Array.length_toList, unhide hcs]; omega)] at h9
      rw [unhide HCU, show cur = ((l ++ List.replicate 3 f).flatMap C).toArray by rw [← Array.toArray_toList (xs := cur), h9]; simp]

set_option maxRecDepth 20000 in
theorem plain1_any (c : X) (w : World) : Calls Try.prog 46 #[.agg #[.int .i64 c.1, .int .i64 c.2], .agg #[.int .i64 c.1, .int .i64 c.2]] w fun e w' => e = .returned (.bool true) ∧ Below w.heap.size w w' := by
  have HB := hide (fun o o' => ((Below.refl w.heap.size w).alloc (Nat.le_refl _) o).alloc (by simp) o')
  go_enter Try.func46, Try.ntmps46
  go_wp2
  go_ret
  exact ⟨by first | rfl | simp, unhide HB _ _⟩

theorem ent_plain1 (args : Array Value) (w : World) : (callFunc 46 args).run Try.prog w = .ok (.enter 46 args) w := by kernel_rfl

theorem cells_up {w w' : World} {b o : Nat} {v0 v1 : Value} (h : w.cell? ⟨b, o, none⟩ = some v0 ∧ w.cell? ⟨b, o + 1, none⟩ = some v1) (hb : Below w.heap.size w w') :
    w'.cell? ⟨b, o, none⟩ = some v0 ∧ w'.cell? ⟨b, o + 1, none⟩ = some v1 := by
  obtain ⟨a0, a1⟩ := h
  have hlt := World.block_lt_of_cell? w _ a0
  have hc := fun i => hb.cell (p := ⟨b, i, none⟩) hlt
  exact ⟨(hc _).trans a0, (hc _).trans a1⟩

set_option maxRecDepth 20000 in
set_option maxHeartbeats 2000000 in
theorem same_any (s1 s2 : Value) (l : List X) (w : World) (h1 : R w s1 l) (h2 : R w s2 l) :
    Calls Try.prog 45 #[s1, s2, .func (.func 46) #[] #[]] w fun e w' => e = .returned (.bool true) ∧ Below w.heap.size w w' := by
  by_cases h0 : l.length = 0
  · obtain rfl : l = [] := List.eq_nil_of_length_eq_zero h0
    obtain ⟨p1, c1, rfl, _⟩ := KRow.shape h1
    obtain ⟨p2, c2, rfl, _⟩ := KRow.shape h2
    simp only [List.length_nil]
    clear h1 h2 h0
    go_enter Try.func45, Try.ntmps45
    go_wp2
    refine wp_loop_rounds 1 ?_
    rw [rounds_succ]
    go_wp2
    go_ret
    exact ⟨rfl, Below.refl _ _⟩
  · obtain ⟨b1, o1, c1, rfl, hc1, hm1, hcell1⟩ := KRow.open h1 (by omega)
    obtain ⟨b2, o2, c2, rfl, hc2, hm2, hcell2⟩ := KRow.open h2 (by omega)
    unfold maxLen at hm1
    have hl0 : (l.length : Int) ≤ 9223372036854775807 := by omega
    have H1 := hide (fun k hk w' hb => cells_up (w' := w') (R.at hcell1 k hk) hb)
    have H2 := hide (fun k hk w' hb => cells_up (w' := w') (R.at hcell2 k hk) hb)
    clear h1 h2 hcell1 hcell2
    have hn : ((l.length : Int) == l.length) = true := by simp
    go_enter Try.func45, Try.ntmps45
    go_wp2
    go_loopw [7] (fun i wr => ∃ k : Nat, k ≤ l.length ∧ i = .int .i64 k ∧ Hid (Below w.heap.size w wr)) (fun i _ => l.length - (intOf i).toNat)
    case atStart => exact ⟨0, Nat.zero_le _, rfl, Below.refl _ _⟩
    case round =>
      obtain ⟨k, hk, rfl, hbel⟩ := hrel
      by_cases hlt : k < l.length
      · have hk1 : (k : Int) < l.length := by omega
        have HE := ent_plain1
        obtain ⟨CC, hCC⟩ : ∃ CC : World → Prop, CC = fun w' => Below w.heap.size w w' := ⟨_, rfl⟩
        have HC0 : Hid (CC { wr with drawn := wr.drawn + 1 }) := by
          unfold Hid
          rw [hCC]
          exact (unhide hbel).drew
        have HA : Hid (∀ w', CC w' → _) := fun w' hw => unhide H1 k hlt w' (by rw [hCC] at hw; exact hw)
        have HB : Hid (∀ w', CC w' → _) := fun w' hw => unhide H2 k hlt w' (by rw [hCC] at hw; exact hw)
        have HP : Hid (∀ w', CC w' → Calls Try.prog 46 #[.agg #[.int .i64 l[k].1, .int .i64 l[k].2], .agg #[.int .i64 l[k].1, .int .i64 l[k].2]] w' fun e w'' => e = .returned (.bool true) ∧ CC w'') := by
          unfold Hid
          rw [hCC]
          exact fun w' hb => (plain1_any l[k] w').mono fun e w'' hx => ⟨hx.1, hb.trans (hx.2.mono hb.size)⟩
        have HCW : Hid (∀ w', CC w' → Below w.heap.size w w') := by
          unfold Hid
          rw [hCC]
          exact fun w' hb => hb
        generalize l[k] = c at *
        clear hCC hbel
        go_wp2_with fail
        refine region_calm CC (by kernel_rfl) (by kernel_rfl) (unhide HC0) ?_
        repeat (first
          | go_big_quiet_skip
          | (go_big_quiet_want
             apply Exists.intro
             refine ⟨fun w' hw' => ?_, ?_⟩
             · obtain ⟨a0, a1⟩ := unhide HA w' hw'
               obtain ⟨e0, e1⟩ := unhide HB w' hw'
               go_simp
               first | done | rfl | exact unhide HP w' hw'
             simp only [Act.put, List.setIfInBounds_toArray, List.set_cons_zero, List.set_cons_succ]
             go_big_quiet_on))
        refine wpQuiet_nil ?_
        intro w' hw'
        have HBW := hide (unhide HCW w' hw')
        go_wp2
        go_roundw
        case rel => exact ⟨k + 1, by omega, by go_num, HBW⟩
        case measure => simp [intOf]; omega
      · have hkn : k = l.length := by omega
        subst hkn
        go_wp2
        go_ret
        exact ⟨rfl, unhide hbel⟩

set_option maxRecDepth 20000 in
theorem plain_any (s1 s2 : Value) (l : List X) (w : World) (h1 : R w s1 l) (h2 : R w s2 l) :
    Calls Try.prog 16 #[s1, s2] w fun e w' => e = .returned (.bool true) ∧ Below w.heap.size w w' := by
  go_enter Try.func16, Try.ntmps16
  go_wp2_with fail
  refine (same_any s1 s2 l w h1 h2).mono ?_
  rintro e w' ⟨rfl, hb⟩
  go_wp2
  go_ret
  exact ⟨rfl, hb⟩

set_option maxRecDepth 20000 in
set_option maxHeartbeats 2000000 in
theorem kept_any (g : Nat) (s : Value) (l : List X) (f : X) (w : World) (ho : Owned w g l f) (hs : R w s l) (hroom : l.length * 16 ≤ 140737488351232) :
    Calls Try.prog 22 #[.slice (some ⟨g, 0, none⟩) l.length (l.length + 3), s, .agg #[.int .i64 f.1, .int .i64 f.2]] w fun e w' => e = .returned (.bool true) ∧ Below w.heap.size w w' := by
  obtain ⟨p, c, rfl, _⟩ := KRow.shape hs
  obtain ⟨o, hob⟩ : ∃ o, o = Obj.cells #[.int .i64 f.1, .int .i64 f.2] 36 := ⟨_, rfl⟩
  have hb0 : Below w.heap.size w (w.alloc o) := (Below.refl _ _).alloc (Nat.le_refl _) _
  have hr := (ho.below hb0).row (by unfold maxLen; omega)
  have HP := hide (plain_any _ _ l (w.alloc o) hr (hs.below hb0))
  have HO := hide (ho.below hb0)
  have HN := hide (alloc_newk w o)
  have HB0 := hide hb0
  rw [hob] at HP HO HN HB0
  have hl0 : (l.length : Int) ≤ 140737488351232 := by omega
  clear hs hr ho hb0 hroom
  go_enter Try.func22, Try.ntmps22
  go_wp2_with fail
  refine Calls.mono (unhide HP) ?_
  rintro e w1 ⟨rfl, hb1⟩
  have ho1 := (unhide HO).below hb1
  have hfb := (hb1.block w.heap.size (Array.getElem?_eq_some_iff.1 (unhide HN)).1).trans (unhide HN)
  have m0 := cell_of_row w1 w.heap.size 0 _ _ (0, 0) hfb
  have m1 := cell_of_row w1 w.heap.size 1 _ _ (0, 0) hfb
  simp only [List.getElem?_toArray, List.getElem?_cons_succ, List.getElem?_cons_zero] at m0 m1
  have HB1 := hide ((unhide HB0).trans (hb1.mono (unhide HB0).size))
  have HO1 := hide ho1
  clear HP HO HN HB0 hb1 hfb ho1
  go_wp2_with fail
  go_loopw [8] (fun i wr => ∃ k : Nat, l.length ≤ k ∧ k ≤ l.length + 3 ∧ i = .int .i64 k ∧ Hid (∃ n, wr = w1.drewN n)) (fun i _ => l.length + 3 - (intOf i).toNat)
  case atStart => exact ⟨l.length, Nat.le_refl _, by omega, rfl, ⟨0, rfl⟩⟩
  case round =>
    obtain ⟨k, h1, h2, rfl, hn⟩ := hrel
    obtain ⟨n, rfl⟩ := unhide hn
    by_cases hlt : k < l.length + 3
    · have d0 : w1.cell? ⟨g, k * 2, none⟩ = some (.int .i64 f.1) := (unhide HO1).spare k h1 hlt 0 (by omega)
      have d1 : w1.cell? ⟨g, k * 2 + 1, none⟩ = some (.int .i64 f.2) := (unhide HO1).spare k h1 hlt 1 (by omega)
      go_wp2_with fail
      go_region
      go_wp2
      go_roundw
      case rel => exact ⟨k + 1, by omega, by omega, by go_num, ⟨n + 1, rfl⟩⟩
      case measure => simp [intOf]; omega
    · have hk : k = l.length + 3 := by omega
      subst hk
      go_wp2
      go_ret
      exact ⟨rfl, (unhide HB1).os, (unhide HB1).tape, (unhide HB1).output, (unhide HB1).size, (unhide HB1).block⟩
end Go.Proofs.Ytegefnchkgkmgaa.HPos
