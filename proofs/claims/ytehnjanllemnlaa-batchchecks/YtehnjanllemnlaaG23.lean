/- Texts of ours, one behind the other: BatHelp. -/
import Derived.Test.YtehnjanllemnlaaG5
import Derived.Test.YtehnjanllemnlaaG8
import Derived.Test.YtehnjanllemnlaaG15
/- What the verifier's helpers do with slices of changes: Own, Plain, Same, Kept. -/
namespace Go.Proofs.Ytehnjanllemnlaa
open Go.RowKit

theorem Try.info54 : (Try.prog.info? 54).map (fun i => (i.zero, i.size, i.bytes)) = some (some (.agg #[.string ⟨#[]⟩, .int .u64 0, .int .i64 0, .int .i64 0, .bool false]), 5, 48) := by kernel_rfl

theorem set1_take {L pre : List Value} {n : Nat} (a : Value) (h : L.take n = pre) (hn : n < L.length) : (L.set n a).take (n + 1) = pre ++ [a] := by
  rw [List.take_succ_eq_append_getElem (by simpa using hn), List.take_set, List.set_eq_of_length_le (by simp; omega), h]
  simp
theorem set5_take {cur : Array Value} {pre : List Value} {n : Nat} (a b c d e : Value) (h : cur.toList.take n = pre) (hn : n + 5 ≤ cur.size) :
    (((((cur.setIfInBounds n a).setIfInBounds (n + 1) b).setIfInBounds (n + 2) c).setIfInBounds (n + 3) d).setIfInBounds (n + 4) e).toList.take (n + 5) = pre ++ [a, b, c, d, e] := by
  simp only [Array.toList_setIfInBounds]
  have hl : cur.toList.length = cur.size := Array.length_toList
  have h1 := set1_take a h (by omega)
  have h2 := set1_take b h1 (by simp only [List.length_set]; omega)
  have h3 := set1_take c h2 (by simp only [List.length_set]; omega)
  have h4 := set1_take d h3 (by simp only [List.length_set]; omega)
  have h5 := set1_take e h4 (by simp only [List.length_set]; omega)
  simpa using h5

/-- Block g holds these changes and three changes f of spare room behind. -/
def OwnedC (w : World) (g : Nat) (l : List Chg) (f : Chg) : Prop := w.heap[g]? = some (.cells ((l ++ List.replicate 3 f).flatMap chgC).toArray 54 (0, 0))
theorem OwnedC.below {w w' : World} {g : Nat} {l : List Chg} {f : Chg} (h : OwnedC w g l f) (hb : Below w.heap.size w w') : OwnedC w' g l f := (hb.block g (Array.getElem?_eq_some_iff.1 h).1).trans h
theorem OwnedC.row {w : World} {g : Nat} {l : List Chg} {f : Chg} (h : OwnedC w g l f) (hm : l.length + 3 ≤ maxLen) : CL w (.slice (some ⟨g, 0, none⟩) l.length (l.length + 3)) l := by
  refine ⟨_, _, rfl, by omega, hm, by simp, flat_len chgC_len l, Or.inr ⟨g, 0, rfl, fun j v hj => ?_⟩⟩
  rw [Nat.zero_add, cell_of_row w g j _ _ (0, 0) h, List.getElem?_toArray, List.flatMap_append, List.getElem?_append_left (List.getElem?_eq_some_iff.1 hj).1]
  exact hj
theorem OwnedC.spare {w : World} {g : Nat} {l : List Chg} {f : Chg} (h : OwnedC w g l f) (k : Nat) (h1 : l.length ≤ k) (h2 : k < l.length + 3) (i : Nat) (hi : i < 5) : w.cell? ⟨g, k * 5 + i, none⟩ = (chgC f)[i]? := by
  rw [cell_of_row w g _ _ _ (0, 0) h, List.getElem?_toArray, flat_get chgC_len (l ++ List.replicate 3 f) k (by simp; omega) i hi, List.getElem_append_right h1, List.getElem_replicate]

set_option maxRecDepth 20000 in
theorem cplain1_any (c : Chg) (w : World) : Calls Try.prog 54 #[chgV c, chgV c] w fun e w' => e = .returned (.bool true) ∧ Below w.heap.size w w' := by
  have HB := hide (fun o o' => ((Below.refl w.heap.size w).alloc (Nat.le_refl _) o).alloc (by simp) o')
  unfold chgV
  go_enter Try.func54, Try.ntmps54
  go_wp2
  go_ret
  exact ⟨by simp, unhide HB _ _⟩

theorem ent_cplain1 (args : Array Value) (w : World) : (callFunc 54 args).run Try.prog w = .ok (.enter 54 args) w := by kernel_rfl

theorem five_up {w w' : World} {b o : Nat} {v0 v1 v2 v3 v4 : Value} (h : w.cell? ⟨b, o, none⟩ = some v0 ∧ w.cell? ⟨b, o + 1, none⟩ = some v1 ∧ w.cell? ⟨b, o + 2, none⟩ = some v2 ∧ w.cell? ⟨b, o + 3, none⟩ = some v3 ∧ w.cell? ⟨b, o + 4, none⟩ = some v4) (hb : Below w.heap.size w w') :
    w'.cell? ⟨b, o, none⟩ = some v0 ∧ w'.cell? ⟨b, o + 1, none⟩ = some v1 ∧ w'.cell? ⟨b, o + 2, none⟩ = some v2 ∧ w'.cell? ⟨b, o + 3, none⟩ = some v3 ∧ w'.cell? ⟨b, o + 4, none⟩ = some v4 := by
  obtain ⟨a0, a1, a2, a3, a4⟩ := h
  have hlt := World.block_lt_of_cell? w _ a0
  have hc := fun i => hb.cell (p := ⟨b, i, none⟩) hlt
  exact ⟨(hc _).trans a0, (hc _).trans a1, (hc _).trans a2, (hc _).trans a3, (hc _).trans a4⟩

set_option maxRecDepth 20000 in
set_option maxHeartbeats 2000000 in
theorem csame_any (s1 s2 : Value) (l : List Chg) (w : World) (h1 : CL w s1 l) (h2 : CL w s2 l) :
    Calls Try.prog 53 #[s1, s2, .func (.func 54) #[] #[]] w fun e w' => e = .returned (.bool true) ∧ Below w.heap.size w w' := by
  by_cases h0 : l.length = 0
  · obtain rfl : l = [] := List.eq_nil_of_length_eq_zero h0
    obtain ⟨p1, c1, rfl, _⟩ := KRow.shape h1
    obtain ⟨p2, c2, rfl, _⟩ := KRow.shape h2
    simp only [List.length_nil]
    clear h1 h2 h0
    go_enter Try.func53, Try.ntmps53
    go_wp2
    refine wp_loop_rounds 1 ?_
    rw [rounds_succ]
    go_wp2
    go_ret
    exact ⟨rfl, Below.refl _ _⟩
  · obtain ⟨b1, o1, c1, rfl, hc1, hm1, hcell1⟩ := h1.open (by omega)
    obtain ⟨b2, o2, c2, rfl, hc2, hm2, hcell2⟩ := h2.open (by omega)
    unfold maxLen at hm1
    have hl0 : (l.length : Int) ≤ 9223372036854775807 := by omega
    have H1 := hide (fun k hk w' hb => five_up (w' := w') (hcell1 k hk) hb)
    have H2 := hide (fun k hk w' hb => five_up (w' := w') (hcell2 k hk) hb)
    clear h1 h2 hcell1 hcell2
    have hn : ((l.length : Int) == l.length) = true := by simp
    go_enter Try.func53, Try.ntmps53
    go_wp2
    go_loopw [7] (fun i wr => ∃ k : Nat, k ≤ l.length ∧ i = .int .i64 k ∧ Hid (Below w.heap.size w wr)) (fun i _ => l.length - (intOf i).toNat)
    case atStart => exact ⟨0, Nat.zero_le _, rfl, Below.refl _ _⟩
    case round =>
      obtain ⟨k, hk, rfl, hbel⟩ := hrel
      by_cases hlt : k < l.length
      · have hk1 : (k : Int) < l.length := by omega
        have HE := ent_cplain1
        obtain ⟨CC, hCC⟩ : ∃ CC : World → Prop, CC = fun w' => Below w.heap.size w w' := ⟨_, rfl⟩
        have HC0 : Hid (CC { wr with drawn := wr.drawn + 1 }) := by
          unfold Hid
          rw [hCC]
          exact (unhide hbel).drew
        have HA : Hid (∀ w', CC w' → _) := fun w' hw => unhide H1 k hlt w' (by rw [hCC] at hw; exact hw)
        have HB : Hid (∀ w', CC w' → _) := fun w' hw => unhide H2 k hlt w' (by rw [hCC] at hw; exact hw)
        have HP : Hid (∀ w', CC w' → Calls Try.prog 54 #[chgV l[k], chgV l[k]] w' fun e w'' => e = .returned (.bool true) ∧ CC w'') := by
          unfold Hid
          rw [hCC]
          exact fun w' hb => (cplain1_any l[k] w').mono fun e w'' hx => ⟨hx.1, hb.trans (hx.2.mono hb.size)⟩
        have HCW : Hid (∀ w', CC w' → Below w.heap.size w w') := by
          unfold Hid
          rw [hCC]
          exact fun w' hb => hb
        unfold chgV at HP
        generalize l[k] = C at *
        clear hCC hbel
        go_wp2_with fail
        refine region_calm CC (by kernel_rfl) (by kernel_rfl) (unhide HC0) ?_
        repeat (first
          | go_big_quiet_skip
          | (go_big_quiet_want
             apply Exists.intro
             refine ⟨fun w' hw' => ?_, ?_⟩
             · obtain ⟨a0, a1, a2, a3, a4⟩ := unhide HA w' hw'
               obtain ⟨e0, e1, e2, e3, e4⟩ := unhide HB w' hw'
               go_simp
               first | done | rfl | exact unhide HP w' hw'
             simp only [Act.put, List.setIfInBounds_toArray, List.set_cons_zero, List.set_cons_succ]
             go_big_quiet_on))
        refine wpQuiet_nil ?_
        intro w' hw'
        have HBW := hide (unhide HCW w' hw')
        go_wp2
        go_roundw
        case rel => exact ⟨k + 1, by omega, by go_num, HBW⟩
        case measure => simp [intOf]; omega
      · have hkn : k = l.length := by omega
        subst hkn
        go_wp2
        go_ret
        exact ⟨rfl, unhide hbel⟩

set_option maxRecDepth 20000 in
theorem cplain_any (s1 s2 : Value) (l : List Chg) (w : World) (h1 : CL w s1 l) (h2 : CL w s2 l) :
    Calls Try.prog 41 #[s1, s2] w fun e w' => e = .returned (.bool true) ∧ Below w.heap.size w w' := by
  go_enter Try.func41, Try.ntmps41
  go_wp2_with fail
  refine (csame_any s1 s2 l w h1 h2).mono ?_
  rintro e w' ⟨rfl, hb⟩
  go_wp2
  go_ret
  exact ⟨rfl, hb⟩

end Go.Proofs.Ytehnjanllemnlaa
