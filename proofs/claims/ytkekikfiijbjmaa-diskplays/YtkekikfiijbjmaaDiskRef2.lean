/- What the reference of package disk does: Arm, Start, kept, Read. -/
import Derived.Test.YtkekikfiijbjmaaDiskRef
import Derived.Deep.LoopGhost
namespace Go.Proofs.Ytkekikfiijbjmaa
open Go.RowKit

theorem wf64 {n : Int} (h1 : -9223372036854775808 ≤ n) (h2 : n ≤ 9223372036854775807) : (Lit.int .i64 n).wf = true := by
  simp [Lit.wf, IntKind.min, IntKind.max, IntKind.signed, IntKind.bits]
  omega

set_option maxRecDepth 20000 in
theorem rarm_any (F : Nat → Prop) (p : Value) (s : DK) (cnt : Nat) (n : Int) (w : World) (h : RRep F w p s cnt) (hn : n ≤ 9223372036854775807) :
    Calls Try.prog 31 #[p, .int .i64 n] w fun e w' => e = .returned (.int .i64 s.armE) ∧ RRep F w' p (s.arm n) cnt ∧ Keep F w w' := by
  obtain ⟨g, m, wv, f, xs, rfl, R⟩ := h
  obtain ⟨c0, c1, c2, c3, c4, c5, hfz⟩ := six_cells R.blk
  have hfz3 := hfz 3
  have HR := hide R
  clear R hfz
  cases hf : s.fell with
  | true =>
    have e1 : s.armE = 40 := by unfold DK.armE; rw [if_pos hf]
    have e2 : s.arm n = s := by unfold DK.arm; rw [if_pos hf]
    rw [hf] at c4
    rw [e1, e2]
    clear e1 e2 hf
    go_enter Try.func31, Try.ntmps31
    go_wp2
    go_ret
    exact ⟨rfl, ⟨g, m, wv, f, xs, rfl, unhide HR⟩, Keep.refl _ _⟩
  | false =>
    have e1 : s.armE = 0 := by unfold DK.armE; rw [if_neg (by rw [hf]; decide)]
    have e2 : s.arm n = { s with armed := n.toNat, ticks := 0 } := by unfold DK.arm; rw [if_neg (by rw [hf]; decide)]
    have hA : (n.toNat : Int) = max n 0 := by omega
    have HK : Hid (∀ A : Int, A = max n 0 → RAt F (w.setCell ⟨g, 3, none⟩ (.int .i64 A)) g m wv f xs (s.arm n) cnt ∧ Keep F w (w.setCell ⟨g, 3, none⟩ (.int .i64 A))) := by
      intro A hAA
      have R := unhide HR
      have b1 := heap_setCell_same w g 3 _ _ (.int .i64 A) R.blk
      have hk : ∀ k, k ≠ g → (w.setCell ⟨g, 3, none⟩ (.int .i64 A)).heap[k]? = w.heap[k]? := fun k hk => by
        rw [Below.heap_setCell _ _ _ _ hk]
      refine ⟨R.set ?_ (by simp) (fun k h _ => hk k h) (by rw [e2]) (by rw [e2]) (R.ok.arm n hn), ⟨rfl, rfl, rfl, by simp, fun k _ hn => hk k (fun e => hn (e ▸ R.fg))⟩⟩
      rw [b1, e2]
      show _ = some (Obj.cells #[_, _, _, .int .i64 ((n.toNat : Nat) : Int), _, _] _ _)
      rw [hA, hAA]
      rfl
    rw [hf] at c4
    rw [e1]
    clear hA
    clear e1 e2 hf HR
    go_enter Try.func31, Try.ntmps31
    go_wp2
    all_goals
      go_ret
      exact ⟨rfl, ⟨g, m, wv, f, xs, rfl, (unhide HK _ (by omega)).1⟩, (unhide HK _ (by omega)).2⟩

set_option maxRecDepth 20000 in
theorem rstart_any (F : Nat → Prop) (p : Value) (s : DK) (cnt : Nat) (w : World) (h : RRep F w p s cnt) :
    Calls Try.prog 35 #[p] w fun e w' => e = .returned (.int .i64 0) ∧ RRep F w' p s.start cnt ∧ Keep F w w' := by
  obtain ⟨g, m, wv, f, xs, rfl, R⟩ := h
  obtain ⟨c0, c1, c2, c3, c4, c5, hfz⟩ := six_cells R.blk
  have hfz2 := hfz 2
  have hfz3 := hfz 3
  have hfz4 := hfz 4
  have HR := hide R
  clear R hfz
  cases hf : s.fell with
  | false =>
    have e2 : s.start = s := by unfold DK.start; rw [if_neg (by rw [hf]; decide)]
    rw [hf] at c4
    rw [e2]
    clear e2 hf
    go_enter Try.func35, Try.ntmps35
    go_wp2
    go_ret
    exact ⟨rfl, ⟨g, m, wv, f, xs, rfl, unhide HR⟩, Keep.refl _ _⟩
  | true =>
    have e2 : s.start = { s with fell := false, armed := 0, waits := [], ticks := 0 } := by unfold DK.start; rw [if_pos hf]
    have HK : Hid (RAt F (((w.setCell ⟨g, 4, none⟩ (.bool false)).setCell ⟨g, 3, none⟩ (.int .i64 0)).setCell ⟨g, 2, none⟩ (.slice none 0 0)) g m (.slice none 0 0) f [] s.start cnt ∧ Keep F w (((w.setCell ⟨g, 4, none⟩ (.bool false)).setCell ⟨g, 3, none⟩ (.int .i64 0)).setCell ⟨g, 2, none⟩ (.slice none 0 0))) := by
      have R := unhide HR
      have b1 := heap_setCell_same w g 4 _ _ (.bool false) R.blk
      have b2 := heap_setCell_same _ g 3 _ _ (.int .i64 0) b1
      have b3 := heap_setCell_same _ g 2 _ _ (.slice none 0 0) b2
      have hk : ∀ k, k ≠ g → (((w.setCell ⟨g, 4, none⟩ (.bool false)).setCell ⟨g, 3, none⟩ (.int .i64 0)).setCell ⟨g, 2, none⟩ (.slice none 0 0)).heap[k]? = w.heap[k]? := fun k hk => by
        rw [Below.heap_setCell _ _ _ _ hk, Below.heap_setCell _ _ _ _ hk, Below.heap_setCell _ _ _ _ hk]
      have hok := R.ok.start
      rw [e2] at hok ⊢
      refine ⟨R.drop b3 (by simp) (fun k h _ => hk k h) rfl rfl hok, ⟨rfl, rfl, rfl, by simp, fun k _ hn => hk k (fun e => hn (e ▸ R.fg))⟩⟩
    rw [hf] at c4
    clear e2 hf HR
    go_enter Try.func35, Try.ntmps35
    go_wp2
    go_ret
    exact ⟨rfl, ⟨g, m, _, f, _, rfl, (unhide HK).1⟩, (unhide HK).2⟩

set_option maxRecDepth 20000 in
theorem rkept_any (F : Nat → Prop) (p : Value) (s : DK) (cnt : Nat) (a : Nat) (w : World) (h : RRep F w p s cnt) (ha : a ≤ 9223372036854775807) :
    Calls Try.prog 53 #[p, .int .i64 (a : Int)] w fun e w' => ∃ t, e = .returned t ∧ w'.ownsRow w.heap.size 5 1 t 512 ((s.kept a).map B) ∧ Below w.heap.size w w' := by
  obtain ⟨i0, hi, hz0, hz1, hz2⟩ := info_parts Try.info5
  obtain ⟨g, m, wv, f, xs, rfl, R⟩ := h
  obtain ⟨c0, c1, c2, c3, c4, c5, hfz⟩ := six_cells R.blk
  have hlk := R.map.look Try.underlying3 Try.underlying66 (z := .slice none 0 0) (by rfl) (a : Int) (wf64 (by omega) (by omega))
  rcases R.kept a with ⟨hn, hb⟩ | ⟨v, hv, hr⟩
  · rw [hn] at hlk
    have hlk' : (Instr.lookup 66 (.map (some m)) (.int .i64 (a : Int)) true).run Try.prog w = .ok (.tuple #[.slice none 0 0, .bool false]) w := hlk
    rw [hb]
    clear R hfz hn hlk hb
    go_enter Try.func53, Try.ntmps53
    go_wp2_with (at_make; refine wpList_make_full _ rfl _ _ 40 rfl w.heap.size 5 i0 (.int .u8 0) 1 Try.underlying40 hi hz0 hz1 .i64 .i64 512 512 512 rfl rfl (by omega) (by omega) (by rw [hz2]; omega) (by unfold maxLen; omega) (Nat.le_refl _) ?_)
    intro w2 hown hgrow
    have HO := hide hown
    have HB := hide ((Below.refl w.heap.size w).grown hgrow (Nat.le_refl _) (fun k hk => by cases hk))
    clear hown hgrow
    go_wp2
    go_ret
    refine ⟨_, rfl, ?_, unhide HB⟩
    have h := unhide HO
    rw [toList_madeCells_one] at h
    unfold blank
    rw [List.map_replicate]
    exact h
  · rw [hv] at hlk
    have HR := hide hr.row
    have HL : Hid ((s.kept a).length = 512) := R.ok.kept a
    obtain ⟨b, off, cap, cur, rfl, _⟩ := hr
    have hlk' : (Instr.lookup 66 (.map (some m)) (.int .i64 (a : Int)) true).run Try.prog w = .ok (.tuple #[.slice (some ⟨b, off, none⟩) 512 cap, .bool true]) w := hlk
    clear R hfz hlk hv
    go_enter Try.func53, Try.ntmps53
    go_wp2_with (at_builtin; refine wpList_append_row rfl _ _ 40 rfl w.heap.size 5 i0 (.int .u8 0) Try.underlying40 hi hz0 hz1 hz2 rfl _ 0 [] rfl (World.ownsRow_nil _ _ _ _) _ (s.kept a) rfl (unhide HR) (by rw [unhide HL]; omega) (Nat.le_refl _) ?_)
    intro v' w' hown hgrow
    have HO := hide hown
    have HB := hide ((Below.refl w.heap.size w).grown hgrow (Nat.le_refl _) (fun k hk => by cases hk))
    clear hown hgrow
    go_wp2
    go_ret
    refine ⟨_, rfl, ?_, unhide HB⟩
    have h := unhide HO
    exact h

/-- What a device shows of a sector, write by write. -/
theorem shownB_take (a : Nat) (b : List UInt8) (l : List (Nat × List UInt8)) (k : Nat) (h : k < l.length) : shownB a b (l.take (k + 1)) = if l[k].1 = a then l[k].2 else shownB a b (l.take k) := by
  unfold shownB
  rw [List.take_succ_eq_append_getElem h, List.foldl_append]
  rfl

set_option maxRecDepth 20000 in
set_option maxHeartbeats 1000000 in
theorem rread_ok (F : Nat → Prop) (p : Value) (s : DK) (cnt : Nat) (a : Nat) (w : World) (h : RRep F w p s cnt) (hf : s.fell = false) (ha : a < s.n) (hw : s.waits.length ≤ 1048576) :
    Calls Try.prog 29 #[p, .int .i64 (a : Int)] w fun e w' => ∃ t, e = .returned (.tuple #[t, .int .i64 0]) ∧ w'.ownsRow w.heap.size 5 1 t 512 ((s.shown a).map B) ∧ Below w.heap.size w w' := by
  obtain ⟨i0, hi, hz0, hz1, hz2⟩ := info_parts Try.info5
  have H := hide h
  obtain ⟨g, m, wv, f, xs, rfl, R⟩ := h
  have hn := R.ok.size
  obtain ⟨c0, c1, c2, c3, c4, c5, hfz⟩ := six_cells R.blk
  have HR := hide R
  rw [hf] at c4
  have ha1 : ¬ (a : Int) < 0 := by omega
  have ha2 : (a : Int) < s.n := by omega
  have hgl := R.lt g R.fg
  clear R hfz hf
  go_enter Try.func29, Try.ntmps29
  go_wp2_with fail
  refine (rkept_any F _ s cnt a w (unhide H) (by omega)).mono ?_
  rintro e w1 ⟨t, rfl, hown1, hb1⟩
  have HO1 := hide hown1
  obtain ⟨q, cw, hwv⟩ := (unhide HR).shape
  subst hwv
  clear hown1 c0 c1 c3 c4 c5 ha ha2
  go_wp2_with fail
  go_loopw [6, 7] (fun bv i wr => ∃ k : Nat, k ≤ s.waits.length ∧ i = .int .i64 k ∧ Hid (wr.ownsRow w.heap.size 5 1 bv 512 ((shownB a (s.kept a) (s.waits.take k)).map B)) ∧ Below w.heap.size w wr) (fun _ i _ => s.waits.length - (intOf i).toNat)
  case atStart => exact ⟨0, Nat.zero_le _, rfl, by rw [List.take_zero]; exact unhide HO1, hb1⟩
  case round =>
    obtain ⟨k, hk, rfl, hown, hbel⟩ := hrel
    have c2' := (hbel.cell (p := ⟨g, 2, none⟩) hgl).trans c2
    by_cases hlt : k < s.waits.length
    · obtain ⟨h2, cap, v, ev, hF, hcap, d1, d2, hr⟩ := (unhide HR).wait k hlt
      simp only [Value.slice.injEq, true_and] at ev
      obtain ⟨rfl, rfl⟩ := ev
      have d1' := (hbel.cell (p := ⟨h2, k * 2, none⟩) (World.block_lt_of_cell? w _ d1)).trans d1
      have d2' := (hbel.cell (p := ⟨h2, k * 2 + 1, none⟩) (World.block_lt_of_cell? w _ d2)).trans d2
      have HT := hide (shownB_take a (s.kept a) s.waits k hlt)
      have HL := hide (((unhide HR).ok.waits _ (List.getElem_mem hlt)).2)
      have HRW := hide (hr.row.below hbel)
      obtain ⟨b3, o3, cap3, cur3, rfl, _⟩ := hr
      clear d1 d2
      have hlt' : (k : Int) < s.waits.length := by omega
      by_cases hat : s.waits[k].1 = a
      · rw [hat] at d1'
        have HT2 := hide (show shownB a (s.kept a) (s.waits.take (k + 1)) = s.waits[k].2 by rw [unhide HT, if_pos hat])
        clear HT hat
        generalize s.waits[k].2 = wb at *
        go_wp2_with (at_builtin; refine wpList_append_row rfl _ _ 40 rfl w.heap.size 5 i0 (.int .u8 0) Try.underlying40 hi hz0 hz1 hz2 rfl _ 0 [] rfl (World.ownsRow_nil _ _ _ _) _ wb rfl (unhide HRW) (by rw [unhide HL]; omega) hbel.size ?_)
        intro v' w' hown' hgrow
        have HO := hide hown'
        have HB := hide (hbel.grown hgrow hbel.size (fun k hk => by cases hk))
        clear hown' hgrow
        go_wp2
        go_roundw
        case rel => exact ⟨k + 1, by omega, by go_num, by unfold Hid; rw [unhide HT2]; exact unhide HO, unhide HB⟩
        case measure => simp [intOf]; omega
      · have hd : ((s.waits[k].1 : Int) == (a : Int)) = false := by rw [beq_eq_false_iff_ne]; omega
        have HT2 := hide (show shownB a (s.kept a) (s.waits.take (k + 1)) = shownB a (s.kept a) (s.waits.take k) by rw [unhide HT, if_neg hat])
        clear HT hat
        go_wp2
        go_roundw
        case rel => exact ⟨k + 1, by omega, by go_num, by unfold Hid; rw [unhide HT2]; exact hown.out, hbel⟩
        case measure => simp [intOf]; omega
    · have hkn : k = s.waits.length := by omega
      subst hkn
      rw [List.take_of_length_le (Nat.le_refl _)] at hown
      have hlt' : ¬ (s.waits.length : Int) < s.waits.length := by omega
      go_wp2
      go_ret2
      exact ⟨_, rfl, hown.out, hbel⟩

set_option maxRecDepth 20000 in
theorem rread_any (F : Nat → Prop) (p : Value) (s : DK) (cnt : Nat) (a : Int) (w : World) (h : RRep F w p s cnt) (hw : s.waits.length ≤ 1048576) :
    Calls Try.prog 29 #[p, .int .i64 a] w fun e w' => ∃ t, e = .returned (.tuple #[t, .int .i64 (s.readE a)]) ∧ w'.ownsRow w.heap.size 5 1 t (s.readB a).length ((s.readB a).map B) ∧ Below w.heap.size w w' := by
  unfold DK.readE DK.readB
  cases hf : s.fell with
  | true =>
    rw [if_pos rfl, if_pos rfl]
    obtain ⟨g, m, wv, f, xs, rfl, R⟩ := h
    obtain ⟨c0, c1, c2, c3, c4, c5, hfz⟩ := six_cells R.blk
    rw [hf] at c4
    clear R hfz hf
    go_enter Try.func29, Try.ntmps29
    go_wp2
    go_ret2
    exact ⟨_, rfl, World.ownsRow_nil _ _ _ _, Below.refl _ _⟩
  | false =>
    rw [if_neg (show ¬ (false = true) by decide), if_neg (show ¬ (false = true) by decide)]
    cases hn : s.noSuch a with
    | true =>
      rw [if_pos rfl, if_pos rfl]
      obtain ⟨g, m, wv, f, xs, rfl, R⟩ := h
      obtain ⟨c0, c1, c2, c3, c4, c5, hfz⟩ := six_cells R.blk
      have hn' : a < 0 ∨ (s.n : Int) ≤ a := of_decide_eq_true hn
      rw [hf] at c4
      clear R hfz hf hn
      by_cases h0 : a < 0
      · clear hn'
        go_enter Try.func29, Try.ntmps29
        go_wp2
        go_ret2
        exact ⟨_, rfl, World.ownsRow_nil _ _ _ _, Below.refl _ _⟩
      · have h1 : (s.n : Int) ≤ a := by omega
        clear hn'
        go_enter Try.func29, Try.ntmps29
        go_wp2
        go_ret2
        exact ⟨_, rfl, World.ownsRow_nil _ _ _ _, Below.refl _ _⟩
    | false =>
      obtain ⟨h0, h1, h2⟩ := DK.noSuch_false hn
      obtain ⟨k, rfl⟩ := Int.eq_ofNat_of_zero_le h0
      rw [if_neg (show ¬ (false = true) by decide), if_neg (show ¬ (false = true) by decide), Int.toNat_natCast, h.ok.shown k]
      exact rread_ok F p s cnt k w h hf (by omega) hw
end Go.Proofs.Ytkekikfiijbjmaa
