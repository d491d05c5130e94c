/- Texts of ours, one behind the other: Concat. -/
import Derived.Test.YtpkpjmebkikgdaaG5
import Derived.Test.YtpkpjmebkikgdaaG9
import Derived.Lib.AppendZeros
/- What slices.Grow of nil and slices.Concat of texts do, and bytes.Clone, and the helper CopyBytes. -/
namespace Go.Proofs.Ytpkpjmebkikgdaa
open Go.RowKit

theorem Rows2.shape {w : World} {s : Value} {ls : List (List UInt8)} (h : Rows2 w s ls) : ∃ (p : Option Addr) (c : Nat), s = .slice p ls.length c ∧ ls.length ≤ c ∧ c ≤ maxLen ∧ (p = none → c = 0) := by
  obtain ⟨a, cap, hs, h1, h2, h3, _⟩ := h
  exact ⟨a, cap, hs, h1, h2, h3⟩
theorem Rows2.open {w : World} {s : Value} {ls : List (List UInt8)} (h : Rows2 w s ls) (hne : ls ≠ []) :
    ∃ b off cap, s = .slice (some ⟨b, off, none⟩) ls.length cap ∧ ls.length ≤ cap ∧ cap ≤ maxLen ∧ ∀ j (h : j < ls.length), ∃ v, w.cell? ⟨b, off + j, none⟩ = some v ∧ Row w v ls[j] := by
  obtain ⟨a, cap, hs, h1, h2, h3, h4⟩ := h
  rcases h4 with h4 | ⟨b, off, rfl, hc⟩
  · exact absurd h4 hne
  · exact ⟨b, off, cap, hs, h1, h2, hc⟩
theorem row_len {w : World} {v : Value} {bs : List UInt8} (h : Row w v bs) : bs.length ≤ 9223372036854775807 := by
  obtain ⟨a, cap, _, h1, h2, _⟩ := h
  unfold maxLen at h2
  omega

set_option maxRecDepth 20000 in
/-- slices.Grow(nil, n): a row of the call's own, of no bytes yet. -/
theorem grow_nil (n : Nat) (hn : n ≤ 140737488355328) (w : World) :
    Calls Try.prog 71 #[.slice none 0 0, .int .i64 n] w fun e w' => ∃ s, e = .returned s ∧ w'.ownsRow w.heap.size 5 1 s 0 [] ∧ Below w.heap.size w w' := by
  obtain ⟨i0, hi, hz0, hz1, hz2⟩ := info_parts Try.info5
  by_cases h0 : n = 0
  · subst h0
    go_enter Try.func71, Try.ntmps71
    go_wp2
    go_ret
    exact ⟨_, rfl, World.ownsRow_nil _ _ _ _, Below.refl _ _⟩
  · have hr := fun ty => Lib.run_append_nil_zeros (P := Try.prog) w 31 3 ty 5 i0 (.int .u8 0) .i64 .i64 Try.underlying31 Try.underlying3 hi hz0 n (by omega) (by omega) (by omega) (by rw [hz2]; omega)
    have hG := grownCap_ge w n 0 5
    have hG2 := grownCap_le_maxLen w n 0 5 (by unfold maxLen; omega)
    generalize grownCap w n 0 5 = G at *
    have hpos : (0 : Int) < n := by omega
    unfold maxLen at hG2
    go_enter Try.func71, Try.ntmps71
    go_wp2_with (at_builtin; refine Lib.wpList_append_run _ rfl _ _ _ _ rfl _ _ rfl rfl _ _ (hr _) ?_)
    go_ret
    refine ⟨_, rfl, ?_, ((Below.refl _ _).drew).alloc (Nat.le_refl _) _⟩
    refine ⟨rfl, Or.inr ⟨w.heap.size, G, _, rfl, Nat.le_refl _, heap_alloc_new _ _, Nat.zero_le _, by unfold maxLen; omega, ?_, by simp⟩⟩
    rw [Array.size_append, size_zeroCells, size_zeroCells]
    simp
    omega

theorem sum_take (ls : List (List UInt8)) (k : Nat) (h : k < ls.length) : (ls.take (k + 1)).flatten = (ls.take k).flatten ++ ls[k] := by
  rw [List.take_succ_eq_append_getElem h, List.flatten_append]
  simp
theorem len_take (ls : List (List UInt8)) (k : Nat) : (ls.take k).flatten.length ≤ ls.flatten.length := by
  conv => rhs; rw [← List.take_append_drop k ls, List.flatten_append, List.length_append]
  omega

set_option maxRecDepth 20000 in
set_option maxHeartbeats 1000000 in
/-- slices.Concat of whatever texts. -/
theorem concat_any (s : Value) (ls : List (List UInt8)) (w : World) (hs : Rows2 w s ls) (hroom : ls.flatten.length ≤ 140737488351232) :
    Calls Try.prog 58 #[s] w fun e w' => ∃ t, e = .returned t ∧ w'.ownsRow w.heap.size 5 1 t ls.flatten.length (ls.flatten.map B) ∧ Below w.heap.size w w' := by
  obtain ⟨i0, hi, hz0, hz1, hz2⟩ := info_parts Try.info5
  have HC : Hid (∀ k (h : k < ls.length), ∃ (b off : Nat) (v : Value), (∃ c, s = .slice (some ⟨b, off, none⟩) ls.length c) ∧ w.cell? ⟨b, off + k, none⟩ = some v ∧ Row w v ls[k]) := by
    intro k hk
    obtain ⟨b, off, cap, e, _, _, hc⟩ := hs.open (by intro e; rw [e] at hk; simp at hk)
    obtain ⟨v, hv, hr⟩ := hc k hk
    exact ⟨b, off, v, ⟨cap, e⟩, hv, hr⟩
  obtain ⟨p, c, rfl, hc1, hc2, hc3⟩ := hs.shape
  unfold maxLen at hc2
  clear hs
  have HL := hide (len_take ls)
  have hll : (ls.length : Int) ≤ 9223372036854775807 := by omega
  go_enter Try.func58, Try.ntmps58
  go_wp2_with fail
  go_loop [3, 11] (fun z i => ∃ k : Nat, k ≤ ls.length ∧ i = .int .i64 k ∧ z = .int .i64 ((ls.take k).flatten.length : Nat)) (fun _ i => ls.length - (intOf i).toNat)
  case atStart => exact ⟨0, Nat.zero_le _, rfl, by simp⟩
  case round =>
    obtain ⟨k, hk, rfl, rfl⟩ := hrel
    by_cases hlt : k < ls.length
    · obtain ⟨b, off, v, ⟨c', e⟩, hv, hr⟩ := unhide HC k hlt
      simp only [Value.slice.injEq, true_and] at e
      obtain ⟨rfl, rfl⟩ := e
      obtain ⟨p2, c2, l2, rfl, hl2⟩ := hr.shape
      have hst := sum_take ls k hlt
      have hle := unhide HL (k + 1)
      rw [hst, List.length_append, hl2] at hle
      have hst2 : Hid (((ls.take (k + 1)).flatten.length : Int) = ((ls.take k).flatten.length : Int) + l2) := by unfold Hid; rw [hst, List.length_append, hl2]; omega
      clear hst hr
      generalize (ls.take k).flatten.length = z at *
      have hz63 : (z : Int) + l2 ≤ 140737488351232 := by omega
      have hkk : (k : Int) < ls.length := by omega
      go_wp2
      go_round
      case rel => exact ⟨k + 1, by omega, by go_num, by rw [unhide hst2]⟩
      case measure => simp [intOf]; omega
    · have hkn : k = ls.length := by omega
      subst hkn
      rw [List.take_length]
      have HG := hide (grow_nil ls.flatten.length (by omega) w)
      generalize ls.flatten.length = Z at HG ⊢
      go_wp2_with fail
      refine Calls.mono (unhide HG) ?_
      rintro e w1 ⟨t0, rfl, hown, hb1⟩
      go_wp2_with fail
      go_loopw [6, 27] (fun t i wr => ∃ k : Nat, k ≤ ls.length ∧ i = .int .i64 k ∧ wr.ownsRow w.heap.size 5 1 t (ls.take k).flatten.length ((ls.take k).flatten.map B) ∧ Below w.heap.size w wr) (fun _ i _ => ls.length - (intOf i).toNat)
      case atStart => exact ⟨0, Nat.zero_le _, rfl, by simpa using hown, hb1⟩
      case round =>
        obtain ⟨k, hk, rfl, hown, hbel⟩ := hrel
        have hsz := hbel.size
        by_cases hlt : k < ls.length
        · obtain ⟨b, off, v, ⟨c', e⟩, hv, hr⟩ := unhide HC k hlt
          simp only [Value.slice.injEq, true_and] at e
          obtain ⟨rfl, rfl⟩ := e
          have hr' := hr.below hbel
          have hv' := (hbel.cell (World.block_lt_of_cell? w _ hv)).trans hv
          have HST := hide (sum_take ls k hlt)
          have hle := unhide HL (k + 1)
          rw [unhide HST, List.length_append] at hle
          have hkk : (k : Int) < ls.length := by omega
          clear hr hv
          generalize (ls.take k).flatten = X at *
          go_wp2_with (at_builtin; refine wpList_append_row rfl _ _ 31 rfl w.heap.size 5 i0 (.int .u8 0) Try.underlying31 hi hz0 hz1 hz2 rfl _ _ _ rfl hown _ ls[k] rfl hr' (by omega) hsz ?_)
          intro v' w2 hown2 hgrow
          have hb2 : Below w.heap.size w w2 := hbel.grown hgrow hsz (fun j hj => (hown.lt j hj).1)
          clear hown hgrow hbel hr'
          go_wp2
          go_roundw
          case rel => exact ⟨k + 1, by omega, by go_num, by rw [unhide HST, List.length_append, List.map_append]; exact hown2, hb2⟩
          case measure => simp [intOf]; omega
        · have hkn : k = ls.length := by omega
          subst hkn
          rw [List.take_length] at hown
          go_wp2
          go_ret
          exact ⟨_, rfl, hown, hbel⟩

set_option maxRecDepth 20000 in
theorem copyBytes_any (s : Value) (bs : List UInt8) (w : World) (hs : Row w s bs) (hroom : bs.length ≤ 140737488351232) :
    Calls Try.prog 44 #[s] w fun e w' => ∃ t, e = .returned t ∧ w'.ownsRow w.heap.size 5 1 t bs.length (bs.map B) ∧ Below w.heap.size w w' := by
  obtain ⟨i0, hi, hz0, hz1, hz2⟩ := info_parts Try.info5
  go_enter Try.func44, Try.ntmps44
  go_wp2_with (at_builtin; refine wpList_append_row rfl _ _ 31 rfl w.heap.size 5 i0 (.int .u8 0) Try.underlying31 hi hz0 hz1 hz2 rfl _ 0 [] rfl (World.ownsRow_nil _ _ _ _) _ bs rfl hs (by omega) (Nat.le_refl _) ?_)
  intro v' w2 hown2 hgrow
  have hb2 : Below w.heap.size w w2 := (Below.refl _ _).grown hgrow (Nat.le_refl _) (fun j hj => by cases hj)
  clear hgrow
  go_wp2
  go_ret
  exact ⟨_, rfl, by simpa using hown2, hb2⟩
end Go.Proofs.Ytpkpjmebkikgdaa
