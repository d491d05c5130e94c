/- The law's own 'read': frames out of payloads that are frames. -/
import Derived.Test.YtpiekbjpnifjlaaFrOwn4
import Derived.Test.YtpiekbjpnifjlaaFrOwnL
import Derived.Test.YtpiekbjpnifjlaaFrRef1
namespace Go.Proofs.Ytpiekbjpnifjlaa
open Go.RowKit

theorem readF_ok (b : List UInt8) (h : (readF b).2 = 0) : (readF b).1.ok := by
  obtain ⟨h1, h2, h3, h4⟩ := bytes_read b h
  obtain ⟨m1, m2, m3⟩ := (may_iff _).1 h1
  exact ⟨h3, h4, by omega, by omega, by omega⟩

set_option maxRecDepth 20000 in
set_option maxHeartbeats 1000000 in
theorem lread_any (s : Value) (ls : List (List UInt8)) (w : World) (hs : Rows2 w s ls) (hn : ls.length ≤ 1000) (hall : ∀ j (h : j < ls.length), (readF ls[j]).2 = 0 ∧ ls[j].length ≤ 140737488351232) :
    Calls Try.prog 25 #[s] w fun e w' => ∃ v L, e = .returned (.tuple #[v, .bool true]) ∧ FOwn w' w.heap.size v L ∧ frs L = ls.map (fun b => (readF b).1) ∧ Below w.heap.size w w' := by
  obtain ⟨i0, hi, hz0, hz1, hz2⟩ := info_parts Try.info25
  have HC : Hid (∀ k (h : k < ls.length), ∃ (b off : Nat) (v : Value), (∃ c, s = .slice (some ⟨b, off, none⟩) ls.length c) ∧ w.cell? ⟨b, off + k, none⟩ = some v ∧ Row w v ls[k]) := by
    intro k hk
    obtain ⟨b, off, cap, e, _, _, hc⟩ := hs.open (by intro e; rw [e] at hk; simp at hk)
    obtain ⟨v, hv, hr⟩ := hc k hk
    exact ⟨b, off, v, ⟨cap, e⟩, hv, hr⟩
  have HALL := hide hall
  obtain ⟨p, c, rfl, hc1, hc2, hc3⟩ := hs.shape
  unfold maxLen at hc2
  clear hs hall
  go_enter Try.func25, Try.ntmps25
  go_wp2_with fail
  go_loopw [4, 5] (fun v i wr => ∃ (k : Nat) (L : List (Fr × Value)), k ≤ ls.length ∧ i = .int .i64 k ∧ Hid (FOwn wr w.heap.size v L) ∧ Hid (frs L = (ls.take k).map (fun b => (readF b).1)) ∧ L.length = k ∧ Hid (Below w.heap.size w wr)) (fun _ i _ => ls.length - (intOf i).toNat)
  case atStart => exact ⟨0, [], Nat.zero_le _, rfl, FOwn.nil _ _, by simp [frs, Hid], rfl, Below.refl _ _⟩
  case round =>
    obtain ⟨k, L, hk, rfl, hF, hfr, hLk, hbel⟩ := hrel
    by_cases hlt : k < ls.length
    · obtain ⟨b, off, v, ⟨c', e⟩, hv, hr⟩ := unhide HC k hlt
      simp only [Value.slice.injEq, true_and] at e
      obtain ⟨rfl, rfl⟩ := e
      obtain ⟨hE, hlb⟩ := unhide HALL k hlt
      have hr' := hr.below (unhide hbel)
      have hv' := ((unhide hbel).cell (World.block_lt_of_cell? w _ hv)).trans hv
      have HRD := hide (read_any v ls[k] wr hr' hlb)
      have HOK := hide (readF_ok ls[k] hE)
      rw [hE] at HRD
      obtain ⟨pv, lv, qv, rfl⟩ := slice_of_row hr'
      have HST : Hid ((ls.take (k + 1)).map (fun b => (readF b).1) = (ls.take k).map (fun b => (readF b).1) ++ [(readF ls[k]).1]) := by
        unfold Hid
        rw [List.take_succ_eq_append_getElem hlt, List.map_append]
        rfl
      have hkl : (k : Int) < ls.length := by omega
      generalize (readF ls[k]).1 = f at *
      clear hr hv hr' hE hlb
      go_wp2_with fail
      refine Calls.mono (unhide HRD) ?_
      rintro e w1 ⟨t2, rfl, m2, b2⟩
      unfold fv
      obtain ⟨p2, l2, q2, e2⟩ := slice_of_row m2.row
      subst e2
      obtain ⟨W1, hW1⟩ : ∃ W1, W1 = w1.alloc (.cells #[.int .u64 (f.age : Int), .int .u64 (f.first : Int), .int .i64 f.of, .slice p2 l2 q2] 25) := ⟨_, rfl⟩
      have hbW1 : Below w1.heap.size w1 W1 := by rw [hW1]; exact (Below.refl _ _).alloc (Nat.le_refl _) _
      have h41 : At4 W1 w1.heap.size 0 (.int .u64 (f.age : Int)) (.int .u64 (f.first : Int)) (.int .i64 f.of) (.slice p2 l2 q2) := by rw [hW1]; exact at4_new _ _ _ _ _ _
      obtain ⟨W, hW⟩ : ∃ W, W = W1.alloc (.cells #[.int .u64 (f.age : Int), .int .u64 (f.first : Int), .int .i64 f.of, .slice p2 l2 q2] 25) := ⟨_, rfl⟩
      have hbW2 : Below W1.heap.size W1 W := by rw [hW]; exact (Below.refl _ _).alloc (Nat.le_refl _) _
      have hbW : Below w1.heap.size w1 W := hbW1.trans (hbW2.mono hbW1.size)
      have h4 : At4 W W1.heap.size 0 (.int .u64 (f.age : Int)) (.int .u64 (f.first : Int)) (.int .i64 f.of) (.slice p2 l2 q2) := by rw [hW]; exact at4_new _ _ _ _ _ _
      have hF1 := (unhide hF).below b2
      have hFW := hF1.below hbW
      have hB1 : Below w.heap.size w w1 := (unhide hbel).trans (b2.mono (unhide hbel).size)
      have hBW : Below w.heap.size w W := hB1.trans (hbW.mono hB1.size)
      have hap : ∀ b off n c, (Value.slice p2 l2 q2) = .slice (some ⟨b, off, none⟩) n c → f.data ≠ [] → u4.ownBlock ≠ some b := by
        intro b off n c e hne hb
        have h1 := ((unhide hF).1.lt b hb).2
        rcases m2.2 with h | ⟨g', off', cap', e', cur', he, hg', _⟩
        · exact hne h
        · rw [e] at he
          simp only [Value.slice.injEq, Option.some.injEq, Addr.mk.injEq, and_true] at he
          omega
      have HMORE := hide (fun v' w2 => hF1.more (v' := v') (w2 := w2) (m := [(f, .slice p2 l2 q2)]) hbW (fun p hp => by
        simp only [List.mem_singleton] at hp
        subst hp
        exact ⟨unhide HOK, m2.row, hap⟩))
      have HWW : Hid (W = (w1.alloc (.cells #[.int .u64 (f.age : Int), .int .u64 (f.first : Int), .int .i64 f.of, .slice p2 l2 q2] 25)).alloc (.cells #[.int .u64 (f.age : Int), .int .u64 (f.first : Int), .int .i64 f.of, .slice p2 l2 q2] 25)) := by unfold Hid; rw [hW, hW1]
      have hsW1 : W1.heap.size = w1.heap.size + 1 := by rw [hW1]; simp
      rw [hsW1] at h4
      have HOWN := hide hFW.1
      have HBW := hide hBW
      have hszW := hBW.size
      have HLTB := hide (fun j hj => (hFW.1.lt j hj).1)
      clear hW hbW hF hF1 hFW hB1 hBW hap b2 HRD hW1 hbW1 hbW2 m2 h41 hsW1
      go_wp2_with (at_builtin; rw [← unhide HWW]; refine wpList_append_gen rfl _ _ 44 rfl w.heap.size 25 i0 _ Try.underlying44 hi hz0 4 48 (by omega) hz1 hz2 rfl u4 L.length (cellsL L) rfl (unhide HOWN) ⟨w1.heap.size + 1, 0, none⟩ 1 1 (cellsL [(f, .slice p2 l2 q2)]) rfl rfl ?c1 ?c2 ?c3 ?c4 hszW ?_)
      case c1 =>
        intro j u hj
        obtain ⟨a0, a1, a2, a3⟩ := h4
        match j, hj with
        | 0, hj => simp [cellsL, frC] at hj; subst hj; simpa [Addr.add] using a0
        | 1, hj => simp [cellsL, frC] at hj; subst hj; simpa [Addr.add] using a1
        | 2, hj => simp [cellsL, frC] at hj; subst hj; simpa [Addr.add] using a2
        | 3, hj => simp [cellsL, frC] at hj; subst hj; simpa [Addr.add] using a3
        | j + 4, hj => simp [cellsL, frC] at hj
      case c2 => exact oneCell_L _ (fun p hp => by simp only [List.mem_singleton] at hp; subst hp; exact ⟨_, _, _, rfl⟩)
      case c3 => unfold maxLen; omega
      case c4 => omega
      intro v' w2 hown2 hgrow hvb
      have hF2 := unhide HMORE v' w2 (by rw [hLk]; exact hown2) hgrow hvb
      have HF2 := hide hF2
      have HB2 := hide ((unhide HBW).grown hgrow hszW (fun j hj => unhide HLTB j hj))
      clear hown2 hgrow hvb hF2 HMORE HOWN HBW HLTB h4
      go_wp2
      go_roundw
      case rel => exact ⟨k + 1, _, by omega, by go_num, unhide HF2, by unfold Hid; rw [frs_append, unhide hfr, unhide HST]; rfl, by simp; omega, unhide HB2⟩
      case measure => simp [intOf]; omega
    · have hkn : k = ls.length := by omega
      subst hkn
      have HE : Hid (frs L = ls.map (fun b => (readF b).1)) := by unfold Hid; rw [unhide hfr, List.take_length]
      go_wp2
      go_ret2
      exact ⟨_, L, rfl, unhide hF, unhide HE, unhide hbel⟩

/-- What is cut reads as the frames that it was made of. -/
theorem cut_reads (A C : Nat) (hA : A < 18446744073709551616) (hC : C < 18446744073709551616) (r : List UInt8) (h : ¬ 8192 < r.length) :
    (∀ j (hj : j < (cutL A C r).length), (readF (cutL A C r)[j]).2 = 0 ∧ (cutL A C r)[j].length ≤ 496) ∧ (cutL A C r).map (fun b => (readF b).1) = framesN A C r := by
  have hn1 := count_pos (n := r.length) (by omega)
  have hn2 := count_le (n := r.length) (by omega)
  have key : ∀ j, readF (bytesF ⟨A, C, countN r.length, partN r j⟩) = (⟨A, C, countN r.length, partN r j⟩, 0) := fun j =>
    read_bytes _ ⟨hA, hC, by simp only; omega, by simp only; omega, by simp only [length_part]; omega⟩ (part_may A C r j (by omega))
  have hlen : (cutL A C r).length = (framesN A C r).length := by unfold cutL; rw [if_neg h, List.length_map]
  have hget : ∀ j (hj : j < (cutL A C r).length), (cutL A C r)[j] = bytesF ⟨A, C, countN r.length, partN r j⟩ := by
    intro j hj
    simp only [cutL, if_neg h, List.getElem_map, frames_get]
  refine ⟨fun j hj => ?_, ?_⟩
  · rw [hget j hj, key j]
    refine ⟨rfl, ?_⟩
    have h1 := length_bytesF ⟨A, C, countN r.length, partN r j⟩
    simp only [length_part] at h1
    omega
  · apply List.ext_getElem
    · rw [List.length_map, hlen]
    · intro i h1 h2
      rw [List.getElem_map, hget i (by simpa using h1), key i, frames_get]
end Go.Proofs.Ytpiekbjpnifjlaa
