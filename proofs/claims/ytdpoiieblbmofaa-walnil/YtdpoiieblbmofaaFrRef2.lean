/- The document's own answers of layer 6: Frames, Cut. -/
import Derived.Test.YtdpoiieblbmofaaFrRef1
import Derived.Test.YtdpoiieblbmofaaFrOwnL
import Derived.Test.YtdpoiieblbmofaaFrOwn5
namespace Go.Proofs.Ytdpoiieblbmofaa
open Go.RowKit

theorem frames_take (A C : Nat) (r : List UInt8) (k : Nat) (h : (k : Int) < countN r.length) : (framesN A C r).take (k + 1) = (framesN A C r).take k ++ [⟨A, C, countN r.length, partN r k⟩] := by
  have hl := length_frames A C r
  rw [List.take_succ_eq_append_getElem (by omega), frames_get]
theorem part_eq (r : List UInt8) (k h : Nat) (h1 : h = min r.length ((k + 1) * 440)) : (r.drop (k * 440)).take (h - k * 440) = partN r k := by
  unfold partN
  rcases Nat.le_total r.length ((k + 1) * 440) with h2 | h2
  · rw [List.take_of_length_le (by simp; omega), List.take_of_length_le (by simp; omega)]
  · congr 1
    omega

set_option maxRecDepth 20000 in
set_option maxHeartbeats 1000000 in
theorem rframes_any (A C : Nat) (hA : A < 18446744073709551616) (hC : C < 18446744073709551616) (s : Value) (r : List UInt8) (w : World) (hs : Row w s r) (hroom : r.length ≤ 8192) :
    Calls Try.prog 73 #[.int .u64 (A : Int), .int .u64 (C : Int), s] w fun e w' => ∃ v l, e = .returned v ∧ FOwn w' w.heap.size v l ∧ frs l = framesN A C r ∧ Below w.heap.size w w' := by
  obtain ⟨i0, hi, hz0, hz1, hz2⟩ := info_parts Try.info91
  have hn1 := count_pos (n := r.length) (by omega)
  have hn2 := count_le (n := r.length) (by omega)
  obtain ⟨N, hN⟩ := Int.eq_ofNat_of_zero_le (show 0 ≤ countN r.length by omega)
  have HCN := hide (rcount_any (r.length : Int) w (by omega) (by omega))
  rw [hN] at HCN hn1 hn2
  have hcd : ∀ k, k < N → k * 440 ≤ r.length := by
    intro k hk
    have h1 : (k : Int) < countN r.length := by omega
    unfold countN at h1
    repeat' split at h1
    all_goals omega
  have HCD := hide hcd
  have HFT := hide (fun k (hk : k < N) => frames_take A C r k (by omega))
  rw [hN] at HFT
  have HALL : Hid ((framesN A C r).take N = framesN A C r) := by
    have := length_frames A C r
    unfold Hid
    rw [List.take_of_length_le (by omega)]
  have HR := hide (fun w' (hb : Below w.heap.size w w') => hs.below hb)
  obtain ⟨q, c, l, rfl, hl⟩ := hs.shape
  have HL := hide hl
  rw [hl] at HCN
  have hl8 : (l : Int) ≤ 8192 := by omega
  clear hs hcd hN hl
  go_enter Try.func73, Try.ntmps73
  go_wp2_with fail
  refine Calls.mono (unhide HCN) ?_
  rintro e w0 ⟨rfl, rfl⟩
  go_wp2_with fail
  go_loopw [8, 9] (fun v i wr => ∃ (k : Nat) (L : List (Fr × Value)), k ≤ N ∧ i = .int .i64 k ∧ Hid (FOwn wr w0.heap.size v L) ∧ Hid (frs L = (framesN A C r).take k) ∧ L.length = k ∧ Hid (Below w0.heap.size w0 wr)) (fun _ i _ => N - (intOf i).toNat)
  case atStart => exact ⟨0, [], Nat.zero_le _, rfl, FOwn.nil _ _, by simp [frs, Hid], rfl, Below.refl _ _⟩
  case round =>
    obtain ⟨k, L, hk, rfl, hF, hfr, hLk, hbel⟩ := hrel
    by_cases hlt : k < N
    · have hck := unhide HCD k hlt
      have hrow := unhide HR wr (unhide hbel)
      have hkl : (k : Int) < N := by omega
      have hll := unhide HL
      have hk0 : (k : Int) * 440 ≤ l := by omega
      by_cases hto : (l : Int) ≤ ((k : Int) + 1) * 440
      · have hto2 : ¬ ((k : Int) + 1) * 440 < l := by omega
        have hpe := part_eq r k r.length (by omega)
        have HCC : Hid (∀ t', Row wr t' ((r.drop ((k : Int) * 440).toNat).take (((l : Int) : Int).toNat - ((k : Int) * 440).toNat)) → Row wr t' (partN r k)) := by
          intro t' ht
          have e1 : ((k : Int) * 440).toNat = k * 440 := by omega
          have e2 : ((l : Int) : Int).toNat = r.length := by omega
          rw [e1, e2, hpe] at ht
          exact ht
        have hhl : ((l : Int) : Int) ≤ r.length := by omega
        have hkh : (k : Int) * 440 ≤ (l : Int) := by omega
        clear hpe hck
        go_wp2_with (refine wpList_slice_lh rfl 27 5 _ _ _ rfl Try.underlying27 Try.size5 _ r ((k : Int) * 440) ((l : Int)) .i64 .i64 rfl rfl rfl hrow (by omega) hkh hhl ?_)
        intro t1 hr1
        have hr1' := unhide HCC t1 hr1
        have HCB := hide (copyBytes_any t1 (partN r k) wr hr1' (by rw [length_part]; omega))
        obtain ⟨p1, l1, c1, rfl⟩ := slice_of_row hr1'
        clear hr1 hr1' hrow HCC hhl hkh
        go_wp2_with fail
        refine Calls.mono (unhide HCB) ?_
        rintro e w1 ⟨t2, rfl, x2, b2⟩
        obtain ⟨W, hW⟩ : ∃ W, W = w1.alloc (.cells #[.int .u64 (A : Int), .int .u64 (C : Int), .int .i64 (N : Int), t2] 91) := ⟨_, rfl⟩
        have hbW : Below w1.heap.size w1 W := by rw [hW]; exact (Below.refl _ _).alloc (Nat.le_refl _) _
        have h4 : At4 W w1.heap.size 0 (.int .u64 (A : Int)) (.int .u64 (C : Int)) (.int .i64 (N : Int)) t2 := by rw [hW]; exact at4_new _ _ _ _ _ _
        have hF1 := (unhide hF).below b2
        have hFW := hF1.below hbW
        have hB1 : Below w0.heap.size w0 w1 := (unhide hbel).trans (b2.mono (unhide hbel).size)
        have hBW : Below w0.heap.size w0 W := hB1.trans (hbW.mono hB1.size)
        have hr2 := row_of_owns x2
        have hap : ∀ b off n c, t2 = .slice (some ⟨b, off, none⟩) n c → partN r k ≠ [] → u8.ownBlock ≠ some b := by
          intro b off n c e _ hb
          have h1 := ((unhide hF).1.lt b hb).2
          rw [e] at x2
          have h2 := (x2.lt b rfl).1
          omega
        obtain ⟨p2, l2, c2, e2⟩ := slice_of_row hr2
        subst e2
        have HMORE := hide (fun v' w2 => hF1.more (v' := v') (w2 := w2) (m := [(⟨A, C, (N : Int), partN r k⟩, .slice p2 l2 c2)]) hbW (fun p hp => by
          simp only [List.mem_singleton] at hp
          subst hp
          exact ⟨⟨hA, hC, by simp only; omega, by simp only; omega, by simp only [length_part]; omega⟩, hr2, hap⟩))
        have HWW := hide hW
        have HOWN := hide hFW.1
        have HBW := hide hBW
        have hszW := hBW.size
        have HLTB := hide (fun j hj => (hFW.1.lt j hj).1)
        clear hW hbW hF hF1 hFW hB1 hBW hr2 hap x2 b2 HCB
        go_wp2_with (at_builtin; rw [← unhide HWW]; refine wpList_append_gen rfl _ _ 89 rfl w0.heap.size 91 i0 _ Try.underlying89 hi hz0 4 48 (by omega) hz1 hz2 rfl u8 L.length (cellsL L) rfl (unhide HOWN) ⟨w1.heap.size, 0, none⟩ 1 1 (cellsL [(⟨A, C, (N : Int), partN r k⟩, .slice p2 l2 c2)]) rfl rfl ?c1 ?c2 ?c3 ?c4 hszW ?_)
        case c1 =>
          intro j u hj
          obtain ⟨a0, a1, a2, a3⟩ := h4
          match j, hj with
          | 0, hj => simp [cellsL, frC] at hj; subst hj; simpa [Addr.add] using a0
          | 1, hj => simp [cellsL, frC] at hj; subst hj; simpa [Addr.add] using a1
          | 2, hj => simp [cellsL, frC] at hj; subst hj; simpa [Addr.add] using a2
          | 3, hj => simp [cellsL, frC] at hj; subst hj; simpa [Addr.add] using a3
          | j + 4, hj => simp [cellsL, frC] at hj
        case c2 => exact oneCell_L _ (fun p hp => by simp only [List.mem_singleton] at hp; subst hp; exact ⟨_, _, _, rfl⟩)
        case c3 => unfold maxLen; omega
        case c4 => omega
        intro v' w2 hown2 hgrow hvb
        have hF2 := unhide HMORE v' w2 (by rw [hLk]; exact hown2) hgrow hvb
        have HF2 := hide hF2
        have HB2 := hide ((unhide HBW).grown hgrow hszW (fun j hj => unhide HLTB j hj))
        clear hown2 hgrow hvb hF2 HMORE HOWN HBW HLTB h4
        go_wp2
        go_roundw
        case rel => exact ⟨k + 1, _, by omega, by go_num, unhide HF2, by unfold Hid; rw [frs_append, unhide hfr, unhide HFT k hlt]; rfl, by simp; omega, unhide HB2⟩
        case measure => simp [intOf]; omega
      · have hto2 : ((k : Int) + 1) * 440 < l := by omega
        have hpe := part_eq r k ((k + 1) * 440) (by omega)
        have HCC : Hid (∀ t', Row wr t' ((r.drop ((k : Int) * 440).toNat).take ((((k : Int) + 1) * 440 : Int).toNat - ((k : Int) * 440).toNat)) → Row wr t' (partN r k)) := by
          intro t' ht
          have e1 : ((k : Int) * 440).toNat = k * 440 := by omega
          have e2 : (((k : Int) + 1) * 440 : Int).toNat = ((k + 1) * 440) := by omega
          rw [e1, e2, hpe] at ht
          exact ht
        have hhl : (((k : Int) + 1) * 440 : Int) ≤ r.length := by omega
        have hkh : (k : Int) * 440 ≤ ((k : Int) + 1) * 440 := by omega
        clear hpe hck
        go_wp2_with (refine wpList_slice_lh rfl 27 5 _ _ _ rfl Try.underlying27 Try.size5 _ r ((k : Int) * 440) (((k : Int) + 1) * 440) .i64 .i64 rfl rfl rfl hrow (by omega) hkh hhl ?_)
        intro t1 hr1
        have hr1' := unhide HCC t1 hr1
        have HCB := hide (copyBytes_any t1 (partN r k) wr hr1' (by rw [length_part]; omega))
        obtain ⟨p1, l1, c1, rfl⟩ := slice_of_row hr1'
        clear hr1 hr1' hrow HCC hhl hkh
        go_wp2_with fail
        refine Calls.mono (unhide HCB) ?_
        rintro e w1 ⟨t2, rfl, x2, b2⟩
        obtain ⟨W, hW⟩ : ∃ W, W = w1.alloc (.cells #[.int .u64 (A : Int), .int .u64 (C : Int), .int .i64 (N : Int), t2] 91) := ⟨_, rfl⟩
        have hbW : Below w1.heap.size w1 W := by rw [hW]; exact (Below.refl _ _).alloc (Nat.le_refl _) _
        have h4 : At4 W w1.heap.size 0 (.int .u64 (A : Int)) (.int .u64 (C : Int)) (.int .i64 (N : Int)) t2 := by rw [hW]; exact at4_new _ _ _ _ _ _
        have hF1 := (unhide hF).below b2
        have hFW := hF1.below hbW
        have hB1 : Below w0.heap.size w0 w1 := (unhide hbel).trans (b2.mono (unhide hbel).size)
        have hBW : Below w0.heap.size w0 W := hB1.trans (hbW.mono hB1.size)
        have hr2 := row_of_owns x2
        have hap : ∀ b off n c, t2 = .slice (some ⟨b, off, none⟩) n c → partN r k ≠ [] → u8.ownBlock ≠ some b := by
          intro b off n c e _ hb
          have h1 := ((unhide hF).1.lt b hb).2
          rw [e] at x2
          have h2 := (x2.lt b rfl).1
          omega
        obtain ⟨p2, l2, c2, e2⟩ := slice_of_row hr2
        subst e2
        have HMORE := hide (fun v' w2 => hF1.more (v' := v') (w2 := w2) (m := [(⟨A, C, (N : Int), partN r k⟩, .slice p2 l2 c2)]) hbW (fun p hp => by
          simp only [List.mem_singleton] at hp
          subst hp
          exact ⟨⟨hA, hC, by simp only; omega, by simp only; omega, by simp only [length_part]; omega⟩, hr2, hap⟩))
        have HWW := hide hW
        have HOWN := hide hFW.1
        have HBW := hide hBW
        have hszW := hBW.size
        have HLTB := hide (fun j hj => (hFW.1.lt j hj).1)
        clear hW hbW hF hF1 hFW hB1 hBW hr2 hap x2 b2 HCB
        go_wp2_with (at_builtin; rw [← unhide HWW]; refine wpList_append_gen rfl _ _ 89 rfl w0.heap.size 91 i0 _ Try.underlying89 hi hz0 4 48 (by omega) hz1 hz2 rfl u8 L.length (cellsL L) rfl (unhide HOWN) ⟨w1.heap.size, 0, none⟩ 1 1 (cellsL [(⟨A, C, (N : Int), partN r k⟩, .slice p2 l2 c2)]) rfl rfl ?c1 ?c2 ?c3 ?c4 hszW ?_)
        case c1 =>
          intro j u hj
          obtain ⟨a0, a1, a2, a3⟩ := h4
          match j, hj with
          | 0, hj => simp [cellsL, frC] at hj; subst hj; simpa [Addr.add] using a0
          | 1, hj => simp [cellsL, frC] at hj; subst hj; simpa [Addr.add] using a1
          | 2, hj => simp [cellsL, frC] at hj; subst hj; simpa [Addr.add] using a2
          | 3, hj => simp [cellsL, frC] at hj; subst hj; simpa [Addr.add] using a3
          | j + 4, hj => simp [cellsL, frC] at hj
        case c2 => exact oneCell_L _ (fun p hp => by simp only [List.mem_singleton] at hp; subst hp; exact ⟨_, _, _, rfl⟩)
        case c3 => unfold maxLen; omega
        case c4 => omega
        intro v' w2 hown2 hgrow hvb
        have hF2 := unhide HMORE v' w2 (by rw [hLk]; exact hown2) hgrow hvb
        have HF2 := hide hF2
        have HB2 := hide ((unhide HBW).grown hgrow hszW (fun j hj => unhide HLTB j hj))
        clear hown2 hgrow hvb hF2 HMORE HOWN HBW HLTB h4
        go_wp2
        go_roundw
        case rel => exact ⟨k + 1, _, by omega, by go_num, unhide HF2, by unfold Hid; rw [frs_append, unhide hfr, unhide HFT k hlt]; rfl, by simp; omega, unhide HB2⟩
        case measure => simp [intOf]; omega
    · have hkn : k = N := by omega
      subst hkn
      go_wp2
      go_ret
      exact ⟨_, L, rfl, unhide hF, by rw [unhide hfr, unhide HALL], unhide hbel⟩
end Go.Proofs.Ytdpoiieblbmofaa
