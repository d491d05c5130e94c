/- The walk of the law WalNil. -/
import Derived.Test.YtdpoiieblbmofaaG29
namespace Go.Proofs.Ytdpoiieblbmofaa
open Go.RowKit

/-- The log behind a record of 900 bytes. -/
theorem app900 (r : List UInt8) (hr : r.length = 900) : appE 256 (DK.new 256) (lg0 0 1) r = 0 ∧ appL 256 (DK.new 256) (lg0 0 1) r = (lg0 0 1).add 1 3 := by
  obtain ⟨a1, a2, a3, a4, a5, a6, a7⟩ := app_calm (n := 256) (s := DK.new 256) (L := lg0 0 1) (r := r) fits256 rfl calm_new rfl
  have e0 : countN (r.length : Int) = 3 := by rw [hr]; rfl
  have e1 : appE 256 (DK.new 256) (lg0 0 1) r = 0 := by rw [a1, if_neg (by omega), lz256, e0, if_neg (by decide)]
  exact ⟨e1, by rw [a6, if_pos e1, e0]; rfl⟩

set_option maxRecDepth 20000 in
set_option maxHeartbeats 40000000 in
theorem wnil_any (s0 : Value) (b0 : List UInt8) (n : Nat) (other : Int) (w : World) (h0 : Row w s0 b0) (hn : n < 18446744073709551616) (ho : -9223372036854775808 ≤ other ∧ other ≤ 9223372036854775807) :
    Calls Try.prog 5 #[s0, .int .u64 (n : Int), .int .i64 other] w fun e w' => e = .returned (.bool true) ∧ Below w.heap.size w w' := by
  obtain ⟨xp, xc, xl, rfl, hxl⟩ := h0.shape
  clear hxl h0
  have HDV := hide (device_any w)
  rw [lay256] at HDV
  have HAW := hide (fun w' => wawake_any w')
  have HBG := hide (fun w' => begin_any w')
  have HON := hide (fun w' => wopen_nil (.agg #[.int .i64 256, .int .i64 3, .int .i64 13, .int .i64 30, .int .i64 43, .int .i64 73, .int .i64 30, .int .i64 103, .int .i64 4]) ⟨_, _, _, _, _, _, _, _, _, rfl⟩ 0 0 1 w')
  have hlne := lay_ne7 256 3 13 30 43 73 other 30 103 4
  go_enter Try.func5, Try.ntmps5
  go_wp2_with fail
  refine Calls.mono (unhide HDV) ?_
  rintro e w1 ⟨dp, rfl, ⟨F, hD, hF⟩, b1⟩
  obtain ⟨dg, rfl⟩ := hD.ptr
  obtain ⟨W2, hW2⟩ : ∃ W2, W2 = w1.alloc (.cells #[.int .i64 256, .int .i64 3, .int .i64 13, .int .i64 30, .int .i64 43, .int .i64 73, .int .i64 30, .int .i64 103, .int .i64 4] 33) := ⟨_, rfl⟩
  have hal : Below w1.heap.size w1 W2 := by rw [hW2]; exact (Below.refl _ _).alloc (Nat.le_refl _) _
  have hX2 : W2.heap[w1.heap.size]? = some (.cells #[.int .i64 256, .int .i64 3, .int .i64 13, .int .i64 30, .int .i64 43, .int .i64 73, .int .i64 30, .int .i64 103, .int .i64 4] 33 (0, 0)) := by rw [hW2]; exact heap_alloc_new w1 _
  have HD2 := hide (hD.stays hal.size (fun k hk => hal.block k (hD.lt k hk)))
  have HF := hide hF
  have HFL1 : Hid (∀ k, F k → k < w1.heap.size) := hD.lt
  have HB2 := hide (b1.trans (hal.mono b1.size))
  have HX2 := hide hX2
  have HW2 := hide hW2
  have HWS : Hid (w.heap.size ≤ w1.heap.size) := b1.size
  clear hD hF b1 hal HDV hX2 hW2
  go_wp2_with fail
  rw [← unhide HW2]
  refine Calls.mono (unhide HON _) ?_
  rintro e w3 ⟨rfl, b3⟩
  have HD3 := hide ((unhide HD2).stays b3.size (fun k hk => b3.block k ((unhide HD2).lt k hk)))
  have HB3 := hide ((unhide HB2).trans (b3.mono (unhide HB2).size))
  have hX3 := (b3.block w1.heap.size (Array.getElem?_eq_some_iff.1 (unhide HX2)).1).trans (unhide HX2)
  have HX3 := hide hX3
  obtain ⟨c0, c1, c2, c3, c4, c5, c6, c7, c8⟩ := nine_cells hX3
  have hl3 : w1.heap.size < w3.heap.size := World.block_lt_of_cell? w3 _ c0
  obtain ⟨W4, hW4⟩ : ∃ W4, W4 = w3.alloc (.cells #[.int .i64 256, .int .i64 3, .int .i64 13, .int .i64 30, .int .i64 43, .int .i64 73, .int .i64 other, .int .i64 103, .int .i64 4] 33) := ⟨_, rfl⟩
  have hb4 : Below w3.heap.size w3 W4 := by rw [hW4]; exact (Below.refl _ _).alloc (Nat.le_refl _) _
  have HY4 : Hid (W4.heap[w3.heap.size]? = some (.cells #[.int .i64 256, .int .i64 3, .int .i64 13, .int .i64 30, .int .i64 43, .int .i64 73, .int .i64 other, .int .i64 103, .int .i64 4] 33 (0, 0))) := by unfold Hid; rw [hW4]; exact heap_alloc_new w3 _
  have HX4 := hide ((hb4.block w1.heap.size hl3).trans hX3)
  have HD4 := hide ((unhide HD3).stays hb4.size (fun k hk => hb4.block k ((unhide HD3).lt k hk)))
  have HB4 := hide ((unhide HB3).trans (hb4.mono (unhide HB3).size))
  have HW4 := hide hW4
  clear b3 hX3 hb4 hW4 HD2 HB2 HX2 HD3 HB3 HX3
  go_wp2_with fail
  rw [← unhide HW4]
  refine Calls.mono (unhide HAW _) ?_
  rintro e w5 ⟨rfl, b5⟩
  have HD5 := hide ((unhide HD4).stays b5.size (fun k hk => b5.block k ((unhide HD4).lt k hk)))
  have HB5 := hide ((unhide HB4).trans (b5.mono (unhide HB4).size))
  have hX5 := (b5.block w1.heap.size (Array.getElem?_eq_some_iff.1 (unhide HX4)).1).trans (unhide HX4)
  have hY5 := (b5.block w3.heap.size (Array.getElem?_eq_some_iff.1 (unhide HY4)).1).trans (unhide HY4)
  have HX5 := hide hX5
  clear c0 c1 c2 c3 c4 c5 c6 c7 c8
  obtain ⟨c0, c1, c2, c3, c4, c5, c6, c7, c8⟩ := nine_cells hX5
  obtain ⟨y0, y1, y2, y3, y4, y5, y6, y7, y8⟩ := nine_cells hY5
  have HOO := hide (fun (hx : other ≠ 30) => wopen_other F (.pointer (some dg)) (DK.new 256) 256 other 0 0 1 w5 (unhide HD5) rfl fits256 (by rw [lz256]; exact hx))
  rw [lz256, show lseg 256 = 4 by unfold lseg lz; rfl] at HOO
  clear b5 hX5 hY5 HD4 HB4 HX4 HY4 HW4 HW2 HON hl3
  have HEND : Hid (True) := trivial
  by_cases hot : other = 30
  · subst hot
    clear HOO
    rw [show ((30 : Int) == 30) = true from rfl] at hlne
    obtain ⟨w6, hw6⟩ : ∃ w6, w6 = w5 := ⟨w5, rfl⟩
    subst hw6
    have HD6 := HD5
    have HB6 := HB5
    have HX6 := HX5
    clear HD5 HB5 HX5
    go_wp2_with fail
    clear c0 c1 c2 c3 c4 c5 c6 c7 c8 y0 y1 y2 y3 y4 y5 y6 y7 y8
    refine Calls.mono (unhide HBG _) ?_
    rintro e w7 ⟨g, rfl, lp, dp, F2, G2, K2, hBk, hnew, b7⟩
    have HD7 := hide ((unhide HD6).stays b7.size (fun k hk => b7.block k ((unhide HD6).lt k hk)))
    have HB7 := hide ((unhide HB6).trans (b7.mono (unhide HB6).size))
    have HX7 := hide ((b7.block w1.heap.size (Array.getElem?_eq_some_iff.1 (unhide HX6)).1).trans (unhide HX6))
    obtain ⟨i0, hi, hz0, hz1, hz2⟩ := info_parts Try.info5
    obtain ⟨w8, hrun, r1, r2⟩ := run_make_full (P := Try.prog) w7 w7.heap.size 27 5 i0 (.int .u8 0) 1 Try.underlying27 hi hz0 hz1 .i64 .i64 900 (by rw [hz2]; omega) (by unfold maxLen; omega) (Nat.le_refl _)
    have hrun' : (Instr.makeSlice 27 (.int .i64 900) (.int .i64 900)).run Try.prog w7 = .ok (.slice (some ⟨w7.heap.size, 0, none⟩) 900 900) w8 := hrun
    have b8 : Below w7.heap.size w7 w8 := (Below.refl _ _).grown r2 (Nat.le_refl _) (fun k hk => by cases hk)
    have hblk8 := made_block (m := 900) r1
    have hrow8 : Row w8 (.slice (some ⟨w7.heap.size, 0, none⟩) 900 900) (List.replicate 900 (0 : UInt8)) := by
      have h := row_of_block hblk8 0 900 900 (by rw [List.length_replicate]; omega) (Nat.le_refl _) (by unfold maxLen; omega)
      rw [List.drop_zero, List.take_of_length_le (by rw [List.length_replicate]; omega)] at h
      exact h
    generalize hZR : List.replicate 900 (0 : UInt8) = ZR at *
    have hZL : ZR.length = 900 := by rw [← hZR, List.length_replicate]
    have hBk8 : Book F2 G2 K2 w8 g lp dp (DK.new 256) (lg0 0 1) bk0 (.slice none 0 0) (.slice none 0 0) (.slice none 0 0) := ⟨hBk.both.below b8, hBk.at_.below b8, hBk.apF, hBk.apG, hBk.first, hBk.next, hBk.age, hBk.starts, hBk.tl, hBk.al⟩
    have hlt7 : ∀ k, all3 F2 G2 K2 k → k < w7.heap.size := fun k hk => by
      rcases hk with h | h | h
      · exact hBk.both.dev.lt k h
      · exact hBk.both.log.lt k h
      · exact hBk.at_.lt k h
    have HAP := hide (bappend_calm F2 G2 K2 g lp dp (DK.new 256) (lg0 0 1) bk0 _ _ _ _ ZR w8 hBk8 calm_new rfl hrow8 (by omega) (fun k off n c e hne => by
      simp only [Value.slice.injEq, Option.some.injEq, Addr.mk.injEq, and_true] at e
      obtain ⟨⟨rfl, _⟩, _⟩ := e
      exact ⟨fun h => Nat.lt_irrefl _ (hlt7 _ (Or.inl h)), fun h => Nat.lt_irrefl _ (hlt7 _ (Or.inr (Or.inl h))), fun h => Nat.lt_irrefl _ (hlt7 _ (Or.inr (Or.inr h)))⟩) (by show 0 + 64 ≤ _; omega) (by show 0 + 64 ≤ _; omega) (by show 0 + 64 < _; omega) (by show 0 ≤ _; omega))
    obtain ⟨ea, la⟩ := app900 ZR hZL
    rw [ea, la] at HAP
    have HB8 := hide ((unhide HB7).trans (b8.mono (unhide HB7).size))
    have HNEW : Hid (∀ k, all3 F2 G2 K2 k → w6.heap.size ≤ k) := hnew
    have HS68 : Hid (w6.heap.size ≤ w8.heap.size) := Nat.le_trans b7.size b8.size
    have HD8 := hide ((unhide HD7).stays b8.size (fun k hk => b8.block k ((unhide HD7).lt k hk)))
    have HX8 := hide ((b8.block w1.heap.size (Array.getElem?_eq_some_iff.1 (unhide HX7)).1).trans (unhide HX7))
    have HD6l : Hid (∀ k, F k → k < w6.heap.size) := (unhide HD6).lt
    have HX6l : Hid (w1.heap.size < w6.heap.size) := (Array.getElem?_eq_some_iff.1 (unhide HX6)).1
    clear hBk hnew b7 hrun r1 r2 b8 hblk8 hrow8 hBk8 hlt7 ea la hi hz0 hz1 hz2 hZR hZL HD7 HX7
    go_wp2_with fail
    refine Calls.mono (unhide HAP) ?_
    rintro e w9 ⟨rfl, F9, G9, K9, rv, tv, av, hB9, hM9⟩
    have b9 : Below w6.heap.size w8 w9 := hM9.keep.below (unhide HS68) (unhide HNEW)
    have HB9 := hide ((unhide HB8).trans (b9.mono (unhide HB6).size))
    have HD9 := hide ((unhide HD8).stays b9.size (fun k hk => b9.block k (unhide HD6l k hk)))
    have HX9 := hide ((b9.block w1.heap.size (unhide HX6l)).trans (unhide HX8))
    have hG9 : ∀ k, G9 k → w6.heap.size ≤ k := fun k hk => by
      rcases hM9.sub k (Or.inr (Or.inl hk)) with h | h
      · exact unhide HNEW k h
      · exact Nat.le_trans (unhide HS68) h
    have HG9 := hide hG9
    have c10 := (nineteen_cells hB9.at_.blk).1.2.2.1
    obtain ⟨lg, hlg⟩ : ∃ lg, lp = .pointer (some lg) := by obtain ⟨g, sv, e, _⟩ := hB9.both.log; exact ⟨_, e⟩
    subst hlg
    have HB9k := hide hB9
    have HFR := hide (fun (to : Nat) w' L' (h : LRep G9 w' (.pointer (some lg)) dp 256 L') => wfree_any G9 _ dp 256 L' to w' h)
    have HS9 : Hid (w6.heap.size ≤ w9.heap.size) := Nat.le_trans (unhide HS68) b9.size
    clear hM9 hB9 b9 hG9 HAP HD8 HX8 hrun'
    obtain ⟨L9, hL9⟩ : ∃ L9, L9 = (lg0 0 1).add 1 3 := ⟨_, rfl⟩
    have HBG3 : Hid (L9.begins 3) := by unfold Hid; rw [hL9]; exact Or.inr rfl
    have HBGN : Hid (n ≠ 0 → n ≠ 3 → ¬ L9.begins n) := by
      unfold Hid
      rw [hL9]
      rintro h0 h3 (⟨p, hp, e⟩ | e)
      · simp [LG.add, lg0] at hp
        rw [hp] at e
        exact h0 e.symm
      · exact h3 e
    have HLR9 : Hid (LRep G9 w9 (.pointer (some lg)) dp 256 L9) := by unfold Hid; rw [hL9]; exact (unhide HB9k).both.log
    have HBAT := hide (unhide HB9k).at_
    have HAPK := hide (unhide HB9k).apG
    clear hL9 HB9k
    -- what comes behind the second Free
    have HCR := hide (fun w' (h : DRep F w' (.pointer (some dg)) (DK.new 256)) => ocrash_any F _ (DK.new 256) (.slice none 0 0) [] w' h ⟨none, 0, rfl, by simp, by unfold maxLen; omega, fun _ => rfl, Or.inl rfl⟩ (fun b off n c e => by cases e) (by show 0 ≤ _; omega))
    have HOD := hide (fun F' w' (h : DRep F' w' (.pointer (some dg)) ((DK.new 256).crash [])) => wopen_any F' _ ((DK.new 256).crash []) 256 0 0 1 w' h rfl fits256 (by omega) (by omega) (by omega) (by omega))
    rw [lay256] at HOD
    have Hn1 := hide (fun w' => wappend_nil xp xl xc w')
    have Hn2 := hide (fun w' => wsync_nil w')
    have Hn3 := hide (fun (t : Int) w' => wfree_nil t w')
    have Hn4 := hide (fun w' => wfirst_nil w')
    have Hn5 := hide (fun w' => wnext_nil w')
    have Hn6 := hide (fun w' => wleast_nil w')
    have Hn7 := hide (fun w' => wleft_nil w')
    have HDL : Hid (∀ k, F k → k < w6.heap.size) := unhide HD6l
    have hcase : n = 0 ∨ n = 3 ∨ (¬ n = 0 ∧ ¬ (n : Int) = 3 ∧ Hid (¬ L9.begins n)) := by
      by_cases h0 : n = 0
      · exact Or.inl h0
      · by_cases h3 : n = 3
        · exact Or.inr (Or.inl h3)
        · exact Or.inr (Or.inr ⟨h0, by omega, unhide HBGN h0 h3⟩)
    clear HBGN
    -- the end, from the world behind the second Free on
    have HFREE3 : Hid (∀ w', LRep G9 w' (.pointer (some lg)) dp 256 L9 → Calls Try.prog 19 #[.pointer (some lg), .int .u64 3] w' fun e w'' => e = .returned (.int .i64 0) ∧ Keep G9 w' w'') := by
      intro w' h
      refine (unhide HFR 3 w' L9 h).mono ?_
      rintro e w'' ⟨rfl, _, hk⟩
      rw [if_pos (unhide HBG3)]
      exact ⟨rfl, hk⟩
    have HFREEN : Hid (∀ w', ¬ L9.begins n → LRep G9 w' (.pointer (some lg)) dp 256 L9 → Calls Try.prog 19 #[.pointer (some lg), .int .u64 (n : Int)] w' fun e w'' => e = .returned (.int .i64 1) ∧ LRep G9 w'' (.pointer (some lg)) dp 256 L9 ∧ Keep G9 w' w'') := by
      intro w' hb h
      refine (unhide HFR n w' L9 h).mono ?_
      rintro e w'' ⟨rfl, hl, hk⟩
      rw [if_neg hb] at hl ⊢
      exact ⟨rfl, hl, hk⟩
    clear HFR HBG3
    rcases hcase with hc | hc | ⟨hc1, hc2, hc3⟩
    · subst hc
      go_wp2_with fail
      refine Calls.mono (unhide HFREE3 w9 (unhide HLR9)) ?_
      rintro e w11 ⟨rfl, k11⟩
      have hb11 : Below w6.heap.size w9 w11 := k11.below (unhide HS9) (unhide HG9)
      have hD11 := (unhide HD9).stays hb11.size (fun k hk => hb11.block k (unhide HDL k hk))
      have HX11 := hide ((hb11.block w1.heap.size (unhide HX6l)).trans (unhide HX9))
      have HB11 := hide ((unhide HB9).trans (hb11.mono (unhide HB6).size))
      have HC11 := hide (unhide HCR w11 hD11)
      clear hb11 hD11 k11 c10
      go_wp2_with fail
      refine Calls.mono (unhide HC11) ?_
      rintro e w12 ⟨rfl, F12, hD12, hM12⟩
      have hX12 := (hM12.keep.block w1.heap.size (Array.getElem?_eq_some_iff.1 (unhide HX11)).1 (fun h => Nat.lt_irrefl _ (unhide HFL1 _ h))).trans (unhide HX11)
      have HB12 := hide ((unhide HB11).trans (hM12.keep.below (unhide HB11).size (unhide HF)))
      have HO12 := hide (unhide HOD F12 w12 hD12)
      obtain ⟨c0, c1, c2, c3, c4, c5, c6, c7, c8⟩ := nine_cells hX12
      clear hX12 hD12 hM12 HC11
      go_wp2_with fail
      refine Calls.mono (unhide HO12) ?_
      rintro e w13 ⟨hO, b13⟩
      unfold OpenR at hO
      rw [if_pos (show ((DK.new 256).crash []).fell = true from rfl)] at hO
      subst hO
      have HB13 := hide ((unhide HB12).trans (b13.mono (unhide HB12).size))
      clear b13 HO12 c0 c1 c2 c3 c4 c5 c6 c7 c8
      go_wp2_with fail
      refine Calls.mono (unhide Hn1 _) ?_
      rintro e w14 ⟨rfl, b14⟩
      have HB14 := hide ((unhide HB13).trans (b14.mono (unhide HB13).size))
      clear b14
      go_wp2_with fail
      refine Calls.mono (unhide Hn2 _) ?_
      rintro e w15 ⟨rfl, b15⟩
      have HB15 := hide ((unhide HB14).trans (b15.mono (unhide HB14).size))
      clear b15
      go_wp2_with fail
      refine Calls.mono (unhide Hn3 _ _) ?_
      rintro e w16 ⟨rfl, b16⟩
      have HB16 := hide ((unhide HB15).trans (b16.mono (unhide HB15).size))
      clear b16
      go_wp2_with fail
      refine Calls.mono (unhide Hn4 _) ?_
      rintro e w17 ⟨rfl, b17⟩
      have HB17 := hide ((unhide HB16).trans (b17.mono (unhide HB16).size))
      clear b17
      go_wp2_with fail
      refine Calls.mono (unhide Hn5 _) ?_
      rintro e w18 ⟨rfl, b18⟩
      have HB18 := hide ((unhide HB17).trans (b18.mono (unhide HB17).size))
      clear b18
      go_wp2_with fail
      refine Calls.mono (unhide Hn6 _) ?_
      rintro e w19 ⟨rfl, b19⟩
      have HB19 := hide ((unhide HB18).trans (b19.mono (unhide HB18).size))
      clear b19
      go_wp2_with fail
      refine Calls.mono (unhide Hn7 _) ?_
      rintro e w20 ⟨rfl, b20⟩
      have HB20 := hide ((unhide HB19).trans (b20.mono (unhide HB19).size))
      clear b20
      go_wp2_with fail
      go_ret
      exact ⟨rfl, unhide HB20⟩
    · subst hc
      go_wp2_with fail
      refine Calls.mono (unhide HFREE3 w9 (unhide HLR9)) ?_
      rintro e w11 ⟨rfl, k11⟩
      have hb11 : Below w6.heap.size w9 w11 := k11.below (unhide HS9) (unhide HG9)
      have hD11 := (unhide HD9).stays hb11.size (fun k hk => hb11.block k (unhide HDL k hk))
      have HX11 := hide ((hb11.block w1.heap.size (unhide HX6l)).trans (unhide HX9))
      have HB11 := hide ((unhide HB9).trans (hb11.mono (unhide HB6).size))
      have HC11 := hide (unhide HCR w11 hD11)
      clear hb11 hD11 k11 c10
      go_wp2_with fail
      refine Calls.mono (unhide HC11) ?_
      rintro e w12 ⟨rfl, F12, hD12, hM12⟩
      have hX12 := (hM12.keep.block w1.heap.size (Array.getElem?_eq_some_iff.1 (unhide HX11)).1 (fun h => Nat.lt_irrefl _ (unhide HFL1 _ h))).trans (unhide HX11)
      have HB12 := hide ((unhide HB11).trans (hM12.keep.below (unhide HB11).size (unhide HF)))
      have HO12 := hide (unhide HOD F12 w12 hD12)
      obtain ⟨c0, c1, c2, c3, c4, c5, c6, c7, c8⟩ := nine_cells hX12
      clear hX12 hD12 hM12 HC11
      go_wp2_with fail
      refine Calls.mono (unhide HO12) ?_
      rintro e w13 ⟨hO, b13⟩
      unfold OpenR at hO
      rw [if_pos (show ((DK.new 256).crash []).fell = true from rfl)] at hO
      subst hO
      have HB13 := hide ((unhide HB12).trans (b13.mono (unhide HB12).size))
      clear b13 HO12 c0 c1 c2 c3 c4 c5 c6 c7 c8
      go_wp2_with fail
      refine Calls.mono (unhide Hn1 _) ?_
      rintro e w14 ⟨rfl, b14⟩
      have HB14 := hide ((unhide HB13).trans (b14.mono (unhide HB13).size))
      clear b14
      go_wp2_with fail
      refine Calls.mono (unhide Hn2 _) ?_
      rintro e w15 ⟨rfl, b15⟩
      have HB15 := hide ((unhide HB14).trans (b15.mono (unhide HB14).size))
      clear b15
      go_wp2_with fail
      refine Calls.mono (unhide Hn3 _ _) ?_
      rintro e w16 ⟨rfl, b16⟩
      have HB16 := hide ((unhide HB15).trans (b16.mono (unhide HB15).size))
      clear b16
      go_wp2_with fail
      refine Calls.mono (unhide Hn4 _) ?_
      rintro e w17 ⟨rfl, b17⟩
      have HB17 := hide ((unhide HB16).trans (b17.mono (unhide HB16).size))
      clear b17
      go_wp2_with fail
      refine Calls.mono (unhide Hn5 _) ?_
      rintro e w18 ⟨rfl, b18⟩
      have HB18 := hide ((unhide HB17).trans (b18.mono (unhide HB17).size))
      clear b18
      go_wp2_with fail
      refine Calls.mono (unhide Hn6 _) ?_
      rintro e w19 ⟨rfl, b19⟩
      have HB19 := hide ((unhide HB18).trans (b19.mono (unhide HB18).size))
      clear b19
      go_wp2_with fail
      refine Calls.mono (unhide Hn7 _) ?_
      rintro e w20 ⟨rfl, b20⟩
      have HB20 := hide ((unhide HB19).trans (b20.mono (unhide HB19).size))
      clear b20
      go_wp2_with fail
      go_ret
      exact ⟨rfl, unhide HB20⟩
    · go_wp2_with fail
      refine Calls.mono (unhide HFREEN w9 (unhide hc3) (unhide HLR9)) ?_
      rintro e w10 ⟨rfl, hl10, k10⟩
      have hb10 : Below w6.heap.size w9 w10 := k10.below (unhide HS9) (unhide HG9)
      have HD10 := hide ((unhide HD9).stays hb10.size (fun k hk => hb10.block k (unhide HDL k hk)))
      have HX10 := hide ((hb10.block w1.heap.size (unhide HX6l)).trans (unhide HX9))
      have HB10 := hide ((unhide HB9).trans (hb10.mono (unhide HB6).size))
      have HS10 : Hid (w6.heap.size ≤ w10.heap.size) := Nat.le_trans (unhide HS9) hb10.size
      have hat10 := (unhide HBAT).keep k10 (unhide HAPK)
      have d10 := (nineteen_cells hat10.blk).1.2.2.1
      have HLR10 := hide hl10
      clear hb10 hat10 hl10 k10 c10
      have c10 := d10
      clear d10
      go_wp2_with fail
      refine Calls.mono (unhide HFREE3 w10 (unhide HLR10)) ?_
      rintro e w11 ⟨rfl, k11⟩
      have hb11 : Below w6.heap.size w10 w11 := k11.below (unhide HS10) (unhide HG9)
      have hD11 := (unhide HD10).stays hb11.size (fun k hk => hb11.block k (unhide HDL k hk))
      have HX11 := hide ((hb11.block w1.heap.size (unhide HX6l)).trans (unhide HX10))
      have HB11 := hide ((unhide HB10).trans (hb11.mono (unhide HB6).size))
      have HC11 := hide (unhide HCR w11 hD11)
      clear hb11 hD11 k11 c10
      go_wp2_with fail
      refine Calls.mono (unhide HC11) ?_
      rintro e w12 ⟨rfl, F12, hD12, hM12⟩
      have hX12 := (hM12.keep.block w1.heap.size (Array.getElem?_eq_some_iff.1 (unhide HX11)).1 (fun h => Nat.lt_irrefl _ (unhide HFL1 _ h))).trans (unhide HX11)
      have HB12 := hide ((unhide HB11).trans (hM12.keep.below (unhide HB11).size (unhide HF)))
      have HO12 := hide (unhide HOD F12 w12 hD12)
      obtain ⟨c0, c1, c2, c3, c4, c5, c6, c7, c8⟩ := nine_cells hX12
      clear hX12 hD12 hM12 HC11
      go_wp2_with fail
      refine Calls.mono (unhide HO12) ?_
      rintro e w13 ⟨hO, b13⟩
      unfold OpenR at hO
      rw [if_pos (show ((DK.new 256).crash []).fell = true from rfl)] at hO
      subst hO
      have HB13 := hide ((unhide HB12).trans (b13.mono (unhide HB12).size))
      clear b13 HO12 c0 c1 c2 c3 c4 c5 c6 c7 c8
      go_wp2_with fail
      refine Calls.mono (unhide Hn1 _) ?_
      rintro e w14 ⟨rfl, b14⟩
      have HB14 := hide ((unhide HB13).trans (b14.mono (unhide HB13).size))
      clear b14
      go_wp2_with fail
      refine Calls.mono (unhide Hn2 _) ?_
      rintro e w15 ⟨rfl, b15⟩
      have HB15 := hide ((unhide HB14).trans (b15.mono (unhide HB14).size))
      clear b15
      go_wp2_with fail
      refine Calls.mono (unhide Hn3 _ _) ?_
      rintro e w16 ⟨rfl, b16⟩
      have HB16 := hide ((unhide HB15).trans (b16.mono (unhide HB15).size))
      clear b16
      go_wp2_with fail
      refine Calls.mono (unhide Hn4 _) ?_
      rintro e w17 ⟨rfl, b17⟩
      have HB17 := hide ((unhide HB16).trans (b17.mono (unhide HB16).size))
      clear b17
      go_wp2_with fail
      refine Calls.mono (unhide Hn5 _) ?_
      rintro e w18 ⟨rfl, b18⟩
      have HB18 := hide ((unhide HB17).trans (b18.mono (unhide HB17).size))
      clear b18
      go_wp2_with fail
      refine Calls.mono (unhide Hn6 _) ?_
      rintro e w19 ⟨rfl, b19⟩
      have HB19 := hide ((unhide HB18).trans (b19.mono (unhide HB18).size))
      clear b19
      go_wp2_with fail
      refine Calls.mono (unhide Hn7 _) ?_
      rintro e w20 ⟨rfl, b20⟩
      have HB20 := hide ((unhide HB19).trans (b20.mono (unhide HB19).size))
      clear b20
      go_wp2_with fail
      go_ret
      exact ⟨rfl, unhide HB20⟩
  · have hb : (other == 30) = false := by rw [beq_eq_false_iff_ne]; exact hot
    rw [hb] at hlne
    have HO := hide (unhide HOO hot)
    clear HOO
    go_wp2_with fail
    refine Calls.mono (unhide HO) ?_
    rintro e w6 ⟨rfl, b6⟩
    have HD6 := hide ((unhide HD5).stays b6.size (fun k hk => b6.block k ((unhide HD5).lt k hk)))
    have HB6 := hide ((unhide HB5).trans (b6.mono (unhide HB5).size))
    have HX6 := hide ((b6.block w1.heap.size (Array.getElem?_eq_some_iff.1 (unhide HX5)).1).trans (unhide HX5))
    clear b6 HO HD5 HB5 HX5 c0 c1 c2 c3 c4 c5 c6 c7 c8 y0 y1 y2 y3 y4 y5 y6 y7 y8
    go_wp2_with fail
    refine Calls.mono (unhide HBG _) ?_
    rintro e w7 ⟨g, rfl, lp, dp, F2, G2, K2, hBk, hnew, b7⟩
    have HD7 := hide ((unhide HD6).stays b7.size (fun k hk => b7.block k ((unhide HD6).lt k hk)))
    have HB7 := hide ((unhide HB6).trans (b7.mono (unhide HB6).size))
    have HX7 := hide ((b7.block w1.heap.size (Array.getElem?_eq_some_iff.1 (unhide HX6)).1).trans (unhide HX6))
    obtain ⟨i0, hi, hz0, hz1, hz2⟩ := info_parts Try.info5
    obtain ⟨w8, hrun, r1, r2⟩ := run_make_full (P := Try.prog) w7 w7.heap.size 27 5 i0 (.int .u8 0) 1 Try.underlying27 hi hz0 hz1 .i64 .i64 900 (by rw [hz2]; omega) (by unfold maxLen; omega) (Nat.le_refl _)
    have hrun' : (Instr.makeSlice 27 (.int .i64 900) (.int .i64 900)).run Try.prog w7 = .ok (.slice (some ⟨w7.heap.size, 0, none⟩) 900 900) w8 := hrun
    have b8 : Below w7.heap.size w7 w8 := (Below.refl _ _).grown r2 (Nat.le_refl _) (fun k hk => by cases hk)
    have hblk8 := made_block (m := 900) r1
    have hrow8 : Row w8 (.slice (some ⟨w7.heap.size, 0, none⟩) 900 900) (List.replicate 900 (0 : UInt8)) := by
      have h := row_of_block hblk8 0 900 900 (by rw [List.length_replicate]; omega) (Nat.le_refl _) (by unfold maxLen; omega)
      rw [List.drop_zero, List.take_of_length_le (by rw [List.length_replicate]; omega)] at h
      exact h
    generalize hZR : List.replicate 900 (0 : UInt8) = ZR at *
    have hZL : ZR.length = 900 := by rw [← hZR, List.length_replicate]
    have hBk8 : Book F2 G2 K2 w8 g lp dp (DK.new 256) (lg0 0 1) bk0 (.slice none 0 0) (.slice none 0 0) (.slice none 0 0) := ⟨hBk.both.below b8, hBk.at_.below b8, hBk.apF, hBk.apG, hBk.first, hBk.next, hBk.age, hBk.starts, hBk.tl, hBk.al⟩
    have hlt7 : ∀ k, all3 F2 G2 K2 k → k < w7.heap.size := fun k hk => by
      rcases hk with h | h | h
      · exact hBk.both.dev.lt k h
      · exact hBk.both.log.lt k h
      · exact hBk.at_.lt k h
    have HAP := hide (bappend_calm F2 G2 K2 g lp dp (DK.new 256) (lg0 0 1) bk0 _ _ _ _ ZR w8 hBk8 calm_new rfl hrow8 (by omega) (fun k off n c e hne => by
      simp only [Value.slice.injEq, Option.some.injEq, Addr.mk.injEq, and_true] at e
      obtain ⟨⟨rfl, _⟩, _⟩ := e
      exact ⟨fun h => Nat.lt_irrefl _ (hlt7 _ (Or.inl h)), fun h => Nat.lt_irrefl _ (hlt7 _ (Or.inr (Or.inl h))), fun h => Nat.lt_irrefl _ (hlt7 _ (Or.inr (Or.inr h)))⟩) (by show 0 + 64 ≤ _; omega) (by show 0 + 64 ≤ _; omega) (by show 0 + 64 < _; omega) (by show 0 ≤ _; omega))
    obtain ⟨ea, la⟩ := app900 ZR hZL
    rw [ea, la] at HAP
    have HB8 := hide ((unhide HB7).trans (b8.mono (unhide HB7).size))
    have HNEW : Hid (∀ k, all3 F2 G2 K2 k → w6.heap.size ≤ k) := hnew
    have HS68 : Hid (w6.heap.size ≤ w8.heap.size) := Nat.le_trans b7.size b8.size
    have HD8 := hide ((unhide HD7).stays b8.size (fun k hk => b8.block k ((unhide HD7).lt k hk)))
    have HX8 := hide ((b8.block w1.heap.size (Array.getElem?_eq_some_iff.1 (unhide HX7)).1).trans (unhide HX7))
    have HD6l : Hid (∀ k, F k → k < w6.heap.size) := (unhide HD6).lt
    have HX6l : Hid (w1.heap.size < w6.heap.size) := (Array.getElem?_eq_some_iff.1 (unhide HX6)).1
    clear hBk hnew b7 hrun r1 r2 b8 hblk8 hrow8 hBk8 hlt7 ea la hi hz0 hz1 hz2 hZR hZL HD7 HX7
    go_wp2_with fail
    refine Calls.mono (unhide HAP) ?_
    rintro e w9 ⟨rfl, F9, G9, K9, rv, tv, av, hB9, hM9⟩
    have b9 : Below w6.heap.size w8 w9 := hM9.keep.below (unhide HS68) (unhide HNEW)
    have HB9 := hide ((unhide HB8).trans (b9.mono (unhide HB6).size))
    have HD9 := hide ((unhide HD8).stays b9.size (fun k hk => b9.block k (unhide HD6l k hk)))
    have HX9 := hide ((b9.block w1.heap.size (unhide HX6l)).trans (unhide HX8))
    have hG9 : ∀ k, G9 k → w6.heap.size ≤ k := fun k hk => by
      rcases hM9.sub k (Or.inr (Or.inl hk)) with h | h
      · exact unhide HNEW k h
      · exact Nat.le_trans (unhide HS68) h
    have HG9 := hide hG9
    have c10 := (nineteen_cells hB9.at_.blk).1.2.2.1
    obtain ⟨lg, hlg⟩ : ∃ lg, lp = .pointer (some lg) := by obtain ⟨g, sv, e, _⟩ := hB9.both.log; exact ⟨_, e⟩
    subst hlg
    have HB9k := hide hB9
    have HFR := hide (fun (to : Nat) w' L' (h : LRep G9 w' (.pointer (some lg)) dp 256 L') => wfree_any G9 _ dp 256 L' to w' h)
    have HS9 : Hid (w6.heap.size ≤ w9.heap.size) := Nat.le_trans (unhide HS68) b9.size
    clear hM9 hB9 b9 hG9 HAP HD8 HX8 hrun'
    obtain ⟨L9, hL9⟩ : ∃ L9, L9 = (lg0 0 1).add 1 3 := ⟨_, rfl⟩
    have HBG3 : Hid (L9.begins 3) := by unfold Hid; rw [hL9]; exact Or.inr rfl
    have HBGN : Hid (n ≠ 0 → n ≠ 3 → ¬ L9.begins n) := by
      unfold Hid
      rw [hL9]
      rintro h0 h3 (⟨p, hp, e⟩ | e)
      · simp [LG.add, lg0] at hp
        rw [hp] at e
        exact h0 e.symm
      · exact h3 e
    have HLR9 : Hid (LRep G9 w9 (.pointer (some lg)) dp 256 L9) := by unfold Hid; rw [hL9]; exact (unhide HB9k).both.log
    have HBAT := hide (unhide HB9k).at_
    have HAPK := hide (unhide HB9k).apG
    clear hL9 HB9k
    -- what comes behind the second Free
    have HCR := hide (fun w' (h : DRep F w' (.pointer (some dg)) (DK.new 256)) => ocrash_any F _ (DK.new 256) (.slice none 0 0) [] w' h ⟨none, 0, rfl, by simp, by unfold maxLen; omega, fun _ => rfl, Or.inl rfl⟩ (fun b off n c e => by cases e) (by show 0 ≤ _; omega))
    have HOD := hide (fun F' w' (h : DRep F' w' (.pointer (some dg)) ((DK.new 256).crash [])) => wopen_any F' _ ((DK.new 256).crash []) 256 0 0 1 w' h rfl fits256 (by omega) (by omega) (by omega) (by omega))
    rw [lay256] at HOD
    have Hn1 := hide (fun w' => wappend_nil xp xl xc w')
    have Hn2 := hide (fun w' => wsync_nil w')
    have Hn3 := hide (fun (t : Int) w' => wfree_nil t w')
    have Hn4 := hide (fun w' => wfirst_nil w')
    have Hn5 := hide (fun w' => wnext_nil w')
    have Hn6 := hide (fun w' => wleast_nil w')
    have Hn7 := hide (fun w' => wleft_nil w')
    have HDL : Hid (∀ k, F k → k < w6.heap.size) := unhide HD6l
    have hcase : n = 0 ∨ n = 3 ∨ (¬ n = 0 ∧ ¬ (n : Int) = 3 ∧ Hid (¬ L9.begins n)) := by
      by_cases h0 : n = 0
      · exact Or.inl h0
      · by_cases h3 : n = 3
        · exact Or.inr (Or.inl h3)
        · exact Or.inr (Or.inr ⟨h0, by omega, unhide HBGN h0 h3⟩)
    clear HBGN
    -- the end, from the world behind the second Free on
    have HFREE3 : Hid (∀ w', LRep G9 w' (.pointer (some lg)) dp 256 L9 → Calls Try.prog 19 #[.pointer (some lg), .int .u64 3] w' fun e w'' => e = .returned (.int .i64 0) ∧ Keep G9 w' w'') := by
      intro w' h
      refine (unhide HFR 3 w' L9 h).mono ?_
      rintro e w'' ⟨rfl, _, hk⟩
      rw [if_pos (unhide HBG3)]
      exact ⟨rfl, hk⟩
    have HFREEN : Hid (∀ w', ¬ L9.begins n → LRep G9 w' (.pointer (some lg)) dp 256 L9 → Calls Try.prog 19 #[.pointer (some lg), .int .u64 (n : Int)] w' fun e w'' => e = .returned (.int .i64 1) ∧ LRep G9 w'' (.pointer (some lg)) dp 256 L9 ∧ Keep G9 w' w'') := by
      intro w' hb h
      refine (unhide HFR n w' L9 h).mono ?_
      rintro e w'' ⟨rfl, hl, hk⟩
      rw [if_neg hb] at hl ⊢
      exact ⟨rfl, hl, hk⟩
    clear HFR HBG3
    rcases hcase with hc | hc | ⟨hc1, hc2, hc3⟩
    · subst hc
      go_wp2_with fail
      refine Calls.mono (unhide HFREE3 w9 (unhide HLR9)) ?_
      rintro e w11 ⟨rfl, k11⟩
      have hb11 : Below w6.heap.size w9 w11 := k11.below (unhide HS9) (unhide HG9)
      have hD11 := (unhide HD9).stays hb11.size (fun k hk => hb11.block k (unhide HDL k hk))
      have HX11 := hide ((hb11.block w1.heap.size (unhide HX6l)).trans (unhide HX9))
      have HB11 := hide ((unhide HB9).trans (hb11.mono (unhide HB6).size))
      have HC11 := hide (unhide HCR w11 hD11)
      clear hb11 hD11 k11 c10
      go_wp2_with fail
      refine Calls.mono (unhide HC11) ?_
      rintro e w12 ⟨rfl, F12, hD12, hM12⟩
      have hX12 := (hM12.keep.block w1.heap.size (Array.getElem?_eq_some_iff.1 (unhide HX11)).1 (fun h => Nat.lt_irrefl _ (unhide HFL1 _ h))).trans (unhide HX11)
      have HB12 := hide ((unhide HB11).trans (hM12.keep.below (unhide HB11).size (unhide HF)))
      have HO12 := hide (unhide HOD F12 w12 hD12)
      obtain ⟨c0, c1, c2, c3, c4, c5, c6, c7, c8⟩ := nine_cells hX12
      clear hX12 hD12 hM12 HC11
      go_wp2_with fail
      refine Calls.mono (unhide HO12) ?_
      rintro e w13 ⟨hO, b13⟩
      unfold OpenR at hO
      rw [if_pos (show ((DK.new 256).crash []).fell = true from rfl)] at hO
      subst hO
      have HB13 := hide ((unhide HB12).trans (b13.mono (unhide HB12).size))
      clear b13 HO12 c0 c1 c2 c3 c4 c5 c6 c7 c8
      go_wp2_with fail
      refine Calls.mono (unhide Hn1 _) ?_
      rintro e w14 ⟨rfl, b14⟩
      have HB14 := hide ((unhide HB13).trans (b14.mono (unhide HB13).size))
      clear b14
      go_wp2_with fail
      refine Calls.mono (unhide Hn2 _) ?_
      rintro e w15 ⟨rfl, b15⟩
      have HB15 := hide ((unhide HB14).trans (b15.mono (unhide HB14).size))
      clear b15
      go_wp2_with fail
      refine Calls.mono (unhide Hn3 _ _) ?_
      rintro e w16 ⟨rfl, b16⟩
      have HB16 := hide ((unhide HB15).trans (b16.mono (unhide HB15).size))
      clear b16
      go_wp2_with fail
      refine Calls.mono (unhide Hn4 _) ?_
      rintro e w17 ⟨rfl, b17⟩
      have HB17 := hide ((unhide HB16).trans (b17.mono (unhide HB16).size))
      clear b17
      go_wp2_with fail
      refine Calls.mono (unhide Hn5 _) ?_
      rintro e w18 ⟨rfl, b18⟩
      have HB18 := hide ((unhide HB17).trans (b18.mono (unhide HB17).size))
      clear b18
      go_wp2_with fail
      refine Calls.mono (unhide Hn6 _) ?_
      rintro e w19 ⟨rfl, b19⟩
      have HB19 := hide ((unhide HB18).trans (b19.mono (unhide HB18).size))
      clear b19
      go_wp2_with fail
      refine Calls.mono (unhide Hn7 _) ?_
      rintro e w20 ⟨rfl, b20⟩
      have HB20 := hide ((unhide HB19).trans (b20.mono (unhide HB19).size))
      clear b20
      go_wp2_with fail
      go_ret
      exact ⟨rfl, unhide HB20⟩
    · subst hc
      go_wp2_with fail
      refine Calls.mono (unhide HFREE3 w9 (unhide HLR9)) ?_
      rintro e w11 ⟨rfl, k11⟩
      have hb11 : Below w6.heap.size w9 w11 := k11.below (unhide HS9) (unhide HG9)
      have hD11 := (unhide HD9).stays hb11.size (fun k hk => hb11.block k (unhide HDL k hk))
      have HX11 := hide ((hb11.block w1.heap.size (unhide HX6l)).trans (unhide HX9))
      have HB11 := hide ((unhide HB9).trans (hb11.mono (unhide HB6).size))
      have HC11 := hide (unhide HCR w11 hD11)
      clear hb11 hD11 k11 c10
      go_wp2_with fail
      refine Calls.mono (unhide HC11) ?_
      rintro e w12 ⟨rfl, F12, hD12, hM12⟩
      have hX12 := (hM12.keep.block w1.heap.size (Array.getElem?_eq_some_iff.1 (unhide HX11)).1 (fun h => Nat.lt_irrefl _ (unhide HFL1 _ h))).trans (unhide HX11)
      have HB12 := hide ((unhide HB11).trans (hM12.keep.below (unhide HB11).size (unhide HF)))
      have HO12 := hide (unhide HOD F12 w12 hD12)
      obtain ⟨c0, c1, c2, c3, c4, c5, c6, c7, c8⟩ := nine_cells hX12
      clear hX12 hD12 hM12 HC11
      go_wp2_with fail
      refine Calls.mono (unhide HO12) ?_
      rintro e w13 ⟨hO, b13⟩
      unfold OpenR at hO
      rw [if_pos (show ((DK.new 256).crash []).fell = true from rfl)] at hO
      subst hO
      have HB13 := hide ((unhide HB12).trans (b13.mono (unhide HB12).size))
      clear b13 HO12 c0 c1 c2 c3 c4 c5 c6 c7 c8
      go_wp2_with fail
      refine Calls.mono (unhide Hn1 _) ?_
      rintro e w14 ⟨rfl, b14⟩
      have HB14 := hide ((unhide HB13).trans (b14.mono (unhide HB13).size))
      clear b14
      go_wp2_with fail
      refine Calls.mono (unhide Hn2 _) ?_
      rintro e w15 ⟨rfl, b15⟩
      have HB15 := hide ((unhide HB14).trans (b15.mono (unhide HB14).size))
      clear b15
      go_wp2_with fail
      refine Calls.mono (unhide Hn3 _ _) ?_
      rintro e w16 ⟨rfl, b16⟩
      have HB16 := hide ((unhide HB15).trans (b16.mono (unhide HB15).size))
      clear b16
      go_wp2_with fail
      refine Calls.mono (unhide Hn4 _) ?_
      rintro e w17 ⟨rfl, b17⟩
      have HB17 := hide ((unhide HB16).trans (b17.mono (unhide HB16).size))
      clear b17
      go_wp2_with fail
      refine Calls.mono (unhide Hn5 _) ?_
      rintro e w18 ⟨rfl, b18⟩
      have HB18 := hide ((unhide HB17).trans (b18.mono (unhide HB17).size))
      clear b18
      go_wp2_with fail
      refine Calls.mono (unhide Hn6 _) ?_
      rintro e w19 ⟨rfl, b19⟩
      have HB19 := hide ((unhide HB18).trans (b19.mono (unhide HB18).size))
      clear b19
      go_wp2_with fail
      refine Calls.mono (unhide Hn7 _) ?_
      rintro e w20 ⟨rfl, b20⟩
      have HB20 := hide ((unhide HB19).trans (b20.mono (unhide HB19).size))
      clear b20
      go_wp2_with fail
      go_ret
      exact ⟨rfl, unhide HB20⟩
    · go_wp2_with fail
      refine Calls.mono (unhide HFREEN w9 (unhide hc3) (unhide HLR9)) ?_
      rintro e w10 ⟨rfl, hl10, k10⟩
      have hb10 : Below w6.heap.size w9 w10 := k10.below (unhide HS9) (unhide HG9)
      have HD10 := hide ((unhide HD9).stays hb10.size (fun k hk => hb10.block k (unhide HDL k hk)))
      have HX10 := hide ((hb10.block w1.heap.size (unhide HX6l)).trans (unhide HX9))
      have HB10 := hide ((unhide HB9).trans (hb10.mono (unhide HB6).size))
      have HS10 : Hid (w6.heap.size ≤ w10.heap.size) := Nat.le_trans (unhide HS9) hb10.size
      have hat10 := (unhide HBAT).keep k10 (unhide HAPK)
      have d10 := (nineteen_cells hat10.blk).1.2.2.1
      have HLR10 := hide hl10
      clear hb10 hat10 hl10 k10 c10
      have c10 := d10
      clear d10
      go_wp2_with fail
      refine Calls.mono (unhide HFREE3 w10 (unhide HLR10)) ?_
      rintro e w11 ⟨rfl, k11⟩
      have hb11 : Below w6.heap.size w10 w11 := k11.below (unhide HS10) (unhide HG9)
      have hD11 := (unhide HD10).stays hb11.size (fun k hk => hb11.block k (unhide HDL k hk))
      have HX11 := hide ((hb11.block w1.heap.size (unhide HX6l)).trans (unhide HX10))
      have HB11 := hide ((unhide HB10).trans (hb11.mono (unhide HB6).size))
      have HC11 := hide (unhide HCR w11 hD11)
      clear hb11 hD11 k11 c10
      go_wp2_with fail
      refine Calls.mono (unhide HC11) ?_
      rintro e w12 ⟨rfl, F12, hD12, hM12⟩
      have hX12 := (hM12.keep.block w1.heap.size (Array.getElem?_eq_some_iff.1 (unhide HX11)).1 (fun h => Nat.lt_irrefl _ (unhide HFL1 _ h))).trans (unhide HX11)
      have HB12 := hide ((unhide HB11).trans (hM12.keep.below (unhide HB11).size (unhide HF)))
      have HO12 := hide (unhide HOD F12 w12 hD12)
      obtain ⟨c0, c1, c2, c3, c4, c5, c6, c7, c8⟩ := nine_cells hX12
      clear hX12 hD12 hM12 HC11
      go_wp2_with fail
      refine Calls.mono (unhide HO12) ?_
      rintro e w13 ⟨hO, b13⟩
      unfold OpenR at hO
      rw [if_pos (show ((DK.new 256).crash []).fell = true from rfl)] at hO
      subst hO
      have HB13 := hide ((unhide HB12).trans (b13.mono (unhide HB12).size))
      clear b13 HO12 c0 c1 c2 c3 c4 c5 c6 c7 c8
      go_wp2_with fail
      refine Calls.mono (unhide Hn1 _) ?_
      rintro e w14 ⟨rfl, b14⟩
      have HB14 := hide ((unhide HB13).trans (b14.mono (unhide HB13).size))
      clear b14
      go_wp2_with fail
      refine Calls.mono (unhide Hn2 _) ?_
      rintro e w15 ⟨rfl, b15⟩
      have HB15 := hide ((unhide HB14).trans (b15.mono (unhide HB14).size))
      clear b15
      go_wp2_with fail
      refine Calls.mono (unhide Hn3 _ _) ?_
      rintro e w16 ⟨rfl, b16⟩
      have HB16 := hide ((unhide HB15).trans (b16.mono (unhide HB15).size))
      clear b16
      go_wp2_with fail
      refine Calls.mono (unhide Hn4 _) ?_
      rintro e w17 ⟨rfl, b17⟩
      have HB17 := hide ((unhide HB16).trans (b17.mono (unhide HB16).size))
      clear b17
      go_wp2_with fail
      refine Calls.mono (unhide Hn5 _) ?_
      rintro e w18 ⟨rfl, b18⟩
      have HB18 := hide ((unhide HB17).trans (b18.mono (unhide HB17).size))
      clear b18
      go_wp2_with fail
      refine Calls.mono (unhide Hn6 _) ?_
      rintro e w19 ⟨rfl, b19⟩
      have HB19 := hide ((unhide HB18).trans (b19.mono (unhide HB18).size))
      clear b19
      go_wp2_with fail
      refine Calls.mono (unhide Hn7 _) ?_
      rintro e w20 ⟨rfl, b20⟩
      have HB20 := hide ((unhide HB19).trans (b20.mono (unhide HB19).size))
      clear b20
      go_wp2_with fail
      go_ret
      exact ⟨rfl, unhide HB20⟩

theorem walk_WalNil (s0 : Value) (b0 : List UInt8) (a1 : Int) (w1 : (Lit.int .u64 a1).wf = true) (a2 : Int) (w2 : (Lit.int .i64 a2).wf = true) (w : World) (h0 : Row w s0 b0) (_ : b0.length ≤ 140737488351232) :
    Calls Try.prog 5 #[s0, .int .u64 a1, .int .i64 a2] w fun e w' => e = .returned (.bool true) ∧ Below w.heap.size w w' := by
  have hb1 := bounds_u64 w1
  have hb2 := bounds_i64 w2
  obtain ⟨n, rfl⟩ := Int.eq_ofNat_of_zero_le hb1.1
  exact wnil_any s0 b0 n a2 w h0 (by omega) hb2
end Go.Proofs.Ytdpoiieblbmofaa
