/- The walk of ArenaPacks. -/
import Derived.Test.YtlbhhdldeaehkaaG24
import Derived.Test.YtlbhhdldeaehkaaG34
namespace Go.Proofs.Ytlbhhdldeaehkaa
open Go.RowKit

theorem u32_zeros (k : Nat) : U32 (List.replicate k 0) := fun z hz => by have := (List.mem_replicate.1 hz).2; omega
theorem make_zeros {n D : Nat} {W : List Int} (hD : 0 < D) (hW : W.length + D = n) (hp : 1 ≤ W.length) (hn : n ≤ 1048576) : makeP n W (0, [], List.replicate (D - 1) 0) = (((W.length : Int), 0), addW W (0, [], List.replicate (D - 1) 0)) ∧ (addW W (0, [], List.replicate (D - 1) 0)).length = n ∧
    makeP n (addW W (0, [], List.replicate (D - 1) 0)) (0, [], []) = ((0, 3), addW W (0, [], List.replicate (D - 1) 0)) := by
  have hg : goodO (0, [], List.replicate (D - 1) 0) := ⟨by simp, by simp, by simp, by simp; omega⟩
  have hl := addW_len (ws := W) hg
  have hl2 : (addW W (0, [], List.replicate (D - 1) 0)).length = n := by rw [hl]; simp; omega
  refine ⟨?_, hl2, ?_⟩
  · unfold makeP
    rw [if_pos ⟨hg, rfl⟩, if_pos (by simp; omega)]
  · unfold makeP
    rw [if_pos ⟨⟨by decide, by decide, by decide, by decide⟩, rfl⟩, if_neg (by rw [hl2]; simp)]
theorem vrow_zeros (w : World) (k : Nat) (hk : k ≤ 2097152) : VRow (w.alloc (.cells (Array.replicate k (.int .u32 0)) 44)) (.slice (some ⟨w.heap.size, 0, none⟩) k k) (Uw (List.replicate k 0)) := by
  refine ownsV_row (base := 0) (e := 44) ⟨by simp, Or.inr ⟨w.heap.size, k, _, rfl, Nat.zero_le _, World.alloc_heap_new w _, Nat.le_refl _, by unfold maxLen; omega, by simp, ?_⟩⟩ (by simp)
  simp

set_option maxRecDepth 20000 in
set_option maxHeartbeats 2000000 in
theorem walk_ArenaPacks (a0 : Int) (_ : (Lit.int .i64 a0).wf = true) (s1 : Value) (d1 : Dt) (w : World) (h1 : Reads limSaid w (.row 96 (.struct (.cons (.int .i64) (.cons (.int .i64) (.cons (.int .i64) (.cons (.int .i64) (.cons (.int .i64) (.cons (.int .u32) (.cons (.row 8 (.int .i64)) (.cons (.row 4 (.int .u32)) (.nil))))))))))) [s1] d1) :
    Calls Try.prog 3 #[.int .i64 a0, s1] w fun e w' => e = .returned (.bool true) ∧ Below w.heap.size w w' := by
  obtain ⟨L, hs, hL, hok⟩ := ops_of_reads h1
  have HRAN := hide (ran_any a0 s1 L w hs hL hok)
  have HAW := hide (fun W => aawake16_any W)
  obtain ⟨pa, cap, rfl, _⟩ := hs
  clear h1 hL hok
  go_enter Try.func3, Try.ntmps3
  go_wp2_with fail
  refine Calls.mono (unhide HRAN) ?_
  rintro e w1 ⟨g, F, n, ws, rs, rfl, hA, hn, hR, hF, b1⟩
  have H1 := hide (And.intro hA (And.intro hF b1))
  have HOK := hide hA.ok
  clear hR hA hF b1 hn
  go_wp2_with fail
  refine Calls.mono (unhide HAW _) ?_
  rintro e w2 ⟨rfl, b2⟩
  obtain ⟨hA, hF, b1⟩ := unhide H1
  have hA2 := hA.below b2
  have hB2 := b1.trans (b2.mono b1.size)
  have HLV := hide (alive_ar hA2)
  have H2 := hide (And.intro hA2 (And.intro hF hB2))
  clear hA hF b1 b2 hA2 hB2
  go_wp2_with fail
  refine Calls.mono (unhide HLV) ?_
  rintro e w3 ⟨l, rfl, hl, b3⟩
  obtain ⟨hA2, hF, hB2⟩ := unhide H2
  have hA3 := hA2.below b3
  have HUS := hide (aused_ar hA3)
  have hpk := apack_at hA3 hl
  have hp := (unhide HOK).pack hl
  have hag := fun l2 (h2 : LiveIs (cW ws l) (cR ws l rs) l2) => pack_again (unhide HOK) hl h2
  have hlo := (unhide HOK).lo
  have hhi := (unhide HOK).hi
  have hfit := (unhide HOK).fit
  generalize hW : cW ws l = W at *
  generalize hR : cR ws l rs = R at *
  obtain ⟨hp1, hp2, hp3⟩ := hp
  obtain ⟨S, hS⟩ : ∃ S, S = sums ws l := ⟨_, rfl⟩
  obtain ⟨U, hU⟩ : ∃ U, U = ws.length := ⟨_, rfl⟩
  rw [← hS] at hp2 hp3 hag ⊢
  rw [← hU] at hp3 hfit hpk HUS
  rw [hp2] at hpk
  have e1 : wrap64 (wrap64 ((U : Int) - (S : Int)) - 1) = (U : Int) - ((1 + S : Nat) : Int) := by unfold wrap64; omega
  have HPK := hide hpk
  have H3 := hide (And.intro hF (And.intro (hB2.trans (b3.mono hB2.size)) (And.intro hp1 (And.intro hp2 (And.intro hp3 hag)))))
  have HSU := hide (And.intro hlo (And.intro hhi hfit))
  clear hA2 hF hB2 hA3 b3 hl hp1 hp2 hp3 hfit hlo hhi hag hpk hS hU hW hR HOK H1 H2
  go_wp2_with fail
  refine Calls.mono (unhide HUS) ?_
  rintro e w4 ⟨rfl, rfl⟩
  go_wp2_with fail
  refine Calls.mono (unhide HPK) ?_
  rintro e w5 ⟨rfl, F5, hA5, hm5⟩
  have HUS5 := hide (aused_ar hA5)
  have HLV5 := hide (alive_ar hA5)
  obtain ⟨hF, hB3, hp1, hp2, hp3, hag⟩ := unhide H3
  rw [hp2] at HUS5
  have H5 := hide (And.intro hA5 (And.intro (fun k hk => show w.heap.size ≤ k from by
    rcases hm5.sub k hk with h | h
    · exact hF k h
    · exact Nat.le_trans hB3.size h) (hB3.trans (hm5.keep.below hB3.size hF))))
  have e2 : wrap64 ((S : Int) + 1) = 1 + (S : Int) := by have := unhide HSU; unfold wrap64; omega
  clear hA5 hm5 hF hB3 hp1 hp2 hp3 hag
  go_wp2_with fail
  refine Calls.mono (unhide HUS5) ?_
  rintro e w6 ⟨rfl, rfl⟩
  go_wp2_with fail
  refine Calls.mono (unhide HLV5) ?_
  rintro e w7 ⟨l2, rfl, hl2, b7⟩
  obtain ⟨hF, hB3, hp1, hp2, hp3, hag⟩ := unhide H3
  obtain ⟨hA5, hF5, hB5⟩ := unhide H5
  obtain ⟨g1, g2⟩ := hag l2 hl2
  rw [g1]
  have hpk := apack_at (hA5.below b7) hl2
  have hok2 := (hp1.pack hl2).1
  rw [g2, hp2] at hpk
  generalize hW2 : cW W l2 = W2 at *
  generalize hR2 : cR W l2 R = R2 at *
  have HPK2 := hide hpk
  have HW2 := hide (show W2.length = 1 + S from g2.trans hp2)
  have HOK2 := hide hok2
  have H7 := hide (And.intro hF5 (hB5.trans (b7.mono hB5.size)))
  clear hl2 b7 hF hB3 hp1 hp2 hp3 hag hA5 hF5 hB5 g1 g2 hpk hok2 hW2 hR2 H3 H5
  go_wp2_with fail
  refine Calls.mono (unhide HPK2) ?_
  rintro e w8 ⟨rfl, F8, hA8, hm8⟩
  have H8 := hide (And.intro hA8 (And.intro (fun k hk => show w.heap.size ≤ k from by
    rcases hm8.sub k hk with h | h
    · exact (unhide H7).1 k h
    · exact Nat.le_trans (unhide H7).2.size h) ((unhide H7).2.trans (hm8.keep.below (unhide H7).2.size (unhide H7).1))))
  have HWD := hide (awords_ar hA8)
  have HUS8 := hide (aused_ar hA8)
  rw [unhide HW2] at HUS8
  have e3 : ((1 : Int) + (S : Int)) - (1 + (S : Int)) = 0 := by omega
  have hSn := unhide HW2
  have hfit := (unhide HOK2).fit
  have hSn2 : 1 + S ≤ n := by omega
  have e4 : wrap64 ((n : Int) - (1 + (S : Int))) = ((n - (1 + S) : Nat) : Int) := by have := unhide HSU; unfold wrap64; omega
  clear hA8 hm8 hSn hfit
  go_wp2_with fail
  refine Calls.mono (unhide HWD) ?_
  rintro e w9 ⟨rfl, rfl⟩
  go_wp2_with fail
  refine Calls.mono (unhide HUS8) ?_
  rintro e wx ⟨rfl, rfl⟩
  obtain ⟨D, hD⟩ : ∃ D, D = n - (1 + S) := ⟨_, rfl⟩
  rw [← hD] at e4
  by_cases h0 : D = 0
  · subst h0
    clear hD
    go_wp2_with fail
    go_ret
    exact ⟨rfl, (unhide H8).2.2⟩
  · have h1 : (1 : Int) ≤ (D : Int) := by omega
    have hDn := (unhide HSU).2.1
    obtain ⟨m1, m2, m3⟩ := make_zeros (n := n) (D := D) (W := W2) (by omega) (by have := unhide HW2; omega) (by have := unhide HW2; omega) hDn
    have e5 : wrap64 ((D : Int) - 1) = ((D - 1 : Nat) : Int) := by unfold wrap64; omega
    have hmk := run_make_narU (D - 1) (by omega)
    have hb9 : Below wx.heap.size wx (wx.alloc (.cells (Array.replicate (D - 1) (.int .u32 0)) 44)) := (Below.refl _ _).alloc (Nat.le_refl _) _
    obtain ⟨hA8, hF8, hB8⟩ := unhide H8
    have hc := amake_any F8 _ g n W2 R2 [] (List.replicate (D - 1) 0) 0 (.slice none 0 0) _ (hA8.below hb9) (VRow.nil _) (vrow_zeros wx (D - 1) (by omega)) (u32_zeros _) (fun _ k hk e => by cases e) (fun _ k hk e => by simp only [Value.ownBlock, Option.some.injEq] at e; have := hA8.lt hk; omega) (by decide) (by simp; omega)
    rw [m1] at hc
    have HC := hide hc
    have H9 := hide (And.intro hF8 (hB8.trans (hb9.mono hB8.size)))
    have HM := hide (And.intro m2 m3)
    clear hD hDn m1 m2 m3 hA8 hF8 hB8 hb9 hc
    generalize addW W2 (0, [], List.replicate (D - 1) 0) = W3 at *
    generalize hDm : D - 1 = D1 at *
    clear hDm
    go_wp2_with fail
    refine Calls.mono (unhide HC) ?_
    rintro e wa ⟨rfl, Fa, hAa, hma⟩
    have hFa := fun k hk => show w.heap.size ≤ k from by
      rcases hma.sub k hk with h | h
      · exact (unhide H9).1 k h
      · exact Nat.le_trans (unhide H9).2.size h
    have HBa := hide (And.intro hFa ((unhide H9).2.trans (hma.keep.below (unhide H9).2.size (unhide H9).1)))
    have hc2 := amake_any Fa wa g n W3 R2 [] [] 0 (.slice none 0 0) (.slice none 0 0) hAa (VRow.nil _) (VRow.nil _) (fun z hz => by cases hz) (fun _ k hk e => by cases e) (fun _ k hk e => by cases e) (by decide) (by decide)
    rw [(unhide HM).2] at hc2
    have HC2 := hide hc2
    clear hAa hma hFa hc2
    go_wp2_with fail
    refine Calls.mono (unhide HC2) ?_
    rintro e wb ⟨rfl, Fb, hAb, hmb⟩
    have HUSb := hide (aused_ar hAb)
    have HWDb := hide (awords_ar hAb)
    rw [(unhide HM).1] at HUSb
    have HBb := hide ((unhide HBa).2.trans (hmb.keep.below (unhide HBa).2.size (unhide HBa).1))
    clear hAb hmb
    go_wp2_with fail
    refine Calls.mono (unhide HUSb) ?_
    rintro e wc ⟨rfl, rfl⟩
    go_wp2_with fail
    refine Calls.mono (unhide HWDb) ?_
    rintro e wd ⟨rfl, rfl⟩
    have htt : ((n : Int) == (n : Int)) = true := by simp
    go_wp2_with fail
    go_ret
    exact ⟨rfl, unhide HBb⟩
end Go.Proofs.Ytlbhhdldeaehkaa
