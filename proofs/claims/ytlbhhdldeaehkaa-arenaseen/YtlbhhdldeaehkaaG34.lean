/- Texts of ours, one behind the other: ArRanP, ArRan, ArAR. -/
import Derived.Test.YtlbhhdldeaehkaaG20
import Derived.Test.YtlbhhdldeaehkaaG24
import Derived.Test.YtlbhhdldeaehkaaG26
import Derived.Test.YtlbhhdldeaehkaaG28
/- What a script makes of an arena, as plain data. -/
namespace Go.Proofs.Ytlbhhdldeaehkaa
open Go.RowKit

/-- One call. -/
def StepTo (n : Nat) (x : OpA) (a b : List Int × List Int) : Prop :=
  if x.kind = 1 ∨ x.kind = 5 then b = a
  else if x.kind = 2 then b = ((setP a.1 x.at' x.i x.v).2, a.2)
  else if x.kind = 3 then b = (a.1, (setRP a.1 a.2 x.slot x.at').2)
  else if x.kind = 4 then ∃ l, LiveIs a.1 a.2 l ∧ b = (cW a.1 l, cR a.1 l a.2)
  else b = ((makeP n a.1 (x.k2, x.ps, x.ds)).2, a.2)
theorem StepTo.unique {n : Nat} {x : OpA} {a b c : List Int × List Int} (h : StepTo n x a b) (h2 : StepTo n x a c) : b = c := by
  unfold StepTo at h h2
  split at h
  · rename_i h1; rw [if_pos h1] at h2; rw [h, h2]
  · rename_i h1
    rw [if_neg h1] at h2
    split at h
    · rename_i h3; rw [if_pos h3] at h2; rw [h, h2]
    · rename_i h3
      rw [if_neg h3] at h2
      split at h
      · rename_i h4; rw [if_pos h4] at h2; rw [h, h2]
      · rename_i h4
        rw [if_neg h4] at h2
        split at h
        · rename_i h5
          rw [if_pos h5] at h2
          obtain ⟨l, hl, rfl⟩ := h
          obtain ⟨m, hm, rfl⟩ := h2
          rw [hl.unique hm]
        · rename_i h5; rw [if_neg h5] at h2; rw [h, h2]
def RanTo (n : Nat) : List OpA → List Int × List Int → List Int × List Int → Prop
  | [], a, b => b = a
  | x :: L, a, b => ∃ c, StepTo n x a c ∧ RanTo n L c b
theorem RanTo.unique {n : Nat} : ∀ {L : List OpA} {a b c : List Int × List Int}, RanTo n L a b → RanTo n L a c → b = c
  | [], _, _, _, h, h2 => by have e1 : _ = _ := h; have e2 : _ = _ := h2; rw [e1, e2]
  | x :: L, _, _, _, ⟨c, h1, h2⟩, ⟨d, k1, k2⟩ => by
    obtain rfl := h1.unique k1
    exact h2.unique k2
theorem RanTo.snoc {n : Nat} : ∀ {L : List OpA} {x : OpA} {a b c : List Int × List Int}, RanTo n L a b → StepTo n x b c → RanTo n (L ++ [x]) a c
  | [], _, _, _, c, h, h2 => by have e1 : _ = _ := h; subst e1; exact ⟨c, h2, rfl⟩
  | _ :: L, _, _, _, _, ⟨d, h1, h2⟩, h3 => ⟨d, h1, RanTo.snoc h2 h3⟩
/-- The arena that is new. -/
def arNew : List Int × List Int := ([0], List.replicate 16 0)
end Go.Proofs.Ytlbhhdldeaehkaa

/- The statements' own functions of layer 16: ran. -/
namespace Go.Proofs.Ytlbhhdldeaehkaa
open Go.RowKit

set_option maxRecDepth 20000 in
set_option maxHeartbeats 2000000 in
theorem ran_any (words : Int) (s : Value) (L : List OpA) (w : World) (hs : OpsR w s L) (hL : L.length * 96 ≤ 140737488351232) (hok : ∀ x ∈ L, x.ok) :
    Calls Try.prog 6 #[.int .i64 words, s] w fun e w' => ∃ g F n ws rs, e = .returned (.pointer (some ⟨g, 0, none⟩)) ∧ AR F w' g n ws rs ∧ n = 16 + (IntKind.u64.wrap words % 2000).toNat ∧ RanTo n (L.take 60) arNew (ws, rs) ∧ (∀ k, F k → w.heap.size ≤ k) ∧ Below w.heap.size w w' := by
  obtain ⟨N, e1, hN, h16, h2015⟩ : ∃ N : Nat, wrap64 (16 + wrap64 ((IntKind.u64.wrap words).tmod 2000)) = (N : Int) ∧ N = 16 + (IntKind.u64.wrap words % 2000).toNat ∧ 16 ≤ N ∧ N ≤ 2015 := by
    have h0 : 0 ≤ IntKind.u64.wrap words := by rw [IntKind.wrap_u64]; omega
    refine ⟨16 + (IntKind.u64.wrap words % 2000).toNat, ?_, rfl, by omega, by omega⟩
    rw [Int.tmod_eq_emod_of_nonneg h0]
    unfold wrap64
    omega
  have HS := hide hs
  have HL := hide hL
  have HOK := hide hok
  have HN := hide hN
  obtain ⟨a, cap, rfl, hjk⟩ := hs
  have HNEW := hide (anew_any N w h16 (by omega))
  clear hL hok hjk h2015 h16 hN
  go_enter Try.func6, Try.ntmps6
  go_wp2_with fail
  rw [e1]
  refine Calls.mono (unhide HNEW) ?_
  rintro e w1 ⟨g, F, rfl, hA, hF, b1⟩
  have H1 := hide (And.intro hA (And.intro hF b1))
  clear hA hF b1
  go_wp2_with fail
  go_loopw [7] (fun iv wr => ∃ (k : Nat) (F' : Nat → Prop) (ws rs : List Int), iv = .int .i64 (k : Int) ∧ k ≤ L.length ∧ k ≤ 60 ∧ AR F' wr g N ws rs ∧ RanTo N (L.take k) arNew (ws, rs) ∧ (∀ x, F' x → w.heap.size ≤ x) ∧ Below w.heap.size w wr) (fun iv _ => 60 - (intOf iv).toNat)
  case atStart => exact ⟨0, F, _, _, rfl, Nat.zero_le _, Nat.zero_le _, (unhide H1).1, rfl, (unhide H1).2.1, (unhide H1).2.2⟩
  case round =>
    obtain ⟨k, F', ws, rs, rfl, hk, hk60, hA, hR, hF, hb⟩ := hrel
    by_cases hlt : k < L.length ∧ k < 60
    · obtain ⟨h1, h2⟩ := hlt
      have h1I : (k : Int) < (L.length : Int) := by omega
      have h2I : (k : Int) < 60 := by omega
      obtain ⟨go, off, rfl, hc⟩ := (unhide HS).at k h1
      have hx := unhide HOK L[k] (List.getElem_mem h1)
      have HTK := hide (show L.take (k + 1) = L.take k ++ [L[k]] from List.take_succ_eq_append_getElem h1)
      generalize L[k] = x at *
      obtain ⟨kd, at', i, sl, k2, v, ps, ds⟩ := x
      obtain ⟨p, pc, d, dc, c0, c1, c2, c3, c4, c5, c6, c7, hp, hd⟩ := hc
      have HPB := hide (show (ps ≠ [] → ∀ x, F' x → (.slice p ps.length pc : Value).ownBlock ≠ some x) ∧ (ds ≠ [] → ∀ x, F' x → (.slice d ds.length dc : Value).ownBlock ≠ some x) from
        ⟨fun hne x hx e => by have := hs_block hp (fun h => hne (List.map_eq_nil_iff.1 h)) x e; have := hF x hx; omega, fun hne x hx e => by have := hs_block hd (fun h => hne (List.map_eq_nil_iff.1 h)) x e; have := hF x hx; omega⟩)
      replace c0 := (hb.cell (World.block_lt_of_cell? w _ c0)).trans c0
      replace c1 := (hb.cell (World.block_lt_of_cell? w _ c1)).trans c1
      replace c2 := (hb.cell (World.block_lt_of_cell? w _ c2)).trans c2
      replace c3 := (hb.cell (World.block_lt_of_cell? w _ c3)).trans c3
      replace c4 := (hb.cell (World.block_lt_of_cell? w _ c4)).trans c4
      replace c5 := (hb.cell (World.block_lt_of_cell? w _ c5)).trans c5
      replace c6 := (hb.cell (World.block_lt_of_cell? w _ c6)).trans c6
      replace c7 := (hb.cell (World.block_lt_of_cell? w _ c7)).trans c7
      dsimp only at c0 c1 c2 c3 c4 c5 c6 c7
      obtain ⟨W0, hW0⟩ : ∃ W0, wr.alloc (.cells #[.int .i64 kd, .int .i64 at', .int .i64 i, .int .i64 sl, .int .i64 k2, .int .u32 v, .slice p ps.length pc, .slice d ds.length dc] 53) = W0 := ⟨_, rfl⟩
      have hb0 : Below wr.heap.size wr W0 := by rw [← hW0]; exact (Below.refl _ _).alloc (Nat.le_refl _) _
      have HB0 := hide hb0
      have HA0 := hide (hA.below hb0)
      have HRO := hide (And.intro ((hp.below hb).below hb0) ((hd.below hb).below hb0))
      have hx8 : W0.heap[wr.heap.size]? = some (.cells #[.int .i64 kd, .int .i64 at', .int .i64 i, .int .i64 sl, .int .i64 k2, .int .u32 v, .slice p ps.length pc, .slice d ds.length dc] 53 (0, 0)) := by rw [← hW0]; exact World.alloc_heap_new _ _
      have y0 : W0.cell? ⟨wr.heap.size, 0, none⟩ = some (.int .i64 kd) := by rw [cell_of_row _ _ _ _ _ (0, 0) hx8]; rfl
      have y1 : W0.cell? ⟨wr.heap.size, 1, none⟩ = some (.int .i64 at') := by rw [cell_of_row _ _ _ _ _ (0, 0) hx8]; rfl
      have y2 : W0.cell? ⟨wr.heap.size, 2, none⟩ = some (.int .i64 i) := by rw [cell_of_row _ _ _ _ _ (0, 0) hx8]; rfl
      have y3 : W0.cell? ⟨wr.heap.size, 3, none⟩ = some (.int .i64 sl) := by rw [cell_of_row _ _ _ _ _ (0, 0) hx8]; rfl
      have y4 : W0.cell? ⟨wr.heap.size, 4, none⟩ = some (.int .i64 k2) := by rw [cell_of_row _ _ _ _ _ (0, 0) hx8]; rfl
      have y5 : W0.cell? ⟨wr.heap.size, 5, none⟩ = some (.int .u32 v) := by rw [cell_of_row _ _ _ _ _ (0, 0) hx8]; rfl
      have y6 : W0.cell? ⟨wr.heap.size, 6, none⟩ = some (.slice p ps.length pc) := by rw [cell_of_row _ _ _ _ _ (0, 0) hx8]; rfl
      have y7 : W0.cell? ⟨wr.heap.size, 7, none⟩ = some (.slice d ds.length dc) := by rw [cell_of_row _ _ _ _ _ (0, 0) hx8]; rfl
      have HBW := hide hb
      have HFF := hide hF
      have HRR := hide hR
      have HXX := hide hx
      have HKK := hide (And.intro h1 h2)
      have hknw : IntKind.i64.wrap ((k : Int) + 1) = (k : Int) + 1 := by rw [IntKind.wrap_i64]; omega
      have HNX : Hid (∀ (F2 : Nat → Prop) (b2 : List Int × List Int) (w2 : World), StepTo N ⟨kd, at', i, sl, k2, v, ps, ds⟩ (ws, rs) b2 → AR F2 w2 g N b2.1 b2.2 → Moves F' F2 W0 w2 → ∃ (k' : Nat) (F' : Nat → Prop) (ws rs : List Int), Value.int .i64 ((k : Int) + 1) = .int .i64 (k' : Int) ∧ k' ≤ L.length ∧ k' ≤ 60 ∧ AR F' w2 g N ws rs ∧ RanTo N (L.take k') arNew (ws, rs) ∧ (∀ x, F' x → w.heap.size ≤ x) ∧ Below w.heap.size w w2) := by
        intro F2 b2 w2 hs2 hA2 hm2
        obtain ⟨h1, h2⟩ := unhide HKK
        refine ⟨k + 1, F2, b2.1, b2.2, rfl, h1, h2, hA2, ?_, fun x hx => ?_, ?_⟩
        · rw [unhide HTK]; exact (unhide HRR).snoc hs2
        · rcases hm2.sub x hx with h | h
          · exact unhide HFF x h
          · have := (unhide HBW).size; have := (unhide HB0).size; omega
        · have hB := (unhide HBW).trans ((unhide HB0).mono (unhide HBW).size)
          exact hB.trans (hm2.keep.below hB.size (unhide HFF))
      clear hA hR hF hb hp hd hb0 hx h1 h2 hx8 hk hk60
      by_cases q1 : kd = 1
      · subst q1
        have HST := hide (show StepTo N ⟨1, at', i, sl, k2, v, ps, ds⟩ (ws, rs) (ws, rs) from by unfold StepTo; rw [if_pos (Or.inl rfl)])
        go_wp2_with fail
        exact ⟨unhide HNX F' (ws, rs) _ (unhide HST) (unhide HA0) (Moves.refl _ _), by have := (unhide HKK).2; simp [intOf]; omega⟩
      have t1 : (kd == 1) = false := by simp [q1]
      by_cases q5 : kd = 5
      · subst q5
        have HST := hide (show StepTo N ⟨5, at', i, sl, k2, v, ps, ds⟩ (ws, rs) (ws, rs) from by unfold StepTo; rw [if_pos (Or.inr rfl)])
        go_wp2_with fail
        exact ⟨unhide HNX F' (ws, rs) _ (unhide HST) (unhide HA0) (Moves.refl _ _), by have := (unhide HKK).2; simp [intOf]; omega⟩
      have t5 : (kd == 5) = false := by simp [q5]
      have hv := And.intro (unhide HXX).v0 (unhide HXX).v1
      have hpl := (unhide HXX).pl
      have hdl := (unhide HXX).dl
      dsimp only at hv hpl hdl y6 y7
      by_cases q2 : kd = 2
      · subst q2
        have HST := hide (show StepTo N ⟨2, at', i, sl, k2, v, ps, ds⟩ (ws, rs) ((setP ws at' i v).2, rs) from by unfold StepTo; rw [if_neg (by dsimp only; omega), if_pos rfl])
        have HC := hide (aset_any F' W0 g N ws rs at' i v (unhide HA0) hv.1 hv.2)
        clear hv hpl hdl q1 q5
        go_wp2_with fail
        refine Calls.mono (unhide HC) ?_
        rintro e w2 ⟨rfl, hA2, hk2⟩
        have H2 := hide (And.intro hA2 hk2)
        clear hA2 hk2 y0 y1 y2 y3 y4 y5 y6 y7
        go_wp2_with fail
        exact ⟨unhide HNX F' _ _ (unhide HST) (unhide H2).1 ⟨(unhide H2).2, fun _ h => Or.inl h⟩, by have := (unhide HKK).2; simp [intOf]; omega⟩
      have t2 : (kd == 2) = false := by simp [q2]
      by_cases q3 : kd = 3
      · subst q3
        have HST := hide (show StepTo N ⟨3, at', i, sl, k2, v, ps, ds⟩ (ws, rs) (ws, (setRP ws rs sl at').2) from by unfold StepTo; rw [if_neg (by dsimp only; omega), if_neg (by dsimp only; omega), if_pos rfl])
        have HC := hide (asetroot_any F' W0 g N ws rs sl at' (unhide HA0))
        clear hv hpl hdl q1 q5 q2
        go_wp2_with fail
        refine Calls.mono (unhide HC) ?_
        rintro e w2 ⟨rfl, hA2, hk2⟩
        have H2 := hide (And.intro hA2 hk2)
        clear hA2 hk2 y0 y1 y2 y3 y4 y5 y6 y7
        go_wp2_with fail
        exact ⟨unhide HNX F' _ _ (unhide HST) (unhide H2).1 ⟨(unhide H2).2, fun _ h => Or.inl h⟩, by have := (unhide HKK).2; simp [intOf]; omega⟩
      have t3 : (kd == 3) = false := by simp [q3]
      by_cases q4 : kd = 4
      · subst q4
        have HST := hide (fun l (hl : LiveIs ws rs l) => show StepTo N ⟨4, at', i, sl, k2, v, ps, ds⟩ (ws, rs) (cW ws l, cR ws l rs) from by unfold StepTo; rw [if_neg (by dsimp only; omega), if_neg (by dsimp only; omega), if_neg (by dsimp only; omega), if_pos rfl]; exact ⟨l, hl, rfl⟩)
        have HC := hide (apack_any F' W0 g N ws rs (unhide HA0))
        clear hv hpl hdl q1 q5 q2 q3
        go_wp2_with fail
        refine Calls.mono (unhide HC) ?_
        rintro e w2 ⟨l, rfl, hl, F2, hA2, hm2⟩
        have H2 := hide (And.intro hl (And.intro hA2 hm2))
        clear hl hA2 hm2 y0 y1 y2 y3 y4 y5 y6 y7
        go_wp2_with fail
        exact ⟨unhide HNX F2 _ _ (unhide HST l (unhide H2).1) (unhide H2).2.1 (unhide H2).2.2, by have := (unhide HKK).2; simp [intOf]; omega⟩
      have t4 : (kd == 4) = false := by simp [q4]
      have HST := hide (show StepTo N ⟨kd, at', i, sl, k2, v, ps, ds⟩ (ws, rs) ((makeP N ws (k2, ps, ds)).2, rs) from by unfold StepTo; rw [if_neg (by dsimp only; omega), if_neg (by dsimp only; omega), if_neg (by dsimp only; omega), if_neg (by dsimp only; omega)])
      have HC := hide (amake_any F' W0 g N ws rs ps ds k2 _ _ (unhide HA0) (unhide HRO).1 (unhide HRO).2 (unhide HXX).du (unhide HPB).1 (unhide HPB).2 (by omega) (by omega))
      clear hv hpl hdl q1 q5 q2 q3 q4
      go_wp2_with fail
      refine Calls.mono (unhide HC) ?_
      rintro e w2 ⟨rfl, F2, hA2, hm2⟩
      have H2 := hide (And.intro hA2 hm2)
      clear hA2 hm2 y0 y1 y2 y3 y4 y5 y6 y7
      go_wp2_with fail
      exact ⟨unhide HNX F2 _ _ (unhide HST) (unhide H2).1 (unhide H2).2, by have := (unhide HKK).2; simp [intOf]; omega⟩
    · have HE := hide (show ∃ F' ws rs, AR F' wr g N ws rs ∧ RanTo N (L.take 60) arNew (ws, rs) ∧ (∀ x, F' x → w.heap.size ≤ x) ∧ Below w.heap.size w wr from ⟨F', ws, rs, hA, by
        have e : L.take 60 = L.take k := by
          by_cases h60 : k = 60
          · rw [h60]
          · rw [List.take_of_length_le (by omega), List.take_of_length_le (by omega)]
        rw [e]; exact hR, hF, hb⟩)
      clear hA hR hF hb
      by_cases hl : k < L.length
      · have h1I : (k : Int) < (L.length : Int) := by omega
        have h2I : (60 : Int) ≤ (k : Int) := by omega
        clear hl hlt hk hk60
        go_wp2_with fail
        go_ret
        obtain ⟨F2, ws2, rs2, r1, r2, r3, r4⟩ := unhide HE
        exact ⟨g, F2, N, ws2, rs2, rfl, r1, unhide HN, r2, r3, r4⟩
      · have h1I : (L.length : Int) ≤ (k : Int) := by omega
        clear hl hlt hk hk60
        go_wp2_with fail
        go_ret
        obtain ⟨F2, ws2, rs2, r1, r2, r3, r4⟩ := unhide HE
        exact ⟨g, F2, N, ws2, rs2, rfl, r1, unhide HN, r2, r3, r4⟩
end Go.Proofs.Ytlbhhdldeaehkaa

/- Package arena as landed: the questions, asked of an arena in blocks of its own. -/
namespace Go.Proofs.Ytlbhhdldeaehkaa
open Go.RowKit

theorem AR.owok (g n : Nat) (ws rs : List Int) : OwOk (fun F w => AR F w g n ws rs) := ⟨fun _ _ _ _ h hk hn => h.keep hk hn, fun _ _ h _ hk => h.lt hk⟩
theorem aused_ar {F : Nat → Prop} {w : World} {g n : Nat} {ws rs : List Int} (h : AR F w g n ws rs) : Calls Try.prog 9 #[.pointer (some ⟨g, 0, none⟩)] w fun e w' => e = .returned (.int .i64 (ws.length : Int)) ∧ w' = w := by
  obtain ⟨gh, wv, hv, rv, h, hF⟩ := h
  exact aused_any w g gh wv hv rv n ws rs h
theorem awords_ar {F : Nat → Prop} {w : World} {g n : Nat} {ws rs : List Int} (h : AR F w g n ws rs) : Calls Try.prog 11 #[.pointer (some ⟨g, 0, none⟩)] w fun e w' => e = .returned (.int .i64 (n : Int)) ∧ w' = w := by
  obtain ⟨gh, wv, hv, rv, h, hF⟩ := h
  exact awords_any w g gh wv hv rv n ws rs h
theorem aroot_ar {F : Nat → Prop} {w : World} {g n : Nat} {ws rs : List Int} (s : Int) (h : AR F w g n ws rs) : Calls Try.prog 20 #[.pointer (some ⟨g, 0, none⟩), .int .i64 s] w fun e w' => e = .returned (.int .i64 (rootP rs s)) ∧ w' = w := by
  obtain ⟨gh, wv, hv, rv, h, hF⟩ := h
  exact aroot_any w g gh wv hv rv n ws rs s h
theorem alive_ar {F : Nat → Prop} {w : World} {g n : Nat} {ws rs : List Int} (h : AR F w g n ws rs) : Calls Try.prog 8 #[.pointer (some ⟨g, 0, none⟩)] w fun e w' => ∃ l, e = .returned (.int .i64 ((sums ws l : Nat) : Int)) ∧ LiveIs ws rs l ∧ Below w.heap.size w w' := by
  have hU := h.ok.u32
  obtain ⟨gh, wv, hv, rv, h, hF⟩ := h
  refine (alive_any w g gh wv hv rv n ws rs h).mono ?_
  rintro e w' ⟨l, rfl, hl, b⟩
  exact ⟨l, by rw [sums_int hU], hl, b⟩
theorem aat_ar {F : Nat → Prop} {w : World} {g n : Nat} {ws rs : List Int} (a : Int) (h : AR F w g n ws rs) :
    Calls Try.prog 16 #[.pointer (some ⟨g, 0, none⟩), .int .i64 a] w fun e w' => ∃ p d kd er, e = .returned (.tuple #[.agg #[.int .i64 kd, p, d], .int .i64 er]) ∧ ∃ ps ds, atR ws a = (kd, ps, ds, er) ∧ w'.ownsRow w.heap.size 3 1 p ps.length (Iw ps) ∧ w'.ownsRow w.heap.size 44 1 d ds.length (Uw ds) ∧ Below w.heap.size w w' := by
  obtain ⟨gh, wv, hv, rv, h, hF⟩ := h
  exact aat_any w g gh wv hv rv n ws rs a h
theorem told_ar {F : Nat → Prop} {w : World} {g n : Nat} {ws rs : List Int} (h : AR F w g n ws rs) :
    Calls Try.prog 17 #[.pointer (some ⟨g, 0, none⟩)] w fun e w' => ∃ v vo, e = .returned (.tuple #[v, vo, .bool true]) ∧ VRow w' v (plV (obs ws 1)) ∧ OL w' vo (obsA ws) ∧ Below w.heap.size w w' := by
  have ok := h.ok
  obtain ⟨gh, wv, hv, rv, h, hF⟩ := h
  exact told16_any _ ws w ok.u32 ok.len (aall_any w g gh wv hv rv n ws rs h)
theorem apack_at {F : Nat → Prop} {w : World} {g n : Nat} {ws rs l : List Int} (h : AR F w g n ws rs) (hl : LiveIs ws rs l) :
    Calls Try.prog 10 #[.pointer (some ⟨g, 0, none⟩)] w fun e w' => e = .returned (.int .i64 ((ws.length : Int) - ((cW ws l).length : Int))) ∧ ∃ F', AR F' w' g n (cW ws l) (cR ws l rs) ∧ Moves F F' w w' := by
  refine (apack_any F w g n ws rs h).mono ?_
  rintro e w' ⟨m, rfl, hm, F', h1, h2⟩
  obtain rfl := hm.unique hl
  exact ⟨rfl, F', h1, h2⟩
end Go.Proofs.Ytlbhhdldeaehkaa
