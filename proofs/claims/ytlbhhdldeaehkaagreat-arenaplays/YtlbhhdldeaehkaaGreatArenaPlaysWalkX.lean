/- The walk of ArenaPlays. -/
import Derived.Test.YtlbhhdldeaehkaaGreatG30
import Derived.Test.YtlbhhdldeaehkaaGreatG36
namespace Go.Proofs.YtlbhhdldeaehkaaGreat
open Go.RowKit

/-- A call of the script, whatever it asks but a fork. -/
theorem step16_any (w : World) (ga gr n : Nat) (a : List Int × List Int) (C : Nat → Prop) (x : OpA) (p d : Option Addr) (cp cd : Nat) (hA : TwoA ga gr n a C w) (hx : x.ok)
    (hp : VRow w (.slice p x.ps.length cp) (Iw x.ps)) (hd : VRow w (.slice d x.ds.length cd) (Uw x.ds)) (hpn : x.ps ≠ [] → ∀ k, C k → (.slice p x.ps.length cp : Value).ownBlock ≠ some k) (hdn : x.ds ≠ [] → ∀ k, C k → (.slice d x.ds.length cd : Value).ownBlock ≠ some k) :
    Calls Tryz.prog 10 #[.pointer (some ⟨ga, 0, none⟩), .pointer (some ⟨gr, 0, none⟩), .agg #[.int .i64 x.kind, .int .i64 x.at', .int .i64 x.i, .int .i64 x.slot, .int .i64 x.k2, .int .u32 x.v, .slice p x.ps.length cp, .slice d x.ds.length cd]] w (StepD ga gr n C w) := by
  by_cases q1 : x.kind = 1
  · rw [q1]; exact step_at w ga gr n a C p d _ _ cp cd _ _ _ _ _ hA
  by_cases q2 : x.kind = 2
  · rw [q2]; exact step_set w ga gr n a C p d _ _ cp cd _ _ _ _ _ hA hx.v0 hx.v1
  by_cases q3 : x.kind = 3
  · rw [q3]; exact step_root w ga gr n a C p d _ _ cp cd _ _ _ _ _ hA
  by_cases q4 : x.kind = 4
  · rw [q4]; exact step_pack w ga gr n a C p d _ _ cp cd _ _ _ _ _ hA
  exact step_make w ga gr n a C p d cp cd _ _ _ _ _ _ x.ps x.ds hA (by simp [q1]) (by simp [q2]) (by simp [q3]) (by simp [q4]) hp hd hx.du hpn hdn hx.pl hx.dl

set_option maxRecDepth 20000 in
set_option maxHeartbeats 2000000 in
theorem walk_ArenaPlays (a0 : Int) (_ : (Lit.int .i64 a0).wf = true) (s1 : Value) (d1 : Dt) (w : World) (h1 : Reads limSaid w (.row 96 (.struct (.cons (.int .i64) (.cons (.int .i64) (.cons (.int .i64) (.cons (.int .i64) (.cons (.int .i64) (.cons (.int .u32) (.cons (.row 8 (.int .i64)) (.cons (.row 4 (.int .u32)) (.nil))))))))))) [s1] d1) :
    Calls Tryz.prog 3 #[.int .i64 a0, s1] w fun e w' => e = .returned (.bool true) ∧ Below w.heap.size w w' := by
  obtain ⟨L, hs, hL, hok⟩ := ops_of_reads h1
  have HAW := hide (fun W => aawake16_any W)
  have HS := hide hs
  have HOK := hide hok
  have HL := hide hL
  obtain ⟨pa, cap, rfl, _⟩ := hs
  clear h1 hL hok
  by_cases hr : a0 < 16 ∨ 1048576 < a0
  · have HN := hide (fun W => anew_arg a0 W hr)
    have HR := hide (fun W => rnew_arg a0 W hr)
    clear hr
    go_enter Tryz.func3, Tryz.ntmps3
    go_wp2_with fail
    refine Calls.mono (unhide HN _) ?_
    rintro e w1 ⟨rfl, rfl⟩
    go_wp2_with fail
    refine Calls.mono (unhide HR _) ?_
    rintro e w1 ⟨rfl, rfl⟩
    go_wp2_with fail
    refine Calls.mono (unhide HAW _) ?_
    rintro e w2 ⟨rfl, b2⟩
    have HB2 := hide b2
    clear b2
    go_wp2_with fail
    go_ret
    exact ⟨rfl, unhide HB2⟩
  · obtain ⟨n, rfl⟩ := Int.eq_ofNat_of_zero_le (show 0 ≤ a0 by omega)
    have hn1 : 16 ≤ n := by omega
    have hn2 : n ≤ 1048576 := by omega
    have HN := hide (fun W => anew_any n W hn1 hn2)
    have HR := hide (fun W => rnew_any n W hn1 hn2)
    clear hr hn1 hn2
    go_enter Tryz.func3, Tryz.ntmps3
    go_wp2_with fail
    refine Calls.mono (unhide HN _) ?_
    rintro e w1 ⟨ga, F1, rfl, hA1, hF1, b1⟩
    have H1 := hide (And.intro hA1 (And.intro hF1 b1))
    clear hA1 hF1 b1
    go_wp2_with fail
    refine Calls.mono (unhide HR _) ?_
    rintro e w2 ⟨gr, F2, rfl, hA2, hF2, b2⟩
    obtain ⟨hA1, hF1, b1⟩ := unhide H1
    have hT := Star.new (I := fun F w => AR F w ga n arNew.1 arNew.2) (J := fun F w => RA F w gr n arNew.1 arNew.2) (AR.owok ga n _ _) hA1 b2 hA2 hF2
    have H2 := hide (And.intro (show TwoA ga gr n arNew _ w2 from hT.1) (And.intro (show ∀ k, F1 k ∨ F2 k → w.heap.size ≤ k from fun k hk => by rcases hk with h | h; exact hF1 k h; exact Nat.le_trans b1.size (hF2 k h)) (b1.trans (b2.mono b1.size))))
    clear hA1 hF1 b1 hA2 hF2 b2 hT H1
    go_wp2_with fail
    refine Calls.mono (unhide HAW _) ?_
    rintro e w3 ⟨rfl, b3⟩
    obtain ⟨hT, hF, hb⟩ := unhide H2
    have H3 := hide (And.intro ((TwoX.ok ga gr n _ _).below hT b3) (And.intro hF (hb.trans (b3.mono hb.size))))
    clear hT hF hb b3 H2
    go_wp2_with fail
    have hu := Tryz.underlying23
    go_loopw [5, 9] (fun pv iv wr => ∃ (k g : Nat) (C : Nat → Prop) (b : List Int × List Int), pv = .pointer (some ⟨g, 0, none⟩) ∧ iv = .int .i64 (k : Int) ∧ k ≤ L.length ∧ k ≤ 60 ∧ TwoA g gr n b C wr ∧ (∀ x, C x → w.heap.size ≤ x) ∧ Below w.heap.size w wr) (fun _ iv _ => 60 - (intOf iv).toNat)
    case atStart => exact ⟨0, ga, _, _, rfl, rfl, Nat.zero_le _, Nat.zero_le _, (unhide H3).1, (unhide H3).2.1, (unhide H3).2.2⟩
    case round =>
      obtain ⟨k, g, C, b, rfl, rfl, hk, hk60, hT, hC, hb⟩ := hrel
      by_cases hlt : k < L.length ∧ k < 60
      · obtain ⟨h1, h2⟩ := hlt
        have h1I : (k : Int) < (L.length : Int) := by omega
        have h2I : (k : Int) < 60 := by omega
        obtain ⟨go, off, rfl, hc⟩ := (unhide HS).at k h1
        have hx := unhide HOK L[k] (List.getElem_mem h1)
        generalize L[k] = x at *
        obtain ⟨p, pc, d, dc, c0, c1, c2, c3, c4, c5, c6, c7, hp, hd⟩ := hc
        have hpn : x.ps ≠ [] → ∀ y, C y → (.slice p x.ps.length pc : Value).ownBlock ≠ some y := fun hne y hy e => by have := hs_block hp (fun h => hne (List.map_eq_nil_iff.1 h)) y e; have := hC y hy; omega
        have hdn : x.ds ≠ [] → ∀ y, C y → (.slice d x.ds.length dc : Value).ownBlock ≠ some y := fun hne y hy e => by have := hs_block hd (fun h => hne (List.map_eq_nil_iff.1 h)) y e; have := hC y hy; omega
        have HST := hide (step16_any wr g gr n b C x p d pc dc hT hx (hp.below hb) (hd.below hb) hpn hdn)
        replace c0 := (hb.cell (World.block_lt_of_cell? w _ c0)).trans c0
        replace c1 := (hb.cell (World.block_lt_of_cell? w _ c1)).trans c1
        replace c2 := (hb.cell (World.block_lt_of_cell? w _ c2)).trans c2
        replace c3 := (hb.cell (World.block_lt_of_cell? w _ c3)).trans c3
        replace c4 := (hb.cell (World.block_lt_of_cell? w _ c4)).trans c4
        replace c5 := (hb.cell (World.block_lt_of_cell? w _ c5)).trans c5
        replace c6 := (hb.cell (World.block_lt_of_cell? w _ c6)).trans c6
        replace c7 := (hb.cell (World.block_lt_of_cell? w _ c7)).trans c7
        have HKK := hide (And.intro h1 h2)
        have HT := hide (And.intro hT (And.intro hC hb))
        have hknw : IntKind.i64.wrap ((k : Int) + 1) = (k : Int) + 1 := by rw [IntKind.wrap_i64]; omega
        -- behind the call both are alike, and the round ends
        have HNX : Hid (∀ (g' : Nat) (b' : List Int × List Int) (C' : Nat → Prop) (W W' : World), TwoA g' gr n b' C' W → Moves C C' wr W → Below W.heap.size W W' → ∃ (k' g : Nat) (C : Nat → Prop) (b : List Int × List Int), (.pointer (some ⟨g', 0, none⟩) : Value) = .pointer (some ⟨g, 0, none⟩) ∧ Value.int .i64 ((k : Int) + 1) = .int .i64 (k' : Int) ∧ k' ≤ L.length ∧ k' ≤ 60 ∧ TwoA g gr n b C W' ∧ (∀ x, C x → w.heap.size ≤ x) ∧ Below w.heap.size w W') := by
          intro g' b' C' W W' hT' hm hbw
          obtain ⟨_, hC, hb⟩ := unhide HT
          refine ⟨k + 1, g', C', b', rfl, rfl, h1, h2, (TwoX.ok g' gr n b' b').below hT' hbw, fun y hy => ?_, ?_⟩
          · rcases hm.sub y hy with h | h
            · exact hC y h
            · have := hb.size; omega
          · have hB := hm.keep.below hb.size hC
            exact (hb.trans hB).trans (hbw.mono (hb.trans hB).size)
        clear hT hC hb hp hd hx h1 h2 hpn hdn hk hk60
        by_cases q5 : x.kind = 5
        · rw [q5] at c0
          have HFK : Hid (∀ (F1 : Nat → Prop), AR F1 wr g n b.1 b.2 → True) := fun _ _ => trivial
          obtain ⟨hT, hC, hb⟩ := unhide HT
          obtain ⟨C1, C2, t1, t2, t3, t4⟩ := hT
          have HF := hide (afork_any C1 wr g n b.1 b.2 t1)
          have HPA := hide (And.intro t1 (And.intro t2 (And.intro t3 (And.intro t4 (TwoX.ok g gr n b b)))))
          clear hC hb t1 t2 t3 t4 HFK HST q5
          go_wp2_with fail
          refine Calls.mono (unhide HF) ?_
          rintro e w4 ⟨g', F', rfl, hA', hF', b4⟩
          obtain ⟨t1, t2, t3, t4, _⟩ := unhide HPA
          have HMK := hide (amake_any C1 w4 g n b.1 b.2 [] [] 0 (.slice none 0 0) (.slice none 0 0) (t1.below b4) (VRow.nil _) (VRow.nil _) (fun _ h => by cases h) (fun h => absurd rfl h) (fun h => absurd rfl h) (by simp) (by simp))
          have H4 := hide (And.intro hA' (And.intro hF' b4))
          clear hA' hF' b4 t1 t2 t3 t4
          go_wp2_with fail
          refine Calls.mono (unhide HMK) ?_
          rintro e w5 ⟨rfl, F5, hA5, hm5⟩
          have HPK := hide (apack_any F5 w5 g n _ b.2 hA5)
          have H5 := hide hm5
          clear hA5 hm5
          go_wp2_with fail
          refine Calls.mono (unhide HPK) ?_
          rintro e w6 ⟨l, rfl, hl, F6, hA6, hm6⟩
          have HTW : Hid (∃ C', TwoA g' gr n b C' w6 ∧ Moves C C' wr w6) := by
            obtain ⟨t1, t2, t3, t4, _⟩ := unhide HPA
            obtain ⟨hA', hF', b4⟩ := unhide H4
            have m46 := (unhide H5).trans hm6
            have hc1 : ∀ y, C1 y → y < wr.heap.size := fun y hy => t1.lt hy
            have hd6 : ∀ y, F' y → ¬ C1 y := fun y h h' => by have := hF' y h; have := hc1 y h'; omega
            have k1 := (AR.owok g' n b.1 b.2).stays _ _ _ _ hA' m46.keep hd6
            have k2 := (RA.owok gr n b.1 b.2).stays _ _ _ _ ((RA.owok gr n b.1 b.2).below t2 b4) m46.keep (fun y hy h => t3 y h hy)
            refine ⟨fun y => F' y ∨ C2 y, ⟨F', C2, k1, k2, fun y hy h => ?_, fun _ => Iff.rfl⟩, (Keep.of_below (F := C) b4).trans m46.keep (fun y hy => Or.inl ((t4 y).2 (Or.inl hy))), fun y hy => ?_⟩
            · have := (RA.owok gr n b.1 b.2).lt _ _ t2 y h; have := hF' y hy; omega
            · rcases hy with h | h
              · exact Or.inr (hF' y h)
              · exact Or.inl ((t4 y).2 (Or.inr h))
          clear hl hA6 hm6 HPA H4 H5 c0 c1 c2 c3 c4 c5 c6 c7
          obtain ⟨C', hT6, hm6⟩ := unhide HTW
          have HAL := hide (alike16_any w6 g' gr n b C' hT6)
          have H6 := hide (And.intro hT6 hm6)
          clear hT6 hm6 HTW
          go_wp2_with fail
          refine Calls.mono (unhide HAL) ?_
          rintro e w7 ⟨rfl, b7⟩
          have HB7 := hide b7
          clear b7
          go_wp2_with fail
          exact ⟨unhide HNX g' b C' w6 _ (unhide H6).1 (unhide H6).2 (unhide HB7), by have := (unhide HKK).2; simp [intOf]; omega⟩
        · have t5 : (x.kind == 5) = false := by simp [q5]
          clear q5
          go_wp2_with fail
          refine Calls.mono (unhide HST) ?_
          rintro e w4 ⟨rfl, b', C', hT4, hm4⟩
          have HAL := hide (alike16_any w4 g gr n b' C' hT4)
          have H4 := hide (And.intro hT4 hm4)
          clear hT4 hm4 c0 c1 c2 c3 c4 c5 c6 c7
          go_wp2_with fail
          refine Calls.mono (unhide HAL) ?_
          rintro e w7 ⟨rfl, b7⟩
          have HB7 := hide b7
          clear b7
          go_wp2_with fail
          exact ⟨unhide HNX g b' C' w4 _ (unhide H4).1 (unhide H4).2 (unhide HB7), by have := (unhide HKK).2; simp [intOf]; omega⟩
      · have HE := hide hb
        clear hT hC hb
        by_cases hl : k < L.length
        · have h1I : (k : Int) < (L.length : Int) := by omega
          have h2I : (60 : Int) ≤ (k : Int) := by omega
          clear hl hlt hk hk60
          go_wp2_with fail
          go_ret
          exact ⟨rfl, unhide HE⟩
        · have h1I : (L.length : Int) ≤ (k : Int) := by omega
          clear hl hlt hk hk60
          go_wp2_with fail
          go_ret
          exact ⟨rfl, unhide HE⟩
end Go.Proofs.YtlbhhdldeaehkaaGreat
