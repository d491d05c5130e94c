/- Texts of ours, one behind the other: ArAlike, ArRanP. -/
import Derived.Test.YtlbhhdldeaehkaaGreatG9
import Derived.Test.YtlbhhdldeaehkaaGreatG14
import Derived.Test.YtlbhhdldeaehkaaGreatG21
import Derived.Test.YtlbhhdldeaehkaaGreatG24
import Derived.Test.YtlbhhdldeaehkaaGreatG30
import Derived.Test.YtlbhhdldeaehkaaGreatG32
/- The statements' own functions of layer 16: alike. -/
namespace Go.Proofs.YtlbhhdldeaehkaaGreat
open Go.RowKit

macro "lexr" h:term : tactic => `(tactic| (
  refine lexM_stillE (by rfl) (by kernel_rfl) ?_
  apply Exists.intro
  refine ⟨fun s u Xi hi => ?_, ?_⟩
  · obtain ⟨z0, z1⟩ := unhide $h s u Xi hi
    go_simp
    first | done | rfl
  simp only [Act.put, List.setIfInBounds_toArray, List.set_cons_zero, List.set_cons_succ]))

theorem obs_len1 (ws : List Int) {n : Nat} {rs : List Int} (h : AOk n ws rs) : (obs ws 1).length ≤ 1048576 := Nat.le_trans (obs_len ws) h.len
set_option maxRecDepth 20000 in
set_option maxHeartbeats 2000000 in
theorem alike16_any (w : World) (ga gr n : Nat) (a : List Int × List Int) (C : Nat → Prop) (hA : TwoA ga gr n a C w) :
    Calls Tryz.prog 11 #[.pointer (some ⟨ga, 0, none⟩), .pointer (some ⟨gr, 0, none⟩)] w fun e w' => e = .returned (.bool true) ∧ Below w.heap.size w w' := by
  have hmx : Tryz.prog.follows .mixedOrders = true := by kernel_rfl
  obtain ⟨C1, C2, h1, ⟨wv, h2, h2'⟩, h3, h4⟩ := hA
  have hok := h1.ok
  have HK := hide (fun (X : World) (hb : Below w.heap.size w X) => And.intro (h1.below hb) (h2.below hb))
  have HT := hide (told_ar h1)
  have HPL := hide (fun (X : World) (hb : Below w.heap.size w X) => rplaces_any wv a.1 X ((h2.below hb).wrow) hok.u32 (by have := hok.len; omega))
  have HCC := hide (fun (X : World) (hb : Below w.heap.size w X) => (h2.below hb).cells)
  obtain ⟨wp, wc, rfl⟩ := ownsV_shape h2.wown
  have HOK := hide hok
  clear h1 h2 h2' h3 h4 hok
  go_enter Tryz.func11, Tryz.ntmps11
  go_wp2_with fail
  refine Calls.mono (unhide HT) ?_
  rintro e w1 ⟨v, vo, rfl, hv, hvo, b1⟩
  obtain ⟨pv, cv, rfl, _⟩ := hv.shape
  have hpl : (plV (obs a.1 1)).length = (obs a.1 1).length := by simp [plV]
  rw [hpl] at hv ⊢
  have HV1 := hide (And.intro hv hvo)
  have HB1 := hide b1
  have hol : (obsA a.1).length = (obs a.1 1).length := by unfold obsA; simp
  obtain ⟨po, co, rfl, _⟩ := hvo
  rw [hol] at HV1 ⊢
  obtain ⟨c0, c1, _, _⟩ := unhide HCC w1 b1
  clear hv b1
  go_wp2_with fail
  refine Calls.mono (unhide HPL w1 (unhide HB1)) ?_
  rintro e w2 ⟨m, rfl, hm, b2⟩
  have HB2 := hide ((unhide HB1).trans (b2.mono (unhide HB1).size))
  have HV2 := hide (And.intro ((unhide HV1).1.below b2) (And.intro ((unhide HV1).2.below b2) (ownsV_row hm (by simp [plV]))))
  obtain ⟨pm, cm, rfl⟩ := ownsV_shape hm
  obtain ⟨c0, c1, _, _⟩ := unhide HCC w2 (unhide HB2)
  clear hm b2 HV1
  go_wp2_with fail
  obtain ⟨T, hT⟩ : ∃ T : Int, ∀ l, LiveIs a.1 a.2 l → ((sums a.1 l : Nat) : Int) = T := by
    by_cases h : ∃ l, LiveIs a.1 a.2 l
    · obtain ⟨l, hl⟩ := h
      exact ⟨_, fun m hm => by rw [hm.unique hl]⟩
    · exact ⟨0, fun m hm => absurd ⟨m, hm⟩ h⟩
  obtain ⟨c, hc⟩ : ∃ c : Nat → Value, c = fun k => if k = 5 then .bool true else if k = 10 then .int .i64 (a.1.length : Int) else if k = 20 then .int .i64 (n : Int) else .int .i64 T := ⟨_, rfl⟩
  have q5 : c 5 = .bool true := by rw [hc]; rfl
  have q10 : c 10 = .int .i64 (a.1.length : Int) := by rw [hc]; rfl
  have q20 : c 20 = .int .i64 (n : Int) := by rw [hc]; rfl
  have q29 : c 29 = .int .i64 T := by rw [hc]; rfl
  have q31 : c 31 = .int .i64 T := by rw [hc]; rfl
  have HCI := hide (fun (s : Nat → Bool) (u : Nat → Value) (Xi : World) (hi : InvB (fun X => Below w2.heap.size w2 X) c s u Xi) => show Xi.cell? ⟨gr, 0, none⟩ = some (.int .i64 (n : Int)) ∧ Xi.cell? ⟨gr, 1, none⟩ = some (.slice wp a.1.length wc) from by
    obtain ⟨z0, z1, _, _⟩ := unhide HCC Xi ((unhide HB2).trans (hi.1.mono (unhide HB2).size))
    exact ⟨z0, z1⟩)
  have HTT := hide hT
  have hcc : ∀ s u w, InvB (fun X => Below w2.heap.size w2 X) c s u w → ∀ j, s j = true → u j = c j := fun s u w h => h.2
  have HLC := hide hcc
  clear hc hT hcc
  refine region_actsC 33 (fun i => i == 5 || i == 10 || i == 20 || i == 29 || i == 31) (InvB (fun X => Below w2.heap.size w2 X) c) c (unhide HLC) hmx (by kernel_rfl) ⟨(Below.refl _ w2).drew, fun j h => (by cases h)⟩ ?_
  simp only [List.take_succ_cons, List.take_zero]
  lexr HCI
  lexr HCI
  lexr HCI
  lexr HCI
  lexr HCI
  refine lexM_act (by rfl) (by kernel_rfl) (invB_act (fun X hX => ?_)) ?_
  · go_simp
    refine actUpon_enter (((HInt.plain_any _ _ ((obs a.1 1).map fun x => (x.1 : Int)) X (by rw [show ((obs a.1 1).map fun x => (x.1 : Int)).map (Value.int .i64) = plV (obs a.1 1) from by unfold plV; rw [List.map_map]; rfl]; exact (unhide HV2).1.below hX) (by rw [show ((obs a.1 1).map fun x => (x.1 : Int)).map (Value.int .i64) = plV (obs a.1 1) from by unfold plV; rw [List.map_map]; rfl]; exact (unhide HV2).2.2.below hX))).mono ?_)
    rintro e w' ⟨rfl, b⟩
    exact ⟨_, rfl, rfl, hX.trans (b.mono hX.size)⟩
  rw [q5]
  simp only [Act.put, List.setIfInBounds_toArray, List.set_cons_zero, List.set_cons_succ]
  lexr HCI
  lexr HCI
  lexr HCI
  lexr HCI
  refine lexM_act (by rfl) (by kernel_rfl) (invB_act (fun X hX => ?_)) ?_
  · go_simp
    refine actUpon_enter ((aused_ar (unhide HK X ((unhide HB2).trans (hX.mono (unhide HB2).size))).1).mono ?_)
    rintro e w' ⟨rfl, rfl⟩
    exact ⟨_, rfl, rfl, hX⟩
  rw [q10]
  simp only [Act.put, List.setIfInBounds_toArray, List.set_cons_zero, List.set_cons_succ]
  lexr HCI
  lexr HCI
  lexr HCI
  lexr HCI
  lexr HCI
  lexr HCI
  lexr HCI
  lexr HCI
  lexr HCI
  refine lexM_act (by rfl) (by kernel_rfl) (invB_act (fun X hX => ?_)) ?_
  · go_simp
    refine actUpon_enter ((awords_ar (unhide HK X ((unhide HB2).trans (hX.mono (unhide HB2).size))).1).mono ?_)
    rintro e w' ⟨rfl, rfl⟩
    exact ⟨_, rfl, rfl, hX⟩
  rw [q20]
  simp only [Act.put, List.setIfInBounds_toArray, List.set_cons_zero, List.set_cons_succ]
  lexr HCI
  lexr HCI
  lexr HCI
  lexr HCI
  lexr HCI
  lexr HCI
  lexr HCI
  lexr HCI
  refine lexM_act (by rfl) (by kernel_rfl) (invB_act (fun X hX => ?_)) ?_
  · go_simp
    refine actUpon_enter ((alive_ar (unhide HK X ((unhide HB2).trans (hX.mono (unhide HB2).size))).1).mono ?_)
    rintro e w' ⟨l, rfl, hl, b⟩
    exact ⟨_, rfl, by rw [unhide HTT l hl], hX.trans (b.mono hX.size)⟩
  rw [q29]
  simp only [Act.put, List.setIfInBounds_toArray, List.set_cons_zero, List.set_cons_succ]
  lexr HCI
  refine lexM_act (by rfl) (by kernel_rfl) (invB_act (fun X hX => ?_)) ?_
  · go_simp
    refine actUpon_enter ((rlive16_any X gr _ n a.1 a.2 (unhide HK X ((unhide HB2).trans (hX.mono (unhide HB2).size))).2).mono ?_)
    rintro e w' ⟨l, rfl, hl, b⟩
    exact ⟨_, rfl, by rw [unhide HTT l hl], hX.trans (b.mono hX.size)⟩
  rw [q31]
  simp only [Act.put, List.setIfInBounds_toArray, List.set_cons_zero, List.set_cons_succ]
  lexr HCI
  refine lexM_nil fun W3 hi => ?_
  simp only [List.drop_succ_cons, List.drop_zero]
  have hb3 := (unhide HB2).trans (hi.1.mono (unhide HB2).size)
  have HV3 := hide (And.intro ((unhide HV2).1.below hi.1) ((unhide HV2).2.1.below hi.1))
  have HB3 := hide hb3
  clear hi hb3 HV2 HB2 HTT HLC HCI q5 q10 q20 q29 q31 c0 c1
  go_wp2_with fail
  have HWRAT := hide (fun (X : World) (hb : Below w.heap.size w X) (y : Int) => rat16_any X gr _ n a.1 a.2 y (unhide HK X hb).2)
  go_loopw [10] (fun iv wr => ∃ j : Nat, iv = .int .i64 (j : Int) ∧ j ≤ (obs a.1 1).length ∧ Below W3.heap.size W3 wr) (fun iv _ => (obs a.1 1).length - (intOf iv).toNat)
  case atStart => exact ⟨0, rfl, Nat.zero_le _, Below.refl _ _⟩
  case round =>
    obtain ⟨j, rfl, hj, hb⟩ := hrel
    have hle := obs_len1 a.1 (unhide HOK)
    by_cases hlt : j < (obs a.1 1).length
    · have hjI : (j : Int) < ((obs a.1 1).length : Int) := by omega
      have HK2 := hide (And.intro hlt hb)
      obtain ⟨b, off, cap', e0, _, _, hcl⟩ := ((unhide HV3).1.below hb).open (by intro e; have := congrArg List.length e; simp [plV] at this; rw [this] at hlt; simp at hlt)
      simp only [Value.slice.injEq] at e0
      obtain ⟨rfl, e1, rfl⟩ := e0
      have hcj := hcl j (.int .i64 (((obs a.1 1)[j]).1 : Int)) (by unfold plV; rw [List.getElem?_map, List.getElem?_eq_getElem hlt]; rfl)
      have hob := isOb_of (List.getElem_mem hlt)
      have HAT := hide (unhide HWRAT wr ((unhide HB3).trans (hb.mono (unhide HB3).size)) (((obs a.1 1)[j]).1 : Int))
      rw [atR_is hob, Int.toNat_natCast] at HAT
      have hoA : ∀ h, (obsA a.1)[j]'h = (wd a.1 ((obs a.1 1)[j]).1 % 16, ptsA a.1 (((obs a.1 1)[j]).1 : Int), dtA a.1 (((obs a.1 1)[j]).1 : Int)) := fun h => by simp only [obsA, List.getElem_map]
      obtain ⟨g1, o1, p1, pc1, d1, dc1, rfl, x0, x1, x2, xr, xd⟩ := ((unhide HV3).2.below hb).at j (by rw [hol]; exact hlt)
      rw [hoA] at x0 x1 x2 xr xd
      generalize wd a.1 ((obs a.1 1)[j]).1 % 16 = kd at *
      generalize ptsA a.1 (((obs a.1 1)[j]).1 : Int) = ps at *
      generalize dtA a.1 (((obs a.1 1)[j]).1 : Int) = ds at *
      generalize (((obs a.1 1)[j]).1 : Int) = y at *
      have hknw : IntKind.i64.wrap ((j : Int) + 1) = (j : Int) + 1 := by have := (unhide HOK).len; rw [IntKind.wrap_i64]; omega
      have HXX := hide (And.intro x0 (And.intro x1 (And.intro x2 (And.intro xr xd))))
      clear hcl e1 hoA hob x0 x1 x2 xr xd hj hlt hb
      dsimp only at HXX
      go_wp2_with fail
      refine Calls.mono (unhide HAT) ?_
      rintro e w4 ⟨p2, d2, kd2, er2, rfl, ps2, ds2, heq2, op2, od2, b4⟩
      simp only [Prod.mk.injEq] at heq2
      obtain ⟨rfl, rfl, rfl, rfl⟩ := heq2
      obtain ⟨pp2, pc2, rfl⟩ := ownsV_shape op2
      obtain ⟨dp2, dc2, rfl⟩ := ownsV_shape od2
      obtain ⟨W5, hW5⟩ : ∃ W5, w4.alloc (.cells #[.int .i64 kd, .slice pp2 ps.length pc2, .slice dp2 ds.length dc2] 66) = W5 := ⟨_, rfl⟩
      have hb5 : Below w4.heap.size w4 W5 := by rw [← hW5]; exact (Below.refl _ _).alloc (Nat.le_refl _) _
      have hx5 : W5.heap[w4.heap.size]? = some (.cells #[.int .i64 kd, .slice pp2 ps.length pc2, .slice dp2 ds.length dc2] 66 (0, 0)) := by rw [← hW5]; exact World.alloc_heap_new _ _
      obtain ⟨u0, u1, u2, _⟩ := three_cells hx5
      have hb45 := b4.trans (hb5.mono b4.size)
      obtain ⟨x0, x1, x2, xr, xd⟩ := unhide HXX
      replace x0 := (hb45.cell (World.block_lt_of_cell? wr _ x0)).trans x0
      replace x1 := (hb45.cell (World.block_lt_of_cell? wr _ x1)).trans x1
      replace x2 := (hb45.cell (World.block_lt_of_cell? wr _ x2)).trans x2
      have HO := hide (fun (W : World) (hb : Below W5.heap.size W5 W) => hobject_any kd ps ds _ _ _ _ W ((xr.below hb45).below hb) ((xd.below hb45).below hb) (((ownsV_row op2 (by simp)).below hb5).below hb) (((ownsV_row od2 (by simp)).below hb5).below hb))
      have HB45 := hide hb45
      clear op2 od2 b4 hb5 hx5 hb45 xr xd HXX
      go_wp2_with fail
      refine wp_region_still_tail 5 hmx (by kernel_rfl) ?_
      simp only [List.take_succ_cons, List.take_zero, List.drop_succ_cons, List.drop_zero]
      repeat (first | still_step)
      refine wpStill_nil ?_
      go_wp2_with fail
      refine Calls.mono (unhide HO _ ((Below.refl _ W5).drew)) ?_
      rintro e w6 ⟨rfl, b6⟩
      have HB6 := hide b6
      clear b6 x0 x1 x2 u0 u1 u2 hcj
      go_wp2_with fail
      go_roundw
      case rel =>
        obtain ⟨h1, h2⟩ := unhide HK2
        exact ⟨j + 1, by go_num, h1, h2.trans (((unhide HB45).trans (((Below.refl _ W5).drew.trans (unhide HB6)).mono (unhide HB45).size)).mono h2.size)⟩
      case measure => (have := (unhide HK2).1; simp [intOf]; omega)
    · have hge : ¬ ((j : Int) < ((obs a.1 1).length : Int)) := by omega
      have HBW := hide ((unhide HB3).trans (hb.mono (unhide HB3).size))
      clear hj hlt hb
      go_wp2_with fail
      go_loopw [13] (fun iv wr' => ∃ m : Nat, iv = .int .i64 ((m : Int) - 1) ∧ m ≤ 18 ∧ Below wr.heap.size wr wr') (fun iv _ => 18 - (intOf iv + 1).toNat)
      case atStart => exact ⟨0, rfl, Nat.zero_le _, Below.refl _ _⟩
      case round =>
        obtain ⟨m, rfl, hm, hb⟩ := hrel
        have HRA := hide ((unhide HK _ ((unhide HBW).trans (hb.mono (unhide HBW).size))))
        by_cases hlt : m < 18
        · have hmI : (m : Int) - 1 < 17 := by omega
          have hmJ : ¬ 16 < (m : Int) - 1 := by omega
          have HK3 := hide (And.intro hlt hb)
          have hknw : IntKind.i64.wrap ((m : Int) - 1 + 1) = ((m + 1 : Nat) : Int) - 1 := by rw [IntKind.wrap_i64]; omega
          have HR1 := hide (aroot_ar ((m : Int) - 1) (unhide HRA).1)
          have HR2 := hide (rroot16_any _ gr _ n a.1 a.2 ((m : Int) - 1) (unhide HRA).2)
          generalize rootP a.2 ((m : Int) - 1) = q at *
          clear hlt hm hb
          go_wp2_with fail
          refine Calls.mono (unhide HR1) ?_
          rintro e w7 ⟨rfl, rfl⟩
          go_wp2_with fail
          refine Calls.mono (unhide HR2) ?_
          rintro e w8 ⟨rfl, rfl⟩
          go_wp2_with fail
          go_roundw
          case rel => exact ⟨m + 1, by go_num, (unhide HK3).1, (unhide HK3).2⟩
          case measure => (have := (unhide HK3).1; simp [intOf]; omega)
        · have hmI : 16 < (m : Int) - 1 := by omega
          have HB9 := hide ((unhide HBW).trans (hb.mono (unhide HBW).size))
          clear hlt hm hb
          go_wp2_with fail
          go_ret
          exact ⟨rfl, unhide HB9⟩
end Go.Proofs.YtlbhhdldeaehkaaGreat

/- What a script makes of an arena, as plain data. -/
namespace Go.Proofs.YtlbhhdldeaehkaaGreat
open Go.RowKit

/-- One call. -/
def StepTo (n : Nat) (x : OpA) (a b : List Int × List Int) : Prop :=
  if x.kind = 1 ∨ x.kind = 5 then b = a
  else if x.kind = 2 then b = ((setP a.1 x.at' x.i x.v).2, a.2)
  else if x.kind = 3 then b = (a.1, (setRP a.1 a.2 x.slot x.at').2)
  else if x.kind = 4 then ∃ l, LiveIs a.1 a.2 l ∧ b = (cW a.1 l, cR a.1 l a.2)
  else b = ((makeP n a.1 (x.k2, x.ps, x.ds)).2, a.2)
theorem StepTo.unique {n : Nat} {x : OpA} {a b c : List Int × List Int} (h : StepTo n x a b) (h2 : StepTo n x a c) : b = c := by
  unfold StepTo at h h2
  split at h
  · rename_i h1; rw [if_pos h1] at h2; rw [h, h2]
  · rename_i h1
    rw [if_neg h1] at h2
    split at h
    · rename_i h3; rw [if_pos h3] at h2; rw [h, h2]
    · rename_i h3
      rw [if_neg h3] at h2
      split at h
      · rename_i h4; rw [if_pos h4] at h2; rw [h, h2]
      · rename_i h4
        rw [if_neg h4] at h2
        split at h
        · rename_i h5
          rw [if_pos h5] at h2
          obtain ⟨l, hl, rfl⟩ := h
          obtain ⟨m, hm, rfl⟩ := h2
          rw [hl.unique hm]
        · rename_i h5; rw [if_neg h5] at h2; rw [h, h2]
def RanTo (n : Nat) : List OpA → List Int × List Int → List Int × List Int → Prop
  | [], a, b => b = a
  | x :: L, a, b => ∃ c, StepTo n x a c ∧ RanTo n L c b
theorem RanTo.unique {n : Nat} : ∀ {L : List OpA} {a b c : List Int × List Int}, RanTo n L a b → RanTo n L a c → b = c
  | [], _, _, _, h, h2 => by have e1 : _ = _ := h; have e2 : _ = _ := h2; rw [e1, e2]
  | x :: L, _, _, _, ⟨c, h1, h2⟩, ⟨d, k1, k2⟩ => by
    obtain rfl := h1.unique k1
    exact h2.unique k2
theorem RanTo.snoc {n : Nat} : ∀ {L : List OpA} {x : OpA} {a b c : List Int × List Int}, RanTo n L a b → StepTo n x b c → RanTo n (L ++ [x]) a c
  | [], _, _, _, c, h, h2 => by have e1 : _ = _ := h; subst e1; exact ⟨c, h2, rfl⟩
  | _ :: L, _, _, _, _, ⟨d, h1, h2⟩, h3 => ⟨d, h1, RanTo.snoc h2 h3⟩
/-- The arena that is new. -/
def arNew : List Int × List Int := ([0], List.replicate 16 0)
end Go.Proofs.YtlbhhdldeaehkaaGreat
