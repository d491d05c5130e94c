/- The walk of the statement 'MarkLeads'. -/
import Derived.Test.YtgnfgeebcphglaaG20
namespace Go.Proofs.Ytgnfgeebcphglaa
open Go.RowKit

/-- In the loop: did one of the first roots lead there? -/
def ledB (ws : List Int) (rs : List Int) (a : Int) : Prop := ∃ r ∈ rs, reaE ws r a = 0 ∧ Rch ws [r] a
theorem reaE_zero {ws : List Int} {a b : Int} (h : reaE ws a b = 0) : rightB ws [] = true ∧ isOb ws a ∧ isOb ws b := by
  unfold reaE at h
  split at h
  · rename_i h1
    split at h
    · rename_i h2
      unfold okR at h2
      simp only [Bool.and_eq_true, decide_eq_true_eq] at h2
      exact ⟨h1, h2.1, h2.2⟩
    · simp at h
  · simp at h
theorem reaE_of {ws : List Int} {a b : Int} (h : rightB ws [] = true) (ha : isOb ws a) (hb : isOb ws b) : reaE ws a b = 0 := by
  unfold reaE okR
  rw [if_pos h, decide_eq_true ha, decide_eq_true hb]
  rfl
theorem ReaD.iff {ws : List Int} {a b : Int} {B : Bool} (h : ReaD ws a b B) (h0 : reaE ws a b = 0) : B = true ↔ Rch ws [a] b := by
  obtain ⟨h1, h2, h3⟩ := reaE_zero h0
  exact h.1 h1 (by unfold okR; rw [decide_eq_true h2, decide_eq_true h3]; rfl)
theorem led_all {ws rs : List Int} {a : Int} (hR : rightB ws rs = true) (ha : isOb ws a) : ledB ws rs a ↔ Rch ws rs a := by
  rw [rch_one]
  constructor
  · rintro ⟨r, hr, h0, h⟩
    exact ⟨r, hr, by have := (reaE_zero h0).2.1.1; omega, h⟩
  · rintro ⟨r, hr, h0, h⟩
    obtain ⟨h1, _, h2⟩ := right_iff'.1 hR
    exact ⟨r, hr, reaE_of h1 ((isPl_iff.1 (h2 r hr)).resolve_left h0) ha, h⟩
theorem led_snoc {ws rs : List Int} {a r : Int} : ledB ws (rs ++ [r]) a ↔ ledB ws rs a ∨ (reaE ws r a = 0 ∧ Rch ws [r] a) := by
  constructor
  · rintro ⟨x, hx, h⟩
    rcases List.mem_append.1 hx with hx | hx
    · exact Or.inl ⟨x, hx, h⟩
    · rw [List.mem_singleton.1 hx] at h; exact Or.inr h
  · rintro (⟨x, hx, h⟩ | h)
    · exact ⟨x, List.mem_append_left _ hx, h⟩
    · exact ⟨r, List.mem_append_right _ (List.mem_singleton.2 rfl), h⟩

set_option maxRecDepth 20000 in
set_option maxHeartbeats 4000000 in
theorem markleads_any (s t : Value) (ws rs : List Int) (a b c : Int) (w : World) (hs : VRow w s (Uw ws)) (ht : VRow w t (Iw rs)) (hU : U32 ws) (hl : ws.length < 70368744177664) (hr : rs.length < 35184372088832) (ha : (Lit.int .i64 a).wf = true) (hb : (Lit.int .i64 b).wf = true) (hc : (Lit.int .i64 c).wf = true) :
    Calls Try.prog 6 #[s, t, .int .i64 a, .int .i64 b, .int .i64 c] w fun e w' => e = .returned (.bool true) ∧ Below w.heap.size w w' := by
  have HT := hide ht
  have HRL := hide hr
  have HM := hide (fun W (hw : Below w.heap.size w W) x y (hy : (Lit.int .i64 y).wf = true) => mreaches_any s ws x y W (hs.below hw) hU hl hy)
  have HL := hide (fun W (hw : Below w.heap.size w W) => mlive_any s t ws rs W (hs.below hw) (ht.below hw) hU hl hr)
  have HA := hide ha
  have HB := hide hb
  have HC := hide hc
  obtain ⟨E1, hE1⟩ : ∃ E, E = reaE ws a b := ⟨_, rfl⟩
  obtain ⟨E2, hE2⟩ : ∃ E, E = reaE ws b c := ⟨_, rfl⟩
  obtain ⟨E3, hE3⟩ : ∃ E, E = reaE ws a c := ⟨_, rfl⟩
  obtain ⟨E4, hE4⟩ : ∃ E, E = reaE ws a a := ⟨_, rfl⟩
  have HE := hide (And.intro hE1 (And.intro hE2 (And.intro hE3 hE4)))
  have HC1 := hide (unhide HM w (Below.refl _ _) a b (unhide HB))
  rw [← hE1] at HC1
  obtain ⟨a', cap', rfl, k1, k2, k3⟩ := ht.shape
  have hlr : (Iw rs).length = rs.length := by simp
  rw [hlr] at HT HL ⊢
  clear hs ht hU hl hr ha hb hc hE1 hE2 hE3 hE4 k1 k2 k3 hlr
  go_enter Try.func6, Try.ntmps6
  go_wp2_with fail
  refine Calls.mono (unhide HC1) ?_
  rintro e w1 ⟨B1, rfl, hB1, b1⟩
  have HB1 := hide b1
  have HD1 := hide hB1
  have HC2 := hide (unhide HM w1 b1 b c (unhide HC))
  rw [← (unhide HE).2.1] at HC2
  clear b1 hB1
  go_wp2_with fail
  refine Calls.mono (unhide HC2) ?_
  rintro e w2 ⟨B2, rfl, hB2, b2⟩
  have HB2 := hide ((unhide HB1).trans (b2.mono (unhide HB1).size))
  have HD2 := hide hB2
  have HC3 := hide (unhide HM w2 (unhide HB2) a c (unhide HC))
  rw [← (unhide HE).2.2.1] at HC3
  clear b2 hB2
  go_wp2_with fail
  refine Calls.mono (unhide HC3) ?_
  rintro e w3 ⟨B3, rfl, hB3, b3⟩
  have HB3 := hide ((unhide HB2).trans (b3.mono (unhide HB2).size))
  have HD3 := hide hB3
  have HC4 := hide (unhide HM w3 (unhide HB3) a a (unhide HA))
  rw [← (unhide HE).2.2.2] at HC4
  clear b3 hB3
  go_wp2_with fail
  refine Calls.mono (unhide HC4) ?_
  rintro e w4 ⟨B4, rfl, hB4, b4⟩
  have HB4 := hide ((unhide HB3).trans (b4.mono (unhide HB3).size))
  have HD4 := hide hB4
  clear b4 hB4
  go_wp2_with fail
  refine Calls.mono (mawake_any w4) ?_
  rintro e w5 ⟨rfl, b5⟩
  have HB5 := hide ((unhide HB4).trans (b5.mono (unhide HB4).size))
  have HL5 := hide (unhide HL w5 (unhide HB5))
  clear b5
  have key : (E1 ≠ 0) ∨ (E1 = 0 ∧ E2 ≠ 0) ∨ (E1 = 0 ∧ E2 = 0 ∧ E3 ≠ 0) ∨ (E1 = 0 ∧ E2 = 0 ∧ E3 = 0 ∧ B1 = false) ∨ (E1 = 0 ∧ E2 = 0 ∧ E3 = 0 ∧ B1 = true ∧ B2 = false) ∨ (E1 = 0 ∧ E2 = 0 ∧ E3 = 0 ∧ B1 = true ∧ B2 = true ∧ B3 = true) := by
    by_cases h1 : E1 = 0
    · by_cases h2 : E2 = 0
      · by_cases h3 : E3 = 0
        · cases h4 : B1 with
          | false => exact Or.inr (Or.inr (Or.inr (Or.inl ⟨h1, h2, h3, rfl⟩)))
          | true =>
            cases h5 : B2 with
            | false => exact Or.inr (Or.inr (Or.inr (Or.inr (Or.inl ⟨h1, h2, h3, rfl, rfl⟩))))
            | true =>
              have r1 := ((unhide HD1).iff ((unhide HE).1.symm.trans h1)).1 h4
              have r2 := ((unhide HD2).iff ((unhide HE).2.1.symm.trans h2)).1 h5
              have r3 := ((unhide HD3).iff ((unhide HE).2.2.1.symm.trans h3)).2 (rch_trans r1 r2)
              exact Or.inr (Or.inr (Or.inr (Or.inr (Or.inr ⟨h1, h2, h3, rfl, rfl, r3⟩))))
        · exact Or.inr (Or.inr (Or.inl ⟨h1, h2, h3⟩))
      · exact Or.inr (Or.inl ⟨h1, h2⟩)
    · exact Or.inl h1
  have key4 : E4 ≠ 0 ∨ (E4 = 0 ∧ B4 = true ∧ isOb ws a) := by
    by_cases h4 : E4 = 0
    · have h5 := (unhide HE).2.2.2.symm.trans h4
      have h6 := (reaE_zero h5).2.1
      exact Or.inr ⟨h4, ((unhide HD4).iff h5).2 (.root (by simp) (by have := h6.1; omega)), h6⟩
    · exact Or.inl h4
  have HK := hide key
  clear HC1 HC2 HC3 HC4 HB1 HB2 HB3 HB4 HD1 HD2 HD3 HD4 HB HC HL key HE
  rcases key4 with h4 | ⟨h4, h5, h6⟩
  · have e4 : (E4 == 0) = false := beq_eq_false_iff_ne.2 h4
    have e5 : (E4 != 0) = true := by simp [h4]
    clear h4
    rcases unhide HK with h | ⟨rfl, h⟩ | ⟨rfl, rfl, h⟩ | ⟨rfl, rfl, rfl, rfl⟩ | ⟨rfl, rfl, rfl, rfl, rfl⟩ | ⟨rfl, rfl, rfl, rfl, rfl, rfl⟩
    all_goals
      try have e0 := beq_eq_false_iff_ne.2 h
      try clear h
      clear HK
      go_wp2_with fail
      refine Calls.mono (unhide HL5) ?_
      rintro e w6 ⟨v, l, rfl, hli, hrow, b6⟩
      have HB6 := hide ((unhide HB5).trans (b6.mono (unhide HB5).size))
      obtain ⟨pv, cv, rfl⟩ := ownsV_shape hrow
      clear hli hrow b6
      cases hR : rightB ws rs with
      | false =>
        rw [show chkE false = 11 from rfl]
        clear HM hR
        go_wp2_with fail
        go_ret
        exact ⟨rfl, unhide HB6⟩
      | true =>
        rw [show chkE true = 0 from rfl]
        go_wp2_with fail
        go_ret
        exact ⟨rfl, unhide HB6⟩
  · subst h4 h5
    have H6 := hide h6
    clear h6
    rcases unhide HK with h | ⟨rfl, h⟩ | ⟨rfl, rfl, h⟩ | ⟨rfl, rfl, rfl, rfl⟩ | ⟨rfl, rfl, rfl, rfl, rfl⟩ | ⟨rfl, rfl, rfl, rfl, rfl, rfl⟩
    all_goals
      try have e0 := beq_eq_false_iff_ne.2 h
      try clear h
      clear HK
      go_wp2_with fail
      refine Calls.mono (unhide HL5) ?_
      rintro e w6 ⟨v, l, rfl, hli, hrow, b6⟩
      have HB6 := hide ((unhide HB5).trans (b6.mono (unhide HB5).size))
      obtain ⟨pv, cv, rfl⟩ := ownsV_shape hrow
      cases hR : rightB ws rs with
      | false =>
        rw [show chkE false = 11 from rfl]
        clear hli hrow b6 hR
        go_wp2_with fail
        go_ret
        exact ⟨rfl, unhide HB6⟩
      | true =>
        rw [show chkE true = 0 from rfl]
        have HV := hide (vrow_of_owns (vs := Iw l) (s := .slice pv l.length cv) (by simpa using hrow))
        have HLI := hide (hli.1 hR)
        have HR := hide hR
        have HLL := hide (show l.length < 35184372088832 by
          obtain ⟨r1, r2, r3, r4, r5⟩ := right_parts hR
          have := obs_count ws l ((hli.1 hR).1.imp fun {a b} h => by omega) (fun x hx => rch_ob r5 (((hli.1 hR).2 x).1 hx))
          omega)
        clear hli hrow b6 hR
        go_wp2_with fail
        go_loopw [21, 22] (fun lv iv wr => ∃ (k : Nat) (L : Bool), lv = .bool L ∧ iv = .int .i64 (k : Int) ∧ k ≤ rs.length ∧ Hid (L = true ↔ ledB ws (rs.take k) a) ∧ Hid (Below w6.heap.size w6 wr)) (fun _ iv _ => rs.length - (intOf iv).toNat)
        case atStart =>
          refine ⟨0, false, rfl, rfl, Nat.zero_le _, ⟨fun h => (by cases h), fun h => ?_⟩, Below.refl _ _⟩
          obtain ⟨r, hr, _⟩ := h
          simp at hr
        case round =>
          obtain ⟨k, L, rfl, rfl, hk, hI, hbr⟩ := hrel
          have hkw : IntKind.i64.wrap ((k : Int) + 1) = (k : Int) + 1 := by have := unhide HRL; rw [IntKind.wrap_i64]; omega
          by_cases hlt : k < rs.length
          · have hkI : (k : Int) < (rs.length : Int) := by omega
            obtain ⟨bt, ot, ct, e9, _, _, htl⟩ := (unhide HT).open (by intro e; have := congrArg List.length e; simp at this; rw [this] at hlt; simp at hlt)
            simp only [Value.slice.injEq, List.length_map] at e9
            obtain ⟨rfl, e8, rfl⟩ := e9
            have ht0 := htl k (.int .i64 rs[k]) (by rw [List.getElem?_map, List.getElem?_eq_getElem hlt]; rfl)
            have hwr := (unhide HB6).trans ((unhide hbr).mono (unhide HB6).size)
            have htk := (hwr.cell (World.block_lt_of_cell? w _ ht0)).trans ht0
            have hsn := List.take_succ_eq_append_getElem hlt
            have HMR := hide (unhide HM wr hwr rs[k] a (unhide HA))
            have HLT := hide hlt
            have HBR := hide (unhide hbr)
            generalize rs[k] = x at *
            obtain ⟨E, hE⟩ : ∃ E, E = reaE ws x a := ⟨_, rfl⟩
            rw [← hE] at HMR
            have HX := hide hE
            have HSN := hide hsn
            have HI := hide (unhide hI)
            have HWS := hide hwr.size
            clear hsn hE htl ht0 hwr e8 hlt hk hI hbr
            go_wp2_with fail
            refine Calls.mono (unhide HMR) ?_
            rintro e w8 ⟨B, rfl, hB, b8⟩
            have HB8 := hide ((unhide HBR).trans (b8.mono (unhide HBR).size))
            have HBD := hide hB
            clear hB b8
            cases L with
            | true =>
              have HF := hide (show (true = true ↔ ledB ws (rs.take (k + 1)) a) by
                rw [unhide HSN, led_snoc, ← unhide HI]; simp)
              go_wp2_with fail
              go_roundw
              case rel => exact ⟨k + 1, true, rfl, by go_num, unhide HLT, hide (by simpa using unhide HF), unhide HB8⟩
              case measure => (have := unhide HLT; simp [intOf]; omega)
            | false =>
              by_cases hE : E = 0
              · have HF := hide (show (B = true ↔ ledB ws (rs.take (k + 1)) a) by
                  have h1 := (unhide HX).symm.trans hE
                  rw [unhide HSN, led_snoc, ← unhide HI, (unhide HBD).iff h1]
                  simp [h1])
                subst hE
                go_wp2_with fail
                go_roundw
                case rel => exact ⟨k + 1, B, rfl, by go_num, unhide HLT, unhide HF, unhide HB8⟩
                case measure => (have := unhide HLT; simp [intOf]; omega)
              · have HF := hide (show (false = true ↔ ledB ws (rs.take (k + 1)) a) by
                  have h1 : ¬ reaE ws x a = 0 := fun h => hE ((unhide HX).trans h)
                  rw [unhide HSN, led_snoc, ← unhide HI]
                  simp [h1])
                have hE1 : (E == 0) = false := beq_eq_false_iff_ne.2 hE
                clear hE
                go_wp2_with fail
                go_roundw
                case rel => exact ⟨k + 1, false, rfl, by go_num, unhide HLT, unhide HF, unhide HB8⟩
                case measure => (have := unhide HLT; simp [intOf]; omega)
          · have hke : k = rs.length := by omega
            subst hke
            rw [List.take_length] at hI
            have hge : ¬ (rs.length : Int) < (rs.length : Int) := by omega
            have HHA := hide (lhas_any (.slice pv l.length cv) l a wr ((unhide HV).below (unhide hbr)) (unhide HLL))
            have HI := hide (show (L = true ↔ a ∈ l) from (unhide hI).trans ((led_all (unhide HR) (unhide H6)).trans ((unhide HLI).2 a).symm))
            have HBR := hide ((unhide HB6).trans ((unhide hbr).mono (unhide HB6).size))
            clear hI hbr hlt hk hkw
            go_wp2_with fail
            refine Calls.mono (unhide HHA) ?_
            rintro e w8 ⟨⟨B, rfl, hB⟩, rfl⟩
            have hLB : (L == B) = true := by
              have h := (unhide HI).trans hB.symm
              cases L <;> cases B <;> simp_all
            clear hB
            go_wp2_with fail
            go_ret
            exact ⟨rfl, unhide HBR⟩

theorem walk_MarkLeads (s0 : Value) (d0 : Dt) (s1 : Value) (d1 : Dt) (a2 : Int) (w2 : (Lit.int .i64 a2).wf = true) (a3 : Int) (w3 : (Lit.int .i64 a3).wf = true) (a4 : Int) (w4 : (Lit.int .i64 a4).wf = true) (w : World) (h0 : Reads limSaid w (.row 4 (.int .u32)) [s0] d0) (h1 : Reads limSaid w (.row 8 (.int .i64)) [s1] d1) :
    Calls Try.prog 6 #[s0, s1, .int .i64 a2, .int .i64 a3, .int .i64 a4] w fun e w' => e = .returned (.bool true) ∧ Below w.heap.size w w' := by
  obtain ⟨ws, r0, l0, u0⟩ := nums_of_reads h0
  obtain ⟨rs, r1, l1, u1⟩ := nums_of_reads h1
  unfold limSaid reachBytes at l0 l1
  exact markleads_any s0 s1 ws rs a2 a3 a4 w r0 r1 (u32_of14 u0) (by omega) (by omega) w2 w3 w4
end Go.Proofs.Ytgnfgeebcphglaa
