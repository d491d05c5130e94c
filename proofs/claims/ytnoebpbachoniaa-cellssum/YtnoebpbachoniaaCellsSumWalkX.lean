/- The walk of the statement 'CellsSum'. -/
import Derived.Test.YtnoebpbachoniaaG9
import Derived.Test.YtnoebpbachoniaaG13
import Derived.Test.YtnoebpbachoniaaG14
namespace Go.Proofs.Ytnoebpbachoniaa
open Go.RowKit

theorem Uw_len (ws : List Int) : (Uw ws).length = ws.length := List.length_map _
theorem Iw_len (ws : List Int) : (Iw ws).length = ws.length := List.length_map _
theorem u32_of {ws : List Int} (h : ∀ x ∈ ws, (Lit.int .u32 x).wf = true) : U32 ws := fun x hx => by
  have := bounds_u32 (h x hx)
  omega
theorem plV_get {Z : List (Nat × Int)} {k : Nat} (h : k < Z.length) : (plV Z)[k]? = some (.int .i64 ((Z[k].1 : Nat) : Int)) := by
  simp [plV, h]
/-- Where the first k objects end is where the next one begins. -/
theorem obs_at {ws : List Int} {k : Nat} (h : k < (obs ws 1).length) : (obs ws 1)[k].1 = endO ((obs ws 1).take k) ∧ (obs ws 1)[k].2 = wd ws (obs ws 1)[k].1 ∧ okH ws (obs ws 1)[k].1 ∧ endO ((obs ws 1).take (k + 1)) = (obs ws 1)[k].1 + szN (obs ws 1)[k].2 := by
  have hs : obs ws 1 = (obs ws 1).take k ++ (obs ws 1)[k] :: (obs ws 1).drop (k + 1) := by
    rw [← List.drop_eq_getElem_cons h, List.take_append_drop]
  obtain ⟨a, b, c, _⟩ := obs_next hs
  refine ⟨a, b, c, ?_⟩
  rw [List.take_succ_eq_append_getElem h, endO_snoc]

set_option maxRecDepth 20000 in
set_option maxHeartbeats 2000000 in
theorem cellssum_any (s t : Value) (ws rs : List Int) (w : World) (hs : VRow w s (Uw ws)) (ht : VRow w t (Iw rs)) (hU : U32 ws) (hl : ws.length < 70368744177664) (hr : rs.length < 35184372088832) :
    Calls Try.prog 6 #[s, t] w fun e w' => e = .returned (.bool true) ∧ Below w.heap.size w w' := by
  have HAW := hide cawake_any
  have HCK := hide (fun w' (hb : Below w.heap.size w w') => ccheck_any s t ws rs w' (hs.below hb) (ht.below hb) hU hl hr)
  have HS := hide hs
  have HU := hide hU
  obtain ⟨a, cap, rfl, g1, g2, g3⟩ := hs.shape
  obtain ⟨a', cap', rfl, k1, k2, k3⟩ := ht.shape
  rw [Uw_len, Iw_len] at HCK ⊢
  rw [Uw_len] at HS
  obtain ⟨E, hE⟩ : ∃ E, E = chkE (rightB ws rs) := ⟨_, rfl⟩
  rw [← hE] at HCK
  have HE := hide hE
  clear hE g1 g2 g3 k1 k2 k3 hs ht hU hl hr
  go_enter Try.func6, Try.ntmps6
  go_wp2_with fail
  refine Calls.mono (unhide HAW w) ?_
  rintro e w1 ⟨rfl, b1⟩
  have HB1 := hide b1
  clear b1
  go_wp2_with fail
  refine Calls.mono (unhide HCK w1 (unhide HB1)) ?_
  rintro e w2 ⟨rfl, b2⟩
  have HB2 := hide ((unhide HB1).trans (b2.mono (unhide HB1).size))
  clear b2 HB1 HCK
  cases hrb : rightB ws rs with
  | false =>
    obtain rfl : E = 11 := by rw [unhide HE, hrb]; rfl
    clear hrb HE
    go_wp2_with fail
    refine Calls.mono (unhide HAW w2) ?_
    rintro e w3 ⟨rfl, b3⟩
    have HB3 := hide ((unhide HB2).trans (b3.mono (unhide HB2).size))
    clear b3
    go_wp2_with fail
    go_ret
    exact ⟨rfl, unhide HB3⟩
  | true =>
    obtain rfl : E = 0 := by rw [unhide HE, hrb]; rfl
    simp only [rightB, heapB, Bool.and_eq_true, decide_eq_true_eq] at hrb
    obtain ⟨⟨⟨⟨h1, h2⟩, h3⟩, h4⟩, ⟨h5, h6⟩, h7⟩ := hrb
    clear h3 h4 h6 h7
    have HTO := hide (told_any _ ws ws.length w2 ((unhide HS).below (unhide HB2)) (unhide HU) h2 (by omega))
    rw [List.take_of_length_le (obs_len ws)] at HTO
    have HL := hide h2
    have HEN := hide h5
    have HZL := hide (obs_len ws)
    have q2 : (ws.length : Int) ≤ 1048576 := by omega
    clear HE h1 h2 h5
    go_wp2_with fail
    refine Calls.mono (unhide HTO) ?_
    rintro e w3 ⟨v, rfl, hv, b3⟩
    obtain ⟨p, c, rfl, j1, j2, j3⟩ := hv.shape
    have HV := hide hv
    have HB3 := hide ((unhide HB2).trans (b3.mono (unhide HB2).size))
    have HS3 := hide ((unhide HS).below ((unhide HB2).trans (b3.mono (unhide HB2).size)))
    have hpl : (plV (obs ws 1)).length = (obs ws 1).length := by simp [plV]
    rw [hpl] at *
    obtain ⟨Z, hZ⟩ : ∃ Z, Z = obs ws 1 := ⟨_, rfl⟩
    rw [← hZ] at HV HEN HZL ⊢
    have HAT := hide (show ∀ k (h : k < Z.length), Z[k].1 = endO (Z.take k) ∧ Z[k].2 = wd ws Z[k].1 ∧ okH ws Z[k].1 ∧ endO (Z.take (k + 1)) = Z[k].1 + szN Z[k].2 by
      rw [hZ]; exact fun k h => obs_at h)
    have HZ := hide hZ
    clear hv b3 j1 j2 j3 hpl hZ
    go_wp2_with fail
    go_loopw [7, 8] (fun s i wr => ∃ k : Nat, k ≤ Z.length ∧ i = .int .i64 (k : Int) ∧ s = .int .i64 ((endO (Z.take k) : Nat) : Int) ∧ Below w3.heap.size w3 wr) (fun _ i _ => Z.length - (intOf i).toNat)
    case atStart => exact ⟨0, Nat.zero_le _, rfl, rfl, Below.refl _ _⟩
    case round =>
      obtain ⟨k, hk, rfl, rfl, hbr⟩ := hrel
      by_cases hlt : k < Z.length
      · have hkI : (k : Int) < (Z.length : Int) := by omega
        obtain ⟨n1, n2, n3, n4⟩ := unhide HAT k hlt
        obtain ⟨b, off, cz, e0, g1, g2, hcl⟩ := ((unhide HV).below hbr).open (by intro e; have := congrArg List.length e; simp [plV] at this; rw [this] at hlt; simp at hlt)
        simp only [Value.slice.injEq] at e0
        obtain ⟨rfl, g3, rfl⟩ := e0
        have hc := hcl k _ (plV_get hlt)
        have hpl : Z[k].1 < ws.length := n3.1
        obtain ⟨b', off', cz', e0', g1', g2', hcl'⟩ := ((unhide HS3).below hbr).open (by intro e; have := congrArg List.length e; simp at this; rw [this] at hpl; simp at hpl)
        simp only [Value.slice.injEq] at e0'
        obtain ⟨rfl, g3', rfl⟩ := e0'
        have hcw := hcl' Z[k].1 _ (by rw [List.getElem?_map, wd_get hpl]; rfl)
        obtain ⟨u0, u1⟩ := (unhide HU).wd Z[k].1
        rw [← n2] at hcw u0 u1
        obtain ⟨o1, o2, o3⟩ := n3
        rw [← n2] at o2 o3
        have hs1 := szN_int u0
        rw [← n1]
        have HN := hide (show ((endO (Z.take (k + 1)) : Nat) : Int) = (Z[k].1 : Int) + Z[k].2 / 4096 by rw [n4, ← hs1]; simp)
        generalize Z[k] = x at *
        obtain ⟨p, h⟩ := x
        dsimp only at *
        have hpI : (p : Int) < (ws.length : Int) := by omega
        have hw2 : IntKind.i64.wrap ((p : Int) + h / 4096) = (p : Int) + h / 4096 := by have := unhide HL; rw [IntKind.wrap_i64]; omega
        have hw3 : IntKind.i64.wrap ((k : Int) + 1) = (k : Int) + 1 := by have := unhide HL; have := unhide HZL; rw [IntKind.wrap_i64]; omega
        have HLT := hide hlt
        have HBR := hide hbr
        have HSZ := hide (fun w => csize_t h w u0 u1)
        clear g1 g2 g3 g1' g2' g3' hcl hcl' n1 n2 n4 o1 o2 o3 hs1 hk hlt hbr hpl
        go_wp2_with fail
        refine Calls.mono (unhide HSZ wr) ?_
        rintro e w5 ⟨rfl, rfl⟩
        go_wp2_with fail
        go_roundw
        case rel => exact ⟨k + 1, unhide HLT, by go_num, by rw [unhide HN], unhide HBR⟩
        case measure => (have := unhide HLT; simp [intOf]; omega)
      · have hke : k = Z.length := by omega
        subst hke
        rw [List.take_length, unhide HEN]
        have HBR := hide hbr
        clear hk hlt hbr
        go_wp2_with fail
        go_ret
        exact ⟨rfl, (unhide HB3).trans ((unhide HBR).mono (unhide HB3).size)⟩

theorem walk_CellsSum (s0 : Value) (d0 : Dt) (s1 : Value) (d1 : Dt) (w : World) (h0 : Reads limSaid w (.row 4 (.int .u32)) [s0] d0) (h1 : Reads limSaid w (.row 8 (.int .i64)) [s1] d1) :
    Calls Try.prog 6 #[s0, s1] w fun e w' => e = .returned (.bool true) ∧ Below w.heap.size w w' := by
  obtain ⟨ws, r0, l0, u0⟩ := nums_of_reads h0
  obtain ⟨rs, r1, l1, u1⟩ := nums_of_reads h1
  unfold limSaid reachBytes at l0 l1
  exact cellssum_any s0 s1 ws rs w r0 r1 (u32_of u0) (by omega) (by omega)
end Go.Proofs.Ytnoebpbachoniaa
