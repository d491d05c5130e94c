/- Texts of ours, one behind the other: MarkRootsWalk. -/
import Derived.Test.YtgnfgeebcphglaaG20
/- The walk of the statement 'MarkRoots'. -/
namespace Go.Proofs.Ytgnfgeebcphglaa
open Go.RowKit

theorem right_app {ws a b : List Int} (h : a.length + b.length ≤ 16) : rightB ws (a ++ b) = (rightB ws a && rightB ws b) := by
  have h1 : rightB ws (a ++ b) = true ↔ rightB ws a = true ∧ rightB ws b = true := by
    rw [right_iff' (rs := a ++ b), right_iff' (rs := a), right_iff' (rs := b)]
    constructor
    · rintro ⟨h1, h2, h3⟩
      exact ⟨⟨h1, by omega, fun r hr => h3 r (List.mem_append_left _ hr)⟩, h1, by omega, fun r hr => h3 r (List.mem_append_right _ hr)⟩
    · rintro ⟨⟨h1, h2, h3⟩, _, h5, h6⟩
      refine ⟨h1, by rw [List.length_append]; exact h, fun r hr => ?_⟩
      rcases List.mem_append.1 hr with hr | hr
      · exact h3 r hr
      · exact h6 r hr
  cases h2 : rightB ws (a ++ b) <;> cases h3 : rightB ws a <;> cases h4 : rightB ws b <;> simp_all

theorem live_len {ws rs l : List Int} (h : LivD ws rs l) : l.length < 35184372088832 := by
  cases hR : rightB ws rs with
  | false => rw [h.2 hR]; simp
  | true =>
    obtain ⟨r1, r2, r3, r4, r5⟩ := right_parts hR
    have := obs_count ws l ((h.1 hR).1.imp fun {a b} h => by omega) (fun x hx => rch_ob r5 (((h.1 hR).2 x).1 hx))
    omega

set_option maxRecDepth 20000 in
set_option maxHeartbeats 4000000 in
theorem markroots_any (s t u : Value) (ws qs bs : List Int) (w : World) (hs : VRow w s (Uw ws)) (ht : VRow w t (Iw qs)) (hu : VRow w u (Iw bs)) (hU : U32 ws) (hl : ws.length < 70368744177664) (ha : qs.length < 35184372088832) (hb : bs.length < 35184372088832) :
    Calls Try.prog 5 #[s, t, u] w fun e w' => e = .returned (.bool true) ∧ Below w.heap.size w w' := by
  obtain ⟨a', cap', rfl, k1, k2, k3⟩ := ht.shape
  obtain ⟨b', capb, rfl, j1, j2, j3⟩ := hu.shape
  have hla : (Iw qs).length = qs.length := by simp
  have hlb : (Iw bs).length = bs.length := by simp
  rw [hla] at ht ⊢
  rw [hlb] at hu ⊢
  have hsum : IntKind.i64.wrap ((qs.length : Int) + (bs.length : Int)) = (qs.length : Int) + (bs.length : Int) := by rw [IntKind.wrap_i64]; omega
  by_cases hm : qs.length + bs.length ≤ 16
  · have hmI : ¬ (16 : Int) < (qs.length : Int) + (bs.length : Int) := by omega
    have hmd : decide (16 < qs.length + bs.length) = false := decide_eq_false (by omega)
    obtain ⟨i0, hi, hz0, hz1, hz2⟩ := info_parts Try.infoI64
    have HT := hide ht
    have HUU := hide hu
    have HAA := hide (fun W (hw : Below w.heap.size w W) => mlive_any s _ ws qs W (hs.below hw) (ht.below hw) hU hl ha)
    have HBBB := hide (fun W (hw : Below w.heap.size w W) => mlive_any s _ ws bs W (hs.below hw) (hu.below hw) hU hl hb)
    have HAB := hide (fun W (hw : Below w.heap.size w W) v (hv : W.ownsRow w.heap.size 3 1 v (qs.length + bs.length) (Iw qs ++ Iw bs)) => mlive_any s v ws (qs ++ bs) W (hs.below hw) (by
      have h1 : Iw (qs ++ bs) = Iw qs ++ Iw bs := by simp
      rw [h1]
      exact vrow_of_owns (by simpa using hv)) hU hl (by rw [List.length_append]; omega))
    rw [right_app hm] at HAB
    have HMM := hide hm
    have HON := hide (show ∀ u ∈ Iw qs, u.oneCell' = true from fun u hu => by obtain ⟨x, _, rfl⟩ := List.mem_map.1 hu; rfl)
    have HON2 := hide (show ∀ u ∈ Iw bs, u.oneCell' = true from fun u hu => by obtain ⟨x, _, rfl⟩ := List.mem_map.1 hu; rfl)
    clear hs ht hu hU hl ha hb k1 k2 k3 j1 j2 j3 hla hlb hm
    go_enter Try.func5, Try.ntmps5
    go_wp2_with fail
    refine Calls.mono (mawake_any w) ?_
    rintro e w1 ⟨rfl, b1⟩
    have HB1 := hide b1
    have HA1 := hide (unhide HAA w1 b1)
    clear b1 HAA
    go_wp2_with fail
    refine Calls.mono (unhide HA1) ?_
    rintro e w2 ⟨v, X, rfl, hlx, hrow, b2⟩
    have HB2 := hide ((unhide HB1).trans (b2.mono (unhide HB1).size))
    obtain ⟨px, cx, rfl⟩ := ownsV_shape hrow
    have HVX := hide (vrow_of_owns (vs := Iw X) (s := .slice px X.length cx) (by simpa using hrow))
    have HLX := hide hlx
    have HA2 := hide (unhide HBBB w2 (unhide HB2))
    clear hlx hrow b2 HA1 HBBB HB1
    go_wp2_with fail
    refine Calls.mono (unhide HA2) ?_
    rintro e w3 ⟨v, Y, rfl, hly, hrow, b3⟩
    have HB3 := hide ((unhide HB2).trans (b3.mono (unhide HB2).size))
    obtain ⟨py, cy, rfl⟩ := ownsV_shape hrow
    have HVY := hide (And.intro ((unhide HVX).below b3) (vrow_of_owns (vs := Iw Y) (s := .slice py Y.length cy) (by simpa using hrow)))
    have HLY := hide hly
    have HT3 := hide ((unhide HT).below (unhide HB3))
    clear hly hrow b3 HA2 HVX HB2
    go_wp2_with (first
      | (at_builtin; refine wpList_append_vrow rfl _ _ 23 rfl w.heap.size 3 i0 (.int .i64 0) Try.underlying23 hi hz0 8 hz1 hz2 rfl (.slice none 0 0) 0 [] rfl (World.ownsRow_nil _ _ _ _) a' qs.length cap' (Iw qs) rfl (unhide HT3) (unhide HON) (by have := unhide HMM; unfold maxLen; omega) (by have := unhide HMM; omega) (unhide HB3).size ?_))
    intro v4 w4 hown4 hgrow4 hob4
    have hb34 := (unhide HB3).grown hgrow4 (unhide HB3).size (fun k e => by simp [Value.ownBlock] at e)
    have hb4' := (Below.refl w3.heap.size w3).grown hgrow4 (Nat.le_refl _) (fun k e => by simp [Value.ownBlock] at e)
    obtain ⟨p4, c4, rfl⟩ := ownsV_shape hown4
    have HT4 := hide ((unhide HUU).below hb34)
    have HO4 := hide hown4
    have HB4 := hide hb34
    have HK4 := hide (show w3.heap.size ≤ w4.heap.size ∧ ∀ b, b < w3.heap.size → w4.heap[b]? = w3.heap[b]? ∧ (Value.slice p4 qs.length c4).ownBlock ≠ some b from ⟨hb4'.size, fun b hb => ⟨hb4'.block b hb, fun e => by
      rcases hob4 with h | h
      · rw [h] at e; simp [Value.ownBlock] at e
      · rw [h] at e; simp only [Option.some.injEq] at e; omega⟩⟩)
    clear hown4 hgrow4 hob4 hb34 hb4' HB3 HT3
    go_wp2_with (first
      | (at_builtin; refine wpList_append_vrow rfl _ _ 23 rfl w.heap.size 3 i0 (.int .i64 0) Try.underlying23 hi hz0 8 hz1 hz2 rfl (.slice p4 qs.length c4) qs.length (Iw qs) rfl (unhide HO4) b' bs.length capb (Iw bs) rfl (unhide HT4) (unhide HON2) (by have := unhide HMM; unfold maxLen; omega) (by have := unhide HMM; omega) (unhide HB4).size ?_))
    intro v5 w5 hown5 hgrow5 hob5
    have hb5 := (unhide HB4).grown hgrow5 (unhide HB4).size (fun k e => ((unhide HO4).lt k e).1)
    have hk5 : ∀ b, b < w3.heap.size → w5.heap[b]? = w3.heap[b]? := fun b hb => (hgrow5.block b (Nat.lt_of_lt_of_le hb (unhide HK4).1) (fun e => ((unhide HK4).2 b hb).2 e.symm)).trans ((unhide HK4).2 b hb).1
    have hvx5 : VRow w5 (.slice px X.length cx) (Iw X) ∧ VRow w5 (.slice py Y.length cy) (Iw Y) := ⟨(unhide HVY).1.stays fun b off c e hne hlt => hk5 b hlt, (unhide HVY).2.stays fun b off c e hne hlt => hk5 b hlt⟩
    obtain ⟨p5, c5, rfl⟩ := ownsV_shape hown5
    have HC5 := hide (unhide HAB w5 hb5 _ hown5)
    have HB5 := hide hb5
    have HVX5 := hide hvx5
    clear hown5 hgrow5 hob5 hb5 hvx5 hk5 HK4 HVY HB4 HT4 HO4 HAB
    go_wp2_with fail
    refine Calls.mono (unhide HC5) ?_
    rintro e w6 ⟨v, Z, rfl, hlz, hrow, b6⟩
    have HB6 := hide ((unhide HB5).trans (b6.mono (unhide HB5).size))
    obtain ⟨pz, cz, rfl⟩ := ownsV_shape hrow
    have HX := hide ((unhide HVX5).1.below b6)
    have HY := hide ((unhide HVX5).2.below b6)
    have HZ := hide (vrow_of_owns (vs := Iw Z) (s := .slice pz Z.length cz) (by simpa using hrow))
    have HLZ := hide hlz
    clear hlz hrow b6 HC5 HVX5 HB5
    cases hra : rightB ws qs with
    | false =>
      rw [show chkE false = 11 from rfl, show chkE (false && rightB ws bs) = 11 from rfl]
      generalize chkE (rightB ws bs) = E at *
      clear hra
      go_wp2_with fail
      go_ret
      exact ⟨rfl, unhide HB6⟩
    | true =>
      cases hrb : rightB ws bs with
      | false =>
        rw [show chkE true = 0 from rfl, show chkE (true && false) = 11 from rfl, show chkE false = 11 from rfl]
        clear hra hrb
        go_wp2_with fail
        go_ret
        exact ⟨rfl, unhide HB6⟩
      | true =>
        rw [show chkE (true && true) = 0 from rfl, show chkE true = 0 from rfl]
        have HNX := hide (live_len (unhide HLX))
        have HNY := hide (live_len (unhide HLY))
        have HNZ := hide (live_len (unhide HLZ))
        have hz := ((unhide HLZ).1 (by rw [right_app (unhide HMM), hra, hrb]; rfl)).2
        have hx := ((unhide HLX).1 hra).2
        have hy := ((unhide HLY).1 hrb).2
        have H1 := hide (show ∀ a, a ∈ Z → a ∉ X → a ∈ Y from fun a h1 h2 => by
          have h3 := rch_app.1 ((hz a).1 h1)
          rw [← hx a, ← hy a] at h3
          exact h3.resolve_left h2)
        have H2 := hide (show ∀ a, a ∈ X → a ∈ Z from fun a h => (hz a).2 (rch_app.2 (Or.inl ((hx a).1 h))))
        have H3 := hide (show ∀ a, a ∈ Y → a ∈ Z from fun a h => (hz a).2 (rch_app.2 (Or.inr ((hy a).1 h))))
        clear hra hrb hx hy hz HLX HLY HLZ
        go_wp2_with fail
        go_loopw [13] (fun iv wr => ∃ (k : Nat), iv = .int .i64 (k : Int) ∧ k ≤ Z.length ∧ wr = w6) (fun iv _ => Z.length - (intOf iv).toNat)
        case atStart => exact ⟨0, rfl, Nat.zero_le _, rfl⟩
        case round =>
          obtain ⟨k, rfl, hk, rfl⟩ := hrel
          have hkw : IntKind.i64.wrap ((k : Int) + 1) = (k : Int) + 1 := by have := unhide HNZ; rw [IntKind.wrap_i64]; omega
          by_cases hlt : k < Z.length
          · have hkI : (k : Int) < (Z.length : Int) := by omega
            obtain ⟨bt, ot, ct, e9, _, _, htl⟩ := (unhide HZ).open (by intro e; have := congrArg List.length e; simp at this; rw [this] at hlt; simp at hlt)
            simp only [Value.slice.injEq, List.length_map] at e9
            obtain ⟨rfl, e8, rfl⟩ := e9
            have ht0 := htl k (.int .i64 Z[k]) (by rw [List.getElem?_map, List.getElem?_eq_getElem hlt]; rfl)
            have HM := hide (List.getElem_mem hlt)
            have HLT := hide hlt
            generalize Z[k] = x at *
            clear htl e8 hlt hk
            go_wp2_with fail
            refine Calls.mono (lhas_any _ X x wr (unhide HX) (unhide HNX)) ?_
            rintro e w7 ⟨⟨B, rfl, hB⟩, rfl⟩
            cases B with
            | true =>
              clear hB
              go_wp2_with fail
              go_roundw
              case rel => exact ⟨k + 1, by go_num, unhide HLT, by first | rfl | trivial⟩
              case measure => (have := unhide HLT; simp [intOf]; omega)
            | false =>
              have HN := hide (show x ∈ Y from unhide H1 x (unhide HM) (fun h => by have := hB.2 h; cases this))
              clear hB
              go_wp2_with fail
              refine Calls.mono (lhas_any _ Y x w7 (unhide HY) (unhide HNY)) ?_
              rintro e w8 ⟨⟨B, rfl, hB⟩, rfl⟩
              have hBt : B = true := hB.2 (unhide HN)
              subst hBt
              clear hB
              go_wp2_with fail
              go_roundw
              case rel => exact ⟨k + 1, by go_num, unhide HLT, by first | rfl | trivial⟩
              case measure => (have := unhide HLT; simp [intOf]; omega)
          · have hke : k = Z.length := by omega
            subst hke
            have hge : ¬ (Z.length : Int) < (Z.length : Int) := by omega
            clear hlt hk hkw
            go_wp2_with fail
            go_loopw [14] (fun iv wq => ∃ (k : Nat), iv = .int .i64 (k : Int) ∧ k ≤ X.length ∧ wq = wr) (fun iv _ => X.length - (intOf iv).toNat)
            case atStart => exact ⟨0, rfl, Nat.zero_le _, rfl⟩
            case round =>
              rename_i wq
              obtain ⟨k, rfl, hk, rfl⟩ := hrel
              have hkw : IntKind.i64.wrap ((k : Int) + 1) = (k : Int) + 1 := by have := unhide HNX; rw [IntKind.wrap_i64]; omega
              by_cases hlt : k < X.length
              · have hkI : (k : Int) < (X.length : Int) := by omega
                obtain ⟨bt, ot, ct, e9, _, _, htl⟩ := (unhide HX).open (by intro e; have := congrArg List.length e; simp at this; rw [this] at hlt; simp at hlt)
                simp only [Value.slice.injEq, List.length_map] at e9
                obtain ⟨rfl, e8, rfl⟩ := e9
                have ht0 := htl k (.int .i64 X[k]) (by rw [List.getElem?_map, List.getElem?_eq_getElem hlt]; rfl)
                have HM := hide (unhide H2 _ (List.getElem_mem hlt))
                have HLT := hide hlt
                generalize X[k] = x at *
                clear htl e8 hlt hk
                go_wp2_with fail
                refine Calls.mono (lhas_any _ Z x _ (unhide HZ) (unhide HNZ)) ?_
                rintro e w7 ⟨⟨B, rfl, hB⟩, rfl⟩
                have hBt : B = true := hB.2 (unhide HM)
                subst hBt
                clear hB
                go_wp2_with fail
                go_roundw
                case rel => exact ⟨k + 1, by go_num, unhide HLT, by first | rfl | trivial⟩
                case measure => (have := unhide HLT; simp [intOf]; omega)
              · have hke : k = X.length := by omega
                subst hke
                have hge : ¬ (X.length : Int) < (X.length : Int) := by omega
                clear hlt hk hkw
                go_wp2_with fail
                go_loopw [15] (fun iv wp => ∃ (k : Nat), iv = .int .i64 (k : Int) ∧ k ≤ Y.length ∧ wp = wr) (fun iv _ => Y.length - (intOf iv).toNat)
                case atStart => exact ⟨0, rfl, Nat.zero_le _, by first | rfl | trivial⟩
                case round =>
                  rename_i wp
                  obtain ⟨k, rfl, hk, rfl⟩ := hrel
                  have hkw : IntKind.i64.wrap ((k : Int) + 1) = (k : Int) + 1 := by have := unhide HNY; rw [IntKind.wrap_i64]; omega
                  by_cases hlt : k < Y.length
                  · have hkI : (k : Int) < (Y.length : Int) := by omega
                    obtain ⟨bt, ot, ct, e9, _, _, htl⟩ := (unhide HY).open (by intro e; have := congrArg List.length e; simp at this; rw [this] at hlt; simp at hlt)
                    simp only [Value.slice.injEq, List.length_map] at e9
                    obtain ⟨rfl, e8, rfl⟩ := e9
                    have ht0 := htl k (.int .i64 Y[k]) (by rw [List.getElem?_map, List.getElem?_eq_getElem hlt]; rfl)
                    have HM := hide (unhide H3 _ (List.getElem_mem hlt))
                    have HLT := hide hlt
                    generalize Y[k] = x at *
                    clear htl e8 hlt hk
                    go_wp2_with fail
                    refine Calls.mono (lhas_any _ Z x _ (unhide HZ) (unhide HNZ)) ?_
                    rintro e w7 ⟨⟨B, rfl, hB⟩, rfl⟩
                    have hBt : B = true := hB.2 (unhide HM)
                    subst hBt
                    clear hB
                    go_wp2_with fail
                    go_roundw
                    case rel => exact ⟨k + 1, by go_num, unhide HLT, by first | rfl | trivial⟩
                    case measure => (have := unhide HLT; simp [intOf]; omega)
                  · have hke : k = Y.length := by omega
                    subst hke
                    have hge : ¬ (Y.length : Int) < (Y.length : Int) := by omega
                    clear hlt hk hkw
                    go_wp2_with fail
                    go_ret
                    exact ⟨rfl, unhide HB6⟩
  · have hmI : (16 : Int) < (qs.length : Int) + (bs.length : Int) := by omega
    have hmd : decide (16 < qs.length + bs.length) = true := decide_eq_true (by omega)
    clear hs ht hu hU hl ha hb k1 k2 k3 j1 j2 j3 hla hlb hm
    go_enter Try.func5, Try.ntmps5
    go_wp2_with fail
    refine Calls.mono (mawake_any w) ?_
    rintro e w1 ⟨rfl, b1⟩
    have HB1 := hide b1
    clear b1
    go_wp2_with fail
    refine Calls.mono (mawake_any w1) ?_
    rintro e w2 ⟨rfl, b2⟩
    have HB2 := hide ((unhide HB1).trans (b2.mono (unhide HB1).size))
    clear b2
    go_wp2_with fail
    go_ret
    exact ⟨rfl, unhide HB2⟩

theorem walk_MarkRoots (s0 : Value) (d0 : Dt) (s1 : Value) (d1 : Dt) (s2 : Value) (d2 : Dt) (w : World) (h0 : Reads limSaid w (.row 4 (.int .u32)) [s0] d0) (h1 : Reads limSaid w (.row 8 (.int .i64)) [s1] d1) (h2 : Reads limSaid w (.row 8 (.int .i64)) [s2] d2) :
    Calls Try.prog 5 #[s0, s1, s2] w fun e w' => e = .returned (.bool true) ∧ Below w.heap.size w w' := by
  obtain ⟨ws, r0, l0, u0⟩ := nums_of_reads h0
  obtain ⟨qs, r1, l1, u1⟩ := nums_of_reads h1
  obtain ⟨bs, r2, l2, u2⟩ := nums_of_reads h2
  unfold limSaid reachBytes at l0 l1 l2
  exact markroots_any s0 s1 s2 ws qs bs w r0 r1 r2 (u32_of14 u0) (by omega) (by omega) (by omega)
end Go.Proofs.Ytgnfgeebcphglaa
