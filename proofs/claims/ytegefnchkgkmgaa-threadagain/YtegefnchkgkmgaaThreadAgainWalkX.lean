/- The walk of the statement 'ThreadAgain'. -/
import Derived.Test.YtegefnchkgkmgaaG21
import Derived.Test.YtegefnchkgkmgaaG24
import Derived.Test.YtegefnchkgkmgaaG26
import Derived.Test.YtegefnchkgkmgaaG30
namespace Go.Proofs.Ytegefnchkgkmgaa
open Go.RowKit

theorem u32_of15a {ws : List Int} (h : ∀ x ∈ ws, (Lit.int .u32 x).wf = true) : U32 ws := fun x hx => by
  have := bounds_u32 (h x hx)
  omega
set_option maxRecDepth 20000 in
set_option maxHeartbeats 4000000 in
theorem again_any (s t : Value) (ws rs : List Int) (w : World) (hs : VRow w s (Uw ws)) (ht : VRow w t (Iw rs)) (hU : U32 ws) (hl : ws.length < 70368744177664) (hr : rs.length < 35184372088832) :
    Calls Try.prog 6 #[s, t] w fun e w' => e = .returned (.bool true) ∧ Below w.heap.size w w' := by
  have HC := hide (compact_any s t ws rs w hs ht hU hl hr)
  have HU := hide hU
  clear hs ht hU hl hr
  cases hb : rightB ws rs with
  | false =>
    rw [hb, show chkE false = 11 from rfl] at HC
    clear hb
    go_enter Try.func6, Try.ntmps6
    go_wp2_with fail
    refine Calls.mono (unhide HC) ?_
    rintro e w1 ⟨vo, vr, vp, l, rfl, hli, hcd, b1⟩
    obtain ⟨po, co, rfl⟩ := ownsV_shape hcd.1
    obtain ⟨pr, cr, rfl⟩ := ownsV_shape hcd.2.1
    obtain ⟨pp, cp, rfl⟩ := ownsV_shape hcd.2.2
    have HB1 := hide b1
    clear b1 hli hcd HC
    go_wp2_with fail
    refine Calls.mono (lawake15_any askC w1) ?_
    rintro e w2 ⟨rfl, b2⟩
    have HB2 := hide ((unhide HB1).trans (b2.mono (unhide HB1).size))
    clear b2
    go_wp2_with fail
    refine Calls.mono (lawake15_any askC w2) ?_
    rintro e w3 ⟨rfl, b3⟩
    have HB3 := hide ((unhide HB2).trans (b3.mono (unhide HB2).size))
    clear b3
    go_wp2_with fail
    go_ret
    exact ⟨rfl, unhide HB3⟩
  | true =>
    rw [hb, show chkE true = 0 from rfl] at HC
    have HR := hide hb
    clear hb
    go_enter Try.func6, Try.ntmps6
    go_wp2_with fail
    refine Calls.mono (unhide HC) ?_
    rintro e w1 ⟨vo, vr, vp, l, rfl, hli, ⟨ho, hro, hpo⟩, b1⟩
    have hlv := hli.1 (unhide HR)
    have hRt := rts_live (unhide HU) (unhide HR) hlv
    unfold outW at ho
    unfold outR at hro
    unfold outP at hpo
    rw [if_pos (unhide HR)] at ho hro hpo
    have hlenW := cW_len hRt.toLiv
    have hall := hRt.toLiv.all hRt.pos
    have hmo := hRt.most
    have hfw := hRt.few
    have HAG := hide (fun l2 h2 => again_of (l2 := l2) hRt hlv h2)
    have hU2 := cW_u32 hRt.toLiv
    obtain ⟨X, hX⟩ : ∃ X, X = cW ws l := ⟨_, rfl⟩
    obtain ⟨R, hR⟩ : ∃ R, R = cR ws l rs := ⟨_, rfl⟩
    have hRl : R.length ≤ 16 := by rw [hR]; unfold cR; rw [List.length_map]; exact hfw
    rw [← hX] at ho hlenW hU2 HAG
    rw [← hR] at hro HAG
    have hXl : X.length ≤ 1048577 := by omega
    obtain ⟨po, co, rfl⟩ := ownsV_shape ho
    obtain ⟨pr, cr, rfl⟩ := ownsV_shape hro
    obtain ⟨pp, cp, rfl⟩ := ownsV_shape hpo
    have HVX := hide (vrow_of_owns (vs := Uw X) (s := .slice po X.length co) (by simpa [Uw] using ho))
    have HVR := hide (vrow_of_owns (vs := Iw R) (s := .slice pr R.length cr) (by simpa [Iw] using hro))
    have HC2 := hide (fun W (hb : Below w1.heap.size w1 W) => compact_any _ _ X R W ((unhide HVX).below hb) ((unhide HVR).below hb) hU2 (by omega) (by omega))
    have HB1 := hide b1
    clear hX hR hRl hXl hlenW hall hmo hfw hU2 ho hro hpo hRt hlv hli b1 HC
    go_wp2_with fail
    refine Calls.mono (lawake15_any askC w1) ?_
    rintro e w2 ⟨rfl, b2⟩
    have HB2 := hide ((unhide HB1).trans (b2.mono (unhide HB1).size))
    have HB12 := hide b2
    clear b2
    go_wp2_with fail
    refine Calls.mono (unhide HC2 w2 (unhide HB12)) ?_
    rintro e w3 ⟨vo, vr, vp, l2, rfl, hli, ⟨ho, hro, hpo⟩, b3⟩
    obtain ⟨a1, a2, a3, a4, a5⟩ := unhide HAG l2 hli
    rw [a1, show chkE true = 0 from rfl]
    rw [a2] at ho
    rw [a3] at hro
    have HB3 := hide ((unhide HB2).trans (b3.mono (unhide HB2).size))
    have HB13 := hide ((unhide HB12).trans (b3.mono (unhide HB12).size))
    have HPL := hide a5
    obtain ⟨L2, hL2⟩ : ∃ L2, L2 = outP X R l2 := ⟨_, rfl⟩
    rw [← hL2] at hpo a4 HPL
    obtain ⟨po2, co2, rfl⟩ := ownsV_shape ho
    obtain ⟨pr2, cr2, rfl⟩ := ownsV_shape hro
    obtain ⟨pp2, cp2, rfl⟩ := ownsV_shape hpo
    have HVX3 := hide (And.intro ((unhide HVX).below (unhide HB13)) (vrow_of_owns (vs := Uw X) (s := .slice po2 X.length co2) (by simpa [Uw] using ho)))
    have HVR3 := hide (And.intro ((unhide HVR).below (unhide HB13)) (vrow_of_owns (vs := Iw R) (s := .slice pr2 R.length cr2) (by simpa [Iw] using hro)))
    have HPR3 := hide (pr_of_owns hpo)
    have HEQ := hide a4
    clear hL2 ho hro hpo hli a1 a2 a3 a4 a5 b3 HC2 HAG
    go_wp2_with fail
    refine Calls.mono (HU32.plain_any _ _ X w3 (unhide HVX3).1 (unhide HVX3).2) ?_
    rintro e w4 ⟨rfl, b4⟩
    have HB4 := hide ((unhide HB3).trans (b4.mono (unhide HB3).size))
    have HVR4 := hide (And.intro ((unhide HVR3).1.below b4) ((unhide HVR3).2.below b4))
    have HPR4 := hide ((unhide HPR3).below b4)
    clear b4 HVX3 HVR3 HPR3 HB3
    go_wp2_with fail
    refine Calls.mono (HInt.plain_any _ _ R w4 (unhide HVR4).1 (unhide HVR4).2) ?_
    rintro e w5 ⟨rfl, b5⟩
    have HB5 := hide ((unhide HB4).trans (b5.mono (unhide HB4).size))
    have HPR5 := hide ((unhide HPR4).below b5)
    clear b5 HVR4 HPR4 HB4
    obtain ⟨n, hn⟩ : ∃ n, n = L2.length := ⟨_, rfl⟩
    have HN := hide hn
    rw [← hn] at HPL HPR5 ⊢
    clear hn
    go_wp2_with fail
    go_loopw [13] (fun i wr => ∃ k : Nat, k ≤ n ∧ i = .int .i64 (k : Int) ∧ Hid (∃ d, wr = w5.drewN d)) (fun i _ => n - (intOf i).toNat)
    case atStart => exact ⟨0, Nat.zero_le _, rfl, 0, rfl⟩
    case round =>
      obtain ⟨k, hk, rfl, hst⟩ := hrel
      obtain ⟨d, rfl⟩ := unhide hst
      have hkw : IntKind.i64.wrap ((k : Int) + 1) = (k : Int) + 1 := by have := unhide HPL; rw [IntKind.wrap_i64]; omega
      by_cases hlt : k < n
      · have hkI : (k : Int) < (n : Int) := by omega
        have hkL : k < L2.length := by have := unhide HN; omega
        obtain ⟨b, off, cap', e0, hc⟩ := (unhide HPR5).open (by omega)
        simp only [Value.slice.injEq] at e0
        obtain ⟨rfl, e9, rfl⟩ := e0
        obtain ⟨c0, c1⟩ := hc k hkL
        have heq := unhide HEQ _ (List.getElem_mem hkL)
        rw [← heq] at c1
        generalize L2[k].1 = x at *
        have hbe : (x == x) = true := by simp
        have hbn : (x != x) = false := by simp
        have HLT := hide hlt
        clear hc e9 heq hlt hk hst hkL
        go_wp2_with fail
        go_region
        go_wp2_with fail
        go_roundw
        case rel => exact ⟨k + 1, unhide HLT, by go_num, d + 1, rfl⟩
        case measure => (have := unhide HLT; simp [intOf]; omega)
      · have hke : k = n := by omega
        subst hke
        have hge : ¬ (k : Int) < (k : Int) := by omega
        clear hlt hk hkw hst
        go_wp2_with fail
        go_ret
        exact ⟨rfl, (unhide HB5).os, (unhide HB5).tape, (unhide HB5).output, (unhide HB5).size, (unhide HB5).block⟩

theorem walk_ThreadAgain (s0 : Value) (d0 : Dt) (s1 : Value) (d1 : Dt) (w : World) (h0 : Reads limSaid w (.row 4 (.int .u32)) [s0] d0) (h1 : Reads limSaid w (.row 8 (.int .i64)) [s1] d1) :
    Calls Try.prog 6 #[s0, s1] w fun e w' => e = .returned (.bool true) ∧ Below w.heap.size w w' := by
  obtain ⟨ws, r0, l0, u0⟩ := nums_of_reads h0
  obtain ⟨rs, r1, l1, u1⟩ := nums_of_reads h1
  unfold limSaid reachBytes at l0 l1
  exact again_any s0 s1 ws rs w r0 r1 (u32_of15a u0) (by omega) (by omega)
end Go.Proofs.Ytegefnchkgkmgaa
