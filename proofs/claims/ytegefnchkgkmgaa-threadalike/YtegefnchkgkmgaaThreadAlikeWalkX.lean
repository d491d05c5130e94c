/- The walk of the statement 'ThreadAlike'. -/
import Derived.Test.YtegefnchkgkmgaaG19
import Derived.Test.YtegefnchkgkmgaaG21
import Derived.Test.YtegefnchkgkmgaaG23
import Derived.Test.YtegefnchkgkmgaaG24
import Derived.Test.YtegefnchkgkmgaaG26
import Derived.Test.YtegefnchkgkmgaaG31
namespace Go.Proofs.Ytegefnchkgkmgaa
open Go.RowKit

theorem u32_of15l {ws : List Int} (h : ∀ x ∈ ws, (Lit.int .u32 x).wf = true) : U32 ws := fun x hx => by
  have := bounds_u32 (h x hx)
  omega
set_option maxRecDepth 20000 in
set_option maxHeartbeats 4000000 in
theorem alike_any (s t : Value) (ws rs : List Int) (w : World) (hs : VRow w s (Uw ws)) (ht : VRow w t (Iw rs)) (hU : U32 ws) (hl : ws.length < 70368744177664) (hr : rs.length < 35184372088832) :
    Calls Try.prog 5 #[s, t] w fun e w' => e = .returned (.bool true) ∧ Below w.heap.size w w' := by
  have HC := hide (compact_any s t ws rs w hs ht hU hl hr)
  have HU := hide hU
  have HSW := hide (fun W (hb : Below w.heap.size w W) => hs.below hb)
  have HML := hide (fun W (hb : Below w.heap.size w W) => mlive_any s t ws rs W (hs.below hb) (ht.below hb) hU hl hr)
  have HMW := hide (fun W (hb : Below w.heap.size w W) => mwords_any s t ws rs W (hs.below hb) (ht.below hb) hU hl hr)
  have HT := hide ht
  obtain ⟨a2, cap2, rfl, g1, g2, g3⟩ := ht.shape
  have hlr : (Iw rs).length = rs.length := by simp
  rw [hlr] at HC HT HML HMW ⊢
  clear hs ht hU hl hr g1 g2 g3 hlr
  cases hb : rightB ws rs with
  | false =>
    rw [hb, show chkE false = 11 from rfl] at HC
    have HBF := hb
    clear hb
    go_enter Try.func5, Try.ntmps5
    go_wp2_with fail
    refine Calls.mono (unhide HC) ?_
    rintro e w1 ⟨vo, vr, vp, l, rfl, hli, hcd, b1⟩
    have hz : outW ws rs l = [] ∧ outR ws rs l = [] ∧ outP ws rs l = [] := by unfold outW outR outP; rw [HBF]; exact ⟨rfl, rfl, rfl⟩
    rw [CmpD, hz.1, hz.2.1, hz.2.2] at hcd
    obtain ⟨po, co, rfl⟩ := ownsV_shape hcd.1
    obtain ⟨pr, cr, rfl⟩ := ownsV_shape hcd.2.1
    obtain ⟨pp, cp, rfl⟩ := ownsV_shape hcd.2.2
    have HB1 := hide b1
    clear b1 hli hcd HC hz HBF
    go_wp2_with fail
    refine Calls.mono (lawake15_any askC w1) ?_
    rintro e w2 ⟨rfl, b2⟩
    have HB2 := hide ((unhide HB1).trans (b2.mono (unhide HB1).size))
    clear b2
    go_wp2_with fail
    refine Calls.mono (lawake15_any askC w2) ?_
    rintro e w3 ⟨rfl, b3⟩
    have HB3 := hide ((unhide HB2).trans (b3.mono (unhide HB2).size))
    clear b3
    go_wp2_with fail
    go_ret
    exact ⟨rfl, unhide HB3⟩
  | true =>
    rw [hb, show chkE true = 0 from rfl] at HC HML HMW
    have HR := hide hb
    clear hb
    go_enter Try.func5, Try.ntmps5
    go_wp2_with fail
    refine Calls.mono (unhide HC) ?_
    rintro e w1 ⟨vo, vr, vp, l, rfl, hli, ⟨ho, hro, hpo⟩, b1⟩
    have hlv := hli.1 (unhide HR)
    have hRt := rts_live (unhide HU) (unhide HR) hlv
    unfold outW at ho
    unfold outR at hro
    unfold outP at hpo
    rw [if_pos (unhide HR)] at ho hro hpo
    have hlenW := cW_len hRt.toLiv
    have hall := hRt.toLiv.all hRt.pos
    have hmo := hRt.most
    have hfw := hRt.few
    have hU2 := cW_u32 hRt.toLiv
    have hRl : (cR ws l rs).length = rs.length := by unfold cR; rw [List.length_map]
    have hPl : (posL ws l).length = l.length := by unfold posL; rw [List.length_map]
    have hR2 := cW_right hRt.toLiv hRt.pos hfw hRt.root
    have HLV2 := hide (cW_live hRt.toLiv hRt.root hlv)
    have HLC := hide (liv_count hRt)
    have HRT := hide hRt
    have HLVE := hide hlv
    obtain ⟨po, co, rfl⟩ := ownsV_shape ho
    obtain ⟨pr, cr, rfl⟩ := ownsV_shape hro
    obtain ⟨pp, cp, rfl⟩ := ownsV_shape hpo
    have HVX := hide (vrow_of_owns (vs := Uw (cW ws l)) (s := .slice po (cW ws l).length co) (by simpa [Uw] using ho))
    have HVR := hide (vrow_of_owns (vs := Iw (cR ws l rs)) (s := .slice pr (cR ws l rs).length cr) (by simpa [Iw] using hro))
    have HPR := hide (pr_of_owns hpo)
    have HML2 := hide (fun W (hb : Below w1.heap.size w1 W) => mlive_any _ _ (cW ws l) (cR ws l rs) W ((unhide HVX).below hb) ((unhide HVR).below hb) hU2 (by omega) (by rw [hRl]; omega))
    have HCK := hide (fun W (hb : Below w1.heap.size w1 W) => ccheck_any _ _ (cW ws l) (cR ws l rs) W ((unhide HVX).below hb) ((unhide HVR).below hb) hU2 (by omega) (by rw [hRl]; omega))
    rw [hR2, show chkE true = 0 from rfl] at HML2 HCK
    have hXW : ((cW ws l).length : Int) = sumW ws l + 1 := by rw [sums_int (unhide HU), hlenW]; omega
    have HR2 := hide hR2
    have HXB := hide (show (cW ws l).length ≤ 1048577 by omega)
    have HB1 := hide b1
    have HPL := hide hPl
    obtain ⟨X, hX⟩ : ∃ X, X = (cW ws l).length := ⟨_, rfl⟩
    have HXE := hide hX
    obtain ⟨m, hm⟩ : ∃ m, m = rs.length := ⟨_, rfl⟩
    have HM := hide hm
    have HFW := hide hfw
    rw [hRl] at HML2 HCK HVR ⊢
    rw [← hX] at HML2 HCK HVX HXB hXW ⊢
    rw [← hm] at HML2 HCK HVR HT HML HMW HFW ⊢
    obtain ⟨n, hn⟩ : ∃ n, n = l.length := ⟨_, rfl⟩
    have HN := hide hn
    rw [hPl] at HPR ⊢
    rw [← hn] at HPR HLC ⊢
    clear hlenW hall hmo hfw hU2 hRl hPl hR2 ho hro hpo hRt hlv hli b1 HC hX hm hn
    go_wp2_with fail
    refine Calls.mono (lawake15_any askC w1) ?_
    rintro e w2 ⟨rfl, b2⟩
    have HB2 := hide ((unhide HB1).trans (b2.mono (unhide HB1).size))
    have HC2 := hide b2
    clear b2
    go_wp2_with fail
    refine Calls.mono (unhide HML w2 (unhide HB2)) ?_
    rintro e w3 ⟨v3, l3, rfl, hli, hrow, b3⟩
    obtain rfl : l = l3 := (unhide HLVE).unique (hli.1 (unhide HR))
    have HB3 := hide ((unhide HB2).trans (b3.mono (unhide HB2).size))
    have HC3 := hide ((unhide HC2).trans (b3.mono (unhide HC2).size))
    rw [← unhide HN] at hrow
    obtain ⟨p3, c3, rfl⟩ := ownsV_shape hrow
    have HV3 := hide (vrow_of_owns (vs := Iw l) (s := .slice p3 n c3) (by simpa [Iw, ← unhide HN] using hrow))
    clear hli hrow b3 HML HB2
    go_wp2_with fail
    refine Calls.mono (unhide HML2 w3 (unhide HC3)) ?_
    rintro e w4 ⟨v4, l4, rfl, hli, hrow, b4⟩
    obtain rfl : l4 = l.map (toA ws l) := (hli.1 (unhide HR2)).unique (unhide HLV2)
    have HB4 := hide ((unhide HB3).trans (b4.mono (unhide HB3).size))
    have HC4 := hide ((unhide HC3).trans (b4.mono (unhide HC3).size))
    rw [List.length_map, ← unhide HN] at hrow
    obtain ⟨p4, c4, rfl⟩ := ownsV_shape hrow
    have HV4 := hide (And.intro ((unhide HV3).below b4) (vrow_of_owns (vs := Iw (l.map (toA ws l))) (s := .slice p4 n c4) (by simpa [Iw, ← unhide HN] using hrow)))
    clear hli hrow b4 HML2 HB3 HV3 HC3
    go_wp2_with fail
    refine Calls.mono (unhide HMW w4 (unhide HB4)) ?_
    rintro e w5 ⟨l5, rfl, hli, b5⟩
    obtain rfl : l = l5 := (unhide HLVE).unique (hli.1 (unhide HR))
    have HB5 := hide ((unhide HB4).trans (b5.mono (unhide HB4).size))
    have HC5 := hide ((unhide HC4).trans (b5.mono (unhide HC4).size))
    have HV5 := hide (And.intro ((unhide HV4).1.below b5) ((unhide HV4).2.below b5))
    clear hli b5 HMW HB4 HV4 HC4
    have hsw : IntKind.i64.wrap (sumW ws l + 1) = (X : Int) := by rw [← hXW, IntKind.wrap_i64]; have := unhide HXB; omega
    clear hXW
    go_wp2_with fail
    refine Calls.mono (unhide HCK w5 (unhide HC5)) ?_
    rintro e w6 ⟨rfl, b6⟩
    have HB6 := hide ((unhide HB5).trans (b6.mono (unhide HB5).size))
    have HC6 := hide ((unhide HC5).trans (b6.mono (unhide HC5).size))
    have HV6 := hide (And.intro ((unhide HV5).1.below b6) ((unhide HV5).2.below b6))
    have HT6 := hide ((unhide HT).below (unhide HB6))
    have HR6 := hide ((unhide HVR).below (unhide HC6))
    have HP6 := hide ((unhide HPR).below (unhide HC6))
    have HX6 := hide ((unhide HVX).below (unhide HC6))
    have HS6 := hide (unhide HSW w6 (unhide HB6))
    have HFO := hide (fun W (hW : Below w6.heap.size w6 W) (a : Int) => (show Calls Try.prog 17 #[.slice pp n cp, .int .i64 a] W fun e w' => e = .returned (.int .i64 (toA ws l a)) ∧ Below W.heap.size W w' from by
      have := follow_any (.slice pp n cp) (posL ws l) a W ((unhide HP6).below hW) (by rw [unhide HPL]; have := unhide HLC; have := unhide HN; omega)
      rw [fnd_to] at this
      exact this))
    clear b6 HB5 HC5 HV5 HCK HT HVR HPR HVX HSW
    go_wp2_with fail
    go_loopw [15] (fun iv wr => ∃ (k : Nat), iv = .int .i64 (k : Int) ∧ k ≤ m ∧ Hid (Below w6.heap.size w6 wr)) (fun iv _ => m - (intOf iv).toNat)
    case atStart => exact ⟨0, rfl, Nat.zero_le _, Below.refl _ _⟩
    case round =>
      obtain ⟨k, rfl, hk, hst⟩ := hrel
      have hkw : IntKind.i64.wrap ((k : Int) + 1) = (k : Int) + 1 := by have := unhide HFW; rw [IntKind.wrap_i64]; omega
      by_cases hlt : k < m
      · have hkI : (k : Int) < (m : Int) := by omega
        have hkR : k < rs.length := by have := unhide HM; omega
        obtain ⟨b1, o1, z1, e1, _, _, hc1⟩ := (unhide HT6).open (by intro e; have := congrArg List.length e; simp at this; rw [this] at hkR; simp at hkR)
        simp only [Value.slice.injEq] at e1
        obtain ⟨rfl, e1, rfl⟩ := e1
        obtain ⟨b2, o2, z2, e2, _, _, hc2⟩ := (unhide HR6).open (by intro e; have := congrArg List.length e; unfold cR at this; simp at this; rw [this] at hkR; simp at hkR)
        simp only [Value.slice.injEq] at e2
        obtain ⟨rfl, e2, rfl⟩ := e2
        have d1 := hc1 k (.int .i64 rs[k]) (by rw [List.getElem?_map, List.getElem?_eq_getElem hkR]; rfl)
        have d2 := hc2 k (.int .i64 (toA ws l rs[k])) (by unfold cR; rw [List.getElem?_map, List.getElem?_map, List.getElem?_eq_getElem hkR]; rfl)
        have HCA := hide (fun W (hW : Below w6.heap.size w6 W) => And.intro ((hW.cell (World.block_lt_of_cell? _ _ d1)).trans d1) ((hW.cell (World.block_lt_of_cell? _ _ d2)).trans d2))
        have HFK := hide (fun W (hW : Below w6.heap.size w6 W) => unhide HFO W hW rs[k])
        generalize toA ws l rs[k] = qx at *
        generalize rs[k] = px at *
        have HLT := hide hlt
        have hqq : (qx == qx) = true := by simp
        have hqn : (qx != qx) = false := by simp
        obtain ⟨CC, hCC⟩ : ∃ CC : World → Prop, CC = fun w' => Below w6.heap.size w6 w' := ⟨_, rfl⟩
        have HC0 : Hid (CC { wr with drawn := wr.drawn + 1 }) := by rw [hCC]; exact (unhide hst).drew
        have HCW : Hid (∀ w', CC w' → Below w6.heap.size w6 w') := by rw [hCC]; exact fun w' hw => hw
        have HCL : Hid (∀ w', CC w' → Calls Try.prog 17 #[.slice pp n cp, .int .i64 px] w' fun e w'' => e = .returned (.int .i64 qx) ∧ CC w'') := by
          rw [hCC]
          exact fun w' hw => (unhide HFK w' hw).mono fun e w'' hx => ⟨hx.1, hw.trans (hx.2.mono hw.size)⟩
        clear hc1 hc2 e1 e2 d1 d2 hlt hkR hst hk hCC HFK
        go_wp2_with fail
        refine region_calm CC (by kernel_rfl) (by kernel_rfl) (unhide HC0) ?_
        repeat (first
          | go_big_quiet_skip
          | (go_big_quiet_want
             apply Exists.intro
             refine ⟨fun w' hw' => ?_, ?_⟩
             · obtain ⟨c0, c1⟩ := unhide HCA w' (unhide HCW w' hw')
               go_simp
               first | done | rfl | exact unhide HCL w' hw'
             simp only [Act.put, List.setIfInBounds_toArray, List.set_cons_zero, List.set_cons_succ]
             go_big_quiet_on))
        refine wpQuiet_nil ?_
        intro w' hw'
        have HBW := hide (unhide HCW w' hw')
        clear hw' HCL HC0 HCW HCA
        go_wp2_with fail
        go_roundw
        case rel => exact ⟨k + 1, by go_num, unhide HLT, unhide HBW⟩
        case measure => (have := unhide HLT; simp [intOf]; omega)
      · have hke : k = m := by omega
        subst hke
        have hge : ¬ (k : Int) < (k : Int) := by omega
        have HB7 := hide (unhide hst)
        clear hlt hk hkw hst
        rename World => w7
        have HXA := hide (fun W (hW : Below w6.heap.size w6 W) (a : Int) (ha : a ∈ l) => cat_ob s ws a W ((unhide HS6).below hW) (unhide HU) (Nat.le_trans (unhide HRT).most (by omega)) ((unhide HRT).ob a ha))
        have HXB2 := hide (fun W (hW : Below w6.heap.size w6 W) (a : Int) (ha : a ∈ l) => (show Calls Try.prog 26 #[.slice po X co, .int .i64 (toA ws l a)] W fun e w' => ∃ p cp d cd, e = .returned (.tuple #[.agg #[.int .i64 (wd ws a.toNat % 16), .slice p (ptsA ws a).length cp, .slice d (dtA ws a).length cd], .int .i64 0]) ∧ VRow w' (.slice p (ptsA ws a).length cp) (Iw ((ptsA ws a).map (toA ws l))) ∧ VRow w' (.slice d (dtA ws a).length cd) (Uw (dtA ws a)) ∧ Below W.heap.size W w' from by
          obtain ⟨t1, t2, t3, t4⟩ := alike_of (unhide HRT) ha
          have := cat_ob _ (cW ws l) (toA ws l a) W ((unhide HX6).below hW) (cW_u32 (unhide HRT).toLiv) (by rw [← unhide HXE]; exact unhide HXB) t1
          rw [t2, t3, t4, List.length_map] at this
          exact this))
        go_wp2_with fail
        go_loopw [16] (fun iv wr => ∃ (k : Nat), iv = .int .i64 (k : Int) ∧ k ≤ n ∧ Hid (Below w6.heap.size w6 wr)) (fun iv _ => n - (intOf iv).toNat)
        case atStart => exact ⟨0, rfl, Nat.zero_le _, unhide HB7⟩
        case round =>
          clear HB7
          obtain ⟨i, rfl, hi, hst⟩ := hrel
          rename World => wr
          have hiw : IntKind.i64.wrap ((i : Int) + 1) = (i : Int) + 1 := by have := unhide HLC; rw [IntKind.wrap_i64]; omega
          by_cases hlt : i < n
          · have hiI : (i : Int) < (n : Int) := by omega
            have hiL : i < l.length := by have := unhide HN; omega
            have hml := List.getElem_mem hiL
            obtain ⟨bp, op, zp, e1, hcp⟩ := (unhide HP6).open (by rw [unhide HPL]; omega)
            simp only [Value.slice.injEq] at e1
            obtain ⟨rfl, e1, rfl⟩ := e1
            obtain ⟨d1, d2⟩ := hcp i (by rw [unhide HPL]; exact hiL)
            rw [show (posL ws l)[i]'(by rw [unhide HPL]; exact hiL) = (l[i], toA ws l l[i]) by unfold posL; rw [List.getElem_map]] at d1 d2
            obtain ⟨b3, o3, z3, e3, _, _, hc3⟩ := (unhide HV6).1.open (by intro e; have := congrArg List.length e; simp at this; rw [this] at hiL; simp at hiL)
            simp only [Value.slice.injEq] at e3
            obtain ⟨rfl, e3, rfl⟩ := e3
            obtain ⟨b4, o4, z4, e4, _, _, hc4⟩ := (unhide HV6).2.open (by intro e; have := congrArg List.length e; simp at this; rw [this] at hiL; simp at hiL)
            simp only [Value.slice.injEq] at e4
            obtain ⟨rfl, e4, rfl⟩ := e4
            have d3 := hc3 i (.int .i64 l[i]) (by rw [List.getElem?_map, List.getElem?_eq_getElem hiL]; rfl)
            have d4 := hc4 i (.int .i64 (toA ws l l[i])) (by rw [List.getElem?_map, List.getElem?_map, List.getElem?_eq_getElem hiL]; rfl)
            dsimp only at d1 d2
            have HCA := hide (fun W (hW : Below w6.heap.size w6 W) => And.intro ((hW.cell (World.block_lt_of_cell? _ _ d1)).trans d1) (And.intro ((hW.cell (World.block_lt_of_cell? _ _ d2)).trans d2) (And.intro ((hW.cell (World.block_lt_of_cell? _ _ d3)).trans d3) ((hW.cell (World.block_lt_of_cell? _ _ d4)).trans d4))))
            have hto := (unhide HRT).toLiv.to hml
            have HA1 := hide (fun W hW => unhide HXA W hW _ hml)
            have HA2 := hide (fun W hW => unhide HXB2 W hW _ hml)
            have hpc : (ptsA ws l[i]).length ≤ 255 := by rw [ptsA_len ((unhide HRT).ob _ hml)]; have := ptN_lt (wd ws l[i].toNat); omega
            have hle : toA ws l l[i] ≤ l[i] := hto.2
            have HLT := hide hlt
            obtain ⟨a, ha⟩ : ∃ a, a = l[i] := ⟨_, rfl⟩
            rw [← ha] at HCA HA1 HA2 hpc hle
            obtain ⟨q, hq⟩ : ∃ q, q = toA ws l a := ⟨_, rfl⟩
            rw [← hq] at HCA HA2 hle
            obtain ⟨c0, c1, c2, c3⟩ := unhide HCA wr (unhide hst)
            have HBR := hide (unhide hst)
            have HPC := hide hpc
            obtain ⟨P, hP⟩ : ∃ P, P = ptsA ws a := ⟨_, rfl⟩
            obtain ⟨D, hD⟩ : ∃ D, D = dtA ws a := ⟨_, rfl⟩
            obtain ⟨K, hK⟩ : ∃ K, K = wd ws a.toNat % 16 := ⟨_, rfl⟩
            rw [← hP, ← hD, ← hK] at HA1 HA2
            rw [← hP] at HPC
            have hng : ¬ a < q := by omega
            have haa : (a == a) = true := by simp
            have hqq : (q == q) = true := by simp
            clear hcp e1 e3 e4 hc3 hc4 d1 d2 d3 d4 hto hlt hi hst hiL hml ha hq hpc hP hD hK
            go_wp2_with fail
            go_region
            go_wp2_with fail
            refine Calls.mono (unhide HA1 wr.drew (unhide HBR).drew) ?_
            rintro e w8 ⟨p8, cp8, d8, cd8, rfl, hvp, hvd, b8⟩
            have hb8 := (unhide HBR).drew.trans (b8.mono (unhide HBR).drew.size)
            obtain ⟨w9, hw9⟩ : ∃ w9, w9 = w8.alloc (.cells #[.int .i64 K, .slice p8 P.length cp8, .slice d8 D.length cd8] 50) := ⟨_, rfl⟩
            have hb89 : Below w8.heap.size w8 w9 := by rw [hw9]; exact (Below.refl _ _).alloc (Nat.le_refl _) _
            have hg9 : w9.heap[w8.heap.size]? = some (.cells #[.int .i64 K, .slice p8 P.length cp8, .slice d8 D.length cd8] 50 (0, 0)) := by rw [hw9]; exact World.alloc_heap_new w8 _
            have hb9 := hb8.trans (hb89.mono hb8.size)
            have HP9 := hide (And.intro (hvp.below hb89) (hvd.below hb89))
            have HG9 := hide hg9
            have HB9 := hide hb9
            obtain ⟨e0, e1, e2, e3⟩ := unhide HCA w9 hb9
            rw [hw9] at e0 e1 e2 e3
            have HW9 := hide hw9
            have HGS := hide (show w8.heap.size < w9.heap.size from (Array.getElem?_eq_some_iff.1 hg9).1)
            clear hvp hvd b8 hb8 hb89 hb9 hg9 c0 c1 c2 c3 HA1 hw9
            go_wp2_with fail
            rw [← unhide HW9]
            refine Calls.mono (unhide HA2 w9 (unhide HB9)) ?_
            clear e0 e1 e2 e3 HW9
            obtain ⟨ga, hga⟩ : ∃ ga, ga = w8.heap.size := ⟨_, rfl⟩
            rw [← hga] at HG9 HGS ⊢
            clear hga
            rintro e w10 ⟨p10, cp10, d10, cd10, rfl, hvp, hvd, b10⟩
            have hb10 := (unhide HB9).trans (b10.mono (unhide HB9).size)
            have hg10 := (b10.block ga (unhide HGS)).trans (unhide HG9)
            have hb1 : Below w10.heap.size w10 (w10.alloc (.cells #[.int .i64 K, .slice p10 P.length cp10, .slice d10 D.length cd10] 50)) := (Below.refl _ _).alloc (Nat.le_refl _) _
            obtain ⟨w11, hw11⟩ : ∃ w11, w11 = w10.alloc (.cells #[.int .i64 K, .slice p10 P.length cp10, .slice d10 D.length cd10] 50) := ⟨_, rfl⟩
            have hg11 : w11.heap[w10.heap.size]? = some (.cells #[.int .i64 K, .slice p10 P.length cp10, .slice d10 D.length cd10] 50 (0, 0)) := by rw [hw11]; exact World.alloc_heap_new w10 _
            rw [← hw11] at hb1
            have hga11 := (hb1.block ga (Array.getElem?_eq_some_iff.1 hg10).1).trans hg10
            have HB11 := hide (hb10.trans (hb1.mono hb10.size))
            have HPD := hide (And.intro (((unhide HP9).1.below b10).below hb1) (And.intro (((unhide HP9).2.below b10).below hb1) (And.intro (hvp.below hb1) (hvd.below hb1))))
            have HGA := hide hga11
            have HGB := hide hg11
            obtain ⟨x0, x1, x2, _⟩ := three_cells hga11
            obtain ⟨y0, y1, y2, _⟩ := three_cells hg11
            rw [hw11] at x0 x1 x2 y0 y1 y2
            have HW11 := hide hw11
            have hkk : (K == K) = true := by simp
            clear hvp hvd b10 hb10 hb1 hg10 hg11 hga11 hw11 HP9 HG9 HB9 HGS HA2
            go_wp2_with fail
            rw [← unhide HW11]
            refine Calls.mono (HU32.plain_any _ _ D w11 (unhide HPD).2.1 (unhide HPD).2.2.2) ?_
            rintro e w12 ⟨rfl, b12⟩
            obtain ⟨gb, hgb⟩ : ∃ gb, gb = w10.heap.size := ⟨_, rfl⟩
            rw [← hgb] at HGB ⊢
            have hga12 := (b12.block ga (Array.getElem?_eq_some_iff.1 (unhide HGA)).1).trans (unhide HGA)
            have hgb12 := (b12.block gb (Array.getElem?_eq_some_iff.1 (unhide HGB)).1).trans (unhide HGB)
            have HPT := hide (And.intro ((unhide HPD).1.below b12) ((unhide HPD).2.2.1.below b12))
            have HB12 := hide ((unhide HB11).trans (b12.mono (unhide HB11).size))
            have HG12 := hide (And.intro hga12 hgb12)
            clear x0 x1 x2 y0 y1 y2
            obtain ⟨x0, x1, x2, _⟩ := three_cells hga12
            obtain ⟨y0, y1, y2, _⟩ := three_cells hgb12
            clear hgb hga12 hgb12 b12 HGA HGB HPD HB11 HW11
            go_wp2_with fail
            go_loopw [21] (fun jv wz => ∃ (j : Nat), jv = .int .i64 (j : Int) ∧ j ≤ P.length ∧ Hid (Below w12.heap.size w12 wz)) (fun jv _ => P.length - (intOf jv).toNat)
            case atStart => exact ⟨0, rfl, Nat.zero_le _, Below.refl _ _⟩
            case round =>
              clear x0 x1 x2 y0 y1 y2
              obtain ⟨j, rfl, hj, hjs⟩ := hrel
              rename World => wz
              have hjw : IntKind.i64.wrap ((j : Int) + 1) = (j : Int) + 1 := by have := unhide HPC; rw [IntKind.wrap_i64]; omega
              obtain ⟨x0, x1, x2, _⟩ := three_cells (((unhide hjs).block ga (Array.getElem?_eq_some_iff.1 (unhide HG12).1).1).trans (unhide HG12).1)
              by_cases hjl : j < P.length
              · have hjI : (j : Int) < (P.length : Int) := by omega
                obtain ⟨z0, z1, z2, _⟩ := three_cells (unhide HG12).1
                obtain ⟨v0, v1, v2, _⟩ := three_cells (unhide HG12).2
                obtain ⟨b5, o5, z5, e5, _, _, hc5⟩ := (unhide HPT).1.open (by intro e; have := congrArg List.length e; simp at this; rw [this] at hjl; simp at hjl)
                simp only [Value.slice.injEq] at e5
                obtain ⟨rfl, e5, rfl⟩ := e5
                obtain ⟨b7, o7, z7, e7, _, _, hc7⟩ := (unhide HPT).2.open (by intro e; have := congrArg List.length e; simp at this; rw [this] at hjl; simp at hjl)
                simp only [Value.slice.injEq] at e7
                obtain ⟨rfl, e7, rfl⟩ := e7
                have d5 := hc5 j (.int .i64 P[j]) (by rw [List.getElem?_map, List.getElem?_eq_getElem hjl]; rfl)
                have d7 := hc7 j (.int .i64 (toA ws l P[j])) (by rw [List.getElem?_map, List.getElem?_map, List.getElem?_eq_getElem hjl]; rfl)
                have HCB := hide (fun W (hW : Below w12.heap.size w12 W) => And.intro ((hW.cell (World.block_lt_of_cell? _ _ z1)).trans z1) (And.intro ((hW.cell (World.block_lt_of_cell? _ _ v1)).trans v1) (And.intro ((hW.cell (World.block_lt_of_cell? _ _ d5)).trans d5) ((hW.cell (World.block_lt_of_cell? _ _ d7)).trans d7))))
                have HFK := hide (fun W (hW : Below w12.heap.size w12 W) => unhide HFO W ((unhide HB12).trans (hW.mono (unhide HB12).size)) P[j])
                generalize toA ws l P[j] = qx at *
                generalize P[j] = px at *
                have HLJ := hide hjl
                have hxx : (qx == qx) = true := by simp
                have hxn : (qx != qx) = false := by simp
                obtain ⟨CC, hCC⟩ : ∃ CC : World → Prop, CC = fun w' => Below w12.heap.size w12 w' := ⟨_, rfl⟩
                have HC0 : Hid (CC { wz with drawn := wz.drawn + 1 }) := by rw [hCC]; exact (unhide hjs).drew
                have HCW : Hid (∀ w', CC w' → Below w12.heap.size w12 w') := by rw [hCC]; exact fun w' hw => hw
                have HCL : Hid (∀ w', CC w' → Calls Try.prog 17 #[.slice (some ⟨bp, op, none⟩) n cp, .int .i64 px] w' fun e w'' => e = .returned (.int .i64 qx) ∧ CC w'') := by
                  rw [hCC]
                  exact fun w' hw => (unhide HFK w' hw).mono fun e w'' hx => ⟨hx.1, hw.trans (hx.2.mono hw.size)⟩
                clear hc5 hc7 e5 e7 d5 d7 hjl hjs hj hCC HFK z0 z1 z2 v0 v1 v2
                go_wp2_with fail
                refine region_calm CC (by kernel_rfl) (by kernel_rfl) (unhide HC0) ?_
                repeat (first
                  | go_big_quiet_skip
                  | (go_big_quiet_want
                     apply Exists.intro
                     refine ⟨fun w' hw' => ?_, ?_⟩
                     · obtain ⟨c0, c1, c2, c3⟩ := unhide HCB w' (unhide HCW w' hw')
                       go_simp
                       first | done | rfl | exact unhide HCL w' hw'
                     simp only [Act.put, List.setIfInBounds_toArray, List.set_cons_zero, List.set_cons_succ]
                     go_big_quiet_on))
                refine wpQuiet_nil ?_
                intro w' hw'
                have HBW := hide (unhide HCW w' hw')
                clear hw' HCL HC0 HCW HCB x0 x1 x2
                go_wp2_with fail
                go_roundw
                case rel => exact ⟨j + 1, by go_num, unhide HLJ, unhide HBW⟩
                case measure => (have := unhide HLJ; simp [intOf]; omega)
              · have hje : j = P.length := by omega
                subst hje
                have hge : ¬ (P.length : Int) < (P.length : Int) := by omega
                have HBZ := hide ((unhide HB12).trans ((unhide hjs).mono (unhide HB12).size))
                clear hjl hj hjw hjs
                go_wp2_with fail
                go_roundw
                case rel => exact ⟨i + 1, by go_num, unhide HLT, unhide HBZ⟩
                case measure => (have := unhide HLT; simp [intOf]; omega)
          · have hke : i = n := by omega
            subst hke
            have hge : ¬ (i : Int) < (i : Int) := by omega
            have HBW := hide ((unhide HB6).trans ((unhide hst).mono (unhide HB6).size))
            clear hlt hi hiw hst
            go_wp2_with fail
            go_ret
            exact ⟨rfl, unhide HBW⟩

theorem walk_ThreadAlike (s0 : Value) (d0 : Dt) (s1 : Value) (d1 : Dt) (w : World) (h0 : Reads limSaid w (.row 4 (.int .u32)) [s0] d0) (h1 : Reads limSaid w (.row 8 (.int .i64)) [s1] d1) :
    Calls Try.prog 5 #[s0, s1] w fun e w' => e = .returned (.bool true) ∧ Below w.heap.size w w' := by
  obtain ⟨ws, r0, l0, u0⟩ := nums_of_reads h0
  obtain ⟨rs, r1, l1, u1⟩ := nums_of_reads h1
  unfold limSaid reachBytes at l0 l1
  exact alike_any s0 s1 ws rs w r0 r1 (u32_of15l u0) (by omega) (by omega)
end Go.Proofs.Ytegefnchkgkmgaa
