/- The walk of the statement 'ThreadRoots'. -/
import Derived.Test.YtegefnchkgkmgaaG14
import Derived.Test.YtegefnchkgkmgaaG21
import Derived.Test.YtegefnchkgkmgaaG24
import Derived.Test.YtegefnchkgkmgaaG26
import Derived.Test.YtegefnchkgkmgaaG30
import Derived.Deep.RegionLaw
namespace Go.Proofs.Ytegefnchkgkmgaa
open Go.RowKit

theorem Try.infoInt15 : (Try.prog.info? 3).map (fun i => (i.zero, i.size, i.bytes)) = some (some (.int .i64 0), 1, 8) := by kernel_rfl
theorem u32_of15r {ws : List Int} (h : ∀ x ∈ ws, (Lit.int .u32 x).wf = true) : U32 ws := fun x hx => by
  have := bounds_u32 (h x hx)
  omega
/-- Some roots (S1), and where some went (S2). -/
structure Som (w w2 : World) (rs S1 S2 : List Int) (sv tv : Value) : Prop where
  mem : ∀ x ∈ S1, x ∈ rs
  one : w.ownsRow w2.heap.size 3 1 sv S1.length (Iw S1)
  two : w.ownsRow w2.heap.size 3 1 tv S2.length (Iw S2)
  apart : ∀ b, sv.ownBlock = some b → tv.ownBlock ≠ some b
  bel : Below w2.heap.size w2 w
theorem Som.below {w w' w2 : World} {rs S1 S2 : List Int} {sv tv : Value} (h : Som w w2 rs S1 S2 sv tv) (hb : Below w.heap.size w w') : Som w' w2 rs S1 S2 sv tv :=
  ⟨h.mem, ownsV_keep (F := fun _ => False) h.one (Keep.of_below hb) (fun _ _ => id), ownsV_keep (F := fun _ => False) h.two (Keep.of_below hb) (fun _ _ => id), h.apart, h.bel.trans (hb.mono h.bel.size)⟩
theorem Som.alloc {w w2 : World} {rs S1 S2 : List Int} {sv tv : Value} (h : Som w w2 rs S1 S2 sv tv) (o : Obj) : Som (w.alloc o) w2 rs S1 S2 sv tv := h.below ((Below.refl _ _).alloc (Nat.le_refl _) _)
theorem own_more {w w' : World} {base : Nat} {v u : Value} {n : Nat} {xs : List Value} (h : w.ownsRow base 3 1 u n xs) (hg : w.grownBy w' v.ownBlock) (hv : ∀ b, v.ownBlock = some b → u.ownBlock ≠ some b) : w'.ownsRow base 3 1 u n xs :=
  ownsV_keep (F := fun k => v.ownBlock = some k) h ⟨hg.os, hg.tape, hg.output, hg.size, fun k hk hn => hg.block k hk (fun e => hn e.symm)⟩ (fun k hk e => hv k e hk)

section
variable {ops : Array Oper} {o : Oper} {a : Act} {W w2 : World} {Q : Exit → Act → World → Prop} {K : Act → World → Prop} {E : Prop}
/-- One more of the first row, as a step of a region that draws. -/
theorem step_som1 {base0 : Nat} {rs S1 S2 : List Int} {sv tv : Value} (hgd : o.guard = none) (s x : Operand) (ho : o.op = .call { callee := .builtin .append, args := #[s, x], argTypes := #[23, 23] }) (hs : a.eval s = sv) (b : Nat) (hx : a.eval x = .slice (some ⟨b, 0, none⟩) 1 1)
    (px : Int) (hm : px ∈ rs) (hn : S1.length ≤ 16) (h : Som W w2 rs S1 S2 sv tv) (h0 : ∀ k, sv.ownBlock = some k → k < base0) (hc : W.cell? ⟨b, 0, none⟩ = some (.int .i64 px))
    (hK : ∀ v' w', Som w' w2 rs (S1 ++ [px]) S2 v' tv → (∀ c u, base0 ≤ c → W.cell? ⟨c, 0, none⟩ = some u → w'.cell? ⟨c, 0, none⟩ = some u) → K (a.put o.dst v') w') :
    if Region.wanted o (yielded ops a.tmps) = true then Oper.wp Try.prog o a W K Q else E := by
  obtain ⟨i4, hi4, hy0, hy1, hy2⟩ := info_parts Try.infoInt15
  have hrow : VRow W (.slice (some ⟨b, 0, none⟩) 1 1) [.int .i64 px] := ⟨_, 1, rfl, Nat.le_refl _, by unfold maxLen; omega, by simp, Or.inr ⟨b, 0, rfl, fun j v hv => by
    match j, hv with
    | 0, hv => simp at hv; subst hv; exact hc⟩⟩
  refine step_append_vrow hgd s x 23 ho w2.heap.size 3 i4 (.int .i64 0) Try.underlying23 hi4 hy0 8 hy1 hy2 rfl sv S1.length (Iw S1) hs h.one _ 1 1 [.int .i64 px] hx hrow (by intro u hu; simp at hu; subst hu; rfl) (by unfold maxLen; omega) (by omega) h.bel.size ?_
  intro v' w' hown hgrow hob
  refine hK v' w' ⟨fun y hy => ?_, ?_, own_more h.two hgrow h.apart, fun k hk => ?_, h.bel.grown hgrow h.bel.size (fun k e => (h.one.lt k e).1)⟩ (fun c u hcb hcu => ?_)
  · rcases List.mem_append.1 hy with hy | hy
    · exact h.mem y hy
    · rw [List.mem_singleton.1 hy]; exact hm
  · simpa [Iw] using hown
  · rcases hob with e | e
    · exact h.apart k (e ▸ hk)
    · rw [e] at hk
      intro e2
      have := (h.two.lt k e2).2
      simp only [Option.some.injEq] at hk
      omega
  · exact (World.cell?_of_block (w := W) (a := ⟨c, 0, none⟩) (hgrow.block c (World.block_lt_of_cell? _ _ hcu) (fun e => by have := h0 c e.symm; omega))).trans hcu
/-- One more of the second row. -/
theorem step_som2 {rs S1 S2 : List Int} {sv tv : Value} (hgd : o.guard = none) (s x : Operand) (ho : o.op = .call { callee := .builtin .append, args := #[s, x], argTypes := #[23, 23] }) (hs : a.eval s = tv) (b : Nat) (hx : a.eval x = .slice (some ⟨b, 0, none⟩) 1 1)
    (qx : Int) (hn : S2.length ≤ 16) (h : Som W w2 rs S1 S2 sv tv) (hc : W.cell? ⟨b, 0, none⟩ = some (.int .i64 qx))
    (hK : ∀ v' w', Som w' w2 rs S1 (S2 ++ [qx]) sv v' → K (a.put o.dst v') w') :
    if Region.wanted o (yielded ops a.tmps) = true then Oper.wp Try.prog o a W K Q else E := by
  obtain ⟨i4, hi4, hy0, hy1, hy2⟩ := info_parts Try.infoInt15
  have hrow : VRow W (.slice (some ⟨b, 0, none⟩) 1 1) [.int .i64 qx] := ⟨_, 1, rfl, Nat.le_refl _, by unfold maxLen; omega, by simp, Or.inr ⟨b, 0, rfl, fun j v hv => by
    match j, hv with
    | 0, hv => simp at hv; subst hv; exact hc⟩⟩
  refine step_append_vrow hgd s x 23 ho w2.heap.size 3 i4 (.int .i64 0) Try.underlying23 hi4 hy0 8 hy1 hy2 rfl tv S2.length (Iw S2) hs h.two _ 1 1 [.int .i64 qx] hx hrow (by intro u hu; simp at hu; subst hu; rfl) (by unfold maxLen; omega) (by omega) h.bel.size ?_
  intro v' w' hown hgrow hob
  refine hK v' w' ⟨h.mem, own_more h.one hgrow (fun k e1 e2 => h.apart k e2 e1), by simpa [Iw] using hown, fun k hk e2 => ?_, h.bel.grown hgrow h.bel.size (fun k e => (h.two.lt k e).1)⟩
  rcases hob with e | e
  · exact h.apart k hk (e ▸ e2)
  · rw [e] at e2
    have := (h.one.lt k hk).2
    simp only [Option.some.injEq] at e2
    omega
end

set_option maxRecDepth 20000 in
set_option maxHeartbeats 4000000 in
theorem roots_any (s t : Value) (ws rs : List Int) (keep : Int) (w : World) (hs : VRow w s (Uw ws)) (ht : VRow w t (Iw rs)) (hU : U32 ws) (hl : ws.length < 70368744177664) (hr : rs.length < 35184372088832) :
    Calls Try.prog 7 #[s, t, .int .i64 keep] w fun e w' => e = .returned (.bool true) ∧ Below w.heap.size w w' := by
  have HC := hide (fun W (hb : Below w.heap.size w W) => compact_any s t ws rs W (hs.below hb) (ht.below hb) hU hl hr)
  have HC3 := hide (fun qs W v (hb : Below w.heap.size w W) (hv : VRow W v (Iw qs)) (hq : qs.length < 35184372088832) => compact_any s v ws qs W (hs.below hb) hv hU hl hq)
  have HU := hide hU
  have HT := hide ht
  obtain ⟨a2, cap2, rfl, g1, g2, g3⟩ := ht.shape
  have hlr : (Iw rs).length = rs.length := by simp
  rw [hlr] at HC HT ⊢
  clear hs ht hU hl hr g1 g2 g3 hlr
  cases hb : rightB ws rs with
  | false =>
    rw [hb, show chkE false = 11 from rfl] at HC
    clear hb
    go_enter Try.func7, Try.ntmps7
    go_wp2_with fail
    refine Calls.mono (lawake15_any askC w) ?_
    rintro e w1 ⟨rfl, b1⟩
    have HB1 := hide b1
    clear b1
    go_wp2_with fail
    refine Calls.mono (unhide HC w1 (unhide HB1)) ?_
    rintro e w2 ⟨vo, vr, vp, l, rfl, hli, hcd, b2⟩
    obtain ⟨po, co, rfl⟩ := ownsV_shape hcd.1
    obtain ⟨pr, cr, rfl⟩ := ownsV_shape hcd.2.1
    obtain ⟨pp, cp, rfl⟩ := ownsV_shape hcd.2.2
    have HB2 := hide ((unhide HB1).trans (b2.mono (unhide HB1).size))
    clear b2 hli hcd HC
    go_wp2_with fail
    go_ret
    exact ⟨rfl, unhide HB2⟩
  | true =>
    rw [hb, show chkE true = 0 from rfl] at HC
    have HR := hide hb
    clear hb
    go_enter Try.func7, Try.ntmps7
    go_wp2_with fail
    refine Calls.mono (lawake15_any askC w) ?_
    rintro e w1 ⟨rfl, b1⟩
    have HB1 := hide b1
    clear b1
    go_wp2_with fail
    refine Calls.mono (unhide HC w1 (unhide HB1)) ?_
    rintro e w2 ⟨vo, vr, vp, l, rfl, hli, ⟨ho, hro, hpo⟩, b2⟩
    have hlv := hli.1 (unhide HR)
    have hRt := rts_live (unhide HU) (unhide HR) hlv
    unfold outW at ho
    unfold outR at hro
    unfold outP at hpo
    rw [if_pos (unhide HR)] at ho hro hpo
    have hlenW := cW_len hRt.toLiv
    have hall := hRt.toLiv.all hRt.pos
    have hmo := hRt.most
    have hU2 := cW_u32 hRt.toLiv
    have hRl : (cR ws l rs).length = rs.length := by unfold cR; rw [List.length_map]
    have HFW := hide hRt.few
    have HRT := hide hRt
    obtain ⟨po, co, rfl⟩ := ownsV_shape ho
    obtain ⟨pr, cr, rfl⟩ := ownsV_shape hro
    obtain ⟨pp, cp, rfl⟩ := ownsV_shape hpo
    have HVX := hide (vrow_of_owns (vs := Uw (cW ws l)) (s := .slice po (cW ws l).length co) (by simpa [Uw] using ho))
    have HVR := hide (vrow_of_owns (vs := Iw (cR ws l rs)) (s := .slice pr (cR ws l rs).length cr) (by simpa [Iw] using hro))
    have HC2 := hide (fun qs W v (hb : Below w2.heap.size w2 W) (hv : VRow W v (Iw qs)) (hq : qs.length ≤ 16) => compact_any _ v (cW ws l) qs W ((unhide HVX).below hb) hv hU2 (by omega) (by omega))
    have HB2 := hide ((unhide HB1).trans (b2.mono (unhide HB1).size))
    rw [hRl] at HVR ⊢
    obtain ⟨m, hm⟩ : ∃ m, m = rs.length := ⟨_, rfl⟩
    have HM := hide hm
    rw [← hm] at HVR HFW HT ⊢
    obtain ⟨X, hX⟩ : ∃ X, X = (cW ws l).length := ⟨_, rfl⟩
    rw [← hX] at HC2 ⊢
    clear hX hRl hlenW hall hmo hU2 ho hro hpo hRt hlv hli b2 HC hm
    go_wp2_with fail
    go_loopw [11, 12, 13] (fun sv tv iv wr => ∃ (k n : Nat) (S : List Int) (p1 : Option Addr) (c1 : Nat) (p2 : Option Addr) (c2 : Nat), iv = .int .i64 (k : Int) ∧ k ≤ m ∧ sv = .slice p1 n c1 ∧ tv = .slice p2 n c2 ∧ n ≤ k ∧ Hid (n = S.length ∧ Som wr w2 rs S (S.map (toA ws l)) (.slice p1 n c1) (.slice p2 n c2))) (fun _ _ iv _ => m - (intOf iv).toNat)
    case atStart => exact ⟨0, 0, [], none, 0, none, 0, rfl, Nat.zero_le _, rfl, rfl, Nat.le_refl _, rfl, ⟨fun x hx => by simp at hx, World.ownsRow_nil _ _ _ _, World.ownsRow_nil _ _ _ _, fun b hb => (by simp [Value.ownBlock] at hb), Below.refl _ _⟩⟩
    case round =>
      obtain ⟨k, n, S, p1, c1, p2, c2, rfl, hk, rfl, rfl, hnk, hst⟩ := hrel
      have hkw : IntKind.i64.wrap ((k : Int) + 1) = (k : Int) + 1 := by have := unhide HFW; rw [IntKind.wrap_i64]; omega
      by_cases hlt : k < m
      · have hkI : (k : Int) < (m : Int) := by omega
        have hkR : k < rs.length := by have := unhide HM; omega
        obtain ⟨hnS, hSo⟩ := unhide hst
        obtain ⟨b1, o1, z1, e1, _, _, hc1⟩ := (unhide HT).open (by intro e; have := congrArg List.length e; simp at this; rw [this] at hkR; simp at hkR)
        simp only [Value.slice.injEq] at e1
        obtain ⟨rfl, e1, rfl⟩ := e1
        obtain ⟨b2, o2, z2, e2, _, _, hc2⟩ := (unhide HVR).open (by intro e; have := congrArg List.length e; unfold cR at this; simp at this; rw [this] at hkR; simp at hkR)
        simp only [Value.slice.injEq] at e2
        obtain ⟨rfl, e2, rfl⟩ := e2
        have d1 := hc1 k (.int .i64 rs[k]) (by rw [List.getElem?_map, List.getElem?_eq_getElem hkR]; rfl)
        have d2 := hc2 k (.int .i64 (toA ws l rs[k])) (by unfold cR; rw [List.getElem?_map, List.getElem?_map, List.getElem?_eq_getElem hkR]; rfl)
        have hbw := (unhide HB2).trans (hSo.bel.mono (unhide HB2).size)
        have f1 := (hbw.cell (World.block_lt_of_cell? _ _ d1)).trans d1
        have f2 := (hSo.bel.cell (World.block_lt_of_cell? _ _ d2)).trans d2
        have HCD := hide (fun W (hW : Below w2.heap.size w2 W) => (hW.cell (World.block_lt_of_cell? _ _ d2)).trans d2)
        have HMEM := hide (show rs[k] ∈ rs from List.getElem_mem hkR)
        have HQ := hide (show toA ws l rs[k] = toA ws l rs[k] from rfl)
        generalize rs[k] = px at *
        obtain ⟨qx, hqx⟩ : ∃ qx, qx = toA ws l px := ⟨_, rfl⟩
        rw [← hqx] at d2 f2 HCD
        have HQX := hide hqx
        have HSO := hide hSo
        have HNS := hide hnS
        have HLT := hide hlt
        have hnk' := hnk
        clear hc1 hc2 e1 e2 d1 d2 hqx hSo hnS hbw hst hlt hkR
        go_wp2_with fail
        · have HZB : Hid (∀ k, (Value.slice p1 n c1).ownBlock = some k → k < wr.heap.size) := fun k hk => ((unhide HSO).one.lt k hk).2
          have HS1 := hide (show S.length ≤ 16 by have := unhide HNS; have := unhide HFW; omega)
          have HS2 := hide (show (S.map (toA ws l)).length ≤ 16 by rw [List.length_map]; exact unhide HS1)
          have HDR := hide (fun (W : World) (h : Som W w2 rs S (S.map (toA ws l)) (.slice p1 n c1) (.slice p2 n c2)) => h.below ((Below.refl _ _).drew))
          have H1a := hide (And.intro (unhide HDR _ ((unhide HSO).alloc (.cells #[.int .i64 px] 3))) (show (wr.alloc (.cells #[.int .i64 px] 3)).drew.cell? ⟨wr.heap.size, 0, none⟩ = some (.int .i64 px) by simp))
          have H1b := hide (And.intro (unhide HDR _ (((unhide HSO).alloc (.cells #[.int .i64 px] 3)).alloc (.cells #[.int .i64 qx] 3))) (And.intro (show ((wr.alloc (.cells #[.int .i64 px] 3)).alloc (.cells #[.int .i64 qx] 3)).drew.cell? ⟨wr.heap.size, 0, none⟩ = some (.int .i64 px) by simp) (show ((wr.alloc (.cells #[.int .i64 px] 3)).alloc (.cells #[.int .i64 qx] 3)).drew.cell? ⟨wr.heap.size + 1, 0, none⟩ = some (.int .i64 qx) by simp)))
          have H1c := hide (And.intro (unhide HDR _ (((unhide HSO).alloc (.cells #[.int .i64 qx] 3)).alloc (.cells #[.int .i64 px] 3))) (And.intro (show ((wr.alloc (.cells #[.int .i64 qx] 3)).alloc (.cells #[.int .i64 px] 3)).drew.cell? ⟨wr.heap.size + 1, 0, none⟩ = some (.int .i64 px) by simp) (show ((wr.alloc (.cells #[.int .i64 qx] 3)).alloc (.cells #[.int .i64 px] 3)).drew.cell? ⟨wr.heap.size, 0, none⟩ = some (.int .i64 qx) by simp)))
          have H2a := hide (fun (v6 : Value) (w6 : World) (h : Som w6 w2 rs (S ++ [px]) (S.map (toA ws l)) v6 (.slice p2 n c2)) => And.intro (h.alloc (.cells #[.int .i64 qx] 3)) (show (w6.alloc (.cells #[.int .i64 qx] 3)).cell? ⟨w6.heap.size, 0, none⟩ = some (.int .i64 qx) by simp))
          have g2 : (wr.alloc (.cells #[.int .i64 px] 3)).drew.cell? ⟨b2, o2 + k, none⟩ = some (.int .i64 qx) := (((Below.refl wr.heap.size wr).alloc (Nat.le_refl _) (.cells #[.int .i64 px] 3)).drew.cell (World.block_lt_of_cell? _ _ f2)).trans f2
          have g1 : (wr.alloc (.cells #[.int .i64 qx] 3)).drew.cell? ⟨b1, o1 + k, none⟩ = some (.int .i64 px) := (((Below.refl wr.heap.size wr).alloc (Nat.le_refl _) (.cells #[.int .i64 qx] 3)).drew.cell (World.block_lt_of_cell? _ _ f1)).trans f1
          go_region_law (first
            | (refine step_som1 (base0 := wr.heap.size) (rs := rs) (S1 := S) (S2 := S.map (toA ws l)) (sv := .slice p1 n c1) (tv := .slice p2 n c2) rfl (.tmp 46) (.tmp 51) rfl rfl wr.heap.size rfl px (unhide HMEM) (unhide HS1) (unhide H1a).1 (unhide HZB) (unhide H1a).2 ?_; intro v6 w6 h6 k6; have f6 := unhide HCD w6 h6.bel)
            | (refine step_som1 (base0 := wr.heap.size) (rs := rs) (S1 := S) (S2 := S.map (toA ws l)) (sv := .slice p1 n c1) (tv := .slice p2 n c2) rfl (.tmp 46) (.tmp 51) rfl rfl wr.heap.size rfl px (unhide HMEM) (unhide HS1) (unhide H1b).1 (unhide HZB) (unhide H1b).2.1 ?_; intro v6 w6 h6 k6; have q6 := k6 _ _ (Nat.le_succ _) (unhide H1b).2.2; have f6 := unhide HCD w6 h6.bel)
            | (refine step_som1 (base0 := wr.heap.size) (rs := rs) (S1 := S) (S2 := S.map (toA ws l)) (sv := .slice p1 n c1) (tv := .slice p2 n c2) rfl (.tmp 46) (.tmp 51) rfl rfl (wr.heap.size + 1) rfl px (unhide HMEM) (unhide HS1) (unhide H1c).1 (unhide HZB) (unhide H1c).2.1 ?_; intro v6 w6 h6 k6; have q6 := k6 _ _ (Nat.le_refl _) (unhide H1c).2.2; have f6 := unhide HCD w6 h6.bel)
            | (refine step_som2 (rs := rs) (S1 := S ++ [px]) (S2 := S.map (toA ws l)) (sv := v6) (tv := .slice p2 n c2) rfl (.tmp 53) (.tmp 58) rfl rfl w6.heap.size rfl qx (unhide HS2) (unhide H2a _ _ h6).1 (unhide H2a _ _ h6).2 ?_; intro v7 w7 h7)
            | (refine step_som2 (rs := rs) (S1 := S ++ [px]) (S2 := S.map (toA ws l)) (sv := v6) (tv := .slice p2 n c2) rfl (.tmp 53) (.tmp 58) rfl rfl _ rfl qx (unhide HS2) h6 q6 ?_; intro v7 w7 h7))
          all_goals
            obtain ⟨p7, c7, rfl⟩ := ownsV_shape h7.one
            obtain ⟨p8, c8, rfl⟩ := ownsV_shape h7.two
            have HF := hide (show S.length + 1 = (S ++ [px]).length ∧ Som w7 w2 rs (S ++ [px]) ((S ++ [px]).map (toA ws l)) (.slice p7 (n + 1) c7) (.slice p8 (n + 1) c8) from by
              have e1 : (S ++ [px]).length = n + 1 := by rw [List.length_append, unhide HNS]; rfl
              have e2 : (S.map (toA ws l) ++ [qx]).length = n + 1 := by rw [List.length_append, List.length_map, unhide HNS]; rfl
              have h8 := h7
              rw [e1, e2] at h8
              refine ⟨by simp, ?_⟩
              rw [List.map_append, List.map_cons, List.map_nil, ← unhide HQX]
              exact h8)
            rw [show (S ++ [px]).length = n + 1 by rw [List.length_append, unhide HNS]; rfl, show (S.map (toA ws l) ++ [qx]).length = n + 1 by rw [List.length_append, List.length_map, unhide HNS]; rfl]
            clear h7
            go_wp2_with fail
            go_roundw
            case rel => exact ⟨k + 1, n + 1, S ++ [px], p7, c7, p8, c8, by go_num, unhide HLT, rfl, rfl, Nat.succ_le_succ hnk', by rw [unhide HNS]; exact (unhide HF).1, (unhide HF).2⟩
            case measure => (have := unhide HLT; simp [intOf]; omega)
        · go_roundw
          case rel => exact ⟨k + 1, n, S, p1, c1, p2, c2, by go_num, unhide HLT, rfl, rfl, Nat.le_succ_of_le hnk', unhide HNS, unhide HSO⟩
          case measure => (have := unhide HLT; simp [intOf]; omega)
      · have hke : k = m := by omega
        subst hke
        have hge : ¬ (k : Int) < (k : Int) := by omega
        obtain ⟨hnS, hSo⟩ := unhide hst
        have hRt := unhide HRT
        have hfw := unhide HFW
        have hR := unhide HR
        have hSq : S.length ≤ 16 := by omega
        have hS0 : ∀ r ∈ S, r = 0 ∨ r ∈ l := fun r hr => hRt.root r (hSo.mem r hr)
        have hRS : rightB ws S = true := by
          obtain ⟨r1, r2, r3⟩ := right_iff'.1 hR
          exact right_iff'.2 ⟨r1, hSq, fun r hr => r3 r (hSo.mem r hr)⟩
        have hbw := (unhide HB2).trans (hSo.bel.mono (unhide HB2).size)
        have hv1 := vrow_of_owns (vs := Iw S) (s := .slice p1 n c1) (by have := hSo.one; simpa [Iw] using this)
        have hv2 := vrow_of_owns (vs := Iw (cR ws l S)) (s := .slice p2 n c2) (by have := hSo.two; unfold cR; simpa [Iw] using this)
        have HCA := hide (unhide HC3 S wr _ hbw hv1 (by omega))
        have HCB := hide (fun W (hW : Below wr.heap.size wr W) => unhide HC2 (cR ws l S) W _ (hSo.bel.trans (hW.mono hSo.bel.size)) (hv2.below hW) (by unfold cR; rw [List.length_map]; exact hSq))
        have HTW := hide (fun m (hm : LiveIs ws S m) l2 h2 => twice_of (l2 := l2) hRt hS0 hSq hm h2)
        have HRS := hide hRS
        have HBW := hide hbw
        rw [hRS, show chkE true = 0 from rfl] at HCA
        clear hnS hSo hRt hfw hR hSq hS0 hRS hbw hv1 hv2 hst hlt hk hkw hnk HC3 HC2
        go_wp2_with fail
        refine Calls.mono (unhide HCA) ?_
        rintro e w4 ⟨vo, vr, vp, m, rfl, hli, ⟨ho, hro, hpo⟩, b4⟩
        have HTW2 := hide (unhide HTW m (hli.1 (unhide HRS)))
        unfold outW at ho
        unfold outR at hro
        rw [if_pos (unhide HRS)] at ho hro
        obtain ⟨po4, co4, rfl⟩ := ownsV_shape ho
        obtain ⟨pr4, cr4, rfl⟩ := ownsV_shape hro
        obtain ⟨pp4, cp4, rfl⟩ := ownsV_shape hpo
        have HVA := hide (And.intro (vrow_of_owns (vs := Uw (cW ws m)) (s := .slice po4 (cW ws m).length co4) (by simpa [Uw] using ho)) (vrow_of_owns (vs := Iw (cR ws m S)) (s := .slice pr4 (cR ws m S).length cr4) (by simpa [Iw] using hro)))
        have HB4 := hide ((unhide HBW).trans (b4.mono (unhide HBW).size))
        have HCB4 := hide (unhide HCB w4 b4)
        clear hli ho hro hpo b4 HCA HCB HTW
        go_wp2_with fail
        refine Calls.mono (unhide HCB4) ?_
        rintro e w5 ⟨vo, vr, vp, l2, rfl, hli, ⟨ho, hro, hpo⟩, b5⟩
        obtain ⟨t1, t2, t3, t4⟩ := unhide HTW2 l2 hli
        rw [t1, show chkE true = 0 from rfl]
        rw [t3] at ho
        rw [t4] at hro
        obtain ⟨po5, co5, rfl⟩ := ownsV_shape ho
        obtain ⟨pr5, cr5, rfl⟩ := ownsV_shape hro
        obtain ⟨pp5, cp5, rfl⟩ := ownsV_shape hpo
        have HVB := hide (And.intro (vrow_of_owns (vs := Uw (cW ws m)) (s := .slice po5 (cW ws m).length co5) (by simpa [Uw] using ho)) (vrow_of_owns (vs := Iw (cR ws m S)) (s := .slice pr5 (cR ws m S).length cr5) (by simpa [Iw] using hro)))
        have HVA5 := hide (And.intro ((unhide HVA).1.below b5) ((unhide HVA).2.below b5))
        have HB5 := hide ((unhide HB4).trans (b5.mono (unhide HB4).size))
        clear hli ho hro hpo b5 HCB4 HTW2 HVA HB4 t1 t2 t3 t4
        go_wp2_with fail
        refine Calls.mono (HU32.plain_any _ _ (cW ws m) w5 (unhide HVA5).1 (unhide HVB).1) ?_
        rintro e w6 ⟨rfl, b6⟩
        have HV6 := hide (And.intro ((unhide HVA5).2.below b6) ((unhide HVB).2.below b6))
        have HB6 := hide ((unhide HB5).trans (b6.mono (unhide HB5).size))
        clear b6 HVA5 HVB HB5
        go_wp2_with fail
        refine Calls.mono (HInt.plain_any _ _ (cR ws m S) w6 (unhide HV6).1 (unhide HV6).2) ?_
        rintro e w7 ⟨rfl, b7⟩
        have HB7 := hide ((unhide HB6).trans (b7.mono (unhide HB6).size))
        clear b7 HV6 HB6
        go_wp2_with fail
        go_ret
        exact ⟨rfl, unhide HB7⟩

theorem walk_ThreadRoots (s0 : Value) (d0 : Dt) (s1 : Value) (d1 : Dt) (a2 : Int) (_w2 : (Lit.int .i64 a2).wf = true) (w : World) (h0 : Reads limSaid w (.row 4 (.int .u32)) [s0] d0) (h1 : Reads limSaid w (.row 8 (.int .i64)) [s1] d1) :
    Calls Try.prog 7 #[s0, s1, .int .i64 a2] w fun e w' => e = .returned (.bool true) ∧ Below w.heap.size w w' := by
  obtain ⟨ws, r0, l0, u0⟩ := nums_of_reads h0
  obtain ⟨rs, r1, l1, u1⟩ := nums_of_reads h1
  unfold limSaid reachBytes at l0 l1
  exact roots_any s0 s1 ws rs a2 w r0 r1 (u32_of15r u0) (by omega) (by omega)
end Go.Proofs.Ytegefnchkgkmgaa
