/- Texts of ours, one behind the other: ThCmp. -/
import Derived.Test.YtlbhhdldeaehkaaGreatG16
import Derived.Test.YtlbhhdldeaehkaaGreatG21
import Derived.Test.YtlbhhdldeaehkaaGreatG22
import Derived.Deep.RegionHeld3
/- The landed package thread: Compact. -/
namespace Go.Proofs.YtlbhhdldeaehkaaGreat
open Go.RowKit

theorem vrow_of_lm {w : World} {g N : Nat} {L : List Int} (h : LmAt w g L) (hN : L.length = N) (hM : N ≤ 2097152) : VRow w (.slice (some ⟨g, 0, none⟩) N N) (Lw L) :=
  ⟨_, N, by simp [hN], by simp [hN], by unfold maxLen; omega, by simp, Or.inr ⟨g, 0, rfl, fun j v hj => by
    rw [Nat.zero_add, cell_of_row w g j _ _ (0, 0) h]
    simpa using hj⟩⟩
theorem rts_of {ws rs l : List Int} (hU : U32 ws) (hR : rightB ws rs = true) (h : LiveIs ws rs l) : Rts ws rs l := by
  obtain ⟨r1, r2, r3, r4, r5⟩ := right_parts hR
  exact ⟨Liv.of hU hR h, r1, r3, r4, fun r hr => by
    by_cases h0 : r = 0
    · exact Or.inl h0
    · exact Or.inr ((h.2 r).2 (.root hr h0))⟩

set_option maxRecDepth 20000 in
set_option maxHeartbeats 4000000 in
theorem compact_any (s t : Value) (ws rs : List Int) (w : World) (hs : VRow w s (Uw ws)) (ht : VRow w t (Iw rs)) (hU : U32 ws) (hl : ws.length < 70368744177664) (hr : rs.length < 35184372088832) :
    Calls Tryz.prog 22 #[s, t] w fun e w' => ∃ vo vr vp l, e = .returned (.tuple #[vo, vr, vp, .int .i64 (chkE (rightB ws rs))]) ∧ LivD ws rs l ∧ CmpD w' w.heap.size ws rs l vo vr vp ∧ Below w.heap.size w w' := by
  have HL := hide (mlive_any s t ws rs w hs ht hU hl hr)
  cases hb : rightB ws rs with
  | false =>
    rw [hb, show chkE false = 11 from rfl] at HL
    have HC := hide (show ∀ l w', CmpD w' w.heap.size ws rs l (.slice none 0 0) (.slice none 0 0) (.slice none 0 0) from fun l w' => by
      unfold CmpD outW outR outP
      rw [hb]
      exact ⟨World.ownsRow_nil _ _ _ _, World.ownsRow_nil _ _ _ _, World.ownsRow_nil _ _ _ _⟩)
    clear hs ht hU hb hl hr
    go_enter Tryz.func22, Tryz.ntmps22
    go_wp2_with fail
    refine Calls.mono (unhide HL) ?_
    rintro e w1 ⟨v, l, rfl, hli, hrow, b1⟩
    have HB1 := hide b1
    have HLI := hide hli
    obtain ⟨pv, cv, rfl⟩ := ownsV_shape hrow
    clear hli hrow b1
    go_wp2_with fail
    (try simp only [Exit.inBlock, Exit.then])
    refine bodyPost_ret (results_tmp4 rfl _ _ _) rfl ?_
    exact ⟨_, _, _, l, rfl, unhide HLI, unhide HC l w1, unhide HB1⟩
  | true =>
    rw [hb, show chkE true = 0 from rfl] at HL
    have HR := hide hb
    have HS := hide hs
    have HT := hide ht
    have HU := hide hU
    obtain ⟨a, cap, rfl, g1, g2, g3⟩ := hs.shape
    obtain ⟨a', cap', rfl, k1, k2, k3⟩ := ht.shape
    have hlw : (Uw ws).length = ws.length := by simp
    have hlr : (Iw rs).length = rs.length := by simp
    rw [hlw] at HS HL
    rw [hlr] at HT HL
    rw [hlw, hlr]
    obtain ⟨n, hn⟩ : ∃ n, n = ws.length := ⟨_, rfl⟩
    obtain ⟨m, hm⟩ : ∃ m, m = rs.length := ⟨_, rfl⟩
    have HNM := hide (And.intro hn hm)
    rw [← hn] at HS HL ⊢
    rw [← hm] at HT HL ⊢
    clear hs ht hU hb g1 g2 g3 k1 k2 k3 hlw hlr hl hr hn hm
    go_enter Tryz.func22, Tryz.ntmps22
    go_wp2_with fail
    refine Calls.mono (unhide HL) ?_
    rintro e w1 ⟨v, l, rfl, hli, hrow, b1⟩
    have HV := hide (rts_of (unhide HU) (unhide HR) (hli.1 (unhide HR)))
    have HLI := hide hli
    obtain ⟨pv, cv, rfl⟩ := ownsV_shape hrow
    have hv1 := vrow_of_owns (vs := Iw l) (s := .slice pv l.length cv) (by simpa using hrow)
    have HV1 := hide hv1
    have HB1 := hide b1
    have HMV := hide (lmoves_any _ _ ws rs l w1 ((unhide HS).below b1) hv1 (unhide HV))
    clear hli hrow hv1 b1 HL
    go_wp2_with fail
    refine Calls.mono (unhide HMV) ?_
    rintro e w2 ⟨v2, rfl, hown2, b2⟩
    have hb2 := (unhide HB1).trans (b2.mono (unhide HB1).size)
    have HB2 := hide hb2
    have HPO := hide hown2
    have HNL := hide (lnew_any _ _ _ ws rs l w2 ((unhide HS).below hb2) ((unhide HT).below hb2) ((unhide HV1).below b2) (unhide HV))
    obtain ⟨p2, c2, rfl⟩ := ownsV_shape hown2
    have HB12 := hide b2
    clear hown2 b2 hb2 HMV
    obtain ⟨ee, hee⟩ : ∃ ee, ee = 1 + sums ws l := ⟨_, rfl⟩
    have HEE := hide hee
    rw [← hee]
    clear hee
    go_wp2_with fail
    refine Calls.mono (unhide HNL) ?_
    rintro e w3 ⟨rfl, hat, b3⟩
    obtain ⟨g, hg⟩ : ∃ g, g = w2.heap.size := ⟨_, rfl⟩
    rw [← hg] at hat b3 ⊢
    have HG := hide hg
    have HB3 := hide b3
    obtain ⟨N, hN⟩ : ∃ N, N = ws.length + rs.length := ⟨_, rfl⟩
    have HN := hide hN
    rw [← hN]
    have hV := unhide HV
    have hNM := unhide HNM
    have hmo := hV.most
    have hfw := hV.few
    have hTI := ltieall_any ws rs (fun j L => LmG ws rs l 1 (ws.length + j) 1 L) g ws.length rs.length N (tagL ws rs l) w3 hat (lm_start hV) (by omega) (by omega) (fun j L hj hP => by rw [hN]; exact root_tie hV hj hP)
    rw [← hNM.1, ← hNM.2] at hTI
    have HTI := hide hTI
    clear hat b3 hN hV hNM hmo hfw hTI HNL hg
    go_wp2_with fail
    refine Calls.mono (unhide HTI) ?_
    rintro e w4 ⟨rfl, L4, hP4, hA4, hK4⟩
    have HI1 := hide (show I1 ws rs l 0 L4 from lm_first (unhide HV) (by rw [(unhide HNM).1, (unhide HNM).2] at hP4; exact hP4))
    have HB4 := hide (show Below g w2 w4 from (unhide HB3).trans (hK4.below (by have := hA4.size; have := (unhide HB3).size; have := unhide HG; omega) (fun k hk => by omega)))
    have HA4 := hide hA4
    have HPR := hide (fun wx (hx : Below g w2 wx) => (pr_of_owns (L := l.map fun a => (a, toA ws l a)) (by rw [List.length_map]; exact unhide HPO)).below (by rw [← unhide HG]; exact hx))
    have HOB := hide (show ∀ b, (Value.slice p2 l.length c2).ownBlock = some b → b ≠ g from fun b hb => by have := ((unhide HPO).lt b hb).2; have := unhide HG; omega)
    clear hP4 hA4 hK4 HTI
    go_wp2_with fail
    have hb4 := (unhide HB4).alloc (by have := (unhide HB4).size; have := unhide HG; omega) (.cells #[.func (.func 54) #[] #[], .func (.func 56) #[] #[]] 126)
    have hT1 := through1_any ws rs l g w4.heap.size N _ L4 (w4.alloc (.cells #[.func (.func 54) #[] #[], .func (.func 56) #[] #[]] 126)) (unhide HV) (unhide HN) ((unhide HA4).below ((Below.refl _ _).alloc (Nat.le_refl _) _) (unhide HA4).size) (unhide HI1) (unhide HPR _ hb4) (unhide HOB) (World.alloc_heap_new w4 _) (by have := (unhide HA4).size; omega)
    have HB5 := hide hb4
    refine Calls.mono hT1 ?_
    clear hT1 hb4
    rintro e w5 ⟨rfl, L5, hI5, hA5, hK5⟩
    have hb5 : Below g w2 w5 := (unhide HB5).trans (hK5.below (by have := (unhide HB5).size; have := unhide HG; omega) (fun k hk => by omega))
    have HB6 := hide hb5
    have HA5 := hide hA5
    have HI2 := hide (i2_start (unhide HV) hI5)
    clear hI5 hA5 hK5 hb5 HI1 HA4 HB4 HB5
    go_wp2_with fail
    have hb6 := (unhide HB6).alloc (by have := (unhide HB6).size; have := unhide HG; omega) (.cells #[.func (.func 54) #[] #[], .func (.func 57) #[] #[]] 126)
    have hT2 := through2_any ws rs l g w5.heap.size N _ L5 (w5.alloc (.cells #[.func (.func 54) #[] #[], .func (.func 57) #[] #[]] 126)) (unhide HV) (unhide HN) ((unhide HA5).below ((Below.refl _ _).alloc (Nat.le_refl _) _) (unhide HA5).size) (unhide HI2) (unhide HPR _ hb6) (unhide HOB) (World.alloc_heap_new w5 _) (by have := (unhide HA5).size; omega)
    have HB7 := hide hb6
    refine Calls.mono hT2 ?_
    clear hT2 hb6
    rintro e w6 ⟨rfl, L6, hI6, hA6, hK6⟩
    have hb7 : Below g w2 w6 := (unhide HB7).trans (hK6.below (by have := (unhide HB7).size; have := unhide HG; omega) (fun k hk => by omega))
    have HB8 := hide hb7
    obtain ⟨q1, q2, q3⟩ := i2_end hI6
    have hV := unhide HV
    have hmo := hV.most
    have hfw := hV.few
    have hNN := unhide HN
    have hnm := unhide HNM
    have hcl := cW_len hV.toLiv
    have hall := hV.toLiv.all hV.pos
    have hvr := vrow_of_lm hA6 (N := N) (by omega) (by omega)
    have heN : ee ≤ N := by have := unhide HEE; omega
    obtain ⟨pa, ca, hcut1, hrow1, _⟩ := hvr.cut_h Tryz.underlying95 Tryz.sizeU64l ee (by rw [List.length_map]; omega)
    obtain ⟨pb, cb, hcut2, hrow2, _⟩ := hvr.cut_l Tryz.underlying95 Tryz.sizeU64l n m (by rw [List.length_map]; omega)
    rw [← List.map_take, show L6.take ee = cW ws l by rw [unhide HEE]; exact q2] at hrow1
    rw [← List.map_drop, hnm.1, q3] at hrow2
    have hel : ee = (cW ws l).length := by rw [hcl]; exact unhide HEE
    have hml : m = (cR ws l rs).length := by unfold cR; rw [List.length_map]; exact hnm.2
    have hd6 : Below w6.heap.size w6 w6.drew := (Below.refl _ w6).drew
    have HN1 := hide (narU_any _ (cW ws l) w6.drew (hrow1.below hd6) (cW_u32 hV.toLiv) (by omega))
    have HD6 := hide hd6
    have HN2 := hide (fun w7 (b7 : Below w6.heap.size w6 w7) => narI_any _ (cR ws l rs) w7 (hrow2.below b7) (fun x hx => by
      obtain ⟨r, _, rfl⟩ := List.mem_map.1 hx
      have := hV.toLiv.to_bound r
      omega) (by omega))
    have HEL := hide (And.intro hel hml)
    clear hI6 hA6 hK6 hb7 q1 q2 q3 hV hmo hfw hNN hnm hcl hall hvr hrow1 hrow2 hel hml HI2 HA5 HB6 HB7
    go_wp2_with fail
    go_region_held3 (fun _ => True) (trivial) (first
      | (go_at_call 58; refine Calls.mono (unhide HN1) ?_; rintro e w7 ⟨vo, rfl, ho7, b7⟩; have HO7 := hide ho7; have HB9 := hide ((unhide HD6).trans b7); obtain ⟨po, co, rfl⟩ := ownsV_shape ho7; clear ho7 b7)
      | (go_at_call 59; refine Calls.mono (unhide HN2 w7 (unhide HB9)) ?_; rintro e w8 ⟨vr, rfl, ho8, b8⟩; have HO8 := hide ho8; have HB10 := hide b8; obtain ⟨pr, cr, rfl⟩ := ownsV_shape ho8; clear ho8 b8))
    have HFIN := hide (show CmpD w8 w.heap.size ws rs l (.slice po (cW ws l).length co) (.slice pr (cR ws l rs).length cr) (.slice p2 l.length c2) ∧ Below w.heap.size w w8 from by
      have hbg : Below w.heap.size w2 w6 := (unhide HB8).mono (by rw [unhide HG]; exact (unhide HB2).size)
      have h26 := (unhide HB2).trans hbg
      have h27 := h26.trans ((unhide HB9).mono h26.size)
      have h28 := h27.trans ((unhide HB10).mono h27.size)
      have hB : Below g w2 w8 := ((unhide HB8).trans ((unhide HB9).mono (by have := (unhide HB8).size; have := unhide HG; omega))).trans ((unhide HB10).mono (by have := (unhide HB9).size; have := (unhide HB8).size; have := unhide HG; omega))
      refine ⟨?_, h28⟩
      unfold CmpD outW outR outP
      rw [if_pos (unhide HR), if_pos (unhide HR), if_pos (unhide HR)]
      refine ⟨?_, ?_, ?_⟩
      · have := ownsRow_base_a (unhide HO7) (show w.heap.size ≤ w6.drew.heap.size from h26.size)
        exact ownsV_keep (F := fun _ => False) this (Keep.of_below (unhide HB10)) (fun _ _ => id)
      · exact ownsRow_base_a (unhide HO8) h27.size
      · unfold posL
        rw [List.length_map]
        have := ownsRow_base_a (unhide HPO) (unhide HB1).size
        exact ownsV_keep (F := fun _ => False) this (Keep.of_below (by rw [← unhide HG]; exact hB)) (fun _ _ => id))
    go_wp2_with fail
    (try simp only [Exit.inBlock, Exit.then])
    refine bodyPost_ret (results_tmp4 rfl _ _ _) rfl ?_
    exact ⟨_, _, _, l, rfl, unhide HLI, unhide HFIN⟩
end Go.Proofs.YtlbhhdldeaehkaaGreat
