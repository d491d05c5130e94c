/- The walk of the statement 'ThreadCompacts'. -/
import Derived.Test.YtegefnchkgkmgaaG19
import Derived.Test.YtegefnchkgkmgaaG21
import Derived.Test.YtegefnchkgkmgaaG24
import Derived.Test.YtegefnchkgkmgaaG26
namespace Go.Proofs.Ytegefnchkgkmgaa
open Go.RowKit

theorem u32_of15 {ws : List Int} (h : ∀ x ∈ ws, (Lit.int .u32 x).wf = true) : U32 ws := fun x hx => by
  have := bounds_u32 (h x hx)
  omega
/-- What is answered, as rows that are read. -/
def CmpR (w : World) (ws rs l : List Int) (vo vr vp : Value) : Prop := VRow w vo (Uw (outW ws rs l)) ∧ VRow w vr (Iw (outR ws rs l)) ∧ PR w vp (outP ws rs l)
theorem CmpD.rows {w : World} {base : Nat} {ws rs l : List Int} {vo vr vp : Value} (h : CmpD w base ws rs l vo vr vp) : CmpR w ws rs l vo vr vp :=
  ⟨vrow_of_owns (by simpa [Uw] using h.1), vrow_of_owns (by simpa [Iw] using h.2.1), pr_of_owns h.2.2⟩
theorem CmpR.below {w w' : World} {ws rs l : List Int} {vo vr vp : Value} (h : CmpR w ws rs l vo vr vp) (hb : Below w.heap.size w w') : CmpR w' ws rs l vo vr vp := ⟨h.1.below hb, h.2.1.below hb, h.2.2.below hb⟩
theorem outP_len {ws rs l : List Int} (hU : U32 ws) (h : LivD ws rs l) : (outP ws rs l).length < 35184372088832 := by
  unfold outP
  split
  · rename_i hb
    have := liv_count (rts_of hU hb (h.1 hb))
    unfold posL
    rw [List.length_map]; omega
  · simp

set_option maxRecDepth 20000 in
set_option maxHeartbeats 4000000 in
theorem compacts_any (s t : Value) (ws rs : List Int) (a : Int) (w : World) (hs : VRow w s (Uw ws)) (ht : VRow w t (Iw rs)) (hU : U32 ws) (hl : (ws.length + 3) * 4 ≤ 140737488355328) (hr : (rs.length + 3) * 8 ≤ 140737488355328) :
    Calls Try.prog 3 #[s, t, .int .i64 a] w fun e w' => e = .returned (.bool true) ∧ Below w.heap.size w w' := by
  have HOW := hide (HU32.own_any s ws 71 w hs hl)
  have HOR := hide (fun w' (hb : Below w.heap.size w w') => HInt.own_any t rs 71 w' (ht.below hb) hr)
  have hl2 : ws.length < 70368744177664 := by omega
  have hr2 : rs.length < 35184372088832 := by omega
  have hm1 : ws.length + 3 ≤ maxLen := by unfold maxLen; omega
  have hm2 : rs.length + 3 ≤ maxLen := by unfold maxLen; omega
  have HK := hide (fun W (g : Nat) (h : HU32.Owned W g ws 71) (hb : Below w.heap.size w W) => HU32.kept_any g s ws 71 W h (hs.below hb) hl)
  have HK2 := hide (fun W (g : Nat) (h : HInt.Owned W g rs 71) (hb : Below w.heap.size w W) => HInt.kept_any g t rs 71 W h (ht.below hb) hr)
  have HML := hide (fun W (g g' : Nat) (h : HU32.Owned W g ws 71) (h' : HInt.Owned W g' rs 71) => compact_any _ _ ws rs W (h.row hm1) (h'.row hm2) hU hl2 hr2)
  have HRL := hide (fun W (hb : Below w.heap.size w W) => rcompact_any s t ws rs W (hs.below hb) (ht.below hb) hU)
  have HPL := hide (fun l (h : LivD ws rs l) => outP_len hU h)
  have HU := hide hU
  generalize chkE (rightB ws rs) = E at *
  clear hs ht hU hl hr hl2 hr2 hm1 hm2
  go_enter Try.func3, Try.ntmps3
  go_wp2_with fail
  refine Calls.mono (unhide HOW) ?_
  rintro e w1 ⟨g, rfl, hg, ho1, b1⟩
  have HO1 := hide ho1
  have HB1 := hide b1
  clear ho1 b1 hg HOW
  go_wp2_with fail
  refine Calls.mono (unhide HOR w1 (unhide HB1)) ?_
  rintro e w2 ⟨g', rfl, hg', ho2, b2⟩
  have HO2 := hide (And.intro ((unhide HO1).below b2) ho2)
  have HB2 := hide ((unhide HB1).trans (b2.mono (unhide HB1).size))
  clear ho2 b2 hg' HOR HO1 HB1
  go_wp2_with fail
  refine Calls.mono (unhide HML w2 g g' (unhide HO2).1 (unhide HO2).2) ?_
  rintro e w3 ⟨vo, vr, vp, l, rfl, hli, hcd, b3⟩
  have HB3 := hide b3
  have HCD := hide hcd
  obtain ⟨po, co, rfl⟩ := ownsV_shape hcd.1
  obtain ⟨pr, cr, rfl⟩ := ownsV_shape hcd.2.1
  obtain ⟨pp, cp, rfl⟩ := ownsV_shape hcd.2.2
  have HR3 := hide hcd.rows
  have HC3 := hide (Below.refl w3.heap.size w3)
  have HLI := hide hli
  have HPB := hide (unhide HPL l hli)
  clear hli hcd b3 HPL HML
  go_wp2_with fail
  refine Calls.mono (unhide HRL w3 ((unhide HB2).trans ((unhide HB3).mono (unhide HB2).size))) ?_
  rintro e w4 ⟨vo2, vr2, vp2, m, rfl, hlm, hcd, b4⟩
  obtain rfl : l = m := (unhide HLI).unique hlm
  have HB4 := hide ((unhide HB3).trans (b4.mono (unhide HB3).size))
  have HC4 := hide ((unhide HC3).trans (b4.mono (unhide HC3).size))
  have HR4 := hide (And.intro ((unhide HR3).below b4) hcd.rows)
  obtain ⟨po2, co2, rfl⟩ := ownsV_shape hcd.1
  obtain ⟨pr2, cr2, rfl⟩ := ownsV_shape hcd.2.1
  obtain ⟨pp2, cp2, rfl⟩ := ownsV_shape hcd.2.2
  clear hlm hcd b4 HB3 HR3 HRL
  go_wp2_with fail
  refine Calls.mono (lawake15_any askC w4) ?_
  rintro e w5 ⟨rfl, b5⟩
  have HB5 := hide ((unhide HB4).trans (b5.mono (unhide HB4).size))
  have HC5 := hide ((unhide HC4).trans (b5.mono (unhide HC4).size))
  have HR5 := hide (And.intro ((unhide HR4).1.below b5) ((unhide HR4).2.below b5))
  clear b5 HR4
  go_wp2_with fail
  refine Calls.mono (HU32.plain_any _ _ (outW ws rs l) w5 (unhide HR5).1.1 (unhide HR5).2.1) ?_
  rintro e w6 ⟨rfl, b6⟩
  have HB6 := hide ((unhide HB5).trans (b6.mono (unhide HB5).size))
  have HC6 := hide ((unhide HC5).trans (b6.mono (unhide HC5).size))
  have HR6 := hide (And.intro ((unhide HR5).1.below b6) ((unhide HR5).2.below b6))
  clear b6 HR5 HB5
  go_wp2_with fail
  refine Calls.mono (HInt.plain_any _ _ (outR ws rs l) w6 (unhide HR6).1.2.1 (unhide HR6).2.2.1) ?_
  rintro e w7 ⟨rfl, b7⟩
  have HB7 := hide ((unhide HB6).trans (b7.mono (unhide HB6).size))
  have HC7 := hide ((unhide HC6).trans (b7.mono (unhide HC6).size))
  have HR7 := hide (And.intro ((unhide HR6).1.below b7) ((unhide HR6).2.below b7))
  clear b7 HR6 HB6
  go_wp2_with fail
  refine Calls.mono (plainp_any _ _ (outP ws rs l) w7 (unhide HR7).1.2.2 (unhide HR7).2.2.2 (unhide HPB)) ?_
  rintro e w8 ⟨rfl, b8⟩
  have HB8 := hide ((unhide HB7).trans (b8.mono (unhide HB7).size))
  have HC8 := hide ((unhide HC7).trans (b8.mono (unhide HC7).size))
  have HR8 := hide (And.intro ((unhide HR7).1.below b8) ((unhide HR7).2.below b8))
  clear b8 HR7 HB7
  go_wp2_with fail
  refine Calls.mono (follow_any _ (outP ws rs l) a w8 (unhide HR8).1.2.2 (unhide HPB)) ?_
  rintro e w9 ⟨rfl, b9⟩
  have HB9 := hide ((unhide HB8).trans (b9.mono (unhide HB8).size))
  have HC9 := hide ((unhide HC8).trans (b9.mono (unhide HC8).size))
  have HR9 := hide ((unhide HR8).2.below b9)
  clear b9 HR8 HB8
  go_wp2_with fail
  refine Calls.mono (rfollow_any _ (outP ws rs l) a w9 (unhide HR9).2.2 (unhide HPB)) ?_
  rintro e w10 ⟨rfl, hw⟩
  obtain rfl := hw.symm
  have hXL : (outW ws rs l).length ≤ 1048577 := by
    unfold outW
    split
    · rename_i hb
      have hR := rts_of (unhide HU) hb ((unhide HLI).1 hb)
      have h1 := cW_len hR.toLiv
      have h2 := hR.toLiv.all hR.pos
      have h3 := hR.most
      omega
    · simp
  have HX0 := hide (show 0 < (outW ws rs l).length → ∃ bx, po = some ⟨bx, 0, none⟩ ∧ w2.heap.size ≤ bx ∧ ∃ cur : Array Value, w9.heap[bx]? = some (.cells cur 25 (0, 0)) ∧ (outW ws rs l).length ≤ cur.size from fun hp => by
    rcases (unhide HCD).1.2 with ⟨h1, h2⟩ | ⟨bx, cap, cur, h1, a1, a2, a3, a4, a5, a6⟩
    · omega
    · simp only [Value.slice.injEq] at h1
      obtain ⟨rfl, _, rfl⟩ := h1
      exact ⟨bx, rfl, a1, cur, ((unhide HC9).block bx (Array.getElem?_eq_some_iff.1 a2).1).trans a2, by omega⟩)
  generalize fndP (outP ws rs l) a = FA at *
  generalize (outW ws rs l).length = n at *
  have HXL := hide hXL
  clear hXL HR9 HLI HPB HCD
  go_wp2_with fail
  go_loopw [17] (fun i wr => ∃ k : Nat, k ≤ n ∧ i = .int .i64 (k : Int) ∧ Hid ((0 < n → ∃ bx, po = some ⟨bx, 0, none⟩ ∧ w2.heap.size ≤ bx ∧ ∃ cur : Array Value, wr.heap[bx]? = some (.cells cur 25 (0, 0)) ∧ n ≤ cur.size) ∧ Below w2.heap.size w2 wr)) (fun i _ => n - (intOf i).toNat)
  case atStart => exact ⟨0, Nat.zero_le _, rfl, unhide HX0, unhide HB9⟩
  case round =>
    clear HX0 HB9
    obtain ⟨k, hk, rfl, hst⟩ := hrel
    have hkw : IntKind.i64.wrap ((k : Int) + 1) = (k : Int) + 1 := by have := unhide HXL; rw [IntKind.wrap_i64]; omega
    by_cases hlt : k < n
    · have hkI : (k : Int) < (n : Int) := by omega
      obtain ⟨hx, hbw⟩ := unhide hst
      obtain ⟨bx, rfl, hbx, cur, hcur, hcs⟩ := hx (by omega)
      have c0 : wr.cell? ⟨bx, k, none⟩ = some (cur[k]'(by omega)) := by
        rw [cell_of_row wr bx k _ _ (0, 0) hcur]
        simp [show k < cur.size by omega]
      have hfz : ∀ j, wr.frozen? ⟨bx, j, none⟩ = false := fun j => frozen_of_block hcur
      generalize cur[k]'(by omega) = y at *
      have HF := hide (show (0 < n → ∃ b, some (⟨bx, 0, none⟩ : Addr) = some ⟨b, 0, none⟩ ∧ w2.heap.size ≤ b ∧ ∃ cur : Array Value, (wr.setCell ⟨bx, k, none⟩ (.int .u32 99)).heap[b]? = some (.cells cur 25 (0, 0)) ∧ n ≤ cur.size) ∧ Below w2.heap.size w2 (wr.setCell ⟨bx, k, none⟩ (.int .u32 99)) from ⟨fun _ => ⟨bx, rfl, hbx, _, heap_setCell_same wr bx k _ _ _ hcur, by simpa using hcs⟩, hbw.setCell (p := ⟨bx, k, none⟩) hbx _⟩)
      have HLT := hide hlt
      clear hx hbw hbx hcur hcs hst hlt hk
      go_wp2_with fail
      go_roundw
      case rel => exact ⟨k + 1, unhide HLT, by go_num, unhide HF⟩
      case measure => (have := unhide HLT; simp [intOf]; omega)
    · have hke : k = n := by omega
      subst hke
      have hge : ¬ (k : Int) < (k : Int) := by omega
      have HBR := hide (unhide hst).2
      clear hst hlt hk hkw
      rename World => wr
      have HBW := hide ((unhide HB2).trans ((unhide HBR).mono (unhide HB2).size))
      have HO10 := hide (And.intro ((unhide HO2).1.below (unhide HBR)) ((unhide HO2).2.below (unhide HBR)))
      go_wp2_with fail
      refine Calls.mono (unhide HK wr g (unhide HO10).1 (unhide HBW)) ?_
      rintro e w11 ⟨rfl, b11⟩
      have HO11 := hide ((unhide HO10).2.below b11)
      have HB11 := hide ((unhide HBW).trans (b11.mono (unhide HBW).size))
      clear b11 HO10
      go_wp2_with fail
      refine Calls.mono (unhide HK2 w11 g' (unhide HO11) (unhide HB11)) ?_
      rintro e w12 ⟨rfl, b12⟩
      have HB12 := hide ((unhide HB11).trans (b12.mono (unhide HB11).size))
      clear b12
      go_wp2_with fail
      go_ret
      exact ⟨rfl, unhide HB12⟩

theorem walk_ThreadCompacts (s0 : Value) (d0 : Dt) (s1 : Value) (d1 : Dt) (a2 : Int) (_w2 : (Lit.int .i64 a2).wf = true) (w : World) (h0 : Reads limSaid w (.row 4 (.int .u32)) [s0] d0) (h1 : Reads limSaid w (.row 8 (.int .i64)) [s1] d1) :
    Calls Try.prog 3 #[s0, s1, .int .i64 a2] w fun e w' => e = .returned (.bool true) ∧ Below w.heap.size w w' := by
  obtain ⟨ws, r0, l0, u0⟩ := nums_of_reads h0
  obtain ⟨rs, r1, l1, u1⟩ := nums_of_reads h1
  unfold limSaid reachBytes at l0 l1
  exact compacts_any s0 s1 ws rs a2 w r0 r1 (u32_of15 u0) (by omega) (by omega)
end Go.Proofs.Ytegefnchkgkmgaa
