/- The walk of the statement 'MarkClosed'. -/
import Derived.Test.YtgnfgeebcphglaaG21
namespace Go.Proofs.Ytgnfgeebcphglaa
open Go.RowKit

theorem atR_pts {ws : List Int} {a : Int} (h : isOb ws a) : (atR ws a).2.1 = ptsA ws a ∧ (atR ws a).2.2.2 = 0 := by
  have h0 := atR_ob (ws := ws) (a := a)
  rw [if_pos h] at h0
  refine ⟨?_, h0⟩
  unfold atR at h0 ⊢
  cases hf : fndO ws a with
  | none => rw [hf] at h0; simp at h0
  | some x =>
    unfold fndO at hf
    have h1 := List.mem_of_find?_eq_some hf
    have h2 := List.find?_some hf
    simp only [decide_eq_true_eq] at h2
    obtain ⟨o1, o2, o3⟩ := obs_mem h1
    have e : x.1 = a.toNat := by omega
    obtain ⟨x1, x2⟩ := x
    dsimp only at o2 e
    subst e
    rw [o2]
    rfl
/-- All that the first ones point to. -/
def ledL (ws : List Int) : List Int → List Int
  | [] => []
  | a :: l => ptsA ws a ++ ledL ws l
theorem ledL_snoc (ws : List Int) (l : List Int) (a : Int) : ledL ws (l ++ [a]) = ledL ws l ++ ptsA ws a := by
  induction l with
  | nil => simp [ledL]
  | cons b l ih => simp only [List.cons_append, ledL, ih, List.append_assoc]
theorem ledL_mem {ws l : List Int} {x : Int} : x ∈ ledL ws l ↔ ∃ a ∈ l, x ∈ ptsA ws a := by
  induction l with
  | nil => simp [ledL]
  | cons b l ih => simp [ledL, ih]
theorem ledL_len {ws : List Int} : ∀ {l : List Int}, (∀ a ∈ l, isOb ws a) → (ledL ws l).length ≤ l.length * 255
  | [], _ => Nat.le_refl _
  | a :: l, h => by
    have h1 := ledL_len (l := l) (fun x hx => h x (List.mem_cons_of_mem _ hx))
    have h2 := ptsA_len (h a (List.mem_cons_self ..))
    have h3 := ptN_lt (wd ws a.toNat)
    simp only [ledL, List.length_append, List.length_cons]
    omega

/-- An object that came, beside the row of what was led to. -/
structure LG3 (w : World) (go base wb : Nat) (kd : Int) (pp dd : Value) (P xs : List Int) (lv : Value) : Prop where
  blk : w.heap[go]? = some (.cells #[.int .i64 kd, pp, dd] 41 (0, 0))
  ptr : w.ownsRow wb 3 1 pp P.length (Iw P)
  own : w.ownsRow base 3 1 lv xs.length (Iw xs)
  nb : ∀ b, lv.ownBlock = some b → b ≠ go ∧ pp.ownBlock ≠ some b
theorem LG3.drew {w : World} {go base wb : Nat} {kd : Int} {pp dd lv : Value} {P xs : List Int} (h : LG3 w go base wb kd pp dd P xs lv) : LG3 w.drew go base wb kd pp dd P xs lv := ⟨h.blk, h.ptr, h.own, h.nb⟩
theorem LG3.push {w w2 : World} {go base wb : Nat} {kd x : Int} {pp dd lv lv2 : Value} {P xs : List Int} (h : LG3 w go base wb kd pp dd P xs lv) (hbw : base ≤ w.heap.size) (hown : w2.ownsRow base 3 1 lv2 (xs.length + 1) (Iw xs ++ [.int .i64 x])) (hg : (w.alloc (.cells #[.int .i64 x] 3)).grownBy w2 lv.ownBlock) (hob : lv2.ownBlock = lv.ownBlock ∨ lv2.ownBlock = some (w.heap.size + 1)) :
    LG3 w2 go base wb kd pp dd P (xs ++ [x]) lv2 ∧ Below base w w2 := by
  have hgl : go < w.heap.size := (Array.getElem?_eq_some_iff.1 h.blk).1
  have hkeep : ∀ k, k < w.heap.size → lv.ownBlock ≠ some k → w2.heap[k]? = w.heap[k]? := fun k hk hn =>
    (hg.block k (by rw [World.size_alloc]; omega) (fun e => hn e.symm)).trans (Below.heap_alloc _ _ k hk)
  have hsz := hg.size
  rw [World.size_alloc] at hsz
  refine ⟨⟨(hkeep go hgl (fun e => (h.nb go e).1 rfl)).trans h.blk, ?_, by simpa using hown, fun b hb => ?_⟩, hg.os, hg.tape, hg.output, by omega, fun k hk => hkeep k (by omega) (fun e => by have := (h.own.lt k e).1; omega)⟩
  · exact ownsV_keep (F := fun k => lv.ownBlock = some k) ((ownsV_keep (F := fun _ => False) h.ptr (Keep.of_below ((Below.refl _ _).alloc (Nat.le_refl _) (.cells #[.int .i64 x] 3))) (fun _ _ => id))) ⟨hg.os, hg.tape, hg.output, hg.size, fun k hk hn => hg.block k hk (fun e => hn e.symm)⟩ (fun k hk e => (h.nb k e).2 hk)
  · rcases hob with e | e
    · exact h.nb b (e ▸ hb)
    · rw [e] at hb
      simp only [Option.some.injEq] at hb
      refine ⟨by omega, fun e2 => ?_⟩
      have := (h.ptr.lt b e2).2
      omega

set_option maxRecDepth 20000 in
set_option maxHeartbeats 4000000 in
theorem markclosed_any (s t : Value) (ws rs : List Int) (w : World) (hs : VRow w s (Uw ws)) (ht : VRow w t (Iw rs)) (hU : U32 ws) (hl : ws.length < 70368744177664) (hr : rs.length < 35184372088832) :
    Calls Try.prog 4 #[s, t] w fun e w' => e = .returned (.bool true) ∧ Below w.heap.size w w' := by
  have HL := hide (mlive_any s t ws rs w hs ht hU hl hr)
  cases hR : rightB ws rs with
  | false =>
    rw [hR, show chkE false = 11 from rfl] at HL
    have HR := hide hR
    obtain ⟨a', cap', rfl, k1, k2, k3⟩ := ht.shape
    have hlr : (Iw rs).length = rs.length := by simp
    rw [hlr] at HL ⊢
    clear hs ht hU hl hr hR k1 k2 k3 hlr
    go_enter Try.func4, Try.ntmps4
    go_wp2_with fail
    refine Calls.mono (unhide HL) ?_
    rintro e w1 ⟨v, l, rfl, hli, hrow, b1⟩
    have hl0 := hli.2 (unhide HR)
    subst hl0
    obtain ⟨pv, cv, rfl⟩ := ownsV_shape hrow
    have HB1 := hide b1
    clear hli hrow b1
    go_wp2_with fail
    refine Calls.mono (mawake_any w1) ?_
    rintro e w2 ⟨rfl, b2⟩
    have HB2 := hide ((unhide HB1).trans (b2.mono (unhide HB1).size))
    clear b2
    go_wp2_with fail
    refine Calls.mono (mawake_any w2) ?_
    rintro e w3 ⟨rfl, b3⟩
    have HB3 := hide ((unhide HB2).trans (b3.mono (unhide HB2).size))
    clear b3
    go_wp2_with fail
    go_ret
    exact ⟨rfl, unhide HB3⟩
  | true =>
    rw [hR, show chkE true = 0 from rfl] at HL
    obtain ⟨r1, r2, r3, r4, r5⟩ := right_parts hR
    obtain ⟨i0, hi, hz0, hz1, hz2⟩ := info_parts Try.infoI64
    have HR := hide hR
    have HT := hide ht
    have HRL := hide hr
    have HPL := hide (heap_parts r5).2.2
    have HH := hide r5
    have HWL := hide r2
    have HAT := hide (fun W (hw : Below w.heap.size w W) a => cat_any s ws a W (hs.below hw) hU (Nat.le_trans r2 (by omega)))
    obtain ⟨a', cap', rfl, k1, k2, k3⟩ := ht.shape
    have hlr : (Iw rs).length = rs.length := by simp
    rw [hlr] at HT HL ⊢
    clear hs ht hU hl hr hR k1 k2 k3 hlr r1 r2 r3 r4 r5
    go_enter Try.func4, Try.ntmps4
    go_wp2_with fail
    refine Calls.mono (unhide HL) ?_
    rintro e w1 ⟨v, l, rfl, hli, hrow, b1⟩
    have hLI := hli.1 (unhide HR)
    have hob : ∀ x ∈ l, isOb ws x := fun x hx => rch_ob (unhide HH) ((hLI.2 x).1 hx)
    have HLL := hide (show l.length ≤ 1048576 from Nat.le_trans (obs_count ws l (hLI.1.imp fun {a b} h => by omega) hob) (unhide HWL))
    have HOB := hide hob
    have HLI := hide hLI
    obtain ⟨pv, cv, rfl⟩ := ownsV_shape hrow
    have HV1 := hide (vrow_of_owns (vs := Iw l) (s := .slice pv l.length cv) (by simpa using hrow))
    have HB1 := hide b1
    clear hli hLI hob hrow b1
    go_wp2_with fail
    refine Calls.mono (mawake_any w1) ?_
    rintro e w2 ⟨rfl, b2⟩
    have HV := hide ((unhide HV1).below b2)
    have HB2 := hide ((unhide HB1).trans (b2.mono (unhide HB1).size))
    have HT2 := hide ((unhide HT).below (unhide HB2))
    clear b2 HV1 HB1 HT
    go_wp2_with fail
    go_loopw [7] (fun iv wr => ∃ (k : Nat), iv = .int .i64 (k : Int) ∧ k ≤ rs.length ∧ wr = w2) (fun iv _ => rs.length - (intOf iv).toNat)
    case atStart => exact ⟨0, rfl, Nat.zero_le _, rfl⟩
    case round =>
      obtain ⟨k, rfl, hk, rfl⟩ := hrel
      have hkw : IntKind.i64.wrap ((k : Int) + 1) = (k : Int) + 1 := by have := unhide HRL; rw [IntKind.wrap_i64]; omega
      by_cases hlt : k < rs.length
      · have hkI : (k : Int) < (rs.length : Int) := by omega
        obtain ⟨bt, ot, ct, e9, _, _, htl⟩ := (unhide HT2).open (by intro e; have := congrArg List.length e; simp at this; rw [this] at hlt; simp at hlt)
        simp only [Value.slice.injEq, List.length_map] at e9
        obtain ⟨rfl, e8, rfl⟩ := e9
        have ht0 := htl k (.int .i64 rs[k]) (by rw [List.getElem?_map, List.getElem?_eq_getElem hlt]; rfl)
        have HM := hide (show rs[k] ≠ 0 → rs[k] ∈ l from fun h0 => ((unhide HLI).2 _).2 (.root (List.getElem_mem hlt) h0))
        have HLT := hide hlt
        generalize rs[k] = x at *
        clear htl e8 hlt hk
        by_cases h0 : x = 0
        · subst h0
          go_wp2_with fail
          go_roundw
          case rel => exact ⟨k + 1, by go_num, unhide HLT, by first | rfl | trivial⟩
          case measure => (have := unhide HLT; simp [intOf]; omega)
        · have hne : (x != 0) = true := by simp [h0]
          have HN := hide h0
          clear h0
          go_wp2_with fail
          refine Calls.mono (lhas_any _ l x wr (unhide HV) (by have := unhide HLL; omega)) ?_
          rintro e w7 ⟨⟨B, rfl, hB⟩, rfl⟩
          have hBt : B = true := hB.2 (unhide HM (unhide HN))
          subst hBt
          clear hB
          go_wp2_with fail
          go_roundw
          case rel => exact ⟨k + 1, by go_num, unhide HLT, by first | rfl | trivial⟩
          case measure => (have := unhide HLT; simp [intOf]; omega)
      · have hke : k = rs.length := by omega
        subst hke
        have hge : ¬ (rs.length : Int) < (rs.length : Int) := by omega
        clear hlt hk hkw
        rename World => wo
        go_wp2_with fail
        go_loopw [8, 9] (fun lv iv wz => ∃ (k : Nat), iv = .int .i64 (k : Int) ∧ k ≤ l.length ∧ Hid (wz.ownsRow wo.heap.size 3 1 lv (ledL ws (l.take k)).length (Iw (ledL ws (l.take k)))) ∧ Hid (Below wo.heap.size wo wz)) (fun _ iv _ => l.length - (intOf iv).toNat)
        case atStart => exact ⟨0, rfl, Nat.zero_le _, World.ownsRow_nil _ _ _ _, Below.refl _ _⟩
        case round =>
          obtain ⟨k, rfl, hk, hown, hbz⟩ := hrel
          have hkw : IntKind.i64.wrap ((k : Int) + 1) = (k : Int) + 1 := by have := unhide HLL; rw [IntKind.wrap_i64]; omega
          obtain ⟨p0, c0, rfl⟩ := ownsV_shape (unhide hown)
          by_cases hlt : k < l.length
          · have hkI : (k : Int) < (l.length : Int) := by omega
            have hvz := (unhide HV).below (unhide hbz)
            obtain ⟨bt, ot, ct, e9, _, _, htl⟩ := hvz.open (by intro e; have := congrArg List.length e; simp at this; rw [this] at hlt; simp at hlt)
            simp only [Value.slice.injEq, List.length_map] at e9
            obtain ⟨rfl, e8, rfl⟩ := e9
            have hc0 : ∀ j (hj : j < l.length), wr.cell? ⟨bt, ot + j, none⟩ = some (.int .i64 l[j]) := fun j hj => htl j (.int .i64 l[j]) (by rw [List.getElem?_map, List.getElem?_eq_getElem hj]; rfl)
            have hck := hc0 k hlt
            have hox := unhide HOB l[k] (List.getElem_mem hlt)
            have hrx := ((unhide HLI).2 l[k]).1 (List.getElem_mem hlt)
            have htk := List.take_succ_eq_append_getElem hlt
            have hord : ∀ j (hj : j + 1 < l.length), l[j] < l[j + 1] := fun j hj => (List.pairwise_iff_getElem.1 (unhide HLI).1) j (j + 1) (by omega) hj (by omega)
            have hbw := (unhide HB2).trans ((unhide hbz).mono (unhide HB2).size)
            have HA := hide (unhide HAT wr hbw l[k])
            obtain ⟨hpts, her⟩ := atR_pts hox
            have HPP := hide (And.intro hpts her)
            have HPM := hide (show ∀ p ∈ ptsA ws l[k], p ≠ 0 → p ∈ l from fun p hp h0 => ((unhide HLI).2 p).2 (hrx.ptr hp h0))
            have HPN := hide (show (ptsA ws l[k]).length ≤ 255 by rw [ptsA_len hox]; have := ptN_lt (wd ws l[k].toNat); omega)
            have HTK := hide (show ledL ws (l.take (k + 1)) = ledL ws (l.take k) ++ ptsA ws l[k] by rw [htk, ledL_snoc])
            have HLN := hide (show (ledL ws (l.take k)).length ≤ 267386880 by
              have h1 := ledL_len (ws := ws) (l := l.take k) (fun a ha => unhide HOB a (List.mem_of_mem_take ha))
              rw [List.length_take] at h1
              have := unhide HLL
              have : min k l.length ≤ l.length := Nat.min_le_right _ _
              omega)
            have HOWN := hide (unhide hown)
            have HBZ := hide (unhide hbz)
            have HLT := hide hlt
            have HC0 := hide (show ∀ W, Below wr.heap.size wr W → ∀ j (hj : j < l.length), W.cell? ⟨bt, ot + j, none⟩ = some (.int .i64 l[j]) from fun W hW j hj => (hW.cell (World.block_lt_of_cell? _ _ (hc0 j hj))).trans (hc0 j hj))
            have HORD := hide hord
            clear hvz htl e8 hc0 hox hrx htk hord hbw hpts her hown hbz hk
            generalize hy : l[k] = y at *
            have HY := hide hy
            clear hy hlt
            go_wp2_with fail
            refine Calls.mono (unhide HA) ?_
            rintro e w5 ⟨pp, dd, kd, er, ps, ds, rfl, hat, hop, hod, b5⟩
            rw [hat] at HPP
            obtain ⟨q1, q2⟩ := unhide HPP
            dsimp only at q1 q2
            subst q1 q2
            obtain ⟨pp1, pc1, rfl⟩ := ownsV_shape hop
            obtain ⟨dp1, dc1, rfl⟩ := ownsV_shape hod
            have HOP := hide hop
            have HB5 := hide b5
            have HC5 := hide (unhide HC0 w5 b5)
            clear hat hop hod b5 HPP HC0
            obtain ⟨w6, hw6⟩ : ∃ w6, w6 = w5.alloc (.cells #[.int .i64 kd, .slice pp1 (ptsA ws y).length pc1, .slice dp1 ds.length dc1] 41) := ⟨_, rfl⟩
            have hb56 : Below w5.heap.size w5 w6 := by rw [hw6]; exact (Below.refl _ _).alloc (Nat.le_refl _) _
            have HW6 := hide (show w6.heap[w5.heap.size]? = some (.cells #[.int .i64 kd, .slice pp1 (ptsA ws y).length pc1, .slice dp1 ds.length dc1] 41 (0, 0)) by rw [hw6]; exact World.alloc_heap_new w5 _)
            have HB56 := hide hb56
            have hbr6 := (unhide HB5).trans (hb56.mono (unhide HB5).size)
            have hck6 := (hbr6.cell (World.block_lt_of_cell? _ _ hck)).trans hck
            have HP6 := hide (show ∀ j (hj : j < l.length), w6.cell? ⟨bt, ot + j, none⟩ = some (.int .i64 l[j]) from fun j hj => (hb56.cell (World.block_lt_of_cell? _ _ (unhide HC5 j hj))).trans (unhide HC5 j hj))
            have hop6 := ownsV_keep (F := fun _ => False) (unhide HOP) (Keep.of_below hb56) (fun _ _ => id)
            have how6 := ownsV_keep (F := fun _ => False) (unhide HOWN) (Keep.of_below hbr6) (fun _ _ => id)
            have HBO6 := hide ((unhide HBZ).trans (hbr6.mono (unhide HBZ).size))
            have HO6 := hide (And.intro hop6 how6)
            have HNB := hide (show ∀ b, (Value.slice p0 (ledL ws (l.take k)).length c0).ownBlock = some b → b ≠ w5.heap.size ∧ (Value.slice pp1 (ptsA ws y).length pc1).ownBlock ≠ some b from fun b hb => by
              have h1 := ((unhide HOWN).lt b hb).2
              have h2 := (unhide HB5).size
              exact ⟨by omega, fun e => by have := ((unhide HOP).lt b e).1; omega⟩)
            have HS6 := hide (show w5.heap.size < w6.heap.size from (Array.getElem?_eq_some_iff.1 (unhide HW6)).1)
            clear hb56 hbr6 hop6 how6 HC5 HOWN HOP HBZ HB5 HB56
            have H14 : Hid (k = 0 ∨ ∃ j, k = j + 1 ∧ ∃ z, w6.cell? ⟨bt, ot + j, none⟩ = some (.int .i64 z) ∧ z < y) := by
              rcases Nat.eq_zero_or_pos k with h | hpos
              · exact Or.inl h
              · obtain ⟨j, rfl⟩ : ∃ j, k = j + 1 := ⟨k - 1, by omega⟩
                refine Or.inr ⟨j, rfl, l[j]'(by have := unhide HLT; omega), unhide HP6 j _, ?_⟩
                have h1 := unhide HORD j (unhide HLT)
                have h2 := unhide HY
                exact h2 ▸ h1
            clear hck HP6
            obtain ⟨L, hLL⟩ : ∃ L, L = ledL ws (l.take k) := ⟨_, rfl⟩
            obtain ⟨P, hPP⟩ : ∃ P, P = ptsA ws y := ⟨_, rfl⟩
            rw [← hLL] at HO6 HNB HTK HLN ⊢
            rw [← hPP] at HO6 HNB HTK HPM HPN HW6 ⊢
            obtain ⟨o0, o1, o2, _⟩ := three_cells (unhide HW6)
            rcases unhide H14 with hk0 | ⟨j, hkj, z, hz, hzy⟩
            focus
              have hkn : ¬ (0 : Int) < (k : Int) := by omega
              have hkd : decide (0 < k) = false := decide_eq_false (by omega)
              clear H14 hk0
              go_wp2_with fail
              rw [← hw6]
              clear hw6
              go_region
            rotate_left
            focus
              have hkn : (0 : Int) < (k : Int) := by omega
              have hkd : decide (0 < k) = true := decide_eq_true (by omega)
              have hsub : IntKind.i64.wrap ((k : Int) - 1) = (j : Int) := by have := unhide HLL; have := unhide HLT; rw [IntKind.wrap_i64]; omega
              have hjl : (j : Int) < (l.length : Int) := by have := unhide HLT; omega
              have hle : ¬ y ≤ z := by omega
              clear H14 hkj hzy
              go_wp2_with fail
              rw [← hw6]
              clear hw6
              go_still (show Try.prog.follows .mixedOrders = true by kernel_rfl)
            rotate_left
            all_goals
              rw [← hLL]
              rw [← hPP] at *
              clear hLL hPP hkn hkd hck6
              go_wp2_with fail
              go_loopw [8, 12] (fun lv kv wz => ∃ (j : Nat) (pl : Option Addr) (cl : Nat) (xs : List Int), kv = .int .i64 (j : Int) ∧ lv = .slice pl xs.length cl ∧ j ≤ P.length ∧ Hid (xs = L ++ P.take j ∧ LG3 wz w5.heap.size wo.heap.size wr.heap.size kd (.slice pp1 P.length pc1) (.slice dp1 ds.length dc1) P xs (.slice pl xs.length cl)) ∧ Hid (Below wo.heap.size wo wz)) (fun _ kv _ => P.length - (intOf kv).toNat)
              case atStart => exact ⟨0, p0, c0, L, rfl, rfl, Nat.zero_le _, ⟨by simp, LG3.drew ⟨unhide HW6, (unhide HO6).1, (unhide HO6).2, unhide HNB⟩⟩, ⟨(unhide HBO6).os, (unhide HBO6).tape, (unhide HBO6).output, (unhide HBO6).size, (unhide HBO6).block⟩⟩
              case round =>
                clear HW6 HO6 HNB HBO6 o0 o1 o2
                obtain ⟨j, pl, cl, xs, rfl, rfl, hj, hM, hbz⟩ := hrel
                obtain ⟨o0, o1, o2, _⟩ := three_cells (unhide hM).2.blk
                have hjw : IntKind.i64.wrap ((j : Int) + 1) = (j : Int) + 1 := by have := unhide HPN; rw [IntKind.wrap_i64]; omega
                by_cases hlt : j < P.length
                · have hjI : (j : Int) < (P.length : Int) := by omega
                  obtain ⟨bq, oq, cq, e9, _, _, htl⟩ := (vrow_of_owns (vs := Iw P) (s := .slice pp1 P.length pc1) (by simpa using (unhide hM).2.ptr)).open (by intro e; have := congrArg List.length e; simp at this; rw [this] at hlt; simp at hlt)
                  simp only [Value.slice.injEq, List.length_map] at e9
                  obtain ⟨rfl, e8, rfl⟩ := e9
                  have ht0 := htl j (.int .i64 P[j]) (by rw [List.getElem?_map, List.getElem?_eq_getElem hlt]; rfl)
                  have HM := hide (unhide HPM P[j] (List.getElem_mem hlt))
                  have hxl : xs.length = L.length + j := by rw [(unhide hM).1, List.length_append, List.length_take]; omega
                  have HTJ := hide (show L ++ P.take (j + 1) = xs ++ [P[j]] by rw [(unhide hM).1, List.take_succ_eq_append_getElem hlt, List.append_assoc])
                  have HLJ := hide hlt
                  generalize P[j] = x at *
                  have HVL := hide ((unhide HV).below (unhide hbz))
                  have HOX := hide (show (wr.alloc (.cells #[.int .i64 x] 3)).ownsRow wo.heap.size 3 1 (.slice pl xs.length cl) xs.length (Iw xs) from ownsV_keep (F := fun _ => False) (unhide hM).2.own (Keep.of_below ((Below.refl _ _).alloc (Nat.le_refl _) _)) (fun _ _ => id))
                  have HNW := hide (show ∀ (i : Nat) (u : Value), [Value.int .i64 x][i]? = some u → (wr.alloc (.cells #[.int .i64 x] 3)).cell? ((⟨wr.heap.size, 0, none⟩ : Addr).add i) = some u from fun i u hi => by match i, hi with | 0, hi => (simp at hi; subst hi; simp [Addr.add]))
                  have HGS := hide (show wo.heap.size ≤ (wr.alloc (.cells #[.int .i64 x] 3)).heap.size by rw [World.size_alloc]; have := (unhide hbz).size; omega)
                  have HMM := hide (unhide hM).2
                  have HBZ3 := hide (unhide hbz)
                  have HLB := hide (show xs.length ≤ 267387880 by have := unhide HLN; have := unhide HPN; omega)
                  clear htl e8 hlt hj hM hbz hxl
                  by_cases h0 : x = 0
                  · subst h0
                    go_wp2_with (first
                      | (at_builtin; refine wpList_append_gen rfl _ _ 23 rfl wo.heap.size 3 i0 (.int .i64 0) Try.underlying23 hi hz0 1 8 (by omega) hz1 hz2 rfl (.slice pl xs.length cl) xs.length (Iw xs) rfl (unhide HOX) ⟨wr.heap.size, 0, none⟩ 1 1 [.int .i64 0] rfl rfl (unhide HNW) (by intro u hu; simp at hu; subst hu; rfl) (by have := unhide HLB; unfold maxLen; omega) (by have := unhide HLB; omega) (unhide HGS) ?_))
                    intro v6 w8 hown6 hgrow6 hob6
                    have hps := (unhide HMM).push (unhide HBZ3).size hown6 hgrow6 hob6
                    rw [← unhide HTJ] at hps
                    obtain ⟨p6, c6, e6⟩ := ownsV_shape hps.1.own
                    subst e6
                    have HF := hide hps.1
                    have HB8 := hide ((unhide HBZ3).trans hps.2)
                    clear hps hown6 hgrow6 hob6
                    go_wp2_with fail
                    go_roundw
                    case rel => exact ⟨j + 1, p6, c6, _, by go_num, rfl, unhide HLJ, ⟨rfl, unhide HF⟩, unhide HB8⟩
                    case measure => (have := unhide HLJ; simp [intOf]; omega)
                  · have hne : (x != 0) = true := by simp [h0]
                    have HN := hide h0
                    clear h0
                    go_wp2_with fail
                    refine Calls.mono (lhas_any _ l x wr (unhide HVL) (by have := unhide HLL; omega)) ?_
                    rintro e w7 ⟨⟨B, rfl, hB⟩, hw7⟩
                    subst hw7
                    have hBt : B = true := hB.2 (unhide HM (unhide HN))
                    subst hBt
                    clear hB
                    go_wp2_with (first
                      | (at_builtin; refine wpList_append_gen rfl _ _ 23 rfl wo.heap.size 3 i0 (.int .i64 0) Try.underlying23 hi hz0 1 8 (by omega) hz1 hz2 rfl (.slice pl xs.length cl) xs.length (Iw xs) rfl (unhide HOX) ⟨w7.heap.size, 0, none⟩ 1 1 [.int .i64 x] rfl rfl (unhide HNW) (by intro u hu; simp at hu; subst hu; rfl) (by have := unhide HLB; unfold maxLen; omega) (by have := unhide HLB; omega) (unhide HGS) ?_))
                    intro v6 w8 hown6 hgrow6 hob6
                    have hps := (unhide HMM).push (unhide HBZ3).size hown6 hgrow6 hob6
                    rw [← unhide HTJ] at hps
                    obtain ⟨p6, c6, e6⟩ := ownsV_shape hps.1.own
                    subst e6
                    have HF := hide hps.1
                    have HB8 := hide ((unhide HBZ3).trans hps.2)
                    clear hps hown6 hgrow6 hob6
                    go_wp2_with fail
                    go_roundw
                    case rel => exact ⟨j + 1, p6, c6, _, by go_num, rfl, unhide HLJ, ⟨rfl, unhide HF⟩, unhide HB8⟩
                    case measure => (have := unhide HLJ; simp [intOf]; omega)
                · have hje : j = P.length := by omega
                  subst hje
                  have hge : ¬ (P.length : Int) < (P.length : Int) := by omega
                  have HF := hide (show wr.ownsRow wo.heap.size 3 1 (.slice pl xs.length cl) (ledL ws (l.take (k + 1))).length (Iw (ledL ws (l.take (k + 1)))) by
                    have h1 := (unhide hM).1
                    rw [List.take_length] at h1
                    rw [unhide HTK, ← h1]
                    exact (unhide hM).2.own)
                  have HBZ3 := hide (unhide hbz)
                  clear hM hbz hlt hj hjw
                  go_wp2_with fail
                  go_roundw
                  case rel => exact ⟨k + 1, by go_num, unhide HLT, unhide HF, unhide HBZ3⟩
                  case measure => (have := unhide HLT; simp [intOf]; omega)
          · have hke : k = l.length := by omega
            subst hke
            have hge : ¬ (l.length : Int) < (l.length : Int) := by omega
            rw [List.take_length] at *
            have HVD := hide (vrow_of_owns (vs := Iw (ledL ws l)) (s := .slice p0 (ledL ws l).length c0) (by simpa using unhide hown))
            have HVL := hide ((unhide HV).below (unhide hbz))
            have HVT := hide ((unhide HT2).below (unhide hbz))
            have HLD := hide (show (ledL ws l).length < 35184372088832 by
              have h1 := ledL_len (ws := ws) (l := l) (unhide HOB)
              have := unhide HLL
              omega)
            have HBF := hide ((unhide HB2).trans ((unhide hbz).mono (unhide HB2).size))
            have HQ := hide (show ∀ a ∈ l, a ∉ rs → a ∈ ledL ws l from fun a ha hn => by
              rcases rch_led (((unhide HLI).2 a).1 ha) with h | ⟨b, hb, hp⟩
              · exact absurd h hn
              · exact ledL_mem.2 ⟨b, ((unhide HLI).2 b).2 hb, hp⟩)
            clear hown hbz hlt hk hkw
            generalize ledL ws l = D at *
            go_wp2_with fail
            go_loopw [13] (fun iv wz => ∃ (k : Nat), iv = .int .i64 (k : Int) ∧ k ≤ l.length ∧ wz = wr) (fun iv _ => l.length - (intOf iv).toNat)
            case atStart => exact ⟨0, rfl, Nat.zero_le _, rfl⟩
            case round =>
              obtain ⟨k, rfl, hk, rfl⟩ := hrel
              have hkw : IntKind.i64.wrap ((k : Int) + 1) = (k : Int) + 1 := by have := unhide HLL; rw [IntKind.wrap_i64]; omega
              by_cases hlt : k < l.length
              · have hkI : (k : Int) < (l.length : Int) := by omega
                obtain ⟨bt, ot, ct, e9, _, _, htl⟩ := (unhide HVL).open (by intro e; have := congrArg List.length e; simp at this; rw [this] at hlt; simp at hlt)
                simp only [Value.slice.injEq, List.length_map] at e9
                obtain ⟨rfl, e8, rfl⟩ := e9
                have ht0 := htl k (.int .i64 l[k]) (by rw [List.getElem?_map, List.getElem?_eq_getElem hlt]; rfl)
                have HM := hide (unhide HQ l[k] (List.getElem_mem hlt))
                have HLT := hide hlt
                generalize l[k] = x at *
                clear htl e8 hlt hk
                go_wp2_with fail
                refine Calls.mono (lhas_any _ rs x _ (unhide HVT) (unhide HRL)) ?_
                rintro e w7 ⟨⟨B, rfl, hB⟩, hw7⟩
                subst hw7
                cases B with
                | true =>
                  clear hB
                  go_wp2_with fail
                  go_roundw
                  case rel => exact ⟨k + 1, by go_num, unhide HLT, by first | rfl | trivial⟩
                  case measure => (have := unhide HLT; simp [intOf]; omega)
                | false =>
                  have HN := hide (unhide HM (fun h => by have := hB.2 h; cases this))
                  clear hB
                  go_wp2_with fail
                  refine Calls.mono (lhas_any _ D x _ (unhide HVD) (unhide HLD)) ?_
                  rintro e w8 ⟨⟨B, rfl, hB⟩, hw8⟩
                  subst hw8
                  have hBt : B = true := hB.2 (unhide HN)
                  subst hBt
                  clear hB
                  go_wp2_with fail
                  go_roundw
                  case rel => exact ⟨k + 1, by go_num, unhide HLT, by first | rfl | trivial⟩
                  case measure => (have := unhide HLT; simp [intOf]; omega)
              · have hke : k = l.length := by omega
                subst hke
                have hge : ¬ (l.length : Int) < (l.length : Int) := by omega
                clear hlt hk hkw
                go_wp2_with fail
                go_ret
                exact ⟨rfl, unhide HBF⟩

theorem walk_MarkClosed (s0 : Value) (d0 : Dt) (s1 : Value) (d1 : Dt) (w : World) (h0 : Reads limSaid w (.row 4 (.int .u32)) [s0] d0) (h1 : Reads limSaid w (.row 8 (.int .i64)) [s1] d1) :
    Calls Try.prog 4 #[s0, s1] w fun e w' => e = .returned (.bool true) ∧ Below w.heap.size w w' := by
  obtain ⟨ws, r0, l0, u0⟩ := nums_of_reads h0
  obtain ⟨rs, r1, l1, u1⟩ := nums_of_reads h1
  unfold limSaid reachBytes at l0 l1
  exact markclosed_any s0 s1 ws rs w r0 r1 (u32_of14 u0) (by omega) (by omega)
end Go.Proofs.Ytgnfgeebcphglaa
