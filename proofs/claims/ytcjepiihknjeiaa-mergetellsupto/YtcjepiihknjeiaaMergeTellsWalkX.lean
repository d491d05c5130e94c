/- The walk of the statement MergeTells. -/
import Derived.Test.YtcjepiihknjeiaaG28
namespace Go.Proofs.Ytcjepiihknjeiaa.QH
open Go.RowKit Go.Shelf

theorem er_take {w : World} {p : Option Addr} {n c : Nat} {X : List En} (h : ER w (.slice p n c) X) (k : Nat) : ER w (.slice p (X.take k).length c) (X.take k) := by
  obtain ⟨a, cap, e, h1, h2, h3, h4, h5⟩ := h
  simp only [Value.slice.injEq] at e
  obtain ⟨rfl, rfl, rfl⟩ := e
  refine ⟨p, c, rfl, Nat.le_trans (by rw [List.length_take]; exact Nat.min_le_right _ _) h1, h2, h3, eC_flat_len _, ?_⟩
  rcases h5 with h5 | ⟨b, off, rfl, h5⟩
  · left
    rw [List.length_take]
    omega
  · refine Or.inr ⟨b, off, rfl, fun j v hj => h5 j v ?_⟩
    have e : X.flatMap eC = (X.take k).flatMap eC ++ (X.drop k).flatMap eC := by rw [← List.flatMap_append, List.take_append_drop]
    rw [e, List.getElem?_append_left (List.getElem?_eq_some_iff.1 hj).1]
    exact hj
theorem kmod (st : Int) (n : Nat) (hn : n + 3 ≤ 4611686018427387904) : ∃ k : Nat, wrap64 ((IntKind.u64.wrap st).tmod (IntKind.u64.wrap ((n : Int) + 3))) = (k : Int) ∧ k < n + 3 := by
  have h1 : IntKind.u64.wrap ((n : Int) + 3) = (n : Int) + 3 := by rw [IntKind.wrap_u64]; omega
  have h2 : 0 ≤ IntKind.u64.wrap st := by rw [IntKind.wrap_u64]; omega
  rw [h1, Int.tmod_eq_emod_of_nonneg h2]
  have h3 := Int.emod_nonneg (IntKind.u64.wrap st) (show (n : Int) + 3 ≠ 0 by omega)
  have h4 := Int.emod_lt_of_pos (IntKind.u64.wrap st) (show 0 < (n : Int) + 3 by omega)
  generalize IntKind.u64.wrap st % ((n : Int) + 3) = r at *
  refine ⟨r.toNat, ?_, by omega⟩
  unfold wrap64
  omega
set_option maxRecDepth 20000 in
set_option maxHeartbeats 4000000 in
theorem mtells_any (v : Value) (LL : List (List En)) (st : Int) (w : World) (h : LR w v LL) (hks : ∀ l ∈ LL, ∀ x ∈ l, x.1.size ≤ 140737488351232) (hl : (totE LL + 1) * 40 ≤ 140737488355328) (hn : LL.length ≤ 1048576) :
    Calls Try.prog 3 #[v, .int .i64 st] w fun e w' => e = .returned (.bool true) ∧ Below w.heap.size w w' := by
  have hll : ∀ l ∈ LL, l.length * 40 ≤ 140737488355328 := fun l hm => by have := len_tot hm; omega
  have HCP := hide (ecopies_any v LL w h hll hn)
  have HMM := hide (fun W v (h : LR W v LL) => merge_any v LL W h (by omega))
  have HRM := hide (fun W (hb : Below w.heap.size w W) => emerge_any v LL W (LR.below h hb) hks hl)
  have HAL := hide (fun W v (k : Nat) (h : LR W v LL) (hk : k < 4611686018427387904) => eall_any v LL k W h hl hk)
  have HL := hide hl
  have HNN := hide hn
  have HKS := hide hks
  have H1 := hide h
  obtain ⟨p, c, rfl⟩ : ∃ p c, v = .slice p LL.length c := by
    obtain ⟨vs, h1, h2, _⟩ := h
    obtain ⟨p, c, e, _⟩ := h2.shape
    exact ⟨p, c, by rw [e, h1]⟩
  have hml := mrgR_len LL
  have HML := hide (show (mrgR LL).1.length + 3 ≤ 4611686018427387904 by omega)
  have hmx : Try.prog.follows .mixedOrders = true := by kernel_rfl
  have HAW := hide (fun W => mawake12_any W)
  generalize (mrgR LL).1 = X at *
  generalize (mrgR LL).2 = er at *
  clear h hks hl hll hn hml
  go_enter Try.func3, Try.ntmps3
  go_wp2_with fail
  refine Calls.mono (unhide HCP) ?_
  rintro e w1 ⟨vi, rfl, hi1, b1⟩
  have HI1 := hide hi1
  have HB1 := hide b1
  have HMM1 := hide (unhide HMM w1 vi hi1)
  obtain ⟨pi, ci, rfl⟩ : ∃ p c, vi = .slice p LL.length c := by
    obtain ⟨vs, h1, h2, _⟩ := hi1
    obtain ⟨p, c, e, _⟩ := h2.shape
    exact ⟨p, c, by rw [e, h1]⟩
  clear hi1 b1 HCP HMM
  go_wp2_with fail
  refine Calls.mono (unhide HMM1) ?_
  rintro e w2 ⟨vl, rfl, hl2, hlo2, b2⟩
  have HB2 := hide ((unhide HB1).trans (b2.mono (unhide HB1).size))
  have HI2 := hide (LR.below (unhide HI1) b2)
  have HL2 := hide hl2
  have HB12 := hide b2
  have HLO2 := hide hlo2
  have HRM2 := hide (unhide HRM w2 (unhide HB2))
  obtain ⟨pl, cl, rfl⟩ := ownsV_shape hl2
  clear hl2 hlo2 b2 HRM HMM1
  go_wp2_with fail
  refine Calls.mono (unhide HRM2) ?_
  rintro e w3 ⟨vw, rfl, hw3, b3⟩
  have HB3 := hide ((unhide HB2).trans (b3.mono (unhide HB2).size))
  have HB13 := hide ((unhide HB12).trans (b3.mono (unhide HB12).size))
  have HI3 := hide (LR.below (unhide HI2) b3)
  have HL3 := hide (ownsV_keep (F := fun _ => False) (unhide HL2) (Keep.of_below b3) (fun _ _ => id))
  have HW3 := hide (er_of_own hw3)
  obtain ⟨pw, cw, rfl⟩ := ownsV_shape hw3
  have hn3 : IntKind.i64.wrap ((X.length : Int) + 3) = (X.length : Int) + 3 := by have := unhide HML; rw [IntKind.wrap_i64]; omega
  have hu3 : ¬ IntKind.u64.wrap ((X.length : Int) + 3) = 0 := by have := unhide HML; rw [IntKind.wrap_u64]; omega
  clear hw3 b3 HRM2 HI2 HL2
  go_wp2_with fail
  obtain ⟨k, hk1, hk2⟩ := kmod st X.length (unhide HML)
  rw [hk1]
  have HA3 := hide (unhide HAL w3 _ k (unhide HI3) (by have := unhide HML; omega))
  have HKB := hide hk2
  clear hk1 hk2 HAL
  refine Calls.mono (unhide HA3) ?_
  rintro e w4 ⟨vx, rfl, hx4, b4⟩
  have HB4 := hide ((unhide HB3).trans (b4.mono (unhide HB3).size))
  have HB14 := hide ((unhide HB13).trans (b4.mono (unhide HB13).size))
  have HI4 := hide (LR.below (unhide HI3) b4)
  have HL4 := hide (ownsV_keep (F := fun _ => False) (unhide HL3) (Keep.of_below b4) (fun _ _ => id))
  have HW4 := hide ((unhide HW3).below b4)
  have HX4 := hide hx4
  obtain ⟨px, cx, rfl, _⟩ := hx4.shape
  clear hx4 b4 HA3 HI3 HL3 HW3
  go_wp2_with fail
  refine Calls.mono (unhide HAW _) ?_
  rintro e w5 ⟨rfl, b5⟩
  have HB5 := hide ((unhide HB4).trans (b5.mono (unhide HB4).size))
  have HB15 := hide ((unhide HB14).trans (b5.mono (unhide HB14).size))
  have HI5 := hide (LR.below (unhide HI4) b5)
  have HL5 := hide (ownsV_keep (F := fun _ => False) (unhide HL4) (Keep.of_below b5) (fun _ _ => id))
  have HW5 := hide ((unhide HW4).below b5)
  have HX5 := hide ((unhide HX4).below b5)
  have HPL := hide (eplain_any (.slice pl X.length cl) (.slice pw X.length cw) X w5 (er_of_own (unhide HL5)) (unhide HW5))
  clear b5 HI4 HL4 HW4 HX4
  go_wp2_with fail
  refine Calls.mono (unhide HPL) ?_
  rintro e w6 ⟨rfl, b6⟩
  have HB6 := hide ((unhide HB5).trans (b6.mono (unhide HB5).size))
  have HB16 := hide ((unhide HB15).trans (b6.mono (unhide HB15).size))
  have HI6 := hide (LR.below (unhide HI5) b6)
  have HL6 := hide (ownsV_keep (F := fun _ => False) (unhide HL5) (Keep.of_below b6) (fun _ _ => id))
  have HW6 := hide ((unhide HW5).below b6)
  have HX6 := hide ((unhide HX5).below b6)
  clear b6 HI5 HL5 HW5 HX5 HPL
  have hcw0 : X.length ≤ cw := by
    obtain ⟨p', c', e, h9, _⟩ := (unhide HW6).shape
    simp only [Value.slice.injEq] at e
    omega
  rcases Nat.lt_or_ge X.length k |>.symm with hkX | hkX
  · have hmin : min k X.length = k := by omega
    have hx6 := unhide HX6
    have ht6 := er_take (unhide HW6) k
    rw [List.length_take, hmin] at hx6 ht6
    have HP := hide (eplain_any _ _ (X.take k) w6 hx6 ht6)
    rw [hmin]
    have hcw := hcw0
    have hcwk : k ≤ cw := by omega
    have hkI : ¬ (X.length : Int) < (k : Int) := by omega
    have hkI2 : (k : Int) ≤ (X.length : Int) := by omega
    have hkI4 : (k : Int) ≤ (cw : Int) := by omega
    clear hx6 ht6 HX6 hmin 
    go_wp2_with fail
    refine Calls.mono (unhide HP) ?_
    rintro e w7 ⟨rfl, b7⟩
    have HB7 := hide ((unhide HB6).trans (b7.mono (unhide HB6).size))
    have HB17 := hide ((unhide HB16).trans (b7.mono (unhide HB16).size))
    have HI7 := hide (LR.below (unhide HI6) b7)
    have HL7 := hide (ownsV_keep (F := fun _ => False) (unhide HL6) (Keep.of_below b7) (fun _ _ => id))
    clear b7 HI6 HL6 HW6 HP hcw hcw0
    go_wp2_with fail
    go_loopw [14] (fun iv wr => ∃ j : Nat, iv = .int .i64 (j : Int) ∧ j ≤ LL.length ∧ Hid (Below w7.heap.size w7 wr)) (fun iv _ => LL.length - (intOf iv).toNat)
    case atStart => exact ⟨0, rfl, Nat.zero_le _, hide (Below.refl _ _)⟩
    case round =>
      obtain ⟨j, rfl, hj, hb⟩ := hrel
      by_cases hlt : j < LL.length
      · have hjI : (j : Int) < (LL.length : Int) := by omega
        have hjw : IntKind.i64.wrap ((j : Int) + 1) = (j : Int) + 1 := by have := unhide HNN; rw [IntKind.wrap_i64]; omega
        have hbw := (unhide HB7).trans ((unhide hb).mono (unhide HB7).size)
        obtain ⟨b, off, s, rfl, hc, her⟩ := ((unhide H1).below hbw).at j hlt
        obtain ⟨b2, off2, s2, rfl, hc2, her2⟩ := ((unhide HI7).below (unhide hb)).at j hlt
        have hlj := len_tot (List.getElem_mem hlt)
        have HRT := hide (eright_any s LL[j] wr her (fun x hx => unhide HKS _ (List.getElem_mem hlt) x hx))
        have HCK := hide (fun W (hb : Below wr.heap.size wr W) => mcheck_any s2 LL[j] W (her2.below hb) (by have := unhide HL; omega))
        have HC2 := hide (fun W (hb : Below wr.heap.size wr W) => (hb.cell (World.block_lt_of_cell? _ _ hc2)).trans hc2)
        obtain ⟨q1, n1, hq1, z1⟩ := her.shape
        obtain ⟨q2, n2, hq2, z2⟩ := her2.shape
        clear z1 z2
        generalize LL[j].length = m at *
        generalize rightE LL[j] = R at *
        subst hq1
        subst hq2
        have HJ := hide (And.intro hlt (unhide hb))
        clear her her2 hlj hlt hj hbw hb hc2
        go_wp2_with fail
        refine Calls.mono (unhide HRT) ?_
        rintro e w8 ⟨rfl, b8⟩
        have HB8 := hide b8
        have hc8 := unhide HC2 w8 b8
        have HCK8 := hide (unhide HCK w8 b8)
        clear b8 HCK HC2 hc
        cases R with
        | true =>
          simp only [if_true] at HCK8
          go_wp2_with fail
          refine Calls.mono (unhide HCK8) ?_
          rintro e w9 ⟨rfl, b9⟩
          have HB9 := hide ((unhide HB8).trans (b9.mono (unhide HB8).size))
          clear b9
          go_wp2_with fail
          refine ⟨⟨j + 1, by go_num, (unhide HJ).1, hide ((unhide HJ).2.trans ((unhide HB9).mono (unhide HJ).2.size))⟩, ?_⟩
          have := (unhide HJ).1
          simp [intOf]
          omega
        | false =>
          simp only [if_false, Bool.false_eq_true] at HCK8
          go_wp2_with fail
          refine Calls.mono (unhide HCK8) ?_
          rintro e w9 ⟨rfl, b9⟩
          have HB9 := hide ((unhide HB8).trans (b9.mono (unhide HB8).size))
          clear b9
          go_wp2_with fail
          refine ⟨⟨j + 1, by go_num, (unhide HJ).1, hide ((unhide HJ).2.trans ((unhide HB9).mono (unhide HJ).2.size))⟩, ?_⟩
          have := (unhide HJ).1
          simp [intOf]
          omega
      · have hje : j = LL.length := by omega
        subst hje
        have hge : ¬ (LL.length : Int) < (LL.length : Int) := by omega
        have HBR := hide (unhide hb)
        clear hb hlt hj
        go_wp2_with fail
        have HXN := hide (show X.length < 4611686018427387904 by have := unhide HML; omega)
        have HGL : Hid (w.heap.size ≤ w1.heap.size) := hide (unhide HB1).size
        have HST := hide (And.intro ((unhide HB17).trans ((unhide HBR).mono (unhide HB17).size)) (And.intro ((unhide HB7).trans ((unhide HBR).mono (unhide HB7).size)) (ownsV_keep (F := fun _ => False) (unhide HL7) (Keep.of_below (unhide HBR)) (fun _ _ => id))))
        clear HBR
        go_loopw [16] (fun iv wx => ∃ j : Nat, iv = .int .i64 (j : Int) ∧ j ≤ X.length ∧ Hid (Below w1.heap.size w1 wx ∧ Below w.heap.size w wx ∧ ∃ xs, wx.ownsRow 0 37 4 (.slice pl X.length cl) X.length xs)) (fun iv _ => X.length - (intOf iv).toNat)
        case atStart => exact ⟨0, rfl, Nat.zero_le _, hide ⟨(unhide HST).1, (unhide HST).2.1, _, (unhide HST).2.2⟩⟩
        case round =>
          clear HST
          obtain ⟨j, rfl, hj, hinv⟩ := hrel
          by_cases hlt : j < X.length
          · have hjI : (j : Int) < (X.length : Int) := by omega
            have hjw : IntKind.i64.wrap ((j : Int) + 1) = (j : Int) + 1 := by have := unhide HXN; rw [IntKind.wrap_i64]; omega
            have hgx : ∃ g, pl = some ⟨g, 0, none⟩ ∧ w1.heap.size ≤ g := by
              obtain ⟨_, _, _, hown⟩ := unhide hinv
              rcases hown.2 with ⟨_, h0⟩ | ⟨g, cap, cur, e1, _⟩
              · omega
              · simp only [Value.slice.injEq] at e1
                exact ⟨g, e1.1, unhide HLO2 g (by rw [e1.1]; rfl)⟩
            obtain ⟨g, rfl, hgl⟩ := hgx
            have hcell : ∀ i, i < 4 → ∃ u, wr.cell? ⟨g, j * 4 + i, none⟩ = some u ∧ wr.frozen? ⟨g, j * 4 + i, none⟩ = false := by
              intro i hi
              obtain ⟨_, _, _, hown⟩ := unhide hinv
              rcases hown.2 with ⟨_, h0⟩ | ⟨g2, cap, cur, e1, _, h3, h4, _, h6, _⟩
              · omega
              · simp only [Value.slice.injEq, Option.some.injEq, Addr.mk.injEq] at e1
                obtain ⟨⟨rfl, _, _⟩, _, rfl⟩ := e1
                have hl : j * 4 + i < cur.size := by rw [h6]; omega
                exact ⟨cur[j * 4 + i], by rw [cell_of_row wr _ _ _ _ (0, 0) h3]; simp [hl], frozen_of_block h3⟩
            obtain ⟨a0, d0, f0⟩ := hcell 0 (by omega)
            obtain ⟨a1, d1, f1⟩ := hcell 1 (by omega)
            obtain ⟨a2, d2, f2⟩ := hcell 2 (by omega)
            obtain ⟨a3, d3, f3⟩ := hcell 3 (by omega)
            rw [Nat.add_zero] at d0 f0
            have HFIN : Hid (Below w1.heap.size w1 ((((wr.setCell ⟨g, j * 4, none⟩ (.string ⟨#[]⟩)).setCell ⟨g, j * 4 + 1, none⟩ (.int .u64 0)).setCell ⟨g, j * 4 + 2, none⟩ (.int .i64 0)).setCell ⟨g, j * 4 + 3, none⟩ (.int .i64 0)) ∧ Below w.heap.size w ((((wr.setCell ⟨g, j * 4, none⟩ (.string ⟨#[]⟩)).setCell ⟨g, j * 4 + 1, none⟩ (.int .u64 0)).setCell ⟨g, j * 4 + 2, none⟩ (.int .i64 0)).setCell ⟨g, j * 4 + 3, none⟩ (.int .i64 0)) ∧ ∃ xs, ((((wr.setCell ⟨g, j * 4, none⟩ (.string ⟨#[]⟩)).setCell ⟨g, j * 4 + 1, none⟩ (.int .u64 0)).setCell ⟨g, j * 4 + 2, none⟩ (.int .i64 0)).setCell ⟨g, j * 4 + 3, none⟩ (.int .i64 0)).ownsRow 0 37 4 (.slice (some ⟨g, 0, none⟩) X.length cl) X.length xs) := by
              obtain ⟨h1, h2, _, h3⟩ := unhide hinv
              obtain ⟨_, h4⟩ := own_set h3 (j * 4) (.string ⟨#[]⟩)
              obtain ⟨_, h5⟩ := own_set h4 (j * 4 + 1) (.int .u64 0)
              obtain ⟨_, h6⟩ := own_set h5 (j * 4 + 2) (.int .i64 0)
              obtain ⟨_, h7⟩ := own_set h6 (j * 4 + 3) (.int .i64 0)
              have hgw : w.heap.size ≤ g := Nat.le_trans (unhide HGL) hgl
              exact ⟨(((h1.setCell hgl _).setCell hgl _).setCell hgl _).setCell hgl _, (((h2.setCell hgw _).setCell hgw _).setCell hgw _).setCell hgw _, _, h7⟩
            have HJ := hide hlt
            clear hlt hj hgl hcell
            go_wp2_with fail
            refine ⟨⟨j + 1, by go_num, unhide HJ, unhide HFIN⟩, ?_⟩
            have := unhide HJ
            simp [intOf]
            omega
          · have hje : j = X.length := by omega
            subst hje
            have hge2 : ¬ (X.length : Int) < (X.length : Int) := by omega
            obtain ⟨h1, h2, _⟩ := unhide hinv
            have HSM := hide (samel_any _ _ LL wr (LR.below (unhide HI1) h1) (LR.below (unhide H1) h2) (unhide HNN))
            have HBE := hide h2
            clear h1 h2 hinv hlt hj
            go_wp2_with fail
            refine Calls.mono (unhide HSM) ?_
            rintro e w9 ⟨rfl, b9⟩
            have HB9 := hide ((unhide HBE).trans (b9.mono (unhide HBE).size))
            clear b9
            go_wp2_with fail
            go_ret
            exact ⟨rfl, unhide HB9⟩
  · have hmin : min k X.length = X.length := by omega
    have hx6 := unhide HX6
    have ht6 := er_take (unhide HW6) k
    rw [List.length_take, hmin] at hx6 ht6
    have HP := hide (eplain_any _ _ (X.take k) w6 hx6 ht6)
    rw [hmin]
    have hcw := hcw0
    have hkI3 : (X.length : Int) < (k : Int) := by omega
    have hkI4 : (X.length : Int) ≤ (cw : Int) := by omega
    have hkI5 : ¬ (k : Int) ≤ (X.length : Int) := by omega
    clear hx6 ht6 HX6 hmin 
    go_wp2_with fail
    refine Calls.mono (unhide HP) ?_
    rintro e w7 ⟨rfl, b7⟩
    have HB7 := hide ((unhide HB6).trans (b7.mono (unhide HB6).size))
    have HB17 := hide ((unhide HB16).trans (b7.mono (unhide HB16).size))
    have HI7 := hide (LR.below (unhide HI6) b7)
    have HL7 := hide (ownsV_keep (F := fun _ => False) (unhide HL6) (Keep.of_below b7) (fun _ _ => id))
    clear b7 HI6 HL6 HW6 HP hcw hcw0
    go_wp2_with fail
    go_loopw [14] (fun iv wr => ∃ j : Nat, iv = .int .i64 (j : Int) ∧ j ≤ LL.length ∧ Hid (Below w7.heap.size w7 wr)) (fun iv _ => LL.length - (intOf iv).toNat)
    case atStart => exact ⟨0, rfl, Nat.zero_le _, hide (Below.refl _ _)⟩
    case round =>
      obtain ⟨j, rfl, hj, hb⟩ := hrel
      by_cases hlt : j < LL.length
      · have hjI : (j : Int) < (LL.length : Int) := by omega
        have hjw : IntKind.i64.wrap ((j : Int) + 1) = (j : Int) + 1 := by have := unhide HNN; rw [IntKind.wrap_i64]; omega
        have hbw := (unhide HB7).trans ((unhide hb).mono (unhide HB7).size)
        obtain ⟨b, off, s, rfl, hc, her⟩ := ((unhide H1).below hbw).at j hlt
        obtain ⟨b2, off2, s2, rfl, hc2, her2⟩ := ((unhide HI7).below (unhide hb)).at j hlt
        have hlj := len_tot (List.getElem_mem hlt)
        have HRT := hide (eright_any s LL[j] wr her (fun x hx => unhide HKS _ (List.getElem_mem hlt) x hx))
        have HCK := hide (fun W (hb : Below wr.heap.size wr W) => mcheck_any s2 LL[j] W (her2.below hb) (by have := unhide HL; omega))
        have HC2 := hide (fun W (hb : Below wr.heap.size wr W) => (hb.cell (World.block_lt_of_cell? _ _ hc2)).trans hc2)
        obtain ⟨q1, n1, hq1, z1⟩ := her.shape
        obtain ⟨q2, n2, hq2, z2⟩ := her2.shape
        clear z1 z2
        generalize LL[j].length = m at *
        generalize rightE LL[j] = R at *
        subst hq1
        subst hq2
        have HJ := hide (And.intro hlt (unhide hb))
        clear her her2 hlj hlt hj hbw hb hc2
        go_wp2_with fail
        refine Calls.mono (unhide HRT) ?_
        rintro e w8 ⟨rfl, b8⟩
        have HB8 := hide b8
        have hc8 := unhide HC2 w8 b8
        have HCK8 := hide (unhide HCK w8 b8)
        clear b8 HCK HC2 hc
        cases R with
        | true =>
          simp only [if_true] at HCK8
          go_wp2_with fail
          refine Calls.mono (unhide HCK8) ?_
          rintro e w9 ⟨rfl, b9⟩
          have HB9 := hide ((unhide HB8).trans (b9.mono (unhide HB8).size))
          clear b9
          go_wp2_with fail
          refine ⟨⟨j + 1, by go_num, (unhide HJ).1, hide ((unhide HJ).2.trans ((unhide HB9).mono (unhide HJ).2.size))⟩, ?_⟩
          have := (unhide HJ).1
          simp [intOf]
          omega
        | false =>
          simp only [if_false, Bool.false_eq_true] at HCK8
          go_wp2_with fail
          refine Calls.mono (unhide HCK8) ?_
          rintro e w9 ⟨rfl, b9⟩
          have HB9 := hide ((unhide HB8).trans (b9.mono (unhide HB8).size))
          clear b9
          go_wp2_with fail
          refine ⟨⟨j + 1, by go_num, (unhide HJ).1, hide ((unhide HJ).2.trans ((unhide HB9).mono (unhide HJ).2.size))⟩, ?_⟩
          have := (unhide HJ).1
          simp [intOf]
          omega
      · have hje : j = LL.length := by omega
        subst hje
        have hge : ¬ (LL.length : Int) < (LL.length : Int) := by omega
        have HBR := hide (unhide hb)
        clear hb hlt hj
        go_wp2_with fail
        have HXN := hide (show X.length < 4611686018427387904 by have := unhide HML; omega)
        have HGL : Hid (w.heap.size ≤ w1.heap.size) := hide (unhide HB1).size
        have HST := hide (And.intro ((unhide HB17).trans ((unhide HBR).mono (unhide HB17).size)) (And.intro ((unhide HB7).trans ((unhide HBR).mono (unhide HB7).size)) (ownsV_keep (F := fun _ => False) (unhide HL7) (Keep.of_below (unhide HBR)) (fun _ _ => id))))
        clear HBR
        go_loopw [16] (fun iv wx => ∃ j : Nat, iv = .int .i64 (j : Int) ∧ j ≤ X.length ∧ Hid (Below w1.heap.size w1 wx ∧ Below w.heap.size w wx ∧ ∃ xs, wx.ownsRow 0 37 4 (.slice pl X.length cl) X.length xs)) (fun iv _ => X.length - (intOf iv).toNat)
        case atStart => exact ⟨0, rfl, Nat.zero_le _, hide ⟨(unhide HST).1, (unhide HST).2.1, _, (unhide HST).2.2⟩⟩
        case round =>
          clear HST
          obtain ⟨j, rfl, hj, hinv⟩ := hrel
          by_cases hlt : j < X.length
          · have hjI : (j : Int) < (X.length : Int) := by omega
            have hjw : IntKind.i64.wrap ((j : Int) + 1) = (j : Int) + 1 := by have := unhide HXN; rw [IntKind.wrap_i64]; omega
            have hgx : ∃ g, pl = some ⟨g, 0, none⟩ ∧ w1.heap.size ≤ g := by
              obtain ⟨_, _, _, hown⟩ := unhide hinv
              rcases hown.2 with ⟨_, h0⟩ | ⟨g, cap, cur, e1, _⟩
              · omega
              · simp only [Value.slice.injEq] at e1
                exact ⟨g, e1.1, unhide HLO2 g (by rw [e1.1]; rfl)⟩
            obtain ⟨g, rfl, hgl⟩ := hgx
            have hcell : ∀ i, i < 4 → ∃ u, wr.cell? ⟨g, j * 4 + i, none⟩ = some u ∧ wr.frozen? ⟨g, j * 4 + i, none⟩ = false := by
              intro i hi
              obtain ⟨_, _, _, hown⟩ := unhide hinv
              rcases hown.2 with ⟨_, h0⟩ | ⟨g2, cap, cur, e1, _, h3, h4, _, h6, _⟩
              · omega
              · simp only [Value.slice.injEq, Option.some.injEq, Addr.mk.injEq] at e1
                obtain ⟨⟨rfl, _, _⟩, _, rfl⟩ := e1
                have hl : j * 4 + i < cur.size := by rw [h6]; omega
                exact ⟨cur[j * 4 + i], by rw [cell_of_row wr _ _ _ _ (0, 0) h3]; simp [hl], frozen_of_block h3⟩
            obtain ⟨a0, d0, f0⟩ := hcell 0 (by omega)
            obtain ⟨a1, d1, f1⟩ := hcell 1 (by omega)
            obtain ⟨a2, d2, f2⟩ := hcell 2 (by omega)
            obtain ⟨a3, d3, f3⟩ := hcell 3 (by omega)
            rw [Nat.add_zero] at d0 f0
            have HFIN : Hid (Below w1.heap.size w1 ((((wr.setCell ⟨g, j * 4, none⟩ (.string ⟨#[]⟩)).setCell ⟨g, j * 4 + 1, none⟩ (.int .u64 0)).setCell ⟨g, j * 4 + 2, none⟩ (.int .i64 0)).setCell ⟨g, j * 4 + 3, none⟩ (.int .i64 0)) ∧ Below w.heap.size w ((((wr.setCell ⟨g, j * 4, none⟩ (.string ⟨#[]⟩)).setCell ⟨g, j * 4 + 1, none⟩ (.int .u64 0)).setCell ⟨g, j * 4 + 2, none⟩ (.int .i64 0)).setCell ⟨g, j * 4 + 3, none⟩ (.int .i64 0)) ∧ ∃ xs, ((((wr.setCell ⟨g, j * 4, none⟩ (.string ⟨#[]⟩)).setCell ⟨g, j * 4 + 1, none⟩ (.int .u64 0)).setCell ⟨g, j * 4 + 2, none⟩ (.int .i64 0)).setCell ⟨g, j * 4 + 3, none⟩ (.int .i64 0)).ownsRow 0 37 4 (.slice (some ⟨g, 0, none⟩) X.length cl) X.length xs) := by
              obtain ⟨h1, h2, _, h3⟩ := unhide hinv
              obtain ⟨_, h4⟩ := own_set h3 (j * 4) (.string ⟨#[]⟩)
              obtain ⟨_, h5⟩ := own_set h4 (j * 4 + 1) (.int .u64 0)
              obtain ⟨_, h6⟩ := own_set h5 (j * 4 + 2) (.int .i64 0)
              obtain ⟨_, h7⟩ := own_set h6 (j * 4 + 3) (.int .i64 0)
              have hgw : w.heap.size ≤ g := Nat.le_trans (unhide HGL) hgl
              exact ⟨(((h1.setCell hgl _).setCell hgl _).setCell hgl _).setCell hgl _, (((h2.setCell hgw _).setCell hgw _).setCell hgw _).setCell hgw _, _, h7⟩
            have HJ := hide hlt
            clear hlt hj hgl hcell
            go_wp2_with fail
            refine ⟨⟨j + 1, by go_num, unhide HJ, unhide HFIN⟩, ?_⟩
            have := unhide HJ
            simp [intOf]
            omega
          · have hje : j = X.length := by omega
            subst hje
            have hge2 : ¬ (X.length : Int) < (X.length : Int) := by omega
            obtain ⟨h1, h2, _⟩ := unhide hinv
            have HSM := hide (samel_any _ _ LL wr (LR.below (unhide HI1) h1) (LR.below (unhide H1) h2) (unhide HNN))
            have HBE := hide h2
            clear h1 h2 hinv hlt hj
            go_wp2_with fail
            refine Calls.mono (unhide HSM) ?_
            rintro e w9 ⟨rfl, b9⟩
            have HB9 := hide ((unhide HBE).trans (b9.mono (unhide HBE).size))
            clear b9
            go_wp2_with fail
            go_ret
            exact ⟨rfl, unhide HB9⟩
end Go.Proofs.Ytcjepiihknjeiaa.QH
namespace Go.Proofs.Ytcjepiihknjeiaa
open Go.RowKit QH
theorem walk_MergeTells (s0 : Value) (d0 : Dt) (a1 : Int) (_w1 : (Lit.int .i64 a1).wf = true) (w : World) (h0 : Reads limUpto w (.row 24 (.row 40 enSh)) [s0] d0) :
    Calls Try.prog 3 #[s0, .int .i64 a1] w fun e w' => e = .returned (.bool true) ∧ Below w.heap.size w w' := by
  obtain ⟨LL, e0, h1, l0⟩ := lr_of_reads h0
  have h2 := upto_tot h1 l0
  exact mtells_any s0 LL a1 w e0 h2.2 h2.1 l0
end Go.Proofs.Ytcjepiihknjeiaa
