/- Texts of ours, one behind the other: StOwn6, StOwn7. -/
import Derived.Test.YtehafkbndjifaaaG26
/- The library's stable sort at operations: the symmetric merge in two halves. -/
namespace Go.Proofs.Ytehafkbndjifaaa
open Go.RowKit

set_option maxRecDepth 20000 in
set_option maxHeartbeats 8000000 in
theorem sym_le (g cap a m b MID : Nat) (D : List (Opv × Nat)) (w : World) (h : MIn w g cap D a m b) (h1 : m ≠ a + 1) (_ : b ≠ m + 1) (hmid : MID = (a + b) / 2) (hc : m ≤ MID)
    (IH : ∀ a' m' b' (D' : List (Opv × Nat)) W, b' - a' < b - a → MIn W g cap D' a' m' b' → Calls Try.prog 76 #[.slice (some ⟨g, 0, none⟩) D'.length cap, .int .i64 (a' : Int), .int .i64 (m' : Int), .int .i64 (b' : Int), byV] W fun e w' => e = .returned (.tuple #[]) ∧ ∃ E, Ch a' b' D' E ∧ So klt E a' b' ∧ SRow w' g cap E ∧ Keep (fun k => k = g) W w') :
    Calls Try.prog 76 #[.slice (some ⟨g, 0, none⟩) D.length cap, .int .i64 (a : Int), .int .i64 (m : Int), .int .i64 (b : Int), byV] w fun e w' => e = .returned (.tuple #[]) ∧ ∃ E, Ch a b D E ∧ So klt E a b ∧ SRow w' g cap E ∧ Keep (fun k => k = g) w w' := by
  obtain ⟨sr, am, mb, bl, s1, s2, cr⟩ := h
  have hsm := sr.small
  have H0 := hide sr
  obtain ⟨l, hl⟩ : ∃ l, l = D.length := ⟨_, rfl⟩
  rw [← hl]
  have HL := hide hl
  obtain ⟨U, hU⟩ : ∃ U, U = m - a := ⟨_, rfl⟩
  obtain ⟨V, hV⟩ : ∃ V, V = b - m := ⟨_, rfl⟩
  have wa : IntKind.i64.wrap ((m : Int) - (a : Int)) = (U : Int) := by rw [IntKind.wrap_i64]; omega
  have hU1 : ((U : Int) == 1) = false := by simp; omega
  have wb : IntKind.i64.wrap ((b : Int) - (m : Int)) = (V : Int) := by rw [IntKind.wrap_i64]; omega
  have hV1 : ((V : Int) == 1) = false := by simp; omega
  have hM : ((a : Int) + (b : Int)) / 2 = (MID : Int) := by omega
  have hAB : (a : Int) + (b : Int) < 9223372036854775807 := by omega
  obtain ⟨N, hN⟩ : ∃ N, N = MID + m := ⟨_, rfl⟩
  have wn : IntKind.i64.wrap ((MID : Int) + (m : Int)) = (N : Int) := by rw [IntKind.wrap_i64]; omega
  obtain ⟨PP, hP⟩ : ∃ PP, PP = N - 1 := ⟨_, rfl⟩
  have wp : IntKind.i64.wrap ((N : Int) - 1) = (PP : Int) := by rw [IntKind.wrap_i64]; omega
  have hcI : ¬ (MID : Int) < (m : Int) := by omega
  have hlo : a = if MID < m then MID + m - b else a := by rw [if_neg (by omega)]
  have hhi : m = if MID < m then MID else m := by rw [if_neg (by omega)]
  have amid : a < MID := by omega
  have midb : MID < b := by omega
  have HF := hide (And.intro am (And.intro mb (And.intro bl (And.intro hsm (And.intro hmid (And.intro hN (And.intro hP (And.intro hlo (And.intro hhi (And.intro amid midb))))))))))
  have HLH : Hid (a ≤ m ∧ a ≤ a) := by unfold Hid; omega
  have HCC0 := hide hc
  have HS := hide (And.intro s1 (And.intro s2 cr))
  clear sr am mb bl s1 s2 cr hl hsm h1 hU hV hmid hc hN hP hlo hhi amid midb 
  go_enter Try.func76, Try.ntmps76
  go_wp2
  clear hAB hM
  go_loopw [20, 21, 23] (fun ss rr _ wr => ∃ s r : Nat, ss = .int .i64 s ∧ rr = .int .i64 r ∧ Hid (a ≤ s ∧ s ≤ r ∧ r ≤ m ∧ (∀ c x y, a ≤ c → c < s → D[c]? = some x → D[MID + m - 1 - c]? = some y → L2 klt x y) ∧ (∀ c x y, r ≤ c → c < m → D[MID + m - 1 - c]? = some x → D[c]? = some y → L2 klt x y) ∧ SRow wr g cap D ∧ Keep (fun q => q = g) w wr)) (fun ss rr _ _ => (intOf rr).toNat - (intOf ss).toNat)
  case atStart =>
    exact ⟨a, m, rfl, rfl, Nat.le_refl _, (unhide HLH).1, Nat.le_refl _, fun c x y k1 k2 => by omega, fun c x y k1 k2 => by omega, unhide H0, Keep.refl _ _⟩
  case round =>
    obtain ⟨s, r, rfl, rfl, hst⟩ := hrel
    obtain ⟨hs1, hs2, hs3, q1, q2, sr, kp⟩ := unhide hst
    obtain ⟨am, mb, bl, hsm, hmid, hN, hP, hlo, hhi, amid, midb⟩ := unhide HF
    have hL := unhide HL
    by_cases hlt : (s : Int) < (r : Int)
    · obtain ⟨C, hC⟩ : ∃ C, C = (s + r) / 2 := ⟨_, rfl⟩
      have hCe : ((s : Int) + (r : Int)) / 2 = (C : Int) := by omega
      have hc0 := unhide HCC0
      obtain ⟨hl1, hl2⟩ := unhide HLH
      have d1 : a ≤ C ∧ C < m := by omega
      have d2 : m ≤ MID + m - 1 - C ∧ MID + m - 1 - C < b := by omega
      obtain ⟨PC, hPC⟩ : ∃ PC, PC = MID + m - 1 - C := ⟨_, rfl⟩
      have wc : IntKind.i64.wrap ((PP : Int) - (C : Int)) = (PC : Int) := by rw [IntKind.wrap_i64]; omega
      rw [← hPC] at d2
      have i1 : PC < D.length := by omega
      have i2 : C < D.length := by omega
      obtain ⟨CC, hC0, hCC, hCW, hCL⟩ := cmp_class sr PC C i1 i2
      have hneg := cmp_neg D[PC].1 D[C].1
      have e1 : D[PC]? = some D[PC] := List.getElem?_eq_getElem i1
      have e2 : D[C]? = some D[C] := List.getElem?_eq_getElem i2
      generalize D[PC] = PV at *
      generalize D[C] = QV at *
      have HC0 := hide hC0
      have HCC := hide hCC
      have HCW := hide hCW
      have HCL := hide hCL
      have HYES : Hid (klt PV.1 QV.1 = true → ∀ c x y, C ≤ c → c < m → D[MID + m - 1 - c]? = some x → D[c]? = some y → L2 klt x y) := by
        intro hk c x y k1 k2 hx hy
        have h0 : L2 klt PV QV := L2.of_yes hk
        by_cases e : c = C
        · subst e
          rw [e2, Option.some.injEq] at hy
          rw [← hPC, e1, Option.some.injEq] at hx
          rw [← hx, ← hy]; exact h0
        · exact ((unhide HS).2.1 _ PC x _ (by omega) (by omega) d2.2 hx e1).trans ord_klt (h0.trans ord_klt ((unhide HS).1 C c _ y d1.1 (by omega) (by omega) e2 hy))
      have HNO : Hid (klt PV.1 QV.1 = false → ∀ c x y, a ≤ c → c < C + 1 → D[c]? = some x → D[MID + m - 1 - c]? = some y → L2 klt x y) := by
        intro hk c x y k1 k2 hx hy
        have h0 : L2 klt QV PV := L2.of_no hk ((unhide HS).2.2 C PC _ _ d1.1 d1.2 d2.1 d2.2 e2 e1)
        by_cases e : c = C
        · subst e
          rw [e2, Option.some.injEq] at hx
          rw [← hPC, e1, Option.some.injEq] at hy
          rw [← hx, ← hy]; exact h0
        · exact ((unhide HS).1 c C x _ (by omega) (by omega) d1.2 hx e2).trans ord_klt (h0.trans ord_klt ((unhide HS).2.1 PC _ _ y d2.1 (by omega) (by omega) e1 hy))
      have HKP := hide kp
      have HFA := hide (And.intro hs1 (And.intro hs2 (And.intro hs3 (And.intro q1 (And.intro q2 hC)))))
      have hH1 : (PC : Int) < (l : Int) := by omega
      have ha1 : (C : Int) < (l : Int) := by omega
      have hS1 : (s : Int) + (r : Int) < 9223372036854775807 := by omega
      have w3 : IntKind.i64.wrap ((C : Int) + 1) = (C : Int) + 1 := by rw [IntKind.wrap_i64]; omega
      have HHB : Hid (s ≤ C ∧ C < r) := by unfold Hid; omega
      generalize cmpI PV.1 QV.1 = CV at *
      obtain ⟨⟨pk, pp, pn, pc, pd⟩, pt⟩ := PV
      obtain ⟨⟨qk, qp, qn, qc, qd⟩, qt⟩ := QV
      unfold opA at HCL
      simp only at HCL HCC hneg HYES HNO
      clear hs1 hs2 hs3 q1 q2 sr kp am mb bl hsm hL i1 i2 e1 e2 hC0 hCC hCW hCL hst hC hmid hN hP hlo hhi amid midb hc0 hl1 hl2 d1 d2 hPC 
      cases hk : klt ⟨pk, pp, pn, pc, pd⟩ ⟨qk, qp, qn, qc, qd⟩ with
      | true =>
        rw [hk] at hneg
        have hcv : CV < 0 := of_decide_eq_true hneg
        have HY := hide (unhide HYES hk)
        clear hk HYES HNO
        go_wp2_with fail
        refine region_still CC (by kernel_rfl) (by kernel_rfl) (unhide HC0) ?_
        repeat (first
          | go_big_quiet_skip
          | (go_big_quiet_want
             apply Exists.intro
             refine ⟨fun w' hw' => ?_, ?_⟩
             · obtain ⟨⟨c0, c1, c2⟩, c3, c4, c5⟩ := unhide HCC w' hw'
               go_simp
               first | done | rfl | exact unhide HCL w' hw'
             simp only [Act.put, List.setIfInBounds_toArray, List.set_cons_zero, List.set_cons_succ]
             go_big_quiet_on))
        refine wpQuiet_nil ?_
        intro w' hw'
        have HST := hide (unhide HCW w' hw')
        clear hw' HCC HCL HC0 hCe hS1
        go_wp2
        obtain ⟨sr2, bl2⟩ := unhide HST
        obtain ⟨hs1, hs2, hs3, q1, q2, hC⟩ := unhide HFA
        obtain ⟨hb1, hb2⟩ := unhide HHB
        go_roundw
        case rel => exact ⟨s, C, rfl, rfl, hs1, hb1, by omega, q1, unhide HY, sr2, (unhide HKP).trans (Keep.of_below (F := fun _ => False) bl2) (fun _ h => h.elim)⟩
        case measure => simp [intOf]; omega
      | false =>
        rw [hk] at hneg
        have hcv : ¬ CV < 0 := of_decide_eq_false hneg
        have HN := hide (unhide HNO hk)
        clear hk HYES HNO
        go_wp2_with fail
        refine region_still CC (by kernel_rfl) (by kernel_rfl) (unhide HC0) ?_
        repeat (first
          | go_big_quiet_skip
          | (go_big_quiet_want
             apply Exists.intro
             refine ⟨fun w' hw' => ?_, ?_⟩
             · obtain ⟨⟨c0, c1, c2⟩, c3, c4, c5⟩ := unhide HCC w' hw'
               go_simp
               first | done | rfl | exact unhide HCL w' hw'
             simp only [Act.put, List.setIfInBounds_toArray, List.set_cons_zero, List.set_cons_succ]
             go_big_quiet_on))
        refine wpQuiet_nil ?_
        intro w' hw'
        have HST := hide (unhide HCW w' hw')
        clear hw' HCC HCL HC0 hCe hS1
        go_wp2
        obtain ⟨sr2, bl2⟩ := unhide HST
        obtain ⟨hs1, hs2, hs3, q1, q2, hC⟩ := unhide HFA
        obtain ⟨hb1, hb2⟩ := unhide HHB
        go_roundw
        case rel => exact ⟨C + 1, r, by go_num, rfl, by omega, by omega, hs3, unhide HN, q2, sr2, (unhide HKP).trans (Keep.of_below (F := fun _ => False) bl2) (fun _ h => h.elim)⟩
        case measure => simp [intOf]; omega
    · obtain rfl : s = r := by omega
      obtain ⟨e, hE⟩ : ∃ e, e = MID + m - s := ⟨_, rfl⟩
      have cut := cut_of ord_klt (unhide HS).1 (unhide HS).2.1 bl am mb hmid hlo hhi hs1 (by omega) q1 q2
      rw [← hE] at cut
      have ws := cut.sum
      obtain ⟨z1, z2, z3, z4, z5, _, _⟩ := id cut
      have w5 : IntKind.i64.wrap ((N : Int) - (s : Int)) = (e : Int) := by rw [IntKind.wrap_i64]; omega
      by_cases r1 : s = m
      · by_cases r3 : m < MID
        · skip
          have t1 : ¬ (s : Int) < (m : Int) := by omega
          have t3 : (a : Int) < (s : Int) := by omega
          have t4 : (s : Int) < (MID : Int) := by omega
          have t5 : ¬ (MID : Int) < (e : Int) := by omega
          have HBD := hide (And.intro amid (And.intro midb (And.intro bl (And.intro am mb))))
          have HCU := hide cut
          have HKP := hide kp
          have HSR := hide sr
          have HZ : Hid (s = m ∨ e = m ∨ (s < m ∧ m < e)) := by unfold Hid; omega
          clear cut kp sr hs1 hs2 hs3 q1 q2 hst am mb bl hsm hL hmid hlo hhi amid midb hE hN hP hlt z1 z2 z3 z4 z5 ws
          have Hr1 := hide r1
          clear r1
          have Hr3 := hide r3
          clear r3
          obtain ⟨E, w1, hE1, hw1⟩ : ∃ E w1, Hid (E = D) ∧ Hid (w1 = wr) := ⟨_, _, rfl, rfl⟩
          have ixE : Ix D E (rho s m e) := by rw [unhide hE1]; exact (Ix.refl D).congr (fun k => (rho_id s m e k (by have := unhide HZ; omega) (unhide HCU).sm (unhide HCU).me).symm)
          have srE : SRow w1 g cap E := by rw [unhide hE1, unhide hw1]; exact unhide HSR
          have kpE : Keep (fun q => q = g) wr w1 := by rw [unhide hw1]; exact Keep.refl _ _
          obtain ⟨x1s, x2s, x3s, x4s, x5s, x6s⟩ := rho_left_so (unhide HS).1 (unhide HS).2.1 (unhide HS).2.2 (unhide HCU) ixE
          have hEl := ixE.len
          obtain ⟨c1, c2, c3, c4, c5, _, _⟩ := id (unhide HCU)
          obtain ⟨amid, midb, bl, am, mb⟩ := unhide HBD
          have HS1 := hide (IH a s MID E w1 (by omega) ⟨srE, by omega, by omega, by omega, x1s, x2s, x3s⟩)
          rw [hEl, ← unhide HL] at HS1
          have HA := hide (And.intro ixE (And.intro srE (And.intro kpE (And.intro x4s (And.intro x5s (And.intro x6s hEl))))))
          rw [unhide hw1] at HS1
          clear ixE srE kpE x1s x2s x3s x4s x5s x6s hEl c1 c2 c3 c4 c5 amid midb bl am mb
          go_wp2_with fail
          refine Calls.mono (unhide HS1) ?_
          rintro x2 w2 ⟨rfl, F, chF, soF, srF, kpF⟩
          obtain ⟨ixE, srE, kpE, x4s, x5s, x6s, hEl⟩ := unhide HA
          rw [← unhide hw1] at kpF
          obtain ⟨c1, c2, c3, c4, c5, _, _⟩ := id (unhide HCU)
          obtain ⟨amid, midb, bl, am, mb⟩ := unhide HBD
          have y1 : So klt F MID e := fun i j x y i1 i2 i3 hx hy => x4s i j x y i1 i2 i3 (by rw [← chF.out i (by omega)]; exact hx) (by rw [← chF.out j (by omega)]; exact hy)
          have y2 : So klt F e b := fun i j x y i1 i2 i3 hx hy => x5s i j x y i1 i2 i3 (by rw [← chF.out i (by omega)]; exact hx) (by rw [← chF.out j (by omega)]; exact hy)
          have y3 : Cr F MID e b := fun i j x y i1 i2 i3 i4 hx hy => x6s i j x y i1 i2 i3 i4 (by rw [← chF.out i (by omega)]; exact hx) (by rw [← chF.out j (by omega)]; exact hy)
          have hFl := chF.len
          obtain ⟨G, w3, hG, hw3⟩ : ∃ G w3, Hid (G = F) ∧ Hid (w3 = w2) := ⟨_, _, rfl, rfl⟩
          have chG : Ch MID b F G := by rw [unhide hG]; exact Ch.refl _ _ _
          have soG : So klt G MID b := by rw [unhide hG]; exact so_empty y1 y2 (by omega) (by omega) c4
          have srG : SRow w3 g cap G := by rw [unhide hG, unhide hw3]; exact srF
          have kpG : Keep (fun q => q = g) w2 w3 := by rw [unhide hw3]; exact Keep.refl _ _
          have HFIN : Hid (∃ E, Ch a b D E ∧ So klt E a b ∧ SRow w3 g cap E ∧ Keep (fun k => k = g) w w3) := by
            obtain ⟨amid, midb, bl, am, mb⟩ := unhide HBD
            obtain ⟨m1, m2⟩ := merge_all (unhide HS).1 (unhide HS).2.1 (unhide HCU) (by omega) (by omega) ixE chF soF chG soG
            exact ⟨G, m1, m2, srG, (((unhide HKP).trans kpE (fun _ h => Or.inl h)).trans kpF (fun _ h => Or.inl h)).trans kpG (fun _ h => Or.inl h)⟩
          rw [unhide hw3] at HFIN
          clear ixE kpE chF soF kpF chG soG srG kpG
          clear y1 y2 y3 hFl srF x4s x5s x6s hEl c1 c2 c3 c4 c5 amid midb bl am mb srE
          go_wp2
          go_end0
          exact ⟨rfl, unhide HFIN⟩
        · skip
          have t1 : ¬ (s : Int) < (m : Int) := by omega
          have t3 : (a : Int) < (s : Int) := by omega
          have t4 : ¬ (s : Int) < (MID : Int) := by omega
          have t5 : ¬ (MID : Int) < (e : Int) := by omega
          have HBD := hide (And.intro amid (And.intro midb (And.intro bl (And.intro am mb))))
          have HCU := hide cut
          have HKP := hide kp
          have HSR := hide sr
          have HZ : Hid (s = m ∨ e = m ∨ (s < m ∧ m < e)) := by unfold Hid; omega
          clear cut kp sr hs1 hs2 hs3 q1 q2 hst am mb bl hsm hL hmid hlo hhi amid midb hE hN hP hlt z1 z2 z3 z4 z5 ws
          have Hr1 := hide r1
          clear r1
          have Hr3 := hide r3
          clear r3
          obtain ⟨E, w1, hE1, hw1⟩ : ∃ E w1, Hid (E = D) ∧ Hid (w1 = wr) := ⟨_, _, rfl, rfl⟩
          have ixE : Ix D E (rho s m e) := by rw [unhide hE1]; exact (Ix.refl D).congr (fun k => (rho_id s m e k (by have := unhide HZ; omega) (unhide HCU).sm (unhide HCU).me).symm)
          have srE : SRow w1 g cap E := by rw [unhide hE1, unhide hw1]; exact unhide HSR
          have kpE : Keep (fun q => q = g) wr w1 := by rw [unhide hw1]; exact Keep.refl _ _
          obtain ⟨x1s, x2s, x3s, x4s, x5s, x6s⟩ := rho_left_so (unhide HS).1 (unhide HS).2.1 (unhide HS).2.2 (unhide HCU) ixE
          have hEl := ixE.len
          obtain ⟨c1, c2, c3, c4, c5, _, _⟩ := id (unhide HCU)
          obtain ⟨amid, midb, bl, am, mb⟩ := unhide HBD
          obtain ⟨F, w2, hF, hw2⟩ : ∃ F w2, Hid (F = E) ∧ Hid (w2 = w1) := ⟨_, _, rfl, rfl⟩
          have chF : Ch a MID E F := by rw [unhide hF]; exact Ch.refl _ _ _
          have soF : So klt F a MID := by rw [unhide hF]; exact so_empty x1s x2s (by omega) c1 (by omega)
          have srF : SRow w2 g cap F := by rw [unhide hF, unhide hw2]; exact srE
          have kpF : Keep (fun q => q = g) w1 w2 := by rw [unhide hw2]; exact Keep.refl _ _
          have y1 : So klt F MID e := fun i j x y i1 i2 i3 hx hy => x4s i j x y i1 i2 i3 (by rw [← chF.out i (by omega)]; exact hx) (by rw [← chF.out j (by omega)]; exact hy)
          have y2 : So klt F e b := fun i j x y i1 i2 i3 hx hy => x5s i j x y i1 i2 i3 (by rw [← chF.out i (by omega)]; exact hx) (by rw [← chF.out j (by omega)]; exact hy)
          have y3 : Cr F MID e b := fun i j x y i1 i2 i3 i4 hx hy => x6s i j x y i1 i2 i3 i4 (by rw [← chF.out i (by omega)]; exact hx) (by rw [← chF.out j (by omega)]; exact hy)
          have hFl := chF.len
          obtain ⟨G, w3, hG, hw3⟩ : ∃ G w3, Hid (G = F) ∧ Hid (w3 = w2) := ⟨_, _, rfl, rfl⟩
          have chG : Ch MID b F G := by rw [unhide hG]; exact Ch.refl _ _ _
          have soG : So klt G MID b := by rw [unhide hG]; exact so_empty y1 y2 (by omega) (by omega) c4
          have srG : SRow w3 g cap G := by rw [unhide hG, unhide hw3]; exact srF
          have kpG : Keep (fun q => q = g) w2 w3 := by rw [unhide hw3]; exact Keep.refl _ _
          have HFIN : Hid (∃ E, Ch a b D E ∧ So klt E a b ∧ SRow w3 g cap E ∧ Keep (fun k => k = g) w w3) := by
            obtain ⟨amid, midb, bl, am, mb⟩ := unhide HBD
            obtain ⟨m1, m2⟩ := merge_all (unhide HS).1 (unhide HS).2.1 (unhide HCU) (by omega) (by omega) ixE chF soF chG soG
            exact ⟨G, m1, m2, srG, (((unhide HKP).trans kpE (fun _ h => Or.inl h)).trans kpF (fun _ h => Or.inl h)).trans kpG (fun _ h => Or.inl h)⟩
          rw [unhide hw3] at HFIN
          rw [unhide hw2] at HFIN
          rw [unhide hw1] at HFIN
          clear ixE kpE chF soF kpF chG soG srG kpG
          clear y1 y2 y3 hFl srF x4s x5s x6s hEl c1 c2 c3 c4 c5 amid midb bl am mb srE x1s x2s x3s
          go_wp2
          go_end0
          exact ⟨rfl, unhide HFIN⟩
      · skip
        by_cases r5 : a < s
        · by_cases r6 : e < b
          · skip
            have t1 : (s : Int) < (m : Int) := by omega
            have t2 : (m : Int) < (e : Int) := by omega
            have t3 : (a : Int) < (s : Int) := by omega
            have t4 : (s : Int) < (MID : Int) := by omega
            have t5 : (MID : Int) < (e : Int) := by omega
            have t6 : (e : Int) < (b : Int) := by omega
            have HRO := hide (rotate_any g cap s m e byV D wr sr (by omega) (by omega) (by omega))
            have HBD := hide (And.intro amid (And.intro midb (And.intro bl (And.intro am mb))))
            have HCU := hide cut
            have HKP := hide kp
            have HSR := hide sr
            have HZ : Hid (s = m ∨ e = m ∨ (s < m ∧ m < e)) := by unfold Hid; omega
            rw [← hL] at HRO
            clear cut kp sr hs1 hs2 hs3 q1 q2 hst am mb bl hsm hL hmid hlo hhi amid midb hE hN hP hlt z1 z2 z3 z4 z5 ws
            have Hr1 := hide r1
            clear r1
            have Hr5 := hide r5
            clear r5
            have Hr6 := hide r6
            clear r6
            go_wp2_with fail
            refine Calls.mono (unhide HRO) ?_
            rintro x1 w1 ⟨rfl, E, ixE, srE, kpE⟩
            obtain ⟨x1s, x2s, x3s, x4s, x5s, x6s⟩ := rho_left_so (unhide HS).1 (unhide HS).2.1 (unhide HS).2.2 (unhide HCU) ixE
            have hEl := ixE.len
            obtain ⟨c1, c2, c3, c4, c5, _, _⟩ := id (unhide HCU)
            obtain ⟨amid, midb, bl, am, mb⟩ := unhide HBD
            have HS1 := hide (IH a s MID E w1 (by omega) ⟨srE, by omega, by omega, by omega, x1s, x2s, x3s⟩)
            rw [hEl, ← unhide HL] at HS1
            have HA := hide (And.intro ixE (And.intro srE (And.intro kpE (And.intro x4s (And.intro x5s (And.intro x6s hEl))))))
            clear ixE srE kpE x1s x2s x3s x4s x5s x6s hEl c1 c2 c3 c4 c5 amid midb bl am mb
            go_wp2_with fail
            refine Calls.mono (unhide HS1) ?_
            rintro x2 w2 ⟨rfl, F, chF, soF, srF, kpF⟩
            obtain ⟨ixE, srE, kpE, x4s, x5s, x6s, hEl⟩ := unhide HA
            obtain ⟨c1, c2, c3, c4, c5, _, _⟩ := id (unhide HCU)
            obtain ⟨amid, midb, bl, am, mb⟩ := unhide HBD
            have y1 : So klt F MID e := fun i j x y i1 i2 i3 hx hy => x4s i j x y i1 i2 i3 (by rw [← chF.out i (by omega)]; exact hx) (by rw [← chF.out j (by omega)]; exact hy)
            have y2 : So klt F e b := fun i j x y i1 i2 i3 hx hy => x5s i j x y i1 i2 i3 (by rw [← chF.out i (by omega)]; exact hx) (by rw [← chF.out j (by omega)]; exact hy)
            have y3 : Cr F MID e b := fun i j x y i1 i2 i3 i4 hx hy => x6s i j x y i1 i2 i3 i4 (by rw [← chF.out i (by omega)]; exact hx) (by rw [← chF.out j (by omega)]; exact hy)
            have hFl := chF.len
            have HS2 := hide (IH MID e b F w2 (by omega) ⟨srF, by omega, by omega, by omega, y1, y2, y3⟩)
            rw [hFl, hEl, ← unhide HL] at HS2
            have HA2 := hide (And.intro ixE (And.intro kpE (And.intro chF (And.intro soF kpF))))
            clear ixE srE kpE x4s x5s x6s hEl c1 c2 c3 c4 c5 amid midb bl am mb chF soF srF kpF y1 y2 y3 hFl
            go_wp2_with fail
            refine Calls.mono (unhide HS2) ?_
            rintro x3 w3 ⟨rfl, G, chG, soG, srG, kpG⟩
            obtain ⟨ixE, kpE, chF, soF, kpF⟩ := unhide HA2
            have HFIN : Hid (∃ E, Ch a b D E ∧ So klt E a b ∧ SRow w3 g cap E ∧ Keep (fun k => k = g) w w3) := by
              obtain ⟨amid, midb, bl, am, mb⟩ := unhide HBD
              obtain ⟨m1, m2⟩ := merge_all (unhide HS).1 (unhide HS).2.1 (unhide HCU) (by omega) (by omega) ixE chF soF chG soG
              exact ⟨G, m1, m2, srG, (((unhide HKP).trans kpE (fun _ h => Or.inl h)).trans kpF (fun _ h => Or.inl h)).trans kpG (fun _ h => Or.inl h)⟩
            clear ixE kpE chF soF kpF chG soG srG kpG
            go_wp2
            go_end0
            exact ⟨rfl, unhide HFIN⟩
          · skip
            have t1 : (s : Int) < (m : Int) := by omega
            have t2 : (m : Int) < (e : Int) := by omega
            have t3 : (a : Int) < (s : Int) := by omega
            have t4 : (s : Int) < (MID : Int) := by omega
            have t5 : (MID : Int) < (e : Int) := by omega
            have t6 : ¬ (e : Int) < (b : Int) := by omega
            have HRO := hide (rotate_any g cap s m e byV D wr sr (by omega) (by omega) (by omega))
            have HBD := hide (And.intro amid (And.intro midb (And.intro bl (And.intro am mb))))
            have HCU := hide cut
            have HKP := hide kp
            have HSR := hide sr
            have HZ : Hid (s = m ∨ e = m ∨ (s < m ∧ m < e)) := by unfold Hid; omega
            rw [← hL] at HRO
            clear cut kp sr hs1 hs2 hs3 q1 q2 hst am mb bl hsm hL hmid hlo hhi amid midb hE hN hP hlt z1 z2 z3 z4 z5 ws
            have Hr1 := hide r1
            clear r1
            have Hr5 := hide r5
            clear r5
            have Hr6 := hide r6
            clear r6
            go_wp2_with fail
            refine Calls.mono (unhide HRO) ?_
            rintro x1 w1 ⟨rfl, E, ixE, srE, kpE⟩
            obtain ⟨x1s, x2s, x3s, x4s, x5s, x6s⟩ := rho_left_so (unhide HS).1 (unhide HS).2.1 (unhide HS).2.2 (unhide HCU) ixE
            have hEl := ixE.len
            obtain ⟨c1, c2, c3, c4, c5, _, _⟩ := id (unhide HCU)
            obtain ⟨amid, midb, bl, am, mb⟩ := unhide HBD
            have HS1 := hide (IH a s MID E w1 (by omega) ⟨srE, by omega, by omega, by omega, x1s, x2s, x3s⟩)
            rw [hEl, ← unhide HL] at HS1
            have HA := hide (And.intro ixE (And.intro srE (And.intro kpE (And.intro x4s (And.intro x5s (And.intro x6s hEl))))))
            clear ixE srE kpE x1s x2s x3s x4s x5s x6s hEl c1 c2 c3 c4 c5 amid midb bl am mb
            go_wp2_with fail
            refine Calls.mono (unhide HS1) ?_
            rintro x2 w2 ⟨rfl, F, chF, soF, srF, kpF⟩
            obtain ⟨ixE, srE, kpE, x4s, x5s, x6s, hEl⟩ := unhide HA
            obtain ⟨c1, c2, c3, c4, c5, _, _⟩ := id (unhide HCU)
            obtain ⟨amid, midb, bl, am, mb⟩ := unhide HBD
            have y1 : So klt F MID e := fun i j x y i1 i2 i3 hx hy => x4s i j x y i1 i2 i3 (by rw [← chF.out i (by omega)]; exact hx) (by rw [← chF.out j (by omega)]; exact hy)
            have y2 : So klt F e b := fun i j x y i1 i2 i3 hx hy => x5s i j x y i1 i2 i3 (by rw [← chF.out i (by omega)]; exact hx) (by rw [← chF.out j (by omega)]; exact hy)
            have y3 : Cr F MID e b := fun i j x y i1 i2 i3 i4 hx hy => x6s i j x y i1 i2 i3 i4 (by rw [← chF.out i (by omega)]; exact hx) (by rw [← chF.out j (by omega)]; exact hy)
            have hFl := chF.len
            obtain ⟨G, w3, hG, hw3⟩ : ∃ G w3, Hid (G = F) ∧ Hid (w3 = w2) := ⟨_, _, rfl, rfl⟩
            have chG : Ch MID b F G := by rw [unhide hG]; exact Ch.refl _ _ _
            have soG : So klt G MID b := by rw [unhide hG]; exact so_empty y1 y2 (by omega) (by omega) c4
            have srG : SRow w3 g cap G := by rw [unhide hG, unhide hw3]; exact srF
            have kpG : Keep (fun q => q = g) w2 w3 := by rw [unhide hw3]; exact Keep.refl _ _
            have HFIN : Hid (∃ E, Ch a b D E ∧ So klt E a b ∧ SRow w3 g cap E ∧ Keep (fun k => k = g) w w3) := by
              obtain ⟨amid, midb, bl, am, mb⟩ := unhide HBD
              obtain ⟨m1, m2⟩ := merge_all (unhide HS).1 (unhide HS).2.1 (unhide HCU) (by omega) (by omega) ixE chF soF chG soG
              exact ⟨G, m1, m2, srG, (((unhide HKP).trans kpE (fun _ h => Or.inl h)).trans kpF (fun _ h => Or.inl h)).trans kpG (fun _ h => Or.inl h)⟩
            rw [unhide hw3] at HFIN
            clear ixE kpE chF soF kpF chG soG srG kpG
            clear y1 y2 y3 hFl srF x4s x5s x6s hEl c1 c2 c3 c4 c5 amid midb bl am mb srE
            go_wp2
            go_end0
            exact ⟨rfl, unhide HFIN⟩
        · by_cases r6 : e < b
          · skip
            have t1 : (s : Int) < (m : Int) := by omega
            have t2 : (m : Int) < (e : Int) := by omega
            have t3 : ¬ (a : Int) < (s : Int) := by omega
            have t5 : (MID : Int) < (e : Int) := by omega
            have t6 : (e : Int) < (b : Int) := by omega
            have HRO := hide (rotate_any g cap s m e byV D wr sr (by omega) (by omega) (by omega))
            have HBD := hide (And.intro amid (And.intro midb (And.intro bl (And.intro am mb))))
            have HCU := hide cut
            have HKP := hide kp
            have HSR := hide sr
            have HZ : Hid (s = m ∨ e = m ∨ (s < m ∧ m < e)) := by unfold Hid; omega
            rw [← hL] at HRO
            clear cut kp sr hs1 hs2 hs3 q1 q2 hst am mb bl hsm hL hmid hlo hhi amid midb hE hN hP hlt z1 z2 z3 z4 z5 ws
            have Hr1 := hide r1
            clear r1
            have Hr5 := hide r5
            clear r5
            have Hr6 := hide r6
            clear r6
            go_wp2_with fail
            refine Calls.mono (unhide HRO) ?_
            rintro x1 w1 ⟨rfl, E, ixE, srE, kpE⟩
            obtain ⟨x1s, x2s, x3s, x4s, x5s, x6s⟩ := rho_left_so (unhide HS).1 (unhide HS).2.1 (unhide HS).2.2 (unhide HCU) ixE
            have hEl := ixE.len
            obtain ⟨c1, c2, c3, c4, c5, _, _⟩ := id (unhide HCU)
            obtain ⟨amid, midb, bl, am, mb⟩ := unhide HBD
            obtain ⟨F, w2, hF, hw2⟩ : ∃ F w2, Hid (F = E) ∧ Hid (w2 = w1) := ⟨_, _, rfl, rfl⟩
            have chF : Ch a MID E F := by rw [unhide hF]; exact Ch.refl _ _ _
            have soF : So klt F a MID := by rw [unhide hF]; exact so_empty x1s x2s (by omega) c1 (by omega)
            have srF : SRow w2 g cap F := by rw [unhide hF, unhide hw2]; exact srE
            have kpF : Keep (fun q => q = g) w1 w2 := by rw [unhide hw2]; exact Keep.refl _ _
            have y1 : So klt F MID e := fun i j x y i1 i2 i3 hx hy => x4s i j x y i1 i2 i3 (by rw [← chF.out i (by omega)]; exact hx) (by rw [← chF.out j (by omega)]; exact hy)
            have y2 : So klt F e b := fun i j x y i1 i2 i3 hx hy => x5s i j x y i1 i2 i3 (by rw [← chF.out i (by omega)]; exact hx) (by rw [← chF.out j (by omega)]; exact hy)
            have y3 : Cr F MID e b := fun i j x y i1 i2 i3 i4 hx hy => x6s i j x y i1 i2 i3 i4 (by rw [← chF.out i (by omega)]; exact hx) (by rw [← chF.out j (by omega)]; exact hy)
            have hFl := chF.len
            have HS2 := hide (IH MID e b F w2 (by omega) ⟨srF, by omega, by omega, by omega, y1, y2, y3⟩)
            rw [hFl, hEl, ← unhide HL] at HS2
            have HA2 := hide (And.intro ixE (And.intro kpE (And.intro chF (And.intro soF kpF))))
            rw [unhide hw2] at HS2
            clear ixE srE kpE x4s x5s x6s hEl c1 c2 c3 c4 c5 amid midb bl am mb chF soF srF kpF y1 y2 y3 hFl
            clear x1s x2s x3s
            go_wp2_with fail
            refine Calls.mono (unhide HS2) ?_
            rintro x3 w3 ⟨rfl, G, chG, soG, srG, kpG⟩
            obtain ⟨ixE, kpE, chF, soF, kpF⟩ := unhide HA2
            rw [← unhide hw2] at kpG
            have HFIN : Hid (∃ E, Ch a b D E ∧ So klt E a b ∧ SRow w3 g cap E ∧ Keep (fun k => k = g) w w3) := by
              obtain ⟨amid, midb, bl, am, mb⟩ := unhide HBD
              obtain ⟨m1, m2⟩ := merge_all (unhide HS).1 (unhide HS).2.1 (unhide HCU) (by omega) (by omega) ixE chF soF chG soG
              exact ⟨G, m1, m2, srG, (((unhide HKP).trans kpE (fun _ h => Or.inl h)).trans kpF (fun _ h => Or.inl h)).trans kpG (fun _ h => Or.inl h)⟩
            clear ixE kpE chF soF kpF chG soG srG kpG
            go_wp2
            go_end0
            exact ⟨rfl, unhide HFIN⟩
          · skip
            have t1 : (s : Int) < (m : Int) := by omega
            have t2 : (m : Int) < (e : Int) := by omega
            have t3 : ¬ (a : Int) < (s : Int) := by omega
            have t5 : (MID : Int) < (e : Int) := by omega
            have t6 : ¬ (e : Int) < (b : Int) := by omega
            have HRO := hide (rotate_any g cap s m e byV D wr sr (by omega) (by omega) (by omega))
            have HBD := hide (And.intro amid (And.intro midb (And.intro bl (And.intro am mb))))
            have HCU := hide cut
            have HKP := hide kp
            have HSR := hide sr
            have HZ : Hid (s = m ∨ e = m ∨ (s < m ∧ m < e)) := by unfold Hid; omega
            rw [← hL] at HRO
            clear cut kp sr hs1 hs2 hs3 q1 q2 hst am mb bl hsm hL hmid hlo hhi amid midb hE hN hP hlt z1 z2 z3 z4 z5 ws
            have Hr1 := hide r1
            clear r1
            have Hr5 := hide r5
            clear r5
            have Hr6 := hide r6
            clear r6
            go_wp2_with fail
            refine Calls.mono (unhide HRO) ?_
            rintro x1 w1 ⟨rfl, E, ixE, srE, kpE⟩
            obtain ⟨x1s, x2s, x3s, x4s, x5s, x6s⟩ := rho_left_so (unhide HS).1 (unhide HS).2.1 (unhide HS).2.2 (unhide HCU) ixE
            have hEl := ixE.len
            obtain ⟨c1, c2, c3, c4, c5, _, _⟩ := id (unhide HCU)
            obtain ⟨amid, midb, bl, am, mb⟩ := unhide HBD
            obtain ⟨F, w2, hF, hw2⟩ : ∃ F w2, Hid (F = E) ∧ Hid (w2 = w1) := ⟨_, _, rfl, rfl⟩
            have chF : Ch a MID E F := by rw [unhide hF]; exact Ch.refl _ _ _
            have soF : So klt F a MID := by rw [unhide hF]; exact so_empty x1s x2s (by omega) c1 (by omega)
            have srF : SRow w2 g cap F := by rw [unhide hF, unhide hw2]; exact srE
            have kpF : Keep (fun q => q = g) w1 w2 := by rw [unhide hw2]; exact Keep.refl _ _
            have y1 : So klt F MID e := fun i j x y i1 i2 i3 hx hy => x4s i j x y i1 i2 i3 (by rw [← chF.out i (by omega)]; exact hx) (by rw [← chF.out j (by omega)]; exact hy)
            have y2 : So klt F e b := fun i j x y i1 i2 i3 hx hy => x5s i j x y i1 i2 i3 (by rw [← chF.out i (by omega)]; exact hx) (by rw [← chF.out j (by omega)]; exact hy)
            have y3 : Cr F MID e b := fun i j x y i1 i2 i3 i4 hx hy => x6s i j x y i1 i2 i3 i4 (by rw [← chF.out i (by omega)]; exact hx) (by rw [← chF.out j (by omega)]; exact hy)
            have hFl := chF.len
            obtain ⟨G, w3, hG, hw3⟩ : ∃ G w3, Hid (G = F) ∧ Hid (w3 = w2) := ⟨_, _, rfl, rfl⟩
            have chG : Ch MID b F G := by rw [unhide hG]; exact Ch.refl _ _ _
            have soG : So klt G MID b := by rw [unhide hG]; exact so_empty y1 y2 (by omega) (by omega) c4
            have srG : SRow w3 g cap G := by rw [unhide hG, unhide hw3]; exact srF
            have kpG : Keep (fun q => q = g) w2 w3 := by rw [unhide hw3]; exact Keep.refl _ _
            have HFIN : Hid (∃ E, Ch a b D E ∧ So klt E a b ∧ SRow w3 g cap E ∧ Keep (fun k => k = g) w w3) := by
              obtain ⟨amid, midb, bl, am, mb⟩ := unhide HBD
              obtain ⟨m1, m2⟩ := merge_all (unhide HS).1 (unhide HS).2.1 (unhide HCU) (by omega) (by omega) ixE chF soF chG soG
              exact ⟨G, m1, m2, srG, (((unhide HKP).trans kpE (fun _ h => Or.inl h)).trans kpF (fun _ h => Or.inl h)).trans kpG (fun _ h => Or.inl h)⟩
            rw [unhide hw3] at HFIN
            rw [unhide hw2] at HFIN
            clear ixE kpE chF soF kpF chG soG srG kpG
            clear y1 y2 y3 hFl srF x4s x5s x6s hEl c1 c2 c3 c4 c5 amid midb bl am mb srE x1s x2s x3s
            go_wp2
            go_end0
            exact ⟨rfl, unhide HFIN⟩
end Go.Proofs.Ytehafkbndjifaaa

/- The library's stable sort at operations: the symmetric merge, the sort. -/
namespace Go.Proofs.Ytehafkbndjifaaa
open Go.RowKit

/-- The symmetric merge of two ordered parts. -/
theorem sym_any (g cap : Nat) : ∀ (n a m b : Nat) (D : List (Opv × Nat)) (w : World), b - a ≤ n → MIn w g cap D a m b →
    Calls Try.prog 76 #[.slice (some ⟨g, 0, none⟩) D.length cap, .int .i64 (a : Int), .int .i64 (m : Int), .int .i64 (b : Int), byV] w fun e w' => e = .returned (.tuple #[]) ∧ ∃ E, Ch a b D E ∧ So klt E a b ∧ SRow w' g cap E ∧ Keep (fun k => k = g) w w'
  | 0, a, m, b, D, w, hn, h => by have := h.am; have := h.mb; omega
  | n + 1, a, m, b, D, w, hn, h => by
    by_cases h1 : m = a + 1
    · exact sym_left g cap a m b D w h h1
    · by_cases h2 : b = m + 1
      · exact sym_right g cap a m b D w h h1 h2
      · rcases Nat.lt_or_ge ((a + b) / 2) m with hc | hc
        · exact sym_gt g cap a m b ((a + b) / 2) D w h h1 h2 rfl hc (fun a' m' b' D' W hl hM => sym_any g cap n a' m' b' D' W (by omega) hM)
        · exact sym_le g cap a m b ((a + b) / 2) D w h h1 h2 rfl hc (fun a' m' b' D' W hl hM => sym_any g cap n a' m' b' D' W (by omega) hM)

/-- One call of the insertion, of an empty range too. -/
theorem ins_all (g cap a b : Nat) (D : List (Opv × Nat)) (w : World) (h : SRow w g cap D) (hab : a ≤ b) (hb : b ≤ D.length) (hr : Rs D a b) :
    Calls Try.prog 75 #[.slice (some ⟨g, 0, none⟩) D.length cap, .int .i64 (a : Int), .int .i64 (b : Int), byV] w fun e w' => e = .returned (.tuple #[]) ∧ ∃ E, Ch a b D E ∧ So klt E a b ∧ SRow w' g cap E ∧ Keep (fun k => k = g) w w' := by
  by_cases h0 : a < b
  · exact ins_any g cap a b D w h h0 hb hr
  · refine (ins_empty g cap D.length a b w (by omega) (by have := h.small; omega)).mono ?_
    rintro e w' ⟨rfl, rfl⟩
    exact ⟨rfl, D, Ch.refl _ _ _, fun i j x y i1 i2 i3 => by omega, h, Keep.refl _ _⟩
theorem Ins.rise {D : List (Opv × Nat)} {a b : Nat} (h : Ins klt D a) : Rs D a b := by
  intro i j x y i1 i2 i3 hx hy
  have := h.new i x hx i1
  have := h.new j y hy (by omega)
  omega

set_option maxRecDepth 20000 in
set_option maxHeartbeats 4000000 in
theorem stable_any (g cap : Nat) (D : List (Opv × Nat)) (w : World) (h : SRow w g cap D) (hD : ∀ (i : Nat) (x : Opv × Nat), D[i]? = some x → x.2 = i) (hsz : D.length ≤ 140737488355328) :
    Calls Try.prog 70 #[.slice (some ⟨g, 0, none⟩) D.length cap, .int .i64 (D.length : Int), byV] w fun e w' => e = .returned (.tuple #[]) ∧ ∃ E, E.Perm D ∧ So klt E 0 E.length ∧ SRow w' g cap E ∧ Keep (fun k => k = g) w w' := by
  obtain ⟨l, hl⟩ : ∃ l, l = D.length := ⟨_, rfl⟩
  have HL := hide hl
  have H0 := hide h
  have HD := hide hD
  rw [← hl] at hsz ⊢
  have HSZ := hide hsz
  have hlI : (l : Int) < 4611686018427387904 := by omega
  clear h hD hl hsz
  go_enter Try.func70, Try.ntmps70
  go_wp2
  go_loopw [7, 8] (fun aa bb wr => ∃ q A B : Nat, aa = .int .i64 A ∧ bb = .int .i64 B ∧ Hid (A = q * 20 ∧ B = q * 20 + 20 ∧ q * 20 ≤ l ∧ ∃ E, E.length = l ∧ E.Perm D ∧ Ins klt E (q * 20) ∧ SRow wr g cap E ∧ Keep (fun q => q = g) w wr)) (fun aa _ _ => l + 20 - (intOf aa).toNat)
  case atStart => exact ⟨0, 0, 20, rfl, rfl, rfl, rfl, by omega, D, (unhide HL).symm, List.Perm.refl _, ⟨fun i x _ hi => by omega, fun i x hx _ => unhide HD i x hx, fun i j x y _ hj => by omega⟩, unhide H0, Keep.refl _ _⟩
  case round =>
    obtain ⟨q, A, B, rfl, rfl, hst⟩ := hrel
    obtain ⟨hA, hB, hql, E, hEl, hpm, hin, sr, kp⟩ := unhide hst
    have hsz := unhide HSZ
    have wB : IntKind.i64.wrap ((B : Int) + 20) = ((B + 20 : Nat) : Int) := by rw [IntKind.wrap_i64]; omega
    obtain ⟨B2, hB2⟩ : ∃ B2, B2 = B + 20 := ⟨_, rfl⟩
    rw [← hB2] at wB
    by_cases hlt : (B : Int) ≤ (l : Int)
    · have HC := hide (ins_all g cap A B E wr sr (by omega) (by omega) (by rw [hA]; exact hin.rise))
      rw [hEl] at HC
      rw [← hA] at hin
      have HA := hide (And.intro hA (And.intro hB (And.intro hB2 (And.intro hql (And.intro hEl (And.intro hpm (And.intro hin kp)))))))
      clear hA hB hB2 hql hEl hpm hin sr kp hst hsz
      go_wp2_with fail
      refine Calls.mono (unhide HC) ?_
      rintro e w2 ⟨rfl, hx2⟩
      have HX2 := hide hx2
      clear hx2
      go_wp2
      obtain ⟨E2, ch, so, sr, kp2⟩ := unhide HX2
      obtain ⟨hA, hB, hB2, hql, hEl, hpm, hin, kp⟩ := unhide HA
      go_roundw
      case rel =>
        refine ⟨q + 1, B, B2, rfl, rfl, by omega, by omega, by omega, E2, ch.len.trans hEl, ch.perm.trans hpm, ?_, sr, kp.trans kp2 (fun _ h => Or.inl h)⟩
        rw [show (q + 1) * 20 = B by omega]
        exact hin.step (by omega) (by omega) (by omega) ch so
      case measure => simp [intOf]; omega
    · have HC := hide (ins_all g cap A l E wr sr (by omega) (by omega) (by rw [hA]; exact hin.rise))
      rw [hEl] at HC
      rw [← hA] at hin
      have HA := hide (And.intro hA (And.intro hB (And.intro hB2 (And.intro hql (And.intro hEl (And.intro hpm (And.intro hin kp)))))))
      clear hA hB hB2 hql hEl hpm hin sr kp hst hsz
      go_wp2_with fail
      refine Calls.mono (unhide HC) ?_
      rintro e w2 ⟨rfl, hx2⟩
      have HX2 : Hid (∃ E, E.length = l ∧ E.Perm D ∧ Blk klt E 20 ∧ SRow w2 g cap E ∧ Keep (fun q => q = g) w w2) := by
        obtain ⟨E2, ch, so, sr, kp2⟩ := hx2
        obtain ⟨hA, hB, hB2, hql, hEl, hpm, hin, kp⟩ := unhide HA
        have hl2 := ch.len.trans hEl
        refine ⟨E2, hl2, ch.perm.trans hpm, ?_, sr, kp.trans kp2 (fun _ h => Or.inl h)⟩
        have := hin.step (by omega) (by omega) (by omega) ch so
        rw [← hl2] at this
        exact this.blk
      clear hx2 HC HA
      go_wp2
      go_loopw [6, 7, 8, 9] (fun bb _ _ _ wr => ∃ bs : Nat, bb = .int .i64 bs ∧ Hid (20 ≤ bs ∧ bs ≤ 2 * l + 20 ∧ ∃ E, E.length = l ∧ E.Perm D ∧ Blk klt E bs ∧ SRow wr g cap E ∧ Keep (fun q => q = g) w wr)) (fun bb _ _ _ _ => l - (intOf bb).toNat)
      case atStart =>
        obtain ⟨E2, e1, e2, e3, e4, e5⟩ := unhide HX2
        exact ⟨20, rfl, by omega, by omega, E2, e1, e2, e3, e4, e5⟩
      case round =>
        clear HX2
        obtain ⟨bs, rfl, hst⟩ := hrel
        obtain ⟨hb20, hbl, E, hEl, hpm, hbk, sr, kp⟩ := unhide hst
        have hsz := unhide HSZ
        by_cases hlt : (bs : Int) < (l : Int)
        · obtain ⟨TB, hTB⟩ : ∃ TB, TB = 2 * bs := ⟨_, rfl⟩
          have wT : IntKind.i64.wrap (2 * (bs : Int)) = (TB : Int) := by rw [IntKind.wrap_i64]; omega
          have wT2 : IntKind.i64.wrap ((bs : Int) * 2) = (TB : Int) := by rw [IntKind.wrap_i64]; omega
          have HTB := hide hTB
          have HBS : Hid (20 ≤ bs ∧ bs < l) := ⟨hb20, by omega⟩
          have HE := hide (And.intro hEl (And.intro hpm (And.intro hbk (And.intro sr kp))))
          clear hb20 hbl hEl hpm hbk sr kp hst hsz hTB
          go_wp2
          go_loopw [7, 8] (fun aa bb wr => ∃ q A B : Nat, aa = .int .i64 A ∧ bb = .int .i64 B ∧ Hid (A = 2 * bs * q ∧ B = A + TB ∧ A ≤ l ∧ ∃ E, E.length = l ∧ E.Perm D ∧ Mer klt E bs A ∧ SRow wr g cap E ∧ Keep (fun q => q = g) w wr)) (fun aa _ _ => l + 20 - (intOf aa).toNat)
          case atStart =>
            obtain ⟨e1, e2, e3, e4, e5⟩ := unhide HE
            exact ⟨0, 0, TB, rfl, rfl, by omega, by omega, by omega, E, e1, e2, Mer.start e3, e4, e5⟩
          case round =>
            clear HE
            obtain ⟨q, A, B, rfl, rfl, hst⟩ := hrel
            obtain ⟨hA, hB, hAl, E3, hEl, hpm, hmr, sr, kp⟩ := unhide hst
            have hsz := unhide HSZ
            have hTB := unhide HTB
            obtain ⟨hb20, hbl⟩ := unhide HBS
            obtain ⟨M, hM⟩ : ∃ M, M = A + bs := ⟨_, rfl⟩
            have wB : IntKind.i64.wrap ((B : Int) + (TB : Int)) = ((B + TB : Nat) : Int) := by rw [IntKind.wrap_i64]; omega
            obtain ⟨B2, hB2⟩ : ∃ B2, B2 = B + TB := ⟨_, rfl⟩
            rw [← hB2] at wB
            have wM : IntKind.i64.wrap ((A : Int) + (bs : Int)) = (M : Int) := by rw [IntKind.wrap_i64]; omega
            have hmr' := hmr
            rw [hA] at hmr'
            by_cases hle : (B : Int) ≤ (l : Int)
            · have hasks := hmr'.asks (b := B) (by omega) (by omega)
              rw [← hA, ← hM] at hasks
              have HC := hide (sym_any g cap (B - A) A M B E3 wr (Nat.le_refl _) ⟨sr, by omega, by omega, by omega, hasks.1, hasks.2.1, hasks.2.2⟩)
              rw [hEl] at HC
              have HA := hide (And.intro hA (And.intro hB (And.intro hB2 (And.intro hEl (And.intro hpm (And.intro hmr' (And.intro kp hTB)))))))
              clear hA hAl hEl hpm hmr sr kp hst hsz hTB hb20 hbl hB hM hB2 hmr' hasks
              go_wp2_with fail
              refine Calls.mono (unhide HC) ?_
              rintro e w2 ⟨rfl, hx2⟩
              have HX2 := hide hx2
              clear hx2
              go_wp2
              obtain ⟨E4, ch, so, sr, kp2⟩ := unhide HX2
              obtain ⟨hA, hB, hB2, hEl, hpm, hmr', kp, hTB⟩ := unhide HA
              obtain ⟨hb20, hbl⟩ := unhide HBS
              go_roundw
              case rel =>
                refine ⟨q + 1, B, B2, rfl, rfl, by rw [Nat.mul_succ]; omega, hB2, by omega, E4, ch.len.trans hEl, ch.perm.trans hpm, ?_, sr, kp.trans kp2 (fun _ h => Or.inl h)⟩
                rw [hA] at ch so
                exact hmr'.step (by omega) (by omega) (by omega) ch so
              case measure => simp [intOf]; omega
            · by_cases hml : (M : Int) < (l : Int)
              · have hasks := hmr'.asks (b := l) (by omega) (by omega)
                rw [← hA, ← hM] at hasks
                have HC := hide (sym_any g cap (l - A) A M l E3 wr (Nat.le_refl _) ⟨sr, by omega, by omega, by omega, hasks.1, hasks.2.1, hasks.2.2⟩)
                rw [hEl] at HC
                have HA := hide (And.intro hA (And.intro hB (And.intro hEl (And.intro hpm (And.intro hmr' (And.intro kp (And.intro hTB hAl)))))))
                clear hA hAl hEl hpm hmr sr kp hst hsz hTB hb20 hbl hB hM hB2 hmr' hasks
                go_wp2_with fail
                refine Calls.mono (unhide HC) ?_
                rintro e w2 ⟨rfl, hx2⟩
                have HX2 := hide hx2
                clear hx2
                go_wp2
                obtain ⟨E4, ch, so, sr, kp2⟩ := unhide HX2
                obtain ⟨hA, hB, hEl, hpm, hmr', kp, hTB, hAl⟩ := unhide HA
                obtain ⟨hb20, hbl⟩ := unhide HBS
                go_roundw
                case rel =>
                  have hl4 := ch.len.trans hEl
                  refine ⟨TB, rfl, by omega, by omega, E4, hl4, ch.perm.trans hpm, ?_, sr, kp.trans kp2 (fun _ h => Or.inl h)⟩
                  rw [hA] at ch so
                  have := hmr'.step (by omega) (by omega) (by omega) ch so
                  rw [← hl4] at this
                  rw [hTB]
                  exact this.blk
                case measure => simp [intOf]; omega
              · have HA := hide (And.intro hA (And.intro hB (And.intro hEl (And.intro hpm (And.intro hmr' (And.intro kp (And.intro hTB (And.intro hAl (And.intro sr hM)))))))))
                clear hA hAl hEl hpm hmr sr kp hst hsz hTB hb20 hbl hB hM hB2 hmr'
                go_wp2
                obtain ⟨hA, hB, hEl, hpm, hmr', kp, hTB, hAl, sr, hM⟩ := unhide HA
                obtain ⟨hb20, hbl⟩ := unhide HBS
                go_roundw
                case rel =>
                  refine ⟨TB, rfl, by omega, by omega, E3, hEl, hpm, ?_, sr, kp⟩
                  rw [hTB]
                  exact hmr'.rest (by omega) (by omega)
                case measure => simp [intOf]; omega
        · have HA := hide (And.intro hEl (And.intro hpm (And.intro hbk (And.intro sr kp))))
          clear hb20 hbl hEl hpm hbk sr kp hst hsz
          go_wp2
          go_end0
          obtain ⟨hEl, hpm, hbk, sr, kp⟩ := unhide HA
          exact ⟨rfl, E, hpm, hbk.all (by omega), sr, kp⟩

theorem sorts_any (g cap : Nat) (D : List (Opv × Nat)) (w : World) (h : SRow w g cap D) (hD : ∀ (i : Nat) (x : Opv × Nat), D[i]? = some x → x.2 = i) (hsz : D.length ≤ 140737488355328) :
    Calls Try.prog 58 #[.slice (some ⟨g, 0, none⟩) D.length cap, byV] w fun e w' => e = .returned (.tuple #[]) ∧ ∃ E, E.Perm D ∧ So klt E 0 E.length ∧ SRow w' g cap E ∧ Keep (fun k => k = g) w w' := by
  have HC := hide (stable_any g cap D w h hD hsz)
  clear h hD hsz
  go_enter Try.func58, Try.ntmps58
  go_wp2_with (go_at_call 70; refine Calls.mono (unhide HC) ?_; rintro e w2 ⟨rfl, hx2⟩; have HX2 := hide hx2; clear hx2)
  go_end0
  exact ⟨rfl, unhide HX2⟩
end Go.Proofs.Ytehafkbndjifaaa
