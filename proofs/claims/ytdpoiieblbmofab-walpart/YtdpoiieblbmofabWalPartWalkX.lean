/- The walk of the law WalPart. -/
import Derived.Test.YtdpoiieblbmofabG30
import Derived.Test.YtdpoiieblbmofabG33
import Derived.BigQuiet
namespace Go.Proofs.Ytdpoiieblbmofab
open Go.RowKit

theorem cnt_small {age first : Nat} {x : List UInt8} {n : Nat} (h : x.length ≤ n * 440) (h0 : 1 ≤ n) : (Id.mk age first x).cnt ≤ n := by
  have h1 : ((Id.mk age first x).cnt : Int) = countN x.length := Id.cnt_of _
  have h2 : countN (x.length : Int) ≤ n := by
    unfold countN
    repeat' split
    all_goals omega
  omega
/-- The sector numbers 0 to q - 1 are all kept. -/
def keptB (ks : List Bool) (q : Nat) : Bool := (List.range q).all (fun i => ks.getD i false)
theorem kept_succ (ks : List Bool) (q : Nat) : keptB ks (q + 1) = (keptB ks q && ks.getD q false) := by
  unfold keptB
  rw [List.range_succ, List.all_append]
  simp
theorem kept_iff (ks : List Bool) (q : Nat) : keptB ks q = true ↔ ∀ i, i < q → ks.getD i false = true := by
  unfold keptB
  rw [List.all_eq_true]
  constructor
  · intro h i hi; exact h i (List.mem_range.2 hi)
  · intro h i hi; exact h i (List.mem_range.1 hi)

set_option maxRecDepth 20000 in
set_option maxHeartbeats 8000000 in
theorem wpart_any (va vb vc kv : Value) (ab bb cb : List UInt8) (ks : List Bool) (w : World) (h0 : Row w va ab) (h1 : Row w vb bb) (h2 : Row w vc cb) (h3 : BRow w kv ks) :
    Calls Try.prog 3 #[va, vb, vc, kv] w fun e w' => e = .returned (.bool true) ∧ Below w.heap.size w w' := by
  obtain ⟨ap, ac, al, rfl, hal⟩ := h0.shape
  obtain ⟨bp, bc, bl, rfl, hbl⟩ := h1.shape
  obtain ⟨cp, cc, cl, rfl, hcl⟩ := h2.shape
  obtain ⟨kp, kc, rfl, hks1, hks2⟩ := h3.shape
  have HBG := hide (begin_any w)
  have HAW := hide (fun w' => wawake_any w')
  have H0 := hide h0
  have H1 := hide h1
  have H2 := hide h2
  have H3 := hide h3
  have HAL := hide hal
  have HBL := hide hbl
  have HCL := hide hcl
  clear h0 h1 h2 h3 hal hbl hcl hks1 hks2
  go_enter Try.func3, Try.ntmps3
  go_wp2_with fail
  refine Calls.mono (unhide HBG) ?_
  rintro e w1 ⟨g, rfl, lp, dp, F, G, K, hBk, hnew, b1⟩
  have HBK := hide hBk
  have HN := hide hnew
  have HB1 := hide b1
  clear hBk hnew b1 HBG
  go_wp2_with fail
  refine Calls.mono (unhide HAW _) ?_
  rintro e w2 ⟨rfl, b2⟩
  have HB2 := hide ((unhide HB1).trans (b2.mono (unhide HB1).size))
  have HR2 : Hid (Run F G K w2 g lp dp (DK.new 256) (lg0 0 1) bk0 (.slice none 0 0) (.slice none 0 0) (.slice none 0 0) (fun _ => False) [] 0) := ⟨(unhide HBK).below b2, calm_new, rfl, rfl, ⟨rfl, rfl, rfl⟩, inv_new 1, (fun y hy => by cases hy), Nat.le_refl _, Nat.le_refl _, Nat.le_refl _, Nat.le_refl _, Nat.zero_le _⟩
  clear b2 HBK HB1
  by_cases ha : (2000 : Int) < (al : Int)
  · go_wp2_with fail
    refine Calls.mono (unhide HAW _) ?_
    rintro e w3 ⟨rfl, b3⟩
    have HB3 := hide ((unhide HB2).trans (b3.mono (unhide HB2).size))
    clear b3
    go_wp2_with fail
    go_ret
    exact ⟨rfl, unhide HB3⟩
  · by_cases hb : (4000 : Int) < (bl : Int)
    · go_wp2_with fail
      refine Calls.mono (unhide HAW _) ?_
      rintro e w3 ⟨rfl, b3⟩
      have HB3 := hide ((unhide HB2).trans (b3.mono (unhide HB2).size))
      clear b3
      go_wp2_with fail
      go_ret
      exact ⟨rfl, unhide HB3⟩
    · by_cases hc : (4000 : Int) < (cl : Int)
      · go_wp2_with fail
        refine Calls.mono (unhide HAW _) ?_
        rintro e w3 ⟨rfl, b3⟩
        have HB3 := hide ((unhide HB2).trans (b3.mono (unhide HB2).size))
        clear b3
        go_wp2_with fail
        go_ret
        exact ⟨rfl, unhide HB3⟩
      · -- what is handed in lies below
        have HARG : Hid (∀ {bs : List UInt8} {v : Value}, Row w v bs → ∀ k off n c, v = .slice (some ⟨k, off, none⟩) n c → bs ≠ [] → k < w.heap.size) := fun hr k off n c e hne => row_block_lt hr e hne
        have hal2 : ab.length ≤ 2000 := by have := unhide HAL; omega
        have hbl2 : bb.length ≤ 4000 := by have := unhide HBL; omega
        have hcl2 : cb.length ≤ 4000 := by have := unhide HCL; omega
        have hca : (Id.mk 1 0 ab).cnt ≤ 5 := cnt_small (n := 5) (by omega) (by omega)
        have HAP := hide (run_append_fit (unhide HR2) (by omega) ((unhide H0).below (unhide HB2)) (by omega) (fun k off n c e hne => by
          have h4 := unhide HARG (unhide H0) k off n c e hne
          exact ⟨fun h => by have := unhide HN k (Or.inl h); omega, fun h => by have := unhide HN k (Or.inr (Or.inl h)); omega, fun h => by have := unhide HN k (Or.inr (Or.inr h)); omega⟩) ⟨by omega, by show 0 + (Id.mk 1 0 ab).cnt ≤ 0 + 30; omega⟩)
        have HLA := hide hal2
        have HLB := hide hbl2
        have HLC := hide hcl2
        have HCA := hide hca
        clear hal2 hbl2 hcl2 hca
        go_wp2_with fail
        refine Calls.mono (unhide HAP) ?_
        rintro e w3 ⟨rfl, F3, G3, K3, L3, rv3, tv3, av3, S3, hR3, hM3⟩
        obtain ⟨lg, hlg⟩ := hR3.book.both.log.ptr
        subst hlg
        have c10 := (nineteen_cells hR3.book.at_.blk).1.2.2.1
        have HSY := hide (run_sync hR3 (by omega))
        have HB3 := hide ((unhide HB2).trans (hM3.keep.below (unhide HB2).size (unhide HN)))
        have HN3 : Hid (∀ k, all3 F3 G3 K3 k → w.heap.size ≤ k) := fun k hk => by
          rcases hM3.sub k hk with h | h
          · exact unhide HN k h
          · exact Nat.le_trans (unhide HB2).size h
        clear hR3 hM3 HAP HN HR2 ha hb hc
        go_wp2_with fail
        refine Calls.mono (unhide HSY) ?_
        rintro e w4 ⟨rfl, F4, s4, hR4, hw4, hM4⟩
        have f17 := (nineteen_cells hR4.book.at_.blk).2.2.2 17
        have c17 := (nineteen_cells hR4.book.at_.blk).2.2.1.2.2.1
        obtain ⟨hR5, hK5⟩ := hR4.allSafe hw4 1 (by simp)
        rw [show ((1 : Nat) : Int) = 1 from rfl] at hR5 hK5
        obtain ⟨W5, hW5⟩ : ∃ W5, W5 = w4.setCell ⟨g, 17, none⟩ (.int .i64 1) := ⟨_, rfl⟩
        rw [← hW5] at hR5 hK5
        have HN4 : Hid (∀ k, all3 F4 G3 K3 k → w.heap.size ≤ k) := fun k hk => by
          rcases hM4.sub k hk with h | h
          · exact unhide HN3 k h
          · exact Nat.le_trans (unhide HB3).size h
        have hB4 := (unhide HB3).trans (hM4.keep.below (unhide HB3).size (unhide HN3))
        have HB5 := hide (hB4.trans (hK5.below hB4.size (unhide HN4)))
        have HR5 := hide hR5
        have HW5 := hide hW5
        have HWT := hide hw4
        obtain ⟨b5, hR5b, e51, e52, e53, e54⟩ : ∃ b5, Run F4 G3 K3 W5 g (.pointer (some lg)) dp s4 L3 b5 rv3 tv3 av3 S3 [⟨1, 0, ab⟩] 2 ∧ b5.first = 0 ∧ b5.age = 1 ∧ b5.next = (Id.mk 1 0 ab).cnt ∧ b5.safe = 1 := ⟨_, hR5, rfl, rfl, Nat.zero_add (Id.mk 1 0 ab).cnt, rfl⟩
        have hcb : (Id.mk b5.age b5.next bb).cnt ≤ 10 := cnt_small (n := 10) (by have := unhide HLB; omega) (by omega)
        have hca := unhide HCA
        have HAPB := hide (run_append_fit hR5b (by omega) ((unhide H1).below (unhide HB5)) (by have := unhide HLB; omega) (fun k off n c e hne => by
          have h4 := unhide HARG (unhide H1) k off n c e hne
          exact ⟨fun h => by have := unhide HN4 k (Or.inl h); omega, fun h => by have := unhide HN4 k (Or.inr (Or.inl h)); omega, fun h => by have := unhide HN4 k (Or.inr (Or.inr h)); omega⟩) ⟨by have := unhide HLB; omega, by rw [e53, e51]; rw [e53] at hcb; omega⟩)
        have HR5 := hide hR5b
        have HE5 : Hid (b5.first = 0 ∧ b5.age = 1 ∧ b5.next ≤ 5 ∧ b5.safe = 1) := ⟨e51, e52, by rw [e53]; exact hca, e54⟩
        have HCB := hide hcb
        clear hR4 hM4 hK5 hB4 hR5 hR5b hW5 hw4 HSY HN3 HB3 c10 e51 e52 e53 e54 hcb hca
        go_wp2_with fail
        rw [← unhide HW5]
        refine Calls.mono (unhide HAPB) ?_
        rintro e w6 ⟨rfl, F6, G6, K6, L6, rv6, tv6, av6, S6, hR6, hM6⟩
        obtain ⟨s6, hs6⟩ : ∃ s6, s6 = (layW 256 s4 b5.next (cutL b5.age b5.next bb)).1 := ⟨_, rfl⟩
        rw [← hs6] at hR6
        obtain ⟨b6, hR6b, e61, e62, e63, e64⟩ : ∃ b6, Run F6 G6 K6 w6 g (.pointer (some lg)) dp s6 L6 b6 rv6 tv6 av6 S6 ([⟨1, 0, ab⟩] ++ [⟨b5.age, b5.next, bb⟩]) 3 ∧ b6.first = 0 ∧ b6.age = 1 ∧ b6.next ≤ 15 ∧ b6.safe = 1 := ⟨{ b5 with recs := b5.recs ++ [bb], turns := b5.turns ++ [b5.next], ages := b5.ages ++ [b5.age], next := b5.next + (Id.mk b5.age b5.next bb).cnt }, hR6, (unhide HE5).1, (unhide HE5).2.1, by show b5.next + _ ≤ _; have := unhide HE5; have := unhide HCB; omega, (unhide HE5).2.2.2⟩
        have HB6 := hide ((unhide HB5).trans (hM6.keep.below (unhide HB5).size (unhide HN4)))
        have HN6 : Hid (∀ k, all3 F6 G6 K6 k → w.heap.size ≤ k) := fun k hk => by
          rcases hM6.sub k hk with h | h
          · exact unhide HN4 k h
          · exact Nat.le_trans (unhide HB5).size h
        have HR6 := hide hR6b
        have HE6 : Hid (b6.first = 0 ∧ b6.age = 1 ∧ b6.next ≤ 15 ∧ b6.safe = 1) := ⟨e61, e62, e63, e64⟩
        have HS6 := hide hs6
        obtain ⟨N, hN⟩ : ∃ N : Nat, (N : Int) = countN (bl : Int) := ⟨(countN (bl : Int)).toNat, by have := count_pos (n := (bl : Int)) (by omega); omega⟩
        have HCT : Hid (∀ w', Calls Try.prog 8 #[.int .i64 (bl : Int)] w' fun e w'' => e = .returned (.int .i64 (N : Int)) ∧ w'' = w') := by
          intro w'
          rw [hN]
          exact rcount_any (bl : Int) w' (by omega) (by have := unhide HBL; have := unhide HLB; omega)
        have HNC : Hid (N = (Id.mk b5.age b5.next bb).cnt) := by
          have h1 : ((Id.mk b5.age b5.next bb).cnt : Int) = countN bb.length := Id.cnt_of _
          rw [unhide HBL] at h1
          unfold Hid
          omega
        clear hR6 hM6 hR6b hs6 e61 e62 e63 e64 hN HAPB HN4 HB5 c17 f17
        go_wp2_with fail
        go_loopw [10, 11] (fun a i wq => ∃ q : Nat, q ≤ N ∧ a = .bool (keptB ks q) ∧ i = .int .i64 q ∧ Hid (Below w6.heap.size w6 wq)) (fun _ i _ => N - (intOf i).toNat)
        case atStart => exact ⟨0, Nat.zero_le _, rfl, rfl, Below.refl _ _⟩
        case round =>
          obtain ⟨q, hq, rfl, rfl, hbq⟩ := hrel
          by_cases hqN : q < N
          · have hqI : (q : Int) < (N : Int) := by omega
            have hq0 : (0 : Int) ≤ (q : Int) := by omega
            have hnext := kept_succ ks q
            have hN10 : (N : Int) ≤ 10 := by have := unhide HNC; have := unhide HCB; omega
            go_wp2_with fail
            refine Calls.mono (unhide HCT wr) ?_
            rintro e w7 ⟨rfl, rfl⟩
            cases hkq : keptB ks q with
            | false =>
              rw [hkq, Bool.false_and] at hnext
              go_wp2_with fail
              exact ⟨⟨q + 1, by omega, by rw [hnext], by go_num, hbq⟩, by simp [intOf]; omega⟩
            | true =>
              rw [hkq, Bool.true_and] at hnext
              by_cases hkl : q < ks.length
              · obtain ⟨b7, o7, cap7, e7, _, hc7⟩ := (unhide H3).at q hkl
                simp only [Value.slice.injEq] at e7
                obtain ⟨rfl, _, rfl⟩ := e7
                have hcell := ((unhide hbq).cell (Nat.lt_of_lt_of_le (World.block_lt_of_cell? w _ hc7) (unhide HB6).size)).trans (((unhide HB6).cell (World.block_lt_of_cell? w _ hc7)).trans hc7)
                have hgd : ks.getD q false = ks[q] := by rw [List.getD_eq_getElem?_getD, List.getElem?_eq_getElem hkl]; rfl
                rw [hgd] at hnext
                have hklI : (q : Int) < (ks.length : Int) := by omega
                clear hgd hc7
                generalize ks[q] = kq at *
                go_wp2_with fail
                exact ⟨⟨q + 1, by omega, by rw [hnext], by go_num, hbq⟩, by simp [intOf]; omega⟩
              · have hgd : ks.getD q false = false := by rw [List.getD_eq_getElem?_getD, List.getElem?_eq_none (by omega)]; rfl
                rw [hgd] at hnext
                have hklI : ¬ (q : Int) < (ks.length : Int) := by omega
                clear hgd
                go_wp2_with fail
                exact ⟨⟨q + 1, by omega, by rw [hnext], by go_num, hbq⟩, by simp [intOf]; omega⟩
          · have hqe : q = N := by omega
            subst hqe
            have hqI : ¬ (q : Int) < (q : Int) := by omega
            have hRw := (unhide HR6).below (unhide hbq)
            obtain ⟨dg, hdg⟩ := hRw.book.both.dev.ptr
            subst hdg
            have c0 := (nineteen_cells hRw.book.at_.blk).1.1
            have hBw := (unhide HB6).trans ((unhide hbq).mono (unhide HB6).size)
            have HCR := hide (held_crash hRw.book.held ((unhide H3).below hBw) (fun b' off n' c' e hn0 h => by
              have hkl : 0 < ks.length := by simp only [Value.slice.injEq] at e; omega
              obtain ⟨b7, o7, cap7, e7, _, hc7⟩ := (unhide H3).at 0 hkl
              rw [e] at e7
              simp only [Value.slice.injEq, Option.some.injEq, Addr.mk.injEq, and_true] at e7
              have h1 := World.block_lt_of_cell? w _ hc7
              have h2 := unhide HN6 b' (Or.inl h)
              rw [e7.1.1] at h2
              exact Nat.lt_irrefl _ (Nat.lt_of_lt_of_le h1 h2)) (by have := hRw.waits; omega))
            have HBW := hide hBw
            clear hRw hBw
            go_wp2_with fail
            refine Calls.mono (unhide HCT wr) ?_
            rintro e w7 ⟨rfl, rfl⟩
            go_wp2_with fail
            refine Calls.mono (unhide HCR) ?_
            rintro e w8 ⟨rfl, F8, hH8, hM8⟩
            have c0b := (nineteen_cells hH8.at_.blk).1.1
            have HST := hide (held_start hH8)
            have HB8 := hide ((unhide HBW).trans (hM8.keep.below (unhide HBW).size (fun k hk => unhide HN6 k (Or.inl hk))))
            have HN8 : Hid (∀ k, F8 k → w.heap.size ≤ k) := fun k hk => by
              rcases hM8.sub k hk with h | h
              · exact unhide HN6 k (Or.inl h)
              · exact Nat.le_trans (unhide HBW).size h
            clear hH8 hM8 c0 HCR
            go_wp2_with fail
            refine Calls.mono (unhide HST) ?_
            rintro e w9 ⟨rfl, F9, hH9, hM9⟩
            have HB9 := hide ((unhide HB8).trans (hM9.keep.below (unhide HB8).size (unhide HN8)))
            have HN9 : Hid (∀ k, F9 k → w.heap.size ≤ k) := fun k hk => by
              rcases hM9.sub k hk with h | h
              · exact unhide HN8 k h
              · exact Nat.le_trans (unhide HB8).size h
            have hmay : ∀ j c, May ((s6.crash ks).start) j c → May s6 j c := fun j c h => may_crash (start_may h)
            have hza : Right ((s6.crash ks).start) ⟨1, 0, ab⟩ := fun j hj => (unhide HR6).inv.sure _ (by rw [(unhide HE6).2.2.2]; simp) j hj _ (hmay _ _ (may_shown _ _))
            have hzb := right_iff_kept (unhide HR5).inv (unhide HR5).calm (unhide HR5).sn (unhide HWT) (x := bb) (by have := unhide HLB; omega) (by have := unhide HE5; have := unhide HCB; omega) (by have := unhide HE5; omega) (by have := unhide HE5; omega) ks
            rw [← unhide HS6, ← unhide HNC, ← kept_iff] at hzb
            have hinv := (unhide HR6).inv.less hmay
            have HH9 := hide hH9
            have HINV := hide hinv
            have HZA := hide hza
            have HZB := hide hzb
            clear hH9 hM9 hmay hza hzb hinv c0b HST
            cases hall : keptB ks q with
            | true =>
              have HOPN := hide (run_open (l1 := [Id.mk 1 0 ab, Id.mk b5.age b5.next bb]) (l2 := []) (m := 3) (unhide HH9) (unhide HR6).dead (unhide HR6).lst (unhide HINV) ⟨rfl, rfl⟩ (fun y hy => by rcases List.mem_cons.1 hy with rfl | hy; exact unhide HZA; have hy2 : y = ⟨b5.age, b5.next, bb⟩ := (by simpa using hy); rw [hy2]; exact (unhide HZB).2 hall) (fun z l3 h => by cases h) (Or.inr rfl) true (fun _ => rfl) (by show 0 ≤ _; omega) (by show 0 ≤ _; omega) (unhide HR6).next (unhide HR6).age (by omega))
              go_wp2_with fail
              refine Calls.mono (unhide HOPN) ?_
              rintro e wa ⟨rfl, Ga, lpa, La, ea, rva, tva, ava, hRa, hGa, hKa, hnx⟩
              obtain ⟨vs, hvl, hvr⟩ := hRa.book.at_.recs.row
              obtain ⟨rq, rc, hrv, _⟩ := hvr.shape
              subst hrv
              have hvi : vs.length = 2 := by rw [hvl, hRa.len]; rfl
              have c12 := (nineteen_cells hRa.book.at_.blk).2.1.1
              rw [hvi] at c12
              have HBa := hide ((unhide HB9).trans (hKa.below (unhide HB9).size (fun k hk => unhide HN6 k (Or.inr (Or.inr hk)))))
              have HNa : Hid (∀ k, all3 F9 Ga K6 k → w.heap.size ≤ k) := fun k hk => by
                rcases hk with h | h | h
                · exact unhide HN9 k h
                · exact Nat.le_trans (unhide HB9).size (hGa k h)
                · exact unhide HN6 k (Or.inr (Or.inr h))
              obtain ⟨bA, hRA, f1, f2⟩ : ∃ bA, Run F9 Ga K6 wa g lpa (.pointer (some dg)) ((s6.crash ks).start) La bA (.slice rq vs.length rc) tva ava S6 [Id.mk 1 0 ab, Id.mk b5.age b5.next bb] 4 ∧ bA.first = 0 ∧ bA.next ≤ 15 := ⟨_, hRa, (unhide HE6).1, by show ea ≤ 15; rw [hnx rfl]; exact (unhide HE6).2.2.1⟩
              have hcc : (Id.mk bA.age bA.next cb).cnt ≤ 10 := cnt_small (n := 10) (by have := unhide HLC; omega) (by omega)
              have HAPC := hide (run_append_fit hRA (by omega) ((unhide H2).below (unhide HBa)) (by have := unhide HLC; omega) (fun k off n c e hne => by
                have h4 := unhide HARG (unhide H2) k off n c e hne
                exact ⟨fun h => by have := unhide HNa k (Or.inl h); omega, fun h => by have := unhide HNa k (Or.inr (Or.inl h)); omega, fun h => by have := unhide HNa k (Or.inr (Or.inr h)); omega⟩) ⟨by have := unhide HLC; omega, by rw [f1]; omega⟩)
              clear hRa hGa hKa hnx hvl hvr hvi hRA f1 f2 hcc HOPN
              go_wp2_with fail
              refine Calls.mono (unhide HAPC) ?_
              rintro e wb ⟨rfl, Fb, Gb, Kb, Lb, rvb, tvb, avb, Sb, hRb, hMb⟩
              obtain ⟨lgb, hlgb⟩ := hRb.book.both.log.ptr
              subst hlgb
              have c10 := (nineteen_cells hRb.book.at_.blk).1.2.2.1
              have HSY := hide (run_sync hRb (by omega))
              have HBb := hide ((unhide HBa).trans (hMb.keep.below (unhide HBa).size (unhide HNa)))
              have HNb : Hid (∀ k, all3 Fb Gb Kb k → w.heap.size ≤ k) := fun k hk => by
                rcases hMb.sub k hk with h | h
                · exact unhide HNa k h
                · exact Nat.le_trans (unhide HBa).size h
              clear hRb hMb HAPC c12 HNa HBa
              go_wp2_with fail
              refine Calls.mono (unhide HSY) ?_
              rintro e wc ⟨rfl, Fc, sc, hRc, hwc, hMc⟩
              obtain ⟨us, hul, hur⟩ := hRc.book.at_.recs.row
              obtain ⟨uq, uc, huv, _⟩ := hur.shape
              subst huv
              obtain ⟨⟨d0, _⟩, ⟨d12, _⟩, ⟨_, _, d17, _⟩, fz⟩ := nineteen_cells hRc.book.at_.blk
              have f17 := fz 17
              have hui : us.length = ([Id.mk 1 0 ab, Id.mk b5.age b5.next bb] ++ [Id.mk bA.age bA.next cb]).length := by rw [hul, hRc.len]
              obtain ⟨hRd, hKd⟩ := hRc.allSafe hwc us.length (by rw [hui]; exact Nat.le_refl _)
              obtain ⟨Wd, hWd⟩ : ∃ Wd, Wd = wc.setCell ⟨g, 17, none⟩ (.int .i64 (us.length : Int)) := ⟨_, rfl⟩
              rw [← hWd] at hRd hKd
              have HNc : Hid (∀ k, all3 Fc Gb Kb k → w.heap.size ≤ k) := fun k hk => by
                rcases hMc.sub k hk with h | h
                · exact unhide HNb k h
                · exact Nat.le_trans (unhide HBb).size h
              have hBc := (unhide HBb).trans (hMc.keep.below (unhide HBb).size (unhide HNb))
              have HBd := hide (hBc.trans (hKd.below hBc.size (unhide HNc)))
              have dd0 := (nineteen_cells hRd.book.at_.blk).1.1
              have HCR2 := hide (held_crash hRd.book.held (kv := .slice none 0 0) (ks := []) ⟨none, 0, rfl, by simp, by unfold maxLen; omega, fun _ => rfl, Or.inl rfl⟩ (fun b off n c e => by cases e) (by rw [hwc]; show 0 ≤ _; omega))
              have HRD := hide hRd
              have HWD := hide hWd
              have HUI := hide hui
              clear hRc hMc hwc hul hur fz hui hRd hKd hBc hWd HSY HNb HBb c10
              go_wp2_with fail
              rw [← unhide HWD]
              refine Calls.mono (unhide HCR2) ?_
              rintro e we ⟨rfl, Fe, hHe, hMe⟩
              have ee0 := (nineteen_cells hHe.at_.blk).1.1
              have HST2 := hide (held_start hHe)
              have HBe := hide ((unhide HBd).trans (hMe.keep.below (unhide HBd).size (fun k hk => unhide HNc k (Or.inl hk))))
              have HNe : Hid (∀ k, Fe k → w.heap.size ≤ k) := fun k hk => by
                rcases hMe.sub k hk with h | h
                · exact unhide HNc k (Or.inl h)
                · exact Nat.le_trans (unhide HBd).size h
              clear hHe hMe dd0 d0 d12 d17 f17 HCR2
              go_wp2_with fail
              refine Calls.mono (unhide HST2) ?_
              rintro e wf ⟨rfl, Ff, hHf, hMf⟩
              have hRD := unhide HRD
              have hmay2 : ∀ j c, May ((sc.crash []).start) j c → May sc j c := fun j c h => may_crash (start_may h)
              have hright2 : ∀ y ∈ ([Id.mk 1 0 ab, Id.mk b5.age b5.next bb] ++ [Id.mk bA.age bA.next cb]), Right ((sc.crash []).start) y := fun y hy j hj => hRD.inv.sure y (by show y ∈ List.take us.length _; rw [unhide HUI, List.take_of_length_le (Nat.le_refl _)]; exact hy) j hj _ (hmay2 _ _ (may_shown _ _))
              have hdw : Below wf.heap.size wf wf.drew := (Below.refl _ _).drew
              have hHd : Held Ff Gb Kb wf.drew g (.pointer (some lgb)) (.pointer (some dg)) ((sc.crash []).start) Lb _ _ tvb avb := ⟨hHf.both.below hdw, hHf.at_.below hdw, hHf.apF, hHf.apG⟩
              have HOPN2 := hide (run_open (l1 := [Id.mk 1 0 ab, Id.mk b5.age b5.next bb] ++ [Id.mk bA.age bA.next cb]) (l2 := []) (m := 6) hHd hRD.dead (by rw [List.append_nil]; exact ⟨hRD.lst.recs, hRD.lst.turns, hRD.lst.ages⟩) (by rw [List.append_nil]; exact hRD.inv.less hmay2) ⟨rfl, rfl⟩ hright2 (fun z l3 h => by cases h) (Or.inr rfl) true (fun _ => rfl) (by show 0 ≤ _; omega) (by show 0 ≤ _; omega) hRD.next hRD.age (by omega))
              have hBf := (unhide HBe).trans (hMf.keep.below (unhide HBe).size (unhide HNe))
              have HBf := hide (hBf.trans (hdw.mono hBf.size))
              have HNK : Hid (∀ k, Kb k → w.heap.size ≤ k) := fun k hk => unhide HNc k (Or.inr (Or.inr hk))
              clear hHf hMf hmay2 hright2 hRD ee0 HST2 HRD hHd hdw hBf
              go_wp2_with fail
              refine wp_region_any (by kernel_rfl) ?_
              refine wpAny_ready (rs := [0]) (by kernel_rfl) (by simp) ?_
              refine AllReady.cons (o := { dst := some 141, op := Op.move (Operand.tmp 9), type := 24, pos := "more.go:68", after := #[], guard := none }) rfl (fun K hK => ?_) AllReady.nil
              go_simp
              refine hK _ _ ?_
              clear hK K
              try simp only [Act.put, List.setIfInBounds_toArray, List.set_cons_zero, List.set_cons_succ]
              refine wpAny_ready (rs := [1]) (by kernel_rfl) (by simp) ?_
              refine AllReady.cons (o := { dst := some 142, op := Op.call { callee := Callee.value (Operand.func 11), args := #[Operand.tmp 141, Operand.const (Value.bool true)], argTypes := #[24, 4] }, type := 4, pos := "more.go:68", after := #[{ on := 0, ground := Ground.data }], guard := none }) rfl (fun K hK => ?_) AllReady.nil
              go_simp
              refine Calls.mono (unhide HOPN2) ?_
              rintro e wg ⟨rfl, Gg, lpg, Lg, eg, rvg, tvg, avg, hRg, hGg, hKg, _⟩
              have HBg := hide ((unhide HBf).trans (hKg.below (unhide HBf).size (unhide HNK)))
              obtain ⟨xs, x1, x2, x3⟩ := hRg.book.at_.recs
              have hrecs := hRg.lst.recs
              have hxr : xs.length = 2 + 1 := by rw [x1, hrecs]; rfl
              have g12 := (nineteen_cells hRg.book.at_.blk).2.1.1
              obtain ⟨kx, ox, cx, ev, hcx⟩ := x2.cell 2 (by omega)
              subst ev
              rw [hxr] at g12
              obtain ⟨tt, y1, y2, y3⟩ := x3 2 (by rw [hrecs]; show 2 < 2 + 1; omega)
              have hy : xs[2]'(by omega) = tt := by rw [List.getElem?_eq_getElem (by omega)] at y1; exact Option.some.inj y1
              rw [hy] at hcx
              have hyr : Row wg tt cb := by
                have h8 : ∀ (l : List (List UInt8)) (hl : 2 < l.length), l = List.map Id.r ([Id.mk 1 0 ab, Id.mk b5.age b5.next bb] ++ [Id.mk bA.age bA.next cb]) → l[2] = cb := by
                  intro l hl e8
                  subst e8
                  rfl
                rw [h8 _ _ hrecs] at y2
                exact y2
              obtain ⟨tp, tc, tn, rfl, htl⟩ := hyr.shape
              have HBY := hide (bytes_any _ _ cb cb wg hyr ((unhide H2).below (unhide HBg)))
              rw [show (cb == cb) = true from beq_self_eq_true cb] at HBY
              have hwrN : IntKind.i64.wrap 2 = 2 := by rw [IntKind.wrap_i64]; omega
              clear hRg hGg hKg x1 x2 x3 y1 y2 y3 hy hyr hrecs hxr htl HOPN2
              go_wp2_with fail
              refine wpAny_ready (rs := [2]) (by kernel_rfl) (by simp) ?_
              refine AllReady.cons (o := { dst := some 143, op := Op.move (Operand.tmp 142), type := 4, pos := "more.go:68", after := #[{ on := 1, ground := Ground.data }, { on := 1, ground := Ground.chain }], guard := none }) rfl (fun K hK => ?_) AllReady.nil
              go_simp
              refine hK _ _ ?_
              clear hK K
              try simp only [Act.put, List.setIfInBounds_toArray, List.set_cons_zero, List.set_cons_succ]
              have hHeld : wg.cell? ⟨g, 12, none⟩ = some (.slice (some ⟨kx, ox, none⟩) (2 + 1) cx) ∧ wg.cell? ⟨kx, ox + 2, none⟩ = some (.slice tp tn tc) := ⟨g12, hcx⟩
              refine wpAny_of_held (S := fun w' => w'.cell? ⟨g, 12, none⟩ = some (.slice (some ⟨kx, ox, none⟩) (2 + 1) cx) ∧ w'.cell? ⟨kx, ox + 2, none⟩ = some (.slice tp tn tc)) _ _ _ _ ?_
              refine wpAnyH_take (i := 3) (oi := { dst := some 144, op := Op.move (Operand.tmp 9), type := 24, pos := "more.go:68", after := #[{ on := 2, ground := Ground.guard }], guard := some (2, true) }) (v := ?_) rfl (by kernel_rfl) (by kernel_rfl) (by kernel_rfl) (fun _ _ _ h => h) (Or.inl ⟨by rfl, ?_⟩) (by assumption) ?_
              rotate_left
              · intro w' hSw
                obtain ⟨hS1, hS2⟩ := hSw
                first | (go_simp; done) | (go_simp; with_reducible rfl)
              simp only [Act.put, List.setIfInBounds_toArray, List.set_cons_zero, List.set_cons_succ]
              refine wpAnyH_take (i := 4) (oi := { dst := some 145, op := Op.nilCheck (Operand.tmp 144), type := 0, pos := "more.go:68", after := #[{ on := 3, ground := Ground.data }, { on := 2, ground := Ground.guard }], guard := some (2, true) }) (v := ?_) rfl (by kernel_rfl) (by kernel_rfl) (by kernel_rfl) (fun _ _ _ h => h) (Or.inl ⟨by rfl, ?_⟩) (by assumption) ?_
              rotate_left
              · intro w' hSw
                obtain ⟨hS1, hS2⟩ := hSw
                first | (go_simp; done) | (go_simp; with_reducible rfl)
              simp only [Act.put, List.setIfInBounds_toArray, List.set_cons_zero, List.set_cons_succ]
              refine wpAnyH_take (i := 5) (oi := { dst := some 146, op := Op.fieldAddr 38 (Operand.tmp 145) 4, type := 0, pos := "more.go:68", after := #[{ on := 4, ground := Ground.data }, { on := 2, ground := Ground.guard }], guard := some (2, true) }) (v := ?_) rfl (by kernel_rfl) (by kernel_rfl) (by kernel_rfl) (fun _ _ _ h => h) (Or.inl ⟨by rfl, ?_⟩) (by assumption) ?_
              rotate_left
              · intro w' hSw
                obtain ⟨hS1, hS2⟩ := hSw
                first | (go_simp; done) | (go_simp; with_reducible rfl)
              simp only [Act.put, List.setIfInBounds_toArray, List.set_cons_zero, List.set_cons_succ]
              refine wpAnyH_take (i := 6) (oi := { dst := some 147, op := Op.load 35 (Operand.tmp 146), type := 35, pos := "more.go:68", after := #[{ on := 5, ground := Ground.data }, { on := 2, ground := Ground.guard }], guard := some (2, true) }) (v := ?_) rfl (by kernel_rfl) (by kernel_rfl) (by kernel_rfl) (fun _ _ _ h => h) (Or.inl ⟨by rfl, ?_⟩) (by assumption) ?_
              rotate_left
              · intro w' hSw
                obtain ⟨hS1, hS2⟩ := hSw
                first | (go_simp; done) | (go_simp; with_reducible rfl)
              simp only [Act.put, List.setIfInBounds_toArray, List.set_cons_zero, List.set_cons_succ]
              refine wpAnyH_take (i := 7) (oi := { dst := some 148, op := Op.move (Operand.tmp 9), type := 24, pos := "more.go:68", after := #[{ on := 2, ground := Ground.guard }], guard := some (2, true) }) (v := ?_) rfl (by kernel_rfl) (by kernel_rfl) (by kernel_rfl) (fun _ _ _ h => h) (Or.inl ⟨by rfl, ?_⟩) (by assumption) ?_
              rotate_left
              · intro w' hSw
                obtain ⟨hS1, hS2⟩ := hSw
                first | (go_simp; done) | (go_simp; with_reducible rfl)
              simp only [Act.put, List.setIfInBounds_toArray, List.set_cons_zero, List.set_cons_succ]
              refine wpAnyH_take (i := 8) (oi := { dst := some 149, op := Op.nilCheck (Operand.tmp 148), type := 0, pos := "more.go:68", after := #[{ on := 7, ground := Ground.data }, { on := 2, ground := Ground.guard }], guard := some (2, true) }) (v := ?_) rfl (by kernel_rfl) (by kernel_rfl) (by kernel_rfl) (fun _ _ _ h => h) (Or.inl ⟨by rfl, ?_⟩) (by assumption) ?_
              rotate_left
              · intro w' hSw
                obtain ⟨hS1, hS2⟩ := hSw
                first | (go_simp; done) | (go_simp; with_reducible rfl)
              simp only [Act.put, List.setIfInBounds_toArray, List.set_cons_zero, List.set_cons_succ]
              refine wpAnyH_take (i := 9) (oi := { dst := some 150, op := Op.fieldAddr 38 (Operand.tmp 149) 4, type := 0, pos := "more.go:68", after := #[{ on := 8, ground := Ground.data }, { on := 2, ground := Ground.guard }], guard := some (2, true) }) (v := ?_) rfl (by kernel_rfl) (by kernel_rfl) (by kernel_rfl) (fun _ _ _ h => h) (Or.inl ⟨by rfl, ?_⟩) (by assumption) ?_
              rotate_left
              · intro w' hSw
                obtain ⟨hS1, hS2⟩ := hSw
                first | (go_simp; done) | (go_simp; with_reducible rfl)
              simp only [Act.put, List.setIfInBounds_toArray, List.set_cons_zero, List.set_cons_succ]
              refine wpAnyH_take (i := 10) (oi := { dst := some 151, op := Op.load 35 (Operand.tmp 150), type := 35, pos := "more.go:68", after := #[{ on := 9, ground := Ground.data }, { on := 2, ground := Ground.guard }], guard := some (2, true) }) (v := ?_) rfl (by kernel_rfl) (by kernel_rfl) (by kernel_rfl) (fun _ _ _ h => h) (Or.inl ⟨by rfl, ?_⟩) (by assumption) ?_
              rotate_left
              · intro w' hSw
                obtain ⟨hS1, hS2⟩ := hSw
                first | (go_simp; done) | (go_simp; with_reducible rfl)
              simp only [Act.put, List.setIfInBounds_toArray, List.set_cons_zero, List.set_cons_succ]
              refine wpAnyH_take (i := 11) (oi := { dst := some 152, op := Op.call { callee := Callee.builtin Builtin.len, args := #[Operand.tmp 151], argTypes := #[35] }, type := 3, pos := "more.go:68", after := #[{ on := 10, ground := Ground.data }, { on := 2, ground := Ground.guard }], guard := some (2, true) }) (v := ?_) rfl (by kernel_rfl) (by kernel_rfl) (by kernel_rfl) (fun _ _ _ h => h) (Or.inl ⟨by rfl, ?_⟩) (by assumption) ?_
              rotate_left
              · intro w' hSw
                obtain ⟨hS1, hS2⟩ := hSw
                first | (go_simp; done) | (go_simp; with_reducible rfl)
              simp only [Act.put, List.setIfInBounds_toArray, List.set_cons_zero, List.set_cons_succ]
              refine wpAnyH_take (i := 12) (oi := { dst := some 153, op := Op.binOp BinOp.sub 3 (Operand.tmp 152) (Operand.const (Value.int IntKind.i64 1)) 3, type := 3, pos := "more.go:68", after := #[{ on := 11, ground := Ground.data }, { on := 2, ground := Ground.guard }], guard := some (2, true) }) (v := ?_) rfl (by kernel_rfl) (by kernel_rfl) (by kernel_rfl) (fun _ _ _ h => h) (Or.inl ⟨by rfl, ?_⟩) (by assumption) ?_
              rotate_left
              · intro w' hSw
                obtain ⟨hS1, hS2⟩ := hSw
                first | (go_simp; done) | (go_simp; with_reducible rfl)
              simp only [Act.put, List.setIfInBounds_toArray, List.set_cons_zero, List.set_cons_succ]
              refine wpAnyH_take (i := 13) (oi := { dst := some 154, op := Op.indexAddr 35 (Operand.tmp 147) (Operand.tmp 153), type := 0, pos := "more.go:68", after := #[{ on := 6, ground := Ground.data }, { on := 12, ground := Ground.data }, { on := 2, ground := Ground.guard }], guard := some (2, true) }) (v := ?_) rfl (by kernel_rfl) (by kernel_rfl) (by kernel_rfl) (fun _ _ _ h => h) (Or.inl ⟨by rfl, ?_⟩) (by assumption) ?_
              rotate_left
              · intro w' hSw
                obtain ⟨hS1, hS2⟩ := hSw
                first | (go_simp; done) | (go_simp; with_reducible rfl)
              simp only [Act.put, List.setIfInBounds_toArray, List.set_cons_zero, List.set_cons_succ]
              refine wpAnyH_take (i := 14) (oi := { dst := some 155, op := Op.load 22 (Operand.tmp 154), type := 22, pos := "more.go:68", after := #[{ on := 13, ground := Ground.data }, { on := 2, ground := Ground.guard }], guard := some (2, true) }) (v := ?_) rfl (by kernel_rfl) (by kernel_rfl) (by kernel_rfl) (fun _ _ _ h => h) (Or.inl ⟨by rfl, ?_⟩) (by assumption) ?_
              rotate_left
              · intro w' hSw
                obtain ⟨hS1, hS2⟩ := hSw
                first | (go_simp; done) | (go_simp; with_reducible rfl)
              simp only [Act.put, List.setIfInBounds_toArray, List.set_cons_zero, List.set_cons_succ]
              refine wpAnyH_take (i := 15) (oi := { dst := some 156, op := Op.move (Operand.tmp 2), type := 22, pos := "more.go:68", after := #[{ on := 2, ground := Ground.guard }], guard := some (2, true) }) (v := ?_) rfl (by kernel_rfl) (by kernel_rfl) (by kernel_rfl) (fun _ _ _ h => h) (Or.inl ⟨by rfl, ?_⟩) (by assumption) ?_
              rotate_left
              · intro w' hSw
                obtain ⟨hS1, hS2⟩ := hSw
                first | (go_simp; done) | (go_simp; with_reducible rfl)
              simp only [Act.put, List.setIfInBounds_toArray, List.set_cons_zero, List.set_cons_succ]
              refine wpAnyH_ready (rs := [16]) (by kernel_rfl) (by simp) ?_
              refine AllReadyH.cons rfl (fun K hK => ?_) AllReadyH.nil
              go_simp
              refine Calls.mono (unhide HBY) ?_
              rintro e wh ⟨rfl, rfl⟩
              go_wp2_with fail
              refine hK.out _ _ hHeld (fun hHeld => ?_)
              clear hK K
              refine wpAnyH_take (i := 17) (oi := { dst := some 158, op := Op.pick (Operand.tmp 143) (Operand.tmp 157) (Operand.const (Value.bool false)), type := 4, pos := "more.go:68", after := #[{ on := 2, ground := Ground.data }, { on := 16, ground := Ground.data }], guard := none }) (v := ?_) rfl (by kernel_rfl) (by kernel_rfl) (by kernel_rfl) (fun _ _ _ h => h) (Or.inl ⟨by rfl, ?_⟩) (by assumption) ?_
              rotate_left
              · intro w' hSw
                obtain ⟨hS1, hS2⟩ := hSw
                first | (go_simp; done) | (go_simp; with_reducible rfl)
              simp only [Act.put, List.setIfInBounds_toArray, List.set_cons_zero, List.set_cons_succ]
              refine wpAnyH_take (i := 18) (oi := { dst := some 8, op := Op.assign (Operand.tmp 158), type := 4, pos := "more.go:68", after := #[{ on := 17, ground := Ground.data }, { on := 16, ground := Ground.chain }, { on := 0, ground := Ground.phase }, { on := 1, ground := Ground.phase }, { on := 2, ground := Ground.phase }, { on := 3, ground := Ground.phase }, { on := 4, ground := Ground.phase }, { on := 5, ground := Ground.phase }, { on := 6, ground := Ground.phase }, { on := 7, ground := Ground.phase }, { on := 8, ground := Ground.phase }, { on := 9, ground := Ground.phase }, { on := 10, ground := Ground.phase }, { on := 11, ground := Ground.phase }, { on := 12, ground := Ground.phase }, { on := 13, ground := Ground.phase }, { on := 14, ground := Ground.phase }, { on := 15, ground := Ground.phase }, { on := 16, ground := Ground.phase }, { on := 17, ground := Ground.phase }], guard := none }) (v := ?_) rfl (by kernel_rfl) (by kernel_rfl) (by kernel_rfl) (fun _ _ _ h => h) (Or.inl ⟨by rfl, ?_⟩) (by assumption) ?_
              rotate_left
              · intro w' hSw
                obtain ⟨hS1, hS2⟩ := hSw
                first | (go_simp; done) | (go_simp; with_reducible rfl)
              simp only [Act.put, List.setIfInBounds_toArray, List.set_cons_zero, List.set_cons_succ]
              refine wpAnyH_done (by kernel_rfl) ?_ _
              go_wp2_with fail
              go_ret
              exact ⟨rfl, unhide HBg⟩
            | false =>
              have HOPN := hide (run_open (l1 := [Id.mk 1 0 ab]) (l2 := [Id.mk b5.age b5.next bb]) (m := 3) (unhide HH9) (unhide HR6).dead (unhide HR6).lst (unhide HINV) ⟨rfl, rfl⟩ (fun y hy => by have hy2 : y = ⟨1, 0, ab⟩ := (by simpa using hy); rw [hy2]; exact unhide HZA) (fun z l3 h hr => by simp only [List.cons.injEq] at h; rw [← h.1] at hr; have := (unhide HZB).1 hr; rw [hall] at this; cases this) (Or.inl rfl) true (fun _ => rfl) (by show 0 ≤ _; omega) (by show 0 ≤ _; omega) (unhide HR6).next (unhide HR6).age (by omega))
              go_wp2_with fail
              refine Calls.mono (unhide HOPN) ?_
              rintro e wa ⟨rfl, Ga, lpa, La, ea, rva, tva, ava, hRa, hGa, hKa, hnx⟩
              obtain ⟨vs, hvl, hvr⟩ := hRa.book.at_.recs.row
              obtain ⟨rq, rc, hrv, _⟩ := hvr.shape
              subst hrv
              have hvi : vs.length = 1 := by rw [hvl, hRa.len]; rfl
              have c12 := (nineteen_cells hRa.book.at_.blk).2.1.1
              rw [hvi] at c12
              have HBa := hide ((unhide HB9).trans (hKa.below (unhide HB9).size (fun k hk => unhide HN6 k (Or.inr (Or.inr hk)))))
              have HNa : Hid (∀ k, all3 F9 Ga K6 k → w.heap.size ≤ k) := fun k hk => by
                rcases hk with h | h | h
                · exact unhide HN9 k h
                · exact Nat.le_trans (unhide HB9).size (hGa k h)
                · exact unhide HN6 k (Or.inr (Or.inr h))
              obtain ⟨bA, hRA, f1, f2⟩ : ∃ bA, Run F9 Ga K6 wa g lpa (.pointer (some dg)) ((s6.crash ks).start) La bA (.slice rq vs.length rc) tva ava S6 [Id.mk 1 0 ab] 4 ∧ bA.first = 0 ∧ bA.next ≤ 15 := ⟨_, hRa, (unhide HE6).1, by have h5 := hRa.inv.links; have h6 : b6.first + (Id.mk 1 0 ab).cnt = ea := h5.2; have := unhide HCA; have := (unhide HE6).1; show ea ≤ 15; omega⟩
              have hcc : (Id.mk bA.age bA.next cb).cnt ≤ 10 := cnt_small (n := 10) (by have := unhide HLC; omega) (by omega)
              have HAPC := hide (run_append_fit hRA (by omega) ((unhide H2).below (unhide HBa)) (by have := unhide HLC; omega) (fun k off n c e hne => by
                have h4 := unhide HARG (unhide H2) k off n c e hne
                exact ⟨fun h => by have := unhide HNa k (Or.inl h); omega, fun h => by have := unhide HNa k (Or.inr (Or.inl h)); omega, fun h => by have := unhide HNa k (Or.inr (Or.inr h)); omega⟩) ⟨by have := unhide HLC; omega, by rw [f1]; omega⟩)
              clear hRa hGa hKa hnx hvl hvr hvi hRA f1 f2 hcc HOPN
              go_wp2_with fail
              refine Calls.mono (unhide HAPC) ?_
              rintro e wb ⟨rfl, Fb, Gb, Kb, Lb, rvb, tvb, avb, Sb, hRb, hMb⟩
              obtain ⟨lgb, hlgb⟩ := hRb.book.both.log.ptr
              subst hlgb
              have c10 := (nineteen_cells hRb.book.at_.blk).1.2.2.1
              have HSY := hide (run_sync hRb (by omega))
              have HBb := hide ((unhide HBa).trans (hMb.keep.below (unhide HBa).size (unhide HNa)))
              have HNb : Hid (∀ k, all3 Fb Gb Kb k → w.heap.size ≤ k) := fun k hk => by
                rcases hMb.sub k hk with h | h
                · exact unhide HNa k h
                · exact Nat.le_trans (unhide HBa).size h
              clear hRb hMb HAPC c12 HNa HBa
              go_wp2_with fail
              refine Calls.mono (unhide HSY) ?_
              rintro e wc ⟨rfl, Fc, sc, hRc, hwc, hMc⟩
              obtain ⟨us, hul, hur⟩ := hRc.book.at_.recs.row
              obtain ⟨uq, uc, huv, _⟩ := hur.shape
              subst huv
              obtain ⟨⟨d0, _⟩, ⟨d12, _⟩, ⟨_, _, d17, _⟩, fz⟩ := nineteen_cells hRc.book.at_.blk
              have f17 := fz 17
              have hui : us.length = ([Id.mk 1 0 ab] ++ [Id.mk bA.age bA.next cb]).length := by rw [hul, hRc.len]
              obtain ⟨hRd, hKd⟩ := hRc.allSafe hwc us.length (by rw [hui]; exact Nat.le_refl _)
              obtain ⟨Wd, hWd⟩ : ∃ Wd, Wd = wc.setCell ⟨g, 17, none⟩ (.int .i64 (us.length : Int)) := ⟨_, rfl⟩
              rw [← hWd] at hRd hKd
              have HNc : Hid (∀ k, all3 Fc Gb Kb k → w.heap.size ≤ k) := fun k hk => by
                rcases hMc.sub k hk with h | h
                · exact unhide HNb k h
                · exact Nat.le_trans (unhide HBb).size h
              have hBc := (unhide HBb).trans (hMc.keep.below (unhide HBb).size (unhide HNb))
              have HBd := hide (hBc.trans (hKd.below hBc.size (unhide HNc)))
              have dd0 := (nineteen_cells hRd.book.at_.blk).1.1
              have HCR2 := hide (held_crash hRd.book.held (kv := .slice none 0 0) (ks := []) ⟨none, 0, rfl, by simp, by unfold maxLen; omega, fun _ => rfl, Or.inl rfl⟩ (fun b off n c e => by cases e) (by rw [hwc]; show 0 ≤ _; omega))
              have HRD := hide hRd
              have HWD := hide hWd
              have HUI := hide hui
              clear hRc hMc hwc hul hur fz hui hRd hKd hBc hWd HSY HNb HBb c10
              go_wp2_with fail
              rw [← unhide HWD]
              refine Calls.mono (unhide HCR2) ?_
              rintro e we ⟨rfl, Fe, hHe, hMe⟩
              have ee0 := (nineteen_cells hHe.at_.blk).1.1
              have HST2 := hide (held_start hHe)
              have HBe := hide ((unhide HBd).trans (hMe.keep.below (unhide HBd).size (fun k hk => unhide HNc k (Or.inl hk))))
              have HNe : Hid (∀ k, Fe k → w.heap.size ≤ k) := fun k hk => by
                rcases hMe.sub k hk with h | h
                · exact unhide HNc k (Or.inl h)
                · exact Nat.le_trans (unhide HBd).size h
              clear hHe hMe dd0 d0 d12 d17 f17 HCR2
              go_wp2_with fail
              refine Calls.mono (unhide HST2) ?_
              rintro e wf ⟨rfl, Ff, hHf, hMf⟩
              have hRD := unhide HRD
              have hmay2 : ∀ j c, May ((sc.crash []).start) j c → May sc j c := fun j c h => may_crash (start_may h)
              have hright2 : ∀ y ∈ ([Id.mk 1 0 ab] ++ [Id.mk bA.age bA.next cb]), Right ((sc.crash []).start) y := fun y hy j hj => hRD.inv.sure y (by show y ∈ List.take us.length _; rw [unhide HUI, List.take_of_length_le (Nat.le_refl _)]; exact hy) j hj _ (hmay2 _ _ (may_shown _ _))
              have hdw : Below wf.heap.size wf wf.drew := (Below.refl _ _).drew
              have hHd : Held Ff Gb Kb wf.drew g (.pointer (some lgb)) (.pointer (some dg)) ((sc.crash []).start) Lb _ _ tvb avb := ⟨hHf.both.below hdw, hHf.at_.below hdw, hHf.apF, hHf.apG⟩
              have HOPN2 := hide (run_open (l1 := [Id.mk 1 0 ab] ++ [Id.mk bA.age bA.next cb]) (l2 := []) (m := 6) hHd hRD.dead (by rw [List.append_nil]; exact ⟨hRD.lst.recs, hRD.lst.turns, hRD.lst.ages⟩) (by rw [List.append_nil]; exact hRD.inv.less hmay2) ⟨rfl, rfl⟩ hright2 (fun z l3 h => by cases h) (Or.inr rfl) true (fun _ => rfl) (by show 0 ≤ _; omega) (by show 0 ≤ _; omega) hRD.next hRD.age (by omega))
              have hBf := (unhide HBe).trans (hMf.keep.below (unhide HBe).size (unhide HNe))
              have HBf := hide (hBf.trans (hdw.mono hBf.size))
              have HNK : Hid (∀ k, Kb k → w.heap.size ≤ k) := fun k hk => unhide HNc k (Or.inr (Or.inr hk))
              clear hHf hMf hmay2 hright2 hRD ee0 HST2 HRD hHd hdw hBf
              go_wp2_with fail
              refine wp_region_any (by kernel_rfl) ?_
              refine wpAny_ready (rs := [0]) (by kernel_rfl) (by simp) ?_
              refine AllReady.cons (o := { dst := some 141, op := Op.move (Operand.tmp 9), type := 24, pos := "more.go:68", after := #[], guard := none }) rfl (fun K hK => ?_) AllReady.nil
              go_simp
              refine hK _ _ ?_
              clear hK K
              try simp only [Act.put, List.setIfInBounds_toArray, List.set_cons_zero, List.set_cons_succ]
              refine wpAny_ready (rs := [1]) (by kernel_rfl) (by simp) ?_
              refine AllReady.cons (o := { dst := some 142, op := Op.call { callee := Callee.value (Operand.func 11), args := #[Operand.tmp 141, Operand.const (Value.bool true)], argTypes := #[24, 4] }, type := 4, pos := "more.go:68", after := #[{ on := 0, ground := Ground.data }], guard := none }) rfl (fun K hK => ?_) AllReady.nil
              go_simp
              refine Calls.mono (unhide HOPN2) ?_
              rintro e wg ⟨rfl, Gg, lpg, Lg, eg, rvg, tvg, avg, hRg, hGg, hKg, _⟩
              have HBg := hide ((unhide HBf).trans (hKg.below (unhide HBf).size (unhide HNK)))
              obtain ⟨xs, x1, x2, x3⟩ := hRg.book.at_.recs
              have hrecs := hRg.lst.recs
              have hxr : xs.length = 1 + 1 := by rw [x1, hrecs]; rfl
              have g12 := (nineteen_cells hRg.book.at_.blk).2.1.1
              obtain ⟨kx, ox, cx, ev, hcx⟩ := x2.cell 1 (by omega)
              subst ev
              rw [hxr] at g12
              obtain ⟨tt, y1, y2, y3⟩ := x3 1 (by rw [hrecs]; show 1 < 1 + 1; omega)
              have hy : xs[1]'(by omega) = tt := by rw [List.getElem?_eq_getElem (by omega)] at y1; exact Option.some.inj y1
              rw [hy] at hcx
              have hyr : Row wg tt cb := by
                have h8 : ∀ (l : List (List UInt8)) (hl : 1 < l.length), l = List.map Id.r ([Id.mk 1 0 ab] ++ [Id.mk bA.age bA.next cb]) → l[1] = cb := by
                  intro l hl e8
                  subst e8
                  rfl
                rw [h8 _ _ hrecs] at y2
                exact y2
              obtain ⟨tp, tc, tn, rfl, htl⟩ := hyr.shape
              have HBY := hide (bytes_any _ _ cb cb wg hyr ((unhide H2).below (unhide HBg)))
              rw [show (cb == cb) = true from beq_self_eq_true cb] at HBY
              have hwrN : IntKind.i64.wrap 1 = 1 := by rw [IntKind.wrap_i64]; omega
              clear hRg hGg hKg x1 x2 x3 y1 y2 y3 hy hyr hrecs hxr htl HOPN2
              go_wp2_with fail
              refine wpAny_ready (rs := [2]) (by kernel_rfl) (by simp) ?_
              refine AllReady.cons (o := { dst := some 143, op := Op.move (Operand.tmp 142), type := 4, pos := "more.go:68", after := #[{ on := 1, ground := Ground.data }, { on := 1, ground := Ground.chain }], guard := none }) rfl (fun K hK => ?_) AllReady.nil
              go_simp
              refine hK _ _ ?_
              clear hK K
              try simp only [Act.put, List.setIfInBounds_toArray, List.set_cons_zero, List.set_cons_succ]
              have hHeld : wg.cell? ⟨g, 12, none⟩ = some (.slice (some ⟨kx, ox, none⟩) (1 + 1) cx) ∧ wg.cell? ⟨kx, ox + 1, none⟩ = some (.slice tp tn tc) := ⟨g12, hcx⟩
              refine wpAny_of_held (S := fun w' => w'.cell? ⟨g, 12, none⟩ = some (.slice (some ⟨kx, ox, none⟩) (1 + 1) cx) ∧ w'.cell? ⟨kx, ox + 1, none⟩ = some (.slice tp tn tc)) _ _ _ _ ?_
              refine wpAnyH_take (i := 3) (oi := { dst := some 144, op := Op.move (Operand.tmp 9), type := 24, pos := "more.go:68", after := #[{ on := 2, ground := Ground.guard }], guard := some (2, true) }) (v := ?_) rfl (by kernel_rfl) (by kernel_rfl) (by kernel_rfl) (fun _ _ _ h => h) (Or.inl ⟨by rfl, ?_⟩) (by assumption) ?_
              rotate_left
              · intro w' hSw
                obtain ⟨hS1, hS2⟩ := hSw
                first | (go_simp; done) | (go_simp; with_reducible rfl)
              simp only [Act.put, List.setIfInBounds_toArray, List.set_cons_zero, List.set_cons_succ]
              refine wpAnyH_take (i := 4) (oi := { dst := some 145, op := Op.nilCheck (Operand.tmp 144), type := 0, pos := "more.go:68", after := #[{ on := 3, ground := Ground.data }, { on := 2, ground := Ground.guard }], guard := some (2, true) }) (v := ?_) rfl (by kernel_rfl) (by kernel_rfl) (by kernel_rfl) (fun _ _ _ h => h) (Or.inl ⟨by rfl, ?_⟩) (by assumption) ?_
              rotate_left
              · intro w' hSw
                obtain ⟨hS1, hS2⟩ := hSw
                first | (go_simp; done) | (go_simp; with_reducible rfl)
              simp only [Act.put, List.setIfInBounds_toArray, List.set_cons_zero, List.set_cons_succ]
              refine wpAnyH_take (i := 5) (oi := { dst := some 146, op := Op.fieldAddr 38 (Operand.tmp 145) 4, type := 0, pos := "more.go:68", after := #[{ on := 4, ground := Ground.data }, { on := 2, ground := Ground.guard }], guard := some (2, true) }) (v := ?_) rfl (by kernel_rfl) (by kernel_rfl) (by kernel_rfl) (fun _ _ _ h => h) (Or.inl ⟨by rfl, ?_⟩) (by assumption) ?_
              rotate_left
              · intro w' hSw
                obtain ⟨hS1, hS2⟩ := hSw
                first | (go_simp; done) | (go_simp; with_reducible rfl)
              simp only [Act.put, List.setIfInBounds_toArray, List.set_cons_zero, List.set_cons_succ]
              refine wpAnyH_take (i := 6) (oi := { dst := some 147, op := Op.load 35 (Operand.tmp 146), type := 35, pos := "more.go:68", after := #[{ on := 5, ground := Ground.data }, { on := 2, ground := Ground.guard }], guard := some (2, true) }) (v := ?_) rfl (by kernel_rfl) (by kernel_rfl) (by kernel_rfl) (fun _ _ _ h => h) (Or.inl ⟨by rfl, ?_⟩) (by assumption) ?_
              rotate_left
              · intro w' hSw
                obtain ⟨hS1, hS2⟩ := hSw
                first | (go_simp; done) | (go_simp; with_reducible rfl)
              simp only [Act.put, List.setIfInBounds_toArray, List.set_cons_zero, List.set_cons_succ]
              refine wpAnyH_take (i := 7) (oi := { dst := some 148, op := Op.move (Operand.tmp 9), type := 24, pos := "more.go:68", after := #[{ on := 2, ground := Ground.guard }], guard := some (2, true) }) (v := ?_) rfl (by kernel_rfl) (by kernel_rfl) (by kernel_rfl) (fun _ _ _ h => h) (Or.inl ⟨by rfl, ?_⟩) (by assumption) ?_
              rotate_left
              · intro w' hSw
                obtain ⟨hS1, hS2⟩ := hSw
                first | (go_simp; done) | (go_simp; with_reducible rfl)
              simp only [Act.put, List.setIfInBounds_toArray, List.set_cons_zero, List.set_cons_succ]
              refine wpAnyH_take (i := 8) (oi := { dst := some 149, op := Op.nilCheck (Operand.tmp 148), type := 0, pos := "more.go:68", after := #[{ on := 7, ground := Ground.data }, { on := 2, ground := Ground.guard }], guard := some (2, true) }) (v := ?_) rfl (by kernel_rfl) (by kernel_rfl) (by kernel_rfl) (fun _ _ _ h => h) (Or.inl ⟨by rfl, ?_⟩) (by assumption) ?_
              rotate_left
              · intro w' hSw
                obtain ⟨hS1, hS2⟩ := hSw
                first | (go_simp; done) | (go_simp; with_reducible rfl)
              simp only [Act.put, List.setIfInBounds_toArray, List.set_cons_zero, List.set_cons_succ]
              refine wpAnyH_take (i := 9) (oi := { dst := some 150, op := Op.fieldAddr 38 (Operand.tmp 149) 4, type := 0, pos := "more.go:68", after := #[{ on := 8, ground := Ground.data }, { on := 2, ground := Ground.guard }], guard := some (2, true) }) (v := ?_) rfl (by kernel_rfl) (by kernel_rfl) (by kernel_rfl) (fun _ _ _ h => h) (Or.inl ⟨by rfl, ?_⟩) (by assumption) ?_
              rotate_left
              · intro w' hSw
                obtain ⟨hS1, hS2⟩ := hSw
                first | (go_simp; done) | (go_simp; with_reducible rfl)
              simp only [Act.put, List.setIfInBounds_toArray, List.set_cons_zero, List.set_cons_succ]
              refine wpAnyH_take (i := 10) (oi := { dst := some 151, op := Op.load 35 (Operand.tmp 150), type := 35, pos := "more.go:68", after := #[{ on := 9, ground := Ground.data }, { on := 2, ground := Ground.guard }], guard := some (2, true) }) (v := ?_) rfl (by kernel_rfl) (by kernel_rfl) (by kernel_rfl) (fun _ _ _ h => h) (Or.inl ⟨by rfl, ?_⟩) (by assumption) ?_
              rotate_left
              · intro w' hSw
                obtain ⟨hS1, hS2⟩ := hSw
                first | (go_simp; done) | (go_simp; with_reducible rfl)
              simp only [Act.put, List.setIfInBounds_toArray, List.set_cons_zero, List.set_cons_succ]
              refine wpAnyH_take (i := 11) (oi := { dst := some 152, op := Op.call { callee := Callee.builtin Builtin.len, args := #[Operand.tmp 151], argTypes := #[35] }, type := 3, pos := "more.go:68", after := #[{ on := 10, ground := Ground.data }, { on := 2, ground := Ground.guard }], guard := some (2, true) }) (v := ?_) rfl (by kernel_rfl) (by kernel_rfl) (by kernel_rfl) (fun _ _ _ h => h) (Or.inl ⟨by rfl, ?_⟩) (by assumption) ?_
              rotate_left
              · intro w' hSw
                obtain ⟨hS1, hS2⟩ := hSw
                first | (go_simp; done) | (go_simp; with_reducible rfl)
              simp only [Act.put, List.setIfInBounds_toArray, List.set_cons_zero, List.set_cons_succ]
              refine wpAnyH_take (i := 12) (oi := { dst := some 153, op := Op.binOp BinOp.sub 3 (Operand.tmp 152) (Operand.const (Value.int IntKind.i64 1)) 3, type := 3, pos := "more.go:68", after := #[{ on := 11, ground := Ground.data }, { on := 2, ground := Ground.guard }], guard := some (2, true) }) (v := ?_) rfl (by kernel_rfl) (by kernel_rfl) (by kernel_rfl) (fun _ _ _ h => h) (Or.inl ⟨by rfl, ?_⟩) (by assumption) ?_
              rotate_left
              · intro w' hSw
                obtain ⟨hS1, hS2⟩ := hSw
                first | (go_simp; done) | (go_simp; with_reducible rfl)
              simp only [Act.put, List.setIfInBounds_toArray, List.set_cons_zero, List.set_cons_succ]
              refine wpAnyH_take (i := 13) (oi := { dst := some 154, op := Op.indexAddr 35 (Operand.tmp 147) (Operand.tmp 153), type := 0, pos := "more.go:68", after := #[{ on := 6, ground := Ground.data }, { on := 12, ground := Ground.data }, { on := 2, ground := Ground.guard }], guard := some (2, true) }) (v := ?_) rfl (by kernel_rfl) (by kernel_rfl) (by kernel_rfl) (fun _ _ _ h => h) (Or.inl ⟨by rfl, ?_⟩) (by assumption) ?_
              rotate_left
              · intro w' hSw
                obtain ⟨hS1, hS2⟩ := hSw
                first | (go_simp; done) | (go_simp; with_reducible rfl)
              simp only [Act.put, List.setIfInBounds_toArray, List.set_cons_zero, List.set_cons_succ]
              refine wpAnyH_take (i := 14) (oi := { dst := some 155, op := Op.load 22 (Operand.tmp 154), type := 22, pos := "more.go:68", after := #[{ on := 13, ground := Ground.data }, { on := 2, ground := Ground.guard }], guard := some (2, true) }) (v := ?_) rfl (by kernel_rfl) (by kernel_rfl) (by kernel_rfl) (fun _ _ _ h => h) (Or.inl ⟨by rfl, ?_⟩) (by assumption) ?_
              rotate_left
              · intro w' hSw
                obtain ⟨hS1, hS2⟩ := hSw
                first | (go_simp; done) | (go_simp; with_reducible rfl)
              simp only [Act.put, List.setIfInBounds_toArray, List.set_cons_zero, List.set_cons_succ]
              refine wpAnyH_take (i := 15) (oi := { dst := some 156, op := Op.move (Operand.tmp 2), type := 22, pos := "more.go:68", after := #[{ on := 2, ground := Ground.guard }], guard := some (2, true) }) (v := ?_) rfl (by kernel_rfl) (by kernel_rfl) (by kernel_rfl) (fun _ _ _ h => h) (Or.inl ⟨by rfl, ?_⟩) (by assumption) ?_
              rotate_left
              · intro w' hSw
                obtain ⟨hS1, hS2⟩ := hSw
                first | (go_simp; done) | (go_simp; with_reducible rfl)
              simp only [Act.put, List.setIfInBounds_toArray, List.set_cons_zero, List.set_cons_succ]
              refine wpAnyH_ready (rs := [16]) (by kernel_rfl) (by simp) ?_
              refine AllReadyH.cons rfl (fun K hK => ?_) AllReadyH.nil
              go_simp
              refine Calls.mono (unhide HBY) ?_
              rintro e wh ⟨rfl, rfl⟩
              go_wp2_with fail
              refine hK.out _ _ hHeld (fun hHeld => ?_)
              clear hK K
              refine wpAnyH_take (i := 17) (oi := { dst := some 158, op := Op.pick (Operand.tmp 143) (Operand.tmp 157) (Operand.const (Value.bool false)), type := 4, pos := "more.go:68", after := #[{ on := 2, ground := Ground.data }, { on := 16, ground := Ground.data }], guard := none }) (v := ?_) rfl (by kernel_rfl) (by kernel_rfl) (by kernel_rfl) (fun _ _ _ h => h) (Or.inl ⟨by rfl, ?_⟩) (by assumption) ?_
              rotate_left
              · intro w' hSw
                obtain ⟨hS1, hS2⟩ := hSw
                first | (go_simp; done) | (go_simp; with_reducible rfl)
              simp only [Act.put, List.setIfInBounds_toArray, List.set_cons_zero, List.set_cons_succ]
              refine wpAnyH_take (i := 18) (oi := { dst := some 8, op := Op.assign (Operand.tmp 158), type := 4, pos := "more.go:68", after := #[{ on := 17, ground := Ground.data }, { on := 16, ground := Ground.chain }, { on := 0, ground := Ground.phase }, { on := 1, ground := Ground.phase }, { on := 2, ground := Ground.phase }, { on := 3, ground := Ground.phase }, { on := 4, ground := Ground.phase }, { on := 5, ground := Ground.phase }, { on := 6, ground := Ground.phase }, { on := 7, ground := Ground.phase }, { on := 8, ground := Ground.phase }, { on := 9, ground := Ground.phase }, { on := 10, ground := Ground.phase }, { on := 11, ground := Ground.phase }, { on := 12, ground := Ground.phase }, { on := 13, ground := Ground.phase }, { on := 14, ground := Ground.phase }, { on := 15, ground := Ground.phase }, { on := 16, ground := Ground.phase }, { on := 17, ground := Ground.phase }], guard := none }) (v := ?_) rfl (by kernel_rfl) (by kernel_rfl) (by kernel_rfl) (fun _ _ _ h => h) (Or.inl ⟨by rfl, ?_⟩) (by assumption) ?_
              rotate_left
              · intro w' hSw
                obtain ⟨hS1, hS2⟩ := hSw
                first | (go_simp; done) | (go_simp; with_reducible rfl)
              simp only [Act.put, List.setIfInBounds_toArray, List.set_cons_zero, List.set_cons_succ]
              refine wpAnyH_done (by kernel_rfl) ?_ _
              go_wp2_with fail
              go_ret
              exact ⟨rfl, unhide HBg⟩

theorem walk_WalPart (s0 : Value) (b0 : List UInt8) (s1 : Value) (b1 : List UInt8) (s2 : Value) (b2 : List UInt8) (s3 : Value) (d3 : Dt) (w : World) (h0 : Row w s0 b0) (_ : b0.length ≤ 140737488351232) (h1 : Row w s1 b1) (_ : b1.length ≤ 140737488351232) (h2 : Row w s2 b2) (_ : b2.length ≤ 140737488351232) (h3 : Reads limSaid w (.row 1 .bool) [s3] d3) :
    Calls Try.prog 3 #[s0, s1, s2, s3] w fun e w' => e = .returned (.bool true) ∧ Below w.heap.size w w' := by
  obtain ⟨ks, hk, _⟩ := bools_of_reads h3
  exact wpart_any s0 s1 s2 s3 b0 b1 b2 ks w h0 h1 h2 hk
end Go.Proofs.Ytdpoiieblbmofab
