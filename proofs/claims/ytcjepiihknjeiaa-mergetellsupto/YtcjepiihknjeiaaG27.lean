/- Texts of ours, one behind the other: MgRef6. -/
import Derived.Test.YtcjepiihknjeiaaG21
/- The document's own Walk: where what it answers lies. -/
namespace Go.Proofs.Ytcjepiihknjeiaa
open Go.RowKit

set_option maxRecDepth 20000 in
set_option maxHeartbeats 4000000 in
/-- The same, and where what it answers lies. -/
theorem ewalk_own (v1 v2 : Value) (a b : List En) (w : World) (h1 : ER w v1 a) (h2 : ER w v2 b) (hks : ∀ l ∈ [a, b], ∀ x ∈ l, x.1.size ≤ 140737488351232) (hl : (totE [a, b] + 1) * 40 ≤ 140737488355328) :
    Calls Try.prog 19 #[v1, v2] w fun r w' => ∃ x y, r = .returned (.tuple #[x, y, .int .i64 (mrgR [a, b]).2]) ∧ ER w' x (sidX a (mrgR [a, b]).1) ∧ ER w' y (sidX b (mrgR [a, b]).1) ∧ (∀ k, x.ownBlock = some k → w.heap.size ≤ k) ∧ (∀ k, y.ownBlock = some k → w.heap.size ≤ k) ∧ Below w.heap.size w w' := by
  have HR1 := hide (fun W (hb : Below w.heap.size w W) => eright_any v1 a W (h1.below hb) (hks a (by simp)))
  have HR2 := hide (fun W (hb : Below w.heap.size w W) => eright_any v2 b W (h2.below hb) (hks b (by simp)))
  have HO1 := hide (fun key W (hb : Below w.heap.size w W) => eof_any v1 a key W (h1.below hb))
  have HO2 := hide (fun key W (hb : Below w.heap.size w W) => eof_any v2 b key W (h2.below hb))
  obtain ⟨p1, c1, rfl, _⟩ := h1.shape
  obtain ⟨p2, c2, rfl, _⟩ := h2.shape
  have H1 := hide (And.intro h1 h2)
  have HKL := hide (And.intro hks hl)
  have hmx : Try.prog.follows .mixedOrders = true := by kernel_rfl
  obtain ⟨ie, hie, he0, he1, he2⟩ := info_parts Try.infoEnt
  clear h1 h2 hks hl
  have HMR : Hid (mrgR [a, b] = if rightE a = true ∧ rightE b = true then (mrgE [a, b], 0) else ([], 11)) := by
    unfold Hid mrgR
    rw [if_neg (by simp)]
    simp
  go_enter Try.func19, Try.ntmps19
  go_wp2_with fail
  refine Calls.mono (unhide HR1 _ (Below.refl _ _)) ?_
  rintro e w1 ⟨rfl, b1⟩
  have HB1 := hide b1
  clear b1
  cases hra : rightE a with
  | false =>
    have HM : Hid (mrgR [a, b] = ([], 11)) := by unfold Hid; rw [unhide HMR, hra]; simp
    clear hra
    go_wp2_with fail
    refine bodyPost_ret (v := .tuple #[.slice none 0 0, .slice none 0 0, .int .i64 11]) (by simp [results, Try.results19, go_sem]) rfl ?_
    rw [unhide HM]
    exact ⟨_, _, rfl, KRow.nil 4 _, KRow.nil 4 _, fun _ h => by simp [Value.ownBlock] at h, fun _ h => by simp [Value.ownBlock] at h, unhide HB1⟩
  | true =>
    have HRA := hide hra
    clear hra
    go_wp2_with fail
    refine Calls.mono (unhide HR2 _ (unhide HB1)) ?_
    rintro e w2 ⟨rfl, b2⟩
    have HB2 := hide ((unhide HB1).trans (b2.mono (unhide HB1).size))
    clear b2
    cases hrb : rightE b with
    | false =>
      have HM : Hid (mrgR [a, b] = ([], 11)) := by unfold Hid; rw [unhide HMR, hrb]; simp
      clear hrb
      go_wp2_with fail
      refine bodyPost_ret (v := .tuple #[.slice none 0 0, .slice none 0 0, .int .i64 11]) (by simp [results, Try.results19, go_sem]) rfl ?_
      rw [unhide HM]
      exact ⟨_, _, rfl, KRow.nil 4 _, KRow.nil 4 _, fun _ h => by simp [Value.ownBlock] at h, fun _ h => by simp [Value.ownBlock] at h, unhide HB2⟩
    | true =>
      have HM : Hid (mrgR [a, b] = (mrgE [a, b], 0)) := by unfold Hid; rw [unhide HMR, hrb, unhide HRA]; simp
      clear hrb
      have hb3 : Below w2.heap.size w2 (w2.alloc (.cells #[.slice p1 a.length c1, .slice p2 b.length c2] 24)) := (Below.refl _ _).alloc (Nat.le_refl _) _
      have hlr : LR (w2.alloc (.cells #[.slice p1 a.length c1, .slice p2 b.length c2] 24)) (.slice (some ⟨w2.heap.size, 0, none⟩) 2 2) [a, b] := QH.lr_lit (vs := [.slice p1 a.length c1, .slice p2 b.length c2]) (World.alloc_heap_new _ _) rfl (by simp [maxLen]) (fun j s l hs hl => by
        have h1 := ((unhide H1).1.below (unhide HB2)).below hb3
        have h2 := ((unhide H1).2.below (unhide HB2)).below hb3
        match j, hs, hl with
        | 0, hs, hl =>
          simp only [List.getElem?_cons_zero, Option.some.injEq] at hs hl
          subst hs; subst hl
          exact h1
        | 1, hs, hl =>
          simp only [List.getElem?_cons_succ, List.getElem?_cons_zero, Option.some.injEq] at hs hl
          subst hs; subst hl
          exact h2)
      have hme := emerge_any _ [a, b] _ hlr (unhide HKL).1 (unhide HKL).2
      rw [unhide HM] at hme
      have HME := hide hme
      have HB3 := hide ((unhide HB2).trans (hb3.mono (unhide HB2).size))
      have hml := mrgE_len [a, b]
      have HML := hide (show (mrgE [a, b]).length * 40 + 40 ≤ 140737488355328 by have := (unhide HKL).2; omega)
      clear hlr hme hb3 hml
      go_wp2_with fail
      refine Calls.mono (unhide HME) ?_
      rintro e w4 ⟨va, rfl, ho4, b4⟩
      have HB4 := hide ((unhide HB3).trans (b4.mono (unhide HB3).size))
      have HE4 := hide (er_of_own ho4)
      have HB4w := hide b4
      obtain ⟨pa, ca, rfl⟩ := ownsV_shape ho4
      generalize mrgE [a, b] = all at *
      clear ho4 b4
      go_wp2_with fail
      go_loopw [9, 10, 11] (fun t9 t10 t11 wr => ∃ k : Nat, t11 = .int .i64 (k : Int) ∧ k ≤ all.length ∧ SdI w4 a b all k t9 t10 wr) (fun _ _ t11 _ => all.length - (intOf t11).toNat)
      case atStart => exact ⟨0, rfl, Nat.zero_le _, ⟨World.ownsRow_nil _ _ _ _, World.ownsRow_nil _ _ _ _, fun j h => (by cases h), Below.refl _ _⟩⟩
      case round =>
        obtain ⟨k, rfl, hk, hsd⟩ := hrel
        obtain ⟨px, cx, rfl⟩ := ownsV_shape hsd.x
        obtain ⟨py, cy, rfl⟩ := ownsV_shape hsd.y
        by_cases hlt : k < all.length
        · have hkI : (k : Int) < (all.length : Int) := by omega
          obtain ⟨e, he⟩ : ∃ e, all[k]? = some e := ⟨_, List.getElem?_eq_getElem hlt⟩
          obtain ⟨g, o, c', e1, _, _, hsn⟩ := (unhide HE4).seen (by omega)
          simp only [Value.slice.injEq] at e1
          obtain ⟨rfl, _, rfl⟩ := e1
          obtain ⟨y0, _⟩ := hsn k e he wr hsd.low
          have hbw := (unhide HB4).trans (hsd.low.mono (unhide HB4).size)
          have HSD := hide hsd
          have HK := hide (And.intro hlt he)
          have HBW := hide hbw
          have hknw : IntKind.i64.wrap ((k : Int) + 1) = (k : Int) + 1 := by have := unhide HML; rw [IntKind.wrap_i64]; omega
          have HQ1 := hide (unhide HO1 e.1 wr hbw)
          have HSNK := hide (fun W hb => (hsn k e he W hb).1)
          clear hsd hlt he hsn hbw hk
          obtain ⟨P, hP⟩ : ∃ P, P = (ofE a e.1).getD e0 := ⟨_, rfl⟩
          obtain ⟨Q, hQ⟩ : ∃ Q, Q = (ofE b e.1).getD e0 := ⟨_, rfl⟩
          have HPQ := hide (And.intro hP hQ)
          rw [← hP] at HQ1
          generalize (ofE a e.1).isSome = sa at *
          unfold eV at HQ1
          clear hP hQ
          go_wp2_with fail
          refine Calls.mono (unhide HQ1) ?_
          rintro r w5 ⟨rfl, b5⟩
          have HB5 := hide b5
          have y0 := unhide HSNK w5 ((unhide HSD).low.trans (b5.mono (unhide HSD).low.size))
          clear b5
          have hb6 : Below w5.heap.size w5 (w5.alloc (.cells #[.string P.1, .int .u64 P.2.1, .int .i64 P.2.2.1, .int .i64 P.2.2.2] 37)) := (Below.refl _ _).alloc (Nat.le_refl _) _
          have y1 := unhide HSNK _ (((unhide HSD).low.trans ((unhide HB5).mono (unhide HSD).low.size)).trans (hb6.mono (Nat.le_trans (unhide HSD).low.size (unhide HB5).size)))
          have HQ2 := hide (unhide HO2 e.1 _ (((unhide HBW).trans ((unhide HB5).mono (unhide HBW).size)).trans (hb6.mono (Nat.le_trans (unhide HBW).size (unhide HB5).size))))
          rw [← (unhide HPQ).2] at HQ2
          unfold eV at HQ2
          generalize (ofE b e.1).isSome = sb at *
          go_wp2_with fail
          refine Calls.mono (unhide HQ2) ?_
          rintro r w7 ⟨rfl, b7⟩
          have hb8 : Below w7.heap.size w7 (w7.alloc (.cells #[.string Q.1, .int .u64 Q.2.1, .int .i64 Q.2.2.1, .int .i64 Q.2.2.2] 37)) := (Below.refl _ _).alloc (Nat.le_refl _) _
          obtain ⟨X, hX⟩ : ∃ X, w7.alloc (.cells #[.string Q.1, .int .u64 Q.2.1, .int .i64 Q.2.2.1, .int .i64 Q.2.2.2] 37) = X := ⟨_, rfl⟩
          have hP6 := (b7.block w5.heap.size (by simp)).trans (World.alloc_heap_new w5 (.cells #[.string P.1, .int .u64 P.2.1, .int .i64 P.2.2.1, .int .i64 P.2.2.2] 37))
          have hP7 := (hb8.block _ (Array.getElem?_eq_some_iff.1 hP6).1).trans hP6
          have hQ7 := World.alloc_heap_new w7 (.cells #[.string Q.1, .int .u64 Q.2.1, .int .i64 Q.2.2.1, .int .i64 Q.2.2.2] 37)
          rw [hX] at hb8 hP7 hQ7
          have HSX := hide (((((unhide HSD).calm (unhide HB5)).calm hb6).calm b7).calm hb8)
          have HPQX := hide (And.intro hP7 hQ7)
          have HFIT := hide (show k + 1 ≤ maxLen ∧ (k + 1) * 40 ≤ 140737488355328 from by
            have h1 := unhide HML
            have h2 := (unhide HK).1
            unfold maxLen
            constructor <;> omega)
          have HCO := hide (fun (Xi : World) (hk : Keep (fun j => (.slice px k cx : Value).ownBlock = some j) X Xi) => show (Xi.cell? ⟨w5.heap.size, 0, none⟩ = some (.string P.1) ∧ Xi.cell? ⟨w5.heap.size, 1, none⟩ = some (.int .u64 P.2.1) ∧ Xi.cell? ⟨w5.heap.size, 2, none⟩ = some (.int .i64 P.2.2.1) ∧ Xi.cell? ⟨w5.heap.size, 3, none⟩ = some (.int .i64 P.2.2.2)) ∧ Xi.cell? ⟨w7.heap.size, 0, none⟩ = some (.string Q.1) ∧ Xi.cell? ⟨w7.heap.size, 1, none⟩ = some (.int .u64 Q.2.1) ∧ Xi.cell? ⟨w7.heap.size, 2, none⟩ = some (.int .i64 Q.2.2.1) ∧ Xi.cell? ⟨w7.heap.size, 3, none⟩ = some (.int .i64 Q.2.2.2) from by
            have hlx : ∀ j, (.slice px k cx : Value).ownBlock = some j → j < w5.heap.size := fun j hj => Nat.lt_of_lt_of_le ((unhide HSD).x.lt j hj).2 (unhide HB5).size
            have h57 : w5.heap.size ≤ w7.heap.size := Nat.le_trans hb6.size b7.size
            have e1 := (hk.block _ (Array.getElem?_eq_some_iff.1 hP7).1 (fun h => by have := hlx _ h; omega)).trans hP7
            have e2 := (hk.block _ (Array.getElem?_eq_some_iff.1 hQ7).1 (fun h => by have := hlx _ h; omega)).trans hQ7
            obtain ⟨t0, t1, t2, t3, _⟩ := ecells e1
            obtain ⟨v0, v1, v2, v3, _⟩ := ecells e2
            exact ⟨⟨t0, t1, t2, t3⟩, v0, v1, v2, v3⟩)
          have HXS := hide (show w4.heap.size ≤ X.heap.size from (unhide HSX).low.size)
          clear b7 hb6 hb8 hP6 hP7 hQ7 y0 y1
          go_wp2_with fail
          clear hX
          refine region_acts 7 (fun i => i == 2 || i == 3 || i == 6) (fun s u Xi => Keep (fun j => (.slice px k cx : Value).ownBlock = some j) X Xi ∧
            (s 2 = true → ∃ x2, u 2 = .slice (some ⟨x2, 0, none⟩) 1 1 ∧ X.heap.size ≤ x2 ∧ Xi.heap[x2]? = some (.cells #[.string P.1, .int .u64 P.2.1, .int .i64 P.2.2.1, .int .i64 P.2.2.2] 37 (0, 0))) ∧
            (s 3 = false → Xi.ownsRow w4.heap.size 37 4 (.slice px k cx) k ((sidX a (all.take k)).flatMap eC)) ∧
            (s 3 = true → Xi.ownsRow w4.heap.size 37 4 (u 3) (k + 1) ((sidX a (all.take k)).flatMap eC ++ [Value.string P.1, .int .u64 P.2.1, .int .i64 P.2.2.1, .int .i64 P.2.2.2]) ∧ ((u 3).ownBlock = (.slice px k cx : Value).ownBlock ∨ ∀ j, (u 3).ownBlock = some j → X.heap.size ≤ j)) ∧
            (s 6 = true → ∃ x6, u 6 = .slice (some ⟨x6, 0, none⟩) 1 1 ∧ X.heap.size ≤ x6 ∧ Xi.heap[x6]? = some (.cells #[.string Q.1, .int .u64 Q.2.1, .int .i64 Q.2.2.1, .int .i64 Q.2.2.2] 37 (0, 0)))) hmx (by kernel_rfl) ?i0 ?_
          case i0 => exact ⟨Keep.of_below ((Below.refl _ X).drew), fun h => (by cases h), fun _ => ownsV_keep (F := fun _ => False) (unhide HSX).x (Keep.of_below ((Below.refl _ X).drew)) (fun _ _ => id), fun h => (by cases h), fun h => (by cases h)⟩
          intro u
          simp only [List.take_succ_cons, List.take_zero]
          -- the first row
          refine lexM_still (.slice px k cx) rfl (by kernel_rfl) (fun s u Xi hi => ?_) ?_
          · go_simp
          simp only [Act.put, List.setIfInBounds_toArray, List.set_cons_zero, List.set_cons_succ]
          refine lexM_still (.agg #[.string P.1, .int .u64 P.2.1, .int .i64 P.2.2.1, .int .i64 P.2.2.2]) rfl (by kernel_rfl) (fun s u Xi hi => ?_) ?_
          · obtain ⟨⟨z1, z2, z3, z4⟩, _⟩ := unhide HCO Xi hi.1
            go_simp
          simp only [Act.put, List.setIfInBounds_toArray, List.set_cons_zero, List.set_cons_succ]
          refine lexM_act (k := 2) rfl (by kernel_rfl) (fun s Xi hs hd hi => ?_) ?_
          · go_simp
            obtain ⟨hk, h2, h3f, h3t, h6⟩ := hi
            have hb : Below Xi.heap.size Xi (Xi.alloc (.cells #[.string P.1, .int .u64 P.2.1, .int .i64 P.2.2.1, .int .i64 P.2.2.2] 37)) := (Below.refl _ _).alloc (Nat.le_refl _) _
            refine actUpon_value ?_
            rw [upd_at, upd_ne (show (3 : Nat) ≠ 2 by decide), upd_ne (show (6 : Nat) ≠ 2 by decide), upd_at, upd_ne (show (3 : Nat) ≠ 2 by decide), upd_ne (show (6 : Nat) ≠ 2 by decide)]
            refine ⟨hk.trans (Keep.of_below hb) (fun k h => Or.inl h), fun _ => ⟨Xi.heap.size, rfl, hk.size, World.alloc_heap_new _ _⟩, fun h => ownsV_keep (F := fun _ => False) (h3f h) (Keep.of_below hb) (fun _ _ => id), fun h => ⟨ownsV_keep (F := fun _ => False) (h3t h).1 (Keep.of_below hb) (fun _ _ => id), (h3t h).2⟩, fun h => ?_⟩
            obtain ⟨x6, e1, e2, e3⟩ := h6 h
            exact ⟨x6, e1, e2, (hb.block x6 (Array.getElem?_eq_some_iff.1 e3).1).trans e3⟩
          simp only [Act.put, List.setIfInBounds_toArray, List.set_cons_zero, List.set_cons_succ]
          refine lexM_act (k := 3) rfl (by kernel_rfl) (fun s Xi hs hd hi => ?_) ?_
          · obtain ⟨hk, h2, h3f, h3t, h6⟩ := hi
            have s2 : s 2 = true := hd { on := 2, ground := .data } (by simp) (by rfl) (by rfl)
            obtain ⟨x2, e1, e2, e3⟩ := h2 s2
            obtain ⟨hx0, hx1, hx2, hx3, _⟩ := ecells e3
            have hlv : ∀ j, (.slice px k cx : Value).ownBlock = some j → j < X.heap.size := fun j hj => ((unhide HSX).x.lt j hj).2
            refine act_append_any (.tmp 57) (.tmp 59) 24 rfl w4.heap.size 37 ie (.agg #[.string ⟨#[]⟩, .int .u64 0, .int .i64 0, .int .i64 0]) Try.underlying24 hie he0 4 40 (by omega) he1 he2 rfl (.slice px k cx) k ((sidX a (all.take k)).flatMap eC) rfl (h3f hs) ⟨x2, 0, none⟩ 1 1 [Value.string P.1, .int .u64 P.2.1, .int .i64 P.2.2.1, .int .i64 P.2.2.2] e1 rfl (by intro j u hj; match j, hj with | 0, hj => (simp at hj; subst hj; simpa [Addr.add] using hx0) | 1, hj => (simp at hj; subst hj; simpa [Addr.add] using hx1) | 2, hj => (simp at hj; subst hj; simpa [Addr.add] using hx2) | 3, hj => (simp at hj; subst hj; simpa [Addr.add] using hx3)) (by intro u hu; simp at hu; rcases hu with rfl | rfl | rfl | rfl <;> rfl) (unhide HFIT).1 (unhide HFIT).2 (Nat.le_trans (unhide HXS) hk.size) ?_
            intro v3 w3 hown hg hob
            have hkg := grown_keep hg
            have hkg' := hkg.size
            have hk' := hk.size
            rw [upd_ne (show (2 : Nat) ≠ 3 by decide), upd_at, upd_ne (show (6 : Nat) ≠ 3 by decide), upd_at, upd_ne (show (2 : Nat) ≠ 3 by decide), upd_ne (show (6 : Nat) ≠ 3 by decide)]
            refine ⟨hk.trans hkg (fun k h => Or.inl h), fun h => ?_, fun h => (by cases h), fun _ => ⟨hown, ?_⟩, fun h => ?_⟩
            · exact ⟨x2, e1, e2, (hkg.block x2 (Array.getElem?_eq_some_iff.1 e3).1 (fun h => by have := hlv _ h; omega)).trans e3⟩
            · rcases hob with h | h
              · exact Or.inl h
              · exact Or.inr (fun k hk2 => by rw [h] at hk2; simp only [Option.some.injEq] at hk2; omega)
            · obtain ⟨x6, f1, f2, f3⟩ := h6 h
              exact ⟨x6, f1, f2, (hkg.block x6 (Array.getElem?_eq_some_iff.1 f3).1 (fun h => by have := hlv _ h; omega)).trans f3⟩
          simp only [Act.put, List.setIfInBounds_toArray, List.set_cons_zero, List.set_cons_succ]
          refine lexM_still (.slice py k cy) rfl (by kernel_rfl) (fun s u Xi hi => ?_) ?_
          · go_simp
          simp only [Act.put, List.setIfInBounds_toArray, List.set_cons_zero, List.set_cons_succ]
          refine lexM_still (.agg #[.string Q.1, .int .u64 Q.2.1, .int .i64 Q.2.2.1, .int .i64 Q.2.2.2]) rfl (by kernel_rfl) (fun s u Xi hi => ?_) ?_
          · obtain ⟨_, z1, z2, z3, z4⟩ := unhide HCO Xi hi.1
            go_simp
          simp only [Act.put, List.setIfInBounds_toArray, List.set_cons_zero, List.set_cons_succ]
          refine lexM_act (k := 6) rfl (by kernel_rfl) (fun s Xi hs hd hi => ?_) ?_
          · go_simp
            obtain ⟨hk, h2, h3f, h3t, h6⟩ := hi
            have hb : Below Xi.heap.size Xi (Xi.alloc (.cells #[.string Q.1, .int .u64 Q.2.1, .int .i64 Q.2.2.1, .int .i64 Q.2.2.2] 37)) := (Below.refl _ _).alloc (Nat.le_refl _) _
            refine actUpon_value ?_
            rw [upd_ne (show (2 : Nat) ≠ 6 by decide), upd_ne (show (3 : Nat) ≠ 6 by decide), upd_at, upd_ne (show (2 : Nat) ≠ 6 by decide), upd_ne (show (3 : Nat) ≠ 6 by decide), upd_at]
            refine ⟨hk.trans (Keep.of_below hb) (fun k h => Or.inl h), fun h => ?_, fun h => ownsV_keep (F := fun _ => False) (h3f h) (Keep.of_below hb) (fun _ _ => id), fun h => ⟨ownsV_keep (F := fun _ => False) (h3t h).1 (Keep.of_below hb) (fun _ _ => id), (h3t h).2⟩, fun _ => ⟨Xi.heap.size, rfl, hk.size, World.alloc_heap_new _ _⟩⟩
            obtain ⟨x2, e1, e2, e3⟩ := h2 h
            exact ⟨x2, e1, e2, (hb.block x2 (Array.getElem?_eq_some_iff.1 e3).1).trans e3⟩
          simp only [Act.put, List.setIfInBounds_toArray, List.set_cons_zero, List.set_cons_succ]
          refine lexM_nil fun Xi hi => ?_
          simp only [List.drop_succ_cons, List.drop_zero]
          obtain ⟨hk, _, _, h3t, h6⟩ := hi
          obtain ⟨r3, b3⟩ := h3t (by rfl)
          obtain ⟨x6, f1, f2, f3⟩ := h6 (by rfl)
          obtain ⟨p3, n3, e3⟩ := ownsV_shape r3
          obtain ⟨z0, z1, z2, z3, _⟩ := ecells f3
          have hvy : ∀ j, (.slice py k cy : Value).ownBlock = some j → ¬ (.slice px k cx : Value).ownBlock = some j := fun j hj hx => (unhide HSX).dis j hx hj
          have HYR := hide (ownsV_keep (unhide HSX).y hk hvy)
          have HNW : Hid (∀ (j : Nat) (u : Value), [Value.string Q.1, .int .u64 Q.2.1, .int .i64 Q.2.2.1, .int .i64 Q.2.2.2][j]? = some u → Xi.cell? ((⟨x6, 0, none⟩ : Addr).add j) = some u) := fun j u hj => by
            match j, hj with
            | 0, hj => simp at hj; subst hj; simpa [Addr.add] using z0
            | 1, hj => simp at hj; subst hj; simpa [Addr.add] using z1
            | 2, hj => simp at hj; subst hj; simpa [Addr.add] using z2
            | 3, hj => simp at hj; subst hj; simpa [Addr.add] using z3
          have HBS := hide (Nat.le_trans (unhide HXS) hk.size)
          have HR3 := hide (And.intro hk (And.intro r3 b3))
          generalize hu3 : u 3 = t3 at *
          generalize hu6 : u 6 = t6 at *
          generalize hu2 : u 2 = t2 at *
          subst f1 e3
          clear z0 z1 z2 z3 hk r3 b3 f3 h3t h6 hvy
          go_wp2_with (first
            | (with_reducible show wpList _ _ _ (Oper.mk _ (Op.call _) _ _ _ _ :: _) _ _
               refine wpList_append_gen rfl _ _ 24 rfl w4.heap.size 37 ie (.agg #[.string ⟨#[]⟩, .int .u64 0, .int .i64 0, .int .i64 0]) Try.underlying24 hie he0 4 40 (by omega) he1 he2 rfl (.slice py k cy) k ((sidX b (all.take k)).flatMap eC) rfl (unhide HYR) ⟨x6, 0, none⟩ 1 1 [Value.string Q.1, .int .u64 Q.2.1, .int .i64 Q.2.2.1, .int .i64 Q.2.2.2] rfl rfl (unhide HNW) (by intro u hu; simp at hu; rcases hu with rfl | rfl | rfl | rfl <;> rfl) (unhide HFIT).1 (unhide HFIT).2 (unhide HBS) ?_))
          intro v9 w9 hown9 hg9 hob9
          have HFIN := hide (show SdI w4 a b all (k + 1) (.slice p3 (k + 1) n3) v9 w9 from by
            obtain ⟨hk, r3, b3⟩ := unhide HR3
            have hx := unhide HSX
            have hlx : ∀ j, (.slice px k cx : Value).ownBlock = some j → j < X.heap.size := fun j hj => (hx.x.lt j hj).2
            have hly : ∀ j, (.slice py k cy : Value).ownBlock = some j → j < X.heap.size := fun j hj => (hx.y.lt j hj).2
            have hks := hk.size
            have hkg := grown_keep hg9
            have hl3 : ∀ j, (.slice p3 (k + 1) n3 : Value).ownBlock = some j → j < Xi.heap.size := fun j hj => (r3.lt j hj).2
            have hn3 : ∀ j, (.slice p3 (k + 1) n3 : Value).ownBlock = some j → ¬ (.slice py k cy : Value).ownBlock = some j := fun j hj hy => by
              rcases b3 with h | h
              · exact hx.dis j (h ▸ hj) hy
              · have := h j hj; have := hly j hy; omega
            obtain ⟨hlt, he⟩ := unhide HK
            have htk : ∀ l : List En, sidX l (all.take (k + 1)) = sidX l (all.take k) ++ [(ofE l e.1).getD e0] := fun l => by
              rw [List.take_succ_eq_append_getElem hlt]
              unfold sidX
              rw [List.map_append, (List.getElem?_eq_some_iff.1 he).2]
              rfl
            obtain ⟨hP, hQ⟩ := unhide HPQ
            refine ⟨?_, ?_, fun j hj hj9 => ?_, ?_⟩
            · rw [htk, ← hP, List.flatMap_append]
              exact ownsV_keep r3 hkg hn3
            · rw [htk, ← hQ, List.flatMap_append]
              exact hown9
            · rcases hob9 with h | h
              · exact hn3 j hj (h ▸ hj9)
              · rw [h] at hj9; simp only [Option.some.injEq] at hj9; have := hl3 j hj; omega
            · have k1 := hk.below hx.low.size (fun j hj => (hx.x.lt j hj).1)
              have k2 := hkg.below (b := w4.heap.size) (Nat.le_trans hx.low.size hks) (fun j hj => (hx.y.lt j hj).1)
              exact (hx.low.trans k1).trans k2)
          clear hown9 hg9 hob9
          obtain ⟨p9, n9, rfl⟩ := ownsV_shape (unhide HFIN).y
          go_wp2_with fail
          refine ⟨⟨k + 1, by go_num, (unhide HK).1, unhide HFIN⟩, ?_⟩
          have := (unhide HK).1
          simp [intOf]
          omega
        · have hke : k = all.length := by omega
          subst hke
          have HSD := hide hsd
          have hge : ¬ (all.length : Int) < (all.length : Int) := by omega
          clear hlt hsd hk
          go_wp2_with fail
          refine bodyPost_ret (v := .tuple #[.slice px all.length cx, .slice py all.length cy, .int .i64 0]) (by simp [results, Try.results19, go_sem]) rfl ?_
          rw [unhide HM]
          have h := unhide HSD
          have hl : ∀ l : List En, (sidX l all).length = all.length := fun l => by unfold sidX; rw [List.length_map]
          exact ⟨_, _, rfl, er_of_own (by rw [hl]; have := h.x; rw [List.take_length] at this; exact this), er_of_own (by rw [hl]; have := h.y; rw [List.take_length] at this; exact this), fun j hj => Nat.le_trans (unhide HB4).size (h.x.lt j hj).1, fun j hj => Nat.le_trans (unhide HB4).size (h.y.lt j hj).1, (unhide HB4).trans (h.low.mono (unhide HB4).size)⟩
end Go.Proofs.Ytcjepiihknjeiaa
