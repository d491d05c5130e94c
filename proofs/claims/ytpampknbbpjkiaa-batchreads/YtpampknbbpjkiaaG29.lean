/- Texts of ours, one behind the other: BatRd8. -/
import Derived.Test.YtpampknbbpjkiaaG27
/- Package batch: Read. -/
namespace Go.Proofs.Ytpampknbbpjkiaa
open Go.RowKit

set_option maxRecDepth 20000 in
set_option maxHeartbeats 8000000 in
theorem bread_any (s : Value) (b : List UInt8) (w : World) (hs : Row w s b) (hroom : b.length ≤ 140737488351232) :
    Calls Try.prog 27 #[s] w fun x w' => ∃ v, x = .returned (.tuple #[.agg (rcdA (readF10 b).1 v), .int .i64 (readF10 b).2]) ∧ CL w' v (readF10 b).1.chg ∧ Below w.heap.size w w' := by
  obtain ⟨sp, sc, sl, hsh, hsl⟩ := hs.shape
  obtain ⟨o, ho⟩ : ∃ o, o = Obj.cells #[.int .i64 0, .int .u64 0, .slice none 0 0, .int .u64 0, .int .i64 0, .int .i64 0, .int .i64 0] 39 := ⟨_, rfl⟩
  obtain ⟨o1, ho1⟩ : ∃ o1, o1 = Obj.cells #[s, .int .i64 0, .int .i64 0] 86 := ⟨_, rfl⟩
  have hb0 : Below w.heap.size w ((w.alloc o).alloc o1) := ((Below.refl _ _).alloc (Nat.le_refl _) _).alloc (by simp) _
  have hrd : Rd 86 ((w.alloc o).alloc o1) (w.heap.size + 1) s b 0 0 := by
    refine ⟨⟨0, by unfold At3; rw [ho1]; exact alloc_new' (by simp) _, fun _ => rfl, by omega, by omega⟩, hs.below hb0, fun bb off c e hb => ?_, hroom, fun _ => by omega⟩
    obtain ⟨b', off', cap, e1, _, _, hc⟩ := hs.open hb
    rw [e] at e1
    simp only [Value.slice.injEq, Option.some.injEq, Addr.mk.injEq, and_true] at e1
    obtain ⟨⟨rfl, rfl⟩, _⟩ := e1
    have : bb < w.heap.size := World.block_lt_of_cell? w _ (hc 0 (List.length_pos_iff.2 hb))
    omega
  have hr0 : ((w.alloc o).alloc o1).heap[w.heap.size]? = some o := (alloc_old (by simp) o1).trans (alloc_new w o)
  have hs0 : ((w.alloc o).alloc o1).heap.size = w.heap.size + 2 := by simp
  have HRC := hide (brecord_any (w.heap.size + 1) 0 0 s b _ hrd)
  have HB0 := hide hb0
  have HR0 := hide hr0
  have HS0 := hide hs0
  rw [ho, ho1] at HRC HB0 HR0 HS0
  have hRF : readF10 b = if (rcdF b 0 0).2.2 ≠ 0 then (zeroRcd, (rcdF b 0 0).2.2) else if (rcdF b 0 0).2.1 < b.length ∨ mayRcd (rcdF b 0 0).1 = false then (zeroRcd, 11) else ((rcdF b 0 0).1, 0) := rfl
  have hkd := rcd_kind b 0 0
  generalize readF10 b = RF at *
  generalize rcdF b 0 0 = RS at *
  obtain ⟨R, P, E⟩ := RS
  obtain ⟨R9, E9⟩ := RF
  simp only at HRC hRF hkd ⊢
  have HRF := hide hRF
  have HKD := hide hkd
  subst hsh
  subst hsl
  clear hRF hkd hrd hb0 hr0 hs0 hs ho ho1
  go_enter Try.func27, Try.ntmps27
  go_wp2_with fail
  refine Calls.mono (unhide HRC) ?_
  rintro x w1 ⟨v, rfl, hvs, hcl, r1, k1⟩
  obtain ⟨vp, vc, rfl, _⟩ := KRow.shape hcl
  have hs1 := k1.size
  rw [unhide HS0] at hs1
  obtain ⟨kind, seq, L, mser, frm, to, n⟩ := R
  unfold rcdA
  simp only at hcl hvs
  have hb2 : ∀ o, Below w1.heap.size w1 (w1.alloc o) := fun o => (Below.refl _ _).alloc (Nat.le_refl _) o
  have hbw1 : Below w.heap.size w w1 := (unhide HB0).trans (k1.below (by rw [unhide HS0]; omega) (fun q hq => by omega))
  have B1 : RB w (w1.alloc (.cells #[.int .i64 kind, .int .u64 (seq : Int), .slice vp L.length vc, .int .u64 (mser : Int), .int .i64 frm, .int .i64 to, .int .i64 n] 39)) w1.heap.size (.slice sp b.length sc) b P E ⟨kind, seq, L, mser, frm, to, n⟩ (.slice vp L.length vc) := by
    refine ⟨r1.below (hb2 _), ((hb2 _).block _ (by omega)).trans ((k1.block _ (by rw [unhide HS0]; omega) (by omega)).trans (unhide HR0)), alloc_new _ _, hbw1.trans ((hb2 _).mono hbw1.size), hcl.below (hb2 _), by omega, fun bb off c e hl => ?_⟩
    have := hvs bb off c e hl
    rw [unhide HS0] at this
    omega
  obtain ⟨a, h3, ha, ha1, ha2⟩ := B1.rd.at3
  have HLF := hide (bleft_any (w.heap.size + 1) a E (.slice sp b.length sc) b.length _ ⟨_, _, rfl⟩ h3)
  have HRB := hide B1
  clear B1 h3 hcl hvs r1 k1 hb2 hbw1 HRC HB0 HR0 HS0
  by_cases hL : a < (b.length : Int)
  · by_cases hE : E = 0
    · subst hE
      obtain rfl : a = P := ha rfl
      have hx := unhide HRF
      rw [if_neg (by simp), if_pos (Or.inl hL)] at hx
      obtain ⟨rfl, rfl⟩ : R9 = zeroRcd ∧ E9 = 11 := ⟨(Prod.mk.inj hx).1, (Prod.mk.inj hx).2⟩
      simp only
      clear hx HRF
      rw [decide_eq_true hL] at HLF
      go_wp2_with fail
      refine Calls.mono (unhide HLF) ?_
      rintro x w2 ⟨rfl, b2⟩
      have B2 := (unhide HRB).below b2
      clear HRB b2 HLF
      have hLx := hide hL
      clear hL ha ha1 ha2
      have hct := brefuse_any (w.heap.size + 1) a 0 11 _ b _ B2.rd (by omega)
      rw [if_pos rfl] at hct
      have HCT := hide hct
      have HRB := hide B2
      clear B2 hct
      go_wp2_with fail
      refine Calls.mono (unhide HCT) ?_
      rintro x w4 ⟨rfl, r4, k4⟩
      have B4 := (unhide HRB).refused r4 k4
      clear r4 k4 HCT HRB
      obtain ⟨a4, h34, _⟩ := B4.rd.at3
      obtain ⟨c0, c1, c2, fz4⟩ := h34.cells
      obtain ⟨e0, e1, e2, e3, e4, e5, e6⟩ := seven_cells B4.res
      have fz : ∀ j, w4.frozen? ⟨w.heap.size, j, none⟩ = false := fun j => frozen_of_block B4.res
      have g0 := fz 0
      have g1 := fz 1
      have g2 := fz 2
      have g3 := fz 3
      have g4 := fz 4
      have g5 := fz 5
      have g6 := fz 6
      have HF := hide (B4.fin (((((((keep_set (w := w4) (g := w.heap.size) (j := 0) (v := .int .i64 0)).trans (keep_set (g := w.heap.size) (j := 1) (v := .int .u64 0)) (fun _ h => Or.inl h)).trans (keep_set (g := w.heap.size) (j := 2) (v := .slice none 0 0)) (fun _ h => Or.inl h)).trans (keep_set (g := w.heap.size) (j := 3) (v := .int .u64 0)) (fun _ h => Or.inl h)).trans (keep_set (g := w.heap.size) (j := 4) (v := .int .i64 0)) (fun _ h => Or.inl h)).trans (keep_set (g := w.heap.size) (j := 5) (v := .int .i64 0)) (fun _ h => Or.inl h)).trans (keep_set (g := w.heap.size) (j := 6) (v := .int .i64 0)) (fun _ h => Or.inl h))).1.drew
      clear B4 h34 fz fz4
      go_wp2_with fail
      go_region_with (fail)
      all_goals
        go_wp2
        try simp only [List.getElem_toArray, List.getElem_cons_succ, List.getElem_cons_zero, Act.put, List.setIfInBounds_toArray, List.set_cons_zero, List.set_cons_succ]
        refine bodyPost_ret (v := .tuple #[.agg #[.int .i64 0, .int .u64 0, .slice none 0 0, .int .u64 0, .int .i64 0, .int .i64 0, .int .i64 0], .int .i64 11]) (by simp [results, Try.results27, go_sem, *]) rfl ⟨.slice none 0 0, rfl, CL.nil _, unhide HF⟩
    · have hE1 : (E == 0) = false := by simp [hE]
      have hE2 : (E != 0) = true := by simp [hE]
      have hx := unhide HRF
      rw [if_pos hE] at hx
      obtain ⟨rfl, rfl⟩ : R9 = zeroRcd ∧ E = E9 := ⟨(Prod.mk.inj hx).1, (Prod.mk.inj hx).2.symm⟩
      simp only
      clear hx HRF
      rw [decide_eq_true hL] at HLF
      go_wp2_with fail
      refine Calls.mono (unhide HLF) ?_
      rintro x w2 ⟨rfl, b2⟩
      have B2 := (unhide HRB).below b2
      clear HRB b2 HLF
      clear hL ha ha1 ha2
      have hct := brefuse_any (w.heap.size + 1) P E 11 _ b _ B2.rd (by omega)
      rw [if_neg hE] at hct
      have HCT := hide hct
      have HRB := hide B2
      clear B2 hct
      go_wp2_with fail
      refine Calls.mono (unhide HCT) ?_
      rintro x w4 ⟨rfl, r4, k4⟩
      have B4 := (unhide HRB).refused r4 k4
      clear r4 k4 HCT HRB
      clear hE
      obtain ⟨a4, h34, _⟩ := B4.rd.at3
      obtain ⟨c0, c1, c2, fz4⟩ := h34.cells
      obtain ⟨e0, e1, e2, e3, e4, e5, e6⟩ := seven_cells B4.res
      have fz : ∀ j, w4.frozen? ⟨w.heap.size, j, none⟩ = false := fun j => frozen_of_block B4.res
      have g0 := fz 0
      have g1 := fz 1
      have g2 := fz 2
      have g3 := fz 3
      have g4 := fz 4
      have g5 := fz 5
      have g6 := fz 6
      have HF := hide (B4.fin (((((((keep_set (w := w4) (g := w.heap.size) (j := 0) (v := .int .i64 0)).trans (keep_set (g := w.heap.size) (j := 1) (v := .int .u64 0)) (fun _ h => Or.inl h)).trans (keep_set (g := w.heap.size) (j := 2) (v := .slice none 0 0)) (fun _ h => Or.inl h)).trans (keep_set (g := w.heap.size) (j := 3) (v := .int .u64 0)) (fun _ h => Or.inl h)).trans (keep_set (g := w.heap.size) (j := 4) (v := .int .i64 0)) (fun _ h => Or.inl h)).trans (keep_set (g := w.heap.size) (j := 5) (v := .int .i64 0)) (fun _ h => Or.inl h)).trans (keep_set (g := w.heap.size) (j := 6) (v := .int .i64 0)) (fun _ h => Or.inl h))).1.drew
      clear B4 h34 fz fz4
      go_wp2_with fail
      go_region_with (fail)
      all_goals
        go_wp2
        try simp only [List.getElem_toArray, List.getElem_cons_succ, List.getElem_cons_zero, Act.put, List.setIfInBounds_toArray, List.set_cons_zero, List.set_cons_succ]
        refine bodyPost_ret (v := .tuple #[.agg #[.int .i64 0, .int .u64 0, .slice none 0 0, .int .u64 0, .int .i64 0, .int .i64 0, .int .i64 0], .int .i64 E]) (by simp [results, Try.results27, go_sem, *]) rfl ⟨.slice none 0 0, rfl, CL.nil _, unhide HF⟩
  · cases hM : mayRcd ⟨kind, seq, L, mser, frm, to, n⟩ with
    | false =>
      by_cases hE : E = 0
      · subst hE
        obtain rfl : a = P := ha rfl
        have hx := unhide HRF
        rw [if_neg (by simp), if_pos (Or.inr hM)] at hx
        obtain ⟨rfl, rfl⟩ : R9 = zeroRcd ∧ E9 = 11 := ⟨(Prod.mk.inj hx).1, (Prod.mk.inj hx).2⟩
        simp only
        clear hx HRF
        rw [decide_eq_false hL] at HLF
        go_wp2_with fail
        refine Calls.mono (unhide HLF) ?_
        rintro x w2 ⟨rfl, b2⟩
        have B2 := (unhide HRB).below b2
        clear HRB b2 HLF
        clear hL ha ha1 ha2
        have hmm := bmay_any ⟨kind, seq, L, mser, frm, to, n⟩ (.slice vp L.length vc) w2 B2.cl (by have := unhide HKD; simp only; omega) (by have := unhide HKD; simp only; omega)
        rw [hM] at hmm
        have HMM := hide hmm
        obtain ⟨v0, v1, v2, v3, v4, v5, v6⟩ := seven_cells B2.var
        have HRB := hide B2
        unfold rcdA at HMM
        clear hmm B2
        go_wp2_with fail
        refine Calls.mono (unhide HMM) ?_
        rintro x w3 ⟨rfl, b3⟩
        have B2 := (unhide HRB).below b3
        clear HRB b3 HMM v0 v1 v2 v3 v4 v5 v6
        have hct := brefuse_any (w.heap.size + 1) a 0 11 _ b _ B2.rd (by omega)
        rw [if_pos rfl] at hct
        have HCT := hide hct
        have HRB := hide B2
        clear B2 hct
        go_wp2_with fail
        refine Calls.mono (unhide HCT) ?_
        rintro x w4 ⟨rfl, r4, k4⟩
        have B4 := (unhide HRB).refused r4 k4
        clear r4 k4 HCT HRB
        clear hM
        obtain ⟨a4, h34, _⟩ := B4.rd.at3
        obtain ⟨c0, c1, c2, fz4⟩ := h34.cells
        obtain ⟨e0, e1, e2, e3, e4, e5, e6⟩ := seven_cells B4.res
        have fz : ∀ j, w4.frozen? ⟨w.heap.size, j, none⟩ = false := fun j => frozen_of_block B4.res
        have g0 := fz 0
        have g1 := fz 1
        have g2 := fz 2
        have g3 := fz 3
        have g4 := fz 4
        have g5 := fz 5
        have g6 := fz 6
        have HF := hide (B4.fin (((((((keep_set (w := w4) (g := w.heap.size) (j := 0) (v := .int .i64 0)).trans (keep_set (g := w.heap.size) (j := 1) (v := .int .u64 0)) (fun _ h => Or.inl h)).trans (keep_set (g := w.heap.size) (j := 2) (v := .slice none 0 0)) (fun _ h => Or.inl h)).trans (keep_set (g := w.heap.size) (j := 3) (v := .int .u64 0)) (fun _ h => Or.inl h)).trans (keep_set (g := w.heap.size) (j := 4) (v := .int .i64 0)) (fun _ h => Or.inl h)).trans (keep_set (g := w.heap.size) (j := 5) (v := .int .i64 0)) (fun _ h => Or.inl h)).trans (keep_set (g := w.heap.size) (j := 6) (v := .int .i64 0)) (fun _ h => Or.inl h))).1.drew
        clear B4 h34 fz fz4
        go_wp2_with fail
        go_region_with (fail)
        all_goals
          go_wp2
          try simp only [List.getElem_toArray, List.getElem_cons_succ, List.getElem_cons_zero, Act.put, List.setIfInBounds_toArray, List.set_cons_zero, List.set_cons_succ]
          refine bodyPost_ret (v := .tuple #[.agg #[.int .i64 0, .int .u64 0, .slice none 0 0, .int .u64 0, .int .i64 0, .int .i64 0, .int .i64 0], .int .i64 11]) (by simp [results, Try.results27, go_sem, *]) rfl ⟨.slice none 0 0, rfl, CL.nil _, unhide HF⟩
      · have hE1 : (E == 0) = false := by simp [hE]
        have hE2 : (E != 0) = true := by simp [hE]
        have hx := unhide HRF
        rw [if_pos hE] at hx
        obtain ⟨rfl, rfl⟩ : R9 = zeroRcd ∧ E = E9 := ⟨(Prod.mk.inj hx).1, (Prod.mk.inj hx).2.symm⟩
        simp only
        clear hx HRF
        rw [decide_eq_false hL] at HLF
        go_wp2_with fail
        refine Calls.mono (unhide HLF) ?_
        rintro x w2 ⟨rfl, b2⟩
        have B2 := (unhide HRB).below b2
        clear HRB b2 HLF
        clear hL ha ha1 ha2
        have hmm := bmay_any ⟨kind, seq, L, mser, frm, to, n⟩ (.slice vp L.length vc) w2 B2.cl (by have := unhide HKD; simp only; omega) (by have := unhide HKD; simp only; omega)
        rw [hM] at hmm
        have HMM := hide hmm
        obtain ⟨v0, v1, v2, v3, v4, v5, v6⟩ := seven_cells B2.var
        have HRB := hide B2
        unfold rcdA at HMM
        clear hmm B2
        go_wp2_with fail
        refine Calls.mono (unhide HMM) ?_
        rintro x w3 ⟨rfl, b3⟩
        have B2 := (unhide HRB).below b3
        clear HRB b3 HMM v0 v1 v2 v3 v4 v5 v6
        have hct := brefuse_any (w.heap.size + 1) P E 11 _ b _ B2.rd (by omega)
        rw [if_neg hE] at hct
        have HCT := hide hct
        have HRB := hide B2
        clear B2 hct
        go_wp2_with fail
        refine Calls.mono (unhide HCT) ?_
        rintro x w4 ⟨rfl, r4, k4⟩
        have B4 := (unhide HRB).refused r4 k4
        clear r4 k4 HCT HRB
        clear hE hM
        obtain ⟨a4, h34, _⟩ := B4.rd.at3
        obtain ⟨c0, c1, c2, fz4⟩ := h34.cells
        obtain ⟨e0, e1, e2, e3, e4, e5, e6⟩ := seven_cells B4.res
        have fz : ∀ j, w4.frozen? ⟨w.heap.size, j, none⟩ = false := fun j => frozen_of_block B4.res
        have g0 := fz 0
        have g1 := fz 1
        have g2 := fz 2
        have g3 := fz 3
        have g4 := fz 4
        have g5 := fz 5
        have g6 := fz 6
        have HF := hide (B4.fin (((((((keep_set (w := w4) (g := w.heap.size) (j := 0) (v := .int .i64 0)).trans (keep_set (g := w.heap.size) (j := 1) (v := .int .u64 0)) (fun _ h => Or.inl h)).trans (keep_set (g := w.heap.size) (j := 2) (v := .slice none 0 0)) (fun _ h => Or.inl h)).trans (keep_set (g := w.heap.size) (j := 3) (v := .int .u64 0)) (fun _ h => Or.inl h)).trans (keep_set (g := w.heap.size) (j := 4) (v := .int .i64 0)) (fun _ h => Or.inl h)).trans (keep_set (g := w.heap.size) (j := 5) (v := .int .i64 0)) (fun _ h => Or.inl h)).trans (keep_set (g := w.heap.size) (j := 6) (v := .int .i64 0)) (fun _ h => Or.inl h))).1.drew
        clear B4 h34 fz fz4
        go_wp2_with fail
        go_region_with (fail)
        all_goals
          go_wp2
          try simp only [List.getElem_toArray, List.getElem_cons_succ, List.getElem_cons_zero, Act.put, List.setIfInBounds_toArray, List.set_cons_zero, List.set_cons_succ]
          refine bodyPost_ret (v := .tuple #[.agg #[.int .i64 0, .int .u64 0, .slice none 0 0, .int .u64 0, .int .i64 0, .int .i64 0, .int .i64 0], .int .i64 E]) (by simp [results, Try.results27, go_sem, *]) rfl ⟨.slice none 0 0, rfl, CL.nil _, unhide HF⟩
    | true =>
      by_cases hE : E = 0
      · subst hE
        obtain rfl : a = P := ha rfl
        have hx := unhide HRF
        rw [if_neg (by simp), if_neg (by rw [hM]; simp; omega)] at hx
        obtain ⟨rfl, rfl⟩ : R9 = ⟨kind, seq, L, mser, frm, to, n⟩ ∧ E9 = 0 := ⟨(Prod.mk.inj hx).1, (Prod.mk.inj hx).2⟩
        simp only
        clear hx HRF
        rw [decide_eq_false hL] at HLF
        go_wp2_with fail
        refine Calls.mono (unhide HLF) ?_
        rintro x w2 ⟨rfl, b2⟩
        have B2 := (unhide HRB).below b2
        clear HRB b2 HLF
        clear hL ha ha1 ha2
        have hmm := bmay_any ⟨kind, seq, L, mser, frm, to, n⟩ (.slice vp L.length vc) w2 B2.cl (by have := unhide HKD; simp only; omega) (by have := unhide HKD; simp only; omega)
        rw [hM] at hmm
        have HMM := hide hmm
        obtain ⟨v0, v1, v2, v3, v4, v5, v6⟩ := seven_cells B2.var
        have HRB := hide B2
        unfold rcdA at HMM
        clear hmm B2
        go_wp2_with fail
        refine Calls.mono (unhide HMM) ?_
        rintro x w3 ⟨rfl, b3⟩
        have B2 := (unhide HRB).below b3
        clear HRB b3 HMM v0 v1 v2 v3 v4 v5 v6
        have B4 := B2
        clear hM B2
        obtain ⟨a4, h34, _⟩ := B4.rd.at3
        obtain ⟨c0, c1, c2, fz4⟩ := h34.cells
        obtain ⟨e0, e1, e2, e3, e4, e5, e6⟩ := seven_cells B4.res
        obtain ⟨v0, v1, v2, v3, v4, v5, v6⟩ := seven_cells B4.var
        have fz : ∀ j, w3.frozen? ⟨w.heap.size, j, none⟩ = false := fun j => frozen_of_block B4.res
        have g0 := fz 0
        have g1 := fz 1
        have g2 := fz 2
        have g3 := fz 3
        have g4 := fz 4
        have g5 := fz 5
        have g6 := fz 6
        have hhg := B4.hge
        have n1 : ¬ w1.heap.size = w.heap.size := by omega
        have n2 : ¬ w.heap.size = w1.heap.size := by omega
        have HF := hide (B4.fin (((((((keep_set (w := w3) (g := w.heap.size) (j := 0) (v := .int .i64 kind)).trans (keep_set (g := w.heap.size) (j := 1) (v := .int .u64 (seq : Int))) (fun _ h => Or.inl h)).trans (keep_set (g := w.heap.size) (j := 2) (v := .slice vp L.length vc)) (fun _ h => Or.inl h)).trans (keep_set (g := w.heap.size) (j := 3) (v := .int .u64 (mser : Int))) (fun _ h => Or.inl h)).trans (keep_set (g := w.heap.size) (j := 4) (v := .int .i64 frm)) (fun _ h => Or.inl h)).trans (keep_set (g := w.heap.size) (j := 5) (v := .int .i64 to)) (fun _ h => Or.inl h)).trans (keep_set (g := w.heap.size) (j := 6) (v := .int .i64 n)) (fun _ h => Or.inl h)))
        clear B4 h34 fz fz4 hhg
        go_wp2
        refine bodyPost_ret (v := .tuple #[.agg #[.int .i64 kind, .int .u64 (seq : Int), .slice vp L.length vc, .int .u64 (mser : Int), .int .i64 frm, .int .i64 to, .int .i64 n], .int .i64 0]) (by simp [results, Try.results27, go_sem, *]) rfl ⟨.slice vp L.length vc, rfl, (unhide HF).2, (unhide HF).1⟩
      · have hE1 : (E == 0) = false := by simp [hE]
        have hE2 : (E != 0) = true := by simp [hE]
        have hx := unhide HRF
        rw [if_pos hE] at hx
        obtain ⟨rfl, rfl⟩ : R9 = zeroRcd ∧ E = E9 := ⟨(Prod.mk.inj hx).1, (Prod.mk.inj hx).2.symm⟩
        simp only
        clear hx HRF
        rw [decide_eq_false hL] at HLF
        go_wp2_with fail
        refine Calls.mono (unhide HLF) ?_
        rintro x w2 ⟨rfl, b2⟩
        have B2 := (unhide HRB).below b2
        clear HRB b2 HLF
        clear hL ha ha1 ha2
        have hmm := bmay_any ⟨kind, seq, L, mser, frm, to, n⟩ (.slice vp L.length vc) w2 B2.cl (by have := unhide HKD; simp only; omega) (by have := unhide HKD; simp only; omega)
        rw [hM] at hmm
        have HMM := hide hmm
        obtain ⟨v0, v1, v2, v3, v4, v5, v6⟩ := seven_cells B2.var
        have HRB := hide B2
        unfold rcdA at HMM
        clear hmm B2
        go_wp2_with fail
        refine Calls.mono (unhide HMM) ?_
        rintro x w3 ⟨rfl, b3⟩
        have B2 := (unhide HRB).below b3
        clear HRB b3 HMM v0 v1 v2 v3 v4 v5 v6
        have B4 := B2
        clear hE hM B2
        obtain ⟨a4, h34, _⟩ := B4.rd.at3
        obtain ⟨c0, c1, c2, fz4⟩ := h34.cells
        obtain ⟨e0, e1, e2, e3, e4, e5, e6⟩ := seven_cells B4.res
        have fz : ∀ j, w3.frozen? ⟨w.heap.size, j, none⟩ = false := fun j => frozen_of_block B4.res
        have g0 := fz 0
        have g1 := fz 1
        have g2 := fz 2
        have g3 := fz 3
        have g4 := fz 4
        have g5 := fz 5
        have g6 := fz 6
        have HF := hide (B4.fin (((((((keep_set (w := w3) (g := w.heap.size) (j := 0) (v := .int .i64 0)).trans (keep_set (g := w.heap.size) (j := 1) (v := .int .u64 0)) (fun _ h => Or.inl h)).trans (keep_set (g := w.heap.size) (j := 2) (v := .slice none 0 0)) (fun _ h => Or.inl h)).trans (keep_set (g := w.heap.size) (j := 3) (v := .int .u64 0)) (fun _ h => Or.inl h)).trans (keep_set (g := w.heap.size) (j := 4) (v := .int .i64 0)) (fun _ h => Or.inl h)).trans (keep_set (g := w.heap.size) (j := 5) (v := .int .i64 0)) (fun _ h => Or.inl h)).trans (keep_set (g := w.heap.size) (j := 6) (v := .int .i64 0)) (fun _ h => Or.inl h))).1.drew
        clear B4 h34 fz fz4
        go_wp2_with fail
        go_region_with (fail)
        all_goals
          go_wp2
          try simp only [List.getElem_toArray, List.getElem_cons_succ, List.getElem_cons_zero, Act.put, List.setIfInBounds_toArray, List.set_cons_zero, List.set_cons_succ]
          refine bodyPost_ret (v := .tuple #[.agg #[.int .i64 0, .int .u64 0, .slice none 0 0, .int .u64 0, .int .i64 0, .int .i64 0, .int .i64 0], .int .i64 E]) (by simp [results, Try.results27, go_sem, *]) rfl ⟨.slice none 0 0, rfl, CL.nil _, unhide HF⟩
end Go.Proofs.Ytpampknbbpjkiaa
