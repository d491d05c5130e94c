/- The walk of the statement 'ThreadRings'. -/
import Derived.Test.YtegefnchkgkmgaaG19
import Derived.Test.YtegefnchkgkmgaaG21
import Derived.Test.YtegefnchkgkmgaaG23
import Derived.Test.YtegefnchkgkmgaaG24
import Derived.Test.YtegefnchkgkmgaaG26
import Derived.Test.YtegefnchkgkmgaaG31
import Derived.Test.YtegefnchkgkmgaaG33
namespace Go.Proofs.Ytegefnchkgkmgaa
open Go.RowKit

theorem forty (x : Int) : ∃ q : Nat, wrap64 ((IntKind.u64.wrap x).tmod 40) = (q : Int) ∧ q < 40 := by
  have h0 : 0 ≤ IntKind.u64.wrap x := by rw [IntKind.wrap_u64]; omega
  refine ⟨(IntKind.u64.wrap x % 40).toNat, ?_, by omega⟩
  rw [Int.tmod_eq_emod_of_nonneg h0]
  have h1 : 0 ≤ IntKind.u64.wrap x % 40 := by omega
  have h2 : IntKind.u64.wrap x % 40 < 40 := by omega
  generalize IntKind.u64.wrap x % 40 = y at *
  unfold wrap64
  omega
theorem rest_of (x : Int) (n : Nat) (hn : 0 < n) (hn2 : n ≤ 40) : ∃ j : Nat, wrap64 ((IntKind.u64.wrap x).tmod (n : Int)) = (j : Int) ∧ j < n := by
  have h0 : 0 ≤ IntKind.u64.wrap x := by rw [IntKind.wrap_u64]; omega
  have h1 := Int.emod_nonneg (IntKind.u64.wrap x) (show (n : Int) ≠ 0 by omega)
  have h2 := Int.emod_lt_of_pos (IntKind.u64.wrap x) (show (0 : Int) < (n : Int) by omega)
  refine ⟨(IntKind.u64.wrap x % (n : Int)).toNat, ?_, by omega⟩
  rw [Int.tmod_eq_emod_of_nonneg h0]
  generalize IntKind.u64.wrap x % (n : Int) = y at *
  unfold wrap64
  omega

set_option maxRecDepth 20000 in
set_option maxHeartbeats 4000000 in
theorem rings_any (x : Int) (v : Value) (steps : List Int) (root : Int) (w : World) (hv : VRow w v (Iw steps)) (hl : steps.length < 35184372088832) :
    Calls Try.prog 8 #[.int .i64 x, v, .int .i64 root] w fun e w' => e = .returned (.bool true) ∧ Below w.heap.size w w' := by
  obtain ⟨q, hq, hq2⟩ := forty x
  have hqw : IntKind.i64.wrap (1 + (q : Int)) = 1 + (q : Int) := by rw [IntKind.wrap_i64]; omega
  obtain ⟨n, hn⟩ : ∃ n : Nat, n = 1 + q := ⟨_, rfl⟩
  have hnq : 1 + (q : Int) = (n : Int) := by rw [hn]; rfl
  have hn1 : 0 < n ∧ n ≤ 40 := by omega
  rw [hnq] at hqw
  have HRG := hide (lring_any v steps n w hv hl hn1.1 (by omega))
  obtain ⟨j, hj, hj2⟩ := rest_of root n hn1.1 hn1.2
  have hnu : IntKind.u64.wrap (n : Int) = (n : Int) := by rw [IntKind.wrap_u64]; omega
  have hn0 : ¬ (n : Int) = 0 := by omega
  have hnz : ¬ n = 0 := by omega
  obtain ⟨a, cap, rfl, g1, g2, g3⟩ := hv.shape
  have hlr : (Iw steps).length = steps.length := by simp
  rw [hlr] at HRG ⊢
  have HN := hide hn1
  obtain ⟨st, hst⟩ : ∃ st, st = steps.take 3 := ⟨_, rfl⟩
  have hsl : st.length = min 3 steps.length := by rw [hst, List.length_take]
  rw [← hst] at HRG
  obtain ⟨p, hp⟩ : ∃ p, p = st.length := ⟨_, rfl⟩
  have HP := hide (show p = st.length ∧ p ≤ 3 ∧ p = min 3 steps.length by omega)
  have HJ := hide hj2
  clear hv hl g1 g2 g3 hlr hst hsl hp hn hn1 hq2 hj2
  go_enter Try.func8, Try.ntmps8
  go_wp2_with fail
  try rw [hnq]
  refine Calls.mono (unhide HRG) ?_
  rintro e w1 ⟨r, rfl, hr, b1⟩
  obtain ⟨pr, cr, rfl⟩ := ownsV_shape hr
  have HR := hide (vrow_of_owns (vs := Uw (rgW n st)) (s := .slice pr (rgW n st).length cr) (by simpa [Uw] using hr))
  have HB1 := hide b1
  clear hr b1 HRG
  have hmin : min (steps.length : Int) 3 = (p : Int) := by have := unhide HP; omega
  obtain ⟨sz, hsz0⟩ : ∃ sz, sz = 2 + p := ⟨_, rfl⟩
  have hn40 := (unhide HN).2
  have hp3 := (unhide HP).2.1
  have hps := (unhide HP).1
  have hjn := unhide HJ
  have hsz1 : 2 + (p : Int) = (sz : Int) := by omega
  have hsz : IntKind.i64.wrap (sz : Int) = (sz : Int) := by rw [IntKind.wrap_i64]; omega
  obtain ⟨z, hz⟩ : ∃ z : Nat, z = j * sz := ⟨_, rfl⟩
  have hzb : z ≤ 200 := by
    have h1 : j * sz ≤ 40 * 5 := Nat.mul_le_mul (by omega) (by omega)
    omega
  have hzI : (j : Int) * (sz : Int) = (z : Int) := by rw [hz, Int.natCast_mul]
  have hzw : IntKind.i64.wrap (z : Int) = (z : Int) := by rw [IntKind.wrap_i64]; omega
  have hz1w : IntKind.i64.wrap (1 + (z : Int)) = ((1 + z : Nat) : Int) := by rw [IntKind.wrap_i64]; omega
  obtain ⟨t, ht⟩ : ∃ t : Nat, t = n * sz := ⟨_, rfl⟩
  have htb : t ≤ 200 := by
    have h1 : n * sz ≤ 40 * 5 := Nat.mul_le_mul (by omega) (by omega)
    omega
  have htI : (n : Int) * (sz : Int) = (t : Int) := by rw [ht, Int.natCast_mul]
  have htw : IntKind.i64.wrap (t : Int) = (t : Int) := by rw [IntKind.wrap_i64]; omega
  have ht1w : IntKind.i64.wrap (1 + (t : Int)) = ((1 + t : Nat) : Int) := by rw [IntKind.wrap_i64]; omega
  have hlw : (rgW n st).length = 1 + t := by rw [rg_len (by omega), ← hps, ht, hsz0]
  have HU := hide (rg_u32 (n := n) (st := st) hn40)
  have HWL := hide hlw
  have HSZ := hide (show sz ≤ 5 ∧ sz = 2 + st.length by omega)
  obtain ⟨a0, ha0⟩ : ∃ a0 : Nat, a0 = 1 + z := ⟨_, rfl⟩
  rw [← ha0] at hz1w
  have HRO := hide (fun l (h : LivD (rgW n st) [(a0 : Int), (a0 : Int), 0] l) => rings_of (unhide HN).1 hn40 (by omega) hjn (by rw [ha0, hz, hsz0, hps]) h)
  rw [← hps, ← hsz0] at HRO
  obtain ⟨wsg, hwsg⟩ : ∃ u, u = rgW n st := ⟨_, rfl⟩
  rw [← hwsg] at HR HU HRO HWL hlw ⊢
  rw [hlw] at HR ⊢
  have HTB := hide htb
  obtain ⟨tt, htt⟩ : ∃ tt, tt = 1 + t := ⟨_, rfl⟩
  rw [← htt] at HR HWL ht1w ⊢
  have HTT := hide htt
  have hbt : (tt == tt) = true := by simp
  clear hsz0 hn40 hp3 hps hjn hz hzb ht htb hlw ha0 hwsg htt
  go_wp2_with fail
  refine Calls.mono (lawake15_any askC w1) ?_
  rintro e w2 ⟨rfl, b2⟩
  have HB2 := hide ((unhide HB1).trans (b2.mono (unhide HB1).size))
  have HR2 := hide ((unhide HR).below b2)
  clear b2 HR HB1
  have hvn := vrow_new w2 [(a0 : Int), (a0 : Int), 0] 3 (by simp)
  have hbn : Below w2.heap.size w2 (w2.alloc (.cells #[.int .i64 (a0 : Int), .int .i64 (a0 : Int), .int .i64 0] 3)) := (Below.refl _ _).alloc (Nat.le_refl _) _
  have HC := hide (compact_any (.slice pr tt cr) (.slice (some ⟨w2.heap.size, 0, none⟩) 3 3) wsg [(a0 : Int), (a0 : Int), 0] (w2.alloc (.cells #[.int .i64 (a0 : Int), .int .i64 (a0 : Int), .int .i64 0] 3)) ((unhide HR2).below hbn) hvn (unhide HU) (by have := unhide HWL; have := unhide HTB; have := unhide HTT; omega) (by simp))
  have HBN := hide ((unhide HB2).trans (hbn.mono (unhide HB2).size))
  have HRN := hide ((unhide HR2).below hbn)
  clear hvn hbn HR2 HB2
  go_wp2_with fail
  refine Calls.mono (unhide HC) ?_
  rintro e w3 ⟨vo, vr, vp, l, rfl, hli, ⟨ho, hro, hpo⟩, b3⟩
  obtain ⟨r1, r2, r3, r4, r5, r6, r7⟩ := unhide HRO l hli
  rw [r1, show chkE true = 0 from rfl]
  unfold outW at ho
  unfold outR at hro
  unfold outP at hpo
  rw [if_pos r1] at ho hro hpo
  obtain ⟨qa, hqa⟩ : ∃ qa, qa = toA wsg l (a0 : Int) := ⟨_, rfl⟩
  have hcr : cR wsg l [(a0 : Int), (a0 : Int), 0] = [qa, qa, 0] := by
    unfold cR
    simp only [List.map_cons, List.map_nil, ← hqa, toA_none r2.nz]
  rw [hcr] at hro
  have hpl : (posL wsg l).length = l.length := by unfold posL; rw [List.length_map]
  obtain ⟨po, co, rfl⟩ := ownsV_shape ho
  obtain ⟨pr3, cr3, rfl⟩ := ownsV_shape hro
  obtain ⟨pp, cp, rfl⟩ := ownsV_shape hpo
  have HX3 := hide (vrow_of_owns (vs := Uw (cW wsg l)) (s := .slice po (cW wsg l).length co) (by simpa [Uw] using ho))
  have hvr3 := vrow_of_owns (vs := Iw [qa, qa, 0]) (s := .slice pr3 3 cr3) (by simpa [Iw] using hro)
  have HP3 := hide (pr_of_owns hpo)
  have HB3 := hide ((unhide HBN).trans (b3.mono (unhide HBN).size))
  have HS3 := hide ((unhide HRN).below b3)
  have HRT := hide r2
  have HMA := hide r3
  have HTO := hide r5
  have HPP := hide r6
  have HPL := hide hpl
  have HQA := hide hqa
  have hlc : l.length ≤ tt := by have := obs_count wsg l (r2.rise.imp fun {a b} h => by omega) r2.ob; rw [unhide HWL] at this; exact this
  have hXl : (cW wsg l).length = 1 + l.length * sz := r4
  have hxb : (cW wsg l).length ≤ tt := by have := r2.toLiv.all r2.pos; rw [cW_len r2.toLiv]; rw [unhide HWL] at this; exact this
  obtain ⟨b1, o1, z1, e1, _, _, hc1⟩ := hvr3.open (by simp)
  simp only [Value.slice.injEq, List.length_map, List.length_cons, List.length_nil] at e1
  obtain ⟨rfl, e1, rfl⟩ := e1
  have d0 := hc1 0 (.int .i64 qa) (by simp)
  have d1 := hc1 1 (.int .i64 qa) (by simp)
  have d2 := hc1 2 (.int .i64 0) (by simp)
  rw [Nat.add_zero] at d0
  have HFO := hide (fun W (hW : Below w3.heap.size w3 W) (a : Int) => (show Calls Try.prog 17 #[.slice pp (posL wsg l).length cp, .int .i64 a] W fun e w' => e = .returned (.int .i64 (toA wsg l a)) ∧ Below W.heap.size W w' from by
    have := follow_any (.slice pp (posL wsg l).length cp) (posL wsg l) a W ((unhide HP3).below hW) (by rw [hpl]; have := unhide HTT; have := unhide HTB; omega)
    rw [fnd_to] at this
    exact this))
  have HF0 := hide (fun W (hW : Below w3.heap.size w3 W) => unhide HFO W hW (a0 : Int))
  rw [← hqa] at HF0
  have HCA := hide (fun W (hW : Below w3.heap.size w3 W) => And.intro ((hW.cell (World.block_lt_of_cell? _ _ d0)).trans d0) (And.intro ((hW.cell (World.block_lt_of_cell? _ _ d1)).trans d1) ((hW.cell (World.block_lt_of_cell? _ _ d2)).trans d2)))
  obtain ⟨X, hX⟩ : ∃ X, X = (cW wsg l).length := ⟨_, rfl⟩
  have HXE := hide hX
  obtain ⟨m, hm⟩ : ∃ m, m = l.length := ⟨_, rfl⟩
  have HM := hide hm
  obtain ⟨y, hy⟩ : ∃ y : Nat, y = m * sz := ⟨_, rfl⟩
  have hyI : (m : Int) * (sz : Int) = (y : Int) := by rw [hy, Int.natCast_mul]
  have hXy : X = 1 + y := by rw [hX, hXl, ← hm, hy]
  have hyb : y ≤ 200 := by have := unhide HTT; have := unhide HTB; rw [← hX] at hxb; omega
  have hyw : IntKind.i64.wrap (y : Int) = (y : Int) := by rw [IntKind.wrap_i64]; omega
  have hy1w : IntKind.i64.wrap (1 + (y : Int)) = (X : Int) := by rw [IntKind.wrap_i64]; omega
  have HMB := hide (show m ≤ 201 by have := unhide HTT; have := unhide HTB; omega)
  have hqq : (qa == qa) = true := by simp
  have hqn : (qa != qa) = false := by simp
  have hXX : (X == X) = true := by simp
  obtain ⟨CC, hCC⟩ : ∃ CC : World → Prop, CC = fun w' => Below w3.heap.size w3 w' := ⟨_, rfl⟩
  have HC0 : Hid (CC { w3 with drawn := w3.drawn + 1 }) := by rw [hCC]; exact (Below.refl _ _).drew
  have HCW : Hid (∀ w', CC w' → Below w3.heap.size w3 w') := by rw [hCC]; exact fun w' hw => hw
  rw [hpl] at HFO HF0 HP3 ⊢
  rw [← hm] at HFO HF0 HP3 ⊢
  rw [← hX] at HX3 ⊢
  have HCL : Hid (∀ w', CC w' → Calls Try.prog 17 #[.slice pp m cp, .int .i64 (a0 : Int)] w' fun e w'' => e = .returned (.int .i64 qa) ∧ CC w'') := by
    rw [hCC]
    exact fun w' hw => (unhide HF0 w' hw).mono fun e w'' hx => ⟨hx.1, hw.trans (hx.2.mono hw.size)⟩
  clear ho hro hpo hli b3 r1 r2 r3 r4 r5 r6 r7 hcr hpl hvr3 hlc hXl hxb hc1 e1 d0 d1 d2 hX hm hy hXy hyb hCC HF0 HC HRO HRN HBN hqa
  go_wp2_with fail
  try (conv in (Code.region _ _ _) => dsimp only [List.append])
  refine region_calm CC (by kernel_rfl) (by kernel_rfl) (unhide HC0) ?_
  repeat (first
    | go_big_quiet_skip
    | (go_big_quiet_want
       apply Exists.intro
       refine ⟨fun w' hw' => ?_, ?_⟩
       · obtain ⟨c0, c1, c2⟩ := unhide HCA w' (unhide HCW w' hw')
         go_simp
         first | done | rfl | exact unhide HCL w' hw'
       simp only [Act.put, List.setIfInBounds_toArray, List.set_cons_zero, List.set_cons_succ]
       go_big_quiet_on))
  refine wpQuiet_nil ?_
  intro w4 hw4
  have HB4 := hide (unhide HCW w4 hw4)
  clear hw4 HCL HC0 HCW HCA
  go_wp2_with fail
  go_loopw [14] (fun iv wr => ∃ (k : Nat), iv = .int .i64 (k : Int) ∧ k ≤ m ∧ Hid (Below w3.heap.size w3 wr)) (fun iv _ => m - (intOf iv).toNat)
  case atStart => exact ⟨0, rfl, Nat.zero_le _, unhide HB4⟩
  case round =>
    clear HB4
    obtain ⟨i, rfl, hi, hst⟩ := hrel
    rename World => wr
    have hiw : IntKind.i64.wrap ((i : Int) + 1) = (i : Int) + 1 := by have := unhide HMB; rw [IntKind.wrap_i64]; omega
    by_cases hlt : i < m
    · have hiI : (i : Int) < (m : Int) := by omega
      have hiL : i < l.length := by have := unhide HM; omega
      have hml := List.getElem_mem hiL
      obtain ⟨bp, op, zp, e1, hcp⟩ := (unhide HP3).open (by rw [unhide HPL]; omega)
      simp only [Value.slice.injEq] at e1
      obtain ⟨rfl, e1, rfl⟩ := e1
      obtain ⟨d1, d2⟩ := hcp i (by rw [unhide HPL]; exact hiL)
      rw [show (posL wsg l)[i]'(by rw [unhide HPL]; exact hiL) = (l[i], toA wsg l l[i]) by unfold posL; rw [List.getElem_map]] at d1 d2
      dsimp only at d1 d2
      have hti := unhide HTO i hiL
      obtain ⟨u, hu⟩ : ∃ u : Nat, u = i * sz := ⟨_, rfl⟩
      have hub : u ≤ 1005 := by
        have h1 : i * sz ≤ 201 * 5 := Nat.mul_le_mul (by have := unhide HMB; omega) (unhide HSZ).1
        omega
      have huI : (i : Int) * (sz : Int) = (u : Int) := by rw [hu, Int.natCast_mul]
      have huw : IntKind.i64.wrap (u : Int) = (u : Int) := by rw [IntKind.wrap_i64]; omega
      obtain ⟨qn, hqn2⟩ : ∃ qn : Nat, qn = 1 + u := ⟨_, rfl⟩
      have hu1w : IntKind.i64.wrap (1 + (u : Int)) = (qn : Int) := by rw [IntKind.wrap_i64]; omega
      rw [← hu, ← hqn2] at hti
      rw [hti] at d2
      have HCA := hide (fun W (hW : Below w3.heap.size w3 W) => And.intro ((hW.cell (World.block_lt_of_cell? _ _ d1)).trans d1) ((hW.cell (World.block_lt_of_cell? _ _ d2)).trans d2))
      have HA1 := hide (fun W (hW : Below w3.heap.size w3 W) => cat_ob (.slice pr tt cr) wsg l[i] W ((unhide HS3).below hW) (unhide HU) (by have := unhide HWL; have := unhide HTT; have := unhide HTB; omega) ((unhide HRT).ob _ hml))
      have HA2 := hide (fun W (hW : Below w3.heap.size w3 W) => (show Calls Try.prog 26 #[.slice po X co, .int .i64 (qn : Int)] W fun e w' => ∃ p cp d cd, e = .returned (.tuple #[.agg #[.int .i64 (wd wsg l[i].toNat % 16), .slice p (ptsA wsg l[i]).length cp, .slice d (dtA wsg l[i]).length cd], .int .i64 0]) ∧ VRow w' (.slice p (ptsA wsg l[i]).length cp) (Iw ((ptsA wsg l[i]).map (toA wsg l))) ∧ VRow w' (.slice d (dtA wsg l[i]).length cd) (Uw (dtA wsg l[i])) ∧ Below W.heap.size W w' from by
        obtain ⟨t1, t2, t3, t4⟩ := alike_of (unhide HRT) hml
        have := cat_ob _ (cW wsg l) (toA wsg l l[i]) W ((unhide HX3).below hW) (cW_u32 (unhide HRT).toLiv) (by have h1 := (unhide HRT).toLiv.all (unhide HRT).pos; rw [cW_len (unhide HRT).toLiv]; have := (unhide HRT).most; omega) t1
        rw [t2, t3, t4, List.length_map, hti] at this
        exact this))
      have hpc : (ptsA wsg l[i]).length ≤ 255 := by rw [ptsA_len ((unhide HRT).ob _ hml)]; have := ptN_lt (wd wsg l[i].toNat); omega
      have HPZ := hide (unhide HPP _ hml)
      have HLT := hide hlt
      generalize hP : ptsA wsg l[i] = P at *
      generalize dtA wsg l[i] = D at *
      generalize wd wsg l[i].toNat % 16 = K at *
      generalize l[i] = av at *
      obtain ⟨c0, c1⟩ := unhide HCA wr (unhide hst)
      have HBR := hide (unhide hst)
      have HPC := hide hpc
      have hqe : ((qn : Int) == (qn : Int)) = true := by simp
      have hqe2 : (qn == qn) = true := by simp
      clear hcp e1 d1 d2 hlt hi hst hiL hml hpc hti hu hub hqn2 hP
      go_wp2_with fail
      refine Calls.mono (unhide HA1 wr (unhide HBR)) ?_
      rintro e w8 ⟨p8, cp8, d8, cd8, rfl, hvp, hvd, b8⟩
      have hb8 := (unhide HBR).trans (b8.mono (unhide HBR).size)
      obtain ⟨w9, hw9⟩ : ∃ w9, w9 = w8.alloc (.cells #[.int .i64 K, .slice p8 P.length cp8, .slice d8 D.length cd8] 50) := ⟨_, rfl⟩
      have hb89 : Below w8.heap.size w8 w9 := by rw [hw9]; exact (Below.refl _ _).alloc (Nat.le_refl _) _
      have hg9 : w9.heap[w8.heap.size]? = some (.cells #[.int .i64 K, .slice p8 P.length cp8, .slice d8 D.length cd8] 50 (0, 0)) := by rw [hw9]; exact World.alloc_heap_new w8 _
      have hb9 := hb8.trans (hb89.mono hb8.size)
      have HP9 := hide (And.intro (hvp.below hb89) (hvd.below hb89))
      have HG9 := hide hg9
      have HB9 := hide hb9
      obtain ⟨e0, e1⟩ := unhide HCA w9 hb9
      rw [hw9] at e0 e1
      have HW9 := hide hw9
      have HGS := hide (show w8.heap.size < w9.heap.size from (Array.getElem?_eq_some_iff.1 hg9).1)
      clear hvp hvd b8 hb8 hb89 hb9 hg9 c0 c1 HA1 hw9
      go_wp2_with fail
      rw [← unhide HW9]
      refine Calls.mono (unhide HA2 w9 (unhide HB9)) ?_
      clear e0 e1 HW9
      obtain ⟨ga, hga⟩ : ∃ ga, ga = w8.heap.size := ⟨_, rfl⟩
      rw [← hga] at HG9 HGS ⊢
      clear hga
      rintro e w10 ⟨p10, cp10, d10, cd10, rfl, hvp, hvd, b10⟩
      have hb10 := (unhide HB9).trans (b10.mono (unhide HB9).size)
      have hg10 := (b10.block ga (unhide HGS)).trans (unhide HG9)
      have hb1 : Below w10.heap.size w10 (w10.alloc (.cells #[.int .i64 K, .slice p10 P.length cp10, .slice d10 D.length cd10] 50)) := (Below.refl _ _).alloc (Nat.le_refl _) _
      obtain ⟨w11, hw11⟩ : ∃ w11, w11 = w10.alloc (.cells #[.int .i64 K, .slice p10 P.length cp10, .slice d10 D.length cd10] 50) := ⟨_, rfl⟩
      have hg11 : w11.heap[w10.heap.size]? = some (.cells #[.int .i64 K, .slice p10 P.length cp10, .slice d10 D.length cd10] 50 (0, 0)) := by rw [hw11]; exact World.alloc_heap_new w10 _
      rw [← hw11] at hb1
      have hga11 := (hb1.block ga (Array.getElem?_eq_some_iff.1 hg10).1).trans hg10
      have HB11 := hide (hb10.trans (hb1.mono hb10.size))
      have HPD := hide (And.intro (((unhide HP9).1.below b10).below hb1) (And.intro (((unhide HP9).2.below b10).below hb1) (And.intro (hvp.below hb1) (hvd.below hb1))))
      have HGA := hide hga11
      have HGB := hide hg11
      obtain ⟨x0, x1, x2, _⟩ := three_cells hga11
      obtain ⟨y0, y1, y2, _⟩ := three_cells hg11
      rw [hw11] at x0 x1 x2 y0 y1 y2
      obtain ⟨f0, f1⟩ := unhide HCA w11 (unhide HB11)
      rw [hw11] at f0 f1
      have HW11 := hide hw11
      have hkk : (K == K) = true := by simp
      clear hvp hvd b10 hb10 hb1 hg10 hg11 hga11 hw11 HP9 HG9 HB9 HGS HA2
      go_wp2_with fail
      rw [← unhide HW11]
      refine Calls.mono (HU32.plain_any _ _ D w11 (unhide HPD).2.1 (unhide HPD).2.2.2) ?_
      rintro e w12 ⟨rfl, b12⟩
      obtain ⟨gb, hgb⟩ : ∃ gb, gb = w10.heap.size := ⟨_, rfl⟩
      rw [← hgb] at HGB ⊢
      have hga12 := (b12.block ga (Array.getElem?_eq_some_iff.1 (unhide HGA)).1).trans (unhide HGA)
      have hgb12 := (b12.block gb (Array.getElem?_eq_some_iff.1 (unhide HGB)).1).trans (unhide HGB)
      have HPT := hide (And.intro ((unhide HPD).1.below b12) ((unhide HPD).2.2.1.below b12))
      have HB12 := hide ((unhide HB11).trans (b12.mono (unhide HB11).size))
      have HG12 := hide (And.intro hga12 hgb12)
      clear x0 x1 x2 y0 y1 y2 f0 f1
      obtain ⟨x0, x1, x2, _⟩ := three_cells hga12
      obtain ⟨y0, y1, y2, _⟩ := three_cells hgb12
      clear hgb hga12 hgb12 b12 HGA HGB HPD HB11 HW11
      go_wp2_with fail
      go_loopw [19] (fun jv wz => ∃ (j : Nat), jv = .int .i64 (j : Int) ∧ j ≤ P.length ∧ Hid (Below w12.heap.size w12 wz)) (fun jv _ => P.length - (intOf jv).toNat)
      case atStart => exact ⟨0, rfl, Nat.zero_le _, Below.refl _ _⟩
      case round =>
        clear x0 x1 x2 y0 y1 y2
        obtain ⟨j, rfl, hj, hjs⟩ := hrel
        rename World => wz
        have hjw : IntKind.i64.wrap ((j : Int) + 1) = (j : Int) + 1 := by have := unhide HPC; rw [IntKind.wrap_i64]; omega
        obtain ⟨x0, x1, x2, _⟩ := three_cells (((unhide hjs).block ga (Array.getElem?_eq_some_iff.1 (unhide HG12).1).1).trans (unhide HG12).1)
        by_cases hjl : j < P.length
        · have hjI : (j : Int) < (P.length : Int) := by omega
          obtain ⟨z0, z1, z2, _⟩ := three_cells (unhide HG12).1
          obtain ⟨v0, v1, v2, _⟩ := three_cells (unhide HG12).2
          obtain ⟨b5, o5, z5, e5, _, _, hc5⟩ := (unhide HPT).1.open (by intro e; have := congrArg List.length e; simp at this; rw [this] at hjl; simp at hjl)
          simp only [Value.slice.injEq] at e5
          obtain ⟨rfl, e5, rfl⟩ := e5
          obtain ⟨b7, o7, z7, e7, _, _, hc7⟩ := (unhide HPT).2.open (by intro e; have := congrArg List.length e; simp at this; rw [this] at hjl; simp at hjl)
          simp only [Value.slice.injEq] at e7
          obtain ⟨rfl, e7, rfl⟩ := e7
          have d5 := hc5 j (.int .i64 P[j]) (by rw [List.getElem?_map, List.getElem?_eq_getElem hjl]; rfl)
          have d7 := hc7 j (.int .i64 (toA wsg l P[j])) (by rw [List.getElem?_map, List.getElem?_map, List.getElem?_eq_getElem hjl]; rfl)
          have HCB := hide (fun W (hW : Below w12.heap.size w12 W) => And.intro ((hW.cell (World.block_lt_of_cell? _ _ z1)).trans z1) (And.intro ((hW.cell (World.block_lt_of_cell? _ _ v1)).trans v1) (And.intro ((hW.cell (World.block_lt_of_cell? _ _ d5)).trans d5) ((hW.cell (World.block_lt_of_cell? _ _ d7)).trans d7))))
          have HFK := hide (fun W (hW : Below w12.heap.size w12 W) => unhide HFO W ((unhide HB12).trans (hW.mono (unhide HB12).size)) P[j])
          have hqz := unhide HPZ P[j] (List.getElem_mem hjl)
          generalize toA wsg l P[j] = qx at *
          generalize P[j] = px at *
          have HLJ := hide hjl
          have hxx : (qx == qx) = true := by simp
          have hxn : (qx != qx) = false := by simp
          have hq0 : (qx == 0) = false := by simp; omega
          have hqd : decide (qx = 0) = false := decide_eq_false (by omega)
          obtain ⟨CC, hCC⟩ : ∃ CC : World → Prop, CC = fun w' => Below w12.heap.size w12 w' := ⟨_, rfl⟩
          have HC0 : Hid (CC { wz with drawn := wz.drawn + 1 }) := by rw [hCC]; exact (unhide hjs).drew
          have HCW : Hid (∀ w', CC w' → Below w12.heap.size w12 w') := by rw [hCC]; exact fun w' hw => hw
          have HCL : Hid (∀ w', CC w' → Calls Try.prog 17 #[.slice (some ⟨bp, op, none⟩) m cp, .int .i64 px] w' fun e w'' => e = .returned (.int .i64 qx) ∧ CC w'') := by
            rw [hCC]
            exact fun w' hw => (unhide HFK w' hw).mono fun e w'' hx => ⟨hx.1, hw.trans (hx.2.mono hw.size)⟩
          clear hc5 hc7 e5 e7 d5 d7 hjl hjs hj hCC HFK z0 z1 z2 v0 v1 v2
          go_wp2_with fail
          refine region_calm CC (by kernel_rfl) (by kernel_rfl) (unhide HC0) ?_
          repeat (first
            | go_big_quiet_skip
            | (go_big_quiet_want
               apply Exists.intro
               refine ⟨fun w' hw' => ?_, ?_⟩
               · obtain ⟨c0, c1, c2, c3⟩ := unhide HCB w' (unhide HCW w' hw')
                 go_simp
                 first | done | rfl | exact unhide HCL w' hw'
               simp only [Act.put, List.setIfInBounds_toArray, List.set_cons_zero, List.set_cons_succ]
               go_big_quiet_on))
          refine wpQuiet_nil ?_
          intro w' hw'
          have HBW := hide (unhide HCW w' hw')
          clear hw' HCL HC0 HCW HCB x0 x1 x2
          go_wp2_with fail
          go_roundw
          case rel => exact ⟨j + 1, by go_num, unhide HLJ, unhide HBW⟩
          case measure => (have := unhide HLJ; simp [intOf]; omega)
        · have hje : j = P.length := by omega
          subst hje
          have hge : ¬ (P.length : Int) < (P.length : Int) := by omega
          have HBZ := hide ((unhide HB12).trans ((unhide hjs).mono (unhide HB12).size))
          clear hjl hj hjw hjs
          go_wp2_with fail
          go_roundw
          case rel => exact ⟨i + 1, by go_num, unhide HLT, unhide HBZ⟩
          case measure => (have := unhide HLT; simp [intOf]; omega)
    · have hke : i = m := by omega
      subst hke
      have hge : ¬ (i : Int) < (i : Int) := by omega
      have HBW := hide ((unhide HB3).trans ((unhide hst).mono (unhide HB3).size))
      clear hlt hi hiw hst
      go_wp2_with fail
      go_ret
      exact ⟨rfl, unhide HBW⟩

theorem walk_ThreadRings (a0 : Int) (_w0 : (Lit.int .i64 a0).wf = true) (s1 : Value) (d1 : Dt) (a2 : Int) (_w2 : (Lit.int .i64 a2).wf = true) (w : World) (h1 : Reads limSaid w (.row 8 (.int .i64)) [s1] d1) :
    Calls Try.prog 8 #[.int .i64 a0, s1, .int .i64 a2] w fun e w' => e = .returned (.bool true) ∧ Below w.heap.size w w' := by
  obtain ⟨rs, r1, l1, u1⟩ := nums_of_reads h1
  unfold limSaid reachBytes at l1
  exact rings_any a0 s1 rs a2 w r1 (by omega)
end Go.Proofs.Ytegefnchkgkmgaa
