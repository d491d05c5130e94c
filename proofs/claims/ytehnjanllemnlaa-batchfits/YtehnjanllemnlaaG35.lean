/- Texts of ours, one behind the other: BatchBackWalk, BatFit. -/
import Derived.Test.YtehnjanllemnlaaG11
import Derived.Test.YtehnjanllemnlaaG16
import Derived.Test.YtehnjanllemnlaaG24
import Derived.Test.YtehnjanllemnlaaG29
/- The walk of the law BatchBack, of the landed package batch. -/
namespace Go.Proofs.Ytehnjanllemnlaa
open Go.RowKit

theorem varF_small (f x n : Nat) (h : x < 128 ^ n) (hn : 0 < n) (hf : n ≤ f + 1) : (varF f x).length ≤ n := by
  induction n generalizing f x with
  | zero => omega
  | succ n ih =>
    by_cases hx : x < 128
    · rw [varF_stop f x hx]; simp
    · cases f with
      | zero =>
        have : (varF 0 x).length ≤ 1 := by have := (varF_len 0 x).2; omega
        omega
      | succ f =>
        have hn0 : 0 < n := by
          rcases Nat.eq_zero_or_pos n with rfl | h0
          · simp at h; omega
          · exact h0
        rw [varF_go f x (by omega), List.length_cons]
        have := ih f (x / 128) (Nat.div_lt_of_lt_mul (by rw [Nat.pow_succ, Nat.mul_comm] at h; exact h)) hn0 (by omega)
        omega
theorem chg_size (c : Chg) (h : mayChg c = true) : (chgB c).length ≤ 82 := by
  unfold mayChg kmayB at h
  simp only [Bool.and_eq_true, decide_eq_true_eq] at h
  obtain ⟨⟨_, k2⟩, hr⟩ := h
  rw [← bl_len] at k2
  have e1 := varF_small 9 c.key.toList.length 1 (by omega) (by omega) (by omega)
  have e2 := (varF_len 9 c.ser).2
  unfold chgB
  split at hr
  · rename_i hd
    rw [if_pos hd]
    simp only [List.length_append, List.length_cons, List.length_nil]
    omega
  · rename_i hd
    rw [if_neg hd]
    simp only [mayRef, Bool.and_eq_true, decide_eq_true_eq] at hr
    have e3 := varF_small 9 c.pos.toNat 3 (by omega) (by omega) (by omega)
    have e4 := varF_small 9 c.len.toNat 2 (by omega) (by omega) (by omega)
    simp only [List.length_append, List.length_cons]
    omega
theorem chgs_size (l : List Chg) (h : ∀ c ∈ l, mayChg c = true) : (l.flatMap chgB).length ≤ l.length * 82 := by
  induction l with
  | nil => simp
  | cons c l ih =>
    have h1 := chg_size c (h c (by simp))
    have h2 := ih (fun c hc => h c (by simp [hc]))
    rw [List.flatMap_cons, List.length_append, List.length_cons, Nat.succ_mul]
    omega
theorem rcd_size (r : Rcd) (h : mayRcd r = true) : (rcdB r).length ≤ 2700 := by
  unfold mayRcd at h
  unfold rcdB
  by_cases h1 : r.kind = 1
  · rw [if_pos h1] at h
    rw [if_neg (by omega)]
    unfold mayBat at h
    simp only [Bool.and_eq_true, decide_eq_true_eq] at h
    obtain ⟨⟨⟨_, _, l2⟩, hr⟩, _⟩ := h
    have hR : RiseL r.chg := by
      rcases Classical.em (RiseL r.chg) with hx | hx
      · exact hx
      · rw [riseB_false hx] at hr; simp at hr
    have hs := chgs_size r.chg (fun c hc => by
      obtain ⟨i, hi, rfl⟩ := List.mem_iff_getElem.1 hc
      exact (hR i hi).1)
    have e1 := (varF_len 9 r.seq).2
    have e2 := (varF_len 9 r.chg.length).2
    unfold batB
    simp only [List.length_append, List.length_cons]
    omega
  · rw [if_neg h1] at h
    by_cases h2 : r.kind = 2
    · rw [if_pos h2]
      unfold movB
      have e1 := (varF_len 9 r.mser).2
      have e2 := (varF_len 9 r.frm.toNat).2
      have e3 := (varF_len 9 r.to.toNat).2
      have e4 := (varF_len 9 r.n.toNat).2
      simp only [List.length_append, List.length_cons]
      omega
    · rw [if_neg h2] at h
      cases h
theorem may_read (b : List UInt8) (h : (readF10 b).2 = 0) : wrB (readF10 b).1 = b ∧ mayRcd (readF10 b).1 = true ∧ (readF10 b).1.ok := by
  obtain ⟨h1, h2, h3⟩ := rcd_back b h
  exact ⟨by unfold wrB; rw [if_pos h1]; exact h3, h1, h2⟩

theorem Row.taken {w : World} {p : Option Addr} {l c : Nat} {bs : List UInt8} (h : Row w (.slice p l c) bs) (q : Nat) (hq : q ≤ bs.length) : Row w (.slice p q c) (bs.take q) := by
  obtain ⟨a, cap, hs, h1, h2, h3, h4⟩ := h
  simp only [Value.slice.injEq] at hs
  obtain ⟨rfl, _, rfl⟩ := hs
  have hl : (bs.take q).length = q := by rw [List.length_take]; omega
  refine ⟨p, c, by rw [hl], by omega, h2, h3, ?_⟩
  rcases h4 with rfl | ⟨b, off, ha, hc⟩
  · exact Or.inl (by simp)
  · exact Or.inr ⟨b, off, ha, fun j hj => by rw [hc j (by rw [hl] at hj; omega)]; simp⟩
theorem cut_mod (cut : Int) (n : Nat) (h : 0 < n) (hn : n ≤ 2700) : ∃ q : Nat, wrap64 ((IntKind.u64.wrap cut).tmod (n : Int)) = (q : Int) ∧ q < n := by
  have h0 : 0 ≤ IntKind.u64.wrap cut := by rw [IntKind.wrap_u64]; omega
  rw [Int.tmod_eq_emod_of_nonneg h0]
  have h1 := Int.emod_nonneg (IntKind.u64.wrap cut) (show (n : Int) ≠ 0 by omega)
  have h2 := Int.emod_lt_of_pos (IntKind.u64.wrap cut) (show (0 : Int) < n by omega)
  refine ⟨(IntKind.u64.wrap cut % (n : Int)).toNat, ?_, by omega⟩
  unfold wrap64
  omega
theorem cut_byte (cut : Int) : ∃ k : UInt8, IntKind.u8.wrap cut = (k.toNat : Int) := by
  refine ⟨UInt8.ofNat (cut % 256).toNat, ?_⟩
  rw [IntKind.wrap_u8, UInt8.toNat_ofNat']
  omega

abbrev obj7 (r : Rcd) (p : Option Addr) (c : Nat) : Obj := Obj.cells #[.int .i64 r.kind, .int .u64 (r.seq : Int), .slice p r.chg.length c, .int .u64 (r.mser : Int), .int .i64 r.frm, .int .i64 r.to, .int .i64 r.n] 39

set_option maxRecDepth 20000 in
set_option maxHeartbeats 2000000 in
/-- The end of the law: what any bytes are read as, written again. -/
theorem back_any (r : Rcd) (v s : Value) (b : List UInt8) (cut : Int) (w : World) (hl : CL w v r.chg) (ho : r.ok) (hs : Row w s b) (hroom : b.length ≤ 140737488351232) :
    Calls Try.prog 4 #[.agg (rcdA r v), s, .int .i64 cut] w fun e w' => e = .returned (.bool true) ∧ Below w.heap.size w w' := by
  obtain ⟨p, c, rfl, _⟩ := KRow.shape hl
  obtain ⟨ob, hob⟩ : ∃ ob, ob = obj7 r p c := ⟨_, rfl⟩
  have hb0 : Below w.heap.size w (w.alloc ob) := (Below.refl _ _).alloc (Nat.le_refl _) _
  have hg0 : (w.alloc ob).heap[w.heap.size]? = some ob := alloc_new w ob
  have HW := hide (bwrite_any r _ _ (hl.below hb0) ho)
  have HBOX : Hid (∀ W, Below (w.alloc ob).heap.size (w.alloc ob) W → W.heap[w.heap.size]? = some ob) := fun W hb => (hb.block _ (Array.getElem?_eq_some_iff.1 hg0).1).trans hg0
  have HCL : Hid (∀ W, Below w.heap.size w W → CL W (.slice p r.chg.length c) r.chg) := fun W hb => hl.below hb
  have HRW : Hid (∀ W, Below w.heap.size w W → Row W s b) := fun W hb => hs.below hb
  have HB0 := hide hb0
  have HM := hide (fun v' W h => bmay_any r v' W h ho.1 ho.2.1)
  have HRB := hide (fun W h => bread_any s b W h hroom)
  have HEND := hide (fun h => may_read b h)
  obtain ⟨sp, sc, sl, hse, hsl⟩ := hs.shape
  subst hse
  subst hsl
  generalize readF10 b = RF at HRB HEND
  obtain ⟨R, E⟩ := RF
  simp only at HRB HEND
  have HRC := hide (fun v1 v2 W h1 h2 => hrecord_any r v1 v2 W h1 h2)
  cases hm : mayRcd r with
  | false =>
    have hB : wrB r = [] := by unfold wrB; rw [hm]; rfl
    rw [hB, hm] at HW
    rw [hm] at HM
    unfold rcdA at HW HM HRB ⊢
    rw [hob] at HW HBOX HB0
    clear hb0 hg0 hob hl hs ho hm hB HRC
    go_enter Try.func4, Try.ntmps4
    go_wp2_with fail
    refine Calls.mono (unhide HW) ?_
    rintro e w1 ⟨t, rfl, ho1, hb1⟩
    obtain ⟨tp, tc, tl1, rfl, htl⟩ := (row_of_owns ho1).shape
    have B1 := (unhide HB0).trans (hb1.mono (unhide HB0).size)
    clear ho1 htl HW
    go_wp2_with fail
    refine Calls.mono (bawake_any _) ?_
    rintro e w2 ⟨rfl, hb2⟩
    have B2 := B1.trans (hb2.mono B1.size)
    obtain ⟨a0, a1, a2, a3, a4, a5, a6⟩ := seven_cells (unhide HBOX w2 (hb1.trans (hb2.mono hb1.size)))
    have HM2 := hide (unhide HM _ _ (unhide HCL _ B2))
    clear B1 hb1 hb2 HBOX HCL HM HB0
    go_wp2_with fail
    refine Calls.mono (unhide HM2) ?_
    rintro e w3 ⟨rfl, hb3⟩
    have B3 := B2.trans (hb3.mono B2.size)
    clear hb3 B2 a0 a1 a2 a3 a4 a5 a6 HM2

    -- what any bytes are, written again
    go_wp2_with fail
    refine Calls.mono (unhide HRB _ (unhide HRW _ B3)) ?_
    rintro e w4 ⟨v4, rfl, hc4, hb4⟩
    have B4 := B3.trans (hb4.mono B3.size)
    obtain ⟨vp, vc, rfl, _⟩ := KRow.shape hc4
    by_cases hE : E = 0
    · subst hE
      obtain ⟨e1, e2, e3⟩ := unhide HEND rfl
      have ha : Below w4.heap.size w4 (w4.alloc (obj7 R vp vc)) := (Below.refl _ _).alloc (Nat.le_refl _) _
      have HW2 := hide (bwrite_any R _ _ (hc4.below ha) e3)
      rw [e1, e2] at HW2
      have B5 := B4.trans (ha.mono B4.size)
      have HR5 := hide (unhide HRW _ B5)
      have HB5 := hide B5
      unfold rcdA at HW2
      clear e1 e2 e3 ha hc4 hb4 B4 B3 B5 HRB HRW HEND
      go_wp2_with fail
      refine Calls.mono (unhide HW2) ?_
      rintro e w6 ⟨y, rfl, ho6, hb6⟩
      have hr6 := row_of_owns ho6
      obtain ⟨yp, yc, yl, rfl, hyl⟩ := hr6.shape
      have HBY := hide (bytes_any _ _ b b w6 hr6 ((unhide HR5).below hb6))
      rw [show (b == b) = true by simp] at HBY
      have HB6 := hide ((unhide HB5).trans (hb6.mono (unhide HB5).size))
      have HYL := hide hyl
      clear hr6 ho6 hb6 HR5 HB5 HW2 hyl
      go_wp2_with (go_at_call 21; refine Calls.mono (unhide HBY) ?_; rintro e w7 ⟨rfl, rfl⟩)
      go_ret
      exact ⟨rfl, unhide HB6⟩
    · have hE1 : (E == 0) = false := by simp [hE]
      have hE2 : (E != 0) = true := by simp [hE]
      have ha : ∀ o, Below w4.heap.size w4 (w4.alloc o) := fun o => (Below.refl _ _).alloc (Nat.le_refl _) o
      have HB5 := hide (fun o => B4.trans ((ha o).mono B4.size))
      clear hE ha hc4 hb4 B4 B3 HRB HRW HEND
      go_wp2_with fail
      go_ret
      exact ⟨rfl, unhide HB5 _⟩
  | true =>
    have hB : wrB r = rcdB r := by unfold wrB; rw [hm]; rfl
    have hp := rcd_pos r
    have hz := rcd_size r hm
    have HLS := hide (fun q hq => rcd_less r q hm ho hq)
    have HMO := hide (fun x => rcd_more r x hm ho)
    have HR1 := hide (fun sx W h => bread_any sx (rcdB r) W h (by omega))
    have HR2 := hide (fun sx q W h => bread_any sx ((rcdB r).take q) W h (by rw [List.length_take]; omega))
    have HR3 := hide (fun sx x W h => bread_any sx (rcdB r ++ [x]) W h (by simp only [List.length_append, List.length_cons, List.length_nil]; omega))
    rw [rcd_read r hm ho] at HR1
    rw [hB, hm] at HW
    rw [hm] at HM
    generalize rcdB r = X at *
    unfold rcdA at HW HM HRB HR1 HR2 HR3 HRC ⊢
    rw [hob] at HW HBOX HB0
    clear hb0 hg0 hob hl hs ho hm hB
    go_enter Try.func4, Try.ntmps4
    go_wp2_with fail
    refine Calls.mono (unhide HW) ?_
    rintro e w1 ⟨t, rfl, ho1, hb1⟩
    obtain ⟨tp, tc, tl1, rfl, htl⟩ := (row_of_owns ho1).shape
    subst htl
    have B1 := (unhide HB0).trans (hb1.mono (unhide HB0).size)
    have HX1 := hide (row_of_owns ho1)
    clear ho1 HW
    go_wp2_with fail
    refine Calls.mono (bawake_any _) ?_
    rintro e w2 ⟨rfl, hb2⟩
    have B2 := B1.trans (hb2.mono B1.size)
    have HX2 := hide ((unhide HX1).below hb2)
    have hb12 := hb1.trans (hb2.mono hb1.size)
    obtain ⟨a0, a1, a2, a3, a4, a5, a6⟩ := seven_cells (unhide HBOX w2 hb12)
    have HM2 := hide (unhide HM _ _ (unhide HCL _ B2))
    clear B1 hb1 hb2 HM HB0 HX1
    go_wp2_with fail
    refine Calls.mono (unhide HM2) ?_
    rintro e w3 ⟨rfl, hb3⟩
    have B3 := B2.trans (hb3.mono B2.size)
    have hb13 := hb12.trans (hb3.mono hb12.size)
    have HX3 := hide ((unhide HX2).below hb3)
    clear hb3 B2 a0 a1 a2 a3 a4 a5 a6 HM2 HX2 hb12
    go_wp2_with fail
    refine Calls.mono (unhide HR1 _ _ (unhide HX3)) ?_
    rintro e w4 ⟨v4, rfl, hc4, hb4⟩
    obtain ⟨qp, qc, rfl, _⟩ := KRow.shape hc4
    have ha : Below w4.heap.size w4 (w4.alloc (obj7 r qp qc)) := (Below.refl _ _).alloc (Nat.le_refl _) _
    have hk4 : (w4.alloc (obj7 r qp qc)).heap[w4.heap.size]? = some (obj7 r qp qc) := alloc_new _ _
    have hb14 := hb13.trans ((hb4.trans (ha.mono hb4.size)).mono hb13.size)
    have B4 := B3.trans ((hb4.trans (ha.mono hb4.size)).mono B3.size)
    have HX4 := hide (((unhide HX3).below hb4).below ha)
    have HC4 := hide (hc4.below ha)
    have HCr := hide (unhide HCL _ B4)
    have HRC4 := hide (unhide HRC _ _ _ (unhide HC4) (unhide HCr))
    obtain ⟨a0, a1, a2, a3, a4, a5, a6⟩ := seven_cells (unhide HBOX _ hb14)
    obtain ⟨d0, d1, d2, d3, d4, d5, d6⟩ := seven_cells hk4
    have HB4 := hide B4
    clear hb13 hb14 hb4 ha hk4 hc4 B3 B4 HX3 HC4 HCr HRC HCL HBOX HR1
    obtain ⟨Q, hQ, hQl⟩ := cut_mod cut X.length hp hz
    obtain ⟨K, hK⟩ := cut_byte cut
    have hXc : X.length ≤ tc := by obtain ⟨_, _, e, h1, _⟩ := unhide HX4; simp only [Value.slice.injEq] at e; omega
    have hQc : (Q : Int) ≤ (tc : Int) := by omega
    have hX0 : ¬ (X.length : Int) = 0 := by omega
    have HQ := hide hQ
    clear hQ
    go_wp2_with (go_at_call 20; refine Calls.mono (unhide HRC4) ?_; rintro e w5 ⟨rfl, hb5⟩; have HX5 := hide ((unhide HX4).below hb5); have HB5 := hide ((unhide HB4).trans (hb5.mono (unhide HB4).size)); clear hb5 HX4 HB4 HRC4 a0 a1 a2 a3 a4 a5 a6 d0 d1 d2 d3 d4 d5 d6)
    have HR6 := hide (unhide HR2 _ Q w5 ((unhide HX5).taken Q (by omega)))
    have HLQ := hide (unhide HLS Q hQl)
    have HMK := hide (unhide HMO K)
    have HZ := hide hz
    generalize readF10 (X.take Q) = RQ at HR6 HLQ
    obtain ⟨R6, E6⟩ := RQ
    simp only at HR6 HLQ
    clear HR2 HLS HMO hXc hp hz
    go_wp2_with fail
    case isFalse => rename_i hf; rw [unhide HQ] at hf; exact absurd hf (by omega)
    rw [unhide HQ, Int.toNat_natCast]
    refine Calls.mono (unhide HR6) ?_
    rintro e w6 ⟨v6, rfl, hc6, hb6⟩
    obtain ⟨up, uc, rfl, _⟩ := KRow.shape hc6
    have ha : Below w6.heap.size w6 (w6.alloc (obj7 R6 up uc)) := (Below.refl _ _).alloc (Nat.le_refl _) _
    have hb6' := hb6.trans (ha.mono hb6.size)
    have B6 := (unhide HB5).trans (hb6'.mono (unhide HB5).size)
    have HX6 := hide ((unhide HX5).below hb6')
    have HB6 := hide B6
    have hs6 := B6.size
    obtain ⟨i0, hi, hz0, hz1, hz2⟩ := info_parts Try.info5
    have hZ := unhide HZ
    clear HX5 HB5 HR6 hb6 hb6' ha hc6 B6
    go_wp2_with (at_builtin; refine wpList_append_row rfl _ _ 30 rfl w.heap.size 5 i0 (.int .u8 0) Try.underlying30 hi hz0 hz1 hz2 rfl _ 0 [] rfl (World.ownsRow_nil _ _ _ _) _ X rfl (unhide HX6) (by omega) hs6 ?_)
    intro v7 w7 own7 grow7
    have B7 : Below w.heap.size w w7 := (unhide HB6).grown grow7 hs6 (fun k hk => by simp [Value.ownBlock] at hk)
    obtain ⟨xp, xc, xl, rfl, hxl⟩ := (row_of_owns own7).shape
    subst hxl
    have hbs : Below w7.heap.size w7 (w7.alloc (.cells #[.int .u8 (K.toNat : Int)] 5)) := (Below.refl _ _).alloc (Nat.le_refl _) _
    have own8 := owns_below own7 hbs
    have B8 := B7.trans (hbs.mono B7.size)
    have hr8 := row_one w7 5 K
    have hs8 := B8.size
    clear own7 grow7 hbs HX6 HB6 hs6 B7
    go_wp2_with (at_builtin; refine wpList_append_row rfl _ _ 30 rfl w.heap.size 5 i0 (.int .u8 0) Try.underlying30 hi hz0 hz1 hz2 rfl _ _ _ rfl own8 _ [K] rfl hr8 (by simp only [List.length_cons, List.length_nil]; omega) hs8 ?_)
    intro v9 w9 own9 grow9
    have B9 : Below w.heap.size w w9 := B8.grown grow9 hs8 (fun k hk => (own8.lt k hk).1)
    have hr9 := row_of_owns (bs := X ++ [K]) (by rw [List.map_append, List.length_append]; exact own9)
    obtain ⟨yp, yc, yl, rfl, hyl⟩ := hr9.shape
    have HR9 := hide (unhide HR3 _ K w9 hr9)
    generalize readF10 (X ++ [K]) = RK at HR9 HMK
    obtain ⟨R9, E9⟩ := RK
    simp only at HR9 HMK
    obtain rfl : E9 = 11 := unhide HMK
    clear own9 grow9 own8 B8 hr8 hs8 hr9 hyl HR3 hi hz0 hz1 hz2
    go_wp2_with fail
    refine Calls.mono (unhide HR9) ?_
    rintro e w10 ⟨v10, rfl, hc10, hb10⟩
    obtain ⟨zp, zc, rfl, _⟩ := KRow.shape hc10
    have ha : Below w10.heap.size w10 (w10.alloc (obj7 R9 zp zc)) := (Below.refl _ _).alloc (Nat.le_refl _) _
    have hb10' := hb10.trans (ha.mono hb10.size)
    have B10 := B9.trans (hb10'.mono B9.size)
    have hE6 : (E6 == 0) = false := by have := unhide HLQ; simp [this]
    clear hb10 hb10' ha hc10 B9 HR9
    -- what any bytes are, written again
    go_wp2_with fail
    refine Calls.mono (unhide HRB _ (unhide HRW _ B10)) ?_
    rintro e w14 ⟨v14, rfl, hc14, hb14⟩
    have B14 := B10.trans (hb14.mono B10.size)
    obtain ⟨vp, vc, rfl, _⟩ := KRow.shape hc14
    by_cases hE : E = 0
    · subst hE
      obtain ⟨e1, e2, e3⟩ := unhide HEND rfl
      have ha : Below w14.heap.size w14 (w14.alloc (obj7 R vp vc)) := (Below.refl _ _).alloc (Nat.le_refl _) _
      have HW2 := hide (bwrite_any R _ _ (hc14.below ha) e3)
      rw [e1, e2] at HW2
      have B15 := B14.trans (ha.mono B14.size)
      have HR15 := hide (unhide HRW _ B15)
      have HB15 := hide B15
      unfold rcdA at HW2
      clear e1 e2 e3 ha hc14 hb14 B14 B10 B15 HRB HRW HEND
      go_wp2_with fail
      refine Calls.mono (unhide HW2) ?_
      rintro e w16 ⟨y, rfl, ho16, hb16⟩
      have hr16 := row_of_owns ho16
      obtain ⟨yp, yc, yl, rfl, hyl⟩ := hr16.shape
      have HBY := hide (bytes_any _ _ b b w16 hr16 ((unhide HR15).below hb16))
      rw [show (b == b) = true by simp] at HBY
      have HB16 := hide ((unhide HB15).trans (hb16.mono (unhide HB15).size))
      have HYL := hide hyl
      clear hr16 ho16 hb16 HR15 HB15 HW2 hyl
      go_wp2_with (go_at_call 21; refine Calls.mono (unhide HBY) ?_; rintro e w17 ⟨rfl, rfl⟩)
      go_ret
      exact ⟨rfl, unhide HB16⟩
    · have hE1 : (E == 0) = false := by simp [hE]
      have hE2 : (E != 0) = true := by simp [hE]
      have ha : ∀ o, Below w14.heap.size w14 (w14.alloc o) := fun o => (Below.refl _ _).alloc (Nat.le_refl _) o
      have HB15 := hide (fun o => B14.trans ((ha o).mono B14.size))
      clear hE ha hc14 hb14 B14 B10 HRB HRW HEND
      go_wp2_with fail
      go_ret
      exact ⟨rfl, unhide HB15 _⟩

theorem walk_BatchBack (cs : Array Value) (d : Dt) (s : Value) (b : List UInt8) (cut : Int) (_ : (Lit.int .i64 cut).wf = true) (w : World) (h : Reads limSaid w rcdSh cs.toList d) (hs : Row w s b) (hroom : b.length ≤ 140737488351232) :
    Calls Try.prog 4 #[.agg cs, s, .int .i64 cut] w fun e w' => e = .returned (.bool true) ∧ Below w.heap.size w w' := by
  obtain ⟨r, v, hc, hl, ho, _⟩ := rcd_of_reads h
  obtain rfl : cs = rcdA r v := Array.toList_inj.1 hc
  exact back_any r v s b cut w hl ho hs hroom
end Go.Proofs.Ytehnjanllemnlaa

/- A batch that may be has a record that may be: as plain data; and refs that came in. -/
namespace Go.Proofs.Ytehnjanllemnlaa
open Go.RowKit

/-- A change that is made of one of the last operations. -/
def FitC (c : Chg) (d : Dat) : Prop := c.key = d.1 ∧ c.del = d.2.2 ∧ (c.del = true → c.ser = 0 ∧ c.pos = 0 ∧ c.len = 0) ∧ (c.del = false → mayRef c.ser c.pos c.len = true) ∧ c.ser < 18446744073709551616
theorem fit_may {c : Chg} {d : Dat} (h : FitC c d) (hd : wrongD d = false) : mayChg c = true ∧ c.ok := by
  obtain ⟨h1, h2, h3, h4, h5⟩ := h
  have hk : kmayB d.1 = true := by
    unfold wrongD at hd
    simp only [Bool.or_eq_false_iff, Bool.not_eq_false'] at hd
    exact hd.1
  have hks : c.key.size ≤ 64 := by
    rw [h1]
    unfold kmayB at hk
    simp only [Bool.and_eq_true, decide_eq_true_eq] at hk
    exact hk.2
  constructor
  · unfold mayChg
    rw [h1, hk]
    cases hb : c.del with
    | true => obtain ⟨e1, e2, e3⟩ := h3 hb; simp [zeroRef, e1, e2, e3]
    | false => simp [h4 hb]
  · cases hb : c.del with
    | true =>
      obtain ⟨e1, e2, e3⟩ := h3 hb
      exact ⟨by omega, h5, by omega, by omega, by omega, by omega⟩
    | false =>
      have := h4 hb
      unfold mayRef at this
      simp only [Bool.and_eq_true, decide_eq_true_eq] at this
      exact ⟨by omega, h5, by omega, by omega, by omega, by omega⟩
/-- The record of the last ones. -/
theorem fit_rcd {l : List Dat} {cs : List Chg} {seq : Nat} (hs : 1 ≤ seq) (hs2 : seq < 18446744073709551616) (hc : chkE l = 0) (hn : cs.length = (lastD l).length) (hl : (lastD l).length ≤ l.length)
    (hf : ∀ (j : Nat) (c : Chg) (d : Dat), cs[j]? = some c → (lastD l)[j]? = some d → FitC c d) : mayRcd ⟨1, seq, cs, 0, 0, 0, 0⟩ = true ∧ (⟨1, seq, cs, 0, 0, 0, 0⟩ : Rcd).ok := by
  have hne : l.length ≠ 0 ∧ l.any wrongD = false ∧ ¬ 32 < l.length := by
    unfold chkE at hc
    split at hc
    · omega
    · split at hc
      · omega
      · split at hc
        · omega
        · rename_i h1 h2 h3
          exact ⟨h1, by simpa using h2, h3⟩
  obtain ⟨n1, n2, n3⟩ := hne
  have hw : ∀ d ∈ l, wrongD d = false := fun d hd => by
    rcases Bool.eq_false_or_eq_true (wrongD d) with g | g
    · have := List.any_eq_true.2 ⟨d, hd, g⟩
      rw [n2] at this; cases this
    · exact g
  have hlast : ∀ d ∈ lastD l, wrongD d = false := fun d hd => by
    obtain ⟨t, ht, _⟩ := ((lastD_all l).2 d).1 hd
    exact hw d (List.mem_of_getElem? ht)
  have hpos : 0 < (lastD l).length := by
    obtain ⟨d, hd⟩ : ∃ d, d ∈ l := by
      cases l with
      | nil => simp at n1
      | cons d l => exact ⟨d, by simp⟩
    obtain ⟨x, hx, _⟩ := lk_exists l d hd
    exact List.length_pos_of_mem (((lastD_all l).2 x).2 hx)
  have hat : ∀ (j : Nat) (h : j < cs.length), mayChg cs[j] = true ∧ cs[j].ok ∧ cs[j].key = ((lastD l)[j]'(by omega)).1 := fun j h => by
    have hj : j < (lastD l).length := by omega
    have hF := hf j cs[j] (lastD l)[j] (List.getElem?_eq_getElem h) (List.getElem?_eq_getElem hj)
    have := fit_may hF (hlast _ (List.getElem_mem hj))
    exact ⟨this.1, this.2, hF.1⟩
  have hR : RiseL cs := by
    intro j h
    refine ⟨(hat j h).1, fun h0 => ?_⟩
    rw [(hat j h).2.2, (hat (j - 1) (by omega)).2.2]
    exact sd_get (lastD_all l).1 (i := j - 1) (j := j) (by omega) (List.getElem?_eq_getElem (by omega)) (List.getElem?_eq_getElem (by omega))
  constructor
  · unfold mayRcd mayBat zeroMove
    simp only [if_true, riseB_true hR]
    simp [hs]
    omega
  · refine ⟨by simp, by simp, hs2, fun c hc => ?_, by simp, by simp, by simp, by simp, by simp, by simp, by simp⟩
    obtain ⟨j, h, rfl⟩ := List.mem_iff_getElem.1 hc
    exact (hat j h).2.1
theorem rcd_len (seq : Nat) (cs : List Chg) : 1 + (varF 9 seq).length ≤ (rcdB ⟨1, seq, cs, 0, 0, 0, 0⟩).length := by
  unfold rcdB batB
  rw [if_neg (by simp)]
  simp only [List.length_append, List.length_cons]
  omega

/-- Refs that came in. -/
abbrev Rf := Nat × Int × Int
def refC (r : Rf) : List Value := [.int .u64 (r.1 : Int), .int .i64 r.2.1, .int .i64 r.2.2]
theorem refC_len (r : Rf) : (refC r).length = 3 := rfl
def RefL (w : World) (v : Value) (l : List Rf) : Prop := KRow 3 w v l.length (l.flatMap refC) ∧ ∀ r ∈ l, r.1 < 18446744073709551616
theorem RefL.below {w w' : World} {v : Value} {l : List Rf} (h : RefL w v l) (hb : Below w.heap.size w w') : RefL w' v l := ⟨h.1.below hb, h.2⟩
theorem RefL.open {w : World} {v : Value} {l : List Rf} (h : RefL w v l) (hne : 0 < l.length) :
    ∃ b off cap, v = .slice (some ⟨b, off, none⟩) l.length cap ∧ l.length ≤ cap ∧ cap ≤ maxLen ∧ ∀ j (hj : j < l.length), w.cell? ⟨b, off + j * 3, none⟩ = some (.int .u64 (l[j].1 : Int)) ∧ w.cell? ⟨b, off + j * 3 + 1, none⟩ = some (.int .i64 l[j].2.1) ∧ w.cell? ⟨b, off + j * 3 + 2, none⟩ = some (.int .i64 l[j].2.2) := by
  obtain ⟨b, off, cap, e, h1, h2, hc⟩ := h.1.open hne
  refine ⟨b, off, cap, e, h1, h2, fun j hj => ?_⟩
  have g := fun i hi => flat_get refC_len l j hj i hi
  exact ⟨hc (j * 3 + 0) _ (g 0 (by omega)), hc (j * 3 + 1) _ (g 1 (by omega)), hc (j * 3 + 2) _ (g 2 (by omega))⟩
def rfSh : Sh := .struct (.cons (.int .u64) (.cons (.int .i64) (.cons (.int .i64) .nil)))
theorem ref_of_reads {w : World} {cs : List Value} {d : Dt} (h : Reads limSaid w rfSh cs d) : ∃ r : Rf, cs = refC r ∧ r.1 < 18446744073709551616 := by
  obtain ⟨c1, r1, d1, dr1, rfl, _, rfl, ⟨n1, rfl, w1, _⟩, c2, r2, d2, dr2, rfl, _, rfl, ⟨n2, rfl, w2, _⟩, c3, r3, d3, dr3, rfl, _, rfl, ⟨n3, rfl, w3, _⟩, rfl, _⟩ := h
  have b1 := bounds_u64 w1
  have e1 : (n1.toNat : Int) = n1 := by omega
  exact ⟨(n1.toNat, n2, n3), by simp [refC, e1], by simp only; omega⟩
theorem refs_of_reads {w : World} {v : Value} {d : Dt} (h : Reads limSaid w (.row 24 rfSh) [v] d) : ∃ l : List Rf, RefL w v l := by
  obtain ⟨a, cap, l, e, rfl, h1, h2, h3, h4, h5⟩ := h
  simp only [List.cons.injEq, and_true] at e
  subst e
  rcases h5 with rfl | ⟨b, off, rfl, hc⟩
  · exact ⟨[], ⟨a, cap, rfl, h1, h2, h3, by simp, Or.inl rfl⟩, by simp⟩
  · have hx : ∀ j (h : j < l.length), ∃ r : Rf, (∀ i u, (refC r)[i]? = some u → w.cell? ⟨b, off + j * 3 + i, none⟩ = some u) ∧ r.1 < 18446744073709551616 := by
      intro j hj
      obtain ⟨cs, g1, g2, g3⟩ := hc j hj
      obtain ⟨r, rfl, ho⟩ := ref_of_reads g3
      exact ⟨r, g2, ho⟩
    have hch : ∃ F : Nat → Rf, ∀ j, j < l.length → (∀ i u, (refC (F j))[i]? = some u → w.cell? ⟨b, off + j * 3 + i, none⟩ = some u) ∧ (F j).1 < 18446744073709551616 := by
      refine ⟨fun j => if h : j < l.length then (hx j h).choose else (0, 0, 0), fun j hj => ?_⟩
      simp only [hj, dif_pos]
      exact (hx j hj).choose_spec
    obtain ⟨F, hF⟩ := hch
    have hlen : ((List.range l.length).map F).length = l.length := by simp
    refine ⟨(List.range l.length).map F, ⟨_, cap, by rw [hlen], by rw [hlen]; exact h1, h2, h3, flat_len refC_len _, Or.inr ⟨b, off, rfl, fun j u hu => ?_⟩⟩, fun c hc => ?_⟩
    · have hjl := (List.getElem?_eq_some_iff.1 hu).1
      rw [flat_len refC_len, hlen] at hjl
      have hj5 : j / 3 < l.length := by omega
      have hg := flat_get refC_len ((List.range l.length).map F) (j / 3) (by rw [hlen]; exact hj5) (j % 3) (by omega)
      rw [show j / 3 * 3 + j % 3 = j by omega, hu] at hg
      have e : ((List.range l.length).map F)[j / 3]'(by rw [hlen]; exact hj5) = F (j / 3) := by simp
      rw [e] at hg
      have := (hF (j / 3) hj5).1 (j % 3) u hg.symm
      rw [← this]
      congr 2
      omega
    · simp only [List.mem_map, List.mem_range] at hc
      obtain ⟨j, hj, rfl⟩ := hc
      exact (hF j hj).2
end Go.Proofs.Ytehnjanllemnlaa
