/- The walk of the law PlainOrder, of the landed package plain. -/
import Derived.Test.YtehafkbndjifaabG24
namespace Go.Proofs.Ytehafkbndjifaab
open Go.RowKit

theorem chk_two (a b : Dat) : (chkE [a, b] = 0) ↔ (chkE [b, a] = 0) := by
  have hs : sumD [a, b] = sumD [b, a] := by simp [sumD]; omega
  unfold chkE sizeN
  rw [hs]
  simp only [List.any_cons, List.any_nil, Bool.or_false, List.length_cons, List.length_nil]
  rw [Bool.or_comm (wrongD a), Bool.or_comm (largeD a)]
theorem doD_two {l : List Pd} (h : SP l) (a b : Dat) (hk : kD a ≠ kD b) : doD l [a, b] = doD l [b, a] := by
  refine look_ext (doD_all h _).1 (doD_all h _).1 fun k => ?_
  rw [(doD_all h _).2.1, (doD_all h _).2.1]
  unfold took eff
  simp only [List.foldl_cons, List.foldl_nil]
  by_cases e1 : kD a = k
  · by_cases e2 : kD b = k
    · exact absurd (e1.trans e2.symm) hk
    · simp [e1, e2]
  · by_cases e2 : kD b = k
    · simp [e1, e2]
    · simp [e1, e2]
theorem look_two {l : List Pd} (h : SP l) (a b : Dat) (k : List UInt8) (hk : kD b = k) : look (doD l [a, b]) k = if b.2.2 then none else some b.2.1 := by
  rw [(doD_all h _).2.1]
  unfold took eff
  simp only [List.foldl_cons, List.foldl_nil, hk, if_true]
theorem chk_del {a b : Dat} (h : chkE [a, b] = 0) : (b.2.2 = true → b.2.1 = []) ∧ (a.2.2 = true → a.2.1 = []) := by
  unfold chkE at h
  split at h
  · cases h
  · split at h
    · cases h
    · rename_i hw
      simp only [List.any_cons, List.any_nil, Bool.or_false, Bool.or_eq_true, not_or, Bool.not_eq_true] at hw
      constructor
      · intro hd
        have := hw.2
        unfold wrongD at this
        simp only [hd, Bool.true_and, Bool.or_eq_false_iff, decide_eq_false_iff_not, Nat.not_lt, Nat.le_zero] at this
        exact List.eq_nil_of_length_eq_zero this.2
      · intro hd
        have := hw.1
        unfold wrongD at this
        simp only [hd, Bool.true_and, Bool.or_eq_false_iff, decide_eq_false_iff_not, Nat.not_lt, Nat.le_zero] at this
        exact List.eq_nil_of_length_eq_zero this.2

theorem two_el {W : World} {x y : El} (hx : Row W (vof x.1) x.2) (hy : Row W (vof y.1) y.2) : EL 3 opC (W.alloc (.cells #[.string x.1.key, .slice x.1.p x.1.n x.1.c, .bool x.1.del, .string y.1.key, .slice y.1.p y.1.n y.1.c, .bool y.1.del] 34)) (.slice (some ⟨W.heap.size, 0, none⟩) 2 2) [x, y] := by
  have hb := (Below.refl W.heap.size W).alloc (Nat.le_refl _) (.cells #[.string x.1.key, .slice x.1.p x.1.n x.1.c, .bool x.1.del, .string y.1.key, .slice y.1.p y.1.n y.1.c, .bool y.1.del] 34)
  refine ⟨⟨_, 2, rfl, Nat.le_refl _, by unfold maxLen; omega, fun e => (by cases e), rfl, Or.inr ⟨W.heap.size, 0, rfl, fun j u hu => ?_⟩⟩, fun z hz => ?_⟩
  · match j, hu with
    | 0, hu => simp [elC, opC] at hu; subst hu; simp
    | 1, hu => simp [elC, opC] at hu; subst hu; simp
    | 2, hu => simp [elC, opC] at hu; subst hu; simp
    | 3, hu => simp [elC, opC] at hu; subst hu; simp
    | 4, hu => simp [elC, opC] at hu; subst hu; simp
    | 5, hu => simp [elC, opC] at hu; subst hu; simp
  · simp only [List.mem_cons, List.not_mem_nil, or_false] at hz
    rcases hz with rfl | rfl
    · exact hx.below hb
    · exact hy.below hb
set_option maxRecDepth 20000 in
set_option maxHeartbeats 4000000 in
theorem porder_any (v : Value) (L : List El) (x y : El) (w : World) (h : EL 2 prC w v L) (hx : Row w (vof x.1) x.2) (hy : Row w (vof y.1) y.2) (hv : ∀ x ∈ L, x.2.length ≤ 140737488351232) (hvx : x.2.length ≤ 140737488351232 ∧ x.1.key.size ≤ 140737488351232) (hvy : y.2.length ≤ 140737488351232 ∧ y.1.key.size ≤ 140737488351232) (hl : L.length * 40 ≤ 140737488351232) :
    Calls Try.prog 5 #[v, .agg (opA x.1), .agg (opA y.1)] w fun e w' => e = .returned (.bool true) ∧ Below w.heap.size w w' := by
  have HAW := hide pawake_any
  have HDO := hide (fun W (hW : Below w.heap.size w W) v' (a b : El) (hel : EL 3 opC W v' [a, b]) (ha : a.2.length ≤ 140737488351232 ∧ a.1.key.size ≤ 140737488351232) (hb : b.2.length ≤ 140737488351232 ∧ b.1.key.size ≤ 140737488351232) => pdo_any v v' L [a, b] W (h.below hW) hel (by omega) hv (fun z hz => by simp only [List.mem_cons, List.not_mem_nil, or_false] at hz; rcases hz with rfl | rfl; exact ha.1; exact hb.1) (fun z hz => by simp only [List.mem_cons, List.not_mem_nil, or_false] at hz; rcases hz with rfl | rfl; exact ha.2; exact hb.2))
  have HEL : Hid (∀ W, Below w.heap.size w W → Row W (vof x.1) x.2 ∧ Row W (vof y.1) y.2) := fun W hW => ⟨hx.below hW, hy.below hW⟩
  have HTW := hide (fun W (hW : Below w.heap.size w W) => two_el (hx.below hW) (hy.below hW))
  have HTV := hide (fun W (hW : Below w.heap.size w W) => two_el (hy.below hW) (hx.below hW))
  have HGT := hide (fun W v' (L' : List El) (a b : El) (k : ByteArray) (hd : pdat L' = doD (pdat L) (dat [a, b])) (hsp : SP (pdat L)) (ha : a.2.length ≤ 140737488351232 ∧ a.1.key.size ≤ 140737488351232) (hb : b.2.length ≤ 140737488351232 ∧ b.1.key.size ≤ 140737488351232) (hel : EL 2 prC W v' L') => pget_any v' L' k W hel (by have := do_len hd; simp only [List.length_cons, List.length_nil] at this; omega) (do_bound hsp hd hv (fun z hz => by simp only [List.mem_cons, List.not_mem_nil, or_false] at hz; rcases hz with rfl | rfl; exact ha.1; exact hb.1)))
  have HFX := hide (And.intro hvx hvy)
  obtain ⟨p, c, rfl, _⟩ := h.shape
  obtain ⟨E, hE⟩ : ∃ E, E = doE (pdat L) (dat [x, y]) := ⟨_, rfl⟩
  obtain ⟨F, hF⟩ : ∃ F, F = doE (pdat L) (dat [y, x]) := ⟨_, rfl⟩
  have hEF : E = 0 ↔ F = 0 := by
    rw [hE, hF]
    unfold doE
    split
    · exact chk_two (datOf x) (datOf y)
    · simp
  have HFA : Hid (E = 0 → (∀ Lx Ly : List El, pdat Lx = doD (pdat L) (dat [x, y]) → pdat Ly = doD (pdat L) (dat [y, x]) → x.1.key ≠ y.1.key → decide (pdat Lx = pdat Ly) = true) ∧ SP (pdat L) ∧
      (∀ Lx : List El, pdat Lx = doD (pdat L) (dat [x, y]) → x.1.key = y.1.key → getR (pdat Lx) x.1.key.toList = if y.1.del then none else some y.2) ∧ (∀ Ly : List El, pdat Ly = doD (pdat L) (dat [y, x]) → getR (pdat Ly) x.1.key.toList = if x.1.del then none else some x.2) ∧ (y.1.del = true → y.2 = []) ∧ (x.1.del = true → x.2 = [])) := by
    intro e0
    obtain ⟨hR, hC⟩ := doE_zero (hE.symm.trans e0)
    obtain ⟨_, hC2⟩ := doE_zero (hF.symm.trans (hEF.1 e0))
    have hsp := SP.of hR
    refine ⟨fun Lx Ly h1 h2 hk => ?_, hsp, fun Lx h1 hk => ?_, fun Ly h2 => ?_, (chk_del hC).1, (chk_del hC).2⟩
    · rw [h1, h2]
      have := doD_two hsp (datOf x) (datOf y) (fun e => hk (bl_inj e))
      exact decide_eq_true this
    · have hr := doD_right hR hC
      unfold getR
      rw [h1, hr]
      exact look_two hsp (datOf x) (datOf y) _ (by rw [hk]; rfl)
    · have hr := doD_right hR hC2
      unfold getR
      rw [h2, hr]
      exact look_two hsp (datOf y) (datOf x) _ rfl
  clear hx hy hvx hvy
  obtain ⟨⟨ak, ap, an, ac, ad⟩, av⟩ := x
  obtain ⟨⟨bk, bp, bn, bc, bd⟩, bv⟩ := y
  obtain ⟨W2, hW2⟩ : ∃ W2, W2 = (w.alloc (.cells #[.string ak, .slice ap an ac, .bool ad] 34)).alloc (.cells #[.string bk, .slice bp bn bc, .bool bd] 34) := ⟨_, rfl⟩
  have hb2 : Below w.heap.size w W2 := by rw [hW2]; exact ((Below.refl _ _).alloc (Nat.le_refl _) _).alloc (by simp) _
  have hs2 : W2.heap.size = w.heap.size + 1 + 1 := by rw [hW2]; simp
  have d0 : W2.cell? ⟨w.heap.size, 0, none⟩ = some (.string ak) ∧ W2.cell? ⟨w.heap.size, 1, none⟩ = some (.slice ap an ac) ∧ W2.cell? ⟨w.heap.size, 2, none⟩ = some (.bool ad) := by rw [hW2]; simp
  have d1 : W2.cell? ⟨w.heap.size + 1, 0, none⟩ = some (.string bk) ∧ W2.cell? ⟨w.heap.size + 1, 1, none⟩ = some (.slice bp bn bc) ∧ W2.cell? ⟨w.heap.size + 1, 2, none⟩ = some (.bool bd) := by rw [hW2]; simp
  have HCE := hide (fun W (hW : Below W2.heap.size W2 W) => show (W.cell? ⟨w.heap.size, 0, none⟩ = some (.string ak) ∧ W.cell? ⟨w.heap.size, 1, none⟩ = some (.slice ap an ac) ∧ W.cell? ⟨w.heap.size, 2, none⟩ = some (.bool ad)) ∧ (W.cell? ⟨w.heap.size + 1, 0, none⟩ = some (.string bk) ∧ W.cell? ⟨w.heap.size + 1, 1, none⟩ = some (.slice bp bn bc) ∧ W.cell? ⟨w.heap.size + 1, 2, none⟩ = some (.bool bd)) from
    ⟨⟨(hW.cell (World.block_lt_of_cell? W2 _ d0.1)).trans d0.1, (hW.cell (World.block_lt_of_cell? W2 _ d0.2.1)).trans d0.2.1, (hW.cell (World.block_lt_of_cell? W2 _ d0.2.2)).trans d0.2.2⟩, (hW.cell (World.block_lt_of_cell? W2 _ d1.1)).trans d1.1, (hW.cell (World.block_lt_of_cell? W2 _ d1.2.1)).trans d1.2.1, (hW.cell (World.block_lt_of_cell? W2 _ d1.2.2)).trans d1.2.2⟩)
  have HBW := hide (fun W (hW : Below W2.heap.size W2 W) => hb2.trans (hW.mono hb2.size))
  have HD1 := hide (unhide HDO _ ((hb2.alloc hb2.size _)) _ _ _ (unhide HTW W2 hb2) (unhide HFX).1 (unhide HFX).2)
  rw [hs2, ← hE] at HD1
  have HD2 := hide (fun W hW => unhide HDO _ ((unhide HBW W hW).alloc (unhide HBW W hW).size _) _ _ _ (unhide HTV W (unhide HBW W hW)) (unhide HFX).2 (unhide HFX).1)
  rw [← hF] at HD2
  unfold opA
  simp only at *
  have HW2 := hide hW2
  have hbo : Hid (∀ o, Below W2.heap.size W2 (W2.alloc o)) := fun o => (Below.refl _ _).alloc (Nat.le_refl _) o
  clear h hW2 hb2 hs2 d0 d1 hE hF hv hl
  by_cases hE0 : E = 0
  · have hF0 := hEF.1 hE0
    subst hE0
    subst hF0
    have HF2 := hide (unhide HFA rfl)
    clear hEF HFA
    go_enter Try.func5, Try.ntmps5
    go_wp2_with fail
    rw [← unhide HW2]
    refine Calls.mono (unhide HD1) ?_
    rintro e w3 ⟨vx, Lx, rfl, hdx, hox, hb3⟩
    simp only [if_true] at hdx
    obtain ⟨px, cx, rfl⟩ := hox.1.shape
    have hb3' := (unhide hbo _).trans (hb3.mono (unhide hbo _).size)
    have HX := hide (And.intro hdx (And.intro (hox.1.el prC_len) hb3'))
    obtain ⟨⟨c0, c1, c2⟩, c3, c4, c5⟩ := unhide HCE _ hb3'
    clear hdx hox hb3 hb3'
    go_wp2_with fail
    refine Calls.mono (unhide HD2 _ (unhide HX).2.2) ?_
    rintro e w4 ⟨vy, Ly, rfl, hdy, hoy, hb4⟩
    simp only [if_true] at hdy
    obtain ⟨py, cy, rfl⟩ := hoy.1.shape
    have hb4a : Below w3.heap.size w3 w4 := ((Below.refl _ _).alloc (Nat.le_refl _) _).trans (hb4.mono (by simp))
    have HY := hide (And.intro hdy (And.intro (hoy.1.el prC_len) (And.intro hb4a ((unhide HX).2.2.trans (hb4a.mono (unhide HX).2.2.size)))))
    clear hdy hoy hb4 hb4a c0 c1 c2 c3 c4 c5
    go_wp2_with fail
    refine Calls.mono (unhide HAW _) ?_
    rintro e w5 ⟨rfl, hb5⟩
    have HB5 := hide (And.intro hb5 (And.intro ((unhide HY).2.2.1.trans (hb5.mono (unhide HY).2.2.1.size)) ((unhide HY).2.2.2.trans (hb5.mono (unhide HY).2.2.2.size))))
    obtain ⟨⟨c0, c1, c2⟩, c3, c4, c5⟩ := unhide HCE _ (unhide HB5).2.2
    clear hb5
    by_cases hk : ak = bk
    · subst hk
      obtain ⟨_, hsp, g1, g2, n1, n2⟩ := unhide HF2
      have hG1 := unhide HGT w5 _ Lx (⟨ak, ap, an, ac, ad⟩, av) (⟨ak, bp, bn, bc, bd⟩, bv) ak (unhide HX).1 hsp (unhide HFX).1 (unhide HFX).2 ((unhide HX).2.1.below (unhide HB5).2.1)
      rw [g1 Lx (unhide HX).1 rfl] at hG1
      have HG1 := hide hG1
      have HG2 := hide (fun W (hW : Below w5.heap.size w5 W) => unhide HGT W _ Ly (⟨ak, bp, bn, bc, bd⟩, bv) (⟨ak, ap, an, ac, ad⟩, av) ak (unhide HY).1 hsp (unhide HFX).2 (unhide HFX).1 (((unhide HY).2.1.below (unhide HB5).1).below hW))
      rw [g2 Ly (unhide HY).1] at HG2
      have q1 : (if bd then none else some bv).isSome = !bd := by cases bd <;> rfl
      have q2 : (if ad then none else some av).isSome = !ad := by cases ad <;> rfl
      have q3 : (if bd then none else some bv).getD [] = bv := by
        cases bd with
        | false => rfl
        | true => exact (n1 rfl).symm
      have q4 : (if ad then none else some av).getD [] = av := by
        cases ad with
        | false => rfl
        | true => exact (n2 rfl).symm
      rw [q1, q3] at HG1
      rw [q2, q4] at HG2
      clear hsp g1 g2 n1 n2 q1 q2 q3 q4 hG1 HGT
      go_wp2_with fail
      refine Calls.mono (unhide HG1) ?_
      rintro e w6 ⟨t1, rfl, hm1, hb6⟩
      obtain ⟨tp, tn, tc, rfl⟩ := mine_opv hm1
      have HM1 := hide (And.intro hm1.1 (And.intro hb6 ((unhide HB5).2.2.trans (hb6.mono (unhide HB5).2.2.size))))
      clear c0 c1 c2 c3 c4 c5
      obtain ⟨⟨c0, c1, c2⟩, c3, c4, c5⟩ := unhide HCE _ (unhide HM1).2.2
      clear hm1 hb6
      go_wp2_with fail
      refine Calls.mono (unhide HG2 _ (unhide HM1).2.1) ?_
      rintro e w7 ⟨t2, rfl, hm2, hb7⟩
      obtain ⟨tp', tn', tc', rfl⟩ := mine_opv hm2
      have hb7' := (unhide HM1).2.2.trans (hb7.mono (unhide HM1).2.2.size)
      have HY1 := hide (bytes_any _ _ _ _ w7 ((unhide HM1).1.below hb7) (unhide HEL w7 (unhide HBW _ hb7')).2)
      have HY2 := hide (bytes_any _ _ _ _ w7 hm2.1 (unhide HEL w7 (unhide HBW _ hb7')).1)
      have e1 : (bv == bv) = true := by simp
      have e2 : (av == av) = true := by simp
      rw [e1] at HY1
      rw [e2] at HY2
      unfold vof at HY1 HY2
      simp only at HY1 HY2
      have HZ := hide (unhide HBW _ hb7')
      clear c0 c1 c2 c3 c4 c5
      obtain ⟨⟨c0, c1, c2⟩, c3, c4, c5⟩ := unhide HCE _ hb7'
      clear hm2 hb7 hb7' e1 e2
      go_wp2_with fail
      refine Calls.mono (unhide HY1) ?_
      rintro e w8 ⟨rfl, rfl⟩
      go_wp2_with fail
      refine Calls.mono (unhide HY2) ?_
      rintro e w9 ⟨rfl, rfl⟩
      go_wp2
      go_ret
      exact ⟨by simp, unhide HZ⟩
    · have hk2 : (ak.toList == bk.toList) = false := by
        simp only [beq_eq_false_iff_ne]
        exact fun e => hk (bl_inj e)
      have hk3 : (ak.toList != bk.toList) = true := by
        simp only [bne_iff_ne]
        exact fun e => hk (bl_inj e)
      have HPR := hide (hpairs_any _ _ Lx Ly w5 ((unhide HX).2.1.below (unhide HB5).2.1) ((unhide HY).2.1.below (unhide HB5).1))
      rw [(unhide HF2).1 Lx Ly (unhide HX).1 (unhide HY).1 hk] at HPR
      clear hk
      go_wp2_with fail
      refine Calls.mono (unhide HPR) ?_
      rintro e w6 ⟨rfl, hb6⟩
      have HB6 := hide ((unhide HBW _ (unhide HB5).2.2).trans (hb6.mono (unhide HBW _ (unhide HB5).2.2).size))
      clear hb6
      go_wp2
      go_ret
      exact ⟨rfl, unhide HB6⟩
  · have hF0 : ¬ F = 0 := fun e => hE0 (hEF.2 e)
    have hE1 : (E == 0) = false := by simp [hE0]
    have hE2 : (E != 0) = true := by simp [hE0]
    have hF1 : (F == 0) = false := by simp [hF0]
    have hF2 : (F != 0) = true := by simp [hF0]
    clear hEF HFA
    go_enter Try.func5, Try.ntmps5
    go_wp2_with fail
    rw [← unhide HW2]
    refine Calls.mono (unhide HD1) ?_
    rintro e w3 ⟨vx, Lx, rfl, hdx, hox, hb3⟩
    obtain ⟨px, cx, rfl⟩ := hox.1.shape
    have hb3' := (unhide hbo _).trans (hb3.mono (unhide hbo _).size)
    have HX := hide hb3'
    obtain ⟨⟨c0, c1, c2⟩, c3, c4, c5⟩ := unhide HCE _ hb3'
    clear hdx hox hb3 hb3'
    go_wp2_with fail
    refine Calls.mono (unhide HD2 _ (unhide HX)) ?_
    rintro e w4 ⟨vy, Ly, rfl, hdy, hoy, hb4⟩
    obtain ⟨py, cy, rfl⟩ := hoy.1.shape
    have hb4a : Below w3.heap.size w3 w4 := ((Below.refl _ _).alloc (Nat.le_refl _) _).trans (hb4.mono (by simp))
    have HY := hide ((unhide HX).trans (hb4a.mono (unhide HX).size))
    clear hdy hoy hb4 hb4a c0 c1 c2 c3 c4 c5
    go_wp2_with fail
    refine Calls.mono (unhide HAW _) ?_
    rintro e w5 ⟨rfl, hb5⟩
    have HB5 := hide ((unhide HY).trans (hb5.mono (unhide HY).size))
    clear hb5
    go_wp2_with fail
    refine Calls.mono (unhide HAW _) ?_
    rintro e w6 ⟨rfl, hb6⟩
    have HB6 := hide (unhide HBW _ ((unhide HB5).trans (hb6.mono (unhide HB5).size)))
    clear hb6
    go_wp2
    go_ret
    exact ⟨rfl, unhide HB6⟩

theorem walk_PlainOrder (s0 : Value) (d0 : Dt) (cs1 : Array Value) (d1 : Dt) (cs2 : Array Value) (d2 : Dt) (w : World) (h0 : Reads limSaid w (.row 40 prSh) [s0] d0) (h1 : Reads limSaid w opSh cs1.toList d1) (h2 : Reads limSaid w opSh cs2.toList d2) :
    Calls Try.prog 5 #[s0, .agg cs1, .agg cs2] w fun e w' => e = .returned (.bool true) ∧ Below w.heap.size w w' := by
  obtain ⟨L, e0, o0, l0⟩ := prs_of_reads lim_said h0
  obtain ⟨x, hx, ox⟩ := op_reads lim_said _ _ h1
  obtain ⟨y, hy, oy⟩ := op_reads lim_said _ _ h2
  obtain rfl : cs1 = opA x.1 := Array.toList_inj.1 hx
  obtain rfl : cs2 = opA y.1 := Array.toList_inj.1 hy
  unfold limSaid reachBytes at l0
  exact porder_any s0 L x y w e0 ox.1 oy.1 (fun z hz => (o0 z hz).2.1) ox.2 oy.2 (by omega)
end Go.Proofs.Ytehafkbndjifaab
