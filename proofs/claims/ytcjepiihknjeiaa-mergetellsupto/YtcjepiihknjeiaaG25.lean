/- Texts of ours, one behind the other: MergeSidesWalk. -/
import Derived.Test.YtcjepiihknjeiaaG24
/- The walk of the statement MergeSides. -/
namespace Go.Proofs.Ytcjepiihknjeiaa.QH
open Go.RowKit Go.Shelf
attribute [local go_sem] Oper.semAt_some

theorem ofE_self : ∀ {l : List En} {m : En}, SE l → m ∈ l → ofE l m.1 = some m
  | [], _, _, h => by cases h
  | x :: l, m, hs, h => by
    unfold ofE
    rcases List.mem_cons.1 h with rfl | h
    · rw [if_pos rfl]
    · rw [if_neg (kE_ne (hs.head m h)), ofE_self hs.tail h]
/-- What stands beside an entry of both as one. -/
def SideOk (m : En) (x : En × En) : Prop := (x.1 = e0 ∧ x.2 = m) ∨ (x.1 = m ∧ (x.2 = e0 ∨ x.2.1 = m.1))
theorem side_ok {a b : List En} (ha : rightE a = true) (hb : rightE b = true) {m : En} (hm : m ∈ mrgE [a, b]) : SideOk m (sideE a b m) ∧ kmay m.1 = true := by
  have h1 := ofE_self (SE.mrg _) hm
  rw [ofE_mrg [a, b] m.1 (fun l hl => by
    simp only [List.mem_cons, List.not_mem_nil, or_false] at hl
    rcases hl with rfl | rfl
    · exact (rightE_SE ha).1
    · exact (rightE_SE hb).1)] at h1
  have hk : kmay m.1 = true := by
    obtain ⟨l, hl, hx⟩ := mrg_mem _ m hm
    simp only [List.mem_cons, List.not_mem_nil, or_false] at hl
    rcases hl with rfl | rfl
    · exact (rightE_SE ha).2 m hx
    · exact (rightE_SE hb).2 m hx
  refine ⟨?_, hk⟩
  simp only [List.findSome?_cons, List.findSome?_nil] at h1
  unfold SideOk sideE
  cases h2 : ofE a m.1 with
  | some p =>
    rw [h2] at h1
    simp only [Option.some.injEq] at h1
    refine Or.inr ⟨h1, ?_⟩
    cases h3 : ofE b m.1 with
    | none => exact Or.inl rfl
    | some q => exact Or.inr (ofE_some b m.1 q h3).2
  | none =>
    rw [h2] at h1
    cases h3 : ofE b m.1 with
    | none => rw [h3] at h1; simp at h1
    | some q =>
      rw [h3] at h1
      simp only [Option.some.injEq] at h1
      exact Or.inl ⟨rfl, h1⟩
theorem er_at {W : World} {g o n c : Nat} {X : List En} {k : Nat} {m : En} (h : ER W (.slice (some ⟨g, o, none⟩) n c) X) (hm : X[k]? = some m) (W' : World) (hb : Below W.heap.size W W') :
    W'.cell? ⟨g, o + k * 4, none⟩ = some (.string m.1) ∧ W'.cell? ⟨g, o + k * 4 + 1, none⟩ = some (.int .u64 m.2.1) ∧ W'.cell? ⟨g, o + k * 4 + 2, none⟩ = some (.int .i64 m.2.2.1) ∧ W'.cell? ⟨g, o + k * 4 + 3, none⟩ = some (.int .i64 m.2.2.2) := by
  obtain ⟨g2, o2, c2, e1, _, _, hsn⟩ := h.seen (by have := (List.getElem?_eq_some_iff.1 hm).1; omega)
  simp only [Value.slice.injEq, Option.some.injEq, Addr.mk.injEq] at e1
  obtain ⟨⟨rfl, rfl, _⟩, _⟩ := e1
  exact hsn k m hm W' hb
theorem sideR_len (a b : List En) : (sideR a b).length = (mrgR [a, b]).1.length := by
  simp [sideR]
theorem sides_at {a b : List En} {pre rest : List (En × En)} {x : En × En} (h : sideR a b = pre ++ x :: rest) : ∃ m, (mrgR [a, b]).1[pre.length]? = some m ∧ SideOk m x ∧ kmay m.1 = true := by
  by_cases hz : (mrgR [a, b]).2 = 0
  · obtain ⟨hr, he⟩ := mrgR_zero hz
    unfold sideR at h
    have hx : ((mrgR [a, b]).1.map (sideE a b))[pre.length]? = some x := by rw [h, List.getElem?_append_right (Nat.le_refl _), Nat.sub_self]; rfl
    rw [List.getElem?_map] at hx
    cases hm : (mrgR [a, b]).1[pre.length]? with
    | none => rw [hm] at hx; cases hx
    | some m =>
      rw [hm] at hx
      obtain rfl := Option.some.inj hx
      refine ⟨m, rfl, side_ok (hr a (by simp)) (hr b (by simp)) ?_⟩
      rw [he] at hm
      exact List.mem_of_getElem? hm
  · unfold sideR at h
    rw [mrgR_else hz] at h
    cases pre <;> cases h

set_option maxRecDepth 20000 in
set_option maxHeartbeats 4000000 in
theorem msides_any (v1 v2 : Value) (a b : List En) (w : World) (h1 : ER w v1 a) (h2 : ER w v2 b) (hl : (totE [a, b] + 1) * 40 ≤ 140737488355328) :
    Calls Try.prog 7 #[v1, v2] w fun e w' => e = .returned (.bool true) ∧ Below w.heap.size w w' := by
  refine (callsIn_wide (n := 5)).1 ?_
  refine callsIn_of_wp_marks Try.func7 rfl trivial ?_ rfl
  simp only [Try.ntmps7, List.size_toArray, List.length_cons, List.length_nil, Nat.reduceAdd, Nat.reduceSub, Array.replicate_succ, Array.replicate_zero, List.push_toArray, List.append_toArray, List.nil_append, List.cons_append]
  have HW := hide (fun W (hb : Below w.heap.size w W) => mwalk_any v1 v2 a b W (h1.below hb) (h2.below hb) (by omega))
  have H1 := hide (And.intro h1 h2)
  have HL := hide hl
  obtain ⟨p1, c1, rfl, _⟩ := h1.shape
  obtain ⟨p2, c2, rfl, _⟩ := h2.shape
  have hmx : Try.prog.follows .mixedOrders = true := by kernel_rfl
  have HAW := hide (fun W => mawake12_any W)
  clear h1 h2 hl
  have hb0 : Below w.heap.size w (w.alloc (.cells #[.bool false] 4)) := (Below.refl _ _).alloc (Nat.le_refl _) _
  have HR := hide (World.alloc_heap_new w (.cells #[.bool false] 4))
  have HB0 := hide hb0
  have HWK := hide (unhide HW _ hb0)
  obtain ⟨er, her⟩ : ∃ er, er = (mrgR [a, b]).2 := ⟨_, rfl⟩
  rw [← her] at HWK
  have HER := hide her
  clear hb0 her HW
  gi_wp2_with fail
  refine ⟨trivial, (callsIn_wide.2 (unhide HWK)).mono ?_⟩
  rintro e w1 ⟨f, rfl, hf, b1⟩
  have HF1 := hide hf
  have HB1 := hide ((unhide HB0).trans (b1.mono (unhide HB0).size))
  have HR1 := hide ((b1.block _ (Array.getElem?_eq_some_iff.1 (unhide HR)).1).trans (unhide HR))
  have hq := merge_two _ _ a b w1 ((unhide H1).1.below (unhide HB1)) ((unhide H1).2.below (unhide HB1)) (by have := unhide HL; omega)
  rw [← unhide HER] at hq
  have HQ := hide hq
  obtain ⟨Hn, F, D, rfl, hsq, hli⟩ := hf
  have hnil : ∀ w, (binOp .eql 43 (.func (.func 31) #[] #[.pointer (some ⟨Hn, 0, none⟩)]) .nilFunc).run Try.prog w = .ok (.bool false) w := fun _ => by kernel_rfl
  have HSQ := hide hsq
  have HLI := hide hli
  clear b1 hq hsq hli HWK HF1
  gi_wp2_with fail
  refine ⟨trivial, (callsIn_wide.2 (unhide HQ)).mono ?_⟩
  rintro e w2 ⟨pl, kl, rfl, hl2, b2⟩
  have HB2 := hide ((unhide HB1).trans (b2.mono (unhide HB1).size))
  have HW1S := hide b2.size
  have HR2 := hide ((b2.block _ (Array.getElem?_eq_some_iff.1 (unhide HR1)).1).trans (unhide HR1))
  have HLI2 := hide ((unhide HLI).below b2)
  have HE2 := hide hl2
  generalize hX : (mrgR [a, b]).1 = X at *
  have HX := hide hX
  clear b2 hl2 HQ hX
  have hb3 : Below w2.heap.size w2 (w2.alloc (.cells #[.slice pl X.length kl] 24)) := (Below.refl _ _).alloc (Nat.le_refl _) _
  have HL3 := hide (World.alloc_heap_new w2 (.cells #[.slice pl X.length kl] 24))
  have HB3 := hide hb3
  clear hb3
  gi_wp2_with fail
  refine ⟨trivial, (callsIn_wide.2 (unhide HAW _)).mono ?_⟩
  rintro e w4 ⟨rfl, b4⟩
  have hb4 := (unhide HB3).trans (b4.mono (unhide HB3).size)
  have HB4 := hide (And.intro hb4 (And.intro (unhide HB3).size b4.size))
  have hl4 := (b4.block _ (Array.getElem?_eq_some_iff.1 (unhide HL3)).1).trans (unhide HL3)
  have HL4 := hide hl4
  clear b4 hb4 hl4
  gi_wp2_with fail
  have hb5 : Below w4.heap.size w4 (w4.alloc (.cells #[.int .i64 0] 3)) := (Below.refl _ _).alloc (Nat.le_refl _) _
  have hi5 := World.alloc_heap_new w4 (.cells #[.int .i64 0] 3)
  obtain ⟨w5, hw5⟩ : ∃ w5, w4.alloc (.cells #[.int .i64 0] 3) = w5 := ⟨_, rfl⟩
  have hs5 : w5.heap.size = w4.heap.size + 1 := by rw [← hw5]; simp
  rw [hw5] at hb5 hi5 ⊢
  clear hw5
  obtain ⟨q1, q2, q3⟩ := unhide HB4
  have hlw := (unhide HB2).size
  have hrl : w.heap.size < w2.heap.size := (Array.getElem?_eq_some_iff.1 (unhide HR2)).1
  have h25 := q1.trans (hb5.mono q1.size)
  have HST : Hid (CtJ [(w.heap.size, .cells #[.bool false] 4 (0, 0)), (w2.heap.size, .cells #[.slice pl X.length kl] 24 (0, 0))] w4.heap.size [(.slice pl X.length kl, X)] 0 (fun k => k = w.heap.size ∨ k = w2.heap.size ∨ k = w4.heap.size) w5) := by
    refine ⟨fun x hx => ?_, hi5, fun x hx => ?_, fun k => by simp [or_assoc], fun y hy => ?_⟩
    · simp only [List.mem_cons, List.not_mem_nil, or_false] at hx
      rcases hx with rfl | rfl
      · exact (h25.block _ hrl).trans (unhide HR2)
      · exact (hb5.block _ (Array.getElem?_eq_some_iff.1 (unhide HL4)).1).trans (unhide HL4)
    · simp only [List.mem_cons, List.not_mem_nil, or_false] at hx
      have := q1.size
      have := (Array.getElem?_eq_some_iff.1 (unhide HL4)).1
      rcases hx with rfl | rfl
      · show w.heap.size ≠ w4.heap.size; omega
      · show w2.heap.size ≠ w4.heap.size; omega
    · rw [List.mem_singleton.1 hy]
      exact (unhide HE2).below h25
  have hlow : LowV [(.slice pl X.length kl, X)] w2.heap.size := lowV_of fun y hy => by rw [List.mem_singleton.1 hy]; exact unhide HE2
  have HLOW := hide hlow
  have HLI5 := hide ((unhide HLI2).below h25)
  have HBS := hide (And.intro ((unhide HB2).trans (h25.mono hlw)) (And.intro hrl (And.intro (show w2.heap.size < w4.heap.size from (Array.getElem?_eq_some_iff.1 (unhide HL4)).1) hs5)))
  clear hb5 hi5 hs5 q1 q2 q3 hlw hrl h25 hlow
  refine wpIn_seqHR (C0 := fun k => k = w.heap.size ∨ k = w2.heap.size ∨ k = w4.heap.size) (unhide HSQ) rfl (fun _ _ => by kernel_rfl) (fun _ _ _ _ _ h => by rw [h]; rfl)
    (fun pre C W => (∃ rest, sideR a b = pre ++ rest) ∧ CtJ [(w.heap.size, .cells #[.bool false] 4 (0, 0)), (w2.heap.size, .cells #[.slice pl X.length kl] 24 (0, 0))] w4.heap.size [(.slice pl X.length kl, X)] pre.length C W) (fun _ _ _ _ => False) (CtJ.ok _ _ _ _ ((unhide HLOW).from (by have := unhide HBS; omega)) _ _) (fun _ => SOk.none _) ⟨⟨_, rfl⟩, unhide HST⟩ ?data ?apart ?round ?done ?stop
  case data =>
    intro W hb
    exact (unhide HLI5).stays _ _ (fun _ => False) (unhide HLI5).at_ (Keep.of_below hb) (fun _ _ => id)
  case apart =>
    intro k hk
    have h1 := (unhide HLI5).lt k hk
    have h2 := (unhide HLI).lt k hk
    have h3 := (unhide HLI).low k hk
    rw [World.size_alloc] at h3
    have h4 := unhide HBS
    have h5 := unhide HW1S
    refine ⟨fun hc => ?_, h1⟩
    rcases hc with hc | hc | hc <;> omega
  case round =>
    rintro l2 pre ⟨x, y⟩ rest C W3 WB vs hZ ⟨_, hj3⟩ hm hlt3 hbB hen
    unfold encW at hen
    subst hen
    obtain ⟨m, hm1, hm2, hm3⟩ := sides_at hZ
    rw [unhide HX] at hm1
    have HZ := hide (show ∃ r, sideR a b = (pre ++ [(x, y)]) ++ r from ⟨rest, by rw [hZ]; simp⟩)
    have HM := hide (And.intro hm1 (And.intro hm2 hm3))
    have hbn : Below WB.heap.size WB ((WB.alloc (.cells #[.string x.1, .int .u64 x.2.1, .int .i64 x.2.2.1, .int .i64 x.2.2.2] 37)).alloc (.cells #[.string y.1, .int .u64 y.2.1, .int .i64 y.2.2.1, .int .i64 y.2.2.2] 37)) := ((Below.refl _ _).alloc (Nat.le_refl _) _).alloc (by simp) _
    have hx1 : ((WB.alloc (.cells #[.string x.1, .int .u64 x.2.1, .int .i64 x.2.2.1, .int .i64 x.2.2.2] 37)).alloc (.cells #[.string y.1, .int .u64 y.2.1, .int .i64 y.2.2.1, .int .i64 y.2.2.2] 37)).heap[WB.heap.size]? = some (.cells #[.string x.1, .int .u64 x.2.1, .int .i64 x.2.2.1, .int .i64 x.2.2.2] 37 (0, 0)) := (Below.heap_alloc _ _ _ (by simp)).trans (World.alloc_heap_new WB _)
    have hy1 : ((WB.alloc (.cells #[.string x.1, .int .u64 x.2.1, .int .i64 x.2.2.1, .int .i64 x.2.2.2] 37)).alloc (.cells #[.string y.1, .int .u64 y.2.1, .int .i64 y.2.2.1, .int .i64 y.2.2.2] 37)).heap[WB.heap.size + 1]? = some (.cells #[.string y.1, .int .u64 y.2.1, .int .i64 y.2.2.1, .int .i64 y.2.2.2] 37 (0, 0)) := by
      have := World.alloc_heap_new (WB.alloc (.cells #[.string x.1, .int .u64 x.2.1, .int .i64 x.2.2.1, .int .i64 x.2.2.2] 37)) (.cells #[.string y.1, .int .u64 y.2.1, .int .i64 y.2.2.1, .int .i64 y.2.2.2] 37); rwa [World.size_alloc] at this
    have HI2 := hide (And.intro (And.intro ((hj3.below hbB).below hbn) (And.intro hx1 hy1)) ((Moves.of_below (F := C) hbB).trans (Moves.of_below hbn)))
    have HSB := hide (Nat.lt_of_lt_of_le hlt3 hbB.size)
    have HW3 := hide hbB.size
    have HNC := hide (show ∀ k, C k → k ≠ WB.heap.size from fun k hc e => absurd (hj3.lt k hc) (by have := hbB.size; omega))
    unfold eV
    clear hZ hj3 hm hlt3 hbB hm1 hm2 hm3 hbn hx1 hy1
    gi_wp2
    refine ⟨fun C' Y => C' = (fun k => C k ∨ k = WB.heap.size) ∧ CtJ [(w.heap.size, .cells #[.bool false] 4 (0, 0)), (w2.heap.size, .cells #[.slice pl X.length kl] 24 (0, 0))] w4.heap.size [(.slice pl X.length kl, X)] pre.length C Y ∧ Y.heap[WB.heap.size]? = some (.cells #[.string x.1, .int .u64 x.2.1, .int .i64 x.2.2.1, .int .i64 x.2.2.2] 37 (0, 0)) ∧ Y.heap[WB.heap.size + 1]? = some (.cells #[.string y.1, .int .u64 y.2.1, .int .i64 y.2.2.1, .int .i64 y.2.2.2] 37 (0, 0)), (fun k => C k ∨ k = WB.heap.size), ?put, ⟨rfl, (unhide HI2).1⟩, ⟨(unhide HI2).2.keep, fun k hk => hk.elim (fun h => Or.inl h) (fun h => Or.inr (by have := unhide HW3; omega))⟩, fun W4 hi4 hm4 => ?_⟩
    case put =>
      rintro hn Y o ⟨h0, h1, h2, h3⟩
      clear h0
      have hp := keep_put Y (w5.heap.size + 1) o
      have hs := unhide HBS
      have hb := unhide HSB
      exact ⟨rfl, h1.stays hp (fun k hc e => hn (Or.inl (e ▸ hc))) (fun y hy g o c e hp2 e2 => by have := (unhide HLOW) y hy g o c e hp2; omega), (hp.block _ (Array.getElem?_eq_some_iff.1 h2).1 (by omega)).trans h2, (hp.block _ (Array.getElem?_eq_some_iff.1 h3).1 (by omega)).trans h3⟩
    obtain ⟨_, hct, hxc, hyc⟩ := hi4
    have hCB : ∀ k, C k → k ≠ WB.heap.size := fun k hc e => (unhide HNC) k hc e
    obtain ⟨x0, x1, x2, x3, xf⟩ := ecells hxc
    obtain ⟨y0, y1, y2, y3, _⟩ := ecells hyc
    have hl4 := hct.1 (w2.heap.size, .cells #[.slice pl X.length kl] 24 (0, 0)) (by simp)
    have hi4 := hct.2.1
    have lc : W4.cell? ⟨w2.heap.size, 0, none⟩ = some (.slice pl X.length kl) := by rw [cell_of_row W4 _ _ _ _ (0, 0) hl4]; rfl
    have ic : W4.cell? ⟨w4.heap.size, 0, none⟩ = some (.int .i64 (pre.length : Int)) := by rw [cell_of_row W4 _ _ _ _ (0, 0) hi4]; rfl
    have ifz : W4.frozen? ⟨w4.heap.size, 0, none⟩ = false := frozen_of_block hi4
    obtain ⟨hm1, hm2, hm3⟩ := unhide HM
    have hlen := (List.getElem?_eq_some_iff.1 hm1).1
    have hlI : (pre.length : Int) < (X.length : Int) := by omega
    have hlI2 : ¬ (X.length : Int) ≤ (pre.length : Int) := by omega
    obtain ⟨g, o, c', e1, hc1, _, hsn⟩ := (hct.2.2.2.2 (.slice pl X.length kl, X) (by simp)).seen (by show 0 < X.length; omega)
    simp only [Value.slice.injEq] at e1
    obtain ⟨rfl, _, rfl⟩ := e1
    have HMX := hide hm1
    have hXl : X.length < 4611686018427387904 := by have := mrgR_len [a, b]; have h9 := unhide HL; rw [unhide HX] at this; omega
    have hnw : IntKind.i64.wrap ((pre.length : Int) + 1) = (pre.length : Int) + 1 := by rw [IntKind.wrap_i64]; omega
    have HCT := hide hct
    have HXY := hide (And.intro hxc hyc)
    have HCB := hide hCB
    have HM4 := hide hm4
    have xf0 := xf 0
    have xf1 := xf 1
    have xf2 := xf 2
    have xf3 := xf 3
    clear hct hxc hyc hl4 hi4 hlen hsn hXl xf hm1 HM HI2 hm4
    have hk1 : (m.1.toList == ([] : List UInt8)) = false := beq_eq_false_iff_ne.2 fun e => by
      have h9 : m.1 = ⟨#[]⟩ := bl_inj (by rw [e, ByteArray.toList_eq])
      rw [h9] at hm3
      cases hm3
    have hk0 : e0.1.toList.isEmpty = true := by kernel_rfl
    have hmX := unhide HMX
    rcases hm2 with ⟨e1, e2⟩ | ⟨e1, e2⟩
    case inl =>
      subst e1
      subst e2
      gi_wp2_with fail
      obtain ⟨hs1, hs2⟩ := eset (x := .string y.1) (y := .int .u64 y.2.1) (z := .int .i64 y.2.2.1) (t := .int .i64 y.2.2.2) (unhide HXY).1
      have hct5 := (unhide HCT).stays hs2 (fun k hc e => unhide HCB k hc e) (fun v hv gg oo cc e hp2 => by have := unhide HLOW v hv gg oo cc e hp2; have := unhide HBS; have := unhide HSB; omega)
      have hcy5 := (hs2.block _ (Array.getElem?_eq_some_iff.1 (unhide HXY).2).1 (by omega)).trans (unhide HXY).2
      generalize ((((W4.setCell ⟨WB.heap.size, 0, none⟩ (.string y.1)).setCell ⟨WB.heap.size, 1, none⟩ (.int .u64 y.2.1)).setCell ⟨WB.heap.size, 2, none⟩ (.int .i64 y.2.2.1)).setCell ⟨WB.heap.size, 3, none⟩ (.int .i64 y.2.2.2)) = W5 at *
      have HCT5 := hide hct5
      have HX5 := hide (And.intro hs1 hcy5)
      have HK5 : Hid (Moves (fun k => C k ∨ k = WB.heap.size) C W4 W5) := hide ⟨hs2.weak fun k e => Or.inr e, fun k hk => Or.inl (Or.inl hk)⟩
      clear hs1 hs2 hct5 hcy5
      have h5L := (unhide HCT5).1 (w2.heap.size, .cells #[.slice (some ⟨g, o, none⟩) X.length kl] 24 (0, 0)) (by simp)
      have h5I := (unhide HCT5).2.1
      have h5R := er_at ((unhide HCT5).2.2.2.2 (.slice (some ⟨g, o, none⟩) X.length kl, X) (by simp)) hmX
      have h5X := (unhide HX5).1
      have h5Y := (unhide HX5).2
      obtain ⟨CC, hCC⟩ : ∃ CC : World → Prop, CC = fun w' => Below W5.heap.size W5 w' := ⟨_, rfl⟩
      have HCC : Hid (∀ w', CC w' → w'.cell? ⟨w2.heap.size, 0, none⟩ = some (.slice (some ⟨g, o, none⟩) X.length kl) ∧ w'.cell? ⟨w4.heap.size, 0, none⟩ = some (.int .i64 (pre.length : Int)) ∧ w'.frozen? ⟨w4.heap.size, 0, none⟩ = false ∧ w'.cell? ⟨WB.heap.size + 1, 0, none⟩ = some (.string y.1) ∧ (w'.cell? ⟨WB.heap.size, 0, none⟩ = some (.string y.1) ∧ w'.cell? ⟨WB.heap.size, 1, none⟩ = some (.int .u64 y.2.1) ∧ w'.cell? ⟨WB.heap.size, 2, none⟩ = some (.int .i64 y.2.2.1) ∧ w'.cell? ⟨WB.heap.size, 3, none⟩ = some (.int .i64 y.2.2.2)) ∧ (w'.cell? ⟨g, o + pre.length * 4, none⟩ = some (.string y.1) ∧ w'.cell? ⟨g, o + pre.length * 4 + 1, none⟩ = some (.int .u64 y.2.1) ∧ w'.cell? ⟨g, o + pre.length * 4 + 2, none⟩ = some (.int .i64 y.2.2.1) ∧ w'.cell? ⟨g, o + pre.length * 4 + 3, none⟩ = some (.int .i64 y.2.2.2))) := by
        unfold Hid
        rw [hCC]
        intro w' hw
        have q1 := (hw.block _ (Array.getElem?_eq_some_iff.1 h5L).1).trans h5L
        have q2 := (hw.block _ (Array.getElem?_eq_some_iff.1 h5I).1).trans h5I
        have q3 := (hw.block _ (Array.getElem?_eq_some_iff.1 h5X).1).trans h5X
        have q4 := (hw.block _ (Array.getElem?_eq_some_iff.1 h5Y).1).trans h5Y
        obtain ⟨x0, x1, x2, x3, _⟩ := ecells q3
        exact ⟨by rw [cell_of_row w' _ _ _ _ (0, 0) q1]; rfl, by rw [cell_of_row w' _ _ _ _ (0, 0) q2]; rfl, frozen_of_block q2, (ecells q4).1, ⟨x0, x1, x2, x3⟩, h5R w' hw⟩
      have HC0 : Hid (CC { W5 with drawn := W5.drawn + 1 }) := by unfold Hid; rw [hCC]; exact (Below.refl _ W5).drew
      have HCW : Hid (∀ w', CC w' → Below W5.heap.size W5 w') := by unfold Hid; rw [hCC]; exact fun w' hw => hw
      clear hCC h5L h5I h5R h5X h5Y
      have hlN : ¬ X.length ≤ pre.length := by omega
      refine region_calmW CC (by kernel_rfl) (by kernel_rfl) (by simp) (unhide HC0) ?_
      repeat (first
        | go_big_quiet_skip
        | (go_big_quiet_want
           apply Exists.intro
           refine ⟨fun w' hw' => ?_, ?_⟩
           · obtain ⟨d0, d1, _, d2, ⟨d3, d4, d5, d6⟩, d7, d8, d9, d10⟩ := unhide HCC w' hw'
             go_simp
             first | done | rfl
           simp only [Act.put, List.setIfInBounds_toArray, List.set_cons_zero, List.set_cons_succ]
           go_big_quiet_on))
      refine wpQuiet_nil ?_
      intro W6 hw6
      obtain ⟨_, d1, d1f, _⟩ := unhide HCC W6 hw6
      have HB6 := hide (unhide HCW W6 hw6)
      clear hw6 HCC HC0 HCW
      gi_wp2_with fail
      have ht := ((unhide HCT5).below (unhide HB6)).tick (fun v hv gg oo cc e hp2 => by have := unhide HLOW v hv gg oo cc e hp2; have := unhide HBS; omega)
      refine ⟨C, ⟨unhide HZ, ?_⟩, (unhide HK5).trans ((Moves.of_below (unhide HB6)).trans ht.2)⟩
      rw [List.length_append]
      exact ht.1

    case inr =>
      subst e1
      rcases e2 with e2 | e2
      · subst e2
        gi_wp2_with fail
        have h5L := (unhide HCT).1 (w2.heap.size, .cells #[.slice (some ⟨g, o, none⟩) X.length kl] 24 (0, 0)) (by simp)
        have h5I := (unhide HCT).2.1
        have h5R := er_at ((unhide HCT).2.2.2.2 (.slice (some ⟨g, o, none⟩) X.length kl, X) (by simp)) hmX
        have h5X := (unhide HXY).1
        have h5Y := (unhide HXY).2
        obtain ⟨CC, hCC⟩ : ∃ CC : World → Prop, CC = fun w' => Below W4.heap.size W4 w' := ⟨_, rfl⟩
        have HCC : Hid (∀ w', CC w' → w'.cell? ⟨w2.heap.size, 0, none⟩ = some (.slice (some ⟨g, o, none⟩) X.length kl) ∧ w'.cell? ⟨w4.heap.size, 0, none⟩ = some (.int .i64 (pre.length : Int)) ∧ w'.frozen? ⟨w4.heap.size, 0, none⟩ = false ∧ w'.cell? ⟨WB.heap.size + 1, 0, none⟩ = some (.string e0.1) ∧ (w'.cell? ⟨WB.heap.size, 0, none⟩ = some (.string x.1) ∧ w'.cell? ⟨WB.heap.size, 1, none⟩ = some (.int .u64 x.2.1) ∧ w'.cell? ⟨WB.heap.size, 2, none⟩ = some (.int .i64 x.2.2.1) ∧ w'.cell? ⟨WB.heap.size, 3, none⟩ = some (.int .i64 x.2.2.2)) ∧ (w'.cell? ⟨g, o + pre.length * 4, none⟩ = some (.string x.1) ∧ w'.cell? ⟨g, o + pre.length * 4 + 1, none⟩ = some (.int .u64 x.2.1) ∧ w'.cell? ⟨g, o + pre.length * 4 + 2, none⟩ = some (.int .i64 x.2.2.1) ∧ w'.cell? ⟨g, o + pre.length * 4 + 3, none⟩ = some (.int .i64 x.2.2.2))) := by
          unfold Hid
          rw [hCC]
          intro w' hw
          have q1 := (hw.block _ (Array.getElem?_eq_some_iff.1 h5L).1).trans h5L
          have q2 := (hw.block _ (Array.getElem?_eq_some_iff.1 h5I).1).trans h5I
          have q3 := (hw.block _ (Array.getElem?_eq_some_iff.1 h5X).1).trans h5X
          have q4 := (hw.block _ (Array.getElem?_eq_some_iff.1 h5Y).1).trans h5Y
          obtain ⟨x0, x1, x2, x3, _⟩ := ecells q3
          exact ⟨by rw [cell_of_row w' _ _ _ _ (0, 0) q1]; rfl, by rw [cell_of_row w' _ _ _ _ (0, 0) q2]; rfl, frozen_of_block q2, (ecells q4).1, ⟨x0, x1, x2, x3⟩, h5R w' hw⟩
        have HC0 : Hid (CC { W4 with drawn := W4.drawn + 1 }) := by unfold Hid; rw [hCC]; exact (Below.refl _ W4).drew
        have HCW : Hid (∀ w', CC w' → Below W4.heap.size W4 w') := by unfold Hid; rw [hCC]; exact fun w' hw => hw
        clear hCC h5L h5I h5R h5X h5Y
        have hlN : ¬ X.length ≤ pre.length := by omega
        refine region_calmW CC (by kernel_rfl) (by kernel_rfl) (by simp) (unhide HC0) ?_
        repeat (first
          | go_big_quiet_skip
          | (go_big_quiet_want
             apply Exists.intro
             refine ⟨fun w' hw' => ?_, ?_⟩
             · obtain ⟨d0, d1, _, d2, ⟨d3, d4, d5, d6⟩, d7, d8, d9, d10⟩ := unhide HCC w' hw'
               go_simp
               first | done | rfl
             simp only [Act.put, List.setIfInBounds_toArray, List.set_cons_zero, List.set_cons_succ]
             go_big_quiet_on))
        refine wpQuiet_nil ?_
        intro W6 hw6
        obtain ⟨_, d1, d1f, _⟩ := unhide HCC W6 hw6
        have HB6 := hide (unhide HCW W6 hw6)
        clear hw6 HCC HC0 HCW
        gi_wp2_with fail
        have ht := ((unhide HCT).below (unhide HB6)).tick (fun v hv gg oo cc e hp2 => by have := unhide HLOW v hv gg oo cc e hp2; have := unhide HBS; omega)
        refine ⟨C, ⟨unhide HZ, ?_⟩, (show Moves (fun k => C k ∨ k = WB.heap.size) C W4 W4 from ⟨Keep.refl _ _, fun k hk => Or.inl (Or.inl hk)⟩).trans ((Moves.of_below (unhide HB6)).trans ht.2)⟩
        rw [List.length_append]
        exact ht.1

      · rw [e2] at HXY y0
        gi_wp2_with fail
        have h5L := (unhide HCT).1 (w2.heap.size, .cells #[.slice (some ⟨g, o, none⟩) X.length kl] 24 (0, 0)) (by simp)
        have h5I := (unhide HCT).2.1
        have h5R := er_at ((unhide HCT).2.2.2.2 (.slice (some ⟨g, o, none⟩) X.length kl, X) (by simp)) hmX
        have h5X := (unhide HXY).1
        have h5Y := (unhide HXY).2
        obtain ⟨CC, hCC⟩ : ∃ CC : World → Prop, CC = fun w' => Below W4.heap.size W4 w' := ⟨_, rfl⟩
        have HCC : Hid (∀ w', CC w' → w'.cell? ⟨w2.heap.size, 0, none⟩ = some (.slice (some ⟨g, o, none⟩) X.length kl) ∧ w'.cell? ⟨w4.heap.size, 0, none⟩ = some (.int .i64 (pre.length : Int)) ∧ w'.frozen? ⟨w4.heap.size, 0, none⟩ = false ∧ w'.cell? ⟨WB.heap.size + 1, 0, none⟩ = some (.string x.1) ∧ (w'.cell? ⟨WB.heap.size, 0, none⟩ = some (.string x.1) ∧ w'.cell? ⟨WB.heap.size, 1, none⟩ = some (.int .u64 x.2.1) ∧ w'.cell? ⟨WB.heap.size, 2, none⟩ = some (.int .i64 x.2.2.1) ∧ w'.cell? ⟨WB.heap.size, 3, none⟩ = some (.int .i64 x.2.2.2)) ∧ (w'.cell? ⟨g, o + pre.length * 4, none⟩ = some (.string x.1) ∧ w'.cell? ⟨g, o + pre.length * 4 + 1, none⟩ = some (.int .u64 x.2.1) ∧ w'.cell? ⟨g, o + pre.length * 4 + 2, none⟩ = some (.int .i64 x.2.2.1) ∧ w'.cell? ⟨g, o + pre.length * 4 + 3, none⟩ = some (.int .i64 x.2.2.2))) := by
          unfold Hid
          rw [hCC]
          intro w' hw
          have q1 := (hw.block _ (Array.getElem?_eq_some_iff.1 h5L).1).trans h5L
          have q2 := (hw.block _ (Array.getElem?_eq_some_iff.1 h5I).1).trans h5I
          have q3 := (hw.block _ (Array.getElem?_eq_some_iff.1 h5X).1).trans h5X
          have q4 := (hw.block _ (Array.getElem?_eq_some_iff.1 h5Y).1).trans h5Y
          obtain ⟨x0, x1, x2, x3, _⟩ := ecells q3
          exact ⟨by rw [cell_of_row w' _ _ _ _ (0, 0) q1]; rfl, by rw [cell_of_row w' _ _ _ _ (0, 0) q2]; rfl, frozen_of_block q2, (ecells q4).1, ⟨x0, x1, x2, x3⟩, h5R w' hw⟩
        have HC0 : Hid (CC { W4 with drawn := W4.drawn + 1 }) := by unfold Hid; rw [hCC]; exact (Below.refl _ W4).drew
        have HCW : Hid (∀ w', CC w' → Below W4.heap.size W4 w') := by unfold Hid; rw [hCC]; exact fun w' hw => hw
        clear hCC h5L h5I h5R h5X h5Y
        have hlN : ¬ X.length ≤ pre.length := by omega
        refine region_calmW CC (by kernel_rfl) (by kernel_rfl) (by simp) (unhide HC0) ?_
        repeat (first
          | go_big_quiet_skip
          | (go_big_quiet_want
             apply Exists.intro
             refine ⟨fun w' hw' => ?_, ?_⟩
             · obtain ⟨d0, d1, _, d2, ⟨d3, d4, d5, d6⟩, d7, d8, d9, d10⟩ := unhide HCC w' hw'
               go_simp
               first | done | rfl
             simp only [Act.put, List.setIfInBounds_toArray, List.set_cons_zero, List.set_cons_succ]
             go_big_quiet_on))
        refine wpQuiet_nil ?_
        intro W6 hw6
        obtain ⟨_, d1, d1f, _⟩ := unhide HCC W6 hw6
        have HB6 := hide (unhide HCW W6 hw6)
        clear hw6 HCC HC0 HCW
        gi_wp2_with fail
        have ht := ((unhide HCT).below (unhide HB6)).tick (fun v hv gg oo cc e hp2 => by have := unhide HLOW v hv gg oo cc e hp2; have := unhide HBS; omega)
        refine ⟨C, ⟨unhide HZ, ?_⟩, (show Moves (fun k => C k ∨ k = WB.heap.size) C W4 W4 from ⟨Keep.refl _ _, fun k hk => Or.inl (Or.inl hk)⟩).trans ((Moves.of_below (unhide HB6)).trans ht.2)⟩
        rw [List.length_append]
        exact ht.1

  case done =>
    rintro dd C W6 hdd ⟨_, hct⟩ hm hnc hK
    have hlen : (sideR a b).length = X.length := by rw [sideR_len, unhide HX]
    have hl6 := hct.1 (w2.heap.size, .cells #[.slice pl X.length kl] 24 (0, 0)) (by simp)
    have hr6 := hct.1 (w.heap.size, .cells #[.bool false] 4 (0, 0)) (by simp)
    have hi6 := hct.2.1
    rw [hlen] at hi6
    have lc : W6.cell? ⟨w2.heap.size, 0, none⟩ = some (.slice pl X.length kl) := by rw [cell_of_row W6 _ _ _ _ (0, 0) hl6]; rfl
    have ic : W6.cell? ⟨w4.heap.size, 0, none⟩ = some (.int .i64 (X.length : Int)) := by rw [cell_of_row W6 _ _ _ _ (0, 0) hi6]; rfl
    have rc : W6.cell? ⟨w.heap.size, 0, none⟩ = some (.bool false) := by rw [cell_of_row W6 _ _ _ _ (0, 0) hr6]; rfl
    have rfz : W6.frozen? ⟨w.heap.size, 0, none⟩ = false := frozen_of_block hr6
    have HE := hide (And.intro hm (And.intro hnc hdd))
    have HK := hide hK
    have HR6 := hide hr6
    clear hct hl6 hr6 hi6 hm hnc hK hdd
    gi_wp2_with fail
    obtain ⟨hm, hnc, hdd⟩ := unhide HE
    have hbs := unhide HBS
    have hne : dd ≠ w.heap.size := by have := hbs.1.size; omega
    have hK9 : (W6.setCell ⟨w.heap.size, 0, none⟩ (.bool true)).heap[dd]? = some (.deferred (some [])) := (heap_setCell_other W6 ⟨w.heap.size, 0, none⟩ dd _ (fun e => hne (by simpa using e))).trans (unhide HK)
    have hR9 := heap_setCell_same W6 w.heap.size 0 _ _ (.bool true) (unhide HR6)
    have hR10 : ((W6.setCell ⟨w.heap.size, 0, none⟩ (.bool true)).putObj dd (.deferred none)).heap[w.heap.size]? = some (.cells #[.bool true] 4 (0, 0)) := (World.putObj_heap_other (by omega)).trans hR9
    have c10 : ((W6.setCell ⟨w.heap.size, 0, none⟩ (.bool true)).putObj dd (.deferred none)).cell? ⟨w.heap.size, 0, none⟩ = some (.bool true) := by rw [cell_of_row _ w.heap.size _ _ _ (0, 0) hR10]; rfl
    refine ⟨by simp, .inl ⟨_, _, rfl, run_takeDeferred hK9, ?_⟩⟩
    refine ⟨.bool true, ?_, rfl, ?_⟩
    · simp [results, Try.results7, go_sem, c10]
    · have hm9 : Moves (fun k => k = w.heap.size ∨ k = w2.heap.size ∨ k = w4.heap.size) (fun k => C k ∨ k = w.heap.size) w5 (W6.setCell ⟨w.heap.size, 0, none⟩ (.bool true)) := ⟨hm.keep.trans (keep_set W6 w.heap.size 0 _) (fun k e => Or.inl (Or.inl e)), fun k hk => hk.elim (hm.sub k) (fun e => Or.inl (Or.inl e))⟩
      exact below_put hbs.1 hm9 (fun k hk => by omega) hdd _
  case stop =>
    rintro dd c pre x rest C W _ _ h
    exact h.elim
end Go.Proofs.Ytcjepiihknjeiaa.QH
namespace Go.Proofs.Ytcjepiihknjeiaa
open Go.RowKit QH
theorem walk_MergeSides (s0 : Value) (d0 : Dt) (s1 : Value) (d1 : Dt) (w : World) (h0 : Reads limUpto w (.row 40 enSh) [s0] d0) (h1 : Reads limUpto w (.row 40 enSh) [s1] d1) :
    Calls Try.prog 7 #[s0, s1] w fun e w' => e = .returned (.bool true) ∧ Below w.heap.size w w' := by
  obtain ⟨a, ha1, ha2, ha3⟩ := ers_of_reads h0
  obtain ⟨b, hb1, hb2, hb3⟩ := ers_of_reads h1
  refine msides_any s0 s1 a b w ha1 hb1 (upto_tot (LL := [a, b]) (fun l hl => ?_) (by unfold limUpto; simp)).1
  simp only [List.mem_cons, List.not_mem_nil, or_false] at hl
  rcases hl with rfl | rfl
  · exact ⟨ha2, ha3⟩
  · exact ⟨hb2, hb3⟩
end Go.Proofs.Ytcjepiihknjeiaa
