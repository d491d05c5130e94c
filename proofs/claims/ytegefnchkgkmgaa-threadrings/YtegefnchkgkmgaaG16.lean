/- Texts of ours, one behind the other: CelAt, CelRef, CelRef2, CelRefAt. -/
import Derived.Test.YtegefnchkgkmgaaG4
import Derived.Test.YtegefnchkgkmgaaG9
import Derived.Test.YtegefnchkgkmgaaG10
/- The landed package cells: At. -/
namespace Go.Proofs.Ytegefnchkgkmgaa
open Go.RowKit Go.Shelf
attribute [local go_sem] Oper.semAt_some

/-- What At answers: kind, pointers, data, error. -/
def atR (ws : List Int) (a : Int) : Int × List Int × List Int × Int := match fndO ws a with
  | some x => (x.2 % 16, ptrsO ws x, dataO ws x, 0)
  | none => (0, [], [], 6)
theorem atR_some {ws : List Int} {pre rest : List (Nat × Int)} {x : Nat × Int} (h : obs ws 1 = pre ++ x :: rest) : atR ws (x.1 : Int) = (x.2 % 16, ptrsO ws x, dataO ws x, 0) := by
  have hf : fndO ws (x.1 : Int) = some x := by
    unfold fndO
    rw [h, List.find?_append]
    have h1 : pre.find? (fun y => decide ((y.1 : Int) = (x.1 : Int))) = none := by
      rw [List.find?_eq_none]
      intro y hy
      have := (obs_ahead h).2 y hy
      simp; omega
    rw [h1]
    simp
  simp only [atR, hf]
theorem atR_none {ws : List Int} {a : Int} (h : ∀ x ∈ obs ws 1, ¬ (x.1 : Int) = a) : atR ws a = (0, [], [], 6) := by
  have hf : fndO ws a = none := by
    unfold fndO
    rw [List.find?_eq_none]
    intro y hy
    simpa using h y hy
  simp only [atR, hf]
/-- Behind a place that is too great nothing more is met. -/
theorem obs_behind {ws : List Int} {pre rest : List (Nat × Int)} {x : Nat × Int} {a : Int} (h : obs ws 1 = pre ++ x :: rest) (h1 : ∀ y ∈ pre, (y.1 : Int) < a) (h2 : a < (x.1 : Int)) : ∀ y ∈ obs ws 1, ¬ (y.1 : Int) = a := by
  intro y hy
  rw [h, List.mem_append, List.mem_cons] at hy
  rcases hy with hy | rfl | hy
  · have := h1 y hy; omega
  · omega
  · obtain ⟨q1, q2, hq⟩ := List.append_of_mem hy
    have hs : obs ws 1 = (pre ++ x :: q1) ++ y :: q2 := by rw [h, hq]; simp
    have := (obs_ahead hs).2 x (by simp)
    omega

/-- All that came lies ahead of the place. -/
def lowP (a : Int) (pre : List (Nat × Int)) : Prop := ∀ y ∈ pre, (y.1 : Int) < a
/-- The variables of At. -/
def atL (n : Nat) (s : Value) (a : Int) : List (Nat × Obj) := [(n, .cells #[s] 22 (0, 0)), (n + 1, .cells #[.int .i64 a] 3 (0, 0)), (n + 1 + 1, .cells #[.int .i64 0, .slice none 0 0, .slice none 0 0] 50 (0, 0)), (n + 1 + 1 + 1, .cells #[.int .i64 0] 28 (0, 0))]
theorem atL_all {n : Nat} {s : Value} {a : Int} {W : World} (h : ∀ x ∈ atL n s a, W.heap[x.1]? = some x.2) : W.heap[n]? = some (.cells #[s] 22 (0, 0)) ∧ W.heap[n + 1]? = some (.cells #[.int .i64 a] 3 (0, 0)) ∧ W.heap[n + 1 + 1]? = some (.cells #[.int .i64 0, .slice none 0 0, .slice none 0 0] 50 (0, 0)) ∧ W.heap[n + 1 + 1 + 1]? = some (.cells #[.int .i64 0] 28 (0, 0)) :=
  ⟨h _ (List.mem_cons_self), h _ (List.mem_cons_of_mem _ List.mem_cons_self), h _ (List.mem_cons_of_mem _ (List.mem_cons_of_mem _ List.mem_cons_self)), h _ (List.mem_cons_of_mem _ (List.mem_cons_of_mem _ (List.mem_cons_of_mem _ List.mem_cons_self)))⟩
theorem atL_mem {n : Nat} {s : Value} {a : Int} {k : Nat} : k ∈ (atL n s a).map Prod.fst ↔ k = n ∨ k = n + 1 ∨ k = n + 1 + 1 ∨ k = n + 1 + 1 + 1 := by simp [atL]
/-- How a round of At leaves. -/
def AtX (n b : Nat) (s : Value) (ws : List Int) (a : Int) (c : Code) (xs : List (Nat × Int)) (C : Nat → Prop) (W : World) : Prop :=
  (c = .exit 0 ∧ (∀ y ∈ xs.dropLast, (y.1 : Int) < a) ∧ (∀ y, xs.getLast? = some y → a < (y.1 : Int)) ∧ BxI (fun _ => atL n s a) (fun _ => True) xs C W) ∨
  (c = .ret ∧ ∃ x p d, xs.getLast? = some x ∧ (x.1 : Int) = a ∧ W.heap[n + 1 + 1]? = some (.cells #[.int .i64 (x.2 % 16), p, d] 50 (0, 0)) ∧ W.heap[n + 1 + 1 + 1]? = some (.cells #[.int .i64 0] 28 (0, 0)) ∧
    W.ownsRow b 3 1 p (ptrsO ws x).length (Iw (ptrsO ws x)) ∧ W.ownsRow b 25 1 d (dataO ws x).length (Uw (dataO ws x)) ∧ (∀ k, C k ↔ k = n + 1 + 1 ∨ k = n + 1 + 1 + 1 ∨ k = n ∨ k = n + 1 ∨ p.ownBlock = some k ∨ d.ownBlock = some k) ∧ n + 1 < W.heap.size)
theorem AtX.ok (n b : Nat) (s : Value) (ws : List Int) (a : Int) (c : Code) (b' : Nat) : SOk b' (AtX n b s ws a c) := by
  refine ⟨fun pre C W W' G h hk hn hg => ?_, fun pre C W h k hc => ?_⟩
  · rcases h with ⟨h1, h2, h3, h4⟩ | ⟨h1, x, p, d, h2, h3, h4, h5, h6, h7, h8, h9⟩
    · exact Or.inl ⟨h1, h2, h3, (BxI.ok _ _ b').stays _ _ _ _ G h4 hk hn hg⟩
    · refine Or.inr ⟨h1, x, p, d, h2, h3, (hk.block _ (Array.getElem?_eq_some_iff.1 h4).1 (hn _ ((h8 _).2 (Or.inl rfl)))).trans h4, (hk.block _ (Array.getElem?_eq_some_iff.1 h5).1 (hn _ ((h8 _).2 (Or.inr (Or.inl rfl))))).trans h5, ownsV_keep h6 hk (fun k e => hn k ((h8 k).2 (by simp [e]))), ownsV_keep h7 hk (fun k e => hn k ((h8 k).2 (by simp [e]))), h8, Nat.lt_of_lt_of_le h9 hk.size⟩
  · rcases h with ⟨h1, h2, h3, h4⟩ | ⟨h1, x, p, d, h2, h3, h4, h5, h6, h7, h8, h9⟩
    · exact (BxI.ok _ _ b').lt _ _ _ h4 k hc
    · rcases (h8 k).1 hc with rfl | rfl | rfl | rfl | e | e
      · exact (Array.getElem?_eq_some_iff.1 h4).1
      · exact (Array.getElem?_eq_some_iff.1 h5).1
      · omega
      · exact h9
      · exact (h6.lt k e).2
      · exact (h7.lt k e).2

set_option maxRecDepth 20000 in
set_option maxHeartbeats 2000000 in
theorem cat_any (s : Value) (ws : List Int) (at' : Int) (w : World) (hs : VRow w s (Uw ws)) (hU : U32 ws) (hl : ws.length ≤ 1099511627777) :
    Calls Try.prog 26 #[s, .int .i64 at'] w fun e w' => ∃ p d kd er ps ds, e = .returned (.tuple #[.agg #[.int .i64 kd, p, d], .int .i64 er]) ∧ atR ws at' = (kd, ps, ds, er) ∧ w'.ownsRow w.heap.size 3 1 p ps.length (Iw ps) ∧ w'.ownsRow w.heap.size 25 1 d ds.length (Uw ds) ∧ Below w.heap.size w w' := by
  refine (callsIn_wide (n := 5)).1 ?_
  refine callsIn_of_wp_marks Try.func26 rfl trivial ?_ rfl
  simp only [Try.ntmps26, List.size_toArray, List.length_cons, List.length_nil, Nat.reduceAdd, Nat.reduceSub, Array.replicate_succ, Array.replicate_zero, List.push_toArray, List.append_toArray, List.nil_append, List.cons_append]
  obtain ⟨a, cap, rfl, hc1, hc2, hc3⟩ := hs.shape
  rw [List.length_map] at *
  have HS := hide hs
  have HU := hide hU
  have HL := hide hl
  clear hs hU hl hc1 hc2 hc3
  obtain ⟨W0, hW0⟩ : ∃ W0, ((((w.alloc (.cells #[.slice a ws.length cap] 22)).alloc (.cells #[.int .i64 at'] 3)).alloc (.cells #[.int .i64 0, .slice none 0 0, .slice none 0 0] 50)).alloc (.cells #[.int .i64 0] 28)) = W0 := ⟨_, rfl⟩
  have HB0 : Hid (Below w.heap.size w W0) := by unfold Hid; rw [← hW0]; exact ((((Below.refl _ w).alloc (Nat.le_refl _) _).alloc (by simp) _).alloc (by simp; omega) _).alloc (by simp; omega) _
  have HSZ : Hid (W0.heap.size = w.heap.size + 4) := by unfold Hid; rw [← hW0]; simp
  have H0 : Hid (∀ x ∈ atL w.heap.size (.slice a ws.length cap) at', W0.heap[x.1]? = some x.2) := by
    unfold Hid
    rw [← hW0]
    obtain ⟨h1, h2, h3, h4⟩ := four_new w (.cells #[.slice a ws.length cap] 22) (.cells #[.int .i64 at'] 3) (.cells #[.int .i64 0, .slice none 0 0, .slice none 0 0] 50) (.cells #[.int .i64 0] 28)
    intro x hx
    simp only [atL, List.mem_cons, List.not_mem_nil, or_false] at hx
    rcases hx with rfl | rfl | rfl | rfl
    · exact h1
    · exact h2
    · exact h3
    · exact h4
  have HW0 := hide hW0
  clear hW0
  gi_wp2_with fail
  rw [unhide HW0]
  clear HW0
  refine ⟨trivial, (callsIn_wide.2 (cobjects_any W0 a ws.length cap)).mono ?_⟩
  rintro e w1 ⟨rfl, rfl⟩
  have HB1 := hide ((Below.refl _ W0).alloc (Nat.le_refl _) (.cells #[.slice a ws.length cap] 22))
  gi_wp2_with fail
  have hr0 := (unhide HS).below (unhide HB0)
  refine wpIn_seqR (C0 := fun k => k ∈ (atL w.heap.size (.slice a ws.length cap) at').map Prod.fst) (objects_seq W0.heap.size (.slice a ws.length cap) ws (unhide HU) (by have := unhide HL; omega)) rfl (fun _ _ => by kernel_rfl) (fun _ => rfl)
    (BxI (fun _ => atL w.heap.size (.slice a ws.length cap) at') (lowP at')) (AtX w.heap.size w.heap.size (.slice a ws.length cap) ws at')
    (BxI.ok _ _ _) (fun _ => AtX.ok _ _ _ _ _ _ _) ?start ?data ?apart ?round ?done ?stop
  case start =>
    have hB := unhide HB1
    refine ⟨(fun y hy => by cases hy), fun x hx => ?_, fun k => Iff.rfl⟩
    have h1 := unhide H0 x hx
    exact (hB.block _ (Array.getElem?_eq_some_iff.1 h1).1).trans h1
  case data =>
    intro W hb
    refine ⟨(hb.cell (p := ⟨W0.heap.size, 0, none⟩) (by simp)).trans (by simp), (hr0.below (unhide HB1)).below hb⟩
  case apart =>
    intro k hk
    have hsz := unhide HSZ
    rw [atL_mem, World.size_alloc]
    rcases hk with rfl | ⟨hne, hk⟩
    · exact ⟨by omega, by omega⟩
    · have hk2 := hs_block (unhide HS) (fun h => hne (List.map_eq_nil_iff.1 h)) k hk
      exact ⟨by omega, by omega⟩
  case round =>
    rintro l pre ⟨p, h⟩ rest C W hZ hi hm
    dsimp only [encO]
    have HZ := hide hZ
    have HI := hide hi
    clear hZ hi hm hr0
    gi_wp2
    refine ⟨_, C, (BxI.ok _ _ _).at pre, unhide HI, Moves.refl _ _, fun W2 hi2 hm2 => ?_⟩
    clear HI
    obtain ⟨hlow, hblk, hC⟩ := hi2
    obtain ⟨b1, b2, b3, b4⟩ := atL_all hblk
    have c1 : W2.cell? ⟨w.heap.size, 0, none⟩ = some (.slice a ws.length cap) := by rw [cell_of_row W2 _ _ _ _ (0, 0) b1]; rfl
    have c2 : W2.cell? ⟨w.heap.size + 1, 0, none⟩ = some (.int .i64 at') := by rw [cell_of_row W2 _ _ _ _ (0, 0) b2]; rfl
    have HLOW := hide hlow
    have HBLK := hide hblk
    have HC := hide hC
    have HM2 := hide hm2
    by_cases heq : (p : Int) = at'
    · subst heq
      clear hlow hblk hC hm2
      obtain ⟨n1, n2, n3, n4⟩ := obs_next (unhide HZ)
      obtain ⟨u0, u1⟩ := (unhide HU).wd p
      dsimp only at n2
      rw [← n2] at u0 u1
      obtain ⟨o1, o2, o3⟩ := n3
      dsimp only at o1 o2 o3
      rw [← n2] at o2 o3
      have hR2 : VRow W2 (.slice a ws.length cap) (Uw ws) := ((unhide HS).below ((unhide HB0).trans ((unhide HB1).mono (unhide HB0).size))).keep (unhide HM2).keep (fun b off c e hne hk => by
        have := hs_block (unhide HS) hne b (by rw [e]; rfl)
        rw [atL_mem] at hk
        omega)
      obtain ⟨q, c', hcut, hrow, _⟩ := hR2.cut_lh Try.underlying22 Try.sizeU32 (p + 1) (szN h - 1) (by rw [List.length_map]; omega)
      have hs1 := szN_int u0
      obtain ⟨m, hm⟩ : ∃ m, m = szN h - 1 := ⟨_, rfl⟩
      rw [← hm] at hcut hrow
      have hcu : ((p + 1 : Nat) : Int) + (m : Int) = (p : Int) + h / 4096 := by omega
      rw [hcu, show ((p + 1 : Nat) : Int) = (p : Int) + 1 by omega] at hcut
      have hw1 : IntKind.i64.wrap ((p : Int) + 1) = (p : Int) + 1 := by have := unhide HL; rw [IntKind.wrap_i64]; omega
      have hw2 : IntKind.i64.wrap ((p : Int) + h / 4096) = (p : Int) + h / 4096 := by have := unhide HL; rw [IntKind.wrap_i64]; omega
      obtain ⟨xs, hxs⟩ : ∃ xs, xs = (ws.drop (p + 1)).take m := ⟨_, rfl⟩
      have hxl : xs.length = m := by rw [hxs, List.length_take, List.length_drop]; omega
      have hrow2 : VRow W2.drew (.slice q m c') (Uw xs) := by
        rw [hxs, Uw, List.map_take, List.map_drop]
        exact hrow.below ((Below.refl _ W2).drew)
      have HOB := hide (cobject_any h (.slice q m c') xs W2.drew u0 u1 hrow2 (by rw [hxl, hm]; have := szN_lt u1; omega) (by rw [hxl, hm]; omega) (fun x hx => by rw [hxs] at hx; exact unhide HU x (List.mem_of_mem_drop (List.mem_of_mem_take hx))))
      have HPD := hide (show xs.take (ptN h) = ptrsO ws (p, h) ∧ xs.drop (ptN h) = dataO ws (p, h) ∧ xs.length - ptN h = (dataO ws (p, h)).length ∧ ptN h = (ptrsO ws (p, h)).length by
        have e1 : xs.take (ptN h) = ptrsO ws (p, h) := by
          rw [hxs, List.take_take, ptrsO, Nat.min_eq_left (by omega)]
        have e2 : xs.drop (ptN h) = dataO ws (p, h) := by
          rw [hxs, List.drop_take, List.drop_drop, dataO, hm]
        refine ⟨e1, e2, ?_, ?_⟩
        · rw [← e2, List.length_drop]
        · rw [← e1, List.length_take, hxl]; omega)
      have HCS := hide (fun w => csize_t h w u0 u1)
      have hmx : Try.prog.follows .mixedOrders = true := by kernel_rfl
      have c1d : ({ W2 with drawn := W2.drawn + 1 } : World).cell? ⟨w.heap.size, 0, none⟩ = some (.slice a ws.length cap) := c1
      have c2d : ({ W2 with drawn := W2.drawn + 1 } : World).cell? ⟨w.heap.size + 1, 0, none⟩ = some (.int .i64 (p : Int)) := c2
      have HB34 := hide (And.intro b3 b4)
      clear n1 n2 n4 o1 o2 o3 hR2 hrow hrow2 hs1 hm hcu hxs hxl b1 b2 b3 b4
      gi_wp2_with fail
      refine region_tailW 9 hmx (by kernel_rfl) (by simp) ?hlo ?_
      case hlo => rintro ⟨a5, w5, h5⟩; exact h5
      simp only [List.take_succ_cons, List.take_zero, List.drop_succ_cons, List.drop_zero]
      repeat (first | still_step | still_call (unhide HCS _))
      refine wpStill_nil ?_
      go_wp2_with fail
      refine Calls.mono (unhide HOB) ?_
      rintro e w6 ⟨vp, vd, rfl, op, od, b6⟩
      obtain ⟨pp, pc, rfl⟩ := ownsV_shape op
      obtain ⟨dp, dc, rfl⟩ := ownsV_shape od
      obtain ⟨b3, b4⟩ := unhide HB34
      have hd1 : Below W2.heap.size W2 W2.drew := (Below.refl _ W2).drew
      have b6' : Below W2.heap.size W2 w6 := hd1.trans (b6.mono (Nat.le_refl _))
      have l3 := (Array.getElem?_eq_some_iff.1 b3).1
      have l4 := (Array.getElem?_eq_some_iff.1 b4).1
      have b3' := (b6'.block _ l3).trans b3
      have b4' := (b6'.block _ l4).trans b4
      obtain ⟨x0, x1, x2, xf⟩ := three_cells b3'
      have xf0 := xf 0
      have xf1 := xf 1
      have xf2 := xf 2
      have y0 : w6.cell? ⟨w.heap.size + 1 + 1 + 1, 0, none⟩ = some (.int .i64 0) := by rw [cell_of_row w6 _ _ _ _ (0, 0) b4']; rfl
      have yf : w6.frozen? ⟨w.heap.size + 1 + 1 + 1, 0, none⟩ = false := frozen_of_block b4'
      have HJ := hide (And.intro b3' (And.intro b4' (And.intro op (And.intro od b6'))))
      have HLL := hide (And.intro l3 l4)
      clear b3 b4 hd1 b6 b6' l3 l4 b3' b4' op od xf c1d c2d c1 c2
      go_wp2_with fail
      gi_wp2_with fail
      obtain ⟨b3, b4, op, od, b6⟩ := unhide HJ
      obtain ⟨l3, l4⟩ := unhide HLL
      obtain ⟨e1, e2, e3, e4⟩ := unhide HPD
      have hs6 := b6.size
      obtain ⟨s3, K3⟩ := set_three (x := .int .i64 (h % 16)) (y := .slice pp (ptN h) pc) (z := .slice dp (xs.length - ptN h) dc) b3
      have b4' := (K3.block _ (by omega) (by omega)).trans b4
      have K4 := keep_set (((w6.setCell ⟨w.heap.size + 1 + 1, 0, none⟩ (.int .i64 (h % 16))).setCell ⟨w.heap.size + 1 + 1, 1, none⟩ (.slice pp (ptN h) pc)).setCell ⟨w.heap.size + 1 + 1, 2, none⟩ (.slice dp (xs.length - ptN h) dc)) (w.heap.size + 1 + 1 + 1) 0 (.int .i64 0)
      have s4 := heap_setCell_same _ (w.heap.size + 1 + 1 + 1) 0 _ _ (.int .i64 0) b4'
      have hs3 := K3.size
      have hs4 := K4.size
      have KK : Keep (fun k => k = w.heap.size + 1 + 1 ∨ k = w.heap.size + 1 + 1 + 1) w6 _ := (K3.weak (fun k hk => Or.inl hk)).trans K4 (fun k hk => Or.inl (Or.inr hk))
      have hpb : ∀ k, (Value.slice pp (ptN h) pc).ownBlock = some k → W2.heap.size ≤ k := fun k e => (op.lt k e).1
      have hdb : ∀ k, (Value.slice dp (xs.length - ptN h) dc).ownBlock = some k → W2.heap.size ≤ k := fun k e => (od.lt k e).1
      have hC := unhide HC
      have hWs : w.heap.size ≤ W2.heap.size := by omega
      refine ⟨fun k => k = w.heap.size + 1 + 1 ∨ k = w.heap.size + 1 + 1 + 1 ∨ k = w.heap.size ∨ k = w.heap.size + 1 ∨ (Value.slice pp (ptN h) pc).ownBlock = some k ∨ (Value.slice dp (xs.length - ptN h) dc).ownBlock = some k, Or.inr ⟨rfl, (p, h), _, _, by simp, rfl, (K4.block _ (by omega) (by omega)).trans s3, s4, ?_, ?_, fun _ => Iff.rfl, by omega⟩, (Keep.of_below b6).trans KK (fun k hk => Or.inl ((hC k).2 (atL_mem.2 (by omega)))), fun k hk => ?_⟩
      · rw [← e4, ← e1]
        exact ownsV_base (ownsV_keep op KK (fun k hk e => by have := hpb k hk; omega)) hWs
      · rw [← e3, ← e2]
        exact ownsV_base (ownsV_keep od KK (fun k hk e => by have := hdb k hk; omega)) hWs
      · rcases hk with hk | hk | hk | hk | hk | hk
        · exact Or.inl ((hC k).2 (atL_mem.2 (by omega)))
        · exact Or.inl ((hC k).2 (atL_mem.2 (by omega)))
        · exact Or.inl ((hC k).2 (atL_mem.2 (by omega)))
        · exact Or.inl ((hC k).2 (atL_mem.2 (by omega)))
        · exact Or.inr (hpb k hk)
        · exact Or.inr (hdb k hk)
    · have hne : ((p : Int) == at') = false := by simpa using heq
      by_cases hgt : at' < (p : Int)
      · have HGT := hide hgt
        clear hlow hblk hC hm2
        gi_wp2_with fail
        refine ⟨C, Or.inl ⟨rfl, by rw [List.dropLast_concat]; exact unhide HLOW, fun y hy => ?_, trivial, unhide HBLK, unhide HC⟩, Moves.refl _ _⟩
        rw [List.getLast?_concat] at hy
        cases hy
        exact unhide HGT
      · have hle : (p : Int) ≤ at' := by omega
        have HLT := hide (show (p : Int) < at' by omega)
        clear hlow hblk hC hm2
        gi_wp2_with fail
        refine ⟨C, ⟨fun y hy => ?_, unhide HBLK, unhide HC⟩, Moves.refl _ _⟩
        rcases List.mem_append.1 hy with hy | hy
        · exact unhide HLOW y hy
        · simp only [List.mem_cons, List.not_mem_nil, or_false] at hy
          rw [hy]
          exact unhide HLT
  case done =>
    rintro dd C W hdd ⟨hlow, hblk, hC⟩ hm hnc hK
    have HNO := hide (atR_none (a := at') (fun x hx => by have := hlow x hx; omega))
    clear hlow
    obtain ⟨b1, b2, b3, b4⟩ := atL_all hblk
    obtain ⟨x0, x1, x2, xf⟩ := three_cells b3
    have xf0 := xf 0
    have xf1 := xf 1
    have xf2 := xf 2
    have y0 : W.cell? ⟨w.heap.size + 1 + 1 + 1, 0, none⟩ = some (.int .i64 0) := by rw [cell_of_row W _ _ _ _ (0, 0) b4]; rfl
    have yf : W.frozen? ⟨w.heap.size + 1 + 1 + 1, 0, none⟩ = false := frozen_of_block b4
    have HJ := hide (And.intro b3 b4)
    have HC := hide hC
    have HM := hide hm
    have HK := hide hK
    have HNC := hide hnc
    clear b1 b2 b3 b4 hm hK hnc hC hblk hr0 xf
    gi_wp2_with fail
    obtain ⟨b3, b4⟩ := unhide HJ
    have hC := unhide HC
    obtain ⟨s3, K3⟩ := set_three (x := .int .i64 0) (y := .slice none 0 0) (z := .slice none 0 0) b3
    have l4 := (Array.getElem?_eq_some_iff.1 b4).1
    have b4' := (K3.block _ l4 (by omega)).trans b4
    have K4 := keep_set (((W.setCell ⟨w.heap.size + 1 + 1, 0, none⟩ (.int .i64 0)).setCell ⟨w.heap.size + 1 + 1, 1, none⟩ (.slice none 0 0)).setCell ⟨w.heap.size + 1 + 1, 2, none⟩ (.slice none 0 0)) (w.heap.size + 1 + 1 + 1) 0 (.int .i64 6)
    have s4 := heap_setCell_same _ (w.heap.size + 1 + 1 + 1) 0 _ _ (.int .i64 6) b4'
    have KK : Keep (fun k => k = w.heap.size + 1 + 1 ∨ k = w.heap.size + 1 + 1 + 1) W _ := (K3.weak (fun k hk => Or.inl hk)).trans K4 (fun k hk => Or.inl (Or.inr hk))
    have n2 : dd ≠ w.heap.size + 1 + 1 := fun e => unhide HNC ((hC dd).2 (atL_mem.2 (by omega)))
    have n3 : dd ≠ w.heap.size + 1 + 1 + 1 := fun e => unhide HNC ((hC dd).2 (atL_mem.2 (by omega)))
    have hdk := (Array.getElem?_eq_some_iff.1 (unhide HK)).1
    have hK2 := (KK.block dd hdk (by omega)).trans (unhide HK)
    refine ⟨by simp, .inl ⟨_, _, rfl, run_takeDeferred hK2, ?_⟩⟩
    have hp := keep_put (((((W.setCell ⟨w.heap.size + 1 + 1, 0, none⟩ (.int .i64 0)).setCell ⟨w.heap.size + 1 + 1, 1, none⟩ (.slice none 0 0)).setCell ⟨w.heap.size + 1 + 1, 2, none⟩ (.slice none 0 0)).setCell ⟨w.heap.size + 1 + 1 + 1, 0, none⟩ (.int .i64 6))) dd (.deferred none)
    have hs4 := KK.size
    have s3' := (hp.block _ (by omega) (fun e => n2 e.symm)).trans ((K4.block _ (by have := K3.size; omega) (by omega)).trans s3)
    have s4' := (hp.block _ (by omega) (fun e => n3 e.symm)).trans s4
    obtain ⟨t0, t1, t2, _⟩ := three_cells s3'
    have t4 := cell_of_row _ _ 0 _ _ (0, 0) s4'
    refine ⟨.tuple #[.agg #[.int .i64 0, .slice none 0 0, .slice none 0 0], .int .i64 6], by simp [results, Try.results26, go_sem, t0, t1, t2, t4], _, _, _, _, rfl, _, _, unhide HNO, World.ownsRow_nil _ _ _ _, World.ownsRow_nil _ _ _ _, ?_⟩
    have h1 := (unhide HB0).trans ((unhide HB1).mono (unhide HB0).size)
    have hm := unhide HM
    refine below_put (C := C) h1 ⟨hm.keep.trans KK (fun k e => Or.inl (atL_mem.2 (by omega))), hm.sub⟩ (fun k hk => ?_) hdd _
    rw [atL_mem] at hk
    omega
  case stop =>
    rintro dd c pre x rest C W hdd hZ hx hm hnc hK
    rcases hx with ⟨rfl, hlow, hgt, _, hblk, hC⟩ | ⟨rfl, x', vp, vd, hx1, hx2, s3, s4, op, od, hC, _⟩
    · rw [List.dropLast_concat] at hlow
      have hgt' := hgt x (by rw [List.getLast?_concat])
      have HNO := hide (atR_none (a := at') (obs_behind hZ hlow hgt'))
      clear hlow hgt hgt' hZ
      obtain ⟨b1, b2, b3, b4⟩ := atL_all hblk
      obtain ⟨x0, x1, x2, xf⟩ := three_cells b3
      have xf0 := xf 0
      have xf1 := xf 1
      have xf2 := xf 2
      have y0 : W.cell? ⟨w.heap.size + 1 + 1 + 1, 0, none⟩ = some (.int .i64 0) := by rw [cell_of_row W _ _ _ _ (0, 0) b4]; rfl
      have yf : W.frozen? ⟨w.heap.size + 1 + 1 + 1, 0, none⟩ = false := frozen_of_block b4
      have HJ := hide (And.intro b3 b4)
      have HC := hide hC
      have HM := hide hm
      have HK := hide hK
      have HNC := hide hnc
      clear b1 b2 b3 b4 hm hK hnc hC hblk hr0 xf
      gi_wp2_with fail
      obtain ⟨b3, b4⟩ := unhide HJ
      have hC := unhide HC
      obtain ⟨s3, K3⟩ := set_three (x := .int .i64 0) (y := .slice none 0 0) (z := .slice none 0 0) b3
      have l4 := (Array.getElem?_eq_some_iff.1 b4).1
      have b4' := (K3.block _ l4 (by omega)).trans b4
      have K4 := keep_set (((W.setCell ⟨w.heap.size + 1 + 1, 0, none⟩ (.int .i64 0)).setCell ⟨w.heap.size + 1 + 1, 1, none⟩ (.slice none 0 0)).setCell ⟨w.heap.size + 1 + 1, 2, none⟩ (.slice none 0 0)) (w.heap.size + 1 + 1 + 1) 0 (.int .i64 6)
      have s4 := heap_setCell_same _ (w.heap.size + 1 + 1 + 1) 0 _ _ (.int .i64 6) b4'
      have KK : Keep (fun k => k = w.heap.size + 1 + 1 ∨ k = w.heap.size + 1 + 1 + 1) W _ := (K3.weak (fun k hk => Or.inl hk)).trans K4 (fun k hk => Or.inl (Or.inr hk))
      have n2 : dd ≠ w.heap.size + 1 + 1 := fun e => unhide HNC ((hC dd).2 (atL_mem.2 (by omega)))
      have n3 : dd ≠ w.heap.size + 1 + 1 + 1 := fun e => unhide HNC ((hC dd).2 (atL_mem.2 (by omega)))
      have hdk := (Array.getElem?_eq_some_iff.1 (unhide HK)).1
      have hK2 := (KK.block dd hdk (by omega)).trans (unhide HK)
      refine ⟨by simp, .inl ⟨_, _, rfl, run_takeDeferred hK2, ?_⟩⟩
      have hp := keep_put (((((W.setCell ⟨w.heap.size + 1 + 1, 0, none⟩ (.int .i64 0)).setCell ⟨w.heap.size + 1 + 1, 1, none⟩ (.slice none 0 0)).setCell ⟨w.heap.size + 1 + 1, 2, none⟩ (.slice none 0 0)).setCell ⟨w.heap.size + 1 + 1 + 1, 0, none⟩ (.int .i64 6))) dd (.deferred none)
      have hs4 := KK.size
      have s3' := (hp.block _ (by omega) (fun e => n2 e.symm)).trans ((K4.block _ (by have := K3.size; omega) (by omega)).trans s3)
      have s4' := (hp.block _ (by omega) (fun e => n3 e.symm)).trans s4
      obtain ⟨t0, t1, t2, _⟩ := three_cells s3'
      have t4 := cell_of_row _ _ 0 _ _ (0, 0) s4'
      refine ⟨.tuple #[.agg #[.int .i64 0, .slice none 0 0, .slice none 0 0], .int .i64 6], by simp [results, Try.results26, go_sem, t0, t1, t2, t4], _, _, _, _, rfl, _, _, unhide HNO, World.ownsRow_nil _ _ _ _, World.ownsRow_nil _ _ _ _, ?_⟩
      have h1 := (unhide HB0).trans ((unhide HB1).mono (unhide HB0).size)
      have hm := unhide HM
      refine below_put (C := C) h1 ⟨hm.keep.trans KK (fun k e => Or.inl (atL_mem.2 (by omega))), hm.sub⟩ (fun k hk => ?_) hdd _
      rw [atL_mem] at hk
      omega
    · rw [List.getLast?_concat] at hx1
      cases hx1
      have HAR := hide (atR_some hZ)
      rw [hx2] at HAR
      obtain ⟨t0, t1, t2, _⟩ := three_cells s3
      have HJ := hide (And.intro s3 (And.intro s4 (And.intro op od)))
      have HC := hide hC
      have HM := hide hm
      have HK := hide hK
      have HNC := hide hnc
      clear s3 s4 op od hC hm hK hnc hx2 hZ hr0 t0 t1 t2
      gi_wp2_with fail
      obtain ⟨s3, s4, op, od⟩ := unhide HJ
      have hC := unhide HC
      have n2 : dd ≠ w.heap.size + 1 + 1 := fun e => unhide HNC ((hC dd).2 (by omega))
      have n3 : dd ≠ w.heap.size + 1 + 1 + 1 := fun e => unhide HNC ((hC dd).2 (by omega))
      refine ⟨by simp, .inl ⟨_, _, rfl, run_takeDeferred (unhide HK), ?_⟩⟩
      have hp := keep_put W dd (.deferred none)
      have s3' := (hp.block _ (Array.getElem?_eq_some_iff.1 s3).1 (fun e => n2 e.symm)).trans s3
      have s4' := (hp.block _ (Array.getElem?_eq_some_iff.1 s4).1 (fun e => n3 e.symm)).trans s4
      obtain ⟨t0, t1, t2, _⟩ := three_cells s3'
      have t4 := cell_of_row _ _ 0 _ _ (0, 0) s4'
      refine ⟨.tuple #[.agg #[.int .i64 (x.2 % 16), vp, vd], .int .i64 0], by simp [results, Try.results26, go_sem, t0, t1, t2, t4], _, _, _, _, _, _, rfl, unhide HAR, ownsV_keep op hp (fun k hk e => unhide HNC ((hC dd).2 (by rw [← e]; simp [hk]))), ownsV_keep od hp (fun k hk e => unhide HNC ((hC dd).2 (by rw [← e]; simp [hk]))), ?_⟩
      have h1 := (unhide HB0).trans ((unhide HB1).mono (unhide HB0).size)
      refine below_put h1 (unhide HM) (fun k hk => ?_) hdd _
      rw [atL_mem] at hk
      omega
end Go.Proofs.Ytegefnchkgkmgaa

/- The reference of layer 13: Places, starts, place. -/
namespace Go.Proofs.Ytegefnchkgkmgaa
open Go.RowKit

theorem rplace_any (g n : Nat) (Z : List (Nat × Int)) (a : Int) (w : World) (h : MkAt w g n Z) :
    Calls Try.prog 73 #[.slice (some ⟨g, 0, none⟩) n n, .int .i64 a] w fun e w' => e = .returned (.bool (isPl n Z a)) ∧ w' = w := by
  by_cases h0 : a = 0
  · subst h0
    rw [show isPl n Z 0 = true by simp [isPl]]
    clear h
    go_enter Try.func73, Try.ntmps73
    go_wp2
    go_ret
    exact ⟨rfl, rfl⟩
  · have hb : (a == 0) = false := by simp [h0]
    by_cases h1 : 0 < a
    · by_cases h2 : a < n
      · obtain ⟨k, rfl⟩ := Int.eq_ofNat_of_zero_le (show 0 ≤ a by omega)
        have hk : k < n := by omega
        have hc := h.cell hk
        have e1 : isPl n Z (k : Int) = decide (k ∈ Z.map Prod.fst) := by
          have q0 : ¬ (k : Int) = 0 := by omega
          have q1 : (0 : Int) < (k : Int) := by omega
          have q2 : (k : Int) < (n : Int) := by omega
          simp only [isPl, q0, q1, q2, decide_true, decide_false, Bool.false_or, Bool.true_and, Int.toNat_natCast]
        rw [e1]
        generalize decide (k ∈ Z.map Prod.fst) = r at *
        clear h e1 hk h0
        go_enter Try.func73, Try.ntmps73
        go_wp2
        go_ret
        exact ⟨rfl, rfl⟩
      · rw [show isPl n Z a = false by simp [isPl, h0, h2]]
        have h2' : (n : Int) ≤ a := by omega
        clear h h0 h2
        go_enter Try.func73, Try.ntmps73
        go_wp2
        go_ret
        exact ⟨rfl, rfl⟩
    · rw [show isPl n Z a = false by simp [isPl, h0, h1]]
      have h1' : a ≤ 0 := by omega
      clear h h0 h1
      go_enter Try.func73, Try.ntmps73
      go_wp2
      go_ret
      exact ⟨rfl, rfl⟩

set_option maxRecDepth 20000 in
set_option maxHeartbeats 2000000 in
theorem rplaces_any (s : Value) (ws : List Int) (w : World) (hs : VRow w s (Uw ws)) (hU : U32 ws) (hl : ws.length ≤ 4194304) :
    Calls Try.prog 77 #[s] w fun e w' => ∃ v, e = .returned (.tuple #[v, .bool (decide (ws.length ≤ endO (obs ws 1)))]) ∧ w'.ownsRow w.heap.size 3 1 v (obs ws 1).length (plV (obs ws 1)) ∧ Below w.heap.size w w' := by
  obtain ⟨a, cap, rfl, g1, g2, g3⟩ := hs.shape
  rw [List.length_map] at *
  obtain ⟨i0, hi, hz0, hz1, hz2⟩ := info_parts Try.infoI64
  have HS := hide hs
  have HU := hide hU
  have HL := hide hl
  clear hs hU hl g1 g2 g3
  go_enter Try.func77, Try.ntmps77
  go_wp2_with fail
  go_loopw [4, 5] (fun o i wr => ∃ (pre rest : List (Nat × Int)), i = .int .i64 ((endO pre : Nat) : Int) ∧ obs ws 1 = pre ++ rest ∧ wr.ownsRow w.heap.size 3 1 o pre.length (plV pre) ∧ Below w.heap.size w wr) (fun _ i _ => ws.length + 1 - (intOf i).toNat)
  case atStart => exact ⟨[], _, rfl, rfl, World.ownsRow_nil _ _ _ _, Below.refl _ _⟩
  case round =>
    obtain ⟨pre, rest, rfl, hZ, hown, hb⟩ := hrel
    obtain ⟨e1, e2⟩ := endO_le hZ
    have hsp := obs_split hZ
    have hep : pre.foldl (fun _ x => x.1 + szN x.2) 1 = endO pre := rfl
    rw [hep] at hsp
    obtain ⟨pv, cv, rfl⟩ := ownsV_shape hown
    have hlen : pre.length ≤ 4194304 := by
      have h1 := obs_len ws
      have := unhide HL
      rw [hZ] at h1
      simp at h1
      omega
    obtain ⟨p, hp⟩ : ∃ p, p = endO pre := ⟨_, rfl⟩
    rw [← hp] at hsp e1 e2 ⊢
    have HP := hide hp
    clear hep hp
    by_cases hlt : p < ws.length
    · have hpI : (p : Int) < (ws.length : Int) := by omega
      obtain ⟨b, off, cz, e0, g1, g2, hcl⟩ := ((unhide HS).below hb).open (by intro e; have := congrArg List.length e; simp at this; rw [this] at hlt; simp at hlt)
      simp only [Value.slice.injEq] at e0
      obtain ⟨rfl, g3, rfl⟩ := e0
      have hc := hcl p _ (by rw [List.getElem?_map, wd_get hlt]; rfl)
      obtain ⟨u0, u1⟩ := (unhide HU).wd p
      have f1 := szN_int u0
      have f2 := ptN_int (wd ws p)
      have hok : okH ws p ↔ (wd ws p / 16 % 256 + 1 ≤ wd ws p / 4096 ∧ wd ws p / 4096 ≤ (ws.length : Int) - p) := by
        unfold okH
        omega
      have HSZ := hide (fun w => rsize_t (wd ws p) w u0 u1)
      have HPT := hide (fun w => rptrs_t (wd ws p) w u0 u1)
      have hwd : IntKind.i64.wrap ((ws.length : Int) - (p : Int)) = (ws.length : Int) - p := by have := unhide HL; rw [IntKind.wrap_i64]; omega
      have hwp : IntKind.i64.wrap (wd ws p / 16 % 256 + 1) = wd ws p / 16 % 256 + 1 := by rw [IntKind.wrap_i64]; omega
      have hws : IntKind.i64.wrap ((p : Int) + wd ws p / 4096) = (p : Int) + wd ws p / 4096 := by have := unhide HL; rw [IntKind.wrap_i64]; omega
      by_cases hk : okH ws p
      · obtain ⟨k1, k2⟩ := hok.1 hk
        have hst := obs_step hk
        rw [hst] at hsp
        have HZ2 := hide (show obs ws 1 = (pre ++ [(p, wd ws p)]) ++ obs ws (p + szN (wd ws p)) by rw [hZ, hsp]; simp)
        have HD := hide (show ((endO (pre ++ [(p, wd ws p)]) : Nat) : Int) = (p : Int) + wd ws p / 4096 by rw [endO_snoc, ← f1]; simp)
        have hbW : Below wr.heap.size wr (wr.alloc (.cells #[.int .i64 (p : Int)] 3)) := (Below.refl _ _).alloc (Nat.le_refl _) _
        have HOW := hide (ownsV_keep (F := fun _ => False) hown (Keep.of_below hbW) (fun _ _ => id))
        have HB := hide (hb.trans (hbW.mono hb.size))
        have HBS := hide hb.size
        have HLN := hide hlen
        have hp0 : (1 : Int) ≤ wd ws p / 4096 := by omega
        generalize wd ws p = x at *
        clear hok hk hst hsp hown hb hbW hlen hlt e1 e2 g1 g2 g3 hcl f1 f2 hZ
        go_wp2_with fail
        refine Calls.mono (unhide HSZ _) ?_
        rintro e w1 ⟨rfl, rfl⟩
        go_wp2_with fail
        refine Calls.mono (unhide HPT _) ?_
        rintro e w1 ⟨rfl, rfl⟩
        go_wp2_with (first
          | (at_builtin; refine wpList_append_gen rfl _ _ 23 rfl w.heap.size 3 i0 (.int .i64 0) Try.underlying23 hi hz0 1 8 (by omega) hz1 hz2 rfl (.slice pv pre.length cv) pre.length (plV pre) rfl (unhide HOW) ⟨w1.heap.size, 0, none⟩ 1 1 [.int .i64 (p : Int)] rfl rfl (by intro j u hj; match j, hj with | 0, hj => (simp at hj; subst hj; simp [Addr.add])) (by intro u hu; simp at hu; subst hu; rfl) (by have := unhide HLN; unfold maxLen; omega) (by have := unhide HLN; omega) (by rw [World.size_alloc]; have := unhide HBS; omega) ?_))
        intro v2 w2 hown2 hgrow2 hob2
        have HJ := hide (And.intro hown2 ((unhide HB).grown hgrow2 (unhide HB).size (fun k e => ((unhide HOW).lt k e).1)))
        clear hown2 hgrow2 hob2
        go_wp2_with fail
        go_roundw
        case rel =>
          refine ⟨pre ++ [(p, x)], _, by rw [unhide HD], unhide HZ2, ?_, (unhide HJ).2⟩
          rw [plV_snoc, List.length_append]
          exact (unhide HJ).1
        case measure =>
          simp only [intOf]
          omega
      · have hst := obs_stop hk
        rw [hst] at hsp
        have hpre : obs ws 1 = pre := by rw [hZ, hsp, List.append_nil]
        have HDE := hide (show decide (ws.length ≤ endO (obs ws 1)) = false by rw [hpre, ← unhide HP]; simp; omega)
        have HE := hide (show wr.ownsRow w.heap.size 3 1 (.slice pv pre.length cv) (obs ws 1).length (plV (obs ws 1)) ∧ Below w.heap.size w wr by rw [hpre]; exact ⟨hown, hb⟩)
        by_cases k1 : wd ws p / 4096 < wd ws p / 16 % 256 + 1
        · generalize wd ws p = x at *
          clear hok hk hst hsp hown hb hlen hlt e1 e2 g1 g2 g3 hcl f1 f2 hZ hpre
          go_wp2_with fail
          refine Calls.mono (unhide HSZ _) ?_
          rintro e w1 ⟨rfl, rfl⟩
          go_wp2_with fail
          refine Calls.mono (unhide HPT _) ?_
          rintro e w1 ⟨rfl, rfl⟩
          go_wp2_with fail
          go_ret2
          exact ⟨_, by rw [unhide HDE]; rfl, (unhide HE).1, (unhide HE).2⟩
        · have k1' : wd ws p / 16 % 256 + 1 ≤ wd ws p / 4096 := by omega
          have k2 : (ws.length : Int) - p < wd ws p / 4096 := by
            have : ¬ wd ws p / 4096 ≤ (ws.length : Int) - p := fun h => hk (hok.2 ⟨k1', h⟩)
            omega
          clear k1
          generalize wd ws p = x at *
          clear hok hk hst hsp hown hb hlen hlt e1 e2 g1 g2 g3 hcl f1 f2 hZ hpre
          go_wp2_with fail
          refine Calls.mono (unhide HSZ _) ?_
          rintro e w1 ⟨rfl, rfl⟩
          go_wp2_with fail
          refine Calls.mono (unhide HPT _) ?_
          rintro e w1 ⟨rfl, rfl⟩
          go_wp2_with fail
          go_ret2
          exact ⟨_, by rw [unhide HDE]; rfl, (unhide HE).1, (unhide HE).2⟩
    · have hst := obs_stop (ws := ws) (p := p) (fun h => hlt h.1)
      rw [hst] at hsp
      have hpre : obs ws 1 = pre := by rw [hZ, hsp, List.append_nil]
      have HDE := hide (show decide (ws.length ≤ endO (obs ws 1)) = true by rw [hpre, ← unhide HP]; simp; omega)
      have HE := hide (show wr.ownsRow w.heap.size 3 1 (.slice pv pre.length cv) (obs ws 1).length (plV (obs ws 1)) ∧ Below w.heap.size w wr by rw [hpre]; exact ⟨hown, hb⟩)
      have hge : (ws.length : Int) ≤ (p : Int) := by omega
      clear hst hsp hown hb hlen hlt e1 e2 hZ hpre
      go_wp2_with fail
      go_ret2
      exact ⟨_, by rw [unhide HDE]; rfl, (unhide HE).1, (unhide HE).2⟩
end Go.Proofs.Ytegefnchkgkmgaa

/- The reference of layer 13: starts, Right. -/
namespace Go.Proofs.Ytegefnchkgkmgaa
open Go.RowKit

theorem marks_take {Z : List (Nat × Int)} {n k : Nat} (h : k < Z.length) : (marks n (Z.take k)).set Z[k].1 true = marks n (Z.take (k + 1)) := by
  rw [List.take_succ_eq_append_getElem h, marks_snoc]
theorem plV_at {Z : List (Nat × Int)} {k : Nat} (h : k < Z.length) : (plV Z)[k]? = some (.int .i64 ((Z[k].1 : Nat) : Int)) := by
  simp [plV, h]

set_option maxRecDepth 20000 in
set_option maxHeartbeats 2000000 in
theorem rstarts_any (s : Value) (ws : List Int) (w : World) (hs : VRow w s (Uw ws)) (hU : U32 ws) (hl : ws.length ≤ 4194304) :
    Calls Try.prog 72 #[s] w fun e w' => ∃ g, e = .returned (.tuple #[.slice (some ⟨g, 0, none⟩) ws.length ws.length, .bool (decide (ws.length ≤ endO (obs ws 1)))]) ∧ w.heap.size ≤ g ∧ MkAt w' g ws.length (obs ws 1) ∧ Below w.heap.size w w' := by
  have hmk := run_make_bools 85 Try.underlying85 ws.length (by omega)
  have hb0 : Below w.heap.size w (w.alloc (.cells (Array.replicate ws.length (.bool false)) 4)) := (Below.refl _ w).alloc (Nat.le_refl _) _
  have HP := hide (rplaces_any s ws (w.alloc (.cells (Array.replicate ws.length (.bool false)) 4)) (hs.below hb0) hU hl)
  have HM0 := hide (show MkAt (w.alloc (.cells (Array.replicate ws.length (.bool false)) 4)) w.heap.size ws.length [] by
    unfold MkAt
    rw [marks_nil, List.map_replicate, List.toArray_replicate]
    exact World.alloc_heap_new w _)
  have HB0 := hide hb0
  obtain ⟨a, cap, rfl, g1, g2, g3⟩ := hs.shape
  rw [List.length_map] at *
  have HL := hide hl
  have HZL := hide (obs_len ws)
  have HMEM := hide (fun x (hx : x ∈ obs ws 1) => (obs_mem hx).2.2.1)
  obtain ⟨E, hE⟩ : ∃ E, E = decide (ws.length ≤ endO (obs ws 1)) := ⟨_, rfl⟩
  rw [← hE] at HP ⊢
  obtain ⟨Z, hZ⟩ : ∃ Z, Z = obs ws 1 := ⟨_, rfl⟩
  rw [← hZ] at HP HZL HMEM ⊢
  clear g1 g2 g3 hs hU hl hb0 hE hZ
  go_enter Try.func72, Try.ntmps72
  go_wp2_with fail
  refine Calls.mono (unhide HP) ?_
  rintro e w1 ⟨v, rfl, hown, b1⟩
  obtain ⟨pv, cv, rfl⟩ := ownsV_shape hown
  have HV := hide (show VRow w1 (.slice pv Z.length cv) (plV Z) from vrow_of_owns (by simpa [plV] using hown))
  have HVB := hide (fun k (e : (Value.slice pv Z.length cv).ownBlock = some k) => (hown.lt k e).1)
  have HM1 := hide ((unhide HM0).below b1)
  have HB1 := hide ((unhide HB0).trans (b1.mono (unhide HB0).size))
  clear hown b1 HM0
  go_wp2_with fail
  go_loopw [7] (fun i wr => ∃ k : Nat, k ≤ Z.length ∧ i = .int .i64 (k : Int) ∧ MkAt wr w.heap.size ws.length (Z.take k) ∧ Keep (fun b => b = w.heap.size) w1 wr) (fun i _ => Z.length - (intOf i).toNat)
  case atStart => exact ⟨0, Nat.zero_le _, rfl, unhide HM1, Keep.refl _ _⟩
  case round =>
    obtain ⟨k, hk, rfl, hmk2, hkp⟩ := hrel
    by_cases hlt : k < Z.length
    · have hkI : (k : Int) < (Z.length : Int) := by omega
      have hvr := (unhide HV).keep hkp (fun b off c e _ he => by have := unhide HVB b (by rw [e]; rfl); rw [World.size_alloc] at this; omega)
      obtain ⟨b, off, cz, e0, g1, g2, hcl⟩ := hvr.open (by intro e; have := congrArg List.length e; simp [plV] at this; rw [this] at hlt; simp at hlt)
      simp only [Value.slice.injEq] at e0
      obtain ⟨rfl, g3, rfl⟩ := e0
      have hc := hcl k _ (plV_at hlt)
      have hpl := unhide HMEM Z[k] (List.getElem_mem hlt)
      have hpI : (Z[k].1 : Int) < (ws.length : Int) := by omega
      have hcm := hmk2.cell hpl
      have hfz : wr.frozen? ⟨w.heap.size, Z[k].1, none⟩ = false := frozen_of_block hmk2
      have HS := hide (show MkAt (wr.setCell ⟨w.heap.size, Z[k].1, none⟩ (.bool true)) w.heap.size ws.length (Z.take (k + 1)) by
        unfold MkAt
        rw [heap_setCell_same wr _ _ _ _ (.bool true) hmk2, ← marks_take hlt]
        simp)
      have HKP := hide (hkp.trans (keep_set wr w.heap.size Z[k].1 (.bool true)) (fun _ e => Or.inl e))
      have HLT := hide hlt
      have hnw : IntKind.i64.wrap ((k : Int) + 1) = (k : Int) + 1 := by have := unhide HL; have := unhide HZL; rw [IntKind.wrap_i64]; omega
      generalize Z[k] = x at *
      obtain ⟨p, h⟩ := x
      dsimp only at *
      clear hvr g1 g2 g3 hcl hpl hmk2 hkp hk hlt
      go_wp2_with fail
      go_roundw
      case rel => exact ⟨k + 1, unhide HLT, by go_num, unhide HS, unhide HKP⟩
      case measure => (have := unhide HLT; simp [intOf]; omega)
    · have hke : k = Z.length := by omega
      subst hke
      rw [List.take_length] at hmk2
      have HE := hide (And.intro hmk2 ((unhide HB1).trans (hkp.below (unhide HB1).size (fun b e => by omega))))
      clear hk hlt hmk2 hkp
      go_wp2_with fail
      go_ret2
      exact ⟨_, rfl, Nat.le_refl _, (unhide HE).1, (unhide HE).2⟩

theorem rright_no (s t : Value) (ws rs : List Int) (w : World) (hs : VRow w s (Uw ws)) (ht : VRow w t (Iw rs))
    (h : ¬ (1 ≤ ws.length ∧ ws.length ≤ 1048576 ∧ wd ws 0 = 0 ∧ rs.length ≤ 16)) :
    Calls Try.prog 60 #[s, t] w fun e w' => e = .returned (.bool false) ∧ w' = w := by
  obtain ⟨a, cap, rfl, g1, g2, g3⟩ := hs.shape
  obtain ⟨a', cap', rfl, k1, k2, k3⟩ := ht.shape
  rw [Uw_len2] at *
  clear g1 g2 g3 k1 k2 k3 ht
  rw [show (Iw rs).length = rs.length from List.length_map _]
  by_cases h1 : 1 ≤ ws.length
  · have q1 : (1 : Int) ≤ (ws.length : Int) := by omega
    by_cases h2 : ws.length ≤ 1048576
    · have q2 : (ws.length : Int) ≤ 1048576 := by omega
      obtain ⟨b, off, c', e0, j1, j2, hcl⟩ := hs.open (by intro e; have := congrArg List.length e; simp at this; rw [this] at h1; simp at h1)
      simp only [Value.slice.injEq] at e0
      obtain ⟨rfl, j3, rfl⟩ := e0
      clear j1 j2 j3
      have hc := hcl 0 _ (by rw [List.getElem?_map, wd_get h1]; rfl)
      rw [Nat.add_zero] at hc
      by_cases h3 : wd ws 0 = 0
      · have q4 : (16 : Int) < (rs.length : Int) := by
          have : ¬ rs.length ≤ 16 := fun h4 => h ⟨h1, h2, h3, h4⟩
          omega
        rw [h3] at hc
        generalize ws.length = n at *
        clear h1 h2 h3 h hs hcl
        go_enter Try.func60, Try.ntmps60
        go_wp2
        go_ret
        exact ⟨rfl, rfl⟩
      · have q3 : (wd ws 0 == 0) = false := by simpa using h3
        generalize wd ws 0 = x at *
        generalize ws.length = n at *
        clear h1 h2 h hs hcl
        go_enter Try.func60, Try.ntmps60
        go_wp2
        go_ret
        exact ⟨rfl, rfl⟩
    · have q2 : (1048576 : Int) < (ws.length : Int) := by omega
      generalize ws.length = n at *
      clear h1 h2 h hs
      go_enter Try.func60, Try.ntmps60
      go_wp2
      go_ret
      exact ⟨rfl, rfl⟩
  · have q1 : (ws.length : Int) < 1 := by omega
    generalize ws.length = n at *
    clear h1 h hs
    go_enter Try.func60, Try.ntmps60
    go_wp2
    go_ret
    exact ⟨rfl, rfl⟩

set_option maxRecDepth 20000 in
set_option maxHeartbeats 2000000 in
theorem rright_yes (s t : Value) (ws rs : List Int) (w : World) (hs : VRow w s (Uw ws)) (ht : VRow w t (Iw rs)) (hU : U32 ws)
    (h1 : 1 ≤ ws.length) (h2 : ws.length ≤ 1048576) (h3 : wd ws 0 = 0) (h4 : rs.length ≤ 16) :
    Calls Try.prog 60 #[s, t] w fun e w' => e = .returned (.bool (heapB ws rs)) ∧ Below w.heap.size w w' := by
  have HS := hide hs
  have HT := hide ht
  have HU := hide hU
  have HP := hide (rstarts_any s ws w hs hU (by omega))
  obtain ⟨a, cap, rfl, g1, g2, g3⟩ := hs.shape
  obtain ⟨a', cap', rfl, k1, k2, k3⟩ := ht.shape
  have eU : (Uw ws).length = ws.length := List.length_map _
  have eI : (Iw rs).length = rs.length := List.length_map _
  rw [eU] at HS HP hs ⊢
  rw [eI] at HT ⊢
  have q1 : (1 : Int) ≤ (ws.length : Int) := by omega
  have q2 : (ws.length : Int) ≤ 1048576 := by omega
  have q4 : (rs.length : Int) ≤ 16 := by omega
  obtain ⟨b, off, c', e0, j1, j2, hcl⟩ := hs.open (by intro e; have := congrArg List.length e; rw [eU] at this; rw [this] at h1; simp at h1)
  simp only [Value.slice.injEq] at e0
  obtain ⟨rfl, j3, rfl⟩ := e0
  have hc := hcl 0 _ (by rw [List.getElem?_map, wd_get h1]; rfl)
  rw [Nat.add_zero, h3] at hc
  have hh : heapB ws rs = (decide (endO (obs ws 1) = ws.length) && okPs ws (obs ws 1) && rs.all (isPl ws.length (obs ws 1))) := rfl
  have hend : decide (ws.length ≤ endO (obs ws 1)) = decide (endO (obs ws 1) = ws.length) := by
    obtain ⟨_, f2⟩ := endO_le (show obs ws 1 = obs ws 1 ++ [] by simp)
    by_cases h : ws.length ≤ endO (obs ws 1)
    · have : endO (obs ws 1) = ws.length := by omega
      simp [this]
    · have : ¬ endO (obs ws 1) = ws.length := by omega
      simp [h, this]
  rw [hend] at HP
  have HL := hide h2
  have HH := hide hh
  obtain ⟨R, hR⟩ : ∃ R, R = heapB ws rs := ⟨_, rfl⟩
  rw [← hR]
  have HR := hide hR
  clear hh hend h1 h2 h3 h4 hs ht hcl hU g1 g2 g3 k1 k2 k3 j1 j2 j3 eU eI hR
  go_enter Try.func60, Try.ntmps60
  go_wp2_with fail
  refine Calls.mono (unhide HP) ?_
  rintro e w1 ⟨g, rfl, hg, hmk, b1⟩
  have HMK := hide hmk
  have HB1 := hide b1
  have HT1 := hide ((unhide HT).below b1)
  have HS1 := hide ((unhide HS).below b1)
  clear hmk b1 HP
  by_cases hen : endO (obs ws 1) = ws.length
  · rw [decide_eq_true hen]
    have HEN := hide hen
    have HH2 := hide (show heapB ws rs = (okPs ws (obs ws 1) && rs.all (isPl ws.length (obs ws 1))) by rw [unhide HH, decide_eq_true hen, Bool.true_and])
    clear hen HH
    go_wp2_with fail
    go_loop [7] (fun i => ∃ k : Nat, k ≤ rs.length ∧ i = .int .i64 (k : Int) ∧ Hid ((rs.take k).all (isPl ws.length (obs ws 1)) = true)) (fun i => rs.length - (intOf i).toNat)
    case atStart => exact ⟨0, Nat.zero_le _, rfl, by simp [Hid]⟩
    case round =>
      obtain ⟨k, hk, rfl, hall⟩ := hrel
      by_cases hlt : k < rs.length
      · have hkI : (k : Int) < (rs.length : Int) := by omega
        obtain ⟨b', off', cap2, e0, g1, g2, hcl⟩ := (unhide HT1).open (by intro e; have := congrArg List.length e; simp at this; rw [this] at hlt; simp at hlt)
        simp only [Value.slice.injEq] at e0
        obtain ⟨rfl, g3, rfl⟩ := e0
        have hc2 := hcl k _ (by rw [List.getElem?_map, List.getElem?_eq_getElem hlt]; rfl)
        have HTT := hide (show (rs.take (k + 1)).all (isPl ws.length (obs ws 1)) = isPl ws.length (obs ws 1) rs[k] by rw [List.take_succ_eq_append_getElem hlt, List.all_append, hall.out]; simp)
        have HA := hide (show isPl ws.length (obs ws 1) rs[k] = false → rs.all (isPl ws.length (obs ws 1)) = false by
          intro h
          rw [List.all_eq_false]
          exact ⟨rs[k], List.getElem_mem hlt, by simp [h]⟩)
        have HLT := hide hlt
        have HCH := hide (fun x => rplace_any g ws.length (obs ws 1) x w1 (unhide HMK))
        generalize rs[k] = x at *
        clear g1 g2 g3 hcl hall hk hlt
        have hnw : IntKind.i64.wrap ((k : Int) + 1) = (k : Int) + 1 := by have := unhide HLT; rw [IntKind.wrap_i64]; omega
        go_wp2_with fail
        refine Calls.mono (unhide HCH x) ?_
        rintro e w2 ⟨rfl, rfl⟩
        cases hx : isPl ws.length (obs ws 1) x with
        | true =>
          go_wp2_with fail
          go_round
          case rel => exact ⟨k + 1, unhide HLT, by go_num, by rw [Hid, unhide HTT, hx]⟩
          case measure => (have := unhide HLT; simp [intOf]; omega)
        | false =>
          have HF := hide (show heapB ws rs = false by rw [unhide HH2, unhide HA hx, Bool.and_false])
          clear hx
          go_wp2_with fail
          go_ret
          exact ⟨by rw [unhide HR, unhide HF]; rfl, unhide HB1⟩
      · have hke : k = rs.length := by omega
        subst hke
        rw [List.take_length] at hall
        have HH3 := hide (show heapB ws rs = okPs ws (obs ws 1) by rw [unhide HH2, hall.out, Bool.and_true])
        clear hk hlt hall HH2
        go_wp2_with fail
        go_loop [8] (fun i => ∃ pre rest, i = .int .i64 ((endO pre : Nat) : Int) ∧ obs ws 1 = pre ++ rest ∧ Hid (okPs ws pre = true)) (fun i => ws.length + 1 - (intOf i).toNat)
        case atStart => exact ⟨[], _, rfl, rfl, rfl⟩
        case round =>
          obtain ⟨pre, rest, rfl, hZ, hok⟩ := hrel
          cases rest with
          | nil =>
            rw [List.append_nil] at hZ
            rw [← hZ, unhide HEN]
            have HF := hide (show heapB ws rs = true by rw [unhide HH3, hZ, hok.out])
            clear hZ hok
            go_wp2_with fail
            go_ret
            exact ⟨by rw [unhide HR, unhide HF]; rfl, unhide HB1⟩
          | cons x rest =>
            obtain ⟨n1, n2, n3, n4⟩ := obs_next hZ
            obtain ⟨o1, o2, o3⟩ := n3
            rw [← n2] at o2 o3
            rw [← n1]
            obtain ⟨u0, u1⟩ := (unhide HU).wd x.1
            rw [← n2] at u0 u1
            obtain ⟨b', off', cap2, e0, g1, g2, hcl⟩ := (unhide HS1).open (by intro e; have := congrArg List.length e; simp at this; rw [this] at o1; simp at o1)
            simp only [Value.slice.injEq] at e0
            obtain ⟨⟨rfl, rfl, _⟩, g3, rfl⟩ := e0
            have hcx := hcl x.1 _ (by rw [List.getElem?_map, wd_get o1]; rfl)
            rw [← n2] at hcx
            have hlp : (ptrsO ws x).length = ptN x.2 := by rw [ptrsO, List.length_take, List.length_drop]; omega
            have f1 := szN_int u0
            have f2 := ptN_int x.2
            have f3 := ptN_lt x.2
            have HCP := hide (show ∀ k (hk : k < (ptrsO ws x).length), w1.cell? ⟨b, off + (x.1 + (k + 1)), none⟩ = some (.int .u32 (ptrsO ws x)[k]) ∧ 0 ≤ (ptrsO ws x)[k] ∧ (ptrsO ws x)[k] < 4294967296 ∧ x.1 + (k + 1) < ws.length by
              intro k hk
              rw [hlp] at hk
              have hkk : x.1 + (k + 1) < ws.length := by omega
              have he : (ptrsO ws x)[k]'(by rw [hlp]; exact hk) = wd ws (x.1 + (k + 1)) := by
                have h1 : (ptrsO ws x)[k]? = some (wd ws (x.1 + (k + 1))) := by
                  rw [ptrsO, List.getElem?_take_of_lt hk, List.getElem?_drop, show x.1 + 1 + k = x.1 + (k + 1) by omega, wd_get hkk]
                rw [List.getElem?_eq_getElem (by rw [hlp]; exact hk)] at h1
                exact Option.some.inj h1
              rw [he]
              exact ⟨hcl _ _ (by rw [List.getElem?_map, wd_get hkk]; rfl), ((unhide HU).wd _).1, ((unhide HU).wd _).2, hkk⟩)
            have HPS := hide (okPs_snoc ws pre x)
            have HZ2 := hide (show obs ws 1 = (pre ++ [x]) ++ rest by rw [hZ]; simp)
            have HD := hide (show ((endO (pre ++ [x]) : Nat) : Int) = (x.1 : Int) + x.2 / 4096 by rw [endO_snoc, ← f1]; simp)
            have HFB := hide (show (ptrsO ws x).all (isPl ws.length (obs ws 1)) = false → okPs ws (obs ws 1) = false by
              intro h
              rw [unhide HZ2]
              exact okPs_false (by rw [unhide HPS, h, Bool.and_false]))
            have HSZ := hide (fun w => rsize_t x.2 w u0 u1)
            have HPT := hide (fun w => rptrs_t x.2 w u0 u1)
            obtain ⟨ps, hps⟩ : ∃ ps, ps = ptrsO ws x := ⟨_, rfl⟩
            rw [← hps] at HCP HFB HPS
            rw [← hps] at hlp
            have hptl : x.2 / 16 % 256 = (ps.length : Int) := by omega
            rw [hptl] at HPT
            have hpI : (x.1 : Int) < (ws.length : Int) := by omega
            have hws : IntKind.i64.wrap ((x.1 : Int) + x.2 / 4096) = (x.1 : Int) + x.2 / 4096 := by rw [IntKind.wrap_i64]; omega
            have HPL := hide (show ps.length < 256 by omega)
            have HOK := hide hok
            have HSP := hide (show (1 : Int) ≤ x.2 / 4096 by omega)
            have HCH := hide (fun y => rplace_any g ws.length (obs ws 1) y w1 (unhide HMK))
            obtain ⟨p, h⟩ := x
            dsimp only at *
            clear hok hps hlp hptl f1 f2 f3 g1 g2 g3 hcl n1 n2 n4 o1 o2 o3 hZ hc
            go_wp2_with fail
            go_loop [9] (fun i => ∃ k : Nat, k ≤ ps.length ∧ i = .int .i64 ((k : Int) + 1) ∧ Hid ((ps.take k).all (isPl ws.length (obs ws 1)) = true)) (fun i => ps.length + 1 - (intOf i).toNat)
            case atStart => exact ⟨0, Nat.zero_le _, rfl, by simp [Hid]⟩
            case round =>
              obtain ⟨k, hk, rfl, hall⟩ := hrel
              by_cases hlt : k < ps.length
              · obtain ⟨hcy, y0, y1, y2⟩ := unhide HCP k hlt
                have hkI : (k : Int) + 1 ≤ (ps.length : Int) := by omega
                have HTT := hide (show (ps.take (k + 1)).all (isPl ws.length (obs ws 1)) = isPl ws.length (obs ws 1) ps[k] by rw [List.take_succ_eq_append_getElem hlt, List.all_append, hall.out]; simp)
                have HA := hide (show isPl ws.length (obs ws 1) ps[k] = false → ps.all (isPl ws.length (obs ws 1)) = false by
                  intro h
                  rw [List.all_eq_false]
                  exact ⟨ps[k], List.getElem_mem hlt, by simp [h]⟩)
                have HLT := hide hlt
                generalize ps[k] = y at *
                have hyw : IntKind.i64.wrap y = y := by rw [IntKind.wrap_i64]; omega
                have hw3 : IntKind.i64.wrap ((p : Int) + ((k : Int) + 1)) = ((p + (k + 1) : Nat) : Int) := by rw [IntKind.wrap_i64]; omega
                have hw4 : IntKind.i64.wrap ((k : Int) + 1 + 1) = (k : Int) + 1 + 1 := by have := unhide HPL; have := unhide HLT; rw [IntKind.wrap_i64]; omega
                have hin : ((p + (k + 1) : Nat) : Int) < (ws.length : Int) := by omega
                obtain ⟨z, hz⟩ : ∃ z, z = p + (k + 1) := ⟨_, rfl⟩
                rw [← hz] at hcy hw3 hin
                clear hall hk hlt y2 hz
                go_wp2_with fail
                refine Calls.mono (unhide HPT w1) ?_
                rintro e w2 ⟨rfl, rfl⟩
                go_wp2_with fail
                refine Calls.mono (unhide HCH y) ?_
                rintro e w2 ⟨rfl, rfl⟩
                cases hx : isPl ws.length (obs ws 1) y with
                | true =>
                  go_wp2_with fail
                  go_round
                  case rel => exact ⟨k + 1, unhide HLT, by go_num, by rw [Hid, unhide HTT, hx]⟩
                  case measure => (have := unhide HLT; simp [intOf]; omega)
                | false =>
                  have HF := hide (show heapB ws rs = false by rw [unhide HH3]; exact unhide HFB (unhide HA hx))
                  clear hx
                  go_wp2_with fail
                  go_ret
                  exact ⟨by rw [unhide HR, unhide HF]; rfl, unhide HB1⟩
              · have hke : k = ps.length := by omega
                subst hke
                rw [List.take_length] at hall
                have hgt : (ps.length : Int) < (ps.length : Int) + 1 := by omega
                have HAL := hide hall.out
                clear hk hlt hall
                go_wp2_with fail
                refine Calls.mono (unhide HPT w1) ?_
                rintro e w2 ⟨rfl, rfl⟩
                go_wp2_with fail
                refine Calls.mono (unhide HSZ _) ?_
                rintro e w2 ⟨rfl, rfl⟩
                go_wp2_with fail
                go_round
                case rel => exact ⟨pre ++ [(p, h)], rest, by rw [unhide HD], unhide HZ2, by rw [Hid, unhide HPS, unhide HAL, (unhide HOK).out]; rfl⟩
                case measure => (have := unhide HSP; simp only [intOf]; omega)
  · rw [decide_eq_false hen]
    have HF := hide (show heapB ws rs = false by rw [unhide HH, decide_eq_false hen, Bool.false_and, Bool.false_and])
    clear hen HH
    go_wp2_with fail
    go_ret
    exact ⟨by rw [unhide HR, unhide HF]; rfl, unhide HB1⟩

theorem rright_any (s t : Value) (ws rs : List Int) (w : World) (hs : VRow w s (Uw ws)) (ht : VRow w t (Iw rs)) (hU : U32 ws) :
    Calls Try.prog 60 #[s, t] w fun e w' => e = .returned (.bool (rightB ws rs)) ∧ Below w.heap.size w w' := by
  by_cases h : 1 ≤ ws.length ∧ ws.length ≤ 1048576 ∧ wd ws 0 = 0 ∧ rs.length ≤ 16
  · obtain ⟨h1, h2, h3, h4⟩ := h
    rw [show rightB ws rs = heapB ws rs by simp [rightB, h1, h2, h3, h4]]
    exact rright_yes s t ws rs w hs ht hU h1 h2 h3 h4
  · have hb : rightB ws rs = false := by
      cases hc : rightB ws rs with
      | false => rfl
      | true =>
        exfalso
        simp only [rightB, Bool.and_eq_true, decide_eq_true_eq] at hc
        exact h ⟨hc.1.1.1.1, hc.1.1.1.2, hc.1.1.2, hc.1.2⟩
    rw [hb]
    refine (rright_no s t ws rs w hs ht h).mono ?_
    rintro e w' ⟨rfl, rfl⟩
    exact ⟨rfl, Below.refl _ _⟩
end Go.Proofs.Ytegefnchkgkmgaa

/- The reference of layer 13: At. -/
namespace Go.Proofs.Ytegefnchkgkmgaa
open Go.RowKit

/-- An object that is put together: the answer's variable r, its own variable v, the rows of its fields from block c on. (50) -/
structure OG (w wr : World) (r v c : Nat) (kd : Int) (p d : Value) (ps ds : List Int) : Prop where
  res : wr.heap[r]? = some (.cells #[.int .i64 0, .slice none 0 0, .slice none 0 0] 50 (0, 0))
  var : wr.heap[v]? = some (.cells #[.int .i64 kd, p, d] 50 (0, 0))
  rowp : wr.ownsRow c 3 1 p ps.length (Iw ps)
  rowd : wr.ownsRow c 25 1 d ds.length (Uw ds)
  bel : Below w.heap.size w wr
  ord : w.heap.size ≤ r ∧ r < v ∧ v < c ∧ c ≤ wr.heap.size
theorem OG.cells {w wr : World} {r v c : Nat} {kd : Int} {p d : Value} {ps ds : List Int} (h : OG w wr r v c kd p d ps ds) : wr.cell? ⟨v, 0, none⟩ = some (.int .i64 kd) ∧ wr.cell? ⟨v, 1, none⟩ = some p ∧ wr.cell? ⟨v, 2, none⟩ = some d ∧ ∀ j, wr.frozen? ⟨v, j, none⟩ = false := three_cells h.var
theorem OG.below {w wr wx : World} {r v c : Nat} {kd : Int} {p d : Value} {ps ds : List Int} (h : OG w wr r v c kd p d ps ds) (hb : Below wr.heap.size wr wx) : OG w wx r v c kd p d ps ds :=
  ⟨(hb.block _ (Array.getElem?_eq_some_iff.1 h.res).1).trans h.res, (hb.block _ (Array.getElem?_eq_some_iff.1 h.var).1).trans h.var, ownsV_keep (F := fun _ => False) h.rowp (Keep.of_below hb) (fun _ _ => id), ownsV_keep (F := fun _ => False) h.rowd (Keep.of_below hb) (fun _ _ => id), h.bel.trans (hb.mono h.bel.size), ⟨h.ord.1, h.ord.2.1, h.ord.2.2.1, Nat.le_trans h.ord.2.2.2 hb.size⟩⟩
theorem OG.set {w wr wx : World} {r v c : Nat} {kd : Int} {p d : Value} {ps ds : List Int} (h : OG w wr r v c kd p d ps ds) {q q2 : Value} (hg : wr.grownBy wx q.ownBlock) (hv : ∀ k, q.ownBlock = some k → c ≤ k) (j : Nat) :
    Keep (fun k => q.ownBlock = some k ∨ k = v) wr (wx.setCell ⟨v, j, none⟩ q2) ∧ (wx.setCell ⟨v, j, none⟩ q2).heap[v]? = some (.cells (#[.int .i64 kd, p, d].setIfInBounds j q2) 50 (0, 0)) ∧ wx.heap[v]? = some (.cells #[.int .i64 kd, p, d] 50 (0, 0)) ∧ wx.heap[r]? = some (.cells #[.int .i64 0, .slice none 0 0, .slice none 0 0] 50 (0, 0)) := by
  obtain ⟨o1, o2, o3, o4⟩ := h.ord
  have hb2 := (hg.block v (Array.getElem?_eq_some_iff.1 h.var).1 (fun e => by have := hv _ e.symm; omega)).trans h.var
  have K1 : Keep (fun k => q.ownBlock = some k) wr wx := ⟨hg.os, hg.tape, hg.output, hg.size, fun k hk hn => hg.block k hk (fun e => hn e.symm)⟩
  exact ⟨(K1.weak (fun _ h => Or.inl h)).trans (keep_set wx v j q2) (fun k e => Or.inl (Or.inr e)), heap_setCell_same wx _ j _ _ q2 hb2, hb2, (hg.block r (Array.getElem?_eq_some_iff.1 h.res).1 (fun e => by have := hv _ e.symm; omega)).trans h.res⟩

theorem atR_at {ws : List Int} {k : Nat} (h : k < (obs ws 1).length) : atR ws ((obs ws 1)[k].1 : Int) = ((obs ws 1)[k].2 % 16, ptrsO ws (obs ws 1)[k], dataO ws (obs ws 1)[k], 0) := by
  have hs : obs ws 1 = (obs ws 1).take k ++ (obs ws 1)[k] :: (obs ws 1).drop (k + 1) := by
    rw [← List.drop_eq_getElem_cons h, List.take_append_drop]
  exact atR_some hs

end Go.Proofs.Ytegefnchkgkmgaa
