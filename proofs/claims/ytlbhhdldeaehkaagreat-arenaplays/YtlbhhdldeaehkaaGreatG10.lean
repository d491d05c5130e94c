/- Texts of ours, one behind the other: CelPtrs, CelCheck, MkLivD, ThOut, ThTwice, CelObject, CelTold, CelAt. -/
import Derived.Test.YtlbhhdldeaehkaaGreatG3
import Derived.Test.YtlbhhdldeaehkaaGreatG4
import Derived.Test.YtlbhhdldeaehkaaGreatG5
import Derived.Test.YtlbhhdldeaehkaaGreatG8
import Derived.Test.YtlbhhdldeaehkaaGreatG9
import Derived.Test.YtlbhhdldeaehkaaGreatG11
import Derived.BigQuiet
import Derived.WalkSmall
/- The landed package cells: has, hasAll, hasPointers. -/
namespace Go.Proofs.YtlbhhdldeaehkaaGreat
open Go.RowKit Go.Shelf
attribute [local go_sem] Oper.semAt_some

theorem Tryz.sizeU32 : (Tryz.prog.info? 31).map (·.size) = some 1 := by kernel_rfl
/-- The marks of all objects, in block g. -/
def MkAt (w : World) (g : Nat) (n : Nat) (Z : List (Nat × Int)) : Prop := w.heap[g]? = some (.cells ((marks n Z).map Value.bool).toArray 4 (0, 0))
theorem MkAt.lt {w : World} {g n : Nat} {Z : List (Nat × Int)} (h : MkAt w g n Z) : g < w.heap.size := (Array.getElem?_eq_some_iff.1 h).1
theorem MkAt.below {w w' : World} {g n : Nat} {Z : List (Nat × Int)} (h : MkAt w g n Z) (hb : Below w.heap.size w w') : MkAt w' g n Z := (hb.block g h.lt).trans h
theorem MkAt.cell {w : World} {g n : Nat} {Z : List (Nat × Int)} (h : MkAt w g n Z) {k : Nat} (hk : k < n) : w.cell? ⟨g, k, none⟩ = some (.bool (decide (k ∈ Z.map Prod.fst))) := by
  rw [cell_of_row w _ _ _ _ (0, 0) h, List.getElem?_toArray, List.getElem?_map, marks_get _ hk]; rfl

theorem chas_any (g n : Nat) (Z : List (Nat × Int)) (a : Int) (w : World) (h : MkAt w g n Z) :
    Calls Tryz.prog 104 #[.slice (some ⟨g, 0, none⟩) n n, .int .i64 a] w fun e w' => e = .returned (.bool (isPl n Z a)) ∧ w' = w := by
  by_cases h0 : a = 0
  · subst h0
    rw [show isPl n Z 0 = true by simp [isPl]]
    clear h
    go_enter Tryz.func104, Tryz.ntmps104
    go_wp2
    go_ret
    exact ⟨rfl, rfl⟩
  · have hb : (a == 0) = false := by simp [h0]
    by_cases h1 : 0 < a
    · by_cases h2 : a < n
      · obtain ⟨k, rfl⟩ := Int.eq_ofNat_of_zero_le (show 0 ≤ a by omega)
        have hk : k < n := by omega
        have hc := h.cell hk
        have e1 : isPl n Z (k : Int) = decide (k ∈ Z.map Prod.fst) := by
          have q0 : ¬ (k : Int) = 0 := by omega
          have q1 : (0 : Int) < (k : Int) := by omega
          have q2 : (k : Int) < (n : Int) := by omega
          simp only [isPl, q0, q1, q2, decide_true, decide_false, Bool.false_or, Bool.true_and, Int.toNat_natCast]
        rw [e1]
        generalize decide (k ∈ Z.map Prod.fst) = r at *
        clear h e1 hk h0
        go_enter Tryz.func104, Tryz.ntmps104
        go_wp2
        go_ret
        exact ⟨rfl, rfl⟩
      · rw [show isPl n Z a = false by simp [isPl, h0, h2]]
        have h2' : (n : Int) ≤ a := by omega
        clear h h0 h2
        go_enter Tryz.func104, Tryz.ntmps104
        go_wp2
        go_ret
        exact ⟨rfl, rfl⟩
    · rw [show isPl n Z a = false by simp [isPl, h0, h1]]
      have h1' : a ≤ 0 := by omega
      clear h h0 h1
      go_enter Tryz.func104, Tryz.ntmps104
      go_wp2
      go_ret
      exact ⟨rfl, rfl⟩

abbrev Iw (rs : List Int) : List Value := rs.map (Value.int .i64)
set_option maxHeartbeats 1000000 in
theorem chasall_any (g n : Nat) (Z : List (Nat × Int)) (s : Value) (rs : List Int) (w : World) (h : MkAt w g n Z) (hs : VRow w s (Iw rs)) (hl : rs.length < 35184372088832) :
    Calls Tryz.prog 94 #[.slice (some ⟨g, 0, none⟩) n n, s] w fun e w' => e = .returned (.bool (rs.all (isPl n Z))) ∧ w' = w := by
  obtain ⟨a, cap, rfl, hc1, hc2, hc3⟩ := hs.shape
  rw [List.length_map] at *
  have HS := hide hs
  have HL := hide hl
  have HM := hide h
  clear hs hl hc1 hc2 hc3 h
  go_enter Tryz.func94, Tryz.ntmps94
  go_wp2_with fail
  go_loop [9] (fun i => ∃ k : Nat, k ≤ rs.length ∧ i = .int .i64 (k : Int) ∧ Hid ((rs.take k).all (isPl n Z) = true)) (fun i => rs.length - (intOf i).toNat)
  case atStart => exact ⟨0, Nat.zero_le _, rfl, by simp [Hid]⟩
  case round =>
    obtain ⟨k, hk, rfl, hall⟩ := hrel
    by_cases hlt : k < rs.length
    · have hkI : (k : Int) < (rs.length : Int) := by omega
      obtain ⟨b, off, cap', e0, g1, g2, hcl⟩ := (unhide HS).open (by intro e; have := congrArg List.length e; simp at this; rw [this] at hlt; simp at hlt)
      simp only [Value.slice.injEq] at e0
      obtain ⟨rfl, g3, rfl⟩ := e0
      have hc := hcl k _ (by rw [List.getElem?_map, List.getElem?_eq_getElem hlt]; rfl)
      have HT := hide (show (rs.take (k + 1)).all (isPl n Z) = isPl n Z rs[k] by rw [List.take_succ_eq_append_getElem hlt, List.all_append, hall.out]; simp)
      have HA := hide (show isPl n Z rs[k] = false → rs.all (isPl n Z) = false by
        intro h
        rw [List.all_eq_false]
        exact ⟨rs[k], List.getElem_mem hlt, by simp [h]⟩)
      have HLT := hide hlt
      have HCH := hide (fun x => chas_any g n Z x w (unhide HM))
      generalize rs[k] = x at *
      clear g1 g2 g3 hcl hall hk hlt
      have hnw : IntKind.i64.wrap ((k : Int) + 1) = (k : Int) + 1 := by have := unhide HL; have := unhide HLT; rw [IntKind.wrap_i64]; omega
      go_wp2_with fail
      refine Calls.mono (unhide HCH x) ?_
      rintro e w1 ⟨rfl, rfl⟩
      cases hx : isPl n Z x with
      | true =>
        go_wp2_with fail
        go_round
        case rel => exact ⟨k + 1, unhide HLT, by go_num, by rw [Hid, unhide HT, hx]⟩
        case measure => (have := unhide HLT; simp [intOf]; omega)
      | false =>
        have HF := hide (unhide HA hx)
        clear hx
        go_wp2_with fail
        go_ret
        exact ⟨by rw [unhide HF]; rfl, rfl⟩
    · have hke : k = rs.length := by omega
      subst hke
      rw [List.take_length] at hall
      clear hk hlt
      go_wp2_with fail
      go_ret
      exact ⟨by rw [hall.out]; rfl, rfl⟩

/-- Variables of a caller, as blocks that stand, and what is true of what came. -/
def BxI {α : Type} (f : List α → List (Nat × Obj)) (P : List α → Prop) (pre : List α) (C : Nat → Prop) (W : World) : Prop := P pre ∧ (∀ x ∈ f pre, W.heap[x.1]? = some x.2) ∧ ∀ k, C k ↔ k ∈ (f pre).map Prod.fst
theorem BxI.ok {α : Type} (f : List α → List (Nat × Obj)) (P : List α → Prop) (b : Nat) : SOk b (BxI f P) := by
  refine ⟨fun pre C W W' G h hk hn _ => ?_, fun pre C W h k hc => ?_⟩
  · obtain ⟨h1, h2, h3⟩ := h
    refine ⟨h1, fun x hx => ?_, h3⟩
    exact (hk.block _ (Array.getElem?_eq_some_iff.1 (h2 x hx)).1 (hn _ ((h3 _).2 (List.mem_map.2 ⟨x, hx, rfl⟩)))).trans (h2 x hx)
  · obtain ⟨h1, h2, h3⟩ := h
    obtain ⟨x, hx, rfl⟩ := List.mem_map.1 ((h3 k).1 hc)
    exact (Array.getElem?_eq_some_iff.1 (h2 x hx)).1

/-- Are the pointers of these objects ones that may be? -/
def okPs (ws : List Int) (pre : List (Nat × Int)) : Bool := pre.all (fun x => (ptrsO ws x).all (isPl ws.length (obs ws 1)))
theorem okPs_snoc (ws : List Int) (pre : List (Nat × Int)) (x : Nat × Int) : okPs ws (pre ++ [x]) = (okPs ws pre && (ptrsO ws x).all (isPl ws.length (obs ws 1))) := by simp [okPs]
theorem okPs_false {ws : List Int} {pre rest : List (Nat × Int)} (h : okPs ws pre = false) : okPs ws (pre ++ rest) = false := by
  unfold okPs at h ⊢
  rw [List.all_append, h, Bool.false_and]
theorem three_new (w : World) (x y z : Obj) : ((((w.alloc x).alloc y).alloc z).heap[w.heap.size]? = some x) ∧ ((((w.alloc x).alloc y).alloc z).heap[w.heap.size + 1]? = some y) ∧ ((((w.alloc x).alloc y).alloc z).heap[w.heap.size + 1 + 1]? = some z) := by
  refine ⟨(Below.heap_alloc _ _ _ (by simp; omega)).trans ((Below.heap_alloc _ _ _ (by simp)).trans (World.alloc_heap_new w _)), ?_, ?_⟩
  · have := World.alloc_heap_new (w.alloc x) y
    rw [World.size_alloc] at this
    exact (Below.heap_alloc _ _ _ (by simp)).trans this
  · have := World.alloc_heap_new ((w.alloc x).alloc y) z
    rw [World.size_alloc, World.size_alloc] at this
    exact this

set_option maxRecDepth 20000 in
set_option maxHeartbeats 2000000 in
theorem chasptrs_any (g : Nat) (s : Value) (ws : List Int) (w : World) (h : MkAt w g ws.length (obs ws 1)) (hs : VRow w s (Uw ws)) (hU : U32 ws) (hl : ws.length < 70368744177664) :
    Calls Tryz.prog 93 #[.slice (some ⟨g, 0, none⟩) ws.length ws.length, s] w fun e w' => e = .returned (.bool (okPs ws (obs ws 1))) ∧ Below w.heap.size w w' := by
  refine (callsIn_wide (n := 5)).1 ?_
  refine callsIn_of_wp_marks Tryz.func93 rfl trivial ?_ rfl
  simp only [Tryz.ntmps93, List.size_toArray, List.length_cons, List.length_nil, Nat.reduceAdd, Nat.reduceSub, Array.replicate_succ, Array.replicate_zero, List.push_toArray, List.append_toArray, List.nil_append, List.cons_append]
  obtain ⟨a, cap, rfl, hc1, hc2, hc3⟩ := hs.shape
  rw [List.length_map] at *
  have HS := hide hs
  have HU := hide hU
  have HL := hide hl
  have HM := hide h
  clear hs hU hl hc1 hc2 hc3 h
  obtain ⟨W0, hW0⟩ : ∃ W0, (((w.alloc (.cells #[.slice (some ⟨g, 0, none⟩) ws.length ws.length] 132)).alloc (.cells #[.slice a ws.length cap] 33)).alloc (.cells #[.bool false] 4)) = W0 := ⟨_, rfl⟩
  have HB0 : Hid (Below w.heap.size w W0) := by unfold Hid; rw [← hW0]; exact (((Below.refl _ w).alloc (Nat.le_refl _) _).alloc (by simp) _).alloc (by simp; omega) _
  have HSZ : Hid (W0.heap.size = w.heap.size + 3) := by unfold Hid; rw [← hW0]; simp
  have H0 : Hid (W0.heap[w.heap.size]? = some (.cells #[.slice (some ⟨g, 0, none⟩) ws.length ws.length] 132 (0, 0)) ∧ W0.heap[w.heap.size + 1]? = some (.cells #[.slice a ws.length cap] 33 (0, 0)) ∧ W0.heap[w.heap.size + 1 + 1]? = some (.cells #[.bool false] 4 (0, 0))) := by
    unfold Hid
    rw [← hW0]
    exact three_new w _ _ _
  have HW0 := hide hW0
  clear hW0
  gi_wp2_with fail
  rw [unhide HW0]
  clear HW0
  refine ⟨trivial, (callsIn_wide.2 (cobjects_any W0 a ws.length cap)).mono ?_⟩
  rintro e w1 ⟨rfl, rfl⟩
  have HB1 := hide ((Below.refl _ W0).alloc (Nat.le_refl _) (.cells #[.slice a ws.length cap] 33))
  gi_wp2_with fail
  have hr0 := (unhide HS).below (unhide HB0)
  refine wpIn_seqR (C0 := fun k => k ∈ [w.heap.size, w.heap.size + 1, w.heap.size + 1 + 1]) (objects_seq W0.heap.size (.slice a ws.length cap) ws (unhide HU) (unhide HL)) rfl (fun _ _ => by kernel_rfl) (fun _ => rfl)
    (BxI (fun _ => [(w.heap.size, .cells #[.slice (some ⟨g, 0, none⟩) ws.length ws.length] 132 (0, 0)), (w.heap.size + 1, .cells #[.slice a ws.length cap] 33 (0, 0)), (w.heap.size + 1 + 1, .cells #[.bool false] 4 (0, 0))]) (fun pre => okPs ws pre = true))
    (fun c => BxI (fun _ => [(w.heap.size, .cells #[.slice (some ⟨g, 0, none⟩) ws.length ws.length] 132 (0, 0)), (w.heap.size + 1, .cells #[.slice a ws.length cap] 33 (0, 0)), (w.heap.size + 1 + 1, .cells #[.bool false] 4 (0, 0))]) (fun pre => c = .ret ∧ okPs ws pre = false))
    (BxI.ok _ _ _) (fun _ => BxI.ok _ _ _) ?start ?data ?apart ?round ?done ?stop
  case start =>
    obtain ⟨a1, a2, a3⟩ := unhide H0
    have hB := unhide HB1
    refine ⟨rfl, fun x hx => ?_, fun k => Iff.rfl⟩
    simp only [List.mem_cons, List.not_mem_nil, or_false] at hx
    rcases hx with rfl | rfl | rfl
    · exact (hB.block _ (Array.getElem?_eq_some_iff.1 a1).1).trans a1
    · exact (hB.block _ (Array.getElem?_eq_some_iff.1 a2).1).trans a2
    · exact (hB.block _ (Array.getElem?_eq_some_iff.1 a3).1).trans a3
  case data =>
    intro W hb
    refine ⟨(hb.cell (p := ⟨W0.heap.size, 0, none⟩) (by simp)).trans (by simp), (hr0.below (unhide HB1)).below hb⟩
  case apart =>
    intro k hk
    have hsz := unhide HSZ
    simp only [List.mem_cons, List.not_mem_nil, or_false, World.size_alloc]
    rcases hk with rfl | ⟨hne, hk⟩
    · exact ⟨by omega, by omega⟩
    · have hk2 := hs_block (unhide HS) (fun h => hne (List.map_eq_nil_iff.1 h)) k hk
      exact ⟨by omega, by omega⟩
  case round =>
    rintro l pre ⟨p, h⟩ rest C W hZ hi hm
    dsimp only [encO]
    have HZ := hide hZ
    have HI := hide hi
    clear hZ hi hm hr0
    gi_wp2
    refine ⟨_, C, (BxI.ok _ _ _).at pre, unhide HI, Moves.refl _ _, fun W2 hi2 hm2 => ?_⟩
    clear HI
    obtain ⟨n1, n2, n3, n4⟩ := obs_next (unhide HZ)
    obtain ⟨u0, u1⟩ := (unhide HU).wd p
    dsimp only at n2
    rw [← n2] at u0 u1
    obtain ⟨hall, hblk, hC⟩ := hi2
    have b1 := hblk _ (List.mem_cons_self)
    have b2 := hblk _ (List.mem_cons_of_mem _ List.mem_cons_self)
    have b3 := hblk _ (List.mem_cons_of_mem _ (List.mem_cons_of_mem _ List.mem_cons_self))
    have c1 : W2.cell? ⟨w.heap.size, 0, none⟩ = some (.slice (some ⟨g, 0, none⟩) ws.length ws.length) := by rw [cell_of_row W2 _ _ _ _ (0, 0) b1]; rfl
    have c2 : W2.cell? ⟨w.heap.size + 1, 0, none⟩ = some (.slice a ws.length cap) := by rw [cell_of_row W2 _ _ _ _ (0, 0) b2]; rfl
    have c3 : W2.cell? ⟨w.heap.size + 1 + 1, 0, none⟩ = some (.bool false) := by rw [cell_of_row W2 _ _ _ _ (0, 0) b3]; rfl
    have f3 : W2.frozen? ⟨w.heap.size + 1 + 1, 0, none⟩ = false := frozen_of_block b3
    have hR2 : VRow W2 (.slice a ws.length cap) (Uw ws) := ((unhide HS).below ((unhide HB0).trans ((unhide HB1).mono (unhide HB0).size))).keep hm2.keep (fun b off c e hne hk => by
      have := hs_block (unhide HS) hne b (by rw [e]; rfl)
      simp only [List.mem_cons, List.not_mem_nil, or_false] at hk
      omega)
    have hM2 : MkAt W2 g ws.length (obs ws 1) := by
      have h1 := (unhide HM).below ((unhide HB0).trans ((unhide HB1).mono (unhide HB0).size))
      refine (hm2.keep.block g h1.lt (fun hk => ?_)).trans h1
      have := (unhide HM).lt
      simp only [List.mem_cons, List.not_mem_nil, or_false] at hk
      omega
    obtain ⟨o1, o2, o3⟩ := n3
    dsimp only at o1 o2 o3
    rw [← n2] at o2 o3
    obtain ⟨q, c', hcut, hrow, _⟩ := hR2.cut_lh Tryz.underlying33 Tryz.sizeU32 (p + 1) (ptN h) (by rw [List.length_map]; omega)
    have hpt := ptN_int h
    rw [hpt, show (((p + 1 : Nat)) : Int) = (p : Int) + 1 by omega] at hcut
    have hw1 : IntKind.i64.wrap ((p : Int) + 1) = (p : Int) + 1 := by have := unhide HL; rw [IntKind.wrap_i64]; omega
    have hw2 : IntKind.i64.wrap ((p : Int) + 1 + h / 16 % 256) = (p : Int) + 1 + h / 16 % 256 := by have := unhide HL; rw [IntKind.wrap_i64]; omega
    have hmx : Tryz.prog.follows .mixedOrders = true := by kernel_rfl
    have HBL := hide (And.intro b1 (And.intro b2 b3))
    have HALL := hide hall
    have HC := hide hC
    have HROW := hide hrow
    have HM2 := hide hM2
    have HMV := hide hm2
    have HPT := hide hpt
    clear hpt hM2 hm2 hrow hR2 n1 n2 n4 o1 o2 o3 hall hC hblk b1 b2 b3
    obtain ⟨CC, hCC⟩ : ∃ CC : World → Prop, CC = fun w' => Below W2.heap.size W2 w' := ⟨_, rfl⟩
    have HCC : Hid (∀ w', CC w' → w'.cell? ⟨w.heap.size + 1, 0, none⟩ = some (.slice a ws.length cap)) := by
      unfold Hid; rw [hCC]; exact fun w' hw => (hw.cell (p := ⟨w.heap.size + 1, 0, none⟩) (World.block_lt_of_cell? W2 _ c2)).trans c2
    have HC0 : Hid (CC { W2 with drawn := W2.drawn + 1 }) := by unfold Hid; rw [hCC]; exact (Below.refl _ W2).drew
    have HCW : Hid (∀ w', CC w' → Below W2.heap.size W2 w') := by unfold Hid; rw [hCC]; exact fun w' hw => hw
    clear hCC
    gi_wp2_with fail
    refine region_calmW CC (by kernel_rfl) (by kernel_rfl) (by simp) (unhide HC0) ?_
    repeat (first
      | go_big_quiet_skip
      | (go_big_quiet_want
         apply Exists.intro
         refine ⟨fun w' hw' => ?_, ?_⟩
         · have d0 := unhide HCC w' hw'
           go_simp
           first | done | rfl | exact Calls.mono (cptrs_t h w' u0 u1) (fun e w'' hx => ⟨hx.1, hx.2 ▸ hw'⟩)
         simp only [Act.put, List.setIfInBounds_toArray, List.set_cons_zero, List.set_cons_succ]
         go_big_quiet_on))
    refine wpQuiet_nil ?_
    intro W3 hw'
    have hBW := unhide HCW W3 hw'
    obtain ⟨b1, b2, b3⟩ := unhide HBL
    have c1' := (hBW.cell (p := ⟨w.heap.size, 0, none⟩) (World.block_lt_of_cell? W2 _ c1)).trans c1
    have b3' := (hBW.block _ (Array.getElem?_eq_some_iff.1 b3).1).trans b3
    have c3' := (hBW.cell (p := ⟨w.heap.size + 1 + 1, 0, none⟩) (World.block_lt_of_cell? W2 _ c3)).trans c3
    have f3' : W3.frozen? ⟨w.heap.size + 1 + 1, 0, none⟩ = false := frozen_of_block b3'
    have HROW3 := hide ((unhide HROW).below hBW)
    have HCH := hide (fun x => chas_any g ws.length (obs ws 1) x W3 ((unhide HM2).below hBW))
    have HBW := hide hBW
    have HB3' := hide b3'
    have hlp : (((Uw ws).drop (p + 1)).take (ptN h)) = (ptrsO ws (p, h)).map (Value.int .u32) := by
      unfold ptrsO Uw
      rw [List.map_take, List.map_drop]
    rw [hlp] at HROW3
    obtain ⟨ps, hps⟩ : ∃ ps, ps = ptrsO ws (p, h) := ⟨_, rfl⟩
    rw [← hps] at HROW3
    have hlen : ps.length = ptN h := by
      obtain ⟨_, _, e, _⟩ := unhide HROW3
      simp only [Value.slice.injEq, List.length_map] at e
      exact e.2.1.symm
    have HU2 := hide (show ∀ x ∈ ps, 0 ≤ x ∧ x < 4294967296 by
      intro x hx
      rw [hps] at hx
      exact unhide HU x (List.mem_of_mem_drop (List.mem_of_mem_take hx)))
    have HPS := hide hps
    clear hps hlp HROW HM2
    rw [← hlen] at HROW3 ⊢
    have HPL := hide (show ps.length < 256 by rw [hlen]; exact ptN_lt h)
    clear hBW b1 b2 b3 b3' c1 c2 c3 f3 hw' HCC HC0 HCW hcut hlen HPT
    gi_wp2_with fail
    gi_loop [23] (fun i => ∃ k : Nat, k ≤ ps.length ∧ i = .int .i64 (k : Int) ∧ Hid ((ps.take k).all (isPl ws.length (obs ws 1)) = true)) (fun i => ps.length - (intOf i).toNat)
    case atStart => exact ⟨0, Nat.zero_le _, rfl, by simp [Hid]⟩
    case round =>
      obtain ⟨k, hk, rfl, hall⟩ := hrel
      by_cases hlt : k < ps.length
      · have hkI : (k : Int) < (ps.length : Int) := by omega
        obtain ⟨b, off, cap', e0, g1, g2, hcl⟩ := (unhide HROW3).open (by intro e; have := congrArg List.length e; simp at this; rw [this] at hlt; simp at hlt)
        simp only [Value.slice.injEq] at e0
        obtain ⟨rfl, g3, rfl⟩ := e0
        have hc := hcl k _ (by rw [List.getElem?_map, List.getElem?_eq_getElem hlt]; rfl)
        obtain ⟨v0, v1⟩ := unhide HU2 ps[k] (List.getElem_mem hlt)
        have HT := hide (show (ps.take (k + 1)).all (isPl ws.length (obs ws 1)) = isPl ws.length (obs ws 1) ps[k] by rw [List.take_succ_eq_append_getElem hlt, List.all_append, hall.out]; simp)
        have HA := hide (show isPl ws.length (obs ws 1) ps[k] = false → ps.all (isPl ws.length (obs ws 1)) = false by
          intro h
          rw [List.all_eq_false]
          exact ⟨ps[k], List.getElem_mem hlt, by simp [h]⟩)
        have HLT := hide hlt
        generalize ps[k] = x at *
        clear g1 g2 g3 hcl hall hk hlt
        have hnw : IntKind.i64.wrap ((k : Int) + 1) = (k : Int) + 1 := by have := unhide HPL; have := unhide HLT; rw [IntKind.wrap_i64]; omega
        have hxw : IntKind.i64.wrap x = x := by rw [IntKind.wrap_i64]; omega
        gi_wp2_with fail
        refine ⟨trivial, (CallsIn.inRound l (callsIn_wide.2 (unhide HCH x))).mono ?_⟩
        rintro e w1 ⟨rfl, rfl⟩
        cases hx : isPl ws.length (obs ws 1) x with
        | true =>
          gi_wp2_with fail
          go_round
          case rel => exact ⟨k + 1, unhide HLT, by go_num, by rw [Hid, unhide HT, hx]⟩
          case measure => (have := unhide HLT; simp [intOf]; omega)
        | false =>
          have HF := hide (unhide HA hx)
          clear hx
          gi_wp2_with fail
          obtain ⟨b1, b2, b3⟩ := unhide HBL
          have hb := unhide HBW
          have K1 := keep_set w1 (w.heap.size + 1 + 1) 0 (.bool false)
          have g3 := heap_setCell_same w1 (w.heap.size + 1 + 1) 0 _ _ (.bool false) (unhide HB3')
          have l1 := (Array.getElem?_eq_some_iff.1 b1).1
          have l2 := (Array.getElem?_eq_some_iff.1 b2).1
          have hsz := hb.size
          refine ⟨C, ⟨⟨rfl, ?_⟩, fun y hy => ?_, unhide HC⟩, (Keep.of_below hb).trans K1 (fun k e => Or.inl ((unhide HC k).2 ?_)), fun k hk => Or.inl hk⟩
          · rw [okPs_snoc, ← unhide HPS, unhide HF, Bool.and_false]
          · simp only [List.mem_cons, List.not_mem_nil, or_false] at hy
            rcases hy with rfl | rfl | rfl
            · exact (K1.block _ (by omega) (by omega)).trans ((hb.block _ l1).trans b1)
            · exact (K1.block _ (by omega) (by omega)).trans ((hb.block _ l2).trans b2)
            · exact g3
          · rw [e]; simp
      · have hke : k = ps.length := by omega
        subst hke
        rw [List.take_length] at hall
        clear hk hlt
        gi_wp2_with fail
        obtain ⟨b1, b2, b3⟩ := unhide HBL
        have hb := unhide HBW
        refine ⟨C, ⟨?_, fun y hy => ?_, unhide HC⟩, Keep.of_below hb, fun k hk => Or.inl hk⟩
        · show okPs ws (pre ++ [(p, h)]) = true
          rw [okPs_snoc, unhide HALL, ← unhide HPS, hall.out]
          rfl
        · simp only [List.mem_cons, List.not_mem_nil, or_false] at hy
          rcases hy with rfl | rfl | rfl
          · exact (hb.block _ (Array.getElem?_eq_some_iff.1 b1).1).trans b1
          · exact (hb.block _ (Array.getElem?_eq_some_iff.1 b2).1).trans b2
          · exact (hb.block _ (Array.getElem?_eq_some_iff.1 b3).1).trans b3
  case done =>
    rintro dd C W hdd ⟨hall, hblk, hC⟩ hm hnc hK
    have b3 := hblk _ (List.mem_cons_of_mem _ (List.mem_cons_of_mem _ List.mem_cons_self))
    have c3 : W.cell? ⟨w.heap.size + 1 + 1, 0, none⟩ = some (.bool false) := by rw [cell_of_row W _ _ _ _ (0, 0) b3]; rfl
    have f3 : W.frozen? ⟨w.heap.size + 1 + 1, 0, none⟩ = false := frozen_of_block b3
    have HALL := hide hall
    have HB3 := hide b3
    have HM := hide hm
    have HK := hide hK
    have HNC := hide (show dd ≠ w.heap.size + 1 + 1 from fun e => hnc ((hC dd).2 (by rw [e]; simp)))
    clear hall b3 hm hK hnc hC hblk hr0
    gi_wp2_with fail
    have K1 := keep_set W (w.heap.size + 1 + 1) 0 (.bool true)
    have hsz := unhide HSZ
    have hdk := (Array.getElem?_eq_some_iff.1 (unhide HK)).1
    have hK2 : (W.setCell ⟨w.heap.size + 1 + 1, 0, none⟩ (.bool true)).heap[dd]? = some (.deferred (some [])) := (K1.block dd hdk (unhide HNC)).trans (unhide HK)
    refine ⟨by simp, .inl ⟨_, _, rfl, run_takeDeferred hK2, ?_⟩⟩
    have hp := keep_put (W.setCell ⟨w.heap.size + 1 + 1, 0, none⟩ (.bool true)) dd (.deferred none)
    have g3 := heap_setCell_same W (w.heap.size + 1 + 1) 0 _ _ (.bool true) (unhide HB3)
    have g4 := (hp.block (w.heap.size + 1 + 1) (Array.getElem?_eq_some_iff.1 g3).1 (fun e => unhide HNC e.symm)).trans g3
    have c4 : ((W.setCell ⟨w.heap.size + 1 + 1, 0, none⟩ (.bool true)).putObj dd (.deferred none)).cell? ⟨w.heap.size + 1 + 1, 0, none⟩ = some (.bool true) := by rw [cell_of_row _ _ _ _ _ (0, 0) g4]; rfl
    refine ⟨.bool true, by simp [results, Tryz.results93, go_sem, c4], by rw [unhide HALL], ?_⟩
    have h1 := (unhide HB0).trans ((unhide HB1).mono (unhide HB0).size)
    have hm := unhide HM
    refine below_put (C := C) h1 ⟨hm.keep.trans K1 (fun k e => Or.inl (by rw [e]; simp)), hm.sub⟩ (fun k hk => ?_) hdd _
    simp only [List.mem_cons, List.not_mem_nil, or_false] at hk
    omega
  case stop =>
    rintro dd c pre x rest C W hdd hZ ⟨⟨rfl, hall⟩, hblk, hC⟩ hm hnc hK
    have b3 := hblk _ (List.mem_cons_of_mem _ (List.mem_cons_of_mem _ List.mem_cons_self))
    have c3 : W.cell? ⟨w.heap.size + 1 + 1, 0, none⟩ = some (.bool false) := by rw [cell_of_row W _ _ _ _ (0, 0) b3]; rfl
    have HALL := hide (show okPs ws (obs ws 1) = false by rw [hZ, show pre ++ x :: rest = (pre ++ [x]) ++ rest by simp]; exact okPs_false hall)
    have HB3 := hide b3
    have HM := hide hm
    have HK := hide hK
    have HNC := hide (show dd ≠ w.heap.size + 1 + 1 from fun e => hnc ((hC dd).2 (by rw [e]; simp)))
    clear hall b3 hm hK hnc hC hblk hr0 hZ
    gi_wp2_with fail
    refine ⟨by simp, .inl ⟨_, _, rfl, run_takeDeferred (unhide HK), ?_⟩⟩
    have hp := keep_put W dd (.deferred none)
    have g4 := (hp.block (w.heap.size + 1 + 1) (Array.getElem?_eq_some_iff.1 (unhide HB3)).1 (fun e => unhide HNC e.symm)).trans (unhide HB3)
    have c4 : (W.putObj dd (.deferred none)).cell? ⟨w.heap.size + 1 + 1, 0, none⟩ = some (.bool false) := by rw [cell_of_row _ _ _ _ _ (0, 0) g4]; rfl
    refine ⟨.bool false, by simp [results, Tryz.results93, go_sem, c4], by rw [unhide HALL], ?_⟩
    have h1 := (unhide HB0).trans ((unhide HB1).mono (unhide HB0).size)
    refine below_put h1 (unhide HM) (fun k hk => ?_) hdd _
    simp only [List.mem_cons, List.not_mem_nil, or_false] at hk
    omega
end Go.Proofs.YtlbhhdldeaehkaaGreat

/- The landed package cells: Check; the statements' awake. -/
namespace Go.Proofs.YtlbhhdldeaehkaaGreat
open Go.RowKit

theorem ccheck_no (s t : Value) (ws rs : List Int) (w : World) (hs : VRow w s (Uw ws)) (ht : VRow w t (Iw rs))
    (h : ¬ (1 ≤ ws.length ∧ ws.length ≤ 1048576 ∧ wd ws 0 = 0 ∧ rs.length ≤ 16)) :
    Calls Tryz.prog 78 #[s, t] w fun e w' => e = .returned (.int .i64 11) ∧ w' = w := by
  obtain ⟨a, cap, rfl, g1, g2, g3⟩ := hs.shape
  obtain ⟨a', cap', rfl, k1, k2, k3⟩ := ht.shape
  rw [List.length_map] at *
  clear g1 g2 g3 k1 k2 k3 ht
  have hlI : (ws.length : Int) = ((ws.length : Nat) : Int) := rfl
  by_cases h1 : 1 ≤ ws.length
  · have q1 : (1 : Int) ≤ (ws.length : Int) := by omega
    by_cases h2 : ws.length ≤ 1048576
    · have q2 : (ws.length : Int) ≤ 1048576 := by omega
      obtain ⟨b, off, c', e0, j1, j2, hcl⟩ := hs.open (by intro e; have := congrArg List.length e; simp at this; rw [this] at h1; simp at h1)
      simp only [Value.slice.injEq] at e0
      obtain ⟨rfl, j3, rfl⟩ := e0
      clear j1 j2 j3
      have hc := hcl 0 _ (by rw [List.getElem?_map, wd_get h1]; rfl)
      rw [Nat.add_zero] at hc
      by_cases h3 : wd ws 0 = 0
      · have q4 : (16 : Int) < (rs.length : Int) := by
          have : ¬ rs.length ≤ 16 := fun h4 => h ⟨h1, h2, h3, h4⟩
          omega
        rw [h3] at hc
        generalize ws.length = n at *
        clear h1 h2 h3 h hs hcl hlI
        go_enter Tryz.func78, Tryz.ntmps78
        go_wp2
        go_ret
        exact ⟨rfl, rfl⟩
      · have q3 : (wd ws 0 == 0) = false := by simpa using h3
        generalize wd ws 0 = x at *
        generalize ws.length = n at *
        clear h1 h2 h hs hcl hlI
        go_enter Tryz.func78, Tryz.ntmps78
        go_wp2
        go_ret
        exact ⟨rfl, rfl⟩
    · have q2 : (1048576 : Int) < (ws.length : Int) := by omega
      generalize ws.length = n at *
      clear h1 h2 h hs hlI
      go_enter Tryz.func78, Tryz.ntmps78
      go_wp2
      go_ret
      exact ⟨rfl, rfl⟩
  · have q1 : (ws.length : Int) < 1 := by omega
    generalize ws.length = n at *
    clear h1 h hs hlI
    go_enter Tryz.func78, Tryz.ntmps78
    go_wp2
    go_ret
    exact ⟨rfl, rfl⟩

def chkE (b : Bool) : Int := if b then 0 else 11
set_option maxHeartbeats 2000000 in
theorem ccheck_yes (s t : Value) (ws rs : List Int) (w : World) (hs : VRow w s (Uw ws)) (ht : VRow w t (Iw rs)) (hU : U32 ws) (hl : ws.length < 70368744177664) (hr : rs.length < 35184372088832)
    (h1 : 1 ≤ ws.length) (h2 : ws.length ≤ 1048576) (h3 : wd ws 0 = 0) (h4 : rs.length ≤ 16) :
    Calls Tryz.prog 78 #[s, t] w fun e w' => e = .returned (.int .i64 (chkE (heapB ws rs))) ∧ Below w.heap.size w w' := by
  have HS := hide hs
  have HT := hide ht
  have HP := hide (cplaces_any s ws w hs hU hl)
  have HPT := hide (fun g w' (h : MkAt w' g ws.length (obs ws 1)) (hb : Below w.heap.size w w') => chasptrs_any g s ws w' h (hs.below hb) hU hl)
  have HAL := hide (fun g w' (h : MkAt w' g ws.length (obs ws 1)) (hb : Below w.heap.size w w') => chasall_any g ws.length (obs ws 1) t rs w' h (ht.below hb) hr)
  obtain ⟨a, cap, rfl, g1, g2, g3⟩ := hs.shape
  obtain ⟨a', cap', rfl, k1, k2, k3⟩ := ht.shape
  rw [List.length_map] at *
  have q1 : (1 : Int) ≤ (ws.length : Int) := by omega
  have q2 : (ws.length : Int) ≤ 1048576 := by omega
  have q4 : (rs.length : Int) ≤ 16 := by omega
  obtain ⟨b, off, c', e0, j1, j2, hcl⟩ := hs.open (by intro e; have := congrArg List.length e; simp at this; rw [this] at h1; simp at h1)
  simp only [Value.slice.injEq] at e0
  obtain ⟨rfl, j3, rfl⟩ := e0
  clear j1 j2 j3
  have hc := hcl 0 _ (by rw [List.getElem?_map, wd_get h1]; rfl)
  rw [Nat.add_zero, h3] at hc
  have hh : heapB ws rs = (decide (endO (obs ws 1) = ws.length) && okPs ws (obs ws 1) && rs.all (isPl ws.length (obs ws 1))) := rfl
  obtain ⟨E, hE⟩ : ∃ E, E = chkE (heapB ws rs) := ⟨_, rfl⟩
  rw [← hE]
  have HE := hide hE
  have HH := hide hh
  have HA := hide (show ∃ x, x = decide (endO (obs ws 1) = ws.length) ∧ ∃ y, y = okPs ws (obs ws 1) ∧ ∃ z, z = rs.all (isPl ws.length (obs ws 1)) from ⟨_, rfl, _, rfl, _, rfl⟩)
  clear hE hh h1 h2 h3 h4 hs ht hcl hl hr hU g1 g2 g3 k1 k2 k3
  go_enter Tryz.func78, Tryz.ntmps78
  go_wp2_with fail
  refine Calls.mono (unhide HP) ?_
  rintro e w1 ⟨g, rfl, hg, hmk, b1⟩
  have HMK := hide (show MkAt w1 g ws.length (obs ws 1) from hmk)
  have HB1 := hide b1
  have d1 : decide ((ws.length : Int) < 1) = false := by simp; omega
  have d2 : decide ((1048576 : Int) < (ws.length : Int)) = false := by simp; omega
  have d3 : decide ((16 : Int) < (rs.length : Int)) = false := by simp; omega
  simp only [d1, d2, d3, Bool.or_false]
  have HPT2 := hide (unhide HPT g w1 (unhide HMK) b1)
  have HAL2 := hide (fun w2 (hb : Below w1.heap.size w1 w2) => unhide HAL g w2 ((unhide HMK).below hb) (b1.trans (hb.mono b1.size)))
  obtain ⟨x, hx, y, hy, z, hz⟩ := unhide HA
  rw [← hx, ← hy, ← hz] at HH
  rw [← hx]
  rw [← hy] at HPT2
  rw [← hz] at HAL2
  clear hx hy hz HA hmk b1 d1 d2 d3 HPT HAL
  cases x with
  | false =>
    rw [Bool.false_and, Bool.false_and] at HH
    go_wp2_with fail
    go_ret
    exact ⟨by rw [unhide HE, unhide HH]; rfl, unhide HB1⟩
  | true =>
    rw [Bool.true_and] at HH
    cases y with
    | false =>
      rw [Bool.false_and] at HH
      go_wp2_with fail
      refine Calls.mono (unhide HPT2) ?_
      rintro e w2 ⟨rfl, b2⟩
      have HB2 := hide ((unhide HB1).trans (b2.mono (unhide HB1).size))
      clear b2
      go_wp2_with fail
      go_ret
      exact ⟨by rw [unhide HE, unhide HH]; rfl, unhide HB2⟩
    | true =>
      rw [Bool.true_and] at HH
      go_wp2_with fail
      refine Calls.mono (unhide HPT2) ?_
      rintro e w2 ⟨rfl, b2⟩
      have HB2 := hide ((unhide HB1).trans (b2.mono (unhide HB1).size))
      have HAL3 := hide (unhide HAL2 w2 b2)
      clear b2 HAL2
      go_wp2_with fail
      refine Calls.mono (unhide HAL3) ?_
      rintro e w3 ⟨rfl, rfl⟩
      cases z with
      | false =>
        go_wp2_with fail
        go_ret
        exact ⟨by rw [unhide HE, unhide HH]; rfl, unhide HB2⟩
      | true =>
        go_wp2_with fail
        go_ret
        exact ⟨by rw [unhide HE, unhide HH]; rfl, unhide HB2⟩

theorem ccheck_any (s t : Value) (ws rs : List Int) (w : World) (hs : VRow w s (Uw ws)) (ht : VRow w t (Iw rs)) (hU : U32 ws) (hl : ws.length < 70368744177664) (hr : rs.length < 35184372088832) :
    Calls Tryz.prog 78 #[s, t] w fun e w' => e = .returned (.int .i64 (chkE (rightB ws rs))) ∧ Below w.heap.size w w' := by
  by_cases h : 1 ≤ ws.length ∧ ws.length ≤ 1048576 ∧ wd ws 0 = 0 ∧ rs.length ≤ 16
  · obtain ⟨h1, h2, h3, h4⟩ := h
    rw [show rightB ws rs = heapB ws rs by simp [rightB, h1, h2, h3, h4]]
    exact ccheck_yes s t ws rs w hs ht hU hl hr h1 h2 h3 h4
  · have hb : rightB ws rs = false := by
      cases hc : rightB ws rs with
      | false => rfl
      | true =>
        exfalso
        simp only [rightB, Bool.and_eq_true, decide_eq_true_eq] at hc
        exact h ⟨hc.1.1.1.1, hc.1.1.1.2, hc.1.1.2, hc.1.2⟩
    rw [hb]
    refine (ccheck_no s t ws rs w hs ht h).mono ?_
    rintro e w' ⟨rfl, rfl⟩
    exact ⟨rfl, Below.refl _ _⟩

end Go.Proofs.YtlbhhdldeaehkaaGreat

/- What Live answers, as plain data; rows that are made in place. Nothing here speaks of package mark. -/
namespace Go.Proofs.YtlbhhdldeaehkaaGreat
open Go.RowKit Go.Maps

/-- What Live answers. -/
def LivD (ws rs l : List Int) : Prop := (rightB ws rs = true → LiveIs ws rs l) ∧ (rightB ws rs = false → l = [])
theorem LivD.unique {ws rs l m : List Int} (h : LivD ws rs l) (h2 : LivD ws rs m) : l = m := by
  cases hb : rightB ws rs with
  | false => rw [h.2 hb, h2.2 hb]
  | true => exact (h.1 hb).unique (h2.1 hb)

/-- A new row of numbers. -/
theorem vrow_new (w : World) (l : List Int) (t : TypeId) (hl : l.length ≤ 16) : VRow (w.alloc (.cells (Iw l).toArray t)) (.slice (some ⟨w.heap.size, 0, none⟩) l.length l.length) (Iw l) :=
  ⟨_, l.length, by simp, by simp, by unfold maxLen; omega, by simp, Or.inr ⟨w.heap.size, 0, rfl, fun j v hv => by
    rw [Nat.zero_add, cell_of_row _ w.heap.size j _ _ (0, 0) (World.alloc_heap_new w _)]
    simpa using hv⟩⟩
end Go.Proofs.YtlbhhdldeaehkaaGreat

/- What Compact answers, as plain data and in memory; nothing here speaks of a function. -/
namespace Go.Proofs.YtlbhhdldeaehkaaGreat
open Go.RowKit

/-- The cells of a list of places that went. -/
def posC (L : List (Int × Int)) : List Value := L.flatMap fun x => [.int .i64 x.1, .int .i64 x.2]
theorem posC_snoc (L : List (Int × Int)) (x : Int × Int) : posC (L ++ [x]) = posC L ++ [.int .i64 x.1, .int .i64 x.2] := by simp [posC]
theorem posC_len (L : List (Int × Int)) : (posC L).length = L.length * 2 := by
  induction L with
  | nil => rfl
  | cons x L ih => simp only [posC, List.flatMap_cons, List.length_append, List.length_cons, List.length_nil] at *; omega
def outW (ws rs l : List Int) : List Int := if rightB ws rs = true then cW ws l else []
def outR (ws rs l : List Int) : List Int := if rightB ws rs = true then cR ws l rs else []
def outP (ws rs l : List Int) : List (Int × Int) := if rightB ws rs = true then posL ws l else []
/-- What Compact answers, in memory. -/
def CmpD (w : World) (base : Nat) (ws rs l : List Int) (vo vr vp : Value) : Prop :=
  w.ownsRow base 31 1 vo (outW ws rs l).length (Uw (outW ws rs l)) ∧ w.ownsRow base 3 1 vr (outR ws rs l).length (Iw (outR ws rs l)) ∧ w.ownsRow base 123 2 vp (outP ws rs l).length (posC (outP ws rs l))

end Go.Proofs.YtlbhhdldeaehkaaGreat

/- A heap that is compacted twice, as plain data; nothing here speaks of the program. -/
namespace Go.Proofs.YtlbhhdldeaehkaaGreat
open Go.RowKit

theorem rts_live {ws rs l : List Int} (hU : U32 ws) (hR : rightB ws rs = true) (h : LiveIs ws rs l) : Rts ws rs l := by
  obtain ⟨r1, r2, r3, r4, r5⟩ := right_parts hR
  exact ⟨Liv.of hU hR h, r1, r3, r4, fun r hr => by
    by_cases h0 : r = 0
    · exact Or.inl h0
    · exact Or.inr ((h.2 r).2 (.root hr h0))⟩
/-- Compacted for some of its roots: as if it had been compacted for all first. -/
theorem twice_of {ws rs l qs m l2 : List Int} (h : Rts ws rs l) (hs : ∀ r ∈ qs, r = 0 ∨ r ∈ l) (hq : qs.length ≤ 16) (hm : LiveIs ws qs m) (h2 : LivD (cW ws l) (cR ws l qs) l2) :
    rightB (cW ws l) (cR ws l qs) = true ∧ l2 = m.map (toA ws l) ∧ outW (cW ws l) (cR ws l qs) l2 = cW ws m ∧ outR (cW ws l) (cR ws l qs) l2 = cR ws m qs := by
  have hR := cW_right h.toLiv h.pos hq hs
  have hl2 := (h2.1 hR).unique (cW_live h.toLiv hs hm)
  have hms := h.toLiv.sub hs hm
  have hml : ∀ a ∈ m, a ∈ l := fun a ha => h.toLiv.rch hs ((hm.2 a).1 ha)
  subst hl2
  refine ⟨hR, rfl, ?_, ?_⟩
  · unfold outW
    rw [if_pos hR]
    exact cc_cW h.toLiv hms hml
  · unfold outR
    rw [if_pos hR]
    exact cc_cR h.toLiv hml hs
theorem again_of {ws rs l l2 : List Int} (h : Rts ws rs l) (hl : LiveIs ws rs l) (h2 : LivD (cW ws l) (cR ws l rs) l2) :
    rightB (cW ws l) (cR ws l rs) = true ∧ outW (cW ws l) (cR ws l rs) l2 = cW ws l ∧ outR (cW ws l) (cR ws l rs) l2 = cR ws l rs ∧ (∀ x ∈ outP (cW ws l) (cR ws l rs) l2, x.1 = x.2) ∧ (outP (cW ws l) (cR ws l rs) l2).length ≤ 1048576 := by
  obtain ⟨a1, a2, a3, a4⟩ := twice_of h h.root h.few hl h2
  refine ⟨a1, a3, a4, fun x hx => ?_, ?_⟩
  · unfold outP at hx
    rw [if_pos a1, a2] at hx
    unfold posL at hx
    obtain ⟨y, hy, rfl⟩ := List.mem_map.1 hx
    obtain ⟨b, hb, rfl⟩ := List.mem_map.1 hy
    exact (cc_to h.toLiv (fun a ha => ha) (Or.inr hb)).symm
  · unfold outP
    rw [if_pos a1, a2]
    unfold posL
    rw [List.length_map, List.length_map]
    exact Nat.le_trans (obs_count ws l (h.rise.imp fun {a b} h => by omega) h.ob) h.most
end Go.Proofs.YtlbhhdldeaehkaaGreat

/- The landed package cells: object. -/
namespace Go.Proofs.YtlbhhdldeaehkaaGreat
open Go.RowKit

theorem Tryz.infoI64 : (Tryz.prog.info? 3).map (fun i => (i.zero, i.size, i.bytes)) = some (some (.int .i64 0), 1, 8) := by kernel_rfl
theorem Uw_len2 (ws : List Int) : (Uw ws).length = ws.length := List.length_map _
theorem three_cells {w : World} {g e : Nat} {a b c : Value} (h : w.heap[g]? = some (.cells #[a, b, c] e (0, 0))) : w.cell? ⟨g, 0, none⟩ = some a ∧ w.cell? ⟨g, 1, none⟩ = some b ∧ w.cell? ⟨g, 2, none⟩ = some c ∧ ∀ j, w.frozen? ⟨g, j, none⟩ = false := by
  refine ⟨?_, ?_, ?_, fun j => frozen_of_block h⟩
  all_goals (rw [cell_of_row w g _ _ e (0, 0) h]; rfl)
theorem set_three {w : World} {g e : Nat} {a b c x y z : Value} (h : w.heap[g]? = some (.cells #[a, b, c] e (0, 0))) : (((w.setCell ⟨g, 0, none⟩ x).setCell ⟨g, 1, none⟩ y).setCell ⟨g, 2, none⟩ z).heap[g]? = some (.cells #[x, y, z] e (0, 0)) ∧ Keep (fun k => k = g) w (((w.setCell ⟨g, 0, none⟩ x).setCell ⟨g, 1, none⟩ y).setCell ⟨g, 2, none⟩ z) := by
  have h1 := heap_setCell_same w g 0 _ _ x h
  have h2 := heap_setCell_same _ g 1 _ _ y h1
  have h3 := heap_setCell_same _ g 2 _ _ z h2
  exact ⟨by rw [h3]; rfl, ((keep_set w g 0 x).trans (keep_set _ g 1 y) (fun _ e => Or.inl e)).trans (keep_set _ g 2 z) (fun _ e => Or.inl e)⟩
theorem ownsV_base {w : World} {b b' e sz n : Nat} {v : Value} {xs : List Value} (h : w.ownsRow b e sz v n xs) (hb : b' ≤ b) : w.ownsRow b' e sz v n xs := by
  refine ⟨h.1, ?_⟩
  rcases h.2 with h2 | ⟨g, cap, cur, rfl, hg, r⟩
  · exact Or.inl h2
  · exact Or.inr ⟨g, cap, cur, rfl, Nat.le_trans hb hg, r⟩
/-- An object (66) that is put together: the answer's variable r, its own variable r + 1, the rows of its fields. -/
structure OS (w wr : World) (kd : Int) (p d : Value) (ps ds : List Int) : Prop where
  res : wr.heap[w.heap.size]? = some (.cells #[.int .i64 0, .slice none 0 0, .slice none 0 0] 66 (0, 0))
  var : wr.heap[w.heap.size + 1]? = some (.cells #[.int .i64 kd, p, d] 66 (0, 0))
  rowp : wr.ownsRow (w.heap.size + 2) 3 1 p ps.length (Iw ps)
  rowd : wr.ownsRow (w.heap.size + 2) 31 1 d ds.length (Uw ds)
  bel : Below w.heap.size w wr
theorem OS.cells {w wr : World} {kd : Int} {p d : Value} {ps ds : List Int} (h : OS w wr kd p d ps ds) : wr.cell? ⟨w.heap.size + 1, 0, none⟩ = some (.int .i64 kd) ∧ wr.cell? ⟨w.heap.size + 1, 1, none⟩ = some p ∧ wr.cell? ⟨w.heap.size + 1, 2, none⟩ = some d ∧ ∀ j, wr.frozen? ⟨w.heap.size + 1, j, none⟩ = false := by
  refine ⟨?_, ?_, ?_, fun j => frozen_of_block h.var⟩
  all_goals (rw [cell_of_row wr _ _ _ _ (0, 0) h.var]; rfl)
theorem OS.below {w wr wx : World} {kd : Int} {p d : Value} {ps ds : List Int} (h : OS w wr kd p d ps ds) (hb : Below wr.heap.size wr wx) : OS w wx kd p d ps ds :=
  ⟨(hb.block _ (Array.getElem?_eq_some_iff.1 h.res).1).trans h.res, (hb.block _ (Array.getElem?_eq_some_iff.1 h.var).1).trans h.var, ownsV_keep (F := fun _ => False) h.rowp (Keep.of_below hb) (fun _ _ => id), ownsV_keep (F := fun _ => False) h.rowd (Keep.of_below hb) (fun _ _ => id), h.bel.trans (hb.mono h.bel.size)⟩
/-- A new row in a field. -/
theorem OS.set {w wr wx : World} {kd : Int} {p d : Value} {ps ds : List Int} (h : OS w wr kd p d ps ds) {v v2 : Value} (hg : wr.grownBy wx v.ownBlock) (hv : ∀ k, v.ownBlock = some k → w.heap.size + 2 ≤ k) (j : Nat) :
    Keep (fun k => v.ownBlock = some k ∨ k = w.heap.size + 1) wr (wx.setCell ⟨w.heap.size + 1, j, none⟩ v2) ∧ (wx.setCell ⟨w.heap.size + 1, j, none⟩ v2).heap[w.heap.size + 1]? = some (.cells (#[.int .i64 kd, p, d].setIfInBounds j v2) 66 (0, 0)) ∧ wx.heap[w.heap.size + 1]? = some (.cells #[.int .i64 kd, p, d] 66 (0, 0)) ∧ wx.heap[w.heap.size]? = some (.cells #[.int .i64 0, .slice none 0 0, .slice none 0 0] 66 (0, 0)) := by
  have l1 := (Array.getElem?_eq_some_iff.1 h.var).1
  have hb := (hg.block (w.heap.size + 1) l1 (fun e => by have := hv _ e.symm; omega))
  have hb2 := hb.trans h.var
  have K1 : Keep (fun k => v.ownBlock = some k) wr wx := ⟨hg.os, hg.tape, hg.output, hg.size, fun k hk hn => hg.block k hk (fun e => hn e.symm)⟩
  exact ⟨(K1.weak (fun _ h => Or.inl h)).trans (keep_set wx (w.heap.size + 1) j v2) (fun k e => Or.inl (Or.inr e)), heap_setCell_same wx _ j _ _ v2 hb2, hb2, (hg.block w.heap.size (Array.getElem?_eq_some_iff.1 h.res).1 (fun e => by have := hv _ e.symm; omega)).trans h.res⟩

set_option maxRecDepth 20000 in
set_option maxHeartbeats 2000000 in
theorem cobject_any (h : Int) (s : Value) (xs : List Int) (w : World) (u0 : 0 ≤ h) (u1 : h < 4294967296) (hs : VRow w s (Uw xs)) (hx : xs.length < 1048576) (hp : ptN h ≤ xs.length) (hU : U32 xs) :
    Calls Tryz.prog 101 #[.int .u32 h, s] w fun e w' => ∃ p d, e = .returned (.agg #[.int .i64 (h % 16), p, d]) ∧ w'.ownsRow w.heap.size 3 1 p (ptN h) (Iw (xs.take (ptN h))) ∧ w'.ownsRow w.heap.size 31 1 d (xs.length - ptN h) (Uw (xs.drop (ptN h))) ∧ Below w.heap.size w w' := by
  obtain ⟨a, cap, rfl, g1, g2, g3⟩ := hs.shape
  rw [List.length_map] at *
  clear g1 g2 g3
  obtain ⟨i0, hi, hz0, hz1, hz2⟩ := info_parts Tryz.infoI64
  obtain ⟨i4, hi4, hy0, hy1, hy2⟩ := info_parts Tryz.infoU32
  have hmx : Tryz.prog.follows .mixedOrders = true := by kernel_rfl
  obtain ⟨N, hN⟩ : ∃ N, N = ptN h := ⟨_, rfl⟩
  have hNI : h / 16 % 256 = (N : Int) := by rw [hN]; exact (ptN_int h).symm
  have hN2 : N < 256 := by rw [hN]; exact ptN_lt h
  rw [← hN] at hp ⊢
  have HPT := hide (fun w => cptrs_t h w u0 u1)
  have HKD := hide (fun w => ckind_t h w u0 u1)
  rw [hNI] at HPT
  have HP := hide hp
  have HX := hide hx
  have HN2 := hide hN2
  obtain ⟨q1, c1, hcut1, hrow1, _⟩ := hs.cut_h Tryz.underlying33 Tryz.sizeU32 N (by rw [List.length_map]; exact hp)
  obtain ⟨q2, c2, hcut2, hrow2, _⟩ := hs.cut_l Tryz.underlying33 Tryz.sizeU32 N (xs.length - N) (by rw [List.length_map]; omega)
  obtain ⟨m, hm⟩ : ∃ m, m = xs.length - N := ⟨_, rfl⟩
  rw [← hm] at hcut2 hrow2 ⊢
  have HR1 := hide (show VRow w (.slice q1 N c1) (Uw (xs.take N)) by rw [Uw, List.map_take]; exact hrow1)
  have HR2 := hide (show VRow w (.slice q2 m c2) (Uw (xs.drop N)) by rw [Uw, List.map_drop]; exact hrow2)
  have HM := hide hm
  have HU := hide hU
  have HT := hide (show (xs.take N).length = N by rw [List.length_take]; omega)
  have hbI : Below w.heap.size w ((w.alloc (.cells #[.int .i64 0, .slice none 0 0, .slice none 0 0] 66)).alloc (.cells #[.int .i64 (h % 16), .slice none 0 0, .slice none 0 0] 66)) := ((Below.refl _ w).alloc (Nat.le_refl _) _).alloc (by simp) _
  have HST : Hid (OS w ((w.alloc (.cells #[.int .i64 0, .slice none 0 0, .slice none 0 0] 66)).alloc (.cells #[.int .i64 (h % 16), .slice none 0 0, .slice none 0 0] 66)) (h % 16) (.slice none 0 0) (.slice none 0 0) [] []) := by
    refine ⟨?_, ?_, World.ownsRow_nil _ _ _ _, World.ownsRow_nil _ _ _ _, hbI⟩
    · exact (Below.heap_alloc _ _ _ (by simp)).trans (World.alloc_heap_new w _)
    · have := World.alloc_heap_new (w.alloc (.cells #[.int .i64 0, .slice none 0 0, .slice none 0 0] 66)) (.cells #[.int .i64 (h % 16), .slice none 0 0, .slice none 0 0] 66)
      rwa [World.size_alloc] at this
  clear hN hNI hN2 hp hx hs hrow1 hrow2 hU hm hbI
  go_enter Tryz.func101, Tryz.ntmps101
  go_wp2_with fail
  refine Calls.mono (unhide HKD _) ?_
  rintro e w1 ⟨rfl, rfl⟩
  go_wp2_with fail
  refine Calls.mono (unhide HPT _) ?_
  rintro e w1 ⟨rfl, rfl⟩
  go_wp2_with fail
  go_loopw [16] (fun i wr => ∃ (k : Nat) (p : Value), k ≤ N ∧ i = .int .i64 (k : Int) ∧ OS w wr (h % 16) p (.slice none 0 0) (xs.take k) []) (fun i _ => N - (intOf i).toNat)
  case atStart => exact ⟨0, .slice none 0 0, Nat.zero_le _, rfl, by rw [List.take_zero]; exact unhide HST⟩
  case round =>
    clear HST
    obtain ⟨k, p, hk, rfl, hos⟩ := hrel
    obtain ⟨a0, a1, a2, af⟩ := hos.cells
    have hlk : (xs.take k).length = k := by rw [List.length_take]; have := unhide HP; omega
    by_cases hlt : k < N
    · have hkI : (k : Int) < (N : Int) := by omega
      have hkx : k < xs.length := by have := unhide HP; omega
      obtain ⟨b, off, cz, e0, g1, g2, hcl⟩ := ((unhide HR1).below hos.bel).open (by intro e; have := congrArg List.length e; rw [Uw_len2, unhide HT] at this; simp at this; omega)
      simp only [Value.slice.injEq] at e0
      obtain ⟨rfl, g3, rfl⟩ := e0
      have hc := hcl k (.int .u32 xs[k]) (by rw [List.getElem?_map, List.getElem?_take_of_lt hlt, List.getElem?_eq_getElem hkx]; rfl)
      obtain ⟨v0, v1⟩ := unhide HU xs[k] (List.getElem_mem hkx)
      have HTK := hide (show xs.take (k + 1) = xs.take k ++ [xs[k]] from List.take_succ_eq_append_getElem hkx)
      obtain ⟨pv, cv, rfl⟩ := ownsV_shape hos.rowp
      rw [hlk] at a1 hos
      generalize xs[k] = x at *
      have hbW : Below wr.heap.size wr (wr.alloc (.cells #[.int .i64 x] 3)) := (Below.refl _ _).alloc (Nat.le_refl _) _
      have HO := hide (hos.below hbW)
      have HOW := hide (show (wr.alloc (.cells #[.int .i64 x] 3)).ownsRow (w.heap.size + 2) 3 1 (.slice pv k cv) k (Iw (xs.take k)) by have := (hos.below hbW).rowp; rw [hlk] at this; exact this)
      have HBS := hide (show w.heap.size + 2 ≤ wr.heap.size from (Array.getElem?_eq_some_iff.1 hos.var).1)
      have hxw : IntKind.i64.wrap x = x := by rw [IntKind.wrap_i64]; omega
      have hnw : IntKind.i64.wrap ((k : Int) + 1) = (k : Int) + 1 := by have := unhide HN2; rw [IntKind.wrap_i64]; omega
      have HLT := hide hlt
      have f1 := af 1
      have HLK := hide hlk
      clear g1 g2 g3 hcl hos hbW hk hlt hkx hlk a0 a2 af
      go_wp2_with (first
        | (at_builtin; refine wpList_append_gen rfl (.tmp 21) (.tmp 24) 32 rfl (w.heap.size + 2) 3 i0 (.int .i64 0) Tryz.underlying32 hi hz0 1 8 (by omega) hz1 hz2 rfl (.slice pv k cv) k (Iw (xs.take k)) rfl (unhide HOW) ⟨wr.heap.size, 0, none⟩ 1 1 [.int .i64 x] rfl rfl (by intro j u hj; match j, hj with | 0, hj => (simp at hj; subst hj; simp [Addr.add])) (by intro u hu; simp at hu; subst hu; rfl) (by have := unhide HN2; have := unhide HLT; unfold maxLen; omega) (by have := unhide HN2; have := unhide HLT; omega) (by rw [World.size_alloc]; have := unhide HBS; omega) ?_))
      intro v2 w2 hown2 hgrow2 hob2
      have hv0 : ∀ k', (Value.slice pv k cv).ownBlock = some k' → w.heap.size + 2 ≤ k' := fun k' e => ((unhide HOW).lt k' e).1
      obtain ⟨K1, g1, e1, er⟩ := (unhide HO).set (v2 := v2) hgrow2 hv0 1
      obtain ⟨_, y1, _, ef'⟩ := three_cells e1
      have ef := ef' 1
      obtain ⟨p2, c2, rfl⟩ := ownsV_shape hown2
      have hov : ∀ k', (Value.slice p2 (k + 1) c2).ownBlock = some k' → w.heap.size + 2 ≤ k' := fun k' e => (hown2.lt k' e).1
      have HJ : Hid (OS w (w2.setCell ⟨w.heap.size + 1, 1, none⟩ (.slice p2 (k + 1) c2)) (h % 16) (.slice p2 (k + 1) c2) (.slice none 0 0) (xs.take (k + 1)) []) := by
        have ho := unhide HO
        refine ⟨(K1.block _ (Array.getElem?_eq_some_iff.1 ho.res).1 (fun hk => ?_)).trans ho.res, g1, ?_, World.ownsRow_nil _ _ _ _, ?_⟩
        · rcases hk with hk | hk
          · have := hv0 _ hk; omega
          · omega
        · have hl : (xs.take (k + 1)).length = k + 1 := by rw [unhide HTK, List.length_append, unhide HLK]; rfl
          rw [hl, unhide HTK, Iw, List.map_append]
          rw [← List.map_take] at hown2
          exact ownsV_keep hown2 (keep_set w2 (w.heap.size + 1) 1 _) (fun k' hk' e => by have := hov k' hk'; omega)
        · refine ho.bel.trans (K1.below ho.bel.size (fun k' hk' => ?_))
          rcases hk' with hk' | hk'
          · have := hv0 _ hk'; omega
          · omega
      clear hown2 hgrow2 hob2 K1 g1 e1 er hv0 hov ef'
      go_wp2_with fail
      go_roundw
      case rel => exact ⟨k + 1, _, unhide HLT, by go_num, unhide HJ⟩
      case measure => (have := unhide HLT; simp [intOf]; omega)
    · have hke : k = N := by omega
      subst hke
      clear hk hlt
      obtain ⟨pv, cv, rfl⟩ := ownsV_shape hos.rowp
      rw [hlk] at a1 hos
      have HOS := hide hos
      have HLK := hide hlk
      have f2 := af 2
      have hd1 : Below wr.heap.size wr wr.drew := (Below.refl _ wr).drew
      have HOD := hide (hos.below hd1)
      have HR2' := hide (((unhide HR2).below hos.bel).below hd1)
      have HBS := hide (show w.heap.size + 2 ≤ wr.drew.heap.size from (Array.getElem?_eq_some_iff.1 (hos.below hd1).var).1)
      have hone : ∀ u ∈ Uw (xs.drop k), u.oneCell' = true := by
        intro u hu
        obtain ⟨_, _, rfl⟩ := List.mem_map.1 hu
        rfl
      have HON := hide hone
      clear hos hlk af hd1 hone
      go_wp2_with fail
      go_region_law (first
        | (go_simp; go_at_call 82; refine Calls.mono (unhide HPT _) ?_; rintro x w5 ⟨rfl, rfl⟩; dsimp only)
        | (refine step_append_vrow rfl _ _ 33 rfl (w.heap.size + 2) 31 i4 (.int .u32 0) Tryz.underlying33 hi4 hy0 4 hy1 hy2 rfl (.slice none 0 0) 0 [] (by first | rfl | simp [Act.eval, Act.put]) (World.ownsRow_nil _ _ _ _) q2 m c2 (Uw (xs.drop k)) (by first | rfl | simp [Act.eval, Act.put]) (unhide HR2') (unhide HON) (by have := unhide HX; have := unhide HM; unfold maxLen; omega) (by have := unhide HX; have := unhide HM; omega) (unhide HBS) ?_; intro v2 w6 hown6 hgrow6 hob6; obtain ⟨K1, g1, e1, er⟩ := (unhide HOD).set (v2 := v2) hgrow6 (by simp [Value.ownBlock]) 2; obtain ⟨z0, z1, z2, zf⟩ := three_cells e1; have zf2 := zf 2; obtain ⟨x0, x1, x2, xf⟩ := three_cells er; have xf0 := xf 0; have xf1 := xf 1; have xf2 := xf 2; obtain ⟨p2, c3, rfl⟩ := ownsV_shape hown6; have HJ := hide (And.intro K1 (And.intro g1 (And.intro hown6 er))); clear hown6 hgrow6 K1 g1 e1 er hob6 zf xf))
      all_goals go_wp2_with fail
      all_goals
        obtain ⟨K1, g1, hown6, er⟩ := unhide HJ
        have hod := unhide HOD
        have er2 := (keep_set w6 (w.heap.size + 1) 2 (.slice p2 m c3)).block w.heap.size (Array.getElem?_eq_some_iff.1 er).1 (by omega) |>.trans er
        obtain ⟨s3, K3⟩ := set_three (x := .int .i64 (h % 16)) (y := .slice pv k cv) (z := .slice p2 m c3) er2
        obtain ⟨t0, t1, t2, _⟩ := three_cells s3
        rw [Nat.zero_add] at K1 g1 hown6
        have K0 : Keep (fun k' => k' = w.heap.size ∨ k' = w.heap.size + 1) wr.drew (w6.setCell ⟨w.heap.size + 1, 2, none⟩ (.slice p2 m c3)) := K1.weak (fun k' e => by
          rcases e with e | e
          · simp [Value.ownBlock] at e
          · exact Or.inr e)
        have K4 := K0.trans K3 (fun k' e => Or.inl (Or.inl e))
        have hs2 := hod.bel.size
        refine bodyPost_ret (v := .agg #[.int .i64 (h % 16), .slice pv k cv, .slice p2 m c3]) (by simp [results, Tryz.results101, go_sem, t0, t1, t2]) rfl ⟨_, _, rfl, ?_, ?_, ?_⟩
        · have hr := hod.rowp
          rw [unhide HLK] at hr
          exact ownsV_base (ownsV_keep hr K4 (fun k' hk' e => by have := (hr.lt k' hk').1; omega)) (by omega)
        · refine ownsV_base (ownsV_keep (ownsV_keep hown6 (keep_set w6 (w.heap.size + 1) 2 (.slice p2 m c3)) (fun k' hk' e => by have := (hown6.lt k' hk').1; omega)) K3 (fun k' hk' e => by have := (hown6.lt k' hk').1; omega)) (by omega)
        · exact hod.bel.trans (K4.below hs2 (fun k' e => by omega))
end Go.Proofs.YtlbhhdldeaehkaaGreat

/- The statements' own 'told': what All tells, up to so many. -/
namespace Go.Proofs.YtlbhhdldeaehkaaGreat
open Go.RowKit Go.Shelf
attribute [local go_sem] Oper.semAt_some

theorem Tryz.infoInt : (Tryz.prog.info? 3).map (fun i => (i.zero, i.size, i.bytes)) = some (some (.int .i64 0), 1, 8) := by kernel_rfl
/-- The places that came. -/
def plV (pre : List (Nat × Int)) : List Value := pre.map fun x => .int .i64 (x.1 : Int)
theorem plV_snoc (pre : List (Nat × Int)) (p : Nat) (h : Int) : plV (pre ++ [(p, h)]) = plV pre ++ [.int .i64 (p : Int)] := by simp [plV]
/-- Variables that stand, and one that holds a row that grows. -/
def MixI (L : List (Nat × Obj)) (B TB E sz n : Nat) (xs : List Value) (C : Nat → Prop) (W : World) : Prop :=
  ∃ C1, (∀ x ∈ L, W.heap[x.1]? = some x.2) ∧ GR B TB E sz n xs C1 W ∧ (∀ x ∈ L, ¬ C1 x.1) ∧ ∀ k, C k ↔ k ∈ L.map Prod.fst ∨ C1 k
theorem MixI.stays {L : List (Nat × Obj)} {B TB E sz n : Nat} {xs : List Value} {C : Nat → Prop} {W W' : World} {G : Nat → Prop} (h : MixI L B TB E sz n xs C W) (hk : Keep G W W') (hn : ∀ k, C k → ¬ G k) : MixI L B TB E sz n xs C W' := by
  obtain ⟨C1, h1, h2, h3, h4⟩ := h
  exact ⟨C1, fun x hx => (hk.block _ (Array.getElem?_eq_some_iff.1 (h1 x hx)).1 (hn _ ((h4 _).2 (Or.inl (List.mem_map.2 ⟨x, hx, rfl⟩))))).trans (h1 x hx), h2.stays hk (fun k hk => hn k ((h4 k).2 (Or.inr hk))), h3, h4⟩
theorem MixI.lt {L : List (Nat × Obj)} {B TB E sz n : Nat} {xs : List Value} {C : Nat → Prop} {W : World} (h : MixI L B TB E sz n xs C W) (k : Nat) (hc : C k) : k < W.heap.size := by
  obtain ⟨C1, h1, h2, h3, h4⟩ := h
  rcases (h4 k).1 hc with h | h
  · obtain ⟨x, hx, rfl⟩ := List.mem_map.1 h
    exact (Array.getElem?_eq_some_iff.1 (h1 x hx)).1
  · exact h2.lt k h
/-- The row grows, the others stand. -/
theorem MixI.more {L : List (Nat × Obj)} {B TB E sz n' : Nat} {xs' : List Value} {C C1 C2 : Nat → Prop} {W W' : World} (h1 : ∀ x ∈ L, W.heap[x.1]? = some x.2) (h3 : ∀ x ∈ L, ¬ C1 x.1) (h4 : ∀ k, C k ↔ k ∈ L.map Prod.fst ∨ C1 k)
    (h2 : GR B TB E sz n' xs' C2 W') (hm : Moves C1 C2 W W') : MixI L B TB E sz n' xs' (fun k => k ∈ L.map Prod.fst ∨ C2 k) W' ∧ Moves C (fun k => k ∈ L.map Prod.fst ∨ C2 k) W W' := by
  refine ⟨⟨C2, fun x hx => (hm.keep.block _ (Array.getElem?_eq_some_iff.1 (h1 x hx)).1 (h3 x hx)).trans (h1 x hx), h2, fun x hx hc => ?_, fun _ => Iff.rfl⟩, hm.keep.weak (fun k hk => (h4 k).2 (Or.inr hk)), fun k hk => ?_⟩
  · rcases hm.sub _ hc with h | h
    · exact h3 x hx h
    · have := (Array.getElem?_eq_some_iff.1 (h1 x hx)).1; omega
  · rcases hk with hk | hk
    · exact Or.inl ((h4 k).2 (Or.inl hk))
    · rcases hm.sub k hk with h | h
      · exact Or.inl ((h4 k).2 (Or.inr h))
      · exact Or.inr h

def ToI (L : List (Nat × Obj)) (B most : Nat) (pre : List (Nat × Int)) (C : Nat → Prop) (W : World) : Prop := pre.length ≤ most ∧ MixI L B 32 3 1 pre.length (plV pre) C W
theorem ToI.ok (L : List (Nat × Obj)) (B most b : Nat) : SOk b (ToI L B most) := ⟨fun _ _ _ _ _ h hk hn _ => ⟨h.1, h.2.stays hk hn⟩, fun _ _ _ h k hc => h.2.lt k hc⟩
def ToX (L : List (Nat × Obj)) (B most : Nat) (c : Code) (xs : List (Nat × Int)) (C : Nat → Prop) (W : World) : Prop := c = .exit 0 ∧ xs.dropLast.length = most ∧ MixI L B 32 3 1 xs.dropLast.length (plV xs.dropLast) C W
theorem ToX.ok (L : List (Nat × Obj)) (B most b : Nat) (c : Code) : SOk b (ToX L B most c) := ⟨fun _ _ _ _ _ h hk hn _ => ⟨h.1, h.2.1, h.2.2.stays hk hn⟩, fun _ _ _ h k hc => h.2.2.lt k hc⟩

theorem four_new (w : World) (x y z u : Obj) : (((((w.alloc x).alloc y).alloc z).alloc u).heap[w.heap.size]? = some x) ∧ (((((w.alloc x).alloc y).alloc z).alloc u).heap[w.heap.size + 1]? = some y) ∧ (((((w.alloc x).alloc y).alloc z).alloc u).heap[w.heap.size + 1 + 1]? = some z) ∧ (((((w.alloc x).alloc y).alloc z).alloc u).heap[w.heap.size + 1 + 1 + 1]? = some u) := by
  obtain ⟨h1, h2, h3⟩ := three_new w x y z
  have hs : (((w.alloc x).alloc y).alloc z).heap.size = w.heap.size + 1 + 1 + 1 := by simp
  refine ⟨(Below.heap_alloc _ _ _ (by omega)).trans h1, (Below.heap_alloc _ _ _ (by omega)).trans h2, (Below.heap_alloc _ _ _ (by omega)).trans h3, ?_⟩
  have := World.alloc_heap_new (((w.alloc x).alloc y).alloc z) u
  rw [hs] at this
  exact this
/-- The variables of 'told' that stand. -/
def toL (n : Nat) (s : Value) (most : Nat) : List (Nat × Obj) := [(n, .cells #[s] 33 (0, 0)), (n + 1, .cells #[.int .i64 (most : Int)] 3 (0, 0)), (n + 1 + 1, .cells #[.slice none 0 0] 32 (0, 0)), (n + 1 + 1 + 1, .cells #[.bool false] 4 (0, 0))]
theorem toL_all {n : Nat} {s : Value} {most : Nat} {W : World} (h : ∀ x ∈ toL n s most, W.heap[x.1]? = some x.2) : W.heap[n]? = some (.cells #[s] 33 (0, 0)) ∧ W.heap[n + 1]? = some (.cells #[.int .i64 (most : Int)] 3 (0, 0)) ∧ W.heap[n + 1 + 1]? = some (.cells #[.slice none 0 0] 32 (0, 0)) ∧ W.heap[n + 1 + 1 + 1]? = some (.cells #[.bool false] 4 (0, 0)) :=
  ⟨h _ (List.mem_cons_self), h _ (List.mem_cons_of_mem _ List.mem_cons_self), h _ (List.mem_cons_of_mem _ (List.mem_cons_of_mem _ List.mem_cons_self)), h _ (List.mem_cons_of_mem _ (List.mem_cons_of_mem _ (List.mem_cons_of_mem _ List.mem_cons_self)))⟩
theorem toL_mem {n : Nat} {s : Value} {most : Nat} {k : Nat} : k ∈ (toL n s most).map Prod.fst ↔ k = n ∨ k = n + 1 ∨ k = n + 1 + 1 ∨ k = n + 1 + 1 + 1 := by simp [toL]

end Go.Proofs.YtlbhhdldeaehkaaGreat

/- The landed package cells: At. -/
namespace Go.Proofs.YtlbhhdldeaehkaaGreat
open Go.RowKit Go.Shelf
attribute [local go_sem] Oper.semAt_some

/-- What At answers: kind, pointers, data, error. -/
def atR (ws : List Int) (a : Int) : Int × List Int × List Int × Int := match fndO ws a with
  | some x => (x.2 % 16, ptrsO ws x, dataO ws x, 0)
  | none => (0, [], [], 6)
theorem atR_some {ws : List Int} {pre rest : List (Nat × Int)} {x : Nat × Int} (h : obs ws 1 = pre ++ x :: rest) : atR ws (x.1 : Int) = (x.2 % 16, ptrsO ws x, dataO ws x, 0) := by
  have hf : fndO ws (x.1 : Int) = some x := by
    unfold fndO
    rw [h, List.find?_append]
    have h1 : pre.find? (fun y => decide ((y.1 : Int) = (x.1 : Int))) = none := by
      rw [List.find?_eq_none]
      intro y hy
      have := (obs_ahead h).2 y hy
      simp; omega
    rw [h1]
    simp
  simp only [atR, hf]
theorem atR_none {ws : List Int} {a : Int} (h : ∀ x ∈ obs ws 1, ¬ (x.1 : Int) = a) : atR ws a = (0, [], [], 6) := by
  have hf : fndO ws a = none := by
    unfold fndO
    rw [List.find?_eq_none]
    intro y hy
    simpa using h y hy
  simp only [atR, hf]
/-- Behind a place that is too great nothing more is met. -/
theorem obs_behind {ws : List Int} {pre rest : List (Nat × Int)} {x : Nat × Int} {a : Int} (h : obs ws 1 = pre ++ x :: rest) (h1 : ∀ y ∈ pre, (y.1 : Int) < a) (h2 : a < (x.1 : Int)) : ∀ y ∈ obs ws 1, ¬ (y.1 : Int) = a := by
  intro y hy
  rw [h, List.mem_append, List.mem_cons] at hy
  rcases hy with hy | rfl | hy
  · have := h1 y hy; omega
  · omega
  · obtain ⟨q1, q2, hq⟩ := List.append_of_mem hy
    have hs : obs ws 1 = (pre ++ x :: q1) ++ y :: q2 := by rw [h, hq]; simp
    have := (obs_ahead hs).2 x (by simp)
    omega

/-- All that came lies ahead of the place. -/
def lowP (a : Int) (pre : List (Nat × Int)) : Prop := ∀ y ∈ pre, (y.1 : Int) < a
/-- The variables of At. -/
def atL (n : Nat) (s : Value) (a : Int) : List (Nat × Obj) := [(n, .cells #[s] 33 (0, 0)), (n + 1, .cells #[.int .i64 a] 3 (0, 0)), (n + 1 + 1, .cells #[.int .i64 0, .slice none 0 0, .slice none 0 0] 66 (0, 0)), (n + 1 + 1 + 1, .cells #[.int .i64 0] 24 (0, 0))]
theorem atL_all {n : Nat} {s : Value} {a : Int} {W : World} (h : ∀ x ∈ atL n s a, W.heap[x.1]? = some x.2) : W.heap[n]? = some (.cells #[s] 33 (0, 0)) ∧ W.heap[n + 1]? = some (.cells #[.int .i64 a] 3 (0, 0)) ∧ W.heap[n + 1 + 1]? = some (.cells #[.int .i64 0, .slice none 0 0, .slice none 0 0] 66 (0, 0)) ∧ W.heap[n + 1 + 1 + 1]? = some (.cells #[.int .i64 0] 24 (0, 0)) :=
  ⟨h _ (List.mem_cons_self), h _ (List.mem_cons_of_mem _ List.mem_cons_self), h _ (List.mem_cons_of_mem _ (List.mem_cons_of_mem _ List.mem_cons_self)), h _ (List.mem_cons_of_mem _ (List.mem_cons_of_mem _ (List.mem_cons_of_mem _ List.mem_cons_self)))⟩
theorem atL_mem {n : Nat} {s : Value} {a : Int} {k : Nat} : k ∈ (atL n s a).map Prod.fst ↔ k = n ∨ k = n + 1 ∨ k = n + 1 + 1 ∨ k = n + 1 + 1 + 1 := by simp [atL]
/-- How a round of At leaves. -/
def AtX (n b : Nat) (s : Value) (ws : List Int) (a : Int) (c : Code) (xs : List (Nat × Int)) (C : Nat → Prop) (W : World) : Prop :=
  (c = .exit 0 ∧ (∀ y ∈ xs.dropLast, (y.1 : Int) < a) ∧ (∀ y, xs.getLast? = some y → a < (y.1 : Int)) ∧ BxI (fun _ => atL n s a) (fun _ => True) xs C W) ∨
  (c = .ret ∧ ∃ x p d, xs.getLast? = some x ∧ (x.1 : Int) = a ∧ W.heap[n + 1 + 1]? = some (.cells #[.int .i64 (x.2 % 16), p, d] 66 (0, 0)) ∧ W.heap[n + 1 + 1 + 1]? = some (.cells #[.int .i64 0] 24 (0, 0)) ∧
    W.ownsRow b 3 1 p (ptrsO ws x).length (Iw (ptrsO ws x)) ∧ W.ownsRow b 31 1 d (dataO ws x).length (Uw (dataO ws x)) ∧ (∀ k, C k ↔ k = n + 1 + 1 ∨ k = n + 1 + 1 + 1 ∨ k = n ∨ k = n + 1 ∨ p.ownBlock = some k ∨ d.ownBlock = some k) ∧ n + 1 < W.heap.size)
theorem AtX.ok (n b : Nat) (s : Value) (ws : List Int) (a : Int) (c : Code) (b' : Nat) : SOk b' (AtX n b s ws a c) := by
  refine ⟨fun pre C W W' G h hk hn hg => ?_, fun pre C W h k hc => ?_⟩
  · rcases h with ⟨h1, h2, h3, h4⟩ | ⟨h1, x, p, d, h2, h3, h4, h5, h6, h7, h8, h9⟩
    · exact Or.inl ⟨h1, h2, h3, (BxI.ok _ _ b').stays _ _ _ _ G h4 hk hn hg⟩
    · refine Or.inr ⟨h1, x, p, d, h2, h3, (hk.block _ (Array.getElem?_eq_some_iff.1 h4).1 (hn _ ((h8 _).2 (Or.inl rfl)))).trans h4, (hk.block _ (Array.getElem?_eq_some_iff.1 h5).1 (hn _ ((h8 _).2 (Or.inr (Or.inl rfl))))).trans h5, ownsV_keep h6 hk (fun k e => hn k ((h8 k).2 (by simp [e]))), ownsV_keep h7 hk (fun k e => hn k ((h8 k).2 (by simp [e]))), h8, Nat.lt_of_lt_of_le h9 hk.size⟩
  · rcases h with ⟨h1, h2, h3, h4⟩ | ⟨h1, x, p, d, h2, h3, h4, h5, h6, h7, h8, h9⟩
    · exact (BxI.ok _ _ b').lt _ _ _ h4 k hc
    · rcases (h8 k).1 hc with rfl | rfl | rfl | rfl | e | e
      · exact (Array.getElem?_eq_some_iff.1 h4).1
      · exact (Array.getElem?_eq_some_iff.1 h5).1
      · omega
      · exact h9
      · exact (h6.lt k e).2
      · exact (h7.lt k e).2

set_option maxRecDepth 20000 in
set_option maxHeartbeats 2000000 in
theorem cat_any (s : Value) (ws : List Int) (at' : Int) (w : World) (hs : VRow w s (Uw ws)) (hU : U32 ws) (hl : ws.length ≤ 1099511627777) :
    Calls Tryz.prog 84 #[s, .int .i64 at'] w fun e w' => ∃ p d kd er ps ds, e = .returned (.tuple #[.agg #[.int .i64 kd, p, d], .int .i64 er]) ∧ atR ws at' = (kd, ps, ds, er) ∧ w'.ownsRow w.heap.size 3 1 p ps.length (Iw ps) ∧ w'.ownsRow w.heap.size 31 1 d ds.length (Uw ds) ∧ Below w.heap.size w w' := by
  refine (callsIn_wide (n := 5)).1 ?_
  refine callsIn_of_wp_marks Tryz.func84 rfl trivial ?_ rfl
  simp only [Tryz.ntmps84, List.size_toArray, List.length_cons, List.length_nil, Nat.reduceAdd, Nat.reduceSub, Array.replicate_succ, Array.replicate_zero, List.push_toArray, List.append_toArray, List.nil_append, List.cons_append]
  obtain ⟨a, cap, rfl, hc1, hc2, hc3⟩ := hs.shape
  rw [List.length_map] at *
  have HS := hide hs
  have HU := hide hU
  have HL := hide hl
  clear hs hU hl hc1 hc2 hc3
  obtain ⟨W0, hW0⟩ : ∃ W0, ((((w.alloc (.cells #[.slice a ws.length cap] 33)).alloc (.cells #[.int .i64 at'] 3)).alloc (.cells #[.int .i64 0, .slice none 0 0, .slice none 0 0] 66)).alloc (.cells #[.int .i64 0] 24)) = W0 := ⟨_, rfl⟩
  have HB0 : Hid (Below w.heap.size w W0) := by unfold Hid; rw [← hW0]; exact ((((Below.refl _ w).alloc (Nat.le_refl _) _).alloc (by simp) _).alloc (by simp; omega) _).alloc (by simp; omega) _
  have HSZ : Hid (W0.heap.size = w.heap.size + 4) := by unfold Hid; rw [← hW0]; simp
  have H0 : Hid (∀ x ∈ atL w.heap.size (.slice a ws.length cap) at', W0.heap[x.1]? = some x.2) := by
    unfold Hid
    rw [← hW0]
    obtain ⟨h1, h2, h3, h4⟩ := four_new w (.cells #[.slice a ws.length cap] 33) (.cells #[.int .i64 at'] 3) (.cells #[.int .i64 0, .slice none 0 0, .slice none 0 0] 66) (.cells #[.int .i64 0] 24)
    intro x hx
    simp only [atL, List.mem_cons, List.not_mem_nil, or_false] at hx
    rcases hx with rfl | rfl | rfl | rfl
    · exact h1
    · exact h2
    · exact h3
    · exact h4
  have HW0 := hide hW0
  clear hW0
  gi_wp2_with fail
  rw [unhide HW0]
  clear HW0
  refine ⟨trivial, (callsIn_wide.2 (cobjects_any W0 a ws.length cap)).mono ?_⟩
  rintro e w1 ⟨rfl, rfl⟩
  have HB1 := hide ((Below.refl _ W0).alloc (Nat.le_refl _) (.cells #[.slice a ws.length cap] 33))
  gi_wp2_with fail
  have hr0 := (unhide HS).below (unhide HB0)
  refine wpIn_seqR (C0 := fun k => k ∈ (atL w.heap.size (.slice a ws.length cap) at').map Prod.fst) (objects_seq W0.heap.size (.slice a ws.length cap) ws (unhide HU) (by have := unhide HL; omega)) rfl (fun _ _ => by kernel_rfl) (fun _ => rfl)
    (BxI (fun _ => atL w.heap.size (.slice a ws.length cap) at') (lowP at')) (AtX w.heap.size w.heap.size (.slice a ws.length cap) ws at')
    (BxI.ok _ _ _) (fun _ => AtX.ok _ _ _ _ _ _ _) ?start ?data ?apart ?round ?done ?stop
  case start =>
    have hB := unhide HB1
    refine ⟨(fun y hy => by cases hy), fun x hx => ?_, fun k => Iff.rfl⟩
    have h1 := unhide H0 x hx
    exact (hB.block _ (Array.getElem?_eq_some_iff.1 h1).1).trans h1
  case data =>
    intro W hb
    refine ⟨(hb.cell (p := ⟨W0.heap.size, 0, none⟩) (by simp)).trans (by simp), (hr0.below (unhide HB1)).below hb⟩
  case apart =>
    intro k hk
    have hsz := unhide HSZ
    rw [atL_mem, World.size_alloc]
    rcases hk with rfl | ⟨hne, hk⟩
    · exact ⟨by omega, by omega⟩
    · have hk2 := hs_block (unhide HS) (fun h => hne (List.map_eq_nil_iff.1 h)) k hk
      exact ⟨by omega, by omega⟩
  case round =>
    rintro l pre ⟨p, h⟩ rest C W hZ hi hm
    dsimp only [encO]
    have HZ := hide hZ
    have HI := hide hi
    clear hZ hi hm hr0
    gi_wp2
    refine ⟨_, C, (BxI.ok _ _ _).at pre, unhide HI, Moves.refl _ _, fun W2 hi2 hm2 => ?_⟩
    clear HI
    obtain ⟨hlow, hblk, hC⟩ := hi2
    obtain ⟨b1, b2, b3, b4⟩ := atL_all hblk
    have c1 : W2.cell? ⟨w.heap.size, 0, none⟩ = some (.slice a ws.length cap) := by rw [cell_of_row W2 _ _ _ _ (0, 0) b1]; rfl
    have c2 : W2.cell? ⟨w.heap.size + 1, 0, none⟩ = some (.int .i64 at') := by rw [cell_of_row W2 _ _ _ _ (0, 0) b2]; rfl
    have HLOW := hide hlow
    have HBLK := hide hblk
    have HC := hide hC
    have HM2 := hide hm2
    by_cases heq : (p : Int) = at'
    · subst heq
      clear hlow hblk hC hm2
      obtain ⟨n1, n2, n3, n4⟩ := obs_next (unhide HZ)
      obtain ⟨u0, u1⟩ := (unhide HU).wd p
      dsimp only at n2
      rw [← n2] at u0 u1
      obtain ⟨o1, o2, o3⟩ := n3
      dsimp only at o1 o2 o3
      rw [← n2] at o2 o3
      have hR2 : VRow W2 (.slice a ws.length cap) (Uw ws) := ((unhide HS).below ((unhide HB0).trans ((unhide HB1).mono (unhide HB0).size))).keep (unhide HM2).keep (fun b off c e hne hk => by
        have := hs_block (unhide HS) hne b (by rw [e]; rfl)
        rw [atL_mem] at hk
        omega)
      obtain ⟨q, c', hcut, hrow, _⟩ := hR2.cut_lh Tryz.underlying33 Tryz.sizeU32 (p + 1) (szN h - 1) (by rw [List.length_map]; omega)
      have hs1 := szN_int u0
      obtain ⟨m, hm⟩ : ∃ m, m = szN h - 1 := ⟨_, rfl⟩
      rw [← hm] at hcut hrow
      have hcu : ((p + 1 : Nat) : Int) + (m : Int) = (p : Int) + h / 4096 := by omega
      rw [hcu, show ((p + 1 : Nat) : Int) = (p : Int) + 1 by omega] at hcut
      have hw1 : IntKind.i64.wrap ((p : Int) + 1) = (p : Int) + 1 := by have := unhide HL; rw [IntKind.wrap_i64]; omega
      have hw2 : IntKind.i64.wrap ((p : Int) + h / 4096) = (p : Int) + h / 4096 := by have := unhide HL; rw [IntKind.wrap_i64]; omega
      obtain ⟨xs, hxs⟩ : ∃ xs, xs = (ws.drop (p + 1)).take m := ⟨_, rfl⟩
      have hxl : xs.length = m := by rw [hxs, List.length_take, List.length_drop]; omega
      have hrow2 : VRow W2.drew (.slice q m c') (Uw xs) := by
        rw [hxs, Uw, List.map_take, List.map_drop]
        exact hrow.below ((Below.refl _ W2).drew)
      have HOB := hide (cobject_any h (.slice q m c') xs W2.drew u0 u1 hrow2 (by rw [hxl, hm]; have := szN_lt u1; omega) (by rw [hxl, hm]; omega) (fun x hx => by rw [hxs] at hx; exact unhide HU x (List.mem_of_mem_drop (List.mem_of_mem_take hx))))
      have HPD := hide (show xs.take (ptN h) = ptrsO ws (p, h) ∧ xs.drop (ptN h) = dataO ws (p, h) ∧ xs.length - ptN h = (dataO ws (p, h)).length ∧ ptN h = (ptrsO ws (p, h)).length by
        have e1 : xs.take (ptN h) = ptrsO ws (p, h) := by
          rw [hxs, List.take_take, ptrsO, Nat.min_eq_left (by omega)]
        have e2 : xs.drop (ptN h) = dataO ws (p, h) := by
          rw [hxs, List.drop_take, List.drop_drop, dataO, hm]
        refine ⟨e1, e2, ?_, ?_⟩
        · rw [← e2, List.length_drop]
        · rw [← e1, List.length_take, hxl]; omega)
      have HCS := hide (fun w => csize_t h w u0 u1)
      have hmx : Tryz.prog.follows .mixedOrders = true := by kernel_rfl
      have c1d : ({ W2 with drawn := W2.drawn + 1 } : World).cell? ⟨w.heap.size, 0, none⟩ = some (.slice a ws.length cap) := c1
      have c2d : ({ W2 with drawn := W2.drawn + 1 } : World).cell? ⟨w.heap.size + 1, 0, none⟩ = some (.int .i64 (p : Int)) := c2
      have HB34 := hide (And.intro b3 b4)
      clear n1 n2 n4 o1 o2 o3 hR2 hrow hrow2 hs1 hm hcu hxs hxl b1 b2 b3 b4
      gi_wp2_with fail
      refine region_tailW 9 hmx (by kernel_rfl) (by simp) ?hlo ?_
      case hlo => rintro ⟨a5, w5, h5⟩; exact h5
      simp only [List.take_succ_cons, List.take_zero, List.drop_succ_cons, List.drop_zero]
      repeat (first | still_step | still_call (unhide HCS _))
      refine wpStill_nil ?_
      go_wp2_with fail
      refine Calls.mono (unhide HOB) ?_
      rintro e w6 ⟨vp, vd, rfl, op, od, b6⟩
      obtain ⟨pp, pc, rfl⟩ := ownsV_shape op
      obtain ⟨dp, dc, rfl⟩ := ownsV_shape od
      obtain ⟨b3, b4⟩ := unhide HB34
      have hd1 : Below W2.heap.size W2 W2.drew := (Below.refl _ W2).drew
      have b6' : Below W2.heap.size W2 w6 := hd1.trans (b6.mono (Nat.le_refl _))
      have l3 := (Array.getElem?_eq_some_iff.1 b3).1
      have l4 := (Array.getElem?_eq_some_iff.1 b4).1
      have b3' := (b6'.block _ l3).trans b3
      have b4' := (b6'.block _ l4).trans b4
      obtain ⟨x0, x1, x2, xf⟩ := three_cells b3'
      have xf0 := xf 0
      have xf1 := xf 1
      have xf2 := xf 2
      have y0 : w6.cell? ⟨w.heap.size + 1 + 1 + 1, 0, none⟩ = some (.int .i64 0) := by rw [cell_of_row w6 _ _ _ _ (0, 0) b4']; rfl
      have yf : w6.frozen? ⟨w.heap.size + 1 + 1 + 1, 0, none⟩ = false := frozen_of_block b4'
      have HJ := hide (And.intro b3' (And.intro b4' (And.intro op (And.intro od b6'))))
      have HLL := hide (And.intro l3 l4)
      clear b3 b4 hd1 b6 b6' l3 l4 b3' b4' op od xf c1d c2d c1 c2
      go_wp2_with fail
      gi_wp2_with fail
      obtain ⟨b3, b4, op, od, b6⟩ := unhide HJ
      obtain ⟨l3, l4⟩ := unhide HLL
      obtain ⟨e1, e2, e3, e4⟩ := unhide HPD
      have hs6 := b6.size
      obtain ⟨s3, K3⟩ := set_three (x := .int .i64 (h % 16)) (y := .slice pp (ptN h) pc) (z := .slice dp (xs.length - ptN h) dc) b3
      have b4' := (K3.block _ (by omega) (by omega)).trans b4
      have K4 := keep_set (((w6.setCell ⟨w.heap.size + 1 + 1, 0, none⟩ (.int .i64 (h % 16))).setCell ⟨w.heap.size + 1 + 1, 1, none⟩ (.slice pp (ptN h) pc)).setCell ⟨w.heap.size + 1 + 1, 2, none⟩ (.slice dp (xs.length - ptN h) dc)) (w.heap.size + 1 + 1 + 1) 0 (.int .i64 0)
      have s4 := heap_setCell_same _ (w.heap.size + 1 + 1 + 1) 0 _ _ (.int .i64 0) b4'
      have hs3 := K3.size
      have hs4 := K4.size
      have KK : Keep (fun k => k = w.heap.size + 1 + 1 ∨ k = w.heap.size + 1 + 1 + 1) w6 _ := (K3.weak (fun k hk => Or.inl hk)).trans K4 (fun k hk => Or.inl (Or.inr hk))
      have hpb : ∀ k, (Value.slice pp (ptN h) pc).ownBlock = some k → W2.heap.size ≤ k := fun k e => (op.lt k e).1
      have hdb : ∀ k, (Value.slice dp (xs.length - ptN h) dc).ownBlock = some k → W2.heap.size ≤ k := fun k e => (od.lt k e).1
      have hC := unhide HC
      have hWs : w.heap.size ≤ W2.heap.size := by omega
      refine ⟨fun k => k = w.heap.size + 1 + 1 ∨ k = w.heap.size + 1 + 1 + 1 ∨ k = w.heap.size ∨ k = w.heap.size + 1 ∨ (Value.slice pp (ptN h) pc).ownBlock = some k ∨ (Value.slice dp (xs.length - ptN h) dc).ownBlock = some k, Or.inr ⟨rfl, (p, h), _, _, by simp, rfl, (K4.block _ (by omega) (by omega)).trans s3, s4, ?_, ?_, fun _ => Iff.rfl, by omega⟩, (Keep.of_below b6).trans KK (fun k hk => Or.inl ((hC k).2 (atL_mem.2 (by omega)))), fun k hk => ?_⟩
      · rw [← e4, ← e1]
        exact ownsV_base (ownsV_keep op KK (fun k hk e => by have := hpb k hk; omega)) hWs
      · rw [← e3, ← e2]
        exact ownsV_base (ownsV_keep od KK (fun k hk e => by have := hdb k hk; omega)) hWs
      · rcases hk with hk | hk | hk | hk | hk | hk
        · exact Or.inl ((hC k).2 (atL_mem.2 (by omega)))
        · exact Or.inl ((hC k).2 (atL_mem.2 (by omega)))
        · exact Or.inl ((hC k).2 (atL_mem.2 (by omega)))
        · exact Or.inl ((hC k).2 (atL_mem.2 (by omega)))
        · exact Or.inr (hpb k hk)
        · exact Or.inr (hdb k hk)
    · have hne : ((p : Int) == at') = false := by simpa using heq
      by_cases hgt : at' < (p : Int)
      · have HGT := hide hgt
        clear hlow hblk hC hm2
        gi_wp2_with fail
        refine ⟨C, Or.inl ⟨rfl, by rw [List.dropLast_concat]; exact unhide HLOW, fun y hy => ?_, trivial, unhide HBLK, unhide HC⟩, Moves.refl _ _⟩
        rw [List.getLast?_concat] at hy
        cases hy
        exact unhide HGT
      · have hle : (p : Int) ≤ at' := by omega
        have HLT := hide (show (p : Int) < at' by omega)
        clear hlow hblk hC hm2
        gi_wp2_with fail
        refine ⟨C, ⟨fun y hy => ?_, unhide HBLK, unhide HC⟩, Moves.refl _ _⟩
        rcases List.mem_append.1 hy with hy | hy
        · exact unhide HLOW y hy
        · simp only [List.mem_cons, List.not_mem_nil, or_false] at hy
          rw [hy]
          exact unhide HLT
  case done =>
    rintro dd C W hdd ⟨hlow, hblk, hC⟩ hm hnc hK
    have HNO := hide (atR_none (a := at') (fun x hx => by have := hlow x hx; omega))
    clear hlow
    obtain ⟨b1, b2, b3, b4⟩ := atL_all hblk
    obtain ⟨x0, x1, x2, xf⟩ := three_cells b3
    have xf0 := xf 0
    have xf1 := xf 1
    have xf2 := xf 2
    have y0 : W.cell? ⟨w.heap.size + 1 + 1 + 1, 0, none⟩ = some (.int .i64 0) := by rw [cell_of_row W _ _ _ _ (0, 0) b4]; rfl
    have yf : W.frozen? ⟨w.heap.size + 1 + 1 + 1, 0, none⟩ = false := frozen_of_block b4
    have HJ := hide (And.intro b3 b4)
    have HC := hide hC
    have HM := hide hm
    have HK := hide hK
    have HNC := hide hnc
    clear b1 b2 b3 b4 hm hK hnc hC hblk hr0 xf
    gi_wp2_with fail
    obtain ⟨b3, b4⟩ := unhide HJ
    have hC := unhide HC
    obtain ⟨s3, K3⟩ := set_three (x := .int .i64 0) (y := .slice none 0 0) (z := .slice none 0 0) b3
    have l4 := (Array.getElem?_eq_some_iff.1 b4).1
    have b4' := (K3.block _ l4 (by omega)).trans b4
    have K4 := keep_set (((W.setCell ⟨w.heap.size + 1 + 1, 0, none⟩ (.int .i64 0)).setCell ⟨w.heap.size + 1 + 1, 1, none⟩ (.slice none 0 0)).setCell ⟨w.heap.size + 1 + 1, 2, none⟩ (.slice none 0 0)) (w.heap.size + 1 + 1 + 1) 0 (.int .i64 6)
    have s4 := heap_setCell_same _ (w.heap.size + 1 + 1 + 1) 0 _ _ (.int .i64 6) b4'
    have KK : Keep (fun k => k = w.heap.size + 1 + 1 ∨ k = w.heap.size + 1 + 1 + 1) W _ := (K3.weak (fun k hk => Or.inl hk)).trans K4 (fun k hk => Or.inl (Or.inr hk))
    have n2 : dd ≠ w.heap.size + 1 + 1 := fun e => unhide HNC ((hC dd).2 (atL_mem.2 (by omega)))
    have n3 : dd ≠ w.heap.size + 1 + 1 + 1 := fun e => unhide HNC ((hC dd).2 (atL_mem.2 (by omega)))
    have hdk := (Array.getElem?_eq_some_iff.1 (unhide HK)).1
    have hK2 := (KK.block dd hdk (by omega)).trans (unhide HK)
    refine ⟨by simp, .inl ⟨_, _, rfl, run_takeDeferred hK2, ?_⟩⟩
    have hp := keep_put (((((W.setCell ⟨w.heap.size + 1 + 1, 0, none⟩ (.int .i64 0)).setCell ⟨w.heap.size + 1 + 1, 1, none⟩ (.slice none 0 0)).setCell ⟨w.heap.size + 1 + 1, 2, none⟩ (.slice none 0 0)).setCell ⟨w.heap.size + 1 + 1 + 1, 0, none⟩ (.int .i64 6))) dd (.deferred none)
    have hs4 := KK.size
    have s3' := (hp.block _ (by omega) (fun e => n2 e.symm)).trans ((K4.block _ (by have := K3.size; omega) (by omega)).trans s3)
    have s4' := (hp.block _ (by omega) (fun e => n3 e.symm)).trans s4
    obtain ⟨t0, t1, t2, _⟩ := three_cells s3'
    have t4 := cell_of_row _ _ 0 _ _ (0, 0) s4'
    refine ⟨.tuple #[.agg #[.int .i64 0, .slice none 0 0, .slice none 0 0], .int .i64 6], by simp [results, Tryz.results84, go_sem, t0, t1, t2, t4], _, _, _, _, rfl, _, _, unhide HNO, World.ownsRow_nil _ _ _ _, World.ownsRow_nil _ _ _ _, ?_⟩
    have h1 := (unhide HB0).trans ((unhide HB1).mono (unhide HB0).size)
    have hm := unhide HM
    refine below_put (C := C) h1 ⟨hm.keep.trans KK (fun k e => Or.inl (atL_mem.2 (by omega))), hm.sub⟩ (fun k hk => ?_) hdd _
    rw [atL_mem] at hk
    omega
  case stop =>
    rintro dd c pre x rest C W hdd hZ hx hm hnc hK
    rcases hx with ⟨rfl, hlow, hgt, _, hblk, hC⟩ | ⟨rfl, x', vp, vd, hx1, hx2, s3, s4, op, od, hC, _⟩
    · rw [List.dropLast_concat] at hlow
      have hgt' := hgt x (by rw [List.getLast?_concat])
      have HNO := hide (atR_none (a := at') (obs_behind hZ hlow hgt'))
      clear hlow hgt hgt' hZ
      obtain ⟨b1, b2, b3, b4⟩ := atL_all hblk
      obtain ⟨x0, x1, x2, xf⟩ := three_cells b3
      have xf0 := xf 0
      have xf1 := xf 1
      have xf2 := xf 2
      have y0 : W.cell? ⟨w.heap.size + 1 + 1 + 1, 0, none⟩ = some (.int .i64 0) := by rw [cell_of_row W _ _ _ _ (0, 0) b4]; rfl
      have yf : W.frozen? ⟨w.heap.size + 1 + 1 + 1, 0, none⟩ = false := frozen_of_block b4
      have HJ := hide (And.intro b3 b4)
      have HC := hide hC
      have HM := hide hm
      have HK := hide hK
      have HNC := hide hnc
      clear b1 b2 b3 b4 hm hK hnc hC hblk hr0 xf
      gi_wp2_with fail
      obtain ⟨b3, b4⟩ := unhide HJ
      have hC := unhide HC
      obtain ⟨s3, K3⟩ := set_three (x := .int .i64 0) (y := .slice none 0 0) (z := .slice none 0 0) b3
      have l4 := (Array.getElem?_eq_some_iff.1 b4).1
      have b4' := (K3.block _ l4 (by omega)).trans b4
      have K4 := keep_set (((W.setCell ⟨w.heap.size + 1 + 1, 0, none⟩ (.int .i64 0)).setCell ⟨w.heap.size + 1 + 1, 1, none⟩ (.slice none 0 0)).setCell ⟨w.heap.size + 1 + 1, 2, none⟩ (.slice none 0 0)) (w.heap.size + 1 + 1 + 1) 0 (.int .i64 6)
      have s4 := heap_setCell_same _ (w.heap.size + 1 + 1 + 1) 0 _ _ (.int .i64 6) b4'
      have KK : Keep (fun k => k = w.heap.size + 1 + 1 ∨ k = w.heap.size + 1 + 1 + 1) W _ := (K3.weak (fun k hk => Or.inl hk)).trans K4 (fun k hk => Or.inl (Or.inr hk))
      have n2 : dd ≠ w.heap.size + 1 + 1 := fun e => unhide HNC ((hC dd).2 (atL_mem.2 (by omega)))
      have n3 : dd ≠ w.heap.size + 1 + 1 + 1 := fun e => unhide HNC ((hC dd).2 (atL_mem.2 (by omega)))
      have hdk := (Array.getElem?_eq_some_iff.1 (unhide HK)).1
      have hK2 := (KK.block dd hdk (by omega)).trans (unhide HK)
      refine ⟨by simp, .inl ⟨_, _, rfl, run_takeDeferred hK2, ?_⟩⟩
      have hp := keep_put (((((W.setCell ⟨w.heap.size + 1 + 1, 0, none⟩ (.int .i64 0)).setCell ⟨w.heap.size + 1 + 1, 1, none⟩ (.slice none 0 0)).setCell ⟨w.heap.size + 1 + 1, 2, none⟩ (.slice none 0 0)).setCell ⟨w.heap.size + 1 + 1 + 1, 0, none⟩ (.int .i64 6))) dd (.deferred none)
      have hs4 := KK.size
      have s3' := (hp.block _ (by omega) (fun e => n2 e.symm)).trans ((K4.block _ (by have := K3.size; omega) (by omega)).trans s3)
      have s4' := (hp.block _ (by omega) (fun e => n3 e.symm)).trans s4
      obtain ⟨t0, t1, t2, _⟩ := three_cells s3'
      have t4 := cell_of_row _ _ 0 _ _ (0, 0) s4'
      refine ⟨.tuple #[.agg #[.int .i64 0, .slice none 0 0, .slice none 0 0], .int .i64 6], by simp [results, Tryz.results84, go_sem, t0, t1, t2, t4], _, _, _, _, rfl, _, _, unhide HNO, World.ownsRow_nil _ _ _ _, World.ownsRow_nil _ _ _ _, ?_⟩
      have h1 := (unhide HB0).trans ((unhide HB1).mono (unhide HB0).size)
      have hm := unhide HM
      refine below_put (C := C) h1 ⟨hm.keep.trans KK (fun k e => Or.inl (atL_mem.2 (by omega))), hm.sub⟩ (fun k hk => ?_) hdd _
      rw [atL_mem] at hk
      omega
    · rw [List.getLast?_concat] at hx1
      cases hx1
      have HAR := hide (atR_some hZ)
      rw [hx2] at HAR
      obtain ⟨t0, t1, t2, _⟩ := three_cells s3
      have HJ := hide (And.intro s3 (And.intro s4 (And.intro op od)))
      have HC := hide hC
      have HM := hide hm
      have HK := hide hK
      have HNC := hide hnc
      clear s3 s4 op od hC hm hK hnc hx2 hZ hr0 t0 t1 t2
      gi_wp2_with fail
      obtain ⟨s3, s4, op, od⟩ := unhide HJ
      have hC := unhide HC
      have n2 : dd ≠ w.heap.size + 1 + 1 := fun e => unhide HNC ((hC dd).2 (by omega))
      have n3 : dd ≠ w.heap.size + 1 + 1 + 1 := fun e => unhide HNC ((hC dd).2 (by omega))
      refine ⟨by simp, .inl ⟨_, _, rfl, run_takeDeferred (unhide HK), ?_⟩⟩
      have hp := keep_put W dd (.deferred none)
      have s3' := (hp.block _ (Array.getElem?_eq_some_iff.1 s3).1 (fun e => n2 e.symm)).trans s3
      have s4' := (hp.block _ (Array.getElem?_eq_some_iff.1 s4).1 (fun e => n3 e.symm)).trans s4
      obtain ⟨t0, t1, t2, _⟩ := three_cells s3'
      have t4 := cell_of_row _ _ 0 _ _ (0, 0) s4'
      refine ⟨.tuple #[.agg #[.int .i64 (x.2 % 16), vp, vd], .int .i64 0], by simp [results, Tryz.results84, go_sem, t0, t1, t2, t4], _, _, _, _, _, _, rfl, unhide HAR, ownsV_keep op hp (fun k hk e => unhide HNC ((hC dd).2 (by rw [← e]; simp [hk]))), ownsV_keep od hp (fun k hk e => unhide HNC ((hC dd).2 (by rw [← e]; simp [hk]))), ?_⟩
      have h1 := (unhide HB0).trans ((unhide HB1).mono (unhide HB0).size)
      refine below_put h1 (unhide HM) (fun k hk => ?_) hdd _
      rw [atL_mem] at hk
      omega
end Go.Proofs.YtlbhhdldeaehkaaGreat
