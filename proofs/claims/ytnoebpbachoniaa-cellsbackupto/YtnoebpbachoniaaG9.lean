/- Texts of ours, one behind the other: CelPtrs, CelCheck. -/
import Derived.Test.YtnoebpbachoniaaG2
import Derived.Test.YtnoebpbachoniaaG7
import Derived.Test.YtnoebpbachoniaaG8
import Derived.BigQuiet
import Derived.WalkSmall
/- The landed package cells: has, hasAll, hasPointers. -/
namespace Go.Proofs.Ytnoebpbachoniaa
open Go.RowKit Go.Shelf
attribute [local go_sem] Oper.semAt_some

theorem Try.sizeU32 : (Try.prog.info? 22).map (·.size) = some 1 := by kernel_rfl
/-- The marks of all objects, in block g. -/
def MkAt (w : World) (g : Nat) (n : Nat) (Z : List (Nat × Int)) : Prop := w.heap[g]? = some (.cells ((marks n Z).map Value.bool).toArray 4 (0, 0))
theorem MkAt.lt {w : World} {g n : Nat} {Z : List (Nat × Int)} (h : MkAt w g n Z) : g < w.heap.size := (Array.getElem?_eq_some_iff.1 h).1
theorem MkAt.below {w w' : World} {g n : Nat} {Z : List (Nat × Int)} (h : MkAt w g n Z) (hb : Below w.heap.size w w') : MkAt w' g n Z := (hb.block g h.lt).trans h
theorem MkAt.cell {w : World} {g n : Nat} {Z : List (Nat × Int)} (h : MkAt w g n Z) {k : Nat} (hk : k < n) : w.cell? ⟨g, k, none⟩ = some (.bool (decide (k ∈ Z.map Prod.fst))) := by
  rw [cell_of_row w _ _ _ _ (0, 0) h, List.getElem?_toArray, List.getElem?_map, marks_get _ hk]; rfl

theorem chas_any (g n : Nat) (Z : List (Nat × Int)) (a : Int) (w : World) (h : MkAt w g n Z) :
    Calls Try.prog 45 #[.slice (some ⟨g, 0, none⟩) n n, .int .i64 a] w fun e w' => e = .returned (.bool (isPl n Z a)) ∧ w' = w := by
  by_cases h0 : a = 0
  · subst h0
    rw [show isPl n Z 0 = true by simp [isPl]]
    clear h
    go_enter Try.func45, Try.ntmps45
    go_wp2
    go_ret
    exact ⟨rfl, rfl⟩
  · have hb : (a == 0) = false := by simp [h0]
    by_cases h1 : 0 < a
    · by_cases h2 : a < n
      · obtain ⟨k, rfl⟩ := Int.eq_ofNat_of_zero_le (show 0 ≤ a by omega)
        have hk : k < n := by omega
        have hc := h.cell hk
        have e1 : isPl n Z (k : Int) = decide (k ∈ Z.map Prod.fst) := by
          have q0 : ¬ (k : Int) = 0 := by omega
          have q1 : (0 : Int) < (k : Int) := by omega
          have q2 : (k : Int) < (n : Int) := by omega
          simp only [isPl, q0, q1, q2, decide_true, decide_false, Bool.false_or, Bool.true_and, Int.toNat_natCast]
        rw [e1]
        generalize decide (k ∈ Z.map Prod.fst) = r at *
        clear h e1 hk h0
        go_enter Try.func45, Try.ntmps45
        go_wp2
        go_ret
        exact ⟨rfl, rfl⟩
      · rw [show isPl n Z a = false by simp [isPl, h0, h2]]
        have h2' : (n : Int) ≤ a := by omega
        clear h h0 h2
        go_enter Try.func45, Try.ntmps45
        go_wp2
        go_ret
        exact ⟨rfl, rfl⟩
    · rw [show isPl n Z a = false by simp [isPl, h0, h1]]
      have h1' : a ≤ 0 := by omega
      clear h h0 h1
      go_enter Try.func45, Try.ntmps45
      go_wp2
      go_ret
      exact ⟨rfl, rfl⟩

abbrev Iw (rs : List Int) : List Value := rs.map (Value.int .i64)
set_option maxHeartbeats 1000000 in
theorem chasall_any (g n : Nat) (Z : List (Nat × Int)) (s : Value) (rs : List Int) (w : World) (h : MkAt w g n Z) (hs : VRow w s (Iw rs)) (hl : rs.length < 35184372088832) :
    Calls Try.prog 39 #[.slice (some ⟨g, 0, none⟩) n n, s] w fun e w' => e = .returned (.bool (rs.all (isPl n Z))) ∧ w' = w := by
  obtain ⟨a, cap, rfl, hc1, hc2, hc3⟩ := hs.shape
  rw [List.length_map] at *
  have HS := hide hs
  have HL := hide hl
  have HM := hide h
  clear hs hl hc1 hc2 hc3 h
  go_enter Try.func39, Try.ntmps39
  go_wp2_with fail
  go_loop [9] (fun i => ∃ k : Nat, k ≤ rs.length ∧ i = .int .i64 (k : Int) ∧ Hid ((rs.take k).all (isPl n Z) = true)) (fun i => rs.length - (intOf i).toNat)
  case atStart => exact ⟨0, Nat.zero_le _, rfl, by simp [Hid]⟩
  case round =>
    obtain ⟨k, hk, rfl, hall⟩ := hrel
    by_cases hlt : k < rs.length
    · have hkI : (k : Int) < (rs.length : Int) := by omega
      obtain ⟨b, off, cap', e0, g1, g2, hcl⟩ := (unhide HS).open (by intro e; have := congrArg List.length e; simp at this; rw [this] at hlt; simp at hlt)
      simp only [Value.slice.injEq] at e0
      obtain ⟨rfl, g3, rfl⟩ := e0
      have hc := hcl k _ (by rw [List.getElem?_map, List.getElem?_eq_getElem hlt]; rfl)
      have HT := hide (show (rs.take (k + 1)).all (isPl n Z) = isPl n Z rs[k] by rw [List.take_succ_eq_append_getElem hlt, List.all_append, hall.out]; simp)
      have HA := hide (show isPl n Z rs[k] = false → rs.all (isPl n Z) = false by
        intro h
        rw [List.all_eq_false]
        exact ⟨rs[k], List.getElem_mem hlt, by simp [h]⟩)
      have HLT := hide hlt
      have HCH := hide (fun x => chas_any g n Z x w (unhide HM))
      generalize rs[k] = x at *
      clear g1 g2 g3 hcl hall hk hlt
      have hnw : IntKind.i64.wrap ((k : Int) + 1) = (k : Int) + 1 := by have := unhide HL; have := unhide HLT; rw [IntKind.wrap_i64]; omega
      go_wp2_with fail
      refine Calls.mono (unhide HCH x) ?_
      rintro e w1 ⟨rfl, rfl⟩
      cases hx : isPl n Z x with
      | true =>
        go_wp2_with fail
        go_round
        case rel => exact ⟨k + 1, unhide HLT, by go_num, by rw [Hid, unhide HT, hx]⟩
        case measure => (have := unhide HLT; simp [intOf]; omega)
      | false =>
        have HF := hide (unhide HA hx)
        clear hx
        go_wp2_with fail
        go_ret
        exact ⟨by rw [unhide HF]; rfl, rfl⟩
    · have hke : k = rs.length := by omega
      subst hke
      rw [List.take_length] at hall
      clear hk hlt
      go_wp2_with fail
      go_ret
      exact ⟨by rw [hall.out]; rfl, rfl⟩

/-- Variables of a caller, as blocks that stand, and what is true of what came. -/
def BxI {α : Type} (f : List α → List (Nat × Obj)) (P : List α → Prop) (pre : List α) (C : Nat → Prop) (W : World) : Prop := P pre ∧ (∀ x ∈ f pre, W.heap[x.1]? = some x.2) ∧ ∀ k, C k ↔ k ∈ (f pre).map Prod.fst
theorem BxI.ok {α : Type} (f : List α → List (Nat × Obj)) (P : List α → Prop) (b : Nat) : SOk b (BxI f P) := by
  refine ⟨fun pre C W W' G h hk hn _ => ?_, fun pre C W h k hc => ?_⟩
  · obtain ⟨h1, h2, h3⟩ := h
    refine ⟨h1, fun x hx => ?_, h3⟩
    exact (hk.block _ (Array.getElem?_eq_some_iff.1 (h2 x hx)).1 (hn _ ((h3 _).2 (List.mem_map.2 ⟨x, hx, rfl⟩)))).trans (h2 x hx)
  · obtain ⟨h1, h2, h3⟩ := h
    obtain ⟨x, hx, rfl⟩ := List.mem_map.1 ((h3 k).1 hc)
    exact (Array.getElem?_eq_some_iff.1 (h2 x hx)).1

/-- Are the pointers of these objects ones that may be? -/
def okPs (ws : List Int) (pre : List (Nat × Int)) : Bool := pre.all (fun x => (ptrsO ws x).all (isPl ws.length (obs ws 1)))
theorem okPs_snoc (ws : List Int) (pre : List (Nat × Int)) (x : Nat × Int) : okPs ws (pre ++ [x]) = (okPs ws pre && (ptrsO ws x).all (isPl ws.length (obs ws 1))) := by simp [okPs]
theorem okPs_false {ws : List Int} {pre rest : List (Nat × Int)} (h : okPs ws pre = false) : okPs ws (pre ++ rest) = false := by
  unfold okPs at h ⊢
  rw [List.all_append, h, Bool.false_and]
theorem three_new (w : World) (x y z : Obj) : ((((w.alloc x).alloc y).alloc z).heap[w.heap.size]? = some x) ∧ ((((w.alloc x).alloc y).alloc z).heap[w.heap.size + 1]? = some y) ∧ ((((w.alloc x).alloc y).alloc z).heap[w.heap.size + 1 + 1]? = some z) := by
  refine ⟨(Below.heap_alloc _ _ _ (by simp; omega)).trans ((Below.heap_alloc _ _ _ (by simp)).trans (World.alloc_heap_new w _)), ?_, ?_⟩
  · have := World.alloc_heap_new (w.alloc x) y
    rw [World.size_alloc] at this
    exact (Below.heap_alloc _ _ _ (by simp)).trans this
  · have := World.alloc_heap_new ((w.alloc x).alloc y) z
    rw [World.size_alloc, World.size_alloc] at this
    exact this

set_option maxRecDepth 20000 in
set_option maxHeartbeats 2000000 in
theorem chasptrs_any (g : Nat) (s : Value) (ws : List Int) (w : World) (h : MkAt w g ws.length (obs ws 1)) (hs : VRow w s (Uw ws)) (hU : U32 ws) (hl : ws.length < 70368744177664) :
    Calls Try.prog 38 #[.slice (some ⟨g, 0, none⟩) ws.length ws.length, s] w fun e w' => e = .returned (.bool (okPs ws (obs ws 1))) ∧ Below w.heap.size w w' := by
  refine (callsIn_wide (n := 5)).1 ?_
  refine callsIn_of_wp_marks Try.func38 rfl trivial ?_ rfl
  simp only [Try.ntmps38, List.size_toArray, List.length_cons, List.length_nil, Nat.reduceAdd, Nat.reduceSub, Array.replicate_succ, Array.replicate_zero, List.push_toArray, List.append_toArray, List.nil_append, List.cons_append]
  obtain ⟨a, cap, rfl, hc1, hc2, hc3⟩ := hs.shape
  rw [List.length_map] at *
  have HS := hide hs
  have HU := hide hU
  have HL := hide hl
  have HM := hide h
  clear hs hU hl hc1 hc2 hc3 h
  obtain ⟨W0, hW0⟩ : ∃ W0, (((w.alloc (.cells #[.slice (some ⟨g, 0, none⟩) ws.length ws.length] 62)).alloc (.cells #[.slice a ws.length cap] 29)).alloc (.cells #[.bool false] 4)) = W0 := ⟨_, rfl⟩
  have HB0 : Hid (Below w.heap.size w W0) := by unfold Hid; rw [← hW0]; exact (((Below.refl _ w).alloc (Nat.le_refl _) _).alloc (by simp) _).alloc (by simp; omega) _
  have HSZ : Hid (W0.heap.size = w.heap.size + 3) := by unfold Hid; rw [← hW0]; simp
  have H0 : Hid (W0.heap[w.heap.size]? = some (.cells #[.slice (some ⟨g, 0, none⟩) ws.length ws.length] 62 (0, 0)) ∧ W0.heap[w.heap.size + 1]? = some (.cells #[.slice a ws.length cap] 29 (0, 0)) ∧ W0.heap[w.heap.size + 1 + 1]? = some (.cells #[.bool false] 4 (0, 0))) := by
    unfold Hid
    rw [← hW0]
    exact three_new w _ _ _
  have HW0 := hide hW0
  clear hW0
  gi_wp2_with fail
  rw [unhide HW0]
  clear HW0
  refine ⟨trivial, (callsIn_wide.2 (cobjects_any W0 a ws.length cap)).mono ?_⟩
  rintro e w1 ⟨rfl, rfl⟩
  have HB1 := hide ((Below.refl _ W0).alloc (Nat.le_refl _) (.cells #[.slice a ws.length cap] 29))
  gi_wp2_with fail
  have hr0 := (unhide HS).below (unhide HB0)
  refine wpIn_seqR (C0 := fun k => k ∈ [w.heap.size, w.heap.size + 1, w.heap.size + 1 + 1]) (objects_seq W0.heap.size (.slice a ws.length cap) ws (unhide HU) (unhide HL)) rfl (fun _ _ => by kernel_rfl) (fun _ => rfl)
    (BxI (fun _ => [(w.heap.size, .cells #[.slice (some ⟨g, 0, none⟩) ws.length ws.length] 62 (0, 0)), (w.heap.size + 1, .cells #[.slice a ws.length cap] 29 (0, 0)), (w.heap.size + 1 + 1, .cells #[.bool false] 4 (0, 0))]) (fun pre => okPs ws pre = true))
    (fun c => BxI (fun _ => [(w.heap.size, .cells #[.slice (some ⟨g, 0, none⟩) ws.length ws.length] 62 (0, 0)), (w.heap.size + 1, .cells #[.slice a ws.length cap] 29 (0, 0)), (w.heap.size + 1 + 1, .cells #[.bool false] 4 (0, 0))]) (fun pre => c = .ret ∧ okPs ws pre = false))
    (BxI.ok _ _ _) (fun _ => BxI.ok _ _ _) ?start ?data ?apart ?round ?done ?stop
  case start =>
    obtain ⟨a1, a2, a3⟩ := unhide H0
    have hB := unhide HB1
    refine ⟨rfl, fun x hx => ?_, fun k => Iff.rfl⟩
    simp only [List.mem_cons, List.not_mem_nil, or_false] at hx
    rcases hx with rfl | rfl | rfl
    · exact (hB.block _ (Array.getElem?_eq_some_iff.1 a1).1).trans a1
    · exact (hB.block _ (Array.getElem?_eq_some_iff.1 a2).1).trans a2
    · exact (hB.block _ (Array.getElem?_eq_some_iff.1 a3).1).trans a3
  case data =>
    intro W hb
    refine ⟨(hb.cell (p := ⟨W0.heap.size, 0, none⟩) (by simp)).trans (by simp), (hr0.below (unhide HB1)).below hb⟩
  case apart =>
    intro k hk
    have hsz := unhide HSZ
    simp only [List.mem_cons, List.not_mem_nil, or_false, World.size_alloc]
    rcases hk with rfl | ⟨hne, hk⟩
    · exact ⟨by omega, by omega⟩
    · have hk2 := hs_block (unhide HS) (fun h => hne (List.map_eq_nil_iff.1 h)) k hk
      exact ⟨by omega, by omega⟩
  case round =>
    rintro l pre ⟨p, h⟩ rest C W hZ hi hm
    dsimp only [encO]
    have HZ := hide hZ
    have HI := hide hi
    clear hZ hi hm hr0
    gi_wp2
    refine ⟨_, C, (BxI.ok _ _ _).at pre, unhide HI, Moves.refl _ _, fun W2 hi2 hm2 => ?_⟩
    clear HI
    obtain ⟨n1, n2, n3, n4⟩ := obs_next (unhide HZ)
    obtain ⟨u0, u1⟩ := (unhide HU).wd p
    dsimp only at n2
    rw [← n2] at u0 u1
    obtain ⟨hall, hblk, hC⟩ := hi2
    have b1 := hblk _ (List.mem_cons_self)
    have b2 := hblk _ (List.mem_cons_of_mem _ List.mem_cons_self)
    have b3 := hblk _ (List.mem_cons_of_mem _ (List.mem_cons_of_mem _ List.mem_cons_self))
    have c1 : W2.cell? ⟨w.heap.size, 0, none⟩ = some (.slice (some ⟨g, 0, none⟩) ws.length ws.length) := by rw [cell_of_row W2 _ _ _ _ (0, 0) b1]; rfl
    have c2 : W2.cell? ⟨w.heap.size + 1, 0, none⟩ = some (.slice a ws.length cap) := by rw [cell_of_row W2 _ _ _ _ (0, 0) b2]; rfl
    have c3 : W2.cell? ⟨w.heap.size + 1 + 1, 0, none⟩ = some (.bool false) := by rw [cell_of_row W2 _ _ _ _ (0, 0) b3]; rfl
    have f3 : W2.frozen? ⟨w.heap.size + 1 + 1, 0, none⟩ = false := frozen_of_block b3
    have hR2 : VRow W2 (.slice a ws.length cap) (Uw ws) := ((unhide HS).below ((unhide HB0).trans ((unhide HB1).mono (unhide HB0).size))).keep hm2.keep (fun b off c e hne hk => by
      have := hs_block (unhide HS) hne b (by rw [e]; rfl)
      simp only [List.mem_cons, List.not_mem_nil, or_false] at hk
      omega)
    have hM2 : MkAt W2 g ws.length (obs ws 1) := by
      have h1 := (unhide HM).below ((unhide HB0).trans ((unhide HB1).mono (unhide HB0).size))
      refine (hm2.keep.block g h1.lt (fun hk => ?_)).trans h1
      have := (unhide HM).lt
      simp only [List.mem_cons, List.not_mem_nil, or_false] at hk
      omega
    obtain ⟨o1, o2, o3⟩ := n3
    dsimp only at o1 o2 o3
    rw [← n2] at o2 o3
    obtain ⟨q, c', hcut, hrow, _⟩ := hR2.cut_lh Try.underlying29 Try.sizeU32 (p + 1) (ptN h) (by rw [List.length_map]; omega)
    have hpt := ptN_int h
    rw [hpt, show (((p + 1 : Nat)) : Int) = (p : Int) + 1 by omega] at hcut
    have hw1 : IntKind.i64.wrap ((p : Int) + 1) = (p : Int) + 1 := by have := unhide HL; rw [IntKind.wrap_i64]; omega
    have hw2 : IntKind.i64.wrap ((p : Int) + 1 + h / 16 % 256) = (p : Int) + 1 + h / 16 % 256 := by have := unhide HL; rw [IntKind.wrap_i64]; omega
    have hmx : Try.prog.follows .mixedOrders = true := by kernel_rfl
    have HBL := hide (And.intro b1 (And.intro b2 b3))
    have HALL := hide hall
    have HC := hide hC
    have HROW := hide hrow
    have HM2 := hide hM2
    have HMV := hide hm2
    have HPT := hide hpt
    clear hpt hM2 hm2 hrow hR2 n1 n2 n4 o1 o2 o3 hall hC hblk b1 b2 b3
    obtain ⟨CC, hCC⟩ : ∃ CC : World → Prop, CC = fun w' => Below W2.heap.size W2 w' := ⟨_, rfl⟩
    have HCC : Hid (∀ w', CC w' → w'.cell? ⟨w.heap.size + 1, 0, none⟩ = some (.slice a ws.length cap)) := by
      unfold Hid; rw [hCC]; exact fun w' hw => (hw.cell (p := ⟨w.heap.size + 1, 0, none⟩) (World.block_lt_of_cell? W2 _ c2)).trans c2
    have HC0 : Hid (CC { W2 with drawn := W2.drawn + 1 }) := by unfold Hid; rw [hCC]; exact (Below.refl _ W2).drew
    have HCW : Hid (∀ w', CC w' → Below W2.heap.size W2 w') := by unfold Hid; rw [hCC]; exact fun w' hw => hw
    clear hCC
    gi_wp2_with fail
    refine region_calmW CC (by kernel_rfl) (by kernel_rfl) (by simp) (unhide HC0) ?_
    repeat (first
      | go_big_quiet_skip
      | (go_big_quiet_want
         apply Exists.intro
         refine ⟨fun w' hw' => ?_, ?_⟩
         · have d0 := unhide HCC w' hw'
           go_simp
           first | done | rfl | exact Calls.mono (cptrs_t h w' u0 u1) (fun e w'' hx => ⟨hx.1, hx.2 ▸ hw'⟩)
         simp only [Act.put, List.setIfInBounds_toArray, List.set_cons_zero, List.set_cons_succ]
         go_big_quiet_on))
    refine wpQuiet_nil ?_
    intro W3 hw'
    have hBW := unhide HCW W3 hw'
    obtain ⟨b1, b2, b3⟩ := unhide HBL
    have c1' := (hBW.cell (p := ⟨w.heap.size, 0, none⟩) (World.block_lt_of_cell? W2 _ c1)).trans c1
    have b3' := (hBW.block _ (Array.getElem?_eq_some_iff.1 b3).1).trans b3
    have c3' := (hBW.cell (p := ⟨w.heap.size + 1 + 1, 0, none⟩) (World.block_lt_of_cell? W2 _ c3)).trans c3
    have f3' : W3.frozen? ⟨w.heap.size + 1 + 1, 0, none⟩ = false := frozen_of_block b3'
    have HROW3 := hide ((unhide HROW).below hBW)
    have HCH := hide (fun x => chas_any g ws.length (obs ws 1) x W3 ((unhide HM2).below hBW))
    have HBW := hide hBW
    have HB3' := hide b3'
    have hlp : (((Uw ws).drop (p + 1)).take (ptN h)) = (ptrsO ws (p, h)).map (Value.int .u32) := by
      unfold ptrsO Uw
      rw [List.map_take, List.map_drop]
    rw [hlp] at HROW3
    obtain ⟨ps, hps⟩ : ∃ ps, ps = ptrsO ws (p, h) := ⟨_, rfl⟩
    rw [← hps] at HROW3
    have hlen : ps.length = ptN h := by
      obtain ⟨_, _, e, _⟩ := unhide HROW3
      simp only [Value.slice.injEq, List.length_map] at e
      exact e.2.1.symm
    have HU2 := hide (show ∀ x ∈ ps, 0 ≤ x ∧ x < 4294967296 by
      intro x hx
      rw [hps] at hx
      exact unhide HU x (List.mem_of_mem_drop (List.mem_of_mem_take hx)))
    have HPS := hide hps
    clear hps hlp HROW HM2
    rw [← hlen] at HROW3 ⊢
    have HPL := hide (show ps.length < 256 by rw [hlen]; exact ptN_lt h)
    clear hBW b1 b2 b3 b3' c1 c2 c3 f3 hw' HCC HC0 HCW hcut hlen HPT
    gi_wp2_with fail
    gi_loop [23] (fun i => ∃ k : Nat, k ≤ ps.length ∧ i = .int .i64 (k : Int) ∧ Hid ((ps.take k).all (isPl ws.length (obs ws 1)) = true)) (fun i => ps.length - (intOf i).toNat)
    case atStart => exact ⟨0, Nat.zero_le _, rfl, by simp [Hid]⟩
    case round =>
      obtain ⟨k, hk, rfl, hall⟩ := hrel
      by_cases hlt : k < ps.length
      · have hkI : (k : Int) < (ps.length : Int) := by omega
        obtain ⟨b, off, cap', e0, g1, g2, hcl⟩ := (unhide HROW3).open (by intro e; have := congrArg List.length e; simp at this; rw [this] at hlt; simp at hlt)
        simp only [Value.slice.injEq] at e0
        obtain ⟨rfl, g3, rfl⟩ := e0
        have hc := hcl k _ (by rw [List.getElem?_map, List.getElem?_eq_getElem hlt]; rfl)
        obtain ⟨v0, v1⟩ := unhide HU2 ps[k] (List.getElem_mem hlt)
        have HT := hide (show (ps.take (k + 1)).all (isPl ws.length (obs ws 1)) = isPl ws.length (obs ws 1) ps[k] by rw [List.take_succ_eq_append_getElem hlt, List.all_append, hall.out]; simp)
        have HA := hide (show isPl ws.length (obs ws 1) ps[k] = false → ps.all (isPl ws.length (obs ws 1)) = false by
          intro h
          rw [List.all_eq_false]
          exact ⟨ps[k], List.getElem_mem hlt, by simp [h]⟩)
        have HLT := hide hlt
        generalize ps[k] = x at *
        clear g1 g2 g3 hcl hall hk hlt
        have hnw : IntKind.i64.wrap ((k : Int) + 1) = (k : Int) + 1 := by have := unhide HPL; have := unhide HLT; rw [IntKind.wrap_i64]; omega
        have hxw : IntKind.i64.wrap x = x := by rw [IntKind.wrap_i64]; omega
        gi_wp2_with fail
        refine ⟨trivial, (CallsIn.inRound l (callsIn_wide.2 (unhide HCH x))).mono ?_⟩
        rintro e w1 ⟨rfl, rfl⟩
        cases hx : isPl ws.length (obs ws 1) x with
        | true =>
          gi_wp2_with fail
          go_round
          case rel => exact ⟨k + 1, unhide HLT, by go_num, by rw [Hid, unhide HT, hx]⟩
          case measure => (have := unhide HLT; simp [intOf]; omega)
        | false =>
          have HF := hide (unhide HA hx)
          clear hx
          gi_wp2_with fail
          obtain ⟨b1, b2, b3⟩ := unhide HBL
          have hb := unhide HBW
          have K1 := keep_set w1 (w.heap.size + 1 + 1) 0 (.bool false)
          have g3 := heap_setCell_same w1 (w.heap.size + 1 + 1) 0 _ _ (.bool false) (unhide HB3')
          have l1 := (Array.getElem?_eq_some_iff.1 b1).1
          have l2 := (Array.getElem?_eq_some_iff.1 b2).1
          have hsz := hb.size
          refine ⟨C, ⟨⟨rfl, ?_⟩, fun y hy => ?_, unhide HC⟩, (Keep.of_below hb).trans K1 (fun k e => Or.inl ((unhide HC k).2 ?_)), fun k hk => Or.inl hk⟩
          · rw [okPs_snoc, ← unhide HPS, unhide HF, Bool.and_false]
          · simp only [List.mem_cons, List.not_mem_nil, or_false] at hy
            rcases hy with rfl | rfl | rfl
            · exact (K1.block _ (by omega) (by omega)).trans ((hb.block _ l1).trans b1)
            · exact (K1.block _ (by omega) (by omega)).trans ((hb.block _ l2).trans b2)
            · exact g3
          · rw [e]; simp
      · have hke : k = ps.length := by omega
        subst hke
        rw [List.take_length] at hall
        clear hk hlt
        gi_wp2_with fail
        obtain ⟨b1, b2, b3⟩ := unhide HBL
        have hb := unhide HBW
        refine ⟨C, ⟨?_, fun y hy => ?_, unhide HC⟩, Keep.of_below hb, fun k hk => Or.inl hk⟩
        · show okPs ws (pre ++ [(p, h)]) = true
          rw [okPs_snoc, unhide HALL, ← unhide HPS, hall.out]
          rfl
        · simp only [List.mem_cons, List.not_mem_nil, or_false] at hy
          rcases hy with rfl | rfl | rfl
          · exact (hb.block _ (Array.getElem?_eq_some_iff.1 b1).1).trans b1
          · exact (hb.block _ (Array.getElem?_eq_some_iff.1 b2).1).trans b2
          · exact (hb.block _ (Array.getElem?_eq_some_iff.1 b3).1).trans b3
  case done =>
    rintro dd C W hdd ⟨hall, hblk, hC⟩ hm hnc hK
    have b3 := hblk _ (List.mem_cons_of_mem _ (List.mem_cons_of_mem _ List.mem_cons_self))
    have c3 : W.cell? ⟨w.heap.size + 1 + 1, 0, none⟩ = some (.bool false) := by rw [cell_of_row W _ _ _ _ (0, 0) b3]; rfl
    have f3 : W.frozen? ⟨w.heap.size + 1 + 1, 0, none⟩ = false := frozen_of_block b3
    have HALL := hide hall
    have HB3 := hide b3
    have HM := hide hm
    have HK := hide hK
    have HNC := hide (show dd ≠ w.heap.size + 1 + 1 from fun e => hnc ((hC dd).2 (by rw [e]; simp)))
    clear hall b3 hm hK hnc hC hblk hr0
    gi_wp2_with fail
    have K1 := keep_set W (w.heap.size + 1 + 1) 0 (.bool true)
    have hsz := unhide HSZ
    have hdk := (Array.getElem?_eq_some_iff.1 (unhide HK)).1
    have hK2 : (W.setCell ⟨w.heap.size + 1 + 1, 0, none⟩ (.bool true)).heap[dd]? = some (.deferred (some [])) := (K1.block dd hdk (unhide HNC)).trans (unhide HK)
    refine ⟨by simp, .inl ⟨_, _, rfl, run_takeDeferred hK2, ?_⟩⟩
    have hp := keep_put (W.setCell ⟨w.heap.size + 1 + 1, 0, none⟩ (.bool true)) dd (.deferred none)
    have g3 := heap_setCell_same W (w.heap.size + 1 + 1) 0 _ _ (.bool true) (unhide HB3)
    have g4 := (hp.block (w.heap.size + 1 + 1) (Array.getElem?_eq_some_iff.1 g3).1 (fun e => unhide HNC e.symm)).trans g3
    have c4 : ((W.setCell ⟨w.heap.size + 1 + 1, 0, none⟩ (.bool true)).putObj dd (.deferred none)).cell? ⟨w.heap.size + 1 + 1, 0, none⟩ = some (.bool true) := by rw [cell_of_row _ _ _ _ _ (0, 0) g4]; rfl
    refine ⟨.bool true, by simp [results, Try.results38, go_sem, c4], by rw [unhide HALL], ?_⟩
    have h1 := (unhide HB0).trans ((unhide HB1).mono (unhide HB0).size)
    have hm := unhide HM
    refine below_put (C := C) h1 ⟨hm.keep.trans K1 (fun k e => Or.inl (by rw [e]; simp)), hm.sub⟩ (fun k hk => ?_) hdd _
    simp only [List.mem_cons, List.not_mem_nil, or_false] at hk
    omega
  case stop =>
    rintro dd c pre x rest C W hdd hZ ⟨⟨rfl, hall⟩, hblk, hC⟩ hm hnc hK
    have b3 := hblk _ (List.mem_cons_of_mem _ (List.mem_cons_of_mem _ List.mem_cons_self))
    have c3 : W.cell? ⟨w.heap.size + 1 + 1, 0, none⟩ = some (.bool false) := by rw [cell_of_row W _ _ _ _ (0, 0) b3]; rfl
    have HALL := hide (show okPs ws (obs ws 1) = false by rw [hZ, show pre ++ x :: rest = (pre ++ [x]) ++ rest by simp]; exact okPs_false hall)
    have HB3 := hide b3
    have HM := hide hm
    have HK := hide hK
    have HNC := hide (show dd ≠ w.heap.size + 1 + 1 from fun e => hnc ((hC dd).2 (by rw [e]; simp)))
    clear hall b3 hm hK hnc hC hblk hr0 hZ
    gi_wp2_with fail
    refine ⟨by simp, .inl ⟨_, _, rfl, run_takeDeferred (unhide HK), ?_⟩⟩
    have hp := keep_put W dd (.deferred none)
    have g4 := (hp.block (w.heap.size + 1 + 1) (Array.getElem?_eq_some_iff.1 (unhide HB3)).1 (fun e => unhide HNC e.symm)).trans (unhide HB3)
    have c4 : (W.putObj dd (.deferred none)).cell? ⟨w.heap.size + 1 + 1, 0, none⟩ = some (.bool false) := by rw [cell_of_row _ _ _ _ _ (0, 0) g4]; rfl
    refine ⟨.bool false, by simp [results, Try.results38, go_sem, c4], by rw [unhide HALL], ?_⟩
    have h1 := (unhide HB0).trans ((unhide HB1).mono (unhide HB0).size)
    refine below_put h1 (unhide HM) (fun k hk => ?_) hdd _
    simp only [List.mem_cons, List.not_mem_nil, or_false] at hk
    omega
end Go.Proofs.Ytnoebpbachoniaa

/- The landed package cells: Check; the statements' awake. -/
namespace Go.Proofs.Ytnoebpbachoniaa
open Go.RowKit

theorem ccheck_no (s t : Value) (ws rs : List Int) (w : World) (hs : VRow w s (Uw ws)) (ht : VRow w t (Iw rs))
    (h : ¬ (1 ≤ ws.length ∧ ws.length ≤ 1048576 ∧ wd ws 0 = 0 ∧ rs.length ≤ 16)) :
    Calls Try.prog 24 #[s, t] w fun e w' => e = .returned (.int .i64 11) ∧ w' = w := by
  obtain ⟨a, cap, rfl, g1, g2, g3⟩ := hs.shape
  obtain ⟨a', cap', rfl, k1, k2, k3⟩ := ht.shape
  rw [List.length_map] at *
  clear g1 g2 g3 k1 k2 k3 ht
  have hlI : (ws.length : Int) = ((ws.length : Nat) : Int) := rfl
  by_cases h1 : 1 ≤ ws.length
  · have q1 : (1 : Int) ≤ (ws.length : Int) := by omega
    by_cases h2 : ws.length ≤ 1048576
    · have q2 : (ws.length : Int) ≤ 1048576 := by omega
      obtain ⟨b, off, c', e0, j1, j2, hcl⟩ := hs.open (by intro e; have := congrArg List.length e; simp at this; rw [this] at h1; simp at h1)
      simp only [Value.slice.injEq] at e0
      obtain ⟨rfl, j3, rfl⟩ := e0
      clear j1 j2 j3
      have hc := hcl 0 _ (by rw [List.getElem?_map, wd_get h1]; rfl)
      rw [Nat.add_zero] at hc
      by_cases h3 : wd ws 0 = 0
      · have q4 : (16 : Int) < (rs.length : Int) := by
          have : ¬ rs.length ≤ 16 := fun h4 => h ⟨h1, h2, h3, h4⟩
          omega
        rw [h3] at hc
        generalize ws.length = n at *
        clear h1 h2 h3 h hs hcl hlI
        go_enter Try.func24, Try.ntmps24
        go_wp2
        go_ret
        exact ⟨rfl, rfl⟩
      · have q3 : (wd ws 0 == 0) = false := by simpa using h3
        generalize wd ws 0 = x at *
        generalize ws.length = n at *
        clear h1 h2 h hs hcl hlI
        go_enter Try.func24, Try.ntmps24
        go_wp2
        go_ret
        exact ⟨rfl, rfl⟩
    · have q2 : (1048576 : Int) < (ws.length : Int) := by omega
      generalize ws.length = n at *
      clear h1 h2 h hs hlI
      go_enter Try.func24, Try.ntmps24
      go_wp2
      go_ret
      exact ⟨rfl, rfl⟩
  · have q1 : (ws.length : Int) < 1 := by omega
    generalize ws.length = n at *
    clear h1 h hs hlI
    go_enter Try.func24, Try.ntmps24
    go_wp2
    go_ret
    exact ⟨rfl, rfl⟩

def chkE (b : Bool) : Int := if b then 0 else 11
set_option maxHeartbeats 2000000 in
theorem ccheck_yes (s t : Value) (ws rs : List Int) (w : World) (hs : VRow w s (Uw ws)) (ht : VRow w t (Iw rs)) (hU : U32 ws) (hl : ws.length < 70368744177664) (hr : rs.length < 35184372088832)
    (h1 : 1 ≤ ws.length) (h2 : ws.length ≤ 1048576) (h3 : wd ws 0 = 0) (h4 : rs.length ≤ 16) :
    Calls Try.prog 24 #[s, t] w fun e w' => e = .returned (.int .i64 (chkE (heapB ws rs))) ∧ Below w.heap.size w w' := by
  have HS := hide hs
  have HT := hide ht
  have HP := hide (cplaces_any s ws w hs hU hl)
  have HPT := hide (fun g w' (h : MkAt w' g ws.length (obs ws 1)) (hb : Below w.heap.size w w') => chasptrs_any g s ws w' h (hs.below hb) hU hl)
  have HAL := hide (fun g w' (h : MkAt w' g ws.length (obs ws 1)) (hb : Below w.heap.size w w') => chasall_any g ws.length (obs ws 1) t rs w' h (ht.below hb) hr)
  obtain ⟨a, cap, rfl, g1, g2, g3⟩ := hs.shape
  obtain ⟨a', cap', rfl, k1, k2, k3⟩ := ht.shape
  rw [List.length_map] at *
  have q1 : (1 : Int) ≤ (ws.length : Int) := by omega
  have q2 : (ws.length : Int) ≤ 1048576 := by omega
  have q4 : (rs.length : Int) ≤ 16 := by omega
  obtain ⟨b, off, c', e0, j1, j2, hcl⟩ := hs.open (by intro e; have := congrArg List.length e; simp at this; rw [this] at h1; simp at h1)
  simp only [Value.slice.injEq] at e0
  obtain ⟨rfl, j3, rfl⟩ := e0
  clear j1 j2 j3
  have hc := hcl 0 _ (by rw [List.getElem?_map, wd_get h1]; rfl)
  rw [Nat.add_zero, h3] at hc
  have hh : heapB ws rs = (decide (endO (obs ws 1) = ws.length) && okPs ws (obs ws 1) && rs.all (isPl ws.length (obs ws 1))) := rfl
  obtain ⟨E, hE⟩ : ∃ E, E = chkE (heapB ws rs) := ⟨_, rfl⟩
  rw [← hE]
  have HE := hide hE
  have HH := hide hh
  have HA := hide (show ∃ x, x = decide (endO (obs ws 1) = ws.length) ∧ ∃ y, y = okPs ws (obs ws 1) ∧ ∃ z, z = rs.all (isPl ws.length (obs ws 1)) from ⟨_, rfl, _, rfl, _, rfl⟩)
  clear hE hh h1 h2 h3 h4 hs ht hcl hl hr hU g1 g2 g3 k1 k2 k3
  go_enter Try.func24, Try.ntmps24
  go_wp2_with fail
  refine Calls.mono (unhide HP) ?_
  rintro e w1 ⟨g, rfl, hg, hmk, b1⟩
  have HMK := hide (show MkAt w1 g ws.length (obs ws 1) from hmk)
  have HB1 := hide b1
  have d1 : decide ((ws.length : Int) < 1) = false := by simp; omega
  have d2 : decide ((1048576 : Int) < (ws.length : Int)) = false := by simp; omega
  have d3 : decide ((16 : Int) < (rs.length : Int)) = false := by simp; omega
  simp only [d1, d2, d3, Bool.or_false]
  have HPT2 := hide (unhide HPT g w1 (unhide HMK) b1)
  have HAL2 := hide (fun w2 (hb : Below w1.heap.size w1 w2) => unhide HAL g w2 ((unhide HMK).below hb) (b1.trans (hb.mono b1.size)))
  obtain ⟨x, hx, y, hy, z, hz⟩ := unhide HA
  rw [← hx, ← hy, ← hz] at HH
  rw [← hx]
  rw [← hy] at HPT2
  rw [← hz] at HAL2
  clear hx hy hz HA hmk b1 d1 d2 d3 HPT HAL
  cases x with
  | false =>
    rw [Bool.false_and, Bool.false_and] at HH
    go_wp2_with fail
    go_ret
    exact ⟨by rw [unhide HE, unhide HH]; rfl, unhide HB1⟩
  | true =>
    rw [Bool.true_and] at HH
    cases y with
    | false =>
      rw [Bool.false_and] at HH
      go_wp2_with fail
      refine Calls.mono (unhide HPT2) ?_
      rintro e w2 ⟨rfl, b2⟩
      have HB2 := hide ((unhide HB1).trans (b2.mono (unhide HB1).size))
      clear b2
      go_wp2_with fail
      go_ret
      exact ⟨by rw [unhide HE, unhide HH]; rfl, unhide HB2⟩
    | true =>
      rw [Bool.true_and] at HH
      go_wp2_with fail
      refine Calls.mono (unhide HPT2) ?_
      rintro e w2 ⟨rfl, b2⟩
      have HB2 := hide ((unhide HB1).trans (b2.mono (unhide HB1).size))
      have HAL3 := hide (unhide HAL2 w2 b2)
      clear b2 HAL2
      go_wp2_with fail
      refine Calls.mono (unhide HAL3) ?_
      rintro e w3 ⟨rfl, rfl⟩
      cases z with
      | false =>
        go_wp2_with fail
        go_ret
        exact ⟨by rw [unhide HE, unhide HH]; rfl, unhide HB2⟩
      | true =>
        go_wp2_with fail
        go_ret
        exact ⟨by rw [unhide HE, unhide HH]; rfl, unhide HB2⟩

theorem ccheck_any (s t : Value) (ws rs : List Int) (w : World) (hs : VRow w s (Uw ws)) (ht : VRow w t (Iw rs)) (hU : U32 ws) (hl : ws.length < 70368744177664) (hr : rs.length < 35184372088832) :
    Calls Try.prog 24 #[s, t] w fun e w' => e = .returned (.int .i64 (chkE (rightB ws rs))) ∧ Below w.heap.size w w' := by
  by_cases h : 1 ≤ ws.length ∧ ws.length ≤ 1048576 ∧ wd ws 0 = 0 ∧ rs.length ≤ 16
  · obtain ⟨h1, h2, h3, h4⟩ := h
    rw [show rightB ws rs = heapB ws rs by simp [rightB, h1, h2, h3, h4]]
    exact ccheck_yes s t ws rs w hs ht hU hl hr h1 h2 h3 h4
  · have hb : rightB ws rs = false := by
      cases hc : rightB ws rs with
      | false => rfl
      | true =>
        exfalso
        simp only [rightB, Bool.and_eq_true, decide_eq_true_eq] at hc
        exact h ⟨hc.1.1.1.1, hc.1.1.1.2, hc.1.1.2, hc.1.2⟩
    rw [hb]
    refine (ccheck_no s t ws rs w hs ht h).mono ?_
    rintro e w' ⟨rfl, rfl⟩
    exact ⟨rfl, Below.refl _ _⟩

set_option maxHeartbeats 1000000 in
theorem cawake_any (w : World) : Calls Try.prog 9 #[] w fun e w' => e = .returned (.bool true) ∧ Below w.heap.size w w' := by
  have hh := fun w => chead_t 3 1 2 w (by omega) (by omega) (by omega) (by omega) (by omega) (by omega)
  have hb0 : Below w.heap.size w (w.alloc (.cells #[.int .u32 0] 22)) := (Below.refl _ w).alloc (Nat.le_refl _) _
  have hrow : VRow (w.alloc (.cells #[.int .u32 0] 22)) (.slice (some ⟨w.heap.size, 0, none⟩) 1 1) (Uw [0]) := ⟨_, 1, rfl, Nat.le_refl _, by unfold maxLen; omega, by simp, Or.inr ⟨w.heap.size, 0, rfl, fun j v hv => by
    match j, hv with
    | 0, hv => simp [Uw] at hv; subst hv; simp⟩⟩
  have HC := hide (ccheck_any _ _ [0] [] _ hrow (VRow.nil _) (by intro h hh; simp at hh; omega) (by simp) (by simp))
  have HE := hide (show chkE (rightB [0] []) = 0 by decide)
  rw [unhide HE] at HC
  have HB := hide hb0
  have HH := hide hh
  clear hb0 hrow HE hh
  go_enter Try.func9, Try.ntmps9
  go_wp2_with fail
  refine Calls.mono (unhide HH w) ?_
  rintro e w1 ⟨rfl, rfl⟩
  go_wp2_with fail
  refine Calls.mono (unhide HC) ?_
  rintro e w2 ⟨rfl, b2⟩
  have HB2 := hide ((unhide HB).trans (b2.mono (unhide HB).size))
  clear b2
  go_wp2_with fail
  go_ret
  exact ⟨rfl, unhide HB2⟩
end Go.Proofs.Ytnoebpbachoniaa
