/- Texts of ours, one behind the other: CelPtrs, CelCheck, MkLivD, ThOut, ThAsk, CelObject, MkMem, CelTold. -/
import Derived.Test.YtegefnchkgkmgaaG3
import Derived.Test.YtegefnchkgkmgaaG4
import Derived.Test.YtegefnchkgkmgaaG5
import Derived.Test.YtegefnchkgkmgaaG6
import Derived.Test.YtegefnchkgkmgaaG8
import Derived.Test.YtegefnchkgkmgaaG9
import Derived.Test.YtegefnchkgkmgaaG14
import Derived.Test.YtegefnchkgkmgaaG15
import Derived.BigQuiet
import Derived.WalkSmall
/- The landed package cells: has, hasAll, hasPointers. -/
namespace Go.Proofs.Ytegefnchkgkmgaa
open Go.RowKit Go.Shelf
attribute [local go_sem] Oper.semAt_some

theorem Try.sizeU32 : (Try.prog.info? 25).map (·.size) = some 1 := by kernel_rfl
/-- The marks of all objects, in block g. -/
def MkAt (w : World) (g : Nat) (n : Nat) (Z : List (Nat × Int)) : Prop := w.heap[g]? = some (.cells ((marks n Z).map Value.bool).toArray 4 (0, 0))
theorem MkAt.lt {w : World} {g n : Nat} {Z : List (Nat × Int)} (h : MkAt w g n Z) : g < w.heap.size := (Array.getElem?_eq_some_iff.1 h).1
theorem MkAt.below {w w' : World} {g n : Nat} {Z : List (Nat × Int)} (h : MkAt w g n Z) (hb : Below w.heap.size w w') : MkAt w' g n Z := (hb.block g h.lt).trans h
theorem MkAt.cell {w : World} {g n : Nat} {Z : List (Nat × Int)} (h : MkAt w g n Z) {k : Nat} (hk : k < n) : w.cell? ⟨g, k, none⟩ = some (.bool (decide (k ∈ Z.map Prod.fst))) := by
  rw [cell_of_row w _ _ _ _ (0, 0) h, List.getElem?_toArray, List.getElem?_map, marks_get _ hk]; rfl

theorem chas_any (g n : Nat) (Z : List (Nat × Int)) (a : Int) (w : World) (h : MkAt w g n Z) :
    Calls Try.prog 68 #[.slice (some ⟨g, 0, none⟩) n n, .int .i64 a] w fun e w' => e = .returned (.bool (isPl n Z a)) ∧ w' = w := by
  by_cases h0 : a = 0
  · subst h0
    rw [show isPl n Z 0 = true by simp [isPl]]
    clear h
    go_enter Try.func68, Try.ntmps68
    go_wp2
    go_ret
    exact ⟨rfl, rfl⟩
  · have hb : (a == 0) = false := by simp [h0]
    by_cases h1 : 0 < a
    · by_cases h2 : a < n
      · obtain ⟨k, rfl⟩ := Int.eq_ofNat_of_zero_le (show 0 ≤ a by omega)
        have hk : k < n := by omega
        have hc := h.cell hk
        have e1 : isPl n Z (k : Int) = decide (k ∈ Z.map Prod.fst) := by
          have q0 : ¬ (k : Int) = 0 := by omega
          have q1 : (0 : Int) < (k : Int) := by omega
          have q2 : (k : Int) < (n : Int) := by omega
          simp only [isPl, q0, q1, q2, decide_true, decide_false, Bool.false_or, Bool.true_and, Int.toNat_natCast]
        rw [e1]
        generalize decide (k ∈ Z.map Prod.fst) = r at *
        clear h e1 hk h0
        go_enter Try.func68, Try.ntmps68
        go_wp2
        go_ret
        exact ⟨rfl, rfl⟩
      · rw [show isPl n Z a = false by simp [isPl, h0, h2]]
        have h2' : (n : Int) ≤ a := by omega
        clear h h0 h2
        go_enter Try.func68, Try.ntmps68
        go_wp2
        go_ret
        exact ⟨rfl, rfl⟩
    · rw [show isPl n Z a = false by simp [isPl, h0, h1]]
      have h1' : a ≤ 0 := by omega
      clear h h0 h1
      go_enter Try.func68, Try.ntmps68
      go_wp2
      go_ret
      exact ⟨rfl, rfl⟩

abbrev Iw (rs : List Int) : List Value := rs.map (Value.int .i64)
set_option maxHeartbeats 1000000 in
theorem chasall_any (g n : Nat) (Z : List (Nat × Int)) (s : Value) (rs : List Int) (w : World) (h : MkAt w g n Z) (hs : VRow w s (Iw rs)) (hl : rs.length < 35184372088832) :
    Calls Try.prog 54 #[.slice (some ⟨g, 0, none⟩) n n, s] w fun e w' => e = .returned (.bool (rs.all (isPl n Z))) ∧ w' = w := by
  obtain ⟨a, cap, rfl, hc1, hc2, hc3⟩ := hs.shape
  rw [List.length_map] at *
  have HS := hide hs
  have HL := hide hl
  have HM := hide h
  clear hs hl hc1 hc2 hc3 h
  go_enter Try.func54, Try.ntmps54
  go_wp2_with fail
  go_loop [9] (fun i => ∃ k : Nat, k ≤ rs.length ∧ i = .int .i64 (k : Int) ∧ Hid ((rs.take k).all (isPl n Z) = true)) (fun i => rs.length - (intOf i).toNat)
  case atStart => exact ⟨0, Nat.zero_le _, rfl, by simp [Hid]⟩
  case round =>
    obtain ⟨k, hk, rfl, hall⟩ := hrel
    by_cases hlt : k < rs.length
    · have hkI : (k : Int) < (rs.length : Int) := by omega
      obtain ⟨b, off, cap', e0, g1, g2, hcl⟩ := (unhide HS).open (by intro e; have := congrArg List.length e; simp at this; rw [this] at hlt; simp at hlt)
      simp only [Value.slice.injEq] at e0
      obtain ⟨rfl, g3, rfl⟩ := e0
      have hc := hcl k _ (by rw [List.getElem?_map, List.getElem?_eq_getElem hlt]; rfl)
      have HT := hide (show (rs.take (k + 1)).all (isPl n Z) = isPl n Z rs[k] by rw [List.take_succ_eq_append_getElem hlt, List.all_append, hall.out]; simp)
      have HA := hide (show isPl n Z rs[k] = false → rs.all (isPl n Z) = false by
        intro h
        rw [List.all_eq_false]
        exact ⟨rs[k], List.getElem_mem hlt, by simp [h]⟩)
      have HLT := hide hlt
      have HCH := hide (fun x => chas_any g n Z x w (unhide HM))
      generalize rs[k] = x at *
      clear g1 g2 g3 hcl hall hk hlt
      have hnw : IntKind.i64.wrap ((k : Int) + 1) = (k : Int) + 1 := by have := unhide HL; have := unhide HLT; rw [IntKind.wrap_i64]; omega
      go_wp2_with fail
      refine Calls.mono (unhide HCH x) ?_
      rintro e w1 ⟨rfl, rfl⟩
      cases hx : isPl n Z x with
      | true =>
        go_wp2_with fail
        go_round
        case rel => exact ⟨k + 1, unhide HLT, by go_num, by rw [Hid, unhide HT, hx]⟩
        case measure => (have := unhide HLT; simp [intOf]; omega)
      | false =>
        have HF := hide (unhide HA hx)
        clear hx
        go_wp2_with fail
        go_ret
        exact ⟨by rw [unhide HF]; rfl, rfl⟩
    · have hke : k = rs.length := by omega
      subst hke
      rw [List.take_length] at hall
      clear hk hlt
      go_wp2_with fail
      go_ret
      exact ⟨by rw [hall.out]; rfl, rfl⟩

/-- Variables of a caller, as blocks that stand, and what is true of what came. -/
def BxI {α : Type} (f : List α → List (Nat × Obj)) (P : List α → Prop) (pre : List α) (C : Nat → Prop) (W : World) : Prop := P pre ∧ (∀ x ∈ f pre, W.heap[x.1]? = some x.2) ∧ ∀ k, C k ↔ k ∈ (f pre).map Prod.fst
theorem BxI.ok {α : Type} (f : List α → List (Nat × Obj)) (P : List α → Prop) (b : Nat) : SOk b (BxI f P) := by
  refine ⟨fun pre C W W' G h hk hn _ => ?_, fun pre C W h k hc => ?_⟩
  · obtain ⟨h1, h2, h3⟩ := h
    refine ⟨h1, fun x hx => ?_, h3⟩
    exact (hk.block _ (Array.getElem?_eq_some_iff.1 (h2 x hx)).1 (hn _ ((h3 _).2 (List.mem_map.2 ⟨x, hx, rfl⟩)))).trans (h2 x hx)
  · obtain ⟨h1, h2, h3⟩ := h
    obtain ⟨x, hx, rfl⟩ := List.mem_map.1 ((h3 k).1 hc)
    exact (Array.getElem?_eq_some_iff.1 (h2 x hx)).1

/-- Are the pointers of these objects ones that may be? -/
def okPs (ws : List Int) (pre : List (Nat × Int)) : Bool := pre.all (fun x => (ptrsO ws x).all (isPl ws.length (obs ws 1)))
theorem okPs_snoc (ws : List Int) (pre : List (Nat × Int)) (x : Nat × Int) : okPs ws (pre ++ [x]) = (okPs ws pre && (ptrsO ws x).all (isPl ws.length (obs ws 1))) := by simp [okPs]
theorem okPs_false {ws : List Int} {pre rest : List (Nat × Int)} (h : okPs ws pre = false) : okPs ws (pre ++ rest) = false := by
  unfold okPs at h ⊢
  rw [List.all_append, h, Bool.false_and]
theorem three_new (w : World) (x y z : Obj) : ((((w.alloc x).alloc y).alloc z).heap[w.heap.size]? = some x) ∧ ((((w.alloc x).alloc y).alloc z).heap[w.heap.size + 1]? = some y) ∧ ((((w.alloc x).alloc y).alloc z).heap[w.heap.size + 1 + 1]? = some z) := by
  refine ⟨(Below.heap_alloc _ _ _ (by simp; omega)).trans ((Below.heap_alloc _ _ _ (by simp)).trans (World.alloc_heap_new w _)), ?_, ?_⟩
  · have := World.alloc_heap_new (w.alloc x) y
    rw [World.size_alloc] at this
    exact (Below.heap_alloc _ _ _ (by simp)).trans this
  · have := World.alloc_heap_new ((w.alloc x).alloc y) z
    rw [World.size_alloc, World.size_alloc] at this
    exact this

set_option maxRecDepth 20000 in
set_option maxHeartbeats 2000000 in
theorem chasptrs_any (g : Nat) (s : Value) (ws : List Int) (w : World) (h : MkAt w g ws.length (obs ws 1)) (hs : VRow w s (Uw ws)) (hU : U32 ws) (hl : ws.length < 70368744177664) :
    Calls Try.prog 53 #[.slice (some ⟨g, 0, none⟩) ws.length ws.length, s] w fun e w' => e = .returned (.bool (okPs ws (obs ws 1))) ∧ Below w.heap.size w w' := by
  refine (callsIn_wide (n := 5)).1 ?_
  refine callsIn_of_wp_marks Try.func53 rfl trivial ?_ rfl
  simp only [Try.ntmps53, List.size_toArray, List.length_cons, List.length_nil, Nat.reduceAdd, Nat.reduceSub, Array.replicate_succ, Array.replicate_zero, List.push_toArray, List.append_toArray, List.nil_append, List.cons_append]
  obtain ⟨a, cap, rfl, hc1, hc2, hc3⟩ := hs.shape
  rw [List.length_map] at *
  have HS := hide hs
  have HU := hide hU
  have HL := hide hl
  have HM := hide h
  clear hs hU hl hc1 hc2 hc3 h
  obtain ⟨W0, hW0⟩ : ∃ W0, (((w.alloc (.cells #[.slice (some ⟨g, 0, none⟩) ws.length ws.length] 86)).alloc (.cells #[.slice a ws.length cap] 22)).alloc (.cells #[.bool false] 4)) = W0 := ⟨_, rfl⟩
  have HB0 : Hid (Below w.heap.size w W0) := by unfold Hid; rw [← hW0]; exact (((Below.refl _ w).alloc (Nat.le_refl _) _).alloc (by simp) _).alloc (by simp; omega) _
  have HSZ : Hid (W0.heap.size = w.heap.size + 3) := by unfold Hid; rw [← hW0]; simp
  have H0 : Hid (W0.heap[w.heap.size]? = some (.cells #[.slice (some ⟨g, 0, none⟩) ws.length ws.length] 86 (0, 0)) ∧ W0.heap[w.heap.size + 1]? = some (.cells #[.slice a ws.length cap] 22 (0, 0)) ∧ W0.heap[w.heap.size + 1 + 1]? = some (.cells #[.bool false] 4 (0, 0))) := by
    unfold Hid
    rw [← hW0]
    exact three_new w _ _ _
  have HW0 := hide hW0
  clear hW0
  gi_wp2_with fail
  rw [unhide HW0]
  clear HW0
  refine ⟨trivial, (callsIn_wide.2 (cobjects_any W0 a ws.length cap)).mono ?_⟩
  rintro e w1 ⟨rfl, rfl⟩
  have HB1 := hide ((Below.refl _ W0).alloc (Nat.le_refl _) (.cells #[.slice a ws.length cap] 22))
  gi_wp2_with fail
  have hr0 := (unhide HS).below (unhide HB0)
  refine wpIn_seqR (C0 := fun k => k ∈ [w.heap.size, w.heap.size + 1, w.heap.size + 1 + 1]) (objects_seq W0.heap.size (.slice a ws.length cap) ws (unhide HU) (unhide HL)) rfl (fun _ _ => by kernel_rfl) (fun _ => rfl)
    (BxI (fun _ => [(w.heap.size, .cells #[.slice (some ⟨g, 0, none⟩) ws.length ws.length] 86 (0, 0)), (w.heap.size + 1, .cells #[.slice a ws.length cap] 22 (0, 0)), (w.heap.size + 1 + 1, .cells #[.bool false] 4 (0, 0))]) (fun pre => okPs ws pre = true))
    (fun c => BxI (fun _ => [(w.heap.size, .cells #[.slice (some ⟨g, 0, none⟩) ws.length ws.length] 86 (0, 0)), (w.heap.size + 1, .cells #[.slice a ws.length cap] 22 (0, 0)), (w.heap.size + 1 + 1, .cells #[.bool false] 4 (0, 0))]) (fun pre => c = .ret ∧ okPs ws pre = false))
    (BxI.ok _ _ _) (fun _ => BxI.ok _ _ _) ?start ?data ?apart ?round ?done ?stop
  case start =>
    obtain ⟨a1, a2, a3⟩ := unhide H0
    have hB := unhide HB1
    refine ⟨rfl, fun x hx => ?_, fun k => Iff.rfl⟩
    simp only [List.mem_cons, List.not_mem_nil, or_false] at hx
    rcases hx with rfl | rfl | rfl
    · exact (hB.block _ (Array.getElem?_eq_some_iff.1 a1).1).trans a1
    · exact (hB.block _ (Array.getElem?_eq_some_iff.1 a2).1).trans a2
    · exact (hB.block _ (Array.getElem?_eq_some_iff.1 a3).1).trans a3
  case data =>
    intro W hb
    refine ⟨(hb.cell (p := ⟨W0.heap.size, 0, none⟩) (by simp)).trans (by simp), (hr0.below (unhide HB1)).below hb⟩
  case apart =>
    intro k hk
    have hsz := unhide HSZ
    simp only [List.mem_cons, List.not_mem_nil, or_false, World.size_alloc]
    rcases hk with rfl | ⟨hne, hk⟩
    · exact ⟨by omega, by omega⟩
    · have hk2 := hs_block (unhide HS) (fun h => hne (List.map_eq_nil_iff.1 h)) k hk
      exact ⟨by omega, by omega⟩
  case round =>
    rintro l pre ⟨p, h⟩ rest C W hZ hi hm
    dsimp only [encO]
    have HZ := hide hZ
    have HI := hide hi
    clear hZ hi hm hr0
    gi_wp2
    refine ⟨_, C, (BxI.ok _ _ _).at pre, unhide HI, Moves.refl _ _, fun W2 hi2 hm2 => ?_⟩
    clear HI
    obtain ⟨n1, n2, n3, n4⟩ := obs_next (unhide HZ)
    obtain ⟨u0, u1⟩ := (unhide HU).wd p
    dsimp only at n2
    rw [← n2] at u0 u1
    obtain ⟨hall, hblk, hC⟩ := hi2
    have b1 := hblk _ (List.mem_cons_self)
    have b2 := hblk _ (List.mem_cons_of_mem _ List.mem_cons_self)
    have b3 := hblk _ (List.mem_cons_of_mem _ (List.mem_cons_of_mem _ List.mem_cons_self))
    have c1 : W2.cell? ⟨w.heap.size, 0, none⟩ = some (.slice (some ⟨g, 0, none⟩) ws.length ws.length) := by rw [cell_of_row W2 _ _ _ _ (0, 0) b1]; rfl
    have c2 : W2.cell? ⟨w.heap.size + 1, 0, none⟩ = some (.slice a ws.length cap) := by rw [cell_of_row W2 _ _ _ _ (0, 0) b2]; rfl
    have c3 : W2.cell? ⟨w.heap.size + 1 + 1, 0, none⟩ = some (.bool false) := by rw [cell_of_row W2 _ _ _ _ (0, 0) b3]; rfl
    have f3 : W2.frozen? ⟨w.heap.size + 1 + 1, 0, none⟩ = false := frozen_of_block b3
    have hR2 : VRow W2 (.slice a ws.length cap) (Uw ws) := ((unhide HS).below ((unhide HB0).trans ((unhide HB1).mono (unhide HB0).size))).keep hm2.keep (fun b off c e hne hk => by
      have := hs_block (unhide HS) hne b (by rw [e]; rfl)
      simp only [List.mem_cons, List.not_mem_nil, or_false] at hk
      omega)
    have hM2 : MkAt W2 g ws.length (obs ws 1) := by
      have h1 := (unhide HM).below ((unhide HB0).trans ((unhide HB1).mono (unhide HB0).size))
      refine (hm2.keep.block g h1.lt (fun hk => ?_)).trans h1
      have := (unhide HM).lt
      simp only [List.mem_cons, List.not_mem_nil, or_false] at hk
      omega
    obtain ⟨o1, o2, o3⟩ := n3
    dsimp only at o1 o2 o3
    rw [← n2] at o2 o3
    obtain ⟨q, c', hcut, hrow, _⟩ := hR2.cut_lh Try.underlying22 Try.sizeU32 (p + 1) (ptN h) (by rw [List.length_map]; omega)
    have hpt := ptN_int h
    rw [hpt, show (((p + 1 : Nat)) : Int) = (p : Int) + 1 by omega] at hcut
    have hw1 : IntKind.i64.wrap ((p : Int) + 1) = (p : Int) + 1 := by have := unhide HL; rw [IntKind.wrap_i64]; omega
    have hw2 : IntKind.i64.wrap ((p : Int) + 1 + h / 16 % 256) = (p : Int) + 1 + h / 16 % 256 := by have := unhide HL; rw [IntKind.wrap_i64]; omega
    have hmx : Try.prog.follows .mixedOrders = true := by kernel_rfl
    have HBL := hide (And.intro b1 (And.intro b2 b3))
    have HALL := hide hall
    have HC := hide hC
    have HROW := hide hrow
    have HM2 := hide hM2
    have HMV := hide hm2
    have HPT := hide hpt
    clear hpt hM2 hm2 hrow hR2 n1 n2 n4 o1 o2 o3 hall hC hblk b1 b2 b3
    obtain ⟨CC, hCC⟩ : ∃ CC : World → Prop, CC = fun w' => Below W2.heap.size W2 w' := ⟨_, rfl⟩
    have HCC : Hid (∀ w', CC w' → w'.cell? ⟨w.heap.size + 1, 0, none⟩ = some (.slice a ws.length cap)) := by
      unfold Hid; rw [hCC]; exact fun w' hw => (hw.cell (p := ⟨w.heap.size + 1, 0, none⟩) (World.block_lt_of_cell? W2 _ c2)).trans c2
    have HC0 : Hid (CC { W2 with drawn := W2.drawn + 1 }) := by unfold Hid; rw [hCC]; exact (Below.refl _ W2).drew
    have HCW : Hid (∀ w', CC w' → Below W2.heap.size W2 w') := by unfold Hid; rw [hCC]; exact fun w' hw => hw
    clear hCC
    gi_wp2_with fail
    refine region_calmW CC (by kernel_rfl) (by kernel_rfl) (by simp) (unhide HC0) ?_
    repeat (first
      | go_big_quiet_skip
      | (go_big_quiet_want
         apply Exists.intro
         refine ⟨fun w' hw' => ?_, ?_⟩
         · have d0 := unhide HCC w' hw'
           go_simp
           first | done | rfl | exact Calls.mono (cptrs_t h w' u0 u1) (fun e w'' hx => ⟨hx.1, hx.2 ▸ hw'⟩)
         simp only [Act.put, List.setIfInBounds_toArray, List.set_cons_zero, List.set_cons_succ]
         go_big_quiet_on))
    refine wpQuiet_nil ?_
    intro W3 hw'
    have hBW := unhide HCW W3 hw'
    obtain ⟨b1, b2, b3⟩ := unhide HBL
    have c1' := (hBW.cell (p := ⟨w.heap.size, 0, none⟩) (World.block_lt_of_cell? W2 _ c1)).trans c1
    have b3' := (hBW.block _ (Array.getElem?_eq_some_iff.1 b3).1).trans b3
    have c3' := (hBW.cell (p := ⟨w.heap.size + 1 + 1, 0, none⟩) (World.block_lt_of_cell? W2 _ c3)).trans c3
    have f3' : W3.frozen? ⟨w.heap.size + 1 + 1, 0, none⟩ = false := frozen_of_block b3'
    have HROW3 := hide ((unhide HROW).below hBW)
    have HCH := hide (fun x => chas_any g ws.length (obs ws 1) x W3 ((unhide HM2).below hBW))
    have HBW := hide hBW
    have HB3' := hide b3'
    have hlp : (((Uw ws).drop (p + 1)).take (ptN h)) = (ptrsO ws (p, h)).map (Value.int .u32) := by
      unfold ptrsO Uw
      rw [List.map_take, List.map_drop]
    rw [hlp] at HROW3
    obtain ⟨ps, hps⟩ : ∃ ps, ps = ptrsO ws (p, h) := ⟨_, rfl⟩
    rw [← hps] at HROW3
    have hlen : ps.length = ptN h := by
      obtain ⟨_, _, e, _⟩ := unhide HROW3
      simp only [Value.slice.injEq, List.length_map] at e
      exact e.2.1.symm
    have HU2 := hide (show ∀ x ∈ ps, 0 ≤ x ∧ x < 4294967296 by
      intro x hx
      rw [hps] at hx
      exact unhide HU x (List.mem_of_mem_drop (List.mem_of_mem_take hx)))
    have HPS := hide hps
    clear hps hlp HROW HM2
    rw [← hlen] at HROW3 ⊢
    have HPL := hide (show ps.length < 256 by rw [hlen]; exact ptN_lt h)
    clear hBW b1 b2 b3 b3' c1 c2 c3 f3 hw' HCC HC0 HCW hcut hlen HPT
    gi_wp2_with fail
    gi_loop [23] (fun i => ∃ k : Nat, k ≤ ps.length ∧ i = .int .i64 (k : Int) ∧ Hid ((ps.take k).all (isPl ws.length (obs ws 1)) = true)) (fun i => ps.length - (intOf i).toNat)
    case atStart => exact ⟨0, Nat.zero_le _, rfl, by simp [Hid]⟩
    case round =>
      obtain ⟨k, hk, rfl, hall⟩ := hrel
      by_cases hlt : k < ps.length
      · have hkI : (k : Int) < (ps.length : Int) := by omega
        obtain ⟨b, off, cap', e0, g1, g2, hcl⟩ := (unhide HROW3).open (by intro e; have := congrArg List.length e; simp at this; rw [this] at hlt; simp at hlt)
        simp only [Value.slice.injEq] at e0
        obtain ⟨rfl, g3, rfl⟩ := e0
        have hc := hcl k _ (by rw [List.getElem?_map, List.getElem?_eq_getElem hlt]; rfl)
        obtain ⟨v0, v1⟩ := unhide HU2 ps[k] (List.getElem_mem hlt)
        have HT := hide (show (ps.take (k + 1)).all (isPl ws.length (obs ws 1)) = isPl ws.length (obs ws 1) ps[k] by rw [List.take_succ_eq_append_getElem hlt, List.all_append, hall.out]; simp)
        have HA := hide (show isPl ws.length (obs ws 1) ps[k] = false → ps.all (isPl ws.length (obs ws 1)) = false by
          intro h
          rw [List.all_eq_false]
          exact ⟨ps[k], List.getElem_mem hlt, by simp [h]⟩)
        have HLT := hide hlt
        generalize ps[k] = x at *
        clear g1 g2 g3 hcl hall hk hlt
        have hnw : IntKind.i64.wrap ((k : Int) + 1) = (k : Int) + 1 := by have := unhide HPL; have := unhide HLT; rw [IntKind.wrap_i64]; omega
        have hxw : IntKind.i64.wrap x = x := by rw [IntKind.wrap_i64]; omega
        gi_wp2_with fail
        refine ⟨trivial, (CallsIn.inRound l (callsIn_wide.2 (unhide HCH x))).mono ?_⟩
        rintro e w1 ⟨rfl, rfl⟩
        cases hx : isPl ws.length (obs ws 1) x with
        | true =>
          gi_wp2_with fail
          go_round
          case rel => exact ⟨k + 1, unhide HLT, by go_num, by rw [Hid, unhide HT, hx]⟩
          case measure => (have := unhide HLT; simp [intOf]; omega)
        | false =>
          have HF := hide (unhide HA hx)
          clear hx
          gi_wp2_with fail
          obtain ⟨b1, b2, b3⟩ := unhide HBL
          have hb := unhide HBW
          have K1 := keep_set w1 (w.heap.size + 1 + 1) 0 (.bool false)
          have g3 := heap_setCell_same w1 (w.heap.size + 1 + 1) 0 _ _ (.bool false) (unhide HB3')
          have l1 := (Array.getElem?_eq_some_iff.1 b1).1
          have l2 := (Array.getElem?_eq_some_iff.1 b2).1
          have hsz := hb.size
          refine ⟨C, ⟨⟨rfl, ?_⟩, fun y hy => ?_, unhide HC⟩, (Keep.of_below hb).trans K1 (fun k e => Or.inl ((unhide HC k).2 ?_)), fun k hk => Or.inl hk⟩
          · rw [okPs_snoc, ← unhide HPS, unhide HF, Bool.and_false]
          · simp only [List.mem_cons, List.not_mem_nil, or_false] at hy
            rcases hy with rfl | rfl | rfl
            · exact (K1.block _ (by omega) (by omega)).trans ((hb.block _ l1).trans b1)
            · exact (K1.block _ (by omega) (by omega)).trans ((hb.block _ l2).trans b2)
            · exact g3
          · rw [e]; simp
      · have hke : k = ps.length := by omega
        subst hke
        rw [List.take_length] at hall
        clear hk hlt
        gi_wp2_with fail
        obtain ⟨b1, b2, b3⟩ := unhide HBL
        have hb := unhide HBW
        refine ⟨C, ⟨?_, fun y hy => ?_, unhide HC⟩, Keep.of_below hb, fun k hk => Or.inl hk⟩
        · show okPs ws (pre ++ [(p, h)]) = true
          rw [okPs_snoc, unhide HALL, ← unhide HPS, hall.out]
          rfl
        · simp only [List.mem_cons, List.not_mem_nil, or_false] at hy
          rcases hy with rfl | rfl | rfl
          · exact (hb.block _ (Array.getElem?_eq_some_iff.1 b1).1).trans b1
          · exact (hb.block _ (Array.getElem?_eq_some_iff.1 b2).1).trans b2
          · exact (hb.block _ (Array.getElem?_eq_some_iff.1 b3).1).trans b3
  case done =>
    rintro dd C W hdd ⟨hall, hblk, hC⟩ hm hnc hK
    have b3 := hblk _ (List.mem_cons_of_mem _ (List.mem_cons_of_mem _ List.mem_cons_self))
    have c3 : W.cell? ⟨w.heap.size + 1 + 1, 0, none⟩ = some (.bool false) := by rw [cell_of_row W _ _ _ _ (0, 0) b3]; rfl
    have f3 : W.frozen? ⟨w.heap.size + 1 + 1, 0, none⟩ = false := frozen_of_block b3
    have HALL := hide hall
    have HB3 := hide b3
    have HM := hide hm
    have HK := hide hK
    have HNC := hide (show dd ≠ w.heap.size + 1 + 1 from fun e => hnc ((hC dd).2 (by rw [e]; simp)))
    clear hall b3 hm hK hnc hC hblk hr0
    gi_wp2_with fail
    have K1 := keep_set W (w.heap.size + 1 + 1) 0 (.bool true)
    have hsz := unhide HSZ
    have hdk := (Array.getElem?_eq_some_iff.1 (unhide HK)).1
    have hK2 : (W.setCell ⟨w.heap.size + 1 + 1, 0, none⟩ (.bool true)).heap[dd]? = some (.deferred (some [])) := (K1.block dd hdk (unhide HNC)).trans (unhide HK)
    refine ⟨by simp, .inl ⟨_, _, rfl, run_takeDeferred hK2, ?_⟩⟩
    have hp := keep_put (W.setCell ⟨w.heap.size + 1 + 1, 0, none⟩ (.bool true)) dd (.deferred none)
    have g3 := heap_setCell_same W (w.heap.size + 1 + 1) 0 _ _ (.bool true) (unhide HB3)
    have g4 := (hp.block (w.heap.size + 1 + 1) (Array.getElem?_eq_some_iff.1 g3).1 (fun e => unhide HNC e.symm)).trans g3
    have c4 : ((W.setCell ⟨w.heap.size + 1 + 1, 0, none⟩ (.bool true)).putObj dd (.deferred none)).cell? ⟨w.heap.size + 1 + 1, 0, none⟩ = some (.bool true) := by rw [cell_of_row _ _ _ _ _ (0, 0) g4]; rfl
    refine ⟨.bool true, by simp [results, Try.results53, go_sem, c4], by rw [unhide HALL], ?_⟩
    have h1 := (unhide HB0).trans ((unhide HB1).mono (unhide HB0).size)
    have hm := unhide HM
    refine below_put (C := C) h1 ⟨hm.keep.trans K1 (fun k e => Or.inl (by rw [e]; simp)), hm.sub⟩ (fun k hk => ?_) hdd _
    simp only [List.mem_cons, List.not_mem_nil, or_false] at hk
    omega
  case stop =>
    rintro dd c pre x rest C W hdd hZ ⟨⟨rfl, hall⟩, hblk, hC⟩ hm hnc hK
    have b3 := hblk _ (List.mem_cons_of_mem _ (List.mem_cons_of_mem _ List.mem_cons_self))
    have c3 : W.cell? ⟨w.heap.size + 1 + 1, 0, none⟩ = some (.bool false) := by rw [cell_of_row W _ _ _ _ (0, 0) b3]; rfl
    have HALL := hide (show okPs ws (obs ws 1) = false by rw [hZ, show pre ++ x :: rest = (pre ++ [x]) ++ rest by simp]; exact okPs_false hall)
    have HB3 := hide b3
    have HM := hide hm
    have HK := hide hK
    have HNC := hide (show dd ≠ w.heap.size + 1 + 1 from fun e => hnc ((hC dd).2 (by rw [e]; simp)))
    clear hall b3 hm hK hnc hC hblk hr0 hZ
    gi_wp2_with fail
    refine ⟨by simp, .inl ⟨_, _, rfl, run_takeDeferred (unhide HK), ?_⟩⟩
    have hp := keep_put W dd (.deferred none)
    have g4 := (hp.block (w.heap.size + 1 + 1) (Array.getElem?_eq_some_iff.1 (unhide HB3)).1 (fun e => unhide HNC e.symm)).trans (unhide HB3)
    have c4 : (W.putObj dd (.deferred none)).cell? ⟨w.heap.size + 1 + 1, 0, none⟩ = some (.bool false) := by rw [cell_of_row _ _ _ _ _ (0, 0) g4]; rfl
    refine ⟨.bool false, by simp [results, Try.results53, go_sem, c4], by rw [unhide HALL], ?_⟩
    have h1 := (unhide HB0).trans ((unhide HB1).mono (unhide HB0).size)
    refine below_put h1 (unhide HM) (fun k hk => ?_) hdd _
    simp only [List.mem_cons, List.not_mem_nil, or_false] at hk
    omega
end Go.Proofs.Ytegefnchkgkmgaa

/- The landed package cells: Check; the statements' awake. -/
namespace Go.Proofs.Ytegefnchkgkmgaa
open Go.RowKit

theorem ccheck_no (s t : Value) (ws rs : List Int) (w : World) (hs : VRow w s (Uw ws)) (ht : VRow w t (Iw rs))
    (h : ¬ (1 ≤ ws.length ∧ ws.length ≤ 1048576 ∧ wd ws 0 = 0 ∧ rs.length ≤ 16)) :
    Calls Try.prog 25 #[s, t] w fun e w' => e = .returned (.int .i64 11) ∧ w' = w := by
  obtain ⟨a, cap, rfl, g1, g2, g3⟩ := hs.shape
  obtain ⟨a', cap', rfl, k1, k2, k3⟩ := ht.shape
  rw [List.length_map] at *
  clear g1 g2 g3 k1 k2 k3 ht
  have hlI : (ws.length : Int) = ((ws.length : Nat) : Int) := rfl
  by_cases h1 : 1 ≤ ws.length
  · have q1 : (1 : Int) ≤ (ws.length : Int) := by omega
    by_cases h2 : ws.length ≤ 1048576
    · have q2 : (ws.length : Int) ≤ 1048576 := by omega
      obtain ⟨b, off, c', e0, j1, j2, hcl⟩ := hs.open (by intro e; have := congrArg List.length e; simp at this; rw [this] at h1; simp at h1)
      simp only [Value.slice.injEq] at e0
      obtain ⟨rfl, j3, rfl⟩ := e0
      clear j1 j2 j3
      have hc := hcl 0 _ (by rw [List.getElem?_map, wd_get h1]; rfl)
      rw [Nat.add_zero] at hc
      by_cases h3 : wd ws 0 = 0
      · have q4 : (16 : Int) < (rs.length : Int) := by
          have : ¬ rs.length ≤ 16 := fun h4 => h ⟨h1, h2, h3, h4⟩
          omega
        rw [h3] at hc
        generalize ws.length = n at *
        clear h1 h2 h3 h hs hcl hlI
        go_enter Try.func25, Try.ntmps25
        go_wp2
        go_ret
        exact ⟨rfl, rfl⟩
      · have q3 : (wd ws 0 == 0) = false := by simpa using h3
        generalize wd ws 0 = x at *
        generalize ws.length = n at *
        clear h1 h2 h hs hcl hlI
        go_enter Try.func25, Try.ntmps25
        go_wp2
        go_ret
        exact ⟨rfl, rfl⟩
    · have q2 : (1048576 : Int) < (ws.length : Int) := by omega
      generalize ws.length = n at *
      clear h1 h2 h hs hlI
      go_enter Try.func25, Try.ntmps25
      go_wp2
      go_ret
      exact ⟨rfl, rfl⟩
  · have q1 : (ws.length : Int) < 1 := by omega
    generalize ws.length = n at *
    clear h1 h hs hlI
    go_enter Try.func25, Try.ntmps25
    go_wp2
    go_ret
    exact ⟨rfl, rfl⟩

def chkE (b : Bool) : Int := if b then 0 else 11
set_option maxHeartbeats 2000000 in
theorem ccheck_yes (s t : Value) (ws rs : List Int) (w : World) (hs : VRow w s (Uw ws)) (ht : VRow w t (Iw rs)) (hU : U32 ws) (hl : ws.length < 70368744177664) (hr : rs.length < 35184372088832)
    (h1 : 1 ≤ ws.length) (h2 : ws.length ≤ 1048576) (h3 : wd ws 0 = 0) (h4 : rs.length ≤ 16) :
    Calls Try.prog 25 #[s, t] w fun e w' => e = .returned (.int .i64 (chkE (heapB ws rs))) ∧ Below w.heap.size w w' := by
  have HS := hide hs
  have HT := hide ht
  have HP := hide (cplaces_any s ws w hs hU hl)
  have HPT := hide (fun g w' (h : MkAt w' g ws.length (obs ws 1)) (hb : Below w.heap.size w w') => chasptrs_any g s ws w' h (hs.below hb) hU hl)
  have HAL := hide (fun g w' (h : MkAt w' g ws.length (obs ws 1)) (hb : Below w.heap.size w w') => chasall_any g ws.length (obs ws 1) t rs w' h (ht.below hb) hr)
  obtain ⟨a, cap, rfl, g1, g2, g3⟩ := hs.shape
  obtain ⟨a', cap', rfl, k1, k2, k3⟩ := ht.shape
  rw [List.length_map] at *
  have q1 : (1 : Int) ≤ (ws.length : Int) := by omega
  have q2 : (ws.length : Int) ≤ 1048576 := by omega
  have q4 : (rs.length : Int) ≤ 16 := by omega
  obtain ⟨b, off, c', e0, j1, j2, hcl⟩ := hs.open (by intro e; have := congrArg List.length e; simp at this; rw [this] at h1; simp at h1)
  simp only [Value.slice.injEq] at e0
  obtain ⟨rfl, j3, rfl⟩ := e0
  clear j1 j2 j3
  have hc := hcl 0 _ (by rw [List.getElem?_map, wd_get h1]; rfl)
  rw [Nat.add_zero, h3] at hc
  have hh : heapB ws rs = (decide (endO (obs ws 1) = ws.length) && okPs ws (obs ws 1) && rs.all (isPl ws.length (obs ws 1))) := rfl
  obtain ⟨E, hE⟩ : ∃ E, E = chkE (heapB ws rs) := ⟨_, rfl⟩
  rw [← hE]
  have HE := hide hE
  have HH := hide hh
  have HA := hide (show ∃ x, x = decide (endO (obs ws 1) = ws.length) ∧ ∃ y, y = okPs ws (obs ws 1) ∧ ∃ z, z = rs.all (isPl ws.length (obs ws 1)) from ⟨_, rfl, _, rfl, _, rfl⟩)
  clear hE hh h1 h2 h3 h4 hs ht hcl hl hr hU g1 g2 g3 k1 k2 k3
  go_enter Try.func25, Try.ntmps25
  go_wp2_with fail
  refine Calls.mono (unhide HP) ?_
  rintro e w1 ⟨g, rfl, hg, hmk, b1⟩
  have HMK := hide (show MkAt w1 g ws.length (obs ws 1) from hmk)
  have HB1 := hide b1
  have d1 : decide ((ws.length : Int) < 1) = false := by simp; omega
  have d2 : decide ((1048576 : Int) < (ws.length : Int)) = false := by simp; omega
  have d3 : decide ((16 : Int) < (rs.length : Int)) = false := by simp; omega
  simp only [d1, d2, d3, Bool.or_false]
  have HPT2 := hide (unhide HPT g w1 (unhide HMK) b1)
  have HAL2 := hide (fun w2 (hb : Below w1.heap.size w1 w2) => unhide HAL g w2 ((unhide HMK).below hb) (b1.trans (hb.mono b1.size)))
  obtain ⟨x, hx, y, hy, z, hz⟩ := unhide HA
  rw [← hx, ← hy, ← hz] at HH
  rw [← hx]
  rw [← hy] at HPT2
  rw [← hz] at HAL2
  clear hx hy hz HA hmk b1 d1 d2 d3 HPT HAL
  cases x with
  | false =>
    rw [Bool.false_and, Bool.false_and] at HH
    go_wp2_with fail
    go_ret
    exact ⟨by rw [unhide HE, unhide HH]; rfl, unhide HB1⟩
  | true =>
    rw [Bool.true_and] at HH
    cases y with
    | false =>
      rw [Bool.false_and] at HH
      go_wp2_with fail
      refine Calls.mono (unhide HPT2) ?_
      rintro e w2 ⟨rfl, b2⟩
      have HB2 := hide ((unhide HB1).trans (b2.mono (unhide HB1).size))
      clear b2
      go_wp2_with fail
      go_ret
      exact ⟨by rw [unhide HE, unhide HH]; rfl, unhide HB2⟩
    | true =>
      rw [Bool.true_and] at HH
      go_wp2_with fail
      refine Calls.mono (unhide HPT2) ?_
      rintro e w2 ⟨rfl, b2⟩
      have HB2 := hide ((unhide HB1).trans (b2.mono (unhide HB1).size))
      have HAL3 := hide (unhide HAL2 w2 b2)
      clear b2 HAL2
      go_wp2_with fail
      refine Calls.mono (unhide HAL3) ?_
      rintro e w3 ⟨rfl, rfl⟩
      cases z with
      | false =>
        go_wp2_with fail
        go_ret
        exact ⟨by rw [unhide HE, unhide HH]; rfl, unhide HB2⟩
      | true =>
        go_wp2_with fail
        go_ret
        exact ⟨by rw [unhide HE, unhide HH]; rfl, unhide HB2⟩

theorem ccheck_any (s t : Value) (ws rs : List Int) (w : World) (hs : VRow w s (Uw ws)) (ht : VRow w t (Iw rs)) (hU : U32 ws) (hl : ws.length < 70368744177664) (hr : rs.length < 35184372088832) :
    Calls Try.prog 25 #[s, t] w fun e w' => e = .returned (.int .i64 (chkE (rightB ws rs))) ∧ Below w.heap.size w w' := by
  by_cases h : 1 ≤ ws.length ∧ ws.length ≤ 1048576 ∧ wd ws 0 = 0 ∧ rs.length ≤ 16
  · obtain ⟨h1, h2, h3, h4⟩ := h
    rw [show rightB ws rs = heapB ws rs by simp [rightB, h1, h2, h3, h4]]
    exact ccheck_yes s t ws rs w hs ht hU hl hr h1 h2 h3 h4
  · have hb : rightB ws rs = false := by
      cases hc : rightB ws rs with
      | false => rfl
      | true =>
        exfalso
        simp only [rightB, Bool.and_eq_true, decide_eq_true_eq] at hc
        exact h ⟨hc.1.1.1.1, hc.1.1.1.2, hc.1.1.2, hc.1.2⟩
    rw [hb]
    refine (ccheck_no s t ws rs w hs ht h).mono ?_
    rintro e w' ⟨rfl, rfl⟩
    exact ⟨rfl, Below.refl _ _⟩

end Go.Proofs.Ytegefnchkgkmgaa

/- What Live answers, as plain data; rows that are made in place. Nothing here speaks of package mark. -/
namespace Go.Proofs.Ytegefnchkgkmgaa
open Go.RowKit Go.Maps

/-- What Live answers. -/
def LivD (ws rs l : List Int) : Prop := (rightB ws rs = true → LiveIs ws rs l) ∧ (rightB ws rs = false → l = [])
theorem LivD.unique {ws rs l m : List Int} (h : LivD ws rs l) (h2 : LivD ws rs m) : l = m := by
  cases hb : rightB ws rs with
  | false => rw [h.2 hb, h2.2 hb]
  | true => exact (h.1 hb).unique (h2.1 hb)

/-- A new row of numbers. -/
theorem vrow_new (w : World) (l : List Int) (t : TypeId) (hl : l.length ≤ 16) : VRow (w.alloc (.cells (Iw l).toArray t)) (.slice (some ⟨w.heap.size, 0, none⟩) l.length l.length) (Iw l) :=
  ⟨_, l.length, by simp, by simp, by unfold maxLen; omega, by simp, Or.inr ⟨w.heap.size, 0, rfl, fun j v hv => by
    rw [Nat.zero_add, cell_of_row _ w.heap.size j _ _ (0, 0) (World.alloc_heap_new w _)]
    simpa using hv⟩⟩
end Go.Proofs.Ytegefnchkgkmgaa

/- What Compact answers, as plain data and in memory; nothing here speaks of a function. -/
namespace Go.Proofs.Ytegefnchkgkmgaa
open Go.RowKit

/-- The cells of a list of places that went. -/
def posC (L : List (Int × Int)) : List Value := L.flatMap fun x => [.int .i64 x.1, .int .i64 x.2]
theorem posC_snoc (L : List (Int × Int)) (x : Int × Int) : posC (L ++ [x]) = posC L ++ [.int .i64 x.1, .int .i64 x.2] := by simp [posC]
theorem posC_len (L : List (Int × Int)) : (posC L).length = L.length * 2 := by
  induction L with
  | nil => rfl
  | cons x L ih => simp only [posC, List.flatMap_cons, List.length_append, List.length_cons, List.length_nil] at *; omega
def outW (ws rs l : List Int) : List Int := if rightB ws rs = true then cW ws l else []
def outR (ws rs l : List Int) : List Int := if rightB ws rs = true then cR ws l rs else []
def outP (ws rs l : List Int) : List (Int × Int) := if rightB ws rs = true then posL ws l else []
/-- What Compact answers, in memory. -/
def CmpD (w : World) (base : Nat) (ws rs l : List Int) (vo vr vp : Value) : Prop :=
  w.ownsRow base 25 1 vo (outW ws rs l).length (Uw (outW ws rs l)) ∧ w.ownsRow base 3 1 vr (outR ws rs l).length (Iw (outR ws rs l)) ∧ w.ownsRow base 36 2 vp (outP ws rs l).length (posC (outP ws rs l))

end Go.Proofs.Ytegefnchkgkmgaa

/- What is asked of package thread, and the statements' own awake. -/
namespace Go.Proofs.Ytegefnchkgkmgaa
open Go.RowKit

/-- What is asked of thread.Compact. -/
def AskC : Prop := ∀ (s t : Value) (ws rs : List Int) (w : World), VRow w s (Uw ws) → VRow w t (Iw rs) → U32 ws → ws.length < 70368744177664 → rs.length < 35184372088832 →
  Calls Try.prog 11 #[s, t] w fun e w' => ∃ vo vr vp l, e = .returned (.tuple #[vo, vr, vp, .int .i64 (chkE (rightB ws rs))]) ∧ LivD ws rs l ∧ CmpD w' w.heap.size ws rs l vo vr vp ∧ Below w.heap.size w w'
theorem awake15_rch (a : Int) : Rch [0, 8193, 7, 4099] [3] a ↔ a = 3 := by
  constructor
  · intro h
    refine h (fun x => x = 3) (fun r hr _ => List.mem_singleton.1 hr) (fun b hb p hp _ => ?_)
    subst hb
    have : ptsA [0, 8193, 7, 4099] 3 = [] := by decide
    rw [this] at hp
    cases hp
  · rintro rfl
    exact .root (by simp) (by decide)
theorem awake15_live : LiveIs [0, 8193, 7, 4099] [3] [3] := ⟨List.pairwise_singleton _ _, fun a => by rw [awake15_rch]; simp⟩
theorem awake15_right : rightB [0, 8193, 7, 4099] [3] = true := by decide +kernel
theorem awake15_out : outW [0, 8193, 7, 4099] [3] [3] = [0, 4099] ∧ outR [0, 8193, 7, 4099] [3] [3] = [1] ∧ outP [0, 8193, 7, 4099] [3] [3] = [(3, 1)] := by
  unfold outW outR outP
  rw [awake15_right]
  refine ⟨?_, ?_, ?_⟩ <;> decide +kernel

set_option maxRecDepth 20000 in
set_option maxHeartbeats 2000000 in
theorem lawake15_any (hA : AskC) (w : World) : Calls Try.prog 13 #[] w fun e w' => e = .returned (.bool true) ∧ Below w.heap.size w w' := by
  have hh : ∀ w, Calls Try.prog 40 #[.int .i64 1, .int .i64 0, .int .i64 3] w fun e w' => e = .returned (.tuple #[.int .u32 4099, .int .i64 0]) ∧ w' = w := fun w => chead_t 1 0 3 w (by omega) (by omega) (by omega) (by omega) (by omega) (by omega)
  have hg : ∀ w, Calls Try.prog 40 #[.int .i64 2, .int .i64 0, .int .i64 1] w fun e w' => e = .returned (.tuple #[.int .u32 8193, .int .i64 0]) ∧ w' = w := fun w => chead_t 2 0 1 w (by omega) (by omega) (by omega) (by omega) (by omega) (by omega)
  obtain ⟨wa, hwa⟩ : ∃ wa, wa = w.alloc (.cells #[.int .u32 0, .int .u32 8193, .int .u32 7, .int .u32 4099] 25) := ⟨_, rfl⟩
  have hr1 : VRow wa (.slice (some ⟨w.heap.size, 0, none⟩) 4 4) (Uw [0, 8193, 7, 4099]) := ⟨_, 4, rfl, Nat.le_refl _, by unfold maxLen; omega, by simp, Or.inr ⟨w.heap.size, 0, rfl, fun j v hv => by
    rw [hwa]
    match j, hv with
    | 0, hv => simp [Uw] at hv; subst hv; simp
    | 1, hv => simp [Uw] at hv; subst hv; simp
    | 2, hv => simp [Uw] at hv; subst hv; simp
    | 3, hv => simp [Uw] at hv; subst hv; simp⟩⟩
  have hr2 := vrow_new wa [3] 3 (by simp)
  have hb1 : Below w.heap.size w wa := by rw [hwa]; exact (Below.refl _ w).alloc (Nat.le_refl _) _
  have hb2 := hb1.alloc hb1.size (.cells #[.int .i64 3] 3)
  have hz1 : wa.heap.size = w.heap.size + 1 := by rw [hwa]; simp
  rw [hz1] at hr2
  have hb3 : Below wa.heap.size wa (wa.alloc (.cells #[.int .i64 3] 3)) := (Below.refl _ wa).alloc (Nat.le_refl _) _
  have hC := hA (.slice (some ⟨w.heap.size, 0, none⟩) 4 4) (.slice (some ⟨w.heap.size + 1, 0, none⟩) 1 1) [0, 8193, 7, 4099] [3] (wa.alloc (.cells #[.int .i64 3] 3)) (hr1.below hb3) hr2 (by
    intro x hx
    simp only [List.mem_cons, List.not_mem_nil, or_false] at hx
    rcases hx with rfl | rfl | rfl | rfl <;> omega) (by decide) (by decide)
  rw [awake15_right, show chkE true = 0 from rfl] at hC
  rw [hwa] at hC hb2
  have HC := hide hC
  have HB := hide hb2
  have HH := hide hh
  have HG := hide hg
  clear hb1 hb2 hr1 hr2 hh hg hC hz1 hb3 hwa
  go_enter Try.func13, Try.ntmps13
  go_wp2_with fail
  refine Calls.mono (unhide HH w) ?_
  rintro e w1 ⟨rfl, rfl⟩
  go_wp2_with fail
  refine Calls.mono (unhide HG w1) ?_
  rintro e w2 ⟨rfl, rfl⟩
  go_wp2_with fail
  refine Calls.mono (unhide HC) ?_
  rintro e w3 ⟨vo, vr, vp, l, rfl, hli, ⟨ho, hr, hp⟩, b2⟩
  have hl : l = [3] := (hli.1 awake15_right).unique awake15_live
  subst hl
  rw [awake15_out.1] at ho
  rw [awake15_out.2.1] at hr
  rw [awake15_out.2.2] at hp
  have HB2 := hide ((unhide HB).trans (b2.mono (unhide HB).size))
  obtain ⟨po, co, rfl⟩ := ownsV_shape ho
  obtain ⟨pr, cr, rfl⟩ := ownsV_shape hr
  obtain ⟨pp, cp, rfl⟩ := ownsV_shape hp
  have hvr := vrow_of_owns (vs := Iw [1]) (s := .slice pr 1 cr) hr
  obtain ⟨bo, of1, cx, e0, _, _, hcl⟩ := hvr.open (by simp)
  simp only [Value.slice.injEq, List.length_map] at e0
  obtain ⟨rfl, e1, rfl⟩ := e0
  have hc0 := hcl 0 (.int .i64 1) (by simp)
  simp only [Nat.add_zero] at hc0
  clear hli ho hr hp b2 e1 hcl hvr
  go_wp2_with fail
  go_ret
  exact ⟨rfl, unhide HB2⟩
end Go.Proofs.Ytegefnchkgkmgaa

/- The landed package cells: object. -/
namespace Go.Proofs.Ytegefnchkgkmgaa
open Go.RowKit

theorem Try.infoI64 : (Try.prog.info? 3).map (fun i => (i.zero, i.size, i.bytes)) = some (some (.int .i64 0), 1, 8) := by kernel_rfl
theorem Uw_len2 (ws : List Int) : (Uw ws).length = ws.length := List.length_map _
theorem three_cells {w : World} {g e : Nat} {a b c : Value} (h : w.heap[g]? = some (.cells #[a, b, c] e (0, 0))) : w.cell? ⟨g, 0, none⟩ = some a ∧ w.cell? ⟨g, 1, none⟩ = some b ∧ w.cell? ⟨g, 2, none⟩ = some c ∧ ∀ j, w.frozen? ⟨g, j, none⟩ = false := by
  refine ⟨?_, ?_, ?_, fun j => frozen_of_block h⟩
  all_goals (rw [cell_of_row w g _ _ e (0, 0) h]; rfl)
theorem set_three {w : World} {g e : Nat} {a b c x y z : Value} (h : w.heap[g]? = some (.cells #[a, b, c] e (0, 0))) : (((w.setCell ⟨g, 0, none⟩ x).setCell ⟨g, 1, none⟩ y).setCell ⟨g, 2, none⟩ z).heap[g]? = some (.cells #[x, y, z] e (0, 0)) ∧ Keep (fun k => k = g) w (((w.setCell ⟨g, 0, none⟩ x).setCell ⟨g, 1, none⟩ y).setCell ⟨g, 2, none⟩ z) := by
  have h1 := heap_setCell_same w g 0 _ _ x h
  have h2 := heap_setCell_same _ g 1 _ _ y h1
  have h3 := heap_setCell_same _ g 2 _ _ z h2
  exact ⟨by rw [h3]; rfl, ((keep_set w g 0 x).trans (keep_set _ g 1 y) (fun _ e => Or.inl e)).trans (keep_set _ g 2 z) (fun _ e => Or.inl e)⟩
theorem ownsV_base {w : World} {b b' e sz n : Nat} {v : Value} {xs : List Value} (h : w.ownsRow b e sz v n xs) (hb : b' ≤ b) : w.ownsRow b' e sz v n xs := by
  refine ⟨h.1, ?_⟩
  rcases h.2 with h2 | ⟨g, cap, cur, rfl, hg, r⟩
  · exact Or.inl h2
  · exact Or.inr ⟨g, cap, cur, rfl, Nat.le_trans hb hg, r⟩
/-- An object (50) that is put together: the answer's variable r, its own variable r + 1, the rows of its fields. -/
structure OS (w wr : World) (kd : Int) (p d : Value) (ps ds : List Int) : Prop where
  res : wr.heap[w.heap.size]? = some (.cells #[.int .i64 0, .slice none 0 0, .slice none 0 0] 50 (0, 0))
  var : wr.heap[w.heap.size + 1]? = some (.cells #[.int .i64 kd, p, d] 50 (0, 0))
  rowp : wr.ownsRow (w.heap.size + 2) 3 1 p ps.length (Iw ps)
  rowd : wr.ownsRow (w.heap.size + 2) 25 1 d ds.length (Uw ds)
  bel : Below w.heap.size w wr
theorem OS.cells {w wr : World} {kd : Int} {p d : Value} {ps ds : List Int} (h : OS w wr kd p d ps ds) : wr.cell? ⟨w.heap.size + 1, 0, none⟩ = some (.int .i64 kd) ∧ wr.cell? ⟨w.heap.size + 1, 1, none⟩ = some p ∧ wr.cell? ⟨w.heap.size + 1, 2, none⟩ = some d ∧ ∀ j, wr.frozen? ⟨w.heap.size + 1, j, none⟩ = false := by
  refine ⟨?_, ?_, ?_, fun j => frozen_of_block h.var⟩
  all_goals (rw [cell_of_row wr _ _ _ _ (0, 0) h.var]; rfl)
theorem OS.below {w wr wx : World} {kd : Int} {p d : Value} {ps ds : List Int} (h : OS w wr kd p d ps ds) (hb : Below wr.heap.size wr wx) : OS w wx kd p d ps ds :=
  ⟨(hb.block _ (Array.getElem?_eq_some_iff.1 h.res).1).trans h.res, (hb.block _ (Array.getElem?_eq_some_iff.1 h.var).1).trans h.var, ownsV_keep (F := fun _ => False) h.rowp (Keep.of_below hb) (fun _ _ => id), ownsV_keep (F := fun _ => False) h.rowd (Keep.of_below hb) (fun _ _ => id), h.bel.trans (hb.mono h.bel.size)⟩
/-- A new row in a field. -/
theorem OS.set {w wr wx : World} {kd : Int} {p d : Value} {ps ds : List Int} (h : OS w wr kd p d ps ds) {v v2 : Value} (hg : wr.grownBy wx v.ownBlock) (hv : ∀ k, v.ownBlock = some k → w.heap.size + 2 ≤ k) (j : Nat) :
    Keep (fun k => v.ownBlock = some k ∨ k = w.heap.size + 1) wr (wx.setCell ⟨w.heap.size + 1, j, none⟩ v2) ∧ (wx.setCell ⟨w.heap.size + 1, j, none⟩ v2).heap[w.heap.size + 1]? = some (.cells (#[.int .i64 kd, p, d].setIfInBounds j v2) 50 (0, 0)) ∧ wx.heap[w.heap.size + 1]? = some (.cells #[.int .i64 kd, p, d] 50 (0, 0)) ∧ wx.heap[w.heap.size]? = some (.cells #[.int .i64 0, .slice none 0 0, .slice none 0 0] 50 (0, 0)) := by
  have l1 := (Array.getElem?_eq_some_iff.1 h.var).1
  have hb := (hg.block (w.heap.size + 1) l1 (fun e => by have := hv _ e.symm; omega))
  have hb2 := hb.trans h.var
  have K1 : Keep (fun k => v.ownBlock = some k) wr wx := ⟨hg.os, hg.tape, hg.output, hg.size, fun k hk hn => hg.block k hk (fun e => hn e.symm)⟩
  exact ⟨(K1.weak (fun _ h => Or.inl h)).trans (keep_set wx (w.heap.size + 1) j v2) (fun k e => Or.inl (Or.inr e)), heap_setCell_same wx _ j _ _ v2 hb2, hb2, (hg.block w.heap.size (Array.getElem?_eq_some_iff.1 h.res).1 (fun e => by have := hv _ e.symm; omega)).trans h.res⟩

set_option maxRecDepth 20000 in
set_option maxHeartbeats 2000000 in
theorem cobject_any (h : Int) (s : Value) (xs : List Int) (w : World) (u0 : 0 ≤ h) (u1 : h < 4294967296) (hs : VRow w s (Uw xs)) (hx : xs.length < 1048576) (hp : ptN h ≤ xs.length) (hU : U32 xs) :
    Calls Try.prog 56 #[.int .u32 h, s] w fun e w' => ∃ p d, e = .returned (.agg #[.int .i64 (h % 16), p, d]) ∧ w'.ownsRow w.heap.size 3 1 p (ptN h) (Iw (xs.take (ptN h))) ∧ w'.ownsRow w.heap.size 25 1 d (xs.length - ptN h) (Uw (xs.drop (ptN h))) ∧ Below w.heap.size w w' := by
  obtain ⟨a, cap, rfl, g1, g2, g3⟩ := hs.shape
  rw [List.length_map] at *
  clear g1 g2 g3
  obtain ⟨i0, hi, hz0, hz1, hz2⟩ := info_parts Try.infoI64
  obtain ⟨i4, hi4, hy0, hy1, hy2⟩ := info_parts Try.infoU32
  have hmx : Try.prog.follows .mixedOrders = true := by kernel_rfl
  obtain ⟨N, hN⟩ : ∃ N, N = ptN h := ⟨_, rfl⟩
  have hNI : h / 16 % 256 = (N : Int) := by rw [hN]; exact (ptN_int h).symm
  have hN2 : N < 256 := by rw [hN]; exact ptN_lt h
  rw [← hN] at hp ⊢
  have HPT := hide (fun w => cptrs_t h w u0 u1)
  have HKD := hide (fun w => ckind_t h w u0 u1)
  rw [hNI] at HPT
  have HP := hide hp
  have HX := hide hx
  have HN2 := hide hN2
  obtain ⟨q1, c1, hcut1, hrow1, _⟩ := hs.cut_h Try.underlying22 Try.sizeU32 N (by rw [List.length_map]; exact hp)
  obtain ⟨q2, c2, hcut2, hrow2, _⟩ := hs.cut_l Try.underlying22 Try.sizeU32 N (xs.length - N) (by rw [List.length_map]; omega)
  obtain ⟨m, hm⟩ : ∃ m, m = xs.length - N := ⟨_, rfl⟩
  rw [← hm] at hcut2 hrow2 ⊢
  have HR1 := hide (show VRow w (.slice q1 N c1) (Uw (xs.take N)) by rw [Uw, List.map_take]; exact hrow1)
  have HR2 := hide (show VRow w (.slice q2 m c2) (Uw (xs.drop N)) by rw [Uw, List.map_drop]; exact hrow2)
  have HM := hide hm
  have HU := hide hU
  have HT := hide (show (xs.take N).length = N by rw [List.length_take]; omega)
  have hbI : Below w.heap.size w ((w.alloc (.cells #[.int .i64 0, .slice none 0 0, .slice none 0 0] 50)).alloc (.cells #[.int .i64 (h % 16), .slice none 0 0, .slice none 0 0] 50)) := ((Below.refl _ w).alloc (Nat.le_refl _) _).alloc (by simp) _
  have HST : Hid (OS w ((w.alloc (.cells #[.int .i64 0, .slice none 0 0, .slice none 0 0] 50)).alloc (.cells #[.int .i64 (h % 16), .slice none 0 0, .slice none 0 0] 50)) (h % 16) (.slice none 0 0) (.slice none 0 0) [] []) := by
    refine ⟨?_, ?_, World.ownsRow_nil _ _ _ _, World.ownsRow_nil _ _ _ _, hbI⟩
    · exact (Below.heap_alloc _ _ _ (by simp)).trans (World.alloc_heap_new w _)
    · have := World.alloc_heap_new (w.alloc (.cells #[.int .i64 0, .slice none 0 0, .slice none 0 0] 50)) (.cells #[.int .i64 (h % 16), .slice none 0 0, .slice none 0 0] 50)
      rwa [World.size_alloc] at this
  clear hN hNI hN2 hp hx hs hrow1 hrow2 hU hm hbI
  go_enter Try.func56, Try.ntmps56
  go_wp2_with fail
  refine Calls.mono (unhide HKD _) ?_
  rintro e w1 ⟨rfl, rfl⟩
  go_wp2_with fail
  refine Calls.mono (unhide HPT _) ?_
  rintro e w1 ⟨rfl, rfl⟩
  go_wp2_with fail
  go_loopw [16] (fun i wr => ∃ (k : Nat) (p : Value), k ≤ N ∧ i = .int .i64 (k : Int) ∧ OS w wr (h % 16) p (.slice none 0 0) (xs.take k) []) (fun i _ => N - (intOf i).toNat)
  case atStart => exact ⟨0, .slice none 0 0, Nat.zero_le _, rfl, by rw [List.take_zero]; exact unhide HST⟩
  case round =>
    clear HST
    obtain ⟨k, p, hk, rfl, hos⟩ := hrel
    obtain ⟨a0, a1, a2, af⟩ := hos.cells
    have hlk : (xs.take k).length = k := by rw [List.length_take]; have := unhide HP; omega
    by_cases hlt : k < N
    · have hkI : (k : Int) < (N : Int) := by omega
      have hkx : k < xs.length := by have := unhide HP; omega
      obtain ⟨b, off, cz, e0, g1, g2, hcl⟩ := ((unhide HR1).below hos.bel).open (by intro e; have := congrArg List.length e; rw [Uw_len2, unhide HT] at this; simp at this; omega)
      simp only [Value.slice.injEq] at e0
      obtain ⟨rfl, g3, rfl⟩ := e0
      have hc := hcl k (.int .u32 xs[k]) (by rw [List.getElem?_map, List.getElem?_take_of_lt hlt, List.getElem?_eq_getElem hkx]; rfl)
      obtain ⟨v0, v1⟩ := unhide HU xs[k] (List.getElem_mem hkx)
      have HTK := hide (show xs.take (k + 1) = xs.take k ++ [xs[k]] from List.take_succ_eq_append_getElem hkx)
      obtain ⟨pv, cv, rfl⟩ := ownsV_shape hos.rowp
      rw [hlk] at a1 hos
      generalize xs[k] = x at *
      have hbW : Below wr.heap.size wr (wr.alloc (.cells #[.int .i64 x] 3)) := (Below.refl _ _).alloc (Nat.le_refl _) _
      have HO := hide (hos.below hbW)
      have HOW := hide (show (wr.alloc (.cells #[.int .i64 x] 3)).ownsRow (w.heap.size + 2) 3 1 (.slice pv k cv) k (Iw (xs.take k)) by have := (hos.below hbW).rowp; rw [hlk] at this; exact this)
      have HBS := hide (show w.heap.size + 2 ≤ wr.heap.size from (Array.getElem?_eq_some_iff.1 hos.var).1)
      have hxw : IntKind.i64.wrap x = x := by rw [IntKind.wrap_i64]; omega
      have hnw : IntKind.i64.wrap ((k : Int) + 1) = (k : Int) + 1 := by have := unhide HN2; rw [IntKind.wrap_i64]; omega
      have HLT := hide hlt
      have f1 := af 1
      have HLK := hide hlk
      clear g1 g2 g3 hcl hos hbW hk hlt hkx hlk a0 a2 af
      go_wp2_with (first
        | (at_builtin; refine wpList_append_gen rfl (.tmp 21) (.tmp 24) 23 rfl (w.heap.size + 2) 3 i0 (.int .i64 0) Try.underlying23 hi hz0 1 8 (by omega) hz1 hz2 rfl (.slice pv k cv) k (Iw (xs.take k)) rfl (unhide HOW) ⟨wr.heap.size, 0, none⟩ 1 1 [.int .i64 x] rfl rfl (by intro j u hj; match j, hj with | 0, hj => (simp at hj; subst hj; simp [Addr.add])) (by intro u hu; simp at hu; subst hu; rfl) (by have := unhide HN2; have := unhide HLT; unfold maxLen; omega) (by have := unhide HN2; have := unhide HLT; omega) (by rw [World.size_alloc]; have := unhide HBS; omega) ?_))
      intro v2 w2 hown2 hgrow2 hob2
      have hv0 : ∀ k', (Value.slice pv k cv).ownBlock = some k' → w.heap.size + 2 ≤ k' := fun k' e => ((unhide HOW).lt k' e).1
      obtain ⟨K1, g1, e1, er⟩ := (unhide HO).set (v2 := v2) hgrow2 hv0 1
      obtain ⟨_, y1, _, ef'⟩ := three_cells e1
      have ef := ef' 1
      obtain ⟨p2, c2, rfl⟩ := ownsV_shape hown2
      have hov : ∀ k', (Value.slice p2 (k + 1) c2).ownBlock = some k' → w.heap.size + 2 ≤ k' := fun k' e => (hown2.lt k' e).1
      have HJ : Hid (OS w (w2.setCell ⟨w.heap.size + 1, 1, none⟩ (.slice p2 (k + 1) c2)) (h % 16) (.slice p2 (k + 1) c2) (.slice none 0 0) (xs.take (k + 1)) []) := by
        have ho := unhide HO
        refine ⟨(K1.block _ (Array.getElem?_eq_some_iff.1 ho.res).1 (fun hk => ?_)).trans ho.res, g1, ?_, World.ownsRow_nil _ _ _ _, ?_⟩
        · rcases hk with hk | hk
          · have := hv0 _ hk; omega
          · omega
        · have hl : (xs.take (k + 1)).length = k + 1 := by rw [unhide HTK, List.length_append, unhide HLK]; rfl
          rw [hl, unhide HTK, Iw, List.map_append]
          rw [← List.map_take] at hown2
          exact ownsV_keep hown2 (keep_set w2 (w.heap.size + 1) 1 _) (fun k' hk' e => by have := hov k' hk'; omega)
        · refine ho.bel.trans (K1.below ho.bel.size (fun k' hk' => ?_))
          rcases hk' with hk' | hk'
          · have := hv0 _ hk'; omega
          · omega
      clear hown2 hgrow2 hob2 K1 g1 e1 er hv0 hov ef'
      go_wp2_with fail
      go_roundw
      case rel => exact ⟨k + 1, _, unhide HLT, by go_num, unhide HJ⟩
      case measure => (have := unhide HLT; simp [intOf]; omega)
    · have hke : k = N := by omega
      subst hke
      clear hk hlt
      obtain ⟨pv, cv, rfl⟩ := ownsV_shape hos.rowp
      rw [hlk] at a1 hos
      have HOS := hide hos
      have HLK := hide hlk
      have f2 := af 2
      have hd1 : Below wr.heap.size wr wr.drew := (Below.refl _ wr).drew
      have HOD := hide (hos.below hd1)
      have HR2' := hide (((unhide HR2).below hos.bel).below hd1)
      have HBS := hide (show w.heap.size + 2 ≤ wr.drew.heap.size from (Array.getElem?_eq_some_iff.1 (hos.below hd1).var).1)
      have hone : ∀ u ∈ Uw (xs.drop k), u.oneCell' = true := by
        intro u hu
        obtain ⟨_, _, rfl⟩ := List.mem_map.1 hu
        rfl
      have HON := hide hone
      clear hos hlk af hd1 hone
      go_wp2_with fail
      go_region_law (first
        | (go_simp; go_at_call 58; refine Calls.mono (unhide HPT _) ?_; rintro x w5 ⟨rfl, rfl⟩; dsimp only)
        | (refine step_append_vrow rfl _ _ 22 rfl (w.heap.size + 2) 25 i4 (.int .u32 0) Try.underlying22 hi4 hy0 4 hy1 hy2 rfl (.slice none 0 0) 0 [] (by first | rfl | simp [Act.eval, Act.put]) (World.ownsRow_nil _ _ _ _) q2 m c2 (Uw (xs.drop k)) (by first | rfl | simp [Act.eval, Act.put]) (unhide HR2') (unhide HON) (by have := unhide HX; have := unhide HM; unfold maxLen; omega) (by have := unhide HX; have := unhide HM; omega) (unhide HBS) ?_; intro v2 w6 hown6 hgrow6 hob6; obtain ⟨K1, g1, e1, er⟩ := (unhide HOD).set (v2 := v2) hgrow6 (by simp [Value.ownBlock]) 2; obtain ⟨z0, z1, z2, zf⟩ := three_cells e1; have zf2 := zf 2; obtain ⟨x0, x1, x2, xf⟩ := three_cells er; have xf0 := xf 0; have xf1 := xf 1; have xf2 := xf 2; obtain ⟨p2, c3, rfl⟩ := ownsV_shape hown6; have HJ := hide (And.intro K1 (And.intro g1 (And.intro hown6 er))); clear hown6 hgrow6 K1 g1 e1 er hob6 zf xf))
      all_goals go_wp2_with fail
      all_goals
        obtain ⟨K1, g1, hown6, er⟩ := unhide HJ
        have hod := unhide HOD
        have er2 := (keep_set w6 (w.heap.size + 1) 2 (.slice p2 m c3)).block w.heap.size (Array.getElem?_eq_some_iff.1 er).1 (by omega) |>.trans er
        obtain ⟨s3, K3⟩ := set_three (x := .int .i64 (h % 16)) (y := .slice pv k cv) (z := .slice p2 m c3) er2
        obtain ⟨t0, t1, t2, _⟩ := three_cells s3
        rw [Nat.zero_add] at K1 g1 hown6
        have K0 : Keep (fun k' => k' = w.heap.size ∨ k' = w.heap.size + 1) wr.drew (w6.setCell ⟨w.heap.size + 1, 2, none⟩ (.slice p2 m c3)) := K1.weak (fun k' e => by
          rcases e with e | e
          · simp [Value.ownBlock] at e
          · exact Or.inr e)
        have K4 := K0.trans K3 (fun k' e => Or.inl (Or.inl e))
        have hs2 := hod.bel.size
        refine bodyPost_ret (v := .agg #[.int .i64 (h % 16), .slice pv k cv, .slice p2 m c3]) (by simp [results, Try.results56, go_sem, t0, t1, t2]) rfl ⟨_, _, rfl, ?_, ?_, ?_⟩
        · have hr := hod.rowp
          rw [unhide HLK] at hr
          exact ownsV_base (ownsV_keep hr K4 (fun k' hk' e => by have := (hr.lt k' hk').1; omega)) (by omega)
        · refine ownsV_base (ownsV_keep (ownsV_keep hown6 (keep_set w6 (w.heap.size + 1) 2 (.slice p2 m c3)) (fun k' hk' e => by have := (hown6.lt k' hk').1; omega)) K3 (fun k' hk' e => by have := (hown6.lt k' hk').1; omega)) (by omega)
        · exact hod.bel.trans (K4.below hs2 (fun k' e => by omega))
end Go.Proofs.Ytegefnchkgkmgaa

/- The landed package mark: what a walk keeps in memory; pointers, next, meet. -/
namespace Go.Proofs.Ytegefnchkgkmgaa
open Go.RowKit

theorem ownsV_take {w : World} {base e n c k : Nat} {p : Option Addr} {xs : List Value} (h : w.ownsRow base e 1 (.slice p n c) n xs) (hk : k ≤ n) : w.ownsRow base e 1 (.slice p k c) k (xs.take k) := by
  obtain ⟨h1, h2⟩ := h
  refine ⟨by rw [List.length_take]; omega, ?_⟩
  rcases h2 with ⟨e1, e2⟩ | ⟨g, cap, cur, e1, a1, a2, a3, a4, a5, a6⟩
  · simp only [Value.slice.injEq] at e1
    obtain ⟨rfl, _, rfl⟩ := e1
    exact Or.inl ⟨by rw [show k = 0 by omega], by omega⟩
  · simp only [Value.slice.injEq] at e1
    obtain ⟨rfl, _, rfl⟩ := e1
    refine Or.inr ⟨g, c, cur, rfl, a1, a2, by omega, a4, a5, ?_⟩
    rw [← a6, List.take_take]
    congr 1
    omega

/-- The sizes of what was met, by places. -/
def szM (ws S : List Int) (x : Int) : Option Value := if x ∈ S then some (.int .i64 (wd ws x.toNat / 4096)) else none
/-- A walk in memory: words v, the map b of what was met (S), the row of what is open (O). -/
structure WAt (w : World) (base g : Nat) (v : Value) (ws : List Int) (b : Nat) (ov : Value) (S O : List Int) : Prop where
  blk : w.heap[g]? = some (.cells #[v, .map (some b), ov] 103 (0, 0))
  map : MapIs Try.prog 3 w b S.length (szM ws S)
  own : w.ownsRow base 3 1 ov O.length (Iw O)
  gb : base ≤ g
  bb : base ≤ b
  og : ov.ownBlock ≠ some g
theorem WAt.isMap {w : World} {base g b : Nat} {v ov : Value} {ws S O : List Int} (h : WAt w base g v ws b ov S O) : ∃ es c, w.heap[b]? = some (.map es c) := by
  obtain ⟨D, ⟨es, clock, h1, h2⟩, h3⟩ := h.map
  exact ⟨es, clock, h1⟩
theorem WAt.gm {w : World} {base g b : Nat} {v ov : Value} {ws S O : List Int} (h : WAt w base g v ws b ov S O) : g ≠ b := fun e => by
  obtain ⟨es, c, h1⟩ := h.isMap
  rw [← e, h.blk] at h1
  cases h1
theorem WAt.om {w : World} {base g b : Nat} {v ov : Value} {ws S O : List Int} (h : WAt w base g v ws b ov S O) : ov.ownBlock ≠ some b := fun e => by
  obtain ⟨es, c, h1⟩ := h.isMap
  rcases h.own.2 with ⟨h2, _⟩ | ⟨g', cap, cur, h2, a1, a2, _⟩
  · rw [h2] at e; cases e
  · rw [h2] at e
    simp only [Value.ownBlock, Option.some.injEq] at e
    rw [e, h1] at a2
    cases a2
theorem WAt.drew {w : World} {base g b : Nat} {v ov : Value} {ws S O : List Int} (h : WAt w base g v ws b ov S O) : WAt w.drew base g v ws b ov S O :=
  ⟨h.blk, h.map.stays rfl, h.own, h.gb, h.bb, h.og⟩

set_option maxRecDepth 20000 in
set_option maxHeartbeats 2000000 in
theorem mpointers_any (w0 w : World) (g b : Nat) (v ov : Value) (ws S O : List Int) (a : Int) (h : WAt w w0.heap.size g v ws b ov S O) (hv : VRow w0 v (Uw ws)) (hb : Below w0.heap.size w0 w) (hU : U32 ws) (hl : ws.length ≤ 1048576) (ha : isOb ws a) :
    Calls Try.prog 66 #[.pointer (some ⟨g, 0, none⟩), .int .i64 a] w fun e w' => (∃ q c, e = .returned (.slice q (ptsA ws a).length c) ∧ VRow w0 (.slice q (ptsA ws a).length c) (Uw (ptsA ws a)) ∧ ∀ k, (Value.slice q (ptsA ws a).length c).ownBlock = some k → v.ownBlock = some k) ∧ ∃ n, w' = w.drewN n := by
  obtain ⟨s1, s2, s3, s4⟩ := isOb_size ha
  obtain ⟨p, hp⟩ : ∃ p : Nat, (p : Int) = a := ⟨_, s4⟩
  subst hp
  simp only [Int.toNat_natCast] at s1 s2 s3
  obtain ⟨c0, c1, c2, hfz⟩ := three_cells h.blk
  obtain ⟨pv, cv, rfl, g1, g2, g3⟩ := hv.shape
  rw [List.length_map] at *
  obtain ⟨q, c', HCUT, HROW, HOB⟩ := hv.cut_lh (t := 22) Try.underlying22 Try.sizeU32 (p + 1) (ptN (wd ws p)) (by rw [List.length_map]; omega)
  obtain ⟨bk, off, cz, e0, k1, k2, hcl⟩ := hv.open (by intro e; have := congrArg List.length e; simp at this; rw [this] at s3; simp at s3)
  simp only [Value.slice.injEq, List.length_map] at e0
  obtain ⟨rfl, e1, rfl⟩ := e0
  have hc0 := hcl p _ (by rw [List.getElem?_map, wd_get s3]; rfl)
  have hc := fun W (hW : Below w.heap.size w W) => ((hb.trans (hW.mono hb.size)).cell (World.block_lt_of_cell? w0 _ hc0)).trans hc0
  obtain ⟨u0, u1⟩ := hU.wd p
  have f2 := ptN_int (wd ws p)
  have HPT := hide (fun w => cptrs_t (wd ws p) w u0 u1)
  have hL := ptsA_len ha
  rw [Int.toNat_natCast] at hL
  have hcw := hc w (Below.refl _ _)
  have h1 : IntKind.i64.wrap ((p : Int) + 1) = (p : Int) + 1 := by rw [IntKind.wrap_i64]; omega
  have h2 : IntKind.i64.wrap ((p : Int) + 1 + wd ws p / 16 % 256) = (p : Int) + 1 + wd ws p / 16 % 256 := by rw [IntKind.wrap_i64]; omega
  have h3 : (p : Int) < (ws.length : Int) := by omega
  have hcut2 : ∀ W, (Instr.slice 22 (.slice (some ⟨bk, off, none⟩) ws.length cv) (some (.int .i64 ((p : Int) + 1))) (some (.int .i64 ((p : Int) + 1 + wd ws p / 16 % 256))) none).run Try.prog W = .ok (.slice q (ptN (wd ws p)) c') W := fun W => by
    have := HCUT W
    rw [← f2]
    simpa using this
  have hmx : Try.prog.follows .mixedOrders = true := by kernel_rfl
  have HE := hide (show ((Uw ws).drop (p + 1)).take (ptN (wd ws p)) = Uw (ptsA ws (p : Int)) by
    unfold ptsA ptrsO
    simp [Uw, List.map_drop, List.map_take])
  have HRW := hide HROW
  have HO := hide HOB
  have HLL := hide hL
  generalize wd ws p = x at *
  generalize hpn : ptN x = m at *
  clear HROW HOB hL HCUT e1 hcl hc hc0 hv hb h hU g1 g2 g3 k1 k2 f2 s1 s2 s3 s4 ha hl
  go_enter Try.func66, Try.ntmps66
  go_wp2_with fail
  refine wp_region_still_lit hmx (by kernel_rfl) ?_
  repeat (first | still_step | still_call (unhide HPT _))
  refine wpStill_nil ?_
  go_wp2_with fail
  go_ret
  have e1 := unhide HLL
  have e2 := unhide HRW
  rw [unhide HE] at e2
  rw [e1]
  exact ⟨⟨q, c', rfl, e2, unhide HO⟩, 1, rfl⟩

/-- The variable of a walk gets another row. -/
theorem wat_put {w : World} {base g b : Nat} {v ov ov' : Value} {ws S O' : List Int} (hblk : w.heap[g]? = some (.cells #[v, .map (some b), ov] 103 (0, 0))) (hmap : MapIs Try.prog 3 w b S.length (szM ws S)) (hgm : g ≠ b) (hgb : base ≤ g) (hbb : base ≤ b)
    (hown : w.ownsRow base 3 1 ov' O'.length (Iw O')) (hog : ov'.ownBlock ≠ some g) :
    WAt (w.setCell ⟨g, 2, none⟩ ov') base g v ws b ov' S O' ∧ Below base w (w.setCell ⟨g, 2, none⟩ ov') := by
  have hK := keep_set w g 2 ov'
  have b1 := heap_setCell_same w g 2 _ _ ov' hblk
  refine ⟨⟨by rw [b1]; rfl, hmap.stays (hK.block b hmap.lt (fun e => hgm e.symm)), ownsV_keep hown hK (fun k hk e => hog (e ▸ hk)), hgb, hbb, hog⟩, hK.os, hK.tape, hK.output, hK.size, fun k hk => ?_⟩
  exact heap_setCell_other w ⟨g, 2, none⟩ k _ (fun e => by dsimp only at e; omega)
theorem WAt.setO {w : World} {base g b : Nat} {v ov ov' : Value} {ws S O O' : List Int} (h : WAt w base g v ws b ov S O) (hown : w.ownsRow base 3 1 ov' O'.length (Iw O')) (hog : ov'.ownBlock ≠ some g) :
    WAt (w.setCell ⟨g, 2, none⟩ ov') base g v ws b ov' S O' ∧ Below base w (w.setCell ⟨g, 2, none⟩ ov') :=
  wat_put h.blk h.map h.gm h.gb h.bb hown hog
/-- One more that is open: laid aside first, then appended, and stored. -/
theorem WAt.push {w w2 : World} {base g b : Nat} {v ov ov' : Value} {ws S O : List Int} {a : Int} (h : WAt w base g v ws b ov S O) (hbw : base ≤ w.heap.size) (hown : w2.ownsRow base 3 1 ov' (O.length + 1) (Iw O ++ [.int .i64 a])) (hg : (w.alloc (.cells #[.int .i64 a] 3)).grownBy w2 ov.ownBlock)
    (hob : ov'.ownBlock = ov.ownBlock ∨ ov'.ownBlock = some (w.heap.size + 1)) :
    WAt (w2.setCell ⟨g, 2, none⟩ ov') base g v ws b ov' S (O ++ [a]) ∧ Below base w (w2.setCell ⟨g, 2, none⟩ ov') := by
  have hgl : g < w.heap.size := (Array.getElem?_eq_some_iff.1 h.blk).1
  have hbl := h.map.lt
  have hkeep : ∀ k, k < w.heap.size → ov.ownBlock ≠ some k → w2.heap[k]? = w.heap[k]? := fun k hk hn =>
    (hg.block k (by rw [World.size_alloc]; omega) (fun e => hn e.symm)).trans (Below.heap_alloc _ _ k hk)
  obtain ⟨r1, r2⟩ := wat_put (w := w2) (S := S) (O' := O ++ [a]) (ws := ws) ((hkeep g hgl h.og).trans h.blk) (h.map.stays (hkeep b hbl h.om)) h.gm h.gb h.bb (ov' := ov') (by simpa using hown) (by
    rcases hob with e | e
    · rw [e]; exact h.og
    · rw [e]; intro e2; simp only [Option.some.injEq] at e2; omega)
  refine ⟨r1, Below.trans ⟨hg.os, hg.tape, hg.output, ?_, fun k hk => hkeep k (by omega) (fun e => ?_)⟩ r2⟩
  · have := hg.size; rw [World.size_alloc] at this; omega
  · have := (h.own.lt k e).1; omega
theorem Try.sizeI64o : (Try.prog.info? 3).map (·.size) = some 1 := by kernel_rfl
theorem wf_i64 {n : Int} (h1 : -9223372036854775808 ≤ n) (h2 : n ≤ 9223372036854775807) : (Lit.int .i64 n).wf = true := by
  simp [Lit.wf, IntKind.min, IntKind.max, IntKind.signed, IntKind.bits]
  omega
/-- The first ones of a row, in its own block. -/
theorem slice_h_own {P : Program} {t e : TypeId} (ht : P.underlying t = some (.slice e)) (hsz : (P.info? e).map (·.size) = some 1) (g n c k : Nat) (hk : k ≤ n) (hn : n ≤ c) (hc : 0 < c) (W : World) :
    (Instr.slice t (.slice (some ⟨g, 0, none⟩) n c) none (some (.int .i64 (k : Int))) none).run P W = .ok (.slice (some ⟨g, 0, none⟩) k c) W := by
  have := run_slice_h (P := P) W t (some ⟨g, 0, none⟩) n c (by rw [elemV_of ht]; exact ht) .i64 (k : Int) (by omega) (by omega)
  rw [this, sizeV_run hsz ht]
  simp only [Result.andThen_ok, Int.toNat_natCast]
  unfold sliced
  rw [if_neg (by omega)]
  simp [Addr.add_lit]

set_option maxRecDepth 20000 in
set_option maxHeartbeats 2000000 in
theorem mnext_any (w : World) (base g b : Nat) (v ov : Value) (ws S O : List Int) (a : Int) (h : WAt w base g v ws b ov S (O ++ [a])) (hl : O.length < 1048576) :
    Calls Try.prog 67 #[.pointer (some ⟨g, 0, none⟩)] w fun e w' => e = .returned (.int .i64 a) ∧ ∃ ov', WAt w' base g v ws b ov' S O ∧ Below base w w' := by
  obtain ⟨c0, c1, c2, hfz⟩ := three_cells h.blk
  have hf2 := hfz 2
  have hown := h.own
  have hlen : (O ++ [a]).length = O.length + 1 := by simp
  rw [hlen] at hown
  have hVR := vrow_of_owns (vs := Iw (O ++ [a])) (s := ov) (by simpa using hown)
  have hog := h.og
  have HH := hide h
  rcases hown.2 with ⟨_, h0⟩ | ⟨ob, co, cur, rfl, a1, a2, a3, a4, a5, a6⟩
  · omega
  have htk := ownsV_take hown (k := O.length) (by omega)
  have HO := hide (show w.ownsRow base 3 1 (.slice (some ⟨ob, 0, none⟩) O.length co) O.length (Iw O) by simpa using htk)
  have hcut := fun W => slice_h_own (P := Try.prog) (t := 23) Try.underlying23 Try.sizeI64o ob (O.length + 1) co O.length (by omega) a3 (by omega) W
  obtain ⟨bk, off, cz, e0, k1, k2, hcl⟩ := hVR.open (by simp)
  simp only [Value.slice.injEq, Option.some.injEq, Addr.mk.injEq] at e0
  obtain ⟨⟨rfl, rfl, _⟩, e1, rfl⟩ := e0
  have hc0 := hcl O.length (.int .i64 a) (by simp)
  simp only [Nat.zero_add] at hc0
  have hsub : wrap64 (O.length : Int) = (O.length : Int) := by unfold wrap64; omega
  have HS := hide (h.setO (unhide HO) hog)
  clear htk hVR hown a1 a2 a3 a4 a5 a6 k1 k2 e1 hcl hl HO h hog hlen
  go_enter Try.func67, Try.ntmps67
  go_wp2_with fail
  go_ret
  exact ⟨rfl, _, unhide HS⟩

theorem szM_snoc (ws S : List Int) (a : Int) : (fun x => if x = a then some (.int .i64 (wd ws a.toNat / 4096)) else szM ws S x) = szM ws (S ++ [a]) := by
  funext x
  unfold szM
  by_cases h : x = a
  · subst h; simp
  · rw [if_neg h]
    simp [h]

set_option maxRecDepth 20000 in
set_option maxHeartbeats 2000000 in
theorem mmeet_any (w0 w : World) (g b : Nat) (v ov : Value) (ws S O : List Int) (a : Int) (h : WAt w w0.heap.size g v ws b ov S O) (hv : VRow w0 v (Uw ws)) (hb : Below w0.heap.size w0 w) (hU : U32 ws) (hl : ws.length ≤ 1048576) (ha : a = 0 ∨ isOb ws a) (hS : S.length ≤ 1048576) (hO : O.length ≤ S.length) :
    Calls Try.prog 65 #[.pointer (some ⟨g, 0, none⟩), .int .i64 a] w fun e w' => e = .returned (.tuple #[]) ∧ ∃ ov', WAt w' w0.heap.size g v ws b ov' (metS S a) (metO S O a) ∧ Below w0.heap.size w w' := by
  obtain ⟨c0, c1, c2, hfz⟩ := three_cells h.blk
  have hf2 := hfz 2
  have hwf : (Lit.int .i64 a).wf = true := wf_i64 (by rcases ha with h | h; omega; have := h.1; omega) (by rcases ha with h | h; omega; have := h.2.1; omega)
  have hlk := h.map.look (P := Try.prog) (k := 3) (t := 83) (e := 3) Try.underlying3 Try.underlying83 (z := .int .i64 0) rfl a hwf
  by_cases hc : a = 0 ∨ a ∈ S
  · unfold metS metO
    rw [if_pos hc, if_pos hc]
    have HW := hide h
    by_cases hs : a ∈ S
    · have e1 : szM ws S a = some (.int .i64 (wd ws a.toNat / 4096)) := by unfold szM; rw [if_pos hs]
      rw [e1] at hlk
      simp only [Option.getD_some, Option.isSome_some] at hlk
      clear hc hs e1 hS hO hl hU hv hb ha hwf h
      go_enter Try.func65, Try.ntmps65
      go_wp2_with fail
      (try simp only [Exit.inBlock, Exit.then])
      refine bodyPost_ret (results_none rfl _ _ _) rfl ?_
      exact ⟨rfl, _, unhide HW, Below.refl _ _⟩
    · have e1 : szM ws S a = none := by unfold szM; rw [if_neg hs]
      have h0 : a = 0 := hc.resolve_right hs
      subst h0
      rw [e1] at hlk
      simp only [Option.getD_none, Option.isSome_none] at hlk
      clear hc hs e1 hS hO hl hU hv hb ha hwf h
      go_enter Try.func65, Try.ntmps65
      go_wp2_with fail
      (try simp only [Exit.inBlock, Exit.then])
      refine bodyPost_ret (results_none rfl _ _ _) rfl ?_
      exact ⟨rfl, _, unhide HW, Below.refl _ _⟩
  · unfold metS metO
    rw [if_neg hc, if_neg hc]
    have h0 : ¬ a = 0 := fun e => hc (Or.inl e)
    have hs : a ∉ S := fun e => hc (Or.inr e)
    have ha := ha.resolve_left h0
    obtain ⟨s1, s2, s3, s4⟩ := isOb_size ha
    obtain ⟨p, hp⟩ : ∃ p : Nat, (p : Int) = a := ⟨_, s4⟩
    subst hp
    have e1 : szM ws S (p : Int) = none := by unfold szM; rw [if_neg hs]
    rw [e1] at hlk
    simp only [Option.getD_none, Option.isSome_none] at hlk
    simp only [Int.toNat_natCast] at s1 s2 s3
    obtain ⟨pv, cv, rfl, g1, g2, g3⟩ := hv.shape
    rw [List.length_map] at *
    obtain ⟨bk, off, cz, e0, k1, k2, hcl⟩ := hv.open (by intro e; have := congrArg List.length e; simp at this; rw [this] at s3; simp at s3)
    simp only [Value.slice.injEq, List.length_map] at e0
    obtain ⟨rfl, e9, rfl⟩ := e0
    have hc0 := hcl p _ (by rw [List.getElem?_map, wd_get s3]; rfl)
    have hcw := (hb.cell (World.block_lt_of_cell? w0 _ hc0)).trans hc0
    obtain ⟨u0, u1⟩ := hU.wd p
    have HSZ := hide (fun w => csize_t (wd ws p) w u0 u1)
    obtain ⟨i0, hi, hz0, hz1, hz2⟩ := info_parts Try.infoI64
    obtain ⟨w5, hrun5, hM5, hg5⟩ := (h.map.stays (w' := w.drew) rfl).put (t := 83) (e := 3) Try.underlying3 Try.underlying83 (by unfold maxLen; omega) (p : Int) hwf (.int .i64 (wd ws p / 4096))
    have hgl : g < w.heap.size := (Array.getElem?_eq_some_iff.1 h.blk).1
    have hblk5 := (hg5.block g hgl (fun e => h.gm (Option.some.inj e))).trans h.drew.blk
    have hown5 : w5.ownsRow w0.heap.size 3 1 ov O.length (Iw O) := ownsV_keep (F := fun k => k = b) h.own ⟨hg5.os, hg5.tape, hg5.output, hg5.size, fun k hk hn => hg5.block k hk (fun e => hn (Option.some.inj e))⟩ (fun k hk e => h.om (e ▸ hk))
    have hM6 : MapIs Try.prog 3 w5 b (S ++ [(p : Int)]).length (szM ws (S ++ [(p : Int)])) := by
      have := szM_snoc ws S (p : Int)
      rw [Int.toNat_natCast] at this
      rw [← this, List.length_append, List.length_singleton]
      exact hM5
    have hW5 : WAt w5 w0.heap.size g (.slice (some ⟨bk, off, none⟩) ws.length cv) ws b ov (S ++ [(p : Int)]) O := ⟨hblk5, hM6, hown5, h.gb, h.bb, h.og⟩
    have hB5 : Below w0.heap.size w w5 := ⟨hg5.os, hg5.tape, hg5.output, hg5.size, fun k hk => hg5.block k (Nat.lt_of_lt_of_le hk hb.size) (fun e => by have := h.bb; have := Option.some.inj e; omega)⟩
    obtain ⟨d0, d1, d2, hfz5⟩ := three_cells hblk5
    have hf52 := hfz5 2
    have HJ := hide (And.intro hW5 (And.intro hB5 (And.intro hS hO)))
    have HBB := hide hb
    have hmx : Try.prog.follows .mixedOrders = true := by kernel_rfl
    have hpI : (p : Int) < (ws.length : Int) := by omega
    have hpn : ((p : Int) == 0) = false := by simpa using h0
    obtain ⟨po, co, rfl⟩ := ownsV_shape hown5
    have HJ5 := hide (Nat.le_trans hb.size hg5.size)
    have HOW := hide (show (w5.alloc (.cells #[.int .i64 (p : Int)] 3)).ownsRow w0.heap.size 3 1 (.slice po O.length co) O.length (Iw O) from ownsV_keep (F := fun _ => False) hown5 (Keep.of_below ((Below.refl _ _).alloc (Nat.le_refl _) _)) (fun _ _ => id))
    have HNW := hide (show ∀ (j : Nat) (u : Value), [Value.int .i64 (p : Int)][j]? = some u → (w5.alloc (.cells #[.int .i64 (p : Int)] 3)).cell? ((⟨w5.heap.size, 0, none⟩ : Addr).add j) = some u from fun j u hj => by match j, hj with | 0, hj => (simp at hj; subst hj; simp [Addr.add]))
    have HL1 := hide (show O.length + 1 ≤ maxLen by unfold maxLen; omega)
    have HL2 := hide (show (O.length + 1) * 8 ≤ 140737488355328 by omega)
    have HL3 := hide (show w0.heap.size ≤ (w5.alloc (.cells #[.int .i64 (p : Int)] 3)).heap.size by rw [World.size_alloc]; have := unhide HJ5; omega)
    have hdw : w.drew.heap.size = w.heap.size := rfl
    have hs5 := hg5.size
    rw [hdw] at hs5
    have HK2 := hide (fun w2 (hg : (w5.alloc (.cells #[.int .i64 (p : Int)] 3)).grownBy w2 (Value.slice po O.length co).ownBlock) => (show w2.heap[g]? = some (.cells #[.slice (some ⟨bk, off, none⟩) ws.length cv, .map (some b), .slice po O.length co] 103 (0, 0)) from
      (hg.block g (by rw [World.size_alloc]; omega) (fun e => h.og e.symm)).trans ((Below.heap_alloc _ _ g (by omega)).trans hblk5)))
    generalize wd ws p = x at *
    clear hc hs e1 hS hO hl hU hv hb ha hwf h s1 s2 s3 s4 g1 g2 g3 k1 k2 hcl hc0 hM5 hg5 hgl hblk5 hown5 hM6 hW5 hB5 e9 hfz5 hs5 hdw
    go_enter Try.func65, Try.ntmps65
    go_wp2_with fail
    refine wp_region_still_tail 13 hmx (by kernel_rfl) ?_
    simp only [List.take_succ_cons, List.take_zero, List.drop_succ_cons, List.drop_zero]
    repeat (first | still_step | still_call (unhide HSZ _))
    refine wpStill_nil ?_
    go_wp2_with (first
      | (at_builtin; refine wpList_append_gen rfl _ _ 23 rfl w0.heap.size 3 i0 (.int .i64 0) Try.underlying23 hi hz0 1 8 (by omega) hz1 hz2 rfl (.slice po O.length co) O.length (Iw O) rfl (unhide HOW) ⟨w5.heap.size, 0, none⟩ 1 1 [.int .i64 (p : Int)] rfl rfl (unhide HNW) (by intro u hu; simp at hu; subst hu; rfl) (unhide HL1) (unhide HL2) (unhide HL3) ?_))
    intro v2 w2 hown2 hgrow2 hob2
    have HF := hide ((unhide HJ).1.push (unhide HJ5) hown2 hgrow2 hob2)
    obtain ⟨f0, f1, f2, hfz2⟩ := three_cells (unhide HK2 w2 hgrow2)
    have hf22 := hfz2 2
    obtain ⟨p2, c2', rfl⟩ := ownsV_shape hown2
    clear hown2 hgrow2 hob2 d0 d1 d2 hf52 c0 c1 c2 hfz hf2 hlk
    go_wp2_with fail
    go_end0
    exact ⟨rfl, _, (unhide HF).1, (unhide HJ).2.1.trans (unhide HF).2⟩
end Go.Proofs.Ytegefnchkgkmgaa

/- The statements' own 'told': what All tells, up to so many. -/
namespace Go.Proofs.Ytegefnchkgkmgaa
open Go.RowKit Go.Shelf
attribute [local go_sem] Oper.semAt_some

theorem Try.infoInt : (Try.prog.info? 3).map (fun i => (i.zero, i.size, i.bytes)) = some (some (.int .i64 0), 1, 8) := by kernel_rfl
/-- The places that came. -/
def plV (pre : List (Nat × Int)) : List Value := pre.map fun x => .int .i64 (x.1 : Int)
theorem plV_snoc (pre : List (Nat × Int)) (p : Nat) (h : Int) : plV (pre ++ [(p, h)]) = plV pre ++ [.int .i64 (p : Int)] := by simp [plV]
/-- Variables that stand, and one that holds a row that grows. -/
def MixI (L : List (Nat × Obj)) (B TB E sz n : Nat) (xs : List Value) (C : Nat → Prop) (W : World) : Prop :=
  ∃ C1, (∀ x ∈ L, W.heap[x.1]? = some x.2) ∧ GR B TB E sz n xs C1 W ∧ (∀ x ∈ L, ¬ C1 x.1) ∧ ∀ k, C k ↔ k ∈ L.map Prod.fst ∨ C1 k
theorem MixI.stays {L : List (Nat × Obj)} {B TB E sz n : Nat} {xs : List Value} {C : Nat → Prop} {W W' : World} {G : Nat → Prop} (h : MixI L B TB E sz n xs C W) (hk : Keep G W W') (hn : ∀ k, C k → ¬ G k) : MixI L B TB E sz n xs C W' := by
  obtain ⟨C1, h1, h2, h3, h4⟩ := h
  exact ⟨C1, fun x hx => (hk.block _ (Array.getElem?_eq_some_iff.1 (h1 x hx)).1 (hn _ ((h4 _).2 (Or.inl (List.mem_map.2 ⟨x, hx, rfl⟩))))).trans (h1 x hx), h2.stays hk (fun k hk => hn k ((h4 k).2 (Or.inr hk))), h3, h4⟩
theorem MixI.lt {L : List (Nat × Obj)} {B TB E sz n : Nat} {xs : List Value} {C : Nat → Prop} {W : World} (h : MixI L B TB E sz n xs C W) (k : Nat) (hc : C k) : k < W.heap.size := by
  obtain ⟨C1, h1, h2, h3, h4⟩ := h
  rcases (h4 k).1 hc with h | h
  · obtain ⟨x, hx, rfl⟩ := List.mem_map.1 h
    exact (Array.getElem?_eq_some_iff.1 (h1 x hx)).1
  · exact h2.lt k h
/-- The row grows, the others stand. -/
theorem MixI.more {L : List (Nat × Obj)} {B TB E sz n' : Nat} {xs' : List Value} {C C1 C2 : Nat → Prop} {W W' : World} (h1 : ∀ x ∈ L, W.heap[x.1]? = some x.2) (h3 : ∀ x ∈ L, ¬ C1 x.1) (h4 : ∀ k, C k ↔ k ∈ L.map Prod.fst ∨ C1 k)
    (h2 : GR B TB E sz n' xs' C2 W') (hm : Moves C1 C2 W W') : MixI L B TB E sz n' xs' (fun k => k ∈ L.map Prod.fst ∨ C2 k) W' ∧ Moves C (fun k => k ∈ L.map Prod.fst ∨ C2 k) W W' := by
  refine ⟨⟨C2, fun x hx => (hm.keep.block _ (Array.getElem?_eq_some_iff.1 (h1 x hx)).1 (h3 x hx)).trans (h1 x hx), h2, fun x hx hc => ?_, fun _ => Iff.rfl⟩, hm.keep.weak (fun k hk => (h4 k).2 (Or.inr hk)), fun k hk => ?_⟩
  · rcases hm.sub _ hc with h | h
    · exact h3 x hx h
    · have := (Array.getElem?_eq_some_iff.1 (h1 x hx)).1; omega
  · rcases hk with hk | hk
    · exact Or.inl ((h4 k).2 (Or.inl hk))
    · rcases hm.sub k hk with h | h
      · exact Or.inl ((h4 k).2 (Or.inr h))
      · exact Or.inr h

def ToI (L : List (Nat × Obj)) (B most : Nat) (pre : List (Nat × Int)) (C : Nat → Prop) (W : World) : Prop := pre.length ≤ most ∧ MixI L B 23 3 1 pre.length (plV pre) C W
theorem ToI.ok (L : List (Nat × Obj)) (B most b : Nat) : SOk b (ToI L B most) := ⟨fun _ _ _ _ _ h hk hn _ => ⟨h.1, h.2.stays hk hn⟩, fun _ _ _ h k hc => h.2.lt k hc⟩
def ToX (L : List (Nat × Obj)) (B most : Nat) (c : Code) (xs : List (Nat × Int)) (C : Nat → Prop) (W : World) : Prop := c = .exit 0 ∧ xs.dropLast.length = most ∧ MixI L B 23 3 1 xs.dropLast.length (plV xs.dropLast) C W
theorem ToX.ok (L : List (Nat × Obj)) (B most b : Nat) (c : Code) : SOk b (ToX L B most c) := ⟨fun _ _ _ _ _ h hk hn _ => ⟨h.1, h.2.1, h.2.2.stays hk hn⟩, fun _ _ _ h k hc => h.2.2.lt k hc⟩

theorem four_new (w : World) (x y z u : Obj) : (((((w.alloc x).alloc y).alloc z).alloc u).heap[w.heap.size]? = some x) ∧ (((((w.alloc x).alloc y).alloc z).alloc u).heap[w.heap.size + 1]? = some y) ∧ (((((w.alloc x).alloc y).alloc z).alloc u).heap[w.heap.size + 1 + 1]? = some z) ∧ (((((w.alloc x).alloc y).alloc z).alloc u).heap[w.heap.size + 1 + 1 + 1]? = some u) := by
  obtain ⟨h1, h2, h3⟩ := three_new w x y z
  have hs : (((w.alloc x).alloc y).alloc z).heap.size = w.heap.size + 1 + 1 + 1 := by simp
  refine ⟨(Below.heap_alloc _ _ _ (by omega)).trans h1, (Below.heap_alloc _ _ _ (by omega)).trans h2, (Below.heap_alloc _ _ _ (by omega)).trans h3, ?_⟩
  have := World.alloc_heap_new (((w.alloc x).alloc y).alloc z) u
  rw [hs] at this
  exact this
/-- The variables of 'told' that stand. -/
def toL (n : Nat) (s : Value) (most : Nat) : List (Nat × Obj) := [(n, .cells #[s] 22 (0, 0)), (n + 1, .cells #[.int .i64 (most : Int)] 3 (0, 0)), (n + 1 + 1, .cells #[.slice none 0 0] 23 (0, 0)), (n + 1 + 1 + 1, .cells #[.bool false] 4 (0, 0))]
theorem toL_all {n : Nat} {s : Value} {most : Nat} {W : World} (h : ∀ x ∈ toL n s most, W.heap[x.1]? = some x.2) : W.heap[n]? = some (.cells #[s] 22 (0, 0)) ∧ W.heap[n + 1]? = some (.cells #[.int .i64 (most : Int)] 3 (0, 0)) ∧ W.heap[n + 1 + 1]? = some (.cells #[.slice none 0 0] 23 (0, 0)) ∧ W.heap[n + 1 + 1 + 1]? = some (.cells #[.bool false] 4 (0, 0)) :=
  ⟨h _ (List.mem_cons_self), h _ (List.mem_cons_of_mem _ List.mem_cons_self), h _ (List.mem_cons_of_mem _ (List.mem_cons_of_mem _ List.mem_cons_self)), h _ (List.mem_cons_of_mem _ (List.mem_cons_of_mem _ (List.mem_cons_of_mem _ List.mem_cons_self)))⟩
theorem toL_mem {n : Nat} {s : Value} {most : Nat} {k : Nat} : k ∈ (toL n s most).map Prod.fst ↔ k = n ∨ k = n + 1 ∨ k = n + 1 + 1 ∨ k = n + 1 + 1 + 1 := by simp [toL]

end Go.Proofs.Ytegefnchkgkmgaa
