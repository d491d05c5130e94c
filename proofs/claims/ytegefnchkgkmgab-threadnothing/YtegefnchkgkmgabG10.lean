/- Texts of ours, one behind the other: CelPtrs, CelCheck, MkLivD, ThOut, ThAsk, CelObject, MkMem, CelTold, CelAt, CelRef, CelRef2, CelRefAt, ThNoP, ThLawRing. -/
import Derived.Test.YtegefnchkgkmgabG3
import Derived.Test.YtegefnchkgkmgabG4
import Derived.Test.YtegefnchkgkmgabG5
import Derived.Test.YtegefnchkgkmgabG6
import Derived.Test.YtegefnchkgkmgabG8
import Derived.Test.YtegefnchkgkmgabG9
import Derived.Test.YtegefnchkgkmgabG11
import Derived.Test.YtegefnchkgkmgabG14
import Derived.Test.YtegefnchkgkmgabG15
import Derived.BigQuiet
import Derived.WalkSmall
/- The landed package cells: has, hasAll, hasPointers. -/
namespace Go.Proofs.Ytegefnchkgkmgab
open Go.RowKit Go.Shelf
attribute [local go_sem] Oper.semAt_some

theorem Try.sizeU32 : (Try.prog.info? 31).map (·.size) = some 1 := by kernel_rfl
/-- The marks of all objects, in block g. -/
def MkAt (w : World) (g : Nat) (n : Nat) (Z : List (Nat × Int)) : Prop := w.heap[g]? = some (.cells ((marks n Z).map Value.bool).toArray 4 (0, 0))
theorem MkAt.lt {w : World} {g n : Nat} {Z : List (Nat × Int)} (h : MkAt w g n Z) : g < w.heap.size := (Array.getElem?_eq_some_iff.1 h).1
theorem MkAt.below {w w' : World} {g n : Nat} {Z : List (Nat × Int)} (h : MkAt w g n Z) (hb : Below w.heap.size w w') : MkAt w' g n Z := (hb.block g h.lt).trans h
theorem MkAt.cell {w : World} {g n : Nat} {Z : List (Nat × Int)} (h : MkAt w g n Z) {k : Nat} (hk : k < n) : w.cell? ⟨g, k, none⟩ = some (.bool (decide (k ∈ Z.map Prod.fst))) := by
  rw [cell_of_row w _ _ _ _ (0, 0) h, List.getElem?_toArray, List.getElem?_map, marks_get _ hk]; rfl

theorem chas_any (g n : Nat) (Z : List (Nat × Int)) (a : Int) (w : World) (h : MkAt w g n Z) :
    Calls Try.prog 41 #[.slice (some ⟨g, 0, none⟩) n n, .int .i64 a] w fun e w' => e = .returned (.bool (isPl n Z a)) ∧ w' = w := by
  by_cases h0 : a = 0
  · subst h0
    rw [show isPl n Z 0 = true by simp [isPl]]
    clear h
    go_enter Try.func41, Try.ntmps41
    go_wp2
    go_ret
    exact ⟨rfl, rfl⟩
  · have hb : (a == 0) = false := by simp [h0]
    by_cases h1 : 0 < a
    · by_cases h2 : a < n
      · obtain ⟨k, rfl⟩ := Int.eq_ofNat_of_zero_le (show 0 ≤ a by omega)
        have hk : k < n := by omega
        have hc := h.cell hk
        have e1 : isPl n Z (k : Int) = decide (k ∈ Z.map Prod.fst) := by
          have q0 : ¬ (k : Int) = 0 := by omega
          have q1 : (0 : Int) < (k : Int) := by omega
          have q2 : (k : Int) < (n : Int) := by omega
          simp only [isPl, q0, q1, q2, decide_true, decide_false, Bool.false_or, Bool.true_and, Int.toNat_natCast]
        rw [e1]
        generalize decide (k ∈ Z.map Prod.fst) = r at *
        clear h e1 hk h0
        go_enter Try.func41, Try.ntmps41
        go_wp2
        go_ret
        exact ⟨rfl, rfl⟩
      · rw [show isPl n Z a = false by simp [isPl, h0, h2]]
        have h2' : (n : Int) ≤ a := by omega
        clear h h0 h2
        go_enter Try.func41, Try.ntmps41
        go_wp2
        go_ret
        exact ⟨rfl, rfl⟩
    · rw [show isPl n Z a = false by simp [isPl, h0, h1]]
      have h1' : a ≤ 0 := by omega
      clear h h0 h1
      go_enter Try.func41, Try.ntmps41
      go_wp2
      go_ret
      exact ⟨rfl, rfl⟩

abbrev Iw (rs : List Int) : List Value := rs.map (Value.int .i64)
set_option maxHeartbeats 1000000 in
theorem chasall_any (g n : Nat) (Z : List (Nat × Int)) (s : Value) (rs : List Int) (w : World) (h : MkAt w g n Z) (hs : VRow w s (Iw rs)) (hl : rs.length < 35184372088832) :
    Calls Try.prog 33 #[.slice (some ⟨g, 0, none⟩) n n, s] w fun e w' => e = .returned (.bool (rs.all (isPl n Z))) ∧ w' = w := by
  obtain ⟨a, cap, rfl, hc1, hc2, hc3⟩ := hs.shape
  rw [List.length_map] at *
  have HS := hide hs
  have HL := hide hl
  have HM := hide h
  clear hs hl hc1 hc2 hc3 h
  go_enter Try.func33, Try.ntmps33
  go_wp2_with fail
  go_loop [9] (fun i => ∃ k : Nat, k ≤ rs.length ∧ i = .int .i64 (k : Int) ∧ Hid ((rs.take k).all (isPl n Z) = true)) (fun i => rs.length - (intOf i).toNat)
  case atStart => exact ⟨0, Nat.zero_le _, rfl, by simp [Hid]⟩
  case round =>
    obtain ⟨k, hk, rfl, hall⟩ := hrel
    by_cases hlt : k < rs.length
    · have hkI : (k : Int) < (rs.length : Int) := by omega
      obtain ⟨b, off, cap', e0, g1, g2, hcl⟩ := (unhide HS).open (by intro e; have := congrArg List.length e; simp at this; rw [this] at hlt; simp at hlt)
      simp only [Value.slice.injEq] at e0
      obtain ⟨rfl, g3, rfl⟩ := e0
      have hc := hcl k _ (by rw [List.getElem?_map, List.getElem?_eq_getElem hlt]; rfl)
      have HT := hide (show (rs.take (k + 1)).all (isPl n Z) = isPl n Z rs[k] by rw [List.take_succ_eq_append_getElem hlt, List.all_append, hall.out]; simp)
      have HA := hide (show isPl n Z rs[k] = false → rs.all (isPl n Z) = false by
        intro h
        rw [List.all_eq_false]
        exact ⟨rs[k], List.getElem_mem hlt, by simp [h]⟩)
      have HLT := hide hlt
      have HCH := hide (fun x => chas_any g n Z x w (unhide HM))
      generalize rs[k] = x at *
      clear g1 g2 g3 hcl hall hk hlt
      have hnw : IntKind.i64.wrap ((k : Int) + 1) = (k : Int) + 1 := by have := unhide HL; have := unhide HLT; rw [IntKind.wrap_i64]; omega
      go_wp2_with fail
      refine Calls.mono (unhide HCH x) ?_
      rintro e w1 ⟨rfl, rfl⟩
      cases hx : isPl n Z x with
      | true =>
        go_wp2_with fail
        go_round
        case rel => exact ⟨k + 1, unhide HLT, by go_num, by rw [Hid, unhide HT, hx]⟩
        case measure => (have := unhide HLT; simp [intOf]; omega)
      | false =>
        have HF := hide (unhide HA hx)
        clear hx
        go_wp2_with fail
        go_ret
        exact ⟨by rw [unhide HF]; rfl, rfl⟩
    · have hke : k = rs.length := by omega
      subst hke
      rw [List.take_length] at hall
      clear hk hlt
      go_wp2_with fail
      go_ret
      exact ⟨by rw [hall.out]; rfl, rfl⟩

/-- Variables of a caller, as blocks that stand, and what is true of what came. -/
def BxI {α : Type} (f : List α → List (Nat × Obj)) (P : List α → Prop) (pre : List α) (C : Nat → Prop) (W : World) : Prop := P pre ∧ (∀ x ∈ f pre, W.heap[x.1]? = some x.2) ∧ ∀ k, C k ↔ k ∈ (f pre).map Prod.fst
theorem BxI.ok {α : Type} (f : List α → List (Nat × Obj)) (P : List α → Prop) (b : Nat) : SOk b (BxI f P) := by
  refine ⟨fun pre C W W' G h hk hn _ => ?_, fun pre C W h k hc => ?_⟩
  · obtain ⟨h1, h2, h3⟩ := h
    refine ⟨h1, fun x hx => ?_, h3⟩
    exact (hk.block _ (Array.getElem?_eq_some_iff.1 (h2 x hx)).1 (hn _ ((h3 _).2 (List.mem_map.2 ⟨x, hx, rfl⟩)))).trans (h2 x hx)
  · obtain ⟨h1, h2, h3⟩ := h
    obtain ⟨x, hx, rfl⟩ := List.mem_map.1 ((h3 k).1 hc)
    exact (Array.getElem?_eq_some_iff.1 (h2 x hx)).1

/-- Are the pointers of these objects ones that may be? -/
def okPs (ws : List Int) (pre : List (Nat × Int)) : Bool := pre.all (fun x => (ptrsO ws x).all (isPl ws.length (obs ws 1)))
theorem okPs_snoc (ws : List Int) (pre : List (Nat × Int)) (x : Nat × Int) : okPs ws (pre ++ [x]) = (okPs ws pre && (ptrsO ws x).all (isPl ws.length (obs ws 1))) := by simp [okPs]
theorem okPs_false {ws : List Int} {pre rest : List (Nat × Int)} (h : okPs ws pre = false) : okPs ws (pre ++ rest) = false := by
  unfold okPs at h ⊢
  rw [List.all_append, h, Bool.false_and]
theorem three_new (w : World) (x y z : Obj) : ((((w.alloc x).alloc y).alloc z).heap[w.heap.size]? = some x) ∧ ((((w.alloc x).alloc y).alloc z).heap[w.heap.size + 1]? = some y) ∧ ((((w.alloc x).alloc y).alloc z).heap[w.heap.size + 1 + 1]? = some z) := by
  refine ⟨(Below.heap_alloc _ _ _ (by simp; omega)).trans ((Below.heap_alloc _ _ _ (by simp)).trans (World.alloc_heap_new w _)), ?_, ?_⟩
  · have := World.alloc_heap_new (w.alloc x) y
    rw [World.size_alloc] at this
    exact (Below.heap_alloc _ _ _ (by simp)).trans this
  · have := World.alloc_heap_new ((w.alloc x).alloc y) z
    rw [World.size_alloc, World.size_alloc] at this
    exact this

set_option maxRecDepth 20000 in
set_option maxHeartbeats 2000000 in
theorem chasptrs_any (g : Nat) (s : Value) (ws : List Int) (w : World) (h : MkAt w g ws.length (obs ws 1)) (hs : VRow w s (Uw ws)) (hU : U32 ws) (hl : ws.length < 70368744177664) :
    Calls Try.prog 32 #[.slice (some ⟨g, 0, none⟩) ws.length ws.length, s] w fun e w' => e = .returned (.bool (okPs ws (obs ws 1))) ∧ Below w.heap.size w w' := by
  refine (callsIn_wide (n := 5)).1 ?_
  refine callsIn_of_wp_marks Try.func32 rfl trivial ?_ rfl
  simp only [Try.ntmps32, List.size_toArray, List.length_cons, List.length_nil, Nat.reduceAdd, Nat.reduceSub, Array.replicate_succ, Array.replicate_zero, List.push_toArray, List.append_toArray, List.nil_append, List.cons_append]
  obtain ⟨a, cap, rfl, hc1, hc2, hc3⟩ := hs.shape
  rw [List.length_map] at *
  have HS := hide hs
  have HU := hide hU
  have HL := hide hl
  have HM := hide h
  clear hs hU hl hc1 hc2 hc3 h
  obtain ⟨W0, hW0⟩ : ∃ W0, (((w.alloc (.cells #[.slice (some ⟨g, 0, none⟩) ws.length ws.length] 69)).alloc (.cells #[.slice a ws.length cap] 24)).alloc (.cells #[.bool false] 4)) = W0 := ⟨_, rfl⟩
  have HB0 : Hid (Below w.heap.size w W0) := by unfold Hid; rw [← hW0]; exact (((Below.refl _ w).alloc (Nat.le_refl _) _).alloc (by simp) _).alloc (by simp; omega) _
  have HSZ : Hid (W0.heap.size = w.heap.size + 3) := by unfold Hid; rw [← hW0]; simp
  have H0 : Hid (W0.heap[w.heap.size]? = some (.cells #[.slice (some ⟨g, 0, none⟩) ws.length ws.length] 69 (0, 0)) ∧ W0.heap[w.heap.size + 1]? = some (.cells #[.slice a ws.length cap] 24 (0, 0)) ∧ W0.heap[w.heap.size + 1 + 1]? = some (.cells #[.bool false] 4 (0, 0))) := by
    unfold Hid
    rw [← hW0]
    exact three_new w _ _ _
  have HW0 := hide hW0
  clear hW0
  gi_wp2_with fail
  rw [unhide HW0]
  clear HW0
  refine ⟨trivial, (callsIn_wide.2 (cobjects_any W0 a ws.length cap)).mono ?_⟩
  rintro e w1 ⟨rfl, rfl⟩
  have HB1 := hide ((Below.refl _ W0).alloc (Nat.le_refl _) (.cells #[.slice a ws.length cap] 24))
  gi_wp2_with fail
  have hr0 := (unhide HS).below (unhide HB0)
  refine wpIn_seqR (C0 := fun k => k ∈ [w.heap.size, w.heap.size + 1, w.heap.size + 1 + 1]) (objects_seq W0.heap.size (.slice a ws.length cap) ws (unhide HU) (unhide HL)) rfl (fun _ _ => by kernel_rfl) (fun _ => rfl)
    (BxI (fun _ => [(w.heap.size, .cells #[.slice (some ⟨g, 0, none⟩) ws.length ws.length] 69 (0, 0)), (w.heap.size + 1, .cells #[.slice a ws.length cap] 24 (0, 0)), (w.heap.size + 1 + 1, .cells #[.bool false] 4 (0, 0))]) (fun pre => okPs ws pre = true))
    (fun c => BxI (fun _ => [(w.heap.size, .cells #[.slice (some ⟨g, 0, none⟩) ws.length ws.length] 69 (0, 0)), (w.heap.size + 1, .cells #[.slice a ws.length cap] 24 (0, 0)), (w.heap.size + 1 + 1, .cells #[.bool false] 4 (0, 0))]) (fun pre => c = .ret ∧ okPs ws pre = false))
    (BxI.ok _ _ _) (fun _ => BxI.ok _ _ _) ?start ?data ?apart ?round ?done ?stop
  case start =>
    obtain ⟨a1, a2, a3⟩ := unhide H0
    have hB := unhide HB1
    refine ⟨rfl, fun x hx => ?_, fun k => Iff.rfl⟩
    simp only [List.mem_cons, List.not_mem_nil, or_false] at hx
    rcases hx with rfl | rfl | rfl
    · exact (hB.block _ (Array.getElem?_eq_some_iff.1 a1).1).trans a1
    · exact (hB.block _ (Array.getElem?_eq_some_iff.1 a2).1).trans a2
    · exact (hB.block _ (Array.getElem?_eq_some_iff.1 a3).1).trans a3
  case data =>
    intro W hb
    refine ⟨(hb.cell (p := ⟨W0.heap.size, 0, none⟩) (by simp)).trans (by simp), (hr0.below (unhide HB1)).below hb⟩
  case apart =>
    intro k hk
    have hsz := unhide HSZ
    simp only [List.mem_cons, List.not_mem_nil, or_false, World.size_alloc]
    rcases hk with rfl | ⟨hne, hk⟩
    · exact ⟨by omega, by omega⟩
    · have hk2 := hs_block (unhide HS) (fun h => hne (List.map_eq_nil_iff.1 h)) k hk
      exact ⟨by omega, by omega⟩
  case round =>
    rintro l pre ⟨p, h⟩ rest C W hZ hi hm
    dsimp only [encO]
    have HZ := hide hZ
    have HI := hide hi
    clear hZ hi hm hr0
    gi_wp2
    refine ⟨_, C, (BxI.ok _ _ _).at pre, unhide HI, Moves.refl _ _, fun W2 hi2 hm2 => ?_⟩
    clear HI
    obtain ⟨n1, n2, n3, n4⟩ := obs_next (unhide HZ)
    obtain ⟨u0, u1⟩ := (unhide HU).wd p
    dsimp only at n2
    rw [← n2] at u0 u1
    obtain ⟨hall, hblk, hC⟩ := hi2
    have b1 := hblk _ (List.mem_cons_self)
    have b2 := hblk _ (List.mem_cons_of_mem _ List.mem_cons_self)
    have b3 := hblk _ (List.mem_cons_of_mem _ (List.mem_cons_of_mem _ List.mem_cons_self))
    have c1 : W2.cell? ⟨w.heap.size, 0, none⟩ = some (.slice (some ⟨g, 0, none⟩) ws.length ws.length) := by rw [cell_of_row W2 _ _ _ _ (0, 0) b1]; rfl
    have c2 : W2.cell? ⟨w.heap.size + 1, 0, none⟩ = some (.slice a ws.length cap) := by rw [cell_of_row W2 _ _ _ _ (0, 0) b2]; rfl
    have c3 : W2.cell? ⟨w.heap.size + 1 + 1, 0, none⟩ = some (.bool false) := by rw [cell_of_row W2 _ _ _ _ (0, 0) b3]; rfl
    have f3 : W2.frozen? ⟨w.heap.size + 1 + 1, 0, none⟩ = false := frozen_of_block b3
    have hR2 : VRow W2 (.slice a ws.length cap) (Uw ws) := ((unhide HS).below ((unhide HB0).trans ((unhide HB1).mono (unhide HB0).size))).keep hm2.keep (fun b off c e hne hk => by
      have := hs_block (unhide HS) hne b (by rw [e]; rfl)
      simp only [List.mem_cons, List.not_mem_nil, or_false] at hk
      omega)
    have hM2 : MkAt W2 g ws.length (obs ws 1) := by
      have h1 := (unhide HM).below ((unhide HB0).trans ((unhide HB1).mono (unhide HB0).size))
      refine (hm2.keep.block g h1.lt (fun hk => ?_)).trans h1
      have := (unhide HM).lt
      simp only [List.mem_cons, List.not_mem_nil, or_false] at hk
      omega
    obtain ⟨o1, o2, o3⟩ := n3
    dsimp only at o1 o2 o3
    rw [← n2] at o2 o3
    obtain ⟨q, c', hcut, hrow, _⟩ := hR2.cut_lh Try.underlying24 Try.sizeU32 (p + 1) (ptN h) (by rw [List.length_map]; omega)
    have hpt := ptN_int h
    rw [hpt, show (((p + 1 : Nat)) : Int) = (p : Int) + 1 by omega] at hcut
    have hw1 : IntKind.i64.wrap ((p : Int) + 1) = (p : Int) + 1 := by have := unhide HL; rw [IntKind.wrap_i64]; omega
    have hw2 : IntKind.i64.wrap ((p : Int) + 1 + h / 16 % 256) = (p : Int) + 1 + h / 16 % 256 := by have := unhide HL; rw [IntKind.wrap_i64]; omega
    have hmx : Try.prog.follows .mixedOrders = true := by kernel_rfl
    have HBL := hide (And.intro b1 (And.intro b2 b3))
    have HALL := hide hall
    have HC := hide hC
    have HROW := hide hrow
    have HM2 := hide hM2
    have HMV := hide hm2
    have HPT := hide hpt
    clear hpt hM2 hm2 hrow hR2 n1 n2 n4 o1 o2 o3 hall hC hblk b1 b2 b3
    obtain ⟨CC, hCC⟩ : ∃ CC : World → Prop, CC = fun w' => Below W2.heap.size W2 w' := ⟨_, rfl⟩
    have HCC : Hid (∀ w', CC w' → w'.cell? ⟨w.heap.size + 1, 0, none⟩ = some (.slice a ws.length cap)) := by
      unfold Hid; rw [hCC]; exact fun w' hw => (hw.cell (p := ⟨w.heap.size + 1, 0, none⟩) (World.block_lt_of_cell? W2 _ c2)).trans c2
    have HC0 : Hid (CC { W2 with drawn := W2.drawn + 1 }) := by unfold Hid; rw [hCC]; exact (Below.refl _ W2).drew
    have HCW : Hid (∀ w', CC w' → Below W2.heap.size W2 w') := by unfold Hid; rw [hCC]; exact fun w' hw => hw
    clear hCC
    gi_wp2_with fail
    refine region_calmW CC (by kernel_rfl) (by kernel_rfl) (by simp) (unhide HC0) ?_
    repeat (first
      | go_big_quiet_skip
      | (go_big_quiet_want
         apply Exists.intro
         refine ⟨fun w' hw' => ?_, ?_⟩
         · have d0 := unhide HCC w' hw'
           go_simp
           first | done | rfl | exact Calls.mono (cptrs_t h w' u0 u1) (fun e w'' hx => ⟨hx.1, hx.2 ▸ hw'⟩)
         simp only [Act.put, List.setIfInBounds_toArray, List.set_cons_zero, List.set_cons_succ]
         go_big_quiet_on))
    refine wpQuiet_nil ?_
    intro W3 hw'
    have hBW := unhide HCW W3 hw'
    obtain ⟨b1, b2, b3⟩ := unhide HBL
    have c1' := (hBW.cell (p := ⟨w.heap.size, 0, none⟩) (World.block_lt_of_cell? W2 _ c1)).trans c1
    have b3' := (hBW.block _ (Array.getElem?_eq_some_iff.1 b3).1).trans b3
    have c3' := (hBW.cell (p := ⟨w.heap.size + 1 + 1, 0, none⟩) (World.block_lt_of_cell? W2 _ c3)).trans c3
    have f3' : W3.frozen? ⟨w.heap.size + 1 + 1, 0, none⟩ = false := frozen_of_block b3'
    have HROW3 := hide ((unhide HROW).below hBW)
    have HCH := hide (fun x => chas_any g ws.length (obs ws 1) x W3 ((unhide HM2).below hBW))
    have HBW := hide hBW
    have HB3' := hide b3'
    have hlp : (((Uw ws).drop (p + 1)).take (ptN h)) = (ptrsO ws (p, h)).map (Value.int .u32) := by
      unfold ptrsO Uw
      rw [List.map_take, List.map_drop]
    rw [hlp] at HROW3
    obtain ⟨ps, hps⟩ : ∃ ps, ps = ptrsO ws (p, h) := ⟨_, rfl⟩
    rw [← hps] at HROW3
    have hlen : ps.length = ptN h := by
      obtain ⟨_, _, e, _⟩ := unhide HROW3
      simp only [Value.slice.injEq, List.length_map] at e
      exact e.2.1.symm
    have HU2 := hide (show ∀ x ∈ ps, 0 ≤ x ∧ x < 4294967296 by
      intro x hx
      rw [hps] at hx
      exact unhide HU x (List.mem_of_mem_drop (List.mem_of_mem_take hx)))
    have HPS := hide hps
    clear hps hlp HROW HM2
    rw [← hlen] at HROW3 ⊢
    have HPL := hide (show ps.length < 256 by rw [hlen]; exact ptN_lt h)
    clear hBW b1 b2 b3 b3' c1 c2 c3 f3 hw' HCC HC0 HCW hcut hlen HPT
    gi_wp2_with fail
    gi_loop [23] (fun i => ∃ k : Nat, k ≤ ps.length ∧ i = .int .i64 (k : Int) ∧ Hid ((ps.take k).all (isPl ws.length (obs ws 1)) = true)) (fun i => ps.length - (intOf i).toNat)
    case atStart => exact ⟨0, Nat.zero_le _, rfl, by simp [Hid]⟩
    case round =>
      obtain ⟨k, hk, rfl, hall⟩ := hrel
      by_cases hlt : k < ps.length
      · have hkI : (k : Int) < (ps.length : Int) := by omega
        obtain ⟨b, off, cap', e0, g1, g2, hcl⟩ := (unhide HROW3).open (by intro e; have := congrArg List.length e; simp at this; rw [this] at hlt; simp at hlt)
        simp only [Value.slice.injEq] at e0
        obtain ⟨rfl, g3, rfl⟩ := e0
        have hc := hcl k _ (by rw [List.getElem?_map, List.getElem?_eq_getElem hlt]; rfl)
        obtain ⟨v0, v1⟩ := unhide HU2 ps[k] (List.getElem_mem hlt)
        have HT := hide (show (ps.take (k + 1)).all (isPl ws.length (obs ws 1)) = isPl ws.length (obs ws 1) ps[k] by rw [List.take_succ_eq_append_getElem hlt, List.all_append, hall.out]; simp)
        have HA := hide (show isPl ws.length (obs ws 1) ps[k] = false → ps.all (isPl ws.length (obs ws 1)) = false by
          intro h
          rw [List.all_eq_false]
          exact ⟨ps[k], List.getElem_mem hlt, by simp [h]⟩)
        have HLT := hide hlt
        generalize ps[k] = x at *
        clear g1 g2 g3 hcl hall hk hlt
        have hnw : IntKind.i64.wrap ((k : Int) + 1) = (k : Int) + 1 := by have := unhide HPL; have := unhide HLT; rw [IntKind.wrap_i64]; omega
        have hxw : IntKind.i64.wrap x = x := by rw [IntKind.wrap_i64]; omega
        gi_wp2_with fail
        refine ⟨trivial, (CallsIn.inRound l (callsIn_wide.2 (unhide HCH x))).mono ?_⟩
        rintro e w1 ⟨rfl, rfl⟩
        cases hx : isPl ws.length (obs ws 1) x with
        | true =>
          gi_wp2_with fail
          go_round
          case rel => exact ⟨k + 1, unhide HLT, by go_num, by rw [Hid, unhide HT, hx]⟩
          case measure => (have := unhide HLT; simp [intOf]; omega)
        | false =>
          have HF := hide (unhide HA hx)
          clear hx
          gi_wp2_with fail
          obtain ⟨b1, b2, b3⟩ := unhide HBL
          have hb := unhide HBW
          have K1 := keep_set w1 (w.heap.size + 1 + 1) 0 (.bool false)
          have g3 := heap_setCell_same w1 (w.heap.size + 1 + 1) 0 _ _ (.bool false) (unhide HB3')
          have l1 := (Array.getElem?_eq_some_iff.1 b1).1
          have l2 := (Array.getElem?_eq_some_iff.1 b2).1
          have hsz := hb.size
          refine ⟨C, ⟨⟨rfl, ?_⟩, fun y hy => ?_, unhide HC⟩, (Keep.of_below hb).trans K1 (fun k e => Or.inl ((unhide HC k).2 ?_)), fun k hk => Or.inl hk⟩
          · rw [okPs_snoc, ← unhide HPS, unhide HF, Bool.and_false]
          · simp only [List.mem_cons, List.not_mem_nil, or_false] at hy
            rcases hy with rfl | rfl | rfl
            · exact (K1.block _ (by omega) (by omega)).trans ((hb.block _ l1).trans b1)
            · exact (K1.block _ (by omega) (by omega)).trans ((hb.block _ l2).trans b2)
            · exact g3
          · rw [e]; simp
      · have hke : k = ps.length := by omega
        subst hke
        rw [List.take_length] at hall
        clear hk hlt
        gi_wp2_with fail
        obtain ⟨b1, b2, b3⟩ := unhide HBL
        have hb := unhide HBW
        refine ⟨C, ⟨?_, fun y hy => ?_, unhide HC⟩, Keep.of_below hb, fun k hk => Or.inl hk⟩
        · show okPs ws (pre ++ [(p, h)]) = true
          rw [okPs_snoc, unhide HALL, ← unhide HPS, hall.out]
          rfl
        · simp only [List.mem_cons, List.not_mem_nil, or_false] at hy
          rcases hy with rfl | rfl | rfl
          · exact (hb.block _ (Array.getElem?_eq_some_iff.1 b1).1).trans b1
          · exact (hb.block _ (Array.getElem?_eq_some_iff.1 b2).1).trans b2
          · exact (hb.block _ (Array.getElem?_eq_some_iff.1 b3).1).trans b3
  case done =>
    rintro dd C W hdd ⟨hall, hblk, hC⟩ hm hnc hK
    have b3 := hblk _ (List.mem_cons_of_mem _ (List.mem_cons_of_mem _ List.mem_cons_self))
    have c3 : W.cell? ⟨w.heap.size + 1 + 1, 0, none⟩ = some (.bool false) := by rw [cell_of_row W _ _ _ _ (0, 0) b3]; rfl
    have f3 : W.frozen? ⟨w.heap.size + 1 + 1, 0, none⟩ = false := frozen_of_block b3
    have HALL := hide hall
    have HB3 := hide b3
    have HM := hide hm
    have HK := hide hK
    have HNC := hide (show dd ≠ w.heap.size + 1 + 1 from fun e => hnc ((hC dd).2 (by rw [e]; simp)))
    clear hall b3 hm hK hnc hC hblk hr0
    gi_wp2_with fail
    have K1 := keep_set W (w.heap.size + 1 + 1) 0 (.bool true)
    have hsz := unhide HSZ
    have hdk := (Array.getElem?_eq_some_iff.1 (unhide HK)).1
    have hK2 : (W.setCell ⟨w.heap.size + 1 + 1, 0, none⟩ (.bool true)).heap[dd]? = some (.deferred (some [])) := (K1.block dd hdk (unhide HNC)).trans (unhide HK)
    refine ⟨by simp, .inl ⟨_, _, rfl, run_takeDeferred hK2, ?_⟩⟩
    have hp := keep_put (W.setCell ⟨w.heap.size + 1 + 1, 0, none⟩ (.bool true)) dd (.deferred none)
    have g3 := heap_setCell_same W (w.heap.size + 1 + 1) 0 _ _ (.bool true) (unhide HB3)
    have g4 := (hp.block (w.heap.size + 1 + 1) (Array.getElem?_eq_some_iff.1 g3).1 (fun e => unhide HNC e.symm)).trans g3
    have c4 : ((W.setCell ⟨w.heap.size + 1 + 1, 0, none⟩ (.bool true)).putObj dd (.deferred none)).cell? ⟨w.heap.size + 1 + 1, 0, none⟩ = some (.bool true) := by rw [cell_of_row _ _ _ _ _ (0, 0) g4]; rfl
    refine ⟨.bool true, by simp [results, Try.results32, go_sem, c4], by rw [unhide HALL], ?_⟩
    have h1 := (unhide HB0).trans ((unhide HB1).mono (unhide HB0).size)
    have hm := unhide HM
    refine below_put (C := C) h1 ⟨hm.keep.trans K1 (fun k e => Or.inl (by rw [e]; simp)), hm.sub⟩ (fun k hk => ?_) hdd _
    simp only [List.mem_cons, List.not_mem_nil, or_false] at hk
    omega
  case stop =>
    rintro dd c pre x rest C W hdd hZ ⟨⟨rfl, hall⟩, hblk, hC⟩ hm hnc hK
    have b3 := hblk _ (List.mem_cons_of_mem _ (List.mem_cons_of_mem _ List.mem_cons_self))
    have c3 : W.cell? ⟨w.heap.size + 1 + 1, 0, none⟩ = some (.bool false) := by rw [cell_of_row W _ _ _ _ (0, 0) b3]; rfl
    have HALL := hide (show okPs ws (obs ws 1) = false by rw [hZ, show pre ++ x :: rest = (pre ++ [x]) ++ rest by simp]; exact okPs_false hall)
    have HB3 := hide b3
    have HM := hide hm
    have HK := hide hK
    have HNC := hide (show dd ≠ w.heap.size + 1 + 1 from fun e => hnc ((hC dd).2 (by rw [e]; simp)))
    clear hall b3 hm hK hnc hC hblk hr0 hZ
    gi_wp2_with fail
    refine ⟨by simp, .inl ⟨_, _, rfl, run_takeDeferred (unhide HK), ?_⟩⟩
    have hp := keep_put W dd (.deferred none)
    have g4 := (hp.block (w.heap.size + 1 + 1) (Array.getElem?_eq_some_iff.1 (unhide HB3)).1 (fun e => unhide HNC e.symm)).trans (unhide HB3)
    have c4 : (W.putObj dd (.deferred none)).cell? ⟨w.heap.size + 1 + 1, 0, none⟩ = some (.bool false) := by rw [cell_of_row _ _ _ _ _ (0, 0) g4]; rfl
    refine ⟨.bool false, by simp [results, Try.results32, go_sem, c4], by rw [unhide HALL], ?_⟩
    have h1 := (unhide HB0).trans ((unhide HB1).mono (unhide HB0).size)
    refine below_put h1 (unhide HM) (fun k hk => ?_) hdd _
    simp only [List.mem_cons, List.not_mem_nil, or_false] at hk
    omega
end Go.Proofs.Ytegefnchkgkmgab

/- The landed package cells: Check; the statements' awake. -/
namespace Go.Proofs.Ytegefnchkgkmgab
open Go.RowKit

theorem ccheck_no (s t : Value) (ws rs : List Int) (w : World) (hs : VRow w s (Uw ws)) (ht : VRow w t (Iw rs))
    (h : ¬ (1 ≤ ws.length ∧ ws.length ≤ 1048576 ∧ wd ws 0 = 0 ∧ rs.length ≤ 16)) :
    Calls Try.prog 24 #[s, t] w fun e w' => e = .returned (.int .i64 11) ∧ w' = w := by
  obtain ⟨a, cap, rfl, g1, g2, g3⟩ := hs.shape
  obtain ⟨a', cap', rfl, k1, k2, k3⟩ := ht.shape
  rw [List.length_map] at *
  clear g1 g2 g3 k1 k2 k3 ht
  have hlI : (ws.length : Int) = ((ws.length : Nat) : Int) := rfl
  by_cases h1 : 1 ≤ ws.length
  · have q1 : (1 : Int) ≤ (ws.length : Int) := by omega
    by_cases h2 : ws.length ≤ 1048576
    · have q2 : (ws.length : Int) ≤ 1048576 := by omega
      obtain ⟨b, off, c', e0, j1, j2, hcl⟩ := hs.open (by intro e; have := congrArg List.length e; simp at this; rw [this] at h1; simp at h1)
      simp only [Value.slice.injEq] at e0
      obtain ⟨rfl, j3, rfl⟩ := e0
      clear j1 j2 j3
      have hc := hcl 0 _ (by rw [List.getElem?_map, wd_get h1]; rfl)
      rw [Nat.add_zero] at hc
      by_cases h3 : wd ws 0 = 0
      · have q4 : (16 : Int) < (rs.length : Int) := by
          have : ¬ rs.length ≤ 16 := fun h4 => h ⟨h1, h2, h3, h4⟩
          omega
        rw [h3] at hc
        generalize ws.length = n at *
        clear h1 h2 h3 h hs hcl hlI
        go_enter Try.func24, Try.ntmps24
        go_wp2
        go_ret
        exact ⟨rfl, rfl⟩
      · have q3 : (wd ws 0 == 0) = false := by simpa using h3
        generalize wd ws 0 = x at *
        generalize ws.length = n at *
        clear h1 h2 h hs hcl hlI
        go_enter Try.func24, Try.ntmps24
        go_wp2
        go_ret
        exact ⟨rfl, rfl⟩
    · have q2 : (1048576 : Int) < (ws.length : Int) := by omega
      generalize ws.length = n at *
      clear h1 h2 h hs hlI
      go_enter Try.func24, Try.ntmps24
      go_wp2
      go_ret
      exact ⟨rfl, rfl⟩
  · have q1 : (ws.length : Int) < 1 := by omega
    generalize ws.length = n at *
    clear h1 h hs hlI
    go_enter Try.func24, Try.ntmps24
    go_wp2
    go_ret
    exact ⟨rfl, rfl⟩

def chkE (b : Bool) : Int := if b then 0 else 11
set_option maxHeartbeats 2000000 in
theorem ccheck_yes (s t : Value) (ws rs : List Int) (w : World) (hs : VRow w s (Uw ws)) (ht : VRow w t (Iw rs)) (hU : U32 ws) (hl : ws.length < 70368744177664) (hr : rs.length < 35184372088832)
    (h1 : 1 ≤ ws.length) (h2 : ws.length ≤ 1048576) (h3 : wd ws 0 = 0) (h4 : rs.length ≤ 16) :
    Calls Try.prog 24 #[s, t] w fun e w' => e = .returned (.int .i64 (chkE (heapB ws rs))) ∧ Below w.heap.size w w' := by
  have HS := hide hs
  have HT := hide ht
  have HP := hide (cplaces_any s ws w hs hU hl)
  have HPT := hide (fun g w' (h : MkAt w' g ws.length (obs ws 1)) (hb : Below w.heap.size w w') => chasptrs_any g s ws w' h (hs.below hb) hU hl)
  have HAL := hide (fun g w' (h : MkAt w' g ws.length (obs ws 1)) (hb : Below w.heap.size w w') => chasall_any g ws.length (obs ws 1) t rs w' h (ht.below hb) hr)
  obtain ⟨a, cap, rfl, g1, g2, g3⟩ := hs.shape
  obtain ⟨a', cap', rfl, k1, k2, k3⟩ := ht.shape
  rw [List.length_map] at *
  have q1 : (1 : Int) ≤ (ws.length : Int) := by omega
  have q2 : (ws.length : Int) ≤ 1048576 := by omega
  have q4 : (rs.length : Int) ≤ 16 := by omega
  obtain ⟨b, off, c', e0, j1, j2, hcl⟩ := hs.open (by intro e; have := congrArg List.length e; simp at this; rw [this] at h1; simp at h1)
  simp only [Value.slice.injEq] at e0
  obtain ⟨rfl, j3, rfl⟩ := e0
  clear j1 j2 j3
  have hc := hcl 0 _ (by rw [List.getElem?_map, wd_get h1]; rfl)
  rw [Nat.add_zero, h3] at hc
  have hh : heapB ws rs = (decide (endO (obs ws 1) = ws.length) && okPs ws (obs ws 1) && rs.all (isPl ws.length (obs ws 1))) := rfl
  obtain ⟨E, hE⟩ : ∃ E, E = chkE (heapB ws rs) := ⟨_, rfl⟩
  rw [← hE]
  have HE := hide hE
  have HH := hide hh
  have HA := hide (show ∃ x, x = decide (endO (obs ws 1) = ws.length) ∧ ∃ y, y = okPs ws (obs ws 1) ∧ ∃ z, z = rs.all (isPl ws.length (obs ws 1)) from ⟨_, rfl, _, rfl, _, rfl⟩)
  clear hE hh h1 h2 h3 h4 hs ht hcl hl hr hU g1 g2 g3 k1 k2 k3
  go_enter Try.func24, Try.ntmps24
  go_wp2_with fail
  refine Calls.mono (unhide HP) ?_
  rintro e w1 ⟨g, rfl, hg, hmk, b1⟩
  have HMK := hide (show MkAt w1 g ws.length (obs ws 1) from hmk)
  have HB1 := hide b1
  have d1 : decide ((ws.length : Int) < 1) = false := by simp; omega
  have d2 : decide ((1048576 : Int) < (ws.length : Int)) = false := by simp; omega
  have d3 : decide ((16 : Int) < (rs.length : Int)) = false := by simp; omega
  simp only [d1, d2, d3, Bool.or_false]
  have HPT2 := hide (unhide HPT g w1 (unhide HMK) b1)
  have HAL2 := hide (fun w2 (hb : Below w1.heap.size w1 w2) => unhide HAL g w2 ((unhide HMK).below hb) (b1.trans (hb.mono b1.size)))
  obtain ⟨x, hx, y, hy, z, hz⟩ := unhide HA
  rw [← hx, ← hy, ← hz] at HH
  rw [← hx]
  rw [← hy] at HPT2
  rw [← hz] at HAL2
  clear hx hy hz HA hmk b1 d1 d2 d3 HPT HAL
  cases x with
  | false =>
    rw [Bool.false_and, Bool.false_and] at HH
    go_wp2_with fail
    go_ret
    exact ⟨by rw [unhide HE, unhide HH]; rfl, unhide HB1⟩
  | true =>
    rw [Bool.true_and] at HH
    cases y with
    | false =>
      rw [Bool.false_and] at HH
      go_wp2_with fail
      refine Calls.mono (unhide HPT2) ?_
      rintro e w2 ⟨rfl, b2⟩
      have HB2 := hide ((unhide HB1).trans (b2.mono (unhide HB1).size))
      clear b2
      go_wp2_with fail
      go_ret
      exact ⟨by rw [unhide HE, unhide HH]; rfl, unhide HB2⟩
    | true =>
      rw [Bool.true_and] at HH
      go_wp2_with fail
      refine Calls.mono (unhide HPT2) ?_
      rintro e w2 ⟨rfl, b2⟩
      have HB2 := hide ((unhide HB1).trans (b2.mono (unhide HB1).size))
      have HAL3 := hide (unhide HAL2 w2 b2)
      clear b2 HAL2
      go_wp2_with fail
      refine Calls.mono (unhide HAL3) ?_
      rintro e w3 ⟨rfl, rfl⟩
      cases z with
      | false =>
        go_wp2_with fail
        go_ret
        exact ⟨by rw [unhide HE, unhide HH]; rfl, unhide HB2⟩
      | true =>
        go_wp2_with fail
        go_ret
        exact ⟨by rw [unhide HE, unhide HH]; rfl, unhide HB2⟩

theorem ccheck_any (s t : Value) (ws rs : List Int) (w : World) (hs : VRow w s (Uw ws)) (ht : VRow w t (Iw rs)) (hU : U32 ws) (hl : ws.length < 70368744177664) (hr : rs.length < 35184372088832) :
    Calls Try.prog 24 #[s, t] w fun e w' => e = .returned (.int .i64 (chkE (rightB ws rs))) ∧ Below w.heap.size w w' := by
  by_cases h : 1 ≤ ws.length ∧ ws.length ≤ 1048576 ∧ wd ws 0 = 0 ∧ rs.length ≤ 16
  · obtain ⟨h1, h2, h3, h4⟩ := h
    rw [show rightB ws rs = heapB ws rs by simp [rightB, h1, h2, h3, h4]]
    exact ccheck_yes s t ws rs w hs ht hU hl hr h1 h2 h3 h4
  · have hb : rightB ws rs = false := by
      cases hc : rightB ws rs with
      | false => rfl
      | true =>
        exfalso
        simp only [rightB, Bool.and_eq_true, decide_eq_true_eq] at hc
        exact h ⟨hc.1.1.1.1, hc.1.1.1.2, hc.1.1.2, hc.1.2⟩
    rw [hb]
    refine (ccheck_no s t ws rs w hs ht h).mono ?_
    rintro e w' ⟨rfl, rfl⟩
    exact ⟨rfl, Below.refl _ _⟩

end Go.Proofs.Ytegefnchkgkmgab

/- What Live answers, as plain data; rows that are made in place. Nothing here speaks of package mark. -/
namespace Go.Proofs.Ytegefnchkgkmgab
open Go.RowKit Go.Maps

/-- What Live answers. -/
def LivD (ws rs l : List Int) : Prop := (rightB ws rs = true → LiveIs ws rs l) ∧ (rightB ws rs = false → l = [])
theorem LivD.unique {ws rs l m : List Int} (h : LivD ws rs l) (h2 : LivD ws rs m) : l = m := by
  cases hb : rightB ws rs with
  | false => rw [h.2 hb, h2.2 hb]
  | true => exact (h.1 hb).unique (h2.1 hb)

/-- A new row of numbers. -/
theorem vrow_new (w : World) (l : List Int) (t : TypeId) (hl : l.length ≤ 16) : VRow (w.alloc (.cells (Iw l).toArray t)) (.slice (some ⟨w.heap.size, 0, none⟩) l.length l.length) (Iw l) :=
  ⟨_, l.length, by simp, by simp, by unfold maxLen; omega, by simp, Or.inr ⟨w.heap.size, 0, rfl, fun j v hv => by
    rw [Nat.zero_add, cell_of_row _ w.heap.size j _ _ (0, 0) (World.alloc_heap_new w _)]
    simpa using hv⟩⟩
end Go.Proofs.Ytegefnchkgkmgab

/- What Compact answers, as plain data and in memory; nothing here speaks of a function. -/
namespace Go.Proofs.Ytegefnchkgkmgab
open Go.RowKit

/-- The cells of a list of places that went. -/
def posC (L : List (Int × Int)) : List Value := L.flatMap fun x => [.int .i64 x.1, .int .i64 x.2]
theorem posC_snoc (L : List (Int × Int)) (x : Int × Int) : posC (L ++ [x]) = posC L ++ [.int .i64 x.1, .int .i64 x.2] := by simp [posC]
theorem posC_len (L : List (Int × Int)) : (posC L).length = L.length * 2 := by
  induction L with
  | nil => rfl
  | cons x L ih => simp only [posC, List.flatMap_cons, List.length_append, List.length_cons, List.length_nil] at *; omega
def outW (ws rs l : List Int) : List Int := if rightB ws rs = true then cW ws l else []
def outR (ws rs l : List Int) : List Int := if rightB ws rs = true then cR ws l rs else []
def outP (ws rs l : List Int) : List (Int × Int) := if rightB ws rs = true then posL ws l else []
/-- What Compact answers, in memory. -/
def CmpD (w : World) (base : Nat) (ws rs l : List Int) (vo vr vp : Value) : Prop :=
  w.ownsRow base 31 1 vo (outW ws rs l).length (Uw (outW ws rs l)) ∧ w.ownsRow base 3 1 vr (outR ws rs l).length (Iw (outR ws rs l)) ∧ w.ownsRow base 62 2 vp (outP ws rs l).length (posC (outP ws rs l))

end Go.Proofs.Ytegefnchkgkmgab

/- What is asked of package thread, and the statements' own awake. -/
namespace Go.Proofs.Ytegefnchkgkmgab
open Go.RowKit

/-- What is asked of thread.Compact. -/
def AskC : Prop := ∀ (s t : Value) (ws rs : List Int) (w : World), VRow w s (Uw ws) → VRow w t (Iw rs) → U32 ws → ws.length < 70368744177664 → rs.length < 35184372088832 →
  Calls Try.prog 6 #[s, t] w fun e w' => ∃ vo vr vp l, e = .returned (.tuple #[vo, vr, vp, .int .i64 (chkE (rightB ws rs))]) ∧ LivD ws rs l ∧ CmpD w' w.heap.size ws rs l vo vr vp ∧ Below w.heap.size w w'
theorem awake15_rch (a : Int) : Rch [0, 8193, 7, 4099] [3] a ↔ a = 3 := by
  constructor
  · intro h
    refine h (fun x => x = 3) (fun r hr _ => List.mem_singleton.1 hr) (fun b hb p hp _ => ?_)
    subst hb
    have : ptsA [0, 8193, 7, 4099] 3 = [] := by decide
    rw [this] at hp
    cases hp
  · rintro rfl
    exact .root (by simp) (by decide)
theorem awake15_live : LiveIs [0, 8193, 7, 4099] [3] [3] := ⟨List.pairwise_singleton _ _, fun a => by rw [awake15_rch]; simp⟩
theorem awake15_right : rightB [0, 8193, 7, 4099] [3] = true := by decide +kernel
theorem awake15_out : outW [0, 8193, 7, 4099] [3] [3] = [0, 4099] ∧ outR [0, 8193, 7, 4099] [3] [3] = [1] ∧ outP [0, 8193, 7, 4099] [3] [3] = [(3, 1)] := by
  unfold outW outR outP
  rw [awake15_right]
  refine ⟨?_, ?_, ?_⟩ <;> decide +kernel

set_option maxRecDepth 20000 in
set_option maxHeartbeats 2000000 in
theorem lawake15_any (hA : AskC) (w : World) : Calls Try.prog 5 #[] w fun e w' => e = .returned (.bool true) ∧ Below w.heap.size w w' := by
  have hh : ∀ w, Calls Try.prog 9 #[.int .i64 1, .int .i64 0, .int .i64 3] w fun e w' => e = .returned (.tuple #[.int .u32 4099, .int .i64 0]) ∧ w' = w := fun w => chead_t 1 0 3 w (by omega) (by omega) (by omega) (by omega) (by omega) (by omega)
  have hg : ∀ w, Calls Try.prog 9 #[.int .i64 2, .int .i64 0, .int .i64 1] w fun e w' => e = .returned (.tuple #[.int .u32 8193, .int .i64 0]) ∧ w' = w := fun w => chead_t 2 0 1 w (by omega) (by omega) (by omega) (by omega) (by omega) (by omega)
  obtain ⟨wa, hwa⟩ : ∃ wa, wa = w.alloc (.cells #[.int .u32 0, .int .u32 8193, .int .u32 7, .int .u32 4099] 31) := ⟨_, rfl⟩
  have hr1 : VRow wa (.slice (some ⟨w.heap.size, 0, none⟩) 4 4) (Uw [0, 8193, 7, 4099]) := ⟨_, 4, rfl, Nat.le_refl _, by unfold maxLen; omega, by simp, Or.inr ⟨w.heap.size, 0, rfl, fun j v hv => by
    rw [hwa]
    match j, hv with
    | 0, hv => simp [Uw] at hv; subst hv; simp
    | 1, hv => simp [Uw] at hv; subst hv; simp
    | 2, hv => simp [Uw] at hv; subst hv; simp
    | 3, hv => simp [Uw] at hv; subst hv; simp⟩⟩
  have hr2 := vrow_new wa [3] 3 (by simp)
  have hb1 : Below w.heap.size w wa := by rw [hwa]; exact (Below.refl _ w).alloc (Nat.le_refl _) _
  have hb2 := hb1.alloc hb1.size (.cells #[.int .i64 3] 3)
  have hz1 : wa.heap.size = w.heap.size + 1 := by rw [hwa]; simp
  rw [hz1] at hr2
  have hb3 : Below wa.heap.size wa (wa.alloc (.cells #[.int .i64 3] 3)) := (Below.refl _ wa).alloc (Nat.le_refl _) _
  have hC := hA (.slice (some ⟨w.heap.size, 0, none⟩) 4 4) (.slice (some ⟨w.heap.size + 1, 0, none⟩) 1 1) [0, 8193, 7, 4099] [3] (wa.alloc (.cells #[.int .i64 3] 3)) (hr1.below hb3) hr2 (by
    intro x hx
    simp only [List.mem_cons, List.not_mem_nil, or_false] at hx
    rcases hx with rfl | rfl | rfl | rfl <;> omega) (by decide) (by decide)
  rw [awake15_right, show chkE true = 0 from rfl] at hC
  rw [hwa] at hC hb2
  have HC := hide hC
  have HB := hide hb2
  have HH := hide hh
  have HG := hide hg
  clear hb1 hb2 hr1 hr2 hh hg hC hz1 hb3 hwa
  go_enter Try.func5, Try.ntmps5
  go_wp2_with fail
  refine Calls.mono (unhide HH w) ?_
  rintro e w1 ⟨rfl, rfl⟩
  go_wp2_with fail
  refine Calls.mono (unhide HG w1) ?_
  rintro e w2 ⟨rfl, rfl⟩
  go_wp2_with fail
  refine Calls.mono (unhide HC) ?_
  rintro e w3 ⟨vo, vr, vp, l, rfl, hli, ⟨ho, hr, hp⟩, b2⟩
  have hl : l = [3] := (hli.1 awake15_right).unique awake15_live
  subst hl
  rw [awake15_out.1] at ho
  rw [awake15_out.2.1] at hr
  rw [awake15_out.2.2] at hp
  have HB2 := hide ((unhide HB).trans (b2.mono (unhide HB).size))
  obtain ⟨po, co, rfl⟩ := ownsV_shape ho
  obtain ⟨pr, cr, rfl⟩ := ownsV_shape hr
  obtain ⟨pp, cp, rfl⟩ := ownsV_shape hp
  have hvr := vrow_of_owns (vs := Iw [1]) (s := .slice pr 1 cr) hr
  obtain ⟨bo, of1, cx, e0, _, _, hcl⟩ := hvr.open (by simp)
  simp only [Value.slice.injEq, List.length_map] at e0
  obtain ⟨rfl, e1, rfl⟩ := e0
  have hc0 := hcl 0 (.int .i64 1) (by simp)
  simp only [Nat.add_zero] at hc0
  clear hli ho hr hp b2 e1 hcl hvr
  go_wp2_with fail
  go_ret
  exact ⟨rfl, unhide HB2⟩
end Go.Proofs.Ytegefnchkgkmgab

/- The landed package cells: object. -/
namespace Go.Proofs.Ytegefnchkgkmgab
open Go.RowKit

theorem Try.infoI64 : (Try.prog.info? 3).map (fun i => (i.zero, i.size, i.bytes)) = some (some (.int .i64 0), 1, 8) := by kernel_rfl
theorem Uw_len2 (ws : List Int) : (Uw ws).length = ws.length := List.length_map _
theorem three_cells {w : World} {g e : Nat} {a b c : Value} (h : w.heap[g]? = some (.cells #[a, b, c] e (0, 0))) : w.cell? ⟨g, 0, none⟩ = some a ∧ w.cell? ⟨g, 1, none⟩ = some b ∧ w.cell? ⟨g, 2, none⟩ = some c ∧ ∀ j, w.frozen? ⟨g, j, none⟩ = false := by
  refine ⟨?_, ?_, ?_, fun j => frozen_of_block h⟩
  all_goals (rw [cell_of_row w g _ _ e (0, 0) h]; rfl)
theorem set_three {w : World} {g e : Nat} {a b c x y z : Value} (h : w.heap[g]? = some (.cells #[a, b, c] e (0, 0))) : (((w.setCell ⟨g, 0, none⟩ x).setCell ⟨g, 1, none⟩ y).setCell ⟨g, 2, none⟩ z).heap[g]? = some (.cells #[x, y, z] e (0, 0)) ∧ Keep (fun k => k = g) w (((w.setCell ⟨g, 0, none⟩ x).setCell ⟨g, 1, none⟩ y).setCell ⟨g, 2, none⟩ z) := by
  have h1 := heap_setCell_same w g 0 _ _ x h
  have h2 := heap_setCell_same _ g 1 _ _ y h1
  have h3 := heap_setCell_same _ g 2 _ _ z h2
  exact ⟨by rw [h3]; rfl, ((keep_set w g 0 x).trans (keep_set _ g 1 y) (fun _ e => Or.inl e)).trans (keep_set _ g 2 z) (fun _ e => Or.inl e)⟩
theorem ownsV_base {w : World} {b b' e sz n : Nat} {v : Value} {xs : List Value} (h : w.ownsRow b e sz v n xs) (hb : b' ≤ b) : w.ownsRow b' e sz v n xs := by
  refine ⟨h.1, ?_⟩
  rcases h.2 with h2 | ⟨g, cap, cur, rfl, hg, r⟩
  · exact Or.inl h2
  · exact Or.inr ⟨g, cap, cur, rfl, Nat.le_trans hb hg, r⟩
end Go.Proofs.Ytegefnchkgkmgab

/- The landed package mark: what a walk keeps in memory; pointers, next, meet. -/
namespace Go.Proofs.Ytegefnchkgkmgab
open Go.RowKit

theorem ownsV_take {w : World} {base e n c k : Nat} {p : Option Addr} {xs : List Value} (h : w.ownsRow base e 1 (.slice p n c) n xs) (hk : k ≤ n) : w.ownsRow base e 1 (.slice p k c) k (xs.take k) := by
  obtain ⟨h1, h2⟩ := h
  refine ⟨by rw [List.length_take]; omega, ?_⟩
  rcases h2 with ⟨e1, e2⟩ | ⟨g, cap, cur, e1, a1, a2, a3, a4, a5, a6⟩
  · simp only [Value.slice.injEq] at e1
    obtain ⟨rfl, _, rfl⟩ := e1
    exact Or.inl ⟨by rw [show k = 0 by omega], by omega⟩
  · simp only [Value.slice.injEq] at e1
    obtain ⟨rfl, _, rfl⟩ := e1
    refine Or.inr ⟨g, c, cur, rfl, a1, a2, by omega, a4, a5, ?_⟩
    rw [← a6, List.take_take]
    congr 1
    omega

/-- The sizes of what was met, by places. -/
def szM (ws S : List Int) (x : Int) : Option Value := if x ∈ S then some (.int .i64 (wd ws x.toNat / 4096)) else none
/-- A walk in memory: words v, the map b of what was met (S), the row of what is open (O). -/
structure WAt (w : World) (base g : Nat) (v : Value) (ws : List Int) (b : Nat) (ov : Value) (S O : List Int) : Prop where
  blk : w.heap[g]? = some (.cells #[v, .map (some b), ov] 77 (0, 0))
  map : MapIs Try.prog 3 w b S.length (szM ws S)
  own : w.ownsRow base 3 1 ov O.length (Iw O)
  gb : base ≤ g
  bb : base ≤ b
  og : ov.ownBlock ≠ some g
theorem WAt.isMap {w : World} {base g b : Nat} {v ov : Value} {ws S O : List Int} (h : WAt w base g v ws b ov S O) : ∃ es c, w.heap[b]? = some (.map es c) := by
  obtain ⟨D, ⟨es, clock, h1, h2⟩, h3⟩ := h.map
  exact ⟨es, clock, h1⟩
theorem WAt.gm {w : World} {base g b : Nat} {v ov : Value} {ws S O : List Int} (h : WAt w base g v ws b ov S O) : g ≠ b := fun e => by
  obtain ⟨es, c, h1⟩ := h.isMap
  rw [← e, h.blk] at h1
  cases h1
theorem WAt.om {w : World} {base g b : Nat} {v ov : Value} {ws S O : List Int} (h : WAt w base g v ws b ov S O) : ov.ownBlock ≠ some b := fun e => by
  obtain ⟨es, c, h1⟩ := h.isMap
  rcases h.own.2 with ⟨h2, _⟩ | ⟨g', cap, cur, h2, a1, a2, _⟩
  · rw [h2] at e; cases e
  · rw [h2] at e
    simp only [Value.ownBlock, Option.some.injEq] at e
    rw [e, h1] at a2
    cases a2
theorem WAt.drew {w : World} {base g b : Nat} {v ov : Value} {ws S O : List Int} (h : WAt w base g v ws b ov S O) : WAt w.drew base g v ws b ov S O :=
  ⟨h.blk, h.map.stays rfl, h.own, h.gb, h.bb, h.og⟩

set_option maxRecDepth 20000 in
set_option maxHeartbeats 2000000 in
theorem mpointers_any (w0 w : World) (g b : Nat) (v ov : Value) (ws S O : List Int) (a : Int) (h : WAt w w0.heap.size g v ws b ov S O) (hv : VRow w0 v (Uw ws)) (hb : Below w0.heap.size w0 w) (hU : U32 ws) (hl : ws.length ≤ 1048576) (ha : isOb ws a) :
    Calls Try.prog 38 #[.pointer (some ⟨g, 0, none⟩), .int .i64 a] w fun e w' => (∃ q c, e = .returned (.slice q (ptsA ws a).length c) ∧ VRow w0 (.slice q (ptsA ws a).length c) (Uw (ptsA ws a)) ∧ ∀ k, (Value.slice q (ptsA ws a).length c).ownBlock = some k → v.ownBlock = some k) ∧ ∃ n, w' = w.drewN n := by
  obtain ⟨s1, s2, s3, s4⟩ := isOb_size ha
  obtain ⟨p, hp⟩ : ∃ p : Nat, (p : Int) = a := ⟨_, s4⟩
  subst hp
  simp only [Int.toNat_natCast] at s1 s2 s3
  obtain ⟨c0, c1, c2, hfz⟩ := three_cells h.blk
  obtain ⟨pv, cv, rfl, g1, g2, g3⟩ := hv.shape
  rw [List.length_map] at *
  obtain ⟨q, c', HCUT, HROW, HOB⟩ := hv.cut_lh (t := 24) Try.underlying24 Try.sizeU32 (p + 1) (ptN (wd ws p)) (by rw [List.length_map]; omega)
  obtain ⟨bk, off, cz, e0, k1, k2, hcl⟩ := hv.open (by intro e; have := congrArg List.length e; simp at this; rw [this] at s3; simp at s3)
  simp only [Value.slice.injEq, List.length_map] at e0
  obtain ⟨rfl, e1, rfl⟩ := e0
  have hc0 := hcl p _ (by rw [List.getElem?_map, wd_get s3]; rfl)
  have hc := fun W (hW : Below w.heap.size w W) => ((hb.trans (hW.mono hb.size)).cell (World.block_lt_of_cell? w0 _ hc0)).trans hc0
  obtain ⟨u0, u1⟩ := hU.wd p
  have f2 := ptN_int (wd ws p)
  have HPT := hide (fun w => cptrs_t (wd ws p) w u0 u1)
  have hL := ptsA_len ha
  rw [Int.toNat_natCast] at hL
  have hcw := hc w (Below.refl _ _)
  have h1 : IntKind.i64.wrap ((p : Int) + 1) = (p : Int) + 1 := by rw [IntKind.wrap_i64]; omega
  have h2 : IntKind.i64.wrap ((p : Int) + 1 + wd ws p / 16 % 256) = (p : Int) + 1 + wd ws p / 16 % 256 := by rw [IntKind.wrap_i64]; omega
  have h3 : (p : Int) < (ws.length : Int) := by omega
  have hcut2 : ∀ W, (Instr.slice 24 (.slice (some ⟨bk, off, none⟩) ws.length cv) (some (.int .i64 ((p : Int) + 1))) (some (.int .i64 ((p : Int) + 1 + wd ws p / 16 % 256))) none).run Try.prog W = .ok (.slice q (ptN (wd ws p)) c') W := fun W => by
    have := HCUT W
    rw [← f2]
    simpa using this
  have hmx : Try.prog.follows .mixedOrders = true := by kernel_rfl
  have HE := hide (show ((Uw ws).drop (p + 1)).take (ptN (wd ws p)) = Uw (ptsA ws (p : Int)) by
    unfold ptsA ptrsO
    simp [Uw, List.map_drop, List.map_take])
  have HRW := hide HROW
  have HO := hide HOB
  have HLL := hide hL
  generalize wd ws p = x at *
  generalize hpn : ptN x = m at *
  clear HROW HOB hL HCUT e1 hcl hc hc0 hv hb h hU g1 g2 g3 k1 k2 f2 s1 s2 s3 s4 ha hl
  go_enter Try.func38, Try.ntmps38
  go_wp2_with fail
  refine wp_region_still_lit hmx (by kernel_rfl) ?_
  repeat (first | still_step | still_call (unhide HPT _))
  refine wpStill_nil ?_
  go_wp2_with fail
  go_ret
  have e1 := unhide HLL
  have e2 := unhide HRW
  rw [unhide HE] at e2
  rw [e1]
  exact ⟨⟨q, c', rfl, e2, unhide HO⟩, 1, rfl⟩

/-- The variable of a walk gets another row. -/
theorem wat_put {w : World} {base g b : Nat} {v ov ov' : Value} {ws S O' : List Int} (hblk : w.heap[g]? = some (.cells #[v, .map (some b), ov] 77 (0, 0))) (hmap : MapIs Try.prog 3 w b S.length (szM ws S)) (hgm : g ≠ b) (hgb : base ≤ g) (hbb : base ≤ b)
    (hown : w.ownsRow base 3 1 ov' O'.length (Iw O')) (hog : ov'.ownBlock ≠ some g) :
    WAt (w.setCell ⟨g, 2, none⟩ ov') base g v ws b ov' S O' ∧ Below base w (w.setCell ⟨g, 2, none⟩ ov') := by
  have hK := keep_set w g 2 ov'
  have b1 := heap_setCell_same w g 2 _ _ ov' hblk
  refine ⟨⟨by rw [b1]; rfl, hmap.stays (hK.block b hmap.lt (fun e => hgm e.symm)), ownsV_keep hown hK (fun k hk e => hog (e ▸ hk)), hgb, hbb, hog⟩, hK.os, hK.tape, hK.output, hK.size, fun k hk => ?_⟩
  exact heap_setCell_other w ⟨g, 2, none⟩ k _ (fun e => by dsimp only at e; omega)
theorem WAt.setO {w : World} {base g b : Nat} {v ov ov' : Value} {ws S O O' : List Int} (h : WAt w base g v ws b ov S O) (hown : w.ownsRow base 3 1 ov' O'.length (Iw O')) (hog : ov'.ownBlock ≠ some g) :
    WAt (w.setCell ⟨g, 2, none⟩ ov') base g v ws b ov' S O' ∧ Below base w (w.setCell ⟨g, 2, none⟩ ov') :=
  wat_put h.blk h.map h.gm h.gb h.bb hown hog
/-- One more that is open: laid aside first, then appended, and stored. -/
theorem WAt.push {w w2 : World} {base g b : Nat} {v ov ov' : Value} {ws S O : List Int} {a : Int} (h : WAt w base g v ws b ov S O) (hbw : base ≤ w.heap.size) (hown : w2.ownsRow base 3 1 ov' (O.length + 1) (Iw O ++ [.int .i64 a])) (hg : (w.alloc (.cells #[.int .i64 a] 3)).grownBy w2 ov.ownBlock)
    (hob : ov'.ownBlock = ov.ownBlock ∨ ov'.ownBlock = some (w.heap.size + 1)) :
    WAt (w2.setCell ⟨g, 2, none⟩ ov') base g v ws b ov' S (O ++ [a]) ∧ Below base w (w2.setCell ⟨g, 2, none⟩ ov') := by
  have hgl : g < w.heap.size := (Array.getElem?_eq_some_iff.1 h.blk).1
  have hbl := h.map.lt
  have hkeep : ∀ k, k < w.heap.size → ov.ownBlock ≠ some k → w2.heap[k]? = w.heap[k]? := fun k hk hn =>
    (hg.block k (by rw [World.size_alloc]; omega) (fun e => hn e.symm)).trans (Below.heap_alloc _ _ k hk)
  obtain ⟨r1, r2⟩ := wat_put (w := w2) (S := S) (O' := O ++ [a]) (ws := ws) ((hkeep g hgl h.og).trans h.blk) (h.map.stays (hkeep b hbl h.om)) h.gm h.gb h.bb (ov' := ov') (by simpa using hown) (by
    rcases hob with e | e
    · rw [e]; exact h.og
    · rw [e]; intro e2; simp only [Option.some.injEq] at e2; omega)
  refine ⟨r1, Below.trans ⟨hg.os, hg.tape, hg.output, ?_, fun k hk => hkeep k (by omega) (fun e => ?_)⟩ r2⟩
  · have := hg.size; rw [World.size_alloc] at this; omega
  · have := (h.own.lt k e).1; omega
theorem Try.sizeI64o : (Try.prog.info? 3).map (·.size) = some 1 := by kernel_rfl
theorem wf_i64 {n : Int} (h1 : -9223372036854775808 ≤ n) (h2 : n ≤ 9223372036854775807) : (Lit.int .i64 n).wf = true := by
  simp [Lit.wf, IntKind.min, IntKind.max, IntKind.signed, IntKind.bits]
  omega
/-- The first ones of a row, in its own block. -/
theorem slice_h_own {P : Program} {t e : TypeId} (ht : P.underlying t = some (.slice e)) (hsz : (P.info? e).map (·.size) = some 1) (g n c k : Nat) (hk : k ≤ n) (hn : n ≤ c) (hc : 0 < c) (W : World) :
    (Instr.slice t (.slice (some ⟨g, 0, none⟩) n c) none (some (.int .i64 (k : Int))) none).run P W = .ok (.slice (some ⟨g, 0, none⟩) k c) W := by
  have := run_slice_h (P := P) W t (some ⟨g, 0, none⟩) n c (by rw [elemV_of ht]; exact ht) .i64 (k : Int) (by omega) (by omega)
  rw [this, sizeV_run hsz ht]
  simp only [Result.andThen_ok, Int.toNat_natCast]
  unfold sliced
  rw [if_neg (by omega)]
  simp [Addr.add_lit]

set_option maxRecDepth 20000 in
set_option maxHeartbeats 2000000 in
theorem mnext_any (w : World) (base g b : Nat) (v ov : Value) (ws S O : List Int) (a : Int) (h : WAt w base g v ws b ov S (O ++ [a])) (hl : O.length < 1048576) :
    Calls Try.prog 39 #[.pointer (some ⟨g, 0, none⟩)] w fun e w' => e = .returned (.int .i64 a) ∧ ∃ ov', WAt w' base g v ws b ov' S O ∧ Below base w w' := by
  obtain ⟨c0, c1, c2, hfz⟩ := three_cells h.blk
  have hf2 := hfz 2
  have hown := h.own
  have hlen : (O ++ [a]).length = O.length + 1 := by simp
  rw [hlen] at hown
  have hVR := vrow_of_owns (vs := Iw (O ++ [a])) (s := ov) (by simpa using hown)
  have hog := h.og
  have HH := hide h
  rcases hown.2 with ⟨_, h0⟩ | ⟨ob, co, cur, rfl, a1, a2, a3, a4, a5, a6⟩
  · omega
  have htk := ownsV_take hown (k := O.length) (by omega)
  have HO := hide (show w.ownsRow base 3 1 (.slice (some ⟨ob, 0, none⟩) O.length co) O.length (Iw O) by simpa using htk)
  have hcut := fun W => slice_h_own (P := Try.prog) (t := 22) Try.underlying22 Try.sizeI64o ob (O.length + 1) co O.length (by omega) a3 (by omega) W
  obtain ⟨bk, off, cz, e0, k1, k2, hcl⟩ := hVR.open (by simp)
  simp only [Value.slice.injEq, Option.some.injEq, Addr.mk.injEq] at e0
  obtain ⟨⟨rfl, rfl, _⟩, e1, rfl⟩ := e0
  have hc0 := hcl O.length (.int .i64 a) (by simp)
  simp only [Nat.zero_add] at hc0
  have hsub : wrap64 (O.length : Int) = (O.length : Int) := by unfold wrap64; omega
  have HS := hide (h.setO (unhide HO) hog)
  clear htk hVR hown a1 a2 a3 a4 a5 a6 k1 k2 e1 hcl hl HO h hog hlen
  go_enter Try.func39, Try.ntmps39
  go_wp2_with fail
  go_ret
  exact ⟨rfl, _, unhide HS⟩

theorem szM_snoc (ws S : List Int) (a : Int) : (fun x => if x = a then some (.int .i64 (wd ws a.toNat / 4096)) else szM ws S x) = szM ws (S ++ [a]) := by
  funext x
  unfold szM
  by_cases h : x = a
  · subst h; simp
  · rw [if_neg h]
    simp [h]

set_option maxRecDepth 20000 in
set_option maxHeartbeats 2000000 in
theorem mmeet_any (w0 w : World) (g b : Nat) (v ov : Value) (ws S O : List Int) (a : Int) (h : WAt w w0.heap.size g v ws b ov S O) (hv : VRow w0 v (Uw ws)) (hb : Below w0.heap.size w0 w) (hU : U32 ws) (hl : ws.length ≤ 1048576) (ha : a = 0 ∨ isOb ws a) (hS : S.length ≤ 1048576) (hO : O.length ≤ S.length) :
    Calls Try.prog 37 #[.pointer (some ⟨g, 0, none⟩), .int .i64 a] w fun e w' => e = .returned (.tuple #[]) ∧ ∃ ov', WAt w' w0.heap.size g v ws b ov' (metS S a) (metO S O a) ∧ Below w0.heap.size w w' := by
  obtain ⟨c0, c1, c2, hfz⟩ := three_cells h.blk
  have hf2 := hfz 2
  have hwf : (Lit.int .i64 a).wf = true := wf_i64 (by rcases ha with h | h; omega; have := h.1; omega) (by rcases ha with h | h; omega; have := h.2.1; omega)
  have hlk := h.map.look (P := Try.prog) (k := 3) (t := 59) (e := 3) Try.underlying3 Try.underlying59 (z := .int .i64 0) rfl a hwf
  by_cases hc : a = 0 ∨ a ∈ S
  · unfold metS metO
    rw [if_pos hc, if_pos hc]
    have HW := hide h
    by_cases hs : a ∈ S
    · have e1 : szM ws S a = some (.int .i64 (wd ws a.toNat / 4096)) := by unfold szM; rw [if_pos hs]
      rw [e1] at hlk
      simp only [Option.getD_some, Option.isSome_some] at hlk
      clear hc hs e1 hS hO hl hU hv hb ha hwf h
      go_enter Try.func37, Try.ntmps37
      go_wp2_with fail
      (try simp only [Exit.inBlock, Exit.then])
      refine bodyPost_ret (results_none rfl _ _ _) rfl ?_
      exact ⟨rfl, _, unhide HW, Below.refl _ _⟩
    · have e1 : szM ws S a = none := by unfold szM; rw [if_neg hs]
      have h0 : a = 0 := hc.resolve_right hs
      subst h0
      rw [e1] at hlk
      simp only [Option.getD_none, Option.isSome_none] at hlk
      clear hc hs e1 hS hO hl hU hv hb ha hwf h
      go_enter Try.func37, Try.ntmps37
      go_wp2_with fail
      (try simp only [Exit.inBlock, Exit.then])
      refine bodyPost_ret (results_none rfl _ _ _) rfl ?_
      exact ⟨rfl, _, unhide HW, Below.refl _ _⟩
  · unfold metS metO
    rw [if_neg hc, if_neg hc]
    have h0 : ¬ a = 0 := fun e => hc (Or.inl e)
    have hs : a ∉ S := fun e => hc (Or.inr e)
    have ha := ha.resolve_left h0
    obtain ⟨s1, s2, s3, s4⟩ := isOb_size ha
    obtain ⟨p, hp⟩ : ∃ p : Nat, (p : Int) = a := ⟨_, s4⟩
    subst hp
    have e1 : szM ws S (p : Int) = none := by unfold szM; rw [if_neg hs]
    rw [e1] at hlk
    simp only [Option.getD_none, Option.isSome_none] at hlk
    simp only [Int.toNat_natCast] at s1 s2 s3
    obtain ⟨pv, cv, rfl, g1, g2, g3⟩ := hv.shape
    rw [List.length_map] at *
    obtain ⟨bk, off, cz, e0, k1, k2, hcl⟩ := hv.open (by intro e; have := congrArg List.length e; simp at this; rw [this] at s3; simp at s3)
    simp only [Value.slice.injEq, List.length_map] at e0
    obtain ⟨rfl, e9, rfl⟩ := e0
    have hc0 := hcl p _ (by rw [List.getElem?_map, wd_get s3]; rfl)
    have hcw := (hb.cell (World.block_lt_of_cell? w0 _ hc0)).trans hc0
    obtain ⟨u0, u1⟩ := hU.wd p
    have HSZ := hide (fun w => csize_t (wd ws p) w u0 u1)
    obtain ⟨i0, hi, hz0, hz1, hz2⟩ := info_parts Try.infoI64
    obtain ⟨w5, hrun5, hM5, hg5⟩ := (h.map.stays (w' := w.drew) rfl).put (t := 59) (e := 3) Try.underlying3 Try.underlying59 (by unfold maxLen; omega) (p : Int) hwf (.int .i64 (wd ws p / 4096))
    have hgl : g < w.heap.size := (Array.getElem?_eq_some_iff.1 h.blk).1
    have hblk5 := (hg5.block g hgl (fun e => h.gm (Option.some.inj e))).trans h.drew.blk
    have hown5 : w5.ownsRow w0.heap.size 3 1 ov O.length (Iw O) := ownsV_keep (F := fun k => k = b) h.own ⟨hg5.os, hg5.tape, hg5.output, hg5.size, fun k hk hn => hg5.block k hk (fun e => hn (Option.some.inj e))⟩ (fun k hk e => h.om (e ▸ hk))
    have hM6 : MapIs Try.prog 3 w5 b (S ++ [(p : Int)]).length (szM ws (S ++ [(p : Int)])) := by
      have := szM_snoc ws S (p : Int)
      rw [Int.toNat_natCast] at this
      rw [← this, List.length_append, List.length_singleton]
      exact hM5
    have hW5 : WAt w5 w0.heap.size g (.slice (some ⟨bk, off, none⟩) ws.length cv) ws b ov (S ++ [(p : Int)]) O := ⟨hblk5, hM6, hown5, h.gb, h.bb, h.og⟩
    have hB5 : Below w0.heap.size w w5 := ⟨hg5.os, hg5.tape, hg5.output, hg5.size, fun k hk => hg5.block k (Nat.lt_of_lt_of_le hk hb.size) (fun e => by have := h.bb; have := Option.some.inj e; omega)⟩
    obtain ⟨d0, d1, d2, hfz5⟩ := three_cells hblk5
    have hf52 := hfz5 2
    have HJ := hide (And.intro hW5 (And.intro hB5 (And.intro hS hO)))
    have HBB := hide hb
    have hmx : Try.prog.follows .mixedOrders = true := by kernel_rfl
    have hpI : (p : Int) < (ws.length : Int) := by omega
    have hpn : ((p : Int) == 0) = false := by simpa using h0
    obtain ⟨po, co, rfl⟩ := ownsV_shape hown5
    have HJ5 := hide (Nat.le_trans hb.size hg5.size)
    have HOW := hide (show (w5.alloc (.cells #[.int .i64 (p : Int)] 3)).ownsRow w0.heap.size 3 1 (.slice po O.length co) O.length (Iw O) from ownsV_keep (F := fun _ => False) hown5 (Keep.of_below ((Below.refl _ _).alloc (Nat.le_refl _) _)) (fun _ _ => id))
    have HNW := hide (show ∀ (j : Nat) (u : Value), [Value.int .i64 (p : Int)][j]? = some u → (w5.alloc (.cells #[.int .i64 (p : Int)] 3)).cell? ((⟨w5.heap.size, 0, none⟩ : Addr).add j) = some u from fun j u hj => by match j, hj with | 0, hj => (simp at hj; subst hj; simp [Addr.add]))
    have HL1 := hide (show O.length + 1 ≤ maxLen by unfold maxLen; omega)
    have HL2 := hide (show (O.length + 1) * 8 ≤ 140737488355328 by omega)
    have HL3 := hide (show w0.heap.size ≤ (w5.alloc (.cells #[.int .i64 (p : Int)] 3)).heap.size by rw [World.size_alloc]; have := unhide HJ5; omega)
    have hdw : w.drew.heap.size = w.heap.size := rfl
    have hs5 := hg5.size
    rw [hdw] at hs5
    have HK2 := hide (fun w2 (hg : (w5.alloc (.cells #[.int .i64 (p : Int)] 3)).grownBy w2 (Value.slice po O.length co).ownBlock) => (show w2.heap[g]? = some (.cells #[.slice (some ⟨bk, off, none⟩) ws.length cv, .map (some b), .slice po O.length co] 77 (0, 0)) from
      (hg.block g (by rw [World.size_alloc]; omega) (fun e => h.og e.symm)).trans ((Below.heap_alloc _ _ g (by omega)).trans hblk5)))
    generalize wd ws p = x at *
    clear hc hs e1 hS hO hl hU hv hb ha hwf h s1 s2 s3 s4 g1 g2 g3 k1 k2 hcl hc0 hM5 hg5 hgl hblk5 hown5 hM6 hW5 hB5 e9 hfz5 hs5 hdw
    go_enter Try.func37, Try.ntmps37
    go_wp2_with fail
    refine wp_region_still_tail 13 hmx (by kernel_rfl) ?_
    simp only [List.take_succ_cons, List.take_zero, List.drop_succ_cons, List.drop_zero]
    repeat (first | still_step | still_call (unhide HSZ _))
    refine wpStill_nil ?_
    go_wp2_with (first
      | (at_builtin; refine wpList_append_gen rfl _ _ 22 rfl w0.heap.size 3 i0 (.int .i64 0) Try.underlying22 hi hz0 1 8 (by omega) hz1 hz2 rfl (.slice po O.length co) O.length (Iw O) rfl (unhide HOW) ⟨w5.heap.size, 0, none⟩ 1 1 [.int .i64 (p : Int)] rfl rfl (unhide HNW) (by intro u hu; simp at hu; subst hu; rfl) (unhide HL1) (unhide HL2) (unhide HL3) ?_))
    intro v2 w2 hown2 hgrow2 hob2
    have HF := hide ((unhide HJ).1.push (unhide HJ5) hown2 hgrow2 hob2)
    obtain ⟨f0, f1, f2, hfz2⟩ := three_cells (unhide HK2 w2 hgrow2)
    have hf22 := hfz2 2
    obtain ⟨p2, c2', rfl⟩ := ownsV_shape hown2
    clear hown2 hgrow2 hob2 d0 d1 d2 hf52 c0 c1 c2 hfz hf2 hlk
    go_wp2_with fail
    go_end0
    exact ⟨rfl, _, (unhide HF).1, (unhide HJ).2.1.trans (unhide HF).2⟩
end Go.Proofs.Ytegefnchkgkmgab

/- The statements' own 'told': what All tells, up to so many. -/
namespace Go.Proofs.Ytegefnchkgkmgab
open Go.RowKit Go.Shelf
attribute [local go_sem] Oper.semAt_some

theorem Try.infoInt : (Try.prog.info? 3).map (fun i => (i.zero, i.size, i.bytes)) = some (some (.int .i64 0), 1, 8) := by kernel_rfl
/-- The places that came. -/
def plV (pre : List (Nat × Int)) : List Value := pre.map fun x => .int .i64 (x.1 : Int)
theorem plV_snoc (pre : List (Nat × Int)) (p : Nat) (h : Int) : plV (pre ++ [(p, h)]) = plV pre ++ [.int .i64 (p : Int)] := by simp [plV]
/-- Variables that stand, and one that holds a row that grows. -/
def MixI (L : List (Nat × Obj)) (B TB E sz n : Nat) (xs : List Value) (C : Nat → Prop) (W : World) : Prop :=
  ∃ C1, (∀ x ∈ L, W.heap[x.1]? = some x.2) ∧ GR B TB E sz n xs C1 W ∧ (∀ x ∈ L, ¬ C1 x.1) ∧ ∀ k, C k ↔ k ∈ L.map Prod.fst ∨ C1 k
theorem MixI.stays {L : List (Nat × Obj)} {B TB E sz n : Nat} {xs : List Value} {C : Nat → Prop} {W W' : World} {G : Nat → Prop} (h : MixI L B TB E sz n xs C W) (hk : Keep G W W') (hn : ∀ k, C k → ¬ G k) : MixI L B TB E sz n xs C W' := by
  obtain ⟨C1, h1, h2, h3, h4⟩ := h
  exact ⟨C1, fun x hx => (hk.block _ (Array.getElem?_eq_some_iff.1 (h1 x hx)).1 (hn _ ((h4 _).2 (Or.inl (List.mem_map.2 ⟨x, hx, rfl⟩))))).trans (h1 x hx), h2.stays hk (fun k hk => hn k ((h4 k).2 (Or.inr hk))), h3, h4⟩
theorem MixI.lt {L : List (Nat × Obj)} {B TB E sz n : Nat} {xs : List Value} {C : Nat → Prop} {W : World} (h : MixI L B TB E sz n xs C W) (k : Nat) (hc : C k) : k < W.heap.size := by
  obtain ⟨C1, h1, h2, h3, h4⟩ := h
  rcases (h4 k).1 hc with h | h
  · obtain ⟨x, hx, rfl⟩ := List.mem_map.1 h
    exact (Array.getElem?_eq_some_iff.1 (h1 x hx)).1
  · exact h2.lt k h
/-- The row grows, the others stand. -/
theorem MixI.more {L : List (Nat × Obj)} {B TB E sz n' : Nat} {xs' : List Value} {C C1 C2 : Nat → Prop} {W W' : World} (h1 : ∀ x ∈ L, W.heap[x.1]? = some x.2) (h3 : ∀ x ∈ L, ¬ C1 x.1) (h4 : ∀ k, C k ↔ k ∈ L.map Prod.fst ∨ C1 k)
    (h2 : GR B TB E sz n' xs' C2 W') (hm : Moves C1 C2 W W') : MixI L B TB E sz n' xs' (fun k => k ∈ L.map Prod.fst ∨ C2 k) W' ∧ Moves C (fun k => k ∈ L.map Prod.fst ∨ C2 k) W W' := by
  refine ⟨⟨C2, fun x hx => (hm.keep.block _ (Array.getElem?_eq_some_iff.1 (h1 x hx)).1 (h3 x hx)).trans (h1 x hx), h2, fun x hx hc => ?_, fun _ => Iff.rfl⟩, hm.keep.weak (fun k hk => (h4 k).2 (Or.inr hk)), fun k hk => ?_⟩
  · rcases hm.sub _ hc with h | h
    · exact h3 x hx h
    · have := (Array.getElem?_eq_some_iff.1 (h1 x hx)).1; omega
  · rcases hk with hk | hk
    · exact Or.inl ((h4 k).2 (Or.inl hk))
    · rcases hm.sub k hk with h | h
      · exact Or.inl ((h4 k).2 (Or.inr h))
      · exact Or.inr h

def ToI (L : List (Nat × Obj)) (B most : Nat) (pre : List (Nat × Int)) (C : Nat → Prop) (W : World) : Prop := pre.length ≤ most ∧ MixI L B 22 3 1 pre.length (plV pre) C W
theorem ToI.ok (L : List (Nat × Obj)) (B most b : Nat) : SOk b (ToI L B most) := ⟨fun _ _ _ _ _ h hk hn _ => ⟨h.1, h.2.stays hk hn⟩, fun _ _ _ h k hc => h.2.lt k hc⟩
def ToX (L : List (Nat × Obj)) (B most : Nat) (c : Code) (xs : List (Nat × Int)) (C : Nat → Prop) (W : World) : Prop := c = .exit 0 ∧ xs.dropLast.length = most ∧ MixI L B 22 3 1 xs.dropLast.length (plV xs.dropLast) C W
theorem ToX.ok (L : List (Nat × Obj)) (B most b : Nat) (c : Code) : SOk b (ToX L B most c) := ⟨fun _ _ _ _ _ h hk hn _ => ⟨h.1, h.2.1, h.2.2.stays hk hn⟩, fun _ _ _ h k hc => h.2.2.lt k hc⟩

theorem four_new (w : World) (x y z u : Obj) : (((((w.alloc x).alloc y).alloc z).alloc u).heap[w.heap.size]? = some x) ∧ (((((w.alloc x).alloc y).alloc z).alloc u).heap[w.heap.size + 1]? = some y) ∧ (((((w.alloc x).alloc y).alloc z).alloc u).heap[w.heap.size + 1 + 1]? = some z) ∧ (((((w.alloc x).alloc y).alloc z).alloc u).heap[w.heap.size + 1 + 1 + 1]? = some u) := by
  obtain ⟨h1, h2, h3⟩ := three_new w x y z
  have hs : (((w.alloc x).alloc y).alloc z).heap.size = w.heap.size + 1 + 1 + 1 := by simp
  refine ⟨(Below.heap_alloc _ _ _ (by omega)).trans h1, (Below.heap_alloc _ _ _ (by omega)).trans h2, (Below.heap_alloc _ _ _ (by omega)).trans h3, ?_⟩
  have := World.alloc_heap_new (((w.alloc x).alloc y).alloc z) u
  rw [hs] at this
  exact this
/-- The variables of 'told' that stand. -/
def toL (n : Nat) (s : Value) (most : Nat) : List (Nat × Obj) := [(n, .cells #[s] 24 (0, 0)), (n + 1, .cells #[.int .i64 (most : Int)] 3 (0, 0)), (n + 1 + 1, .cells #[.slice none 0 0] 22 (0, 0)), (n + 1 + 1 + 1, .cells #[.bool false] 4 (0, 0))]
theorem toL_all {n : Nat} {s : Value} {most : Nat} {W : World} (h : ∀ x ∈ toL n s most, W.heap[x.1]? = some x.2) : W.heap[n]? = some (.cells #[s] 24 (0, 0)) ∧ W.heap[n + 1]? = some (.cells #[.int .i64 (most : Int)] 3 (0, 0)) ∧ W.heap[n + 1 + 1]? = some (.cells #[.slice none 0 0] 22 (0, 0)) ∧ W.heap[n + 1 + 1 + 1]? = some (.cells #[.bool false] 4 (0, 0)) :=
  ⟨h _ (List.mem_cons_self), h _ (List.mem_cons_of_mem _ List.mem_cons_self), h _ (List.mem_cons_of_mem _ (List.mem_cons_of_mem _ List.mem_cons_self)), h _ (List.mem_cons_of_mem _ (List.mem_cons_of_mem _ (List.mem_cons_of_mem _ List.mem_cons_self)))⟩
theorem toL_mem {n : Nat} {s : Value} {most : Nat} {k : Nat} : k ∈ (toL n s most).map Prod.fst ↔ k = n ∨ k = n + 1 ∨ k = n + 1 + 1 ∨ k = n + 1 + 1 + 1 := by simp [toL]

end Go.Proofs.Ytegefnchkgkmgab

/- The landed package cells: At. -/
namespace Go.Proofs.Ytegefnchkgkmgab
open Go.RowKit Go.Shelf
attribute [local go_sem] Oper.semAt_some

/-- What At answers: kind, pointers, data, error. -/
def atR (ws : List Int) (a : Int) : Int × List Int × List Int × Int := match fndO ws a with
  | some x => (x.2 % 16, ptrsO ws x, dataO ws x, 0)
  | none => (0, [], [], 6)
theorem atR_some {ws : List Int} {pre rest : List (Nat × Int)} {x : Nat × Int} (h : obs ws 1 = pre ++ x :: rest) : atR ws (x.1 : Int) = (x.2 % 16, ptrsO ws x, dataO ws x, 0) := by
  have hf : fndO ws (x.1 : Int) = some x := by
    unfold fndO
    rw [h, List.find?_append]
    have h1 : pre.find? (fun y => decide ((y.1 : Int) = (x.1 : Int))) = none := by
      rw [List.find?_eq_none]
      intro y hy
      have := (obs_ahead h).2 y hy
      simp; omega
    rw [h1]
    simp
  simp only [atR, hf]
theorem atR_none {ws : List Int} {a : Int} (h : ∀ x ∈ obs ws 1, ¬ (x.1 : Int) = a) : atR ws a = (0, [], [], 6) := by
  have hf : fndO ws a = none := by
    unfold fndO
    rw [List.find?_eq_none]
    intro y hy
    simpa using h y hy
  simp only [atR, hf]
/-- Behind a place that is too great nothing more is met. -/
theorem obs_behind {ws : List Int} {pre rest : List (Nat × Int)} {x : Nat × Int} {a : Int} (h : obs ws 1 = pre ++ x :: rest) (h1 : ∀ y ∈ pre, (y.1 : Int) < a) (h2 : a < (x.1 : Int)) : ∀ y ∈ obs ws 1, ¬ (y.1 : Int) = a := by
  intro y hy
  rw [h, List.mem_append, List.mem_cons] at hy
  rcases hy with hy | rfl | hy
  · have := h1 y hy; omega
  · omega
  · obtain ⟨q1, q2, hq⟩ := List.append_of_mem hy
    have hs : obs ws 1 = (pre ++ x :: q1) ++ y :: q2 := by rw [h, hq]; simp
    have := (obs_ahead hs).2 x (by simp)
    omega

/-- All that came lies ahead of the place. -/
def lowP (a : Int) (pre : List (Nat × Int)) : Prop := ∀ y ∈ pre, (y.1 : Int) < a
end Go.Proofs.Ytegefnchkgkmgab

/- The reference of layer 13: Places, starts, place. -/
namespace Go.Proofs.Ytegefnchkgkmgab
open Go.RowKit

end Go.Proofs.Ytegefnchkgkmgab

/- The reference of layer 13: starts, Right. -/
namespace Go.Proofs.Ytegefnchkgkmgab
open Go.RowKit

theorem marks_take {Z : List (Nat × Int)} {n k : Nat} (h : k < Z.length) : (marks n (Z.take k)).set Z[k].1 true = marks n (Z.take (k + 1)) := by
  rw [List.take_succ_eq_append_getElem h, marks_snoc]
theorem plV_at {Z : List (Nat × Int)} {k : Nat} (h : k < Z.length) : (plV Z)[k]? = some (.int .i64 ((Z[k].1 : Nat) : Int)) := by
  simp [plV, h]

end Go.Proofs.Ytegefnchkgkmgab

/- The reference of layer 13: At. -/
namespace Go.Proofs.Ytegefnchkgkmgab
open Go.RowKit

theorem atR_at {ws : List Int} {k : Nat} (h : k < (obs ws 1).length) : atR ws ((obs ws 1)[k].1 : Int) = ((obs ws 1)[k].2 % 16, ptrsO ws (obs ws 1)[k], dataO ws (obs ws 1)[k], 0) := by
  have hs : obs ws 1 = (obs ws 1).take k ++ (obs ws 1)[k] :: (obs ws 1).drop (k + 1) := by
    rw [← List.drop_eq_getElem_cons h, List.take_append_drop]
  exact atR_some hs

end Go.Proofs.Ytegefnchkgkmgab

/- A ring without roots, and a ring of which each object is a root; nothing here speaks of the program. -/
namespace Go.Proofs.Ytegefnchkgkmgab
open Go.RowKit

theorem right_ends {ws rs : List Int} (h : rightB ws rs = true) : 1 ≤ ws.length ∧ wd ws 0 = 0 ∧ endO (obs ws 1) = ws.length := by
  unfold rightB heapB at h
  simp only [Bool.and_eq_true, decide_eq_true_eq] at h
  exact ⟨h.1.1.1.1, h.1.1.2, h.2.1.1⟩
theorem none_live {ws l : List Int} (h : LivD ws [] l) : l = [] := by
  cases hb : rightB ws [] with
  | false => exact h.2 hb
  | true =>
    refine List.eq_nil_iff_forall_not_mem.2 fun a ha => ?_
    exact ((h.1 hb).2 a).1 ha (fun _ => False) (fun r hr _ => by cases hr) (fun b hb _ _ _ => hb)
theorem rg_none {n : Nat} {st l : List Int} (hn : 0 < n) (hn2 : n ≤ 40) (hs : st.length ≤ 3) (h : LivD (rgW n st) [] l) :
    rightB (rgW n st) [] = true ∧ outW (rgW n st) [] l = [0] ∧ outR (rgW n st) [] l = [] ∧ outP (rgW n st) [] l = [] := by
  have hR := rg_right (rs := []) hn hn2 hs (by simp) (fun r hr => by cases hr)
  have hl := none_live h
  subst hl
  refine ⟨hR, ?_, ?_, ?_⟩
  · unfold outW; rw [if_pos hR]; rfl
  · unfold outR; rw [if_pos hR]; rfl
  · unfold outP; rw [if_pos hR]; rfl
/-- The places of all objects of a ring. -/
def rgR (n p : Nat) : List Int := (List.range n).map fun i => ((1 + i * (2 + p) : Nat) : Int)
theorem rg_all {n : Nat} {st l : List Int} (hn : 0 < n) (hn2 : n ≤ 14) (hs : st.length ≤ 3) (h : LivD (rgW n st) (rgR n st.length) l) :
    rightB (rgW n st) (rgR n st.length) = true ∧ outW (rgW n st) (rgR n st.length) l = rgW n st ∧ outR (rgW n st) (rgR n st.length) l = rgR n st.length ∧ (outP (rgW n st) (rgR n st.length) l).length = n := by
  have hO : ∀ r ∈ rgR n st.length, isOb (rgW n st) r := fun r hr => by
    obtain ⟨i, hi, rfl⟩ := List.mem_map.1 hr
    exact (rg_ob (by omega) hs).2 ⟨i, List.mem_range.1 hi, rfl⟩
  have hR := rg_right (rs := rgR n st.length) hn (by omega) hs (by unfold rgR; simp; omega) (fun r hr => Or.inr (hO r hr))
  have hli := h.1 hR
  have hL := Liv.of (rg_u32 (by omega)) hR hli
  have hro : ∀ r ∈ rgR n st.length, r ∈ l := fun r hr => (hli.2 r).2 (.root hr (by have := (hO r hr).1; omega))
  have ha : ∀ x ∈ obs (rgW n st) 1, (x.1 : Int) ∈ l := fun x hx => by
    rw [rg_obs1 (by omega) hs] at hx
    obtain ⟨j, hj, rfl⟩ := List.mem_map.1 hx
    exact hro _ (List.mem_map.2 ⟨j, hj, rfl⟩)
  obtain ⟨h1, h2, h3⟩ := right_ends hR
  have hlen : l.length = n := by
    rw [all_is hL ha, List.length_map, rg_obs1 (by omega) hs, List.length_map, List.length_range]
  refine ⟨hR, ?_, ?_, ?_⟩
  · unfold outW; rw [if_pos hR]; exact cW_all hL ha h2 h1 h3
  · unfold outR cR
    rw [if_pos hR]
    conv => rhs; rw [← List.map_id (rgR n st.length)]
    exact List.map_congr_left fun r hr => all_to hL ha (Or.inr (hro r hr))
  · unfold outP posL; rw [if_pos hR, List.length_map, hlen]
end Go.Proofs.Ytegefnchkgkmgab

/- The statements' own ring of layer 15. -/
namespace Go.Proofs.Ytegefnchkgkmgab
open Go.RowKit

theorem Try.infoU32r : (Try.prog.info? 31).map (fun i => (i.zero, i.size, i.bytes)) = some (some (.int .u32 0), 1, 4) := by kernel_rfl
theorem own_word15 (w : World) : (w.alloc (.cells #[.int .u32 0] 31)).ownsRow w.heap.size 31 1 (.slice (some ⟨w.heap.size, 0, none⟩) 1 1) 1 (Uw [0]) :=
  ⟨rfl, Or.inr ⟨w.heap.size, 1, _, rfl, Nat.le_refl _, World.alloc_heap_new w _, Nat.le_refl _, by unfold maxLen; omega, rfl, rfl⟩⟩
theorem step_mod (x : Int) (n : Nat) (h : 0 < n) (hn : n ≤ 40) : wrap64 ((IntKind.u64.wrap x).tmod (n : Int)) = (stpN n x : Int) := by
  have h0 : 0 ≤ IntKind.u64.wrap x := by rw [IntKind.wrap_u64]; omega
  have h1 := Int.emod_nonneg (IntKind.u64.wrap x) (show (n : Int) ≠ 0 by omega)
  have h2 := Int.emod_lt_of_pos (IntKind.u64.wrap x) (show (0 : Int) < n by omega)
  unfold stpN
  rw [Int.tmod_eq_emod_of_nonneg h0]
  generalize IntKind.u64.wrap x % (n : Int) = y at *
  unfold wrap64
  omega

set_option maxRecDepth 20000 in
set_option maxHeartbeats 2000000 in
theorem lring_any (v : Value) (steps : List Int) (n : Nat) (w : World) (hv : VRow w v (Iw steps)) (hl : steps.length < 35184372088832) (hn : 0 < n) (hn2 : n ≤ 40) :
    Calls Try.prog 4 #[.int .i64 (n : Int), v] w fun e w' => ∃ r, e = .returned r ∧ w'.ownsRow w.heap.size 31 1 r (rgW n (steps.take 3)).length (Uw (rgW n (steps.take 3))) ∧ Below w.heap.size w w' := by
  have HV := hide hv
  obtain ⟨i4, hi4, hy0, hy1, hy2⟩ := info_parts Try.infoU32r
  have hmx : Try.prog.follows .mixedOrders = true := by kernel_rfl
  obtain ⟨a, cap, rfl, g1, g2, g3⟩ := hv.shape
  have hlr : (Iw steps).length = steps.length := by simp
  rw [hlr] at HV ⊢
  obtain ⟨st, hst⟩ : ∃ st, st = steps.take 3 := ⟨_, rfl⟩
  have hsl : st.length = min 3 steps.length := by rw [hst, List.length_take]
  rw [← hst]
  obtain ⟨p, hp⟩ : ∃ p, p = st.length := ⟨_, rfl⟩
  have hp3 : p ≤ 3 := by omega
  have hpl : p ≤ steps.length := by omega
  have HP := hide (And.intro hp (And.intro hp3 (And.intro hst (And.intro hsl hpl))))
  have HN := hide (And.intro hn hn2)
  have HO0 := hide (own_word15 w)
  have HB0 := hide ((Below.refl _ w).alloc (Nat.le_refl _) (.cells #[.int .u32 0] 31))
  obtain ⟨hv0, hh⟩ : ∃ h : Int, h = (2 + (p : Int)) * 4096 + (p : Int) * 16 + ((n : Int) % 16) := ⟨_, rfl⟩
  have HE := hide hh
  have h16 : (n : Int) % 16 < 16 := by omega
  have h17 : 0 ≤ (n : Int) % 16 := by omega
  have H3 := hide (fun w (_ : 3 < (steps.length : Int)) => chead_t 5 3 ((n : Int) % 16) w (by omega) (by omega) (by omega) (by omega) (by omega) (by omega))
  have H2 := hide (fun w (_ : (steps.length : Int) ≤ 3) => chead_t (2 + (steps.length : Int)) steps.length ((n : Int) % 16) w (by omega) (by omega) (by omega) (by omega) (by omega) (by omega))
  have hpl3 : 3 < (steps.length : Int) → p = 3 ∧ 5 * 4096 + 3 * 16 + (n : Int) % 16 = hv0 := fun hc => by
    have : p = 3 := by omega
    exact ⟨this, by rw [hh, this]; rfl⟩
  have hpl2 : (steps.length : Int) ≤ 3 → p = steps.length ∧ (2 + (steps.length : Int)) * 4096 + (steps.length : Int) * 16 + (n : Int) % 16 = hv0 := fun hc => by
    have : p = steps.length := by omega
    exact ⟨this, by rw [hh, this]⟩
  have HP3 := hide hpl3
  have HP2 := hide hpl2
  have HR := hide h17
  clear hv hl g1 g2 g3 hlr hp hst hsl hp3 hn hn2 hh h16 h17 hpl hpl2 hpl3
  go_enter Try.func4, Try.ntmps4
  go_wp2_with fail
  case' inl =>
    have hc : 3 < (steps.length : Int) := by assumption
    obtain ⟨e1, e2⟩ := unhide HP3 hc
    have hd := unhide H3 w hc
    rw [e2] at hd
    have e3 : (3 : Int) = (p : Int) := by rw [e1]; rfl
    refine Calls.mono hd ?_
    rintro e w1 ⟨rfl, rfl⟩
    rw [show Value.int .i64 3 = Value.int .i64 (p : Int) by rw [e3]]
    clear hd H3 H2 HP3 HP2 hc e1 e2 e3
  case' inr =>
    have hc : (steps.length : Int) ≤ 3 := by first | assumption | omega
    obtain ⟨e1, e2⟩ := unhide HP2 hc
    have hd := unhide H2 w hc
    rw [e2] at hd
    refine Calls.mono hd ?_
    rintro e w1 ⟨rfl, rfl⟩
    rw [show Value.int .i64 (steps.length : Int) = Value.int .i64 (p : Int) by rw [e1]]
    clear hd H3 H2 HP3 HP2 hc e1 e2
  all_goals
    go_wp2_with fail
    go_loopw [8, 9] (fun o i wr => ∃ k : Nat, k ≤ n ∧ i = .int .i64 (k : Int) ∧ wr.ownsRow w1.heap.size 31 1 o (1 + k * (2 + p)) (Uw (layW ((List.range k).map (rgO n st)))) ∧ Below w1.heap.size w1 wr) (fun _ i _ => n - (intOf i).toNat)
    case atStart => exact ⟨0, Nat.zero_le _, rfl, by simpa [layW] using unhide HO0, unhide HB0⟩
    case round =>
      clear HO0 HB0
      obtain ⟨k, hk, rfl, hown, hb⟩ := hrel
      rename World => wr
      obtain ⟨pv, cv, rfl⟩ := ownsV_shape hown
      by_cases hlt : k < n
      · have hkI : (k : Int) < (n : Int) := by omega
        have hnw : IntKind.i64.wrap ((k : Int) + 1) = (k : Int) + 1 := by have := unhide HN; rw [IntKind.wrap_i64]; omega
        have hwb : 1 + k * (2 + p) ≤ 400 := by
          have h1 : k * (2 + p) ≤ 40 * 5 := Nat.mul_le_mul (by have := (unhide HN).2; omega) (by have := (unhide HP).2.1; omega)
          omega
        obtain ⟨m, hm⟩ : ∃ m, m = 1 + k * (2 + p) := ⟨_, rfl⟩
        rw [← hm] at hown hwb ⊢
        obtain ⟨lw, hlw⟩ : ∃ lw, lw = layW ((List.range k).map (rgO n st)) := ⟨_, rfl⟩
        rw [← hlw] at hown
        have HM := hide (And.intro hm (And.intro hlw hwb))
        have hbW : Below wr.heap.size wr (wr.alloc (.cells #[.int .u32 hv0] 31)) := (Below.refl _ wr).alloc (Nat.le_refl _) _
        have HOW := hide (show (wr.alloc (.cells #[.int .u32 hv0] 31)).ownsRow w1.heap.size 31 1 (.slice pv m cv) m (Uw lw) from ownsV_keep (F := fun _ => False) hown (Keep.of_below hbW) (fun _ _ => id))
        have HB := hide (hb.trans (hbW.mono hb.size))
        have HLT := hide hlt
        clear hown hb hk hlt hwb hbW hm hlw
        go_wp2_with (first
          | (at_builtin; refine wpList_append_gen rfl _ _ 24 rfl w1.heap.size 31 i4 (.int .u32 0) Try.underlying24 hi4 hy0 1 4 (by omega) hy1 hy2 rfl (.slice pv m cv) m (Uw lw) rfl (unhide HOW) ⟨wr.heap.size, 0, none⟩ 1 1 [.int .u32 hv0] rfl rfl (by intro j u hj; match j, hj with | 0, hj => (simp at hj; subst hj; simp [Addr.add])) (by intro u hu; simp at hu; subst hu; rfl) (by have := (unhide HM).2.2; unfold maxLen; simp; omega) (by have := (unhide HM).2.2; simp; omega) (unhide HB).size ?_))
        intro v2 w2 hown2 hgrow2 hob2
        have hb2 := (unhide HB).grown hgrow2 (unhide HB).size (fun k e => ((unhide HOW).lt k e).1)
        obtain ⟨pv2, cv2, rfl⟩ := ownsV_shape hown2
        have HJ := hide (And.intro hown2 hb2)
        clear hown2 hgrow2 hob2 hb2 HOW HB
        go_wp2_with fail
        go_loopw [8, 10] (fun o i wx => ∃ j : Nat, j ≤ p ∧ i = .int .i64 (j : Int) ∧ wx.ownsRow w1.heap.size 31 1 o (m + 1 + j) (Uw (lw ++ hv0 :: (rgP n st k).take j)) ∧ Below w1.heap.size w1 wx) (fun _ i _ => p - (intOf i).toNat)
        case atStart => exact ⟨0, Nat.zero_le _, rfl, by simpa [Uw] using (unhide HJ).1, (unhide HJ).2⟩
        case round =>
          clear HJ
          obtain ⟨j, hj, rfl, hown, hb⟩ := hrel
          obtain ⟨pv3, cv3, rfl⟩ := ownsV_shape hown
          rename World => wx
          have hvr := (unhide HV).below hb
          by_cases hlt : j < p
          · have hjI : (j : Int) < (p : Int) := by omega
            have hjw : IntKind.i64.wrap ((j : Int) + 1) = (j : Int) + 1 := by have := (unhide HP).2.1; rw [IntKind.wrap_i64]; omega
            have hjs : j < steps.length := by have := (unhide HP).2.2.2.2; omega
            have hjS : (j : Int) < (steps.length : Int) := by omega
            obtain ⟨b', off', cz', e0', g1', g2', hcl'⟩ := hvr.open (by intro e; have := congrArg List.length e; simp [Iw] at this; rw [this] at hjs; simp at hjs)
            simp only [Value.slice.injEq] at e0'
            obtain ⟨rfl, g3', rfl⟩ := e0'
            have hcx := hcl' j _ (by rw [Iw, List.getElem?_map, List.getElem?_eq_getElem hjs]; rfl)
            have hjt : j < st.length := by rw [← (unhide HP).1]; exact hlt
            have hys : st[j] = steps[j] := by
              have := (unhide HP).2.2.1
              subst this
              exact List.getElem_take
            have HTP := hide (show (rgP n st k).take (j + 1) = (rgP n st k).take j ++ [((1 + ((k + stpN n steps[j]) % n) * (2 + p) : Nat) : Int)] from by
              rw [List.take_succ_eq_append_getElem (show j < (rgP n st k).length by unfold rgP; rw [List.length_map]; exact hjt)]
              congr 2
              unfold rgP
              rw [List.getElem_map, hys, ← (unhide HP).1])
            generalize steps[j] = y at *
            have hsm := step_mod y n (unhide HN).1 (unhide HN).2
            have hsl := stpN_lt (unhide HN).1 y
            generalize stpN n y = q at *
            obtain ⟨r, hr⟩ : ∃ r, r = (k + q) % n := ⟨_, rfl⟩
            have hrl : r < n := by rw [hr]; exact Nat.mod_lt _ (unhide HN).1
            have hrm : ((k : Int) + (q : Int)).tmod (n : Int) = (r : Int) := by
              rw [Int.tmod_eq_emod_of_nonneg (by omega), hr]
              first | rfl | (simp; done) | norm_cast
            obtain ⟨z, hz⟩ : ∃ z : Nat, z = r * (2 + p) := ⟨_, rfl⟩
            have hzb : z ≤ 200 := by
              have h1 : r * (2 + p) ≤ 40 * 5 := Nat.mul_le_mul (by have := (unhide HN).2; omega) (by have := (unhide HP).2.1; omega)
              omega
            have hzI : (r : Int) * (2 + (p : Int)) = (z : Int) := by rw [hz, Int.natCast_mul]; rfl
            rw [← hr, ← hz] at HTP
            have hn0 : (n : Int) ≠ 0 := by have := (unhide HN).1; omega
            have hn40 : n ≤ 40 := (unhide HN).2
            have hk40 : k < n := unhide HLT
            have hp3 : p ≤ 3 := (unhide HP).2.1
            have hu1 : IntKind.u64.wrap (n : Int) = (n : Int) := by rw [IntKind.wrap_u64]; omega
            have hw1 : IntKind.i64.wrap ((k : Int) + (q : Int)) = (k : Int) + (q : Int) := by rw [IntKind.wrap_i64]; omega
            have hw2 : IntKind.i64.wrap (2 + (p : Int)) = 2 + (p : Int) := by rw [IntKind.wrap_i64]; omega
            have hw3 : IntKind.i64.wrap (r : Int) = (r : Int) := by rw [IntKind.wrap_i64]; omega
            have hw4 : IntKind.i64.wrap (z : Int) = (z : Int) := by rw [IntKind.wrap_i64]; omega
            have hw5 : IntKind.i64.wrap (1 + (z : Int)) = 1 + (z : Int) := by rw [IntKind.wrap_i64]; omega
            have hw6 : IntKind.u32.wrap (1 + (z : Int)) = 1 + (z : Int) := by rw [IntKind.wrap_u32]; omega
            have HLJ := hide hlt
            obtain ⟨nn, hnn⟩ : ∃ nn, nn = m + 1 + j := ⟨_, rfl⟩
            have HNL := hide (show nn < 1000 by have := (unhide HM).2.2; omega)
            have hbW : Below wx.heap.size wx (wx.alloc (.cells #[.int .u32 (1 + (z : Int))] 31)) := (Below.refl _ wx).alloc (Nat.le_refl _) _
            have HOX := hide (show (wx.alloc (.cells #[.int .u32 (1 + (z : Int))] 31)).ownsRow w1.heap.size 31 1 (.slice pv3 nn cv3) nn (Uw (lw ++ hv0 :: (rgP n st k).take j)) from ownsV_keep (F := fun _ => False) (hnn ▸ hown) (Keep.of_below hbW) (fun _ _ => id))
            have HBX := hide (hb.trans (hbW.mono hb.size))
            rw [← hnn]
            have HNN := hide hnn
            clear hown hb hlt hj g1' g2' g3' hcl' hbW hnn hz hzb hr hrl hsl hjs hjt hys hvr hn40 hk40 hp3 hnw
            go_wp2_with (first
              | (at_builtin; refine wpList_append_gen rfl _ _ 24 rfl w1.heap.size 31 i4 (.int .u32 0) Try.underlying24 hi4 hy0 1 4 (by omega) hy1 hy2 rfl (.slice pv3 nn cv3) nn (Uw (lw ++ hv0 :: (rgP n st k).take j)) rfl (unhide HOX) ⟨wx.heap.size, 0, none⟩ 1 1 [.int .u32 (1 + (z : Int))] rfl rfl (by intro j u hj; match j, hj with | 0, hj => (simp at hj; subst hj; simp [Addr.add])) (by intro u hu; simp at hu; subst hu; rfl) (by have := unhide HNL; unfold maxLen; simp; omega) (by have := unhide HNL; simp; omega) (unhide HBX).size ?_))
            intro v4 w4 hown4 hgrow4 hob4
            have hb4 := (unhide HBX).grown hgrow4 (unhide HBX).size (fun k e => ((unhide HOX).lt k e).1)
            have HJ := hide (And.intro hown4 hb4)
            clear hown4 hgrow4 hob4 hb4
            go_wp2_with fail
            go_roundw
            case rel =>
              refine ⟨j + 1, unhide HLJ, by go_num, ?_, (unhide HJ).2⟩
              have h1 := (unhide HJ).1
              rw [unhide HNN] at h1
              rw [unhide HTP]
              have e5 : Uw (lw ++ hv0 :: ((rgP n st k).take j ++ [((1 + z : Nat) : Int)])) = lw.map (Value.int .u32) ++ .int .u32 hv0 :: (((rgP n st k).map (Value.int .u32)).take j ++ [.int .u32 (1 + (z : Int))]) := by
                simp [Uw, List.map_take]
              rw [e5, ← Nat.add_assoc]
              exact h1
            case measure => (have := unhide HLJ; simp [intOf]; omega)
          · have hje : j = p := by omega
            subst hje
            have hrl : (rgP n st k).length = j := by unfold rgP; rw [List.length_map]; exact (unhide HP).1.symm
            rw [List.take_of_length_le (by omega)] at hown
            have hkw : IntKind.u32.wrap (k : Int) = (k : Int) := by have := unhide HN; have := unhide HLT; rw [IntKind.wrap_u32]; omega
            have hbW : Below wx.heap.size wx (wx.alloc (.cells #[.int .u32 (k : Int)] 31)) := (Below.refl _ wx).alloc (Nat.le_refl _) _
            obtain ⟨nn, hnn⟩ : ∃ nn, nn = m + 1 + j := ⟨_, rfl⟩
            have HNL := hide (show nn < 1000 by have := (unhide HM).2.2; have := (unhide HP).2.1; omega)
            have HOX := hide (show (wx.alloc (.cells #[.int .u32 (k : Int)] 31)).ownsRow w1.heap.size 31 1 (.slice pv3 nn cv3) nn (Uw (lw ++ hv0 :: rgP n st k)) from ownsV_keep (F := fun _ => False) (hnn ▸ hown) (Keep.of_below hbW) (fun _ _ => id))
            have HBX := hide (hb.trans (hbW.mono hb.size))
            rw [← hnn]
            have HNN := hide hnn
            have hjj : ¬ (j : Int) < (j : Int) := by omega
            clear hown hb hlt hj hbW hnn hvr hrl
            go_wp2_with (first
              | (at_builtin; refine wpList_append_gen rfl _ _ 24 rfl w1.heap.size 31 i4 (.int .u32 0) Try.underlying24 hi4 hy0 1 4 (by omega) hy1 hy2 rfl (.slice pv3 nn cv3) nn (Uw (lw ++ hv0 :: rgP n st k)) rfl (unhide HOX) ⟨wx.heap.size, 0, none⟩ 1 1 [.int .u32 (k : Int)] rfl rfl (by intro j u hj; match j, hj with | 0, hj => (simp at hj; subst hj; simp [Addr.add])) (by intro u hu; simp at hu; subst hu; rfl) (by have := unhide HNL; unfold maxLen; simp; omega) (by have := unhide HNL; simp; omega) (unhide HBX).size ?_))
            intro v4 w4 hown4 hgrow4 hob4
            have hb4 := (unhide HBX).grown hgrow4 (unhide HBX).size (fun k e => ((unhide HOX).lt k e).1)
            have HJ := hide (And.intro hown4 hb4)
            clear hown4 hgrow4 hob4 hb4
            go_wp2_with fail
            go_roundw
            case rel =>
              refine ⟨k + 1, unhide HLT, by go_num, ?_, (unhide HJ).2⟩
              have h1 := (unhide HJ).1
              rw [unhide HNN] at h1
              have hs3 : st.length ≤ 3 := by have := unhide HP; omega
              obtain ⟨g1, g2, _⟩ := rgO_good (n := n) (i := k) hs3
              have hh : hdO (rgO n st k) = hv0 := by
                rw [g2, unhide HE, (unhide HP).1]
                unfold rgH
                rfl
              have hwr : wrdO (rgO n st k) = hv0 :: (rgP n st k ++ [(k : Int)]) := by
                rw [wrdO_good g1, hh]
                show hv0 :: (w32 (rgP n st k) ++ [(k : Int)]) = _
                rw [rgP_w32 (unhide HN).1 (unhide HN).2 hs3]
              rw [List.range_succ, List.map_append, List.map_cons, List.map_nil, layW_snoc, hwr, ← (unhide HM).2.1]
              have e5 : Uw (lw ++ hv0 :: (rgP n st k ++ [(k : Int)])) = lw.map (Value.int .u32) ++ .int .u32 hv0 :: ((rgP n st k).map (Value.int .u32) ++ [.int .u32 (k : Int)]) := by
                simp [Uw]
              rw [e5, show 1 + (k + 1) * (2 + j) = m + 1 + j + 1 by rw [(unhide HM).1, Nat.succ_mul]; omega]
              exact h1
            case measure => (have := unhide HLT; simp [intOf]; omega)
      · have hke : k = n := by omega
        subst hke
        have hs3 : st.length ≤ 3 := by have := unhide HP; omega
        have hlen := rg_len (n := k) hs3
        rw [← (unhide HP).1] at hlen
        have HJ := hide (show wr.ownsRow w1.heap.size 31 1 (.slice pv (1 + k * (2 + p)) cv) (rgW k st).length (Uw (rgW k st)) by rw [hlen]; exact hown)
        have HBB := hide hb
        have hkk : ¬ (k : Int) < (k : Int) := by omega
        clear hk hlt hown hb hs3 hlen
        go_wp2_with fail
        go_ret
        exact ⟨_, rfl, unhide HJ, unhide HBB⟩
end Go.Proofs.Ytegefnchkgkmgab
