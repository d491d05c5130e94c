/- Texts of ours, one behind the other: CelPlaces, CelAll, CelSeq. -/
import Derived.Test.YtlbhhdldeaehkaaGreatG5
import Derived.Test.YtlbhhdldeaehkaaGreatG7
import Derived.Laws.EntriesVeiled
import Derived.Deep.OwnRows
import Derived.Laws.OwnMore
/- The landed package cells: objects, placesOf. -/
namespace Go.Proofs.YtlbhhdldeaehkaaGreat
open Go.RowKit Go.Shelf
attribute [local go_sem] Oper.semAt_some

theorem Tryz.infoBool : (Tryz.prog.info? 4).map (fun i => (i.zero, i.size, i.bytes)) = some (some (.bool false), 1, 1) := by kernel_rfl
theorem made_arr (z : Value) (n : Nat) : madeCells #[z] n = (List.replicate n z).toArray := by
  rw [← toList_madeCells_one z n]
theorem run_make_bools (t : TypeId) (ht : Tryz.prog.underlying t = some (.slice 4)) (n : Nat) (hn : n < 70368744177664) (w : World) :
    (Instr.makeSlice t (.int .i64 (n : Int)) (.int .i64 (n : Int))).run Tryz.prog w = .ok (.slice (some ⟨w.heap.size, 0, none⟩) n n) (w.alloc (.cells (Array.replicate n (.bool false)) 4)) := by
  rw [← List.toArray_replicate, ← made_arr]
  exact run_make_row' t 4 (.bool false) 1 ht Tryz.infoBool rfl .i64 .i64 n (by omega) (by omega) w
theorem cobjects_any (w : World) (a : Option Addr) (n c : Nat) :
    Calls Tryz.prog 75 #[.slice a n c] w fun e w' => e = .returned (.func (.func 90) #[] #[.pointer (some ⟨w.heap.size, 0, none⟩)]) ∧ w' = w.alloc (.cells #[.slice a n c] 33) := by
  have hmf : ∀ (fn : Fn) (first cap : Array Value) (w : World), (Instr.makeFunc fn first cap).run Tryz.prog w = .ok (.func fn first cap) w := fun _ _ _ _ => rfl
  go_enter Tryz.func75, Tryz.ntmps75
  go_wp2
  go_ret
  exact ⟨rfl, rfl⟩

/-- What placesOf has between two rounds: the marks, in block g; the variables that hold them, and the end. -/
def PlI (n g : Nat) (pre : List (Nat × Int)) (C : Nat → Prop) (W : World) : Prop :=
  W.heap[g]? = some (.cells ((marks n pre).map Value.bool).toArray 4 (0, 0)) ∧ W.heap[g + 1]? = some (.cells #[.slice (some ⟨g, 0, none⟩) n n] 132 (0, 0)) ∧ W.heap[g + 1 + 1]? = some (.cells #[.int .i64 ((endO pre : Nat) : Int)] 3 (0, 0)) ∧ ∀ k, C k ↔ k = g ∨ k = g + 1 ∨ k = g + 1 + 1
theorem PlI.ok (n g b : Nat) : SOk b (PlI n g) := by
  refine ⟨fun pre C W W' G h hk hn _ => ?_, fun pre C W h k hc => ?_⟩
  · obtain ⟨h1, h2, h3, h4⟩ := h
    exact ⟨(hk.block _ (Array.getElem?_eq_some_iff.1 h1).1 (hn _ ((h4 _).2 (Or.inl rfl)))).trans h1, (hk.block _ (Array.getElem?_eq_some_iff.1 h2).1 (hn _ ((h4 _).2 (Or.inr (Or.inl rfl))))).trans h2, (hk.block _ (Array.getElem?_eq_some_iff.1 h3).1 (hn _ ((h4 _).2 (Or.inr (Or.inr rfl))))).trans h3, h4⟩
  · obtain ⟨h1, h2, h3, h4⟩ := h
    rcases (h4 k).1 hc with rfl | rfl | rfl
    · exact (Array.getElem?_eq_some_iff.1 h1).1
    · exact (Array.getElem?_eq_some_iff.1 h2).1
    · exact (Array.getElem?_eq_some_iff.1 h3).1
theorem keep_set (W : World) (b j : Nat) (v : Value) : Keep (fun k => k = b) W (W.setCell ⟨b, j, none⟩ v) := ⟨rfl, rfl, rfl, by simp [World.setCell], fun k _ hk => heap_setCell_other W ⟨b, j, none⟩ k _ (fun e => hk (by simp at e; exact e.symm ▸ rfl))⟩
/-- Behind a range, where its block for deferred calls was taken up. -/
theorem below_put {w w1 W : World} {C0 C : Nat → Prop} {dd : Nat} (h1 : Below w.heap.size w w1) (hm : Moves C0 C w1 W) (hC : ∀ k, C0 k → w.heap.size ≤ k) (hdd : w1.heap.size ≤ dd) (o : Obj) : Below w.heap.size w (W.putObj dd o) := by
  have h2 := hm.keep.below h1.size hC
  have h3 := h1.trans h2
  have hp := keep_put W dd o
  have hs := h1.size
  exact h3.trans (hp.below h3.size (fun k e => by omega))
theorem SOk.at {α β : Type} {b : Nat} {J : List α → (Nat → Prop) → World → Prop} (h : SOk b J) (pre : List α) : SOk b (fun (_ : List β) => J pre) :=
  ⟨fun _ C W W' G h1 h2 h3 h4 => h.stays pre C W W' G h1 h2 h3 h4, fun _ C W h1 => h.lt pre C W h1⟩
theorem hs_block {w : World} {a : Option Addr} {n cap : Nat} {vs : List Value} (h : VRow w (.slice a n cap) vs) (hne : vs ≠ []) (k : Nat) (hk : (Value.slice a n cap).ownBlock = some k) : k < w.heap.size := by
  obtain ⟨b, off, c, e, _, _, hc⟩ := h.open hne
  simp only [Value.slice.injEq] at e
  obtain ⟨rfl, _, _⟩ := e
  simp [Value.ownBlock] at hk
  subst hk
  cases vs with
  | nil => exact absurd rfl hne
  | cons v vs => exact World.block_lt_of_cell? w _ (hc 0 v rfl)

set_option maxRecDepth 20000 in
set_option maxHeartbeats 2000000 in
theorem cplaces_any (s : Value) (ws : List Int) (w : World) (hs : VRow w s (Uw ws)) (hU : U32 ws) (hl : ws.length < 70368744177664) :
    Calls Tryz.prog 92 #[s] w fun e w' => ∃ g, e = .returned (.tuple #[.slice (some ⟨g, 0, none⟩) ws.length ws.length, .bool (decide (endO (obs ws 1) = ws.length))]) ∧ w.heap.size ≤ g ∧ w'.heap[g]? = some (.cells ((marks ws.length (obs ws 1)).map Value.bool).toArray 4 (0, 0)) ∧ Below w.heap.size w w' := by
  refine (callsIn_wide (n := 3)).1 ?_
  refine callsIn_of_wp_marks Tryz.func92 rfl trivial ?_ rfl
  simp only [Tryz.ntmps92, List.size_toArray, List.length_cons, List.length_nil, Nat.reduceAdd, Nat.reduceSub, Array.replicate_succ, Array.replicate_zero, List.push_toArray, List.append_toArray, List.nil_append, List.cons_append]
  obtain ⟨a, cap, rfl, hc1, hc2, hc3⟩ := hs.shape
  rw [List.length_map] at *
  have hmk := run_make_bools 132 Tryz.underlying132 ws.length hl
  have HS := hide hs
  have HU := hide hU
  have HL := hide hl
  clear hs hU hl hc1 hc2 hc3
  have hW0 : Below w.heap.size w (((w.alloc (.cells (Array.replicate ws.length (.bool false)) 4)).alloc (.cells #[.slice (some ⟨w.heap.size, 0, none⟩) ws.length ws.length] 132)).alloc (.cells #[.int .i64 1] 3)) := (((Below.refl _ w).alloc (Nat.le_refl _) _).alloc (by simp) _).alloc (by simp; omega) _
  have h00 : PlI ws.length w.heap.size [] (fun k => k = w.heap.size ∨ k = w.heap.size + 1 ∨ k = w.heap.size + 1 + 1) (((w.alloc (.cells (Array.replicate ws.length (.bool false)) 4)).alloc (.cells #[.slice (some ⟨w.heap.size, 0, none⟩) ws.length ws.length] 132)).alloc (.cells #[.int .i64 1] 3)) := by
    refine ⟨?_, ?_, ?_, fun _ => Iff.rfl⟩
    · rw [marks_nil, List.map_replicate, List.toArray_replicate]
      exact (Below.heap_alloc _ _ _ (by simp; omega)).trans ((Below.heap_alloc _ _ _ (by simp)).trans (World.alloc_heap_new w _))
    · have := World.alloc_heap_new (w.alloc (.cells (Array.replicate ws.length (.bool false)) 4)) (.cells #[.slice (some ⟨w.heap.size, 0, none⟩) ws.length ws.length] 132)
      rw [World.size_alloc] at this
      exact (Below.heap_alloc _ _ _ (by simp)).trans this
    · have := World.alloc_heap_new ((w.alloc (.cells (Array.replicate ws.length (.bool false)) 4)).alloc (.cells #[.slice (some ⟨w.heap.size, 0, none⟩) ws.length ws.length] 132)) (.cells #[.int .i64 1] 3)
      rw [World.size_alloc, World.size_alloc] at this
      exact this
  have HW0 := hide hW0
  have H00 := hide h00
  clear hW0 h00
  gi_wp2_with fail
  generalize hW0 : (((w.alloc (.cells (Array.replicate ws.length (.bool false)) 4)).alloc (.cells #[.slice (some ⟨w.heap.size, 0, none⟩) ws.length ws.length] 132)).alloc (.cells #[.int .i64 1] 3)) = W0 at *
  have HSZ : Hid (W0.heap.size = w.heap.size + 3) := by unfold Hid; rw [← hW0]; simp
  clear hW0
  refine ⟨trivial, (callsIn_wide.2 (cobjects_any W0 a ws.length cap)).mono ?_⟩
  rintro e w1 ⟨rfl, rfl⟩
  have HB1 := hide ((Below.refl _ W0).alloc (Nat.le_refl _) (.cells #[.slice a ws.length cap] 33))
  gi_wp2_with fail
  have hr0 := (unhide HS).below (unhide HW0)
  refine wpIn_seqR (objects_seq W0.heap.size (.slice a ws.length cap) ws (unhide HU) (unhide HL)) rfl (fun _ _ => by kernel_rfl) (fun _ => rfl) (PlI ws.length w.heap.size) (fun _ _ _ _ => False) (PlI.ok _ _ _) (fun _ => SOk.none _) ((PlI.ok _ _ 0).below (unhide H00) (unhide HB1)) ?data ?apart ?round ?done ?stop
  case data =>
    intro W hb
    refine ⟨(hb.cell (p := ⟨W0.heap.size, 0, none⟩) (by simp)).trans (by simp), (hr0.below (unhide HB1)).below hb⟩
  case apart =>
    intro k hk
    have hsz := unhide HSZ
    rcases hk with rfl | ⟨hne, hk⟩
    · exact ⟨by omega, by simp⟩
    · have hk2 := hs_block (unhide HS) (fun h => hne (List.map_eq_nil_iff.1 h)) k hk
      exact ⟨by omega, by simp; omega⟩
  case round =>
    rintro l pre ⟨p, h⟩ rest C W hZ hi hm
    dsimp only [encO]
    have HZ := hide hZ
    have HI := hide hi
    clear hZ hi hm hr0
    gi_wp2
    refine ⟨PlI ws.length w.heap.size pre, C, (PlI.ok _ _ _).at _, unhide HI, Moves.refl _ _, fun W2 hi2 hm2 => ?_⟩
    clear HI
    obtain ⟨n1, n2, n3, n4⟩ := obs_next (unhide HZ)
    have hp : p < ws.length := n3.1
    have hpI : (p : Int) < (ws.length : Int) := by omega
    obtain ⟨u0, u1⟩ := (unhide HU).wd p
    dsimp only at n2
    rw [← n2] at u0 u1
    obtain ⟨b1, b2, b3, b4⟩ := hi2
    have c2 : W2.cell? ⟨w.heap.size + 1, 0, none⟩ = some (.slice (some ⟨w.heap.size, 0, none⟩) ws.length ws.length) := by rw [cell_of_row W2 _ _ _ _ (0, 0) b2]; rfl
    have c3 : W2.cell? ⟨w.heap.size + 1 + 1, 0, none⟩ = some (.int .i64 ((endO pre : Nat) : Int)) := by rw [cell_of_row W2 _ _ _ _ (0, 0) b3]; rfl
    have c1 : W2.cell? ⟨w.heap.size, p, none⟩ = some (.bool (decide (p ∈ pre.map Prod.fst))) := by
      rw [cell_of_row W2 _ _ _ _ (0, 0) b1, List.getElem?_toArray, List.getElem?_map, marks_get _ hp]; rfl
    have f1 : W2.frozen? ⟨w.heap.size, p, none⟩ = false := frozen_of_block b1
    have f3 : W2.frozen? ⟨w.heap.size + 1 + 1, 0, none⟩ = false := frozen_of_block b3
    have HB := hide (And.intro b1 (And.intro b2 (And.intro b3 b4)))
    have HM2 := hide hm2
    clear b1 b2 b3 b4 hm2 n1 n2 n3 n4 hp
    gi_wp2_with fail
    refine ⟨trivial, (CallsIn.inRound l (callsIn_wide.2 (csize_t h _ u0 u1))).mono ?_⟩
    rintro e w5 ⟨rfl, rfl⟩
    gi_wp2_with fail
    obtain ⟨b1, b2, b3, b4⟩ := unhide HB
    have hw : wrap64 ((p : Int) + h / 4096) = ((p + szN h : Nat) : Int) := by
      have h1 := szN_int u0
      have h2 := szN_lt u1
      have h3 := unhide HL
      unfold wrap64
      omega
    rw [hw]
    have g1 := heap_setCell_same W2 w.heap.size p _ _ (.bool true) b1
    have K1 : Keep (fun k => k = w.heap.size) W2 (W2.setCell ⟨w.heap.size, p, none⟩ (.bool true)) := keep_set _ _ _ _
    have K2 : Keep (fun k => k = w.heap.size + 1 + 1) (W2.setCell ⟨w.heap.size, p, none⟩ (.bool true)) ((W2.setCell ⟨w.heap.size, p, none⟩ (.bool true)).setCell ⟨w.heap.size + 1 + 1, 0, none⟩ (.int .i64 ((p + szN h : Nat) : Int))) := keep_set _ _ _ _
    have l1 : w.heap.size < W2.heap.size := (Array.getElem?_eq_some_iff.1 b1).1
    have l2 : w.heap.size + 1 < W2.heap.size := (Array.getElem?_eq_some_iff.1 b2).1
    have l3 : w.heap.size + 1 + 1 < W2.heap.size := (Array.getElem?_eq_some_iff.1 b3).1
    have hs1 := K1.size
    have b3' := (K1.block (w.heap.size + 1 + 1) l3 (by omega)).trans b3
    refine ⟨C, ⟨?_, ?_, ?_, b4⟩, ((K1.weak (fun x hx => ?_)).trans K2 (fun x hx => ?_)), fun k hk => Or.inl hk⟩
    · rw [marks_snoc, K2.block w.heap.size (by omega) (by omega), g1]
      simp
    · exact (K2.block _ (by omega) (by omega)).trans ((K1.block _ l2 (by omega)).trans b2)
    · rw [endO_snoc, heap_setCell_same _ _ 0 _ _ _ b3']
      rfl
    · exact (b4 x).2 (Or.inl hx)
    · exact Or.inl ((b4 x).2 (Or.inr (Or.inr hx)))
  case done =>
    rintro dd C W hdd hi hm hnc hK
    obtain ⟨b1, b2, b3, b4⟩ := hi
    have c2 : W.cell? ⟨w.heap.size + 1, 0, none⟩ = some (.slice (some ⟨w.heap.size, 0, none⟩) ws.length ws.length) := by rw [cell_of_row W _ _ _ _ (0, 0) b2]; rfl
    have c3 : W.cell? ⟨w.heap.size + 1 + 1, 0, none⟩ = some (.int .i64 ((endO (obs ws 1) : Nat) : Int)) := by rw [cell_of_row W _ _ _ _ (0, 0) b3]; rfl
    have HB := hide (And.intro b1 (And.intro b2 (And.intro b3 b4)))
    have HM := hide hm
    have HK := hide hK
    obtain ⟨en, hen⟩ : ∃ en, endO (obs ws 1) = en := ⟨_, rfl⟩
    rw [hen] at c3
    have HEN := hide hen
    clear hen
    clear b1 b2 b3 b4 hm hK hr0
    gi_wp2_with fail
    gi_region
    gi_wp2_with fail
    refine ⟨by simp, .inl ⟨_, _, rfl, run_takeDeferred (w := W.drew) (unhide HK), ?_⟩⟩
    refine ⟨_, results_tmp2 rfl _ _ _, w.heap.size, ?_, Nat.le_refl _, ?_, ?_⟩
    · rw [unhide HEN]
      have hb : ((en : Int) == (ws.length : Int)) = decide (en = ws.length) := by
        by_cases h : en = ws.length
        · simp [h]
        · have h2 : ¬ (en : Int) = (ws.length : Int) := by omega
          simp [h, h2]
      rw [← hb]
      rfl
    · obtain ⟨b1, b2, b3, b4⟩ := unhide HB
      have hp := keep_put W.drew dd (.deferred none)
      exact (hp.block w.heap.size (Array.getElem?_eq_some_iff.1 b1).1 (fun e => hnc ((b4 dd).2 (Or.inl e.symm)))).trans b1
    · have h1 := (unhide HW0).trans ((unhide HB1).mono (unhide HW0).size)
      have h2 := below_put h1 (unhide HM) (fun k hk => by omega) hdd (.deferred none)
      exact ⟨h2.os, h2.tape, h2.output, h2.size, h2.block⟩
  case stop =>
    rintro dd c pre x rest C W _ _ h
    exact h.elim
end Go.Proofs.YtlbhhdldeaehkaaGreat

/- The landed package cells: All, and its sequence. -/
namespace Go.Proofs.YtlbhhdldeaehkaaGreat
open Go.RowKit Go.Shelf
attribute [local go_sem] Oper.semAt_some

theorem Tryz.infoU32 : (Tryz.prog.info? 31).map (fun i => (i.zero, i.size, i.bytes)) = some (some (.int .u32 0), 1, 4) := by kernel_rfl
/-- The heads that came. -/
def hdV (pre : List (Nat × Int)) : List Value := pre.map fun x => .int .u32 x.2
theorem hdV_snoc (pre : List (Nat × Int)) (p : Nat) (h : Int) : hdV (pre ++ [(p, h)]) = hdV pre ++ [.int .u32 h] := by simp [hdV]
def AlI (B : Nat) (pre : List (Nat × Int)) (C : Nat → Prop) (W : World) : Prop := GR B 33 31 1 pre.length (hdV pre) C W
theorem AlI.ok (B b : Nat) : SOk b (AlI B) := ⟨fun _ _ _ _ _ h hk hn _ => GR.stays h hk hn, fun _ _ _ h k hc => GR.lt h k hc⟩

theorem ob_len (ws : List Int) : ∀ (f p : Nat), (ob ws f p).length ≤ f
  | 0, _ => Nat.le_refl _
  | f + 1, p => by
    unfold ob
    split
    · have := ob_len ws f (p + szN (wd ws p)); simp; omega
    · simp
theorem obs_len (ws : List Int) : (obs ws 1).length ≤ ws.length := Nat.le_trans (ob_len ws _ _) (Nat.sub_le _ _)

set_option maxRecDepth 20000 in
set_option maxHeartbeats 2000000 in
theorem call_any (s : Value) (ws : List Int) (w : World) (hs : VRow w s (Uw ws)) (hU : U32 ws) (hl : ws.length ≤ 1048576) :
    Calls Tryz.prog 45 #[s] w fun e w' => ∃ v, e = .returned (.func (.func 76) #[] #[.pointer (some ⟨w.heap.size, 0, none⟩)]) ∧ w'.heap[w.heap.size]? = some (.cells #[v] 33 (0, 0)) ∧ VRow w' v (hdV (obs ws 1)) ∧ (∀ k, v.ownBlock = some k → w.heap.size ≤ k ∧ k < w'.heap.size) ∧ Below w.heap.size w w' := by
  have hmf : ∀ (fn : Fn) (first cap : Array Value) (w : World), (Instr.makeFunc fn first cap).run Tryz.prog w = .ok (.func fn first cap) w := fun _ _ _ _ => rfl
  refine (callsIn_wide (n := 5)).1 ?_
  refine callsIn_of_wp_marks Tryz.func45 rfl trivial ?_ rfl
  simp only [Tryz.ntmps45, List.size_toArray, List.length_cons, List.length_nil, Nat.reduceAdd, Nat.reduceSub, Array.replicate_succ, Array.replicate_zero, List.push_toArray, List.append_toArray, List.nil_append, List.cons_append]
  obtain ⟨i0, hi, hz0, hz1, hz2⟩ := info_parts Tryz.infoU32
  obtain ⟨a, cap, rfl, hc1, hc2, hc3⟩ := hs.shape
  rw [List.length_map] at *
  have HS := hide hs
  have HU := hide hU
  have HL := hide hl
  clear hs hU hl hc1 hc2 hc3
  obtain ⟨W0, hW0⟩ : ∃ W0, w.alloc (.cells #[.slice none 0 0] 33) = W0 := ⟨_, rfl⟩
  have HB0 : Hid (Below w.heap.size w W0) := by unfold Hid; rw [← hW0]; exact (Below.refl _ w).alloc (Nat.le_refl _) _
  have HSZ : Hid (W0.heap.size = w.heap.size + 1) := by unfold Hid; rw [← hW0]; simp
  have H0 : Hid (AlI w.heap.size [] (VF w.heap.size (.slice none 0 0)) W0) := by
    unfold Hid
    rw [← hW0]
    exact ⟨_, World.alloc_heap_new w _, World.ownsRow_nil _ _ _ _, (by simp [Value.ownBlock]), fun _ => Iff.rfl⟩
  have HW0 := hide hW0
  clear hW0
  gi_wp2_with fail
  rw [unhide HW0]
  clear HW0
  refine ⟨trivial, (callsIn_wide.2 (cobjects_any W0 a ws.length cap)).mono ?_⟩
  rintro e w1 ⟨rfl, rfl⟩
  have HB1 := hide ((Below.refl _ W0).alloc (Nat.le_refl _) (.cells #[.slice a ws.length cap] 33))
  gi_wp2_with fail
  have hr0 := (unhide HS).below (unhide HB0)
  refine wpIn_seqR (C0 := VF w.heap.size (.slice none 0 0)) (objects_seq W0.heap.size (.slice a ws.length cap) ws (unhide HU) (by have := unhide HL; omega)) rfl (fun _ _ => by kernel_rfl) (fun _ => rfl)
    (AlI w.heap.size) (fun _ _ _ _ => False) (AlI.ok _ _) (fun _ => SOk.none _) ((AlI.ok _ 0).below (unhide H0) (unhide HB1)) ?data ?apart ?round ?done ?stop
  case data =>
    intro W hb
    refine ⟨(hb.cell (p := ⟨W0.heap.size, 0, none⟩) (by simp)).trans (by simp), (hr0.below (unhide HB1)).below hb⟩
  case apart =>
    intro k hk
    have hsz := unhide HSZ
    rw [World.size_alloc]
    have hv : ∀ k, VF w.heap.size (.slice none 0 0) k ↔ k = w.heap.size := fun k => by simp [VF, Value.ownBlock]
    rw [hv]
    rcases hk with rfl | ⟨hne, hk⟩
    · exact ⟨by omega, by omega⟩
    · have hk2 := hs_block (unhide HS) (fun h => hne (List.map_eq_nil_iff.1 h)) k hk
      exact ⟨by omega, by omega⟩
  case round =>
    rintro l pre ⟨p, h⟩ rest C W hZ hi2 hm
    dsimp only [encO]
    have HZ := hide hZ
    have HI := hide hi2
    clear hZ hi2 hm hr0
    gi_wp2
    refine ⟨AlI w.heap.size pre, C, (AlI.ok _ _).at pre, unhide HI, Moves.refl _ _, fun W2 hi2 hm2 => ?_⟩
    clear HI
    obtain ⟨v, o1, o2, o3, o4⟩ := hi2
    obtain ⟨pv, cv, rfl⟩ := ownsV_shape o2
    have hlen : pre.length < 1048576 := by
      have h1 := obs_len ws
      rw [unhide HZ] at h1
      have := unhide HL
      simp at h1
      omega
    have HLN := hide hlen
    have d0 : W2.cell? ⟨w.heap.size, 0, none⟩ = some (.slice pv pre.length cv) := by rw [cell_of_row W2 w.heap.size _ _ _ (0, 0) o1]; rfl
    have hbW : Below W2.heap.size W2 (W2.alloc (.cells #[.int .u32 h] 31)) := (Below.refl _ _).alloc (Nat.le_refl _) _
    have HO2 := hide (ownsV_keep (F := fun _ => False) o2 (Keep.of_below hbW) (fun _ _ => id))
    have HO1 := hide o1
    have HO3 := hide o3
    have HCV : Hid (∀ k, VF w.heap.size (.slice pv pre.length cv) k → C k) := fun k hk => (o4 k).2 hk
    have HBW := hide hbW
    have hBlW : w.heap.size < W2.heap.size := (Array.getElem?_eq_some_iff.1 o1).1
    clear hlen o1 o2 o3 o4 hbW
    gi_wp2_with (first
      | (gi_at_builtin; refine wpListIn_append_any rfl (.tmp 10) (.tmp 12) 33 rfl 0 31 i0 (.int .u32 0) Tryz.underlying33 hi hz0 1 4 (by omega) hz1 hz2 rfl (.slice pv pre.length cv) pre.length (hdV pre) rfl (unhide HO2) ⟨W2.heap.size, 0, none⟩ 1 1 [.int .u32 h] rfl rfl (by intro j u hj; match j, hj with | 0, hj => (simp at hj; subst hj; simp [Addr.add])) (by intro u hu; simp at hu; subst hu; rfl) (by have := unhide HLN; unfold maxLen; omega) (by have := unhide HLN; omega) (Nat.zero_le _) ?_))
    intro v2 w2 hown2 hgrow2 hob2
    have hblk2 := (hgrow2.block w.heap.size (by simp; omega) (fun e => unhide HO3 e.symm)).trans (((unhide HBW).block w.heap.size hBlW).trans (unhide HO1))
    have y0 : w2.cell? ⟨w.heap.size, 0, none⟩ = some (.slice pv pre.length cv) := by rw [cell_of_row w2 w.heap.size _ _ _ (0, 0) hblk2]; rfl
    have yf : w2.frozen? ⟨w.heap.size, 0, none⟩ = false := frozen_of_block hblk2
    have HJ := hide (GR.more (unhide HO1) (unhide HO3) (unhide HCV) (unhide HBW) hown2 hgrow2 (by rw [World.size_alloc]; exact hob2))
    obtain ⟨p2, c2, rfl⟩ := ownsV_shape hown2
    clear hown2 hgrow2 hob2 hblk2 d0
    gi_wp2_with fail
    obtain ⟨j1, j2⟩ := unhide HJ
    refine ⟨_, ?_, j2⟩
    unfold AlI
    rw [hdV_snoc, List.length_append]
    exact j1
  case done =>
    rintro dd C W hdd ⟨v, o1, o2, o3, o4⟩ hm hnc hK
    have HV := hide (And.intro o1 (And.intro o2 (And.intro o3 o4)))
    have HM := hide hm
    have HK := hide hK
    clear o1 o2 o3 o4 hm hK hr0
    gi_wp2_with fail
    refine ⟨by simp, .inl ⟨_, _, rfl, run_takeDeferred (unhide HK), ?_⟩⟩
    obtain ⟨o1, o2, o3, o4⟩ := unhide HV
    have hp := keep_put W dd (.deferred none)
    have h1 := (unhide HB0).trans ((unhide HB1).mono (unhide HB0).size)
    have hm := unhide HM
    have hsz := unhide HSZ
    rw [World.size_alloc] at hdd
    have hv : ∀ k, VF w.heap.size (.slice none 0 0) k ↔ k = w.heap.size := fun k => by simp [VF, Value.ownBlock]
    have l1 := (Array.getElem?_eq_some_iff.1 o1).1
    refine ⟨_, results_tmp rfl _ _ _, v, rfl, (hp.block _ l1 (by omega)).trans o1, ?_, fun k hk => ?_, ?_⟩
    · have hvr : VRow W v (hdV (obs ws 1)) := vrow_of_owns (by simpa [hdV] using o2)
      refine hvr.keep hp (fun b off c e _ he => hnc ((o4 dd).2 (Or.inr ?_)))
      rw [e, ← he]
      rfl
    · refine ⟨?_, Nat.lt_of_lt_of_le (o2.lt k hk).2 hp.size⟩
      rcases hm.sub k ((o4 k).2 (Or.inr hk)) with h | h
      · exact Nat.le_of_eq ((hv k).1 h).symm
      · rw [World.size_alloc] at h; omega
    · exact below_put h1 hm (fun k hk => Nat.le_of_eq ((hv k).1 hk).symm) (by rw [World.size_alloc]; exact hdd) _
  case stop =>
    rintro dd c pre x rest C W _ _ h
    exact h.elim
end Go.Proofs.YtlbhhdldeaehkaaGreat

/- The landed package cells: what the sequence of All tells. -/
namespace Go.Proofs.YtlbhhdldeaehkaaGreat
open Go.RowKit Go.Shelf
attribute [local go_sem] Oper.semAt_some

theorem hdV_get {Z pre rest : List (Nat × Int)} {x : Nat × Int} (h : Z = pre ++ x :: rest) : (hdV Z)[pre.length]? = some (.int .u32 x.2) := by
  rw [h, hdV]
  simp

set_option maxRecDepth 20000 in
set_option maxHeartbeats 2000000 in
theorem all_seq (Bn : Nat) (v : Value) (ws : List Int) (hU : U32 ws) (hl : ws.length ≤ 1048576) :
    SeqM 76 #[.pointer (some ⟨Bn, 0, none⟩)] encO (obs ws 1) (fun k => k = Bn ∨ obs ws 1 ≠ [] ∧ v.ownBlock = some k) (fun W => W.cell? ⟨Bn, 0, none⟩ = some v ∧ VRow W v (hdV (obs ws 1))) := by
  intro J Jx l m C0 W hJ hY h0 hD hF
  obtain ⟨hB, hR⟩ := hD
  refine callsIn_of_wp Tryz.func76 rfl trivial ?_ rfl
  simp only [Tryz.ntmps76, List.size_toArray, List.length_cons, List.length_nil, Nat.reduceAdd, Nat.reduceSub, Array.replicate_succ, Array.replicate_zero, List.push_toArray, List.append_toArray, List.nil_append, List.cons_append]
  obtain ⟨a, cap, rfl, hc1, hc2, hc3⟩ := hR.shape
  have hln : ∀ Z, (hdV Z).length = Z.length := fun Z => by simp [hdV]
  rw [hln] at hR hB hF
  have HY := hide hY
  have HR := hide hR
  have HF := hide hF
  have HU := hide hU
  have HL := hide (Nat.le_trans (obs_len ws) hl)
  have HWL := hide hl
  obtain ⟨Z, hZ0⟩ : ∃ Z, Z = obs ws 1 := ⟨_, rfl⟩
  rw [← hZ0] at HY HR HF HL ⊢
  have HZ0 := hide hZ0
  have hlI : (Z.length : Int) ≤ 1048576 := by have := unhide HL; omega
  rw [← hZ0] at hB
  clear hY hR hF hU hl hc1 hc2 hc3 hln hZ0
  gi_wp2_with fail
  gi_loopw [3, 8] (fun i j wr => ∃ (pre : List (Nat × Int)) (C : Nat → Prop), i = .int .i64 ((endO pre : Nat) : Int) ∧ j = .int .i64 (pre.length : Int) ∧ (∃ rest, Z = pre ++ rest) ∧ J pre C wr ∧ Moves C0 C W wr) (fun _ j _ => Z.length - (intOf j).toNat)
  case atStart => exact ⟨[], C0, rfl, rfl, ⟨_, rfl⟩, h0, Moves.refl _ _⟩
  case round =>
    obtain ⟨pre, C, rfl, rfl, ⟨rest, hZ⟩, j1, hm⟩ := hrel
    cases rest with
    | nil =>
      rw [List.append_nil] at hZ
      have HE := hide (show ∃ C, J Z C wr ∧ Moves C0 C W wr from ⟨C, by rw [hZ]; exact j1, hm⟩)
      have hge : (Z.length : Int) ≤ (pre.length : Int) := by rw [hZ]; omega
      generalize endO pre = p at *
      generalize pre.length = q at *
      clear hZ j1 hm h0 hB
      gi_wp2_with fail
      go_end0
      exact ⟨⟨_, rfl⟩, Or.inl (unhide HE)⟩
    | cons y rest =>
      have hBr : wr.cell? ⟨Bn, 0, none⟩ = some (.slice a Z.length cap) := (hm.keep.cell (p := ⟨Bn, 0, none⟩) (unhide HF Bn (Or.inl rfl)).2 (unhide HF Bn (Or.inl rfl)).1).trans hB
      have hRr := (unhide HR).keep hm.keep (fun b off c e hne => (unhide HF b (Or.inr ⟨fun h => hne (by rw [h]; rfl), by rw [e]; rfl⟩)).1)
      obtain ⟨b, off, cap', e0, g1, g2, hcl⟩ := hRr.open (by intro e; have := congrArg List.length e; simp [hdV, hZ] at this)
      simp only [Value.slice.injEq] at e0
      obtain ⟨rfl, g3, rfl⟩ := e0
      have hcp := hcl pre.length _ (hdV_get hZ)
      obtain ⟨n1, n2, n3, n4⟩ := obs_next (by rw [← unhide HZ0]; exact hZ)
      obtain ⟨u0, u1⟩ := (unhide HU).wd y.1
      rw [← n2] at u0 u1
      obtain ⟨fn, tmps, assign, body, hy, hRo⟩ := unhide HY pre y rest C wr hZ j1 hm
      obtain ⟨o1, o2, o3⟩ := n3
      rw [← n2] at o2 o3
      have hs1 := szN_int u0
      have HD := hide (show ((endO (pre ++ [y]) : Nat) : Int) = (y.1 : Int) + y.2 / 4096 by rw [endO_snoc, ← hs1]; simp)
      have hw2 : IntKind.i64.wrap ((y.1 : Int) + y.2 / 4096) = (y.1 : Int) + y.2 / 4096 := by have := unhide HWL; rw [IntKind.wrap_i64]; omega
      have hlt : (pre.length : Int) < (Z.length : Int) := by rw [hZ]; simp; omega
      have HZ := hide hZ
      have HM := hide hm
      have HRo := hide hRo
      dsimp only [encO] at hy
      rw [← n1]
      obtain ⟨p, x⟩ := y
      dsimp only at *
      have HLT := hide hlt
      have HQ := hide (show ((pre.length + 1 : Nat) : Int) = (pre.length : Int) + 1 by omega)
      obtain ⟨q, hq⟩ : ∃ q, q = pre.length := ⟨_, rfl⟩
      rw [← hq] at hcp hlt HLT HQ ⊢
      have HQE := hide hq
      have hw3 : IntKind.i64.wrap ((q : Int) + 1) = (q : Int) + 1 := by have := unhide HL; have := unhide HLT; rw [IntKind.wrap_i64]; omega
      clear hZ hm hRo n1 n2 n4 o1 o2 o3 hs1 g1 g2 g3 hcl hRr j1 h0 hB hq
      gi_wp2_with fail
      refine ⟨(fun h => (by cases h)), (unhide HRo).mono ?_⟩
      rintro e w2 (⟨rfl, C', j2, mv2⟩ | ⟨rfl, C', jx2, mv2⟩)
      · have HCS := hide (csize_t x w2 u0 u1)
        gi_wp2_with fail
        refine ⟨trivial, (fun h => (by cases h)), (callsIn_wide.2 (unhide HCS)).mono ?_⟩
        rintro e w3 ⟨rfl, rfl⟩
        have HM2 := hide ((unhide HM).trans mv2)
        clear mv2
        gi_wp2_with fail
        go_roundw
        case rel => exact ⟨pre ++ [(p, x)], C', by rw [unhide HD], by rw [List.length_append, List.length_singleton, ← unhide HQE]; rfl, ⟨rest, by rw [unhide HZ]; simp⟩, j2, unhide HM2⟩
        case measure =>
          have := unhide HLT
          simp only [intOf]
          omega
      · have HE2 := hide (show ∃ pre x rest C, Z = pre ++ x :: rest ∧ Jx (pre ++ [x]) C w2 ∧ Moves C0 C W w2 from ⟨pre, (p, x), rest, C', unhide HZ, jx2, (unhide HM).trans mv2⟩)
        clear jx2 mv2
        gi_wp2_with fail
        refine bodyPost_ret (results_none rfl _ _ _) rfl ?_
        exact ⟨⟨_, rfl⟩, Or.inr (unhide HE2)⟩
end Go.Proofs.YtlbhhdldeaehkaaGreat
