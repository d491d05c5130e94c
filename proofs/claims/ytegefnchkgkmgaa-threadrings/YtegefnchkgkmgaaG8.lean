/- Texts of ours, one behind the other: CelPlaces, CelAll, CelSeq. -/
import Derived.Test.YtegefnchkgkmgaaG5
import Derived.Test.YtegefnchkgkmgaaG7
import Derived.Laws.EntriesVeiled
import Derived.Deep.OwnRows
import Derived.Laws.OwnMore
/- The landed package cells: objects, placesOf. -/
namespace Go.Proofs.Ytegefnchkgkmgaa
open Go.RowKit Go.Shelf
attribute [local go_sem] Oper.semAt_some

theorem Try.infoBool : (Try.prog.info? 4).map (fun i => (i.zero, i.size, i.bytes)) = some (some (.bool false), 1, 1) := by kernel_rfl
theorem made_arr (z : Value) (n : Nat) : madeCells #[z] n = (List.replicate n z).toArray := by
  rw [← toList_madeCells_one z n]
theorem run_make_bools (t : TypeId) (ht : Try.prog.underlying t = some (.slice 4)) (n : Nat) (hn : n < 70368744177664) (w : World) :
    (Instr.makeSlice t (.int .i64 (n : Int)) (.int .i64 (n : Int))).run Try.prog w = .ok (.slice (some ⟨w.heap.size, 0, none⟩) n n) (w.alloc (.cells (Array.replicate n (.bool false)) 4)) := by
  rw [← List.toArray_replicate, ← made_arr]
  exact run_make_row' t 4 (.bool false) 1 ht Try.infoBool rfl .i64 .i64 n (by omega) (by omega) w
theorem cobjects_any (w : World) (a : Option Addr) (n c : Nat) :
    Calls Try.prog 55 #[.slice a n c] w fun e w' => e = .returned (.func (.func 69) #[] #[.pointer (some ⟨w.heap.size, 0, none⟩)]) ∧ w' = w.alloc (.cells #[.slice a n c] 22) := by
  have hmf : ∀ (fn : Fn) (first cap : Array Value) (w : World), (Instr.makeFunc fn first cap).run Try.prog w = .ok (.func fn first cap) w := fun _ _ _ _ => rfl
  go_enter Try.func55, Try.ntmps55
  go_wp2
  go_ret
  exact ⟨rfl, rfl⟩

/-- What placesOf has between two rounds: the marks, in block g; the variables that hold them, and the end. -/
def PlI (n g : Nat) (pre : List (Nat × Int)) (C : Nat → Prop) (W : World) : Prop :=
  W.heap[g]? = some (.cells ((marks n pre).map Value.bool).toArray 4 (0, 0)) ∧ W.heap[g + 1]? = some (.cells #[.slice (some ⟨g, 0, none⟩) n n] 86 (0, 0)) ∧ W.heap[g + 1 + 1]? = some (.cells #[.int .i64 ((endO pre : Nat) : Int)] 3 (0, 0)) ∧ ∀ k, C k ↔ k = g ∨ k = g + 1 ∨ k = g + 1 + 1
theorem PlI.ok (n g b : Nat) : SOk b (PlI n g) := by
  refine ⟨fun pre C W W' G h hk hn _ => ?_, fun pre C W h k hc => ?_⟩
  · obtain ⟨h1, h2, h3, h4⟩ := h
    exact ⟨(hk.block _ (Array.getElem?_eq_some_iff.1 h1).1 (hn _ ((h4 _).2 (Or.inl rfl)))).trans h1, (hk.block _ (Array.getElem?_eq_some_iff.1 h2).1 (hn _ ((h4 _).2 (Or.inr (Or.inl rfl))))).trans h2, (hk.block _ (Array.getElem?_eq_some_iff.1 h3).1 (hn _ ((h4 _).2 (Or.inr (Or.inr rfl))))).trans h3, h4⟩
  · obtain ⟨h1, h2, h3, h4⟩ := h
    rcases (h4 k).1 hc with rfl | rfl | rfl
    · exact (Array.getElem?_eq_some_iff.1 h1).1
    · exact (Array.getElem?_eq_some_iff.1 h2).1
    · exact (Array.getElem?_eq_some_iff.1 h3).1
theorem keep_set (W : World) (b j : Nat) (v : Value) : Keep (fun k => k = b) W (W.setCell ⟨b, j, none⟩ v) := ⟨rfl, rfl, rfl, by simp [World.setCell], fun k _ hk => heap_setCell_other W ⟨b, j, none⟩ k _ (fun e => hk (by simp at e; exact e.symm ▸ rfl))⟩
/-- Behind a range, where its block for deferred calls was taken up. -/
theorem below_put {w w1 W : World} {C0 C : Nat → Prop} {dd : Nat} (h1 : Below w.heap.size w w1) (hm : Moves C0 C w1 W) (hC : ∀ k, C0 k → w.heap.size ≤ k) (hdd : w1.heap.size ≤ dd) (o : Obj) : Below w.heap.size w (W.putObj dd o) := by
  have h2 := hm.keep.below h1.size hC
  have h3 := h1.trans h2
  have hp := keep_put W dd o
  have hs := h1.size
  exact h3.trans (hp.below h3.size (fun k e => by omega))
theorem SOk.at {α β : Type} {b : Nat} {J : List α → (Nat → Prop) → World → Prop} (h : SOk b J) (pre : List α) : SOk b (fun (_ : List β) => J pre) :=
  ⟨fun _ C W W' G h1 h2 h3 h4 => h.stays pre C W W' G h1 h2 h3 h4, fun _ C W h1 => h.lt pre C W h1⟩
theorem hs_block {w : World} {a : Option Addr} {n cap : Nat} {vs : List Value} (h : VRow w (.slice a n cap) vs) (hne : vs ≠ []) (k : Nat) (hk : (Value.slice a n cap).ownBlock = some k) : k < w.heap.size := by
  obtain ⟨b, off, c, e, _, _, hc⟩ := h.open hne
  simp only [Value.slice.injEq] at e
  obtain ⟨rfl, _, _⟩ := e
  simp [Value.ownBlock] at hk
  subst hk
  cases vs with
  | nil => exact absurd rfl hne
  | cons v vs => exact World.block_lt_of_cell? w _ (hc 0 v rfl)

set_option maxRecDepth 20000 in
set_option maxHeartbeats 2000000 in
theorem cplaces_any (s : Value) (ws : List Int) (w : World) (hs : VRow w s (Uw ws)) (hU : U32 ws) (hl : ws.length < 70368744177664) :
    Calls Try.prog 52 #[s] w fun e w' => ∃ g, e = .returned (.tuple #[.slice (some ⟨g, 0, none⟩) ws.length ws.length, .bool (decide (endO (obs ws 1) = ws.length))]) ∧ w.heap.size ≤ g ∧ w'.heap[g]? = some (.cells ((marks ws.length (obs ws 1)).map Value.bool).toArray 4 (0, 0)) ∧ Below w.heap.size w w' := by
  refine (callsIn_wide (n := 3)).1 ?_
  refine callsIn_of_wp_marks Try.func52 rfl trivial ?_ rfl
  simp only [Try.ntmps52, List.size_toArray, List.length_cons, List.length_nil, Nat.reduceAdd, Nat.reduceSub, Array.replicate_succ, Array.replicate_zero, List.push_toArray, List.append_toArray, List.nil_append, List.cons_append]
  obtain ⟨a, cap, rfl, hc1, hc2, hc3⟩ := hs.shape
  rw [List.length_map] at *
  have hmk := run_make_bools 86 Try.underlying86 ws.length hl
  have HS := hide hs
  have HU := hide hU
  have HL := hide hl
  clear hs hU hl hc1 hc2 hc3
  have hW0 : Below w.heap.size w (((w.alloc (.cells (Array.replicate ws.length (.bool false)) 4)).alloc (.cells #[.slice (some ⟨w.heap.size, 0, none⟩) ws.length ws.length] 86)).alloc (.cells #[.int .i64 1] 3)) := (((Below.refl _ w).alloc (Nat.le_refl _) _).alloc (by simp) _).alloc (by simp; omega) _
  have h00 : PlI ws.length w.heap.size [] (fun k => k = w.heap.size ∨ k = w.heap.size + 1 ∨ k = w.heap.size + 1 + 1) (((w.alloc (.cells (Array.replicate ws.length (.bool false)) 4)).alloc (.cells #[.slice (some ⟨w.heap.size, 0, none⟩) ws.length ws.length] 86)).alloc (.cells #[.int .i64 1] 3)) := by
    refine ⟨?_, ?_, ?_, fun _ => Iff.rfl⟩
    · rw [marks_nil, List.map_replicate, List.toArray_replicate]
      exact (Below.heap_alloc _ _ _ (by simp; omega)).trans ((Below.heap_alloc _ _ _ (by simp)).trans (World.alloc_heap_new w _))
    · have := World.alloc_heap_new (w.alloc (.cells (Array.replicate ws.length (.bool false)) 4)) (.cells #[.slice (some ⟨w.heap.size, 0, none⟩) ws.length ws.length] 86)
      rw [World.size_alloc] at this
      exact (Below.heap_alloc _ _ _ (by simp)).trans this
    · have := World.alloc_heap_new ((w.alloc (.cells (Array.replicate ws.length (.bool false)) 4)).alloc (.cells #[.slice (some ⟨w.heap.size, 0, none⟩) ws.length ws.length] 86)) (.cells #[.int .i64 1] 3)
      rw [World.size_alloc, World.size_alloc] at this
      exact this
  have HW0 := hide hW0
  have H00 := hide h00
  clear hW0 h00
  gi_wp2_with fail
  generalize hW0 : (((w.alloc (.cells (Array.replicate ws.length (.bool false)) 4)).alloc (.cells #[.slice (some ⟨w.heap.size, 0, none⟩) ws.length ws.length] 86)).alloc (.cells #[.int .i64 1] 3)) = W0 at *
  have HSZ : Hid (W0.heap.size = w.heap.size + 3) := by unfold Hid; rw [← hW0]; simp
  clear hW0
  refine ⟨trivial, (callsIn_wide.2 (cobjects_any W0 a ws.length cap)).mono ?_⟩
  rintro e w1 ⟨rfl, rfl⟩
  have HB1 := hide ((Below.refl _ W0).alloc (Nat.le_refl _) (.cells #[.slice a ws.length cap] 22))
  gi_wp2_with fail
  have hr0 := (unhide HS).below (unhide HW0)
  refine wpIn_seqR (objects_seq W0.heap.size (.slice a ws.length cap) ws (unhide HU) (unhide HL)) rfl (fun _ _ => by kernel_rfl) (fun _ => rfl) (PlI ws.length w.heap.size) (fun _ _ _ _ => False) (PlI.ok _ _ _) (fun _ => SOk.none _) ((PlI.ok _ _ 0).below (unhide H00) (unhide HB1)) ?data ?apart ?round ?done ?stop
  case data =>
    intro W hb
    refine ⟨(hb.cell (p := ⟨W0.heap.size, 0, none⟩) (by simp)).trans (by simp), (hr0.below (unhide HB1)).below hb⟩
  case apart =>
    intro k hk
    have hsz := unhide HSZ
    rcases hk with rfl | ⟨hne, hk⟩
    · exact ⟨by omega, by simp⟩
    · have hk2 := hs_block (unhide HS) (fun h => hne (List.map_eq_nil_iff.1 h)) k hk
      exact ⟨by omega, by simp; omega⟩
  case round =>
    rintro l pre ⟨p, h⟩ rest C W hZ hi hm
    dsimp only [encO]
    have HZ := hide hZ
    have HI := hide hi
    clear hZ hi hm hr0
    gi_wp2
    refine ⟨PlI ws.length w.heap.size pre, C, (PlI.ok _ _ _).at _, unhide HI, Moves.refl _ _, fun W2 hi2 hm2 => ?_⟩
    clear HI
    obtain ⟨n1, n2, n3, n4⟩ := obs_next (unhide HZ)
    have hp : p < ws.length := n3.1
    have hpI : (p : Int) < (ws.length : Int) := by omega
    obtain ⟨u0, u1⟩ := (unhide HU).wd p
    dsimp only at n2
    rw [← n2] at u0 u1
    obtain ⟨b1, b2, b3, b4⟩ := hi2
    have c2 : W2.cell? ⟨w.heap.size + 1, 0, none⟩ = some (.slice (some ⟨w.heap.size, 0, none⟩) ws.length ws.length) := by rw [cell_of_row W2 _ _ _ _ (0, 0) b2]; rfl
    have c3 : W2.cell? ⟨w.heap.size + 1 + 1, 0, none⟩ = some (.int .i64 ((endO pre : Nat) : Int)) := by rw [cell_of_row W2 _ _ _ _ (0, 0) b3]; rfl
    have c1 : W2.cell? ⟨w.heap.size, p, none⟩ = some (.bool (decide (p ∈ pre.map Prod.fst))) := by
      rw [cell_of_row W2 _ _ _ _ (0, 0) b1, List.getElem?_toArray, List.getElem?_map, marks_get _ hp]; rfl
    have f1 : W2.frozen? ⟨w.heap.size, p, none⟩ = false := frozen_of_block b1
    have f3 : W2.frozen? ⟨w.heap.size + 1 + 1, 0, none⟩ = false := frozen_of_block b3
    have HB := hide (And.intro b1 (And.intro b2 (And.intro b3 b4)))
    have HM2 := hide hm2
    clear b1 b2 b3 b4 hm2 n1 n2 n3 n4 hp
    gi_wp2_with fail
    refine ⟨trivial, (CallsIn.inRound l (callsIn_wide.2 (csize_t h _ u0 u1))).mono ?_⟩
    rintro e w5 ⟨rfl, rfl⟩
    gi_wp2_with fail
    obtain ⟨b1, b2, b3, b4⟩ := unhide HB
    have hw : wrap64 ((p : Int) + h / 4096) = ((p + szN h : Nat) : Int) := by
      have h1 := szN_int u0
      have h2 := szN_lt u1
      have h3 := unhide HL
      unfold wrap64
      omega
    rw [hw]
    have g1 := heap_setCell_same W2 w.heap.size p _ _ (.bool true) b1
    have K1 : Keep (fun k => k = w.heap.size) W2 (W2.setCell ⟨w.heap.size, p, none⟩ (.bool true)) := keep_set _ _ _ _
    have K2 : Keep (fun k => k = w.heap.size + 1 + 1) (W2.setCell ⟨w.heap.size, p, none⟩ (.bool true)) ((W2.setCell ⟨w.heap.size, p, none⟩ (.bool true)).setCell ⟨w.heap.size + 1 + 1, 0, none⟩ (.int .i64 ((p + szN h : Nat) : Int))) := keep_set _ _ _ _
    have l1 : w.heap.size < W2.heap.size := (Array.getElem?_eq_some_iff.1 b1).1
    have l2 : w.heap.size + 1 < W2.heap.size := (Array.getElem?_eq_some_iff.1 b2).1
    have l3 : w.heap.size + 1 + 1 < W2.heap.size := (Array.getElem?_eq_some_iff.1 b3).1
    have hs1 := K1.size
    have b3' := (K1.block (w.heap.size + 1 + 1) l3 (by omega)).trans b3
    refine ⟨C, ⟨?_, ?_, ?_, b4⟩, ((K1.weak (fun x hx => ?_)).trans K2 (fun x hx => ?_)), fun k hk => Or.inl hk⟩
    · rw [marks_snoc, K2.block w.heap.size (by omega) (by omega), g1]
      simp
    · exact (K2.block _ (by omega) (by omega)).trans ((K1.block _ l2 (by omega)).trans b2)
    · rw [endO_snoc, heap_setCell_same _ _ 0 _ _ _ b3']
      rfl
    · exact (b4 x).2 (Or.inl hx)
    · exact Or.inl ((b4 x).2 (Or.inr (Or.inr hx)))
  case done =>
    rintro dd C W hdd hi hm hnc hK
    obtain ⟨b1, b2, b3, b4⟩ := hi
    have c2 : W.cell? ⟨w.heap.size + 1, 0, none⟩ = some (.slice (some ⟨w.heap.size, 0, none⟩) ws.length ws.length) := by rw [cell_of_row W _ _ _ _ (0, 0) b2]; rfl
    have c3 : W.cell? ⟨w.heap.size + 1 + 1, 0, none⟩ = some (.int .i64 ((endO (obs ws 1) : Nat) : Int)) := by rw [cell_of_row W _ _ _ _ (0, 0) b3]; rfl
    have HB := hide (And.intro b1 (And.intro b2 (And.intro b3 b4)))
    have HM := hide hm
    have HK := hide hK
    obtain ⟨en, hen⟩ : ∃ en, endO (obs ws 1) = en := ⟨_, rfl⟩
    rw [hen] at c3
    have HEN := hide hen
    clear hen
    clear b1 b2 b3 b4 hm hK hr0
    gi_wp2_with fail
    gi_region
    gi_wp2_with fail
    refine ⟨by simp, .inl ⟨_, _, rfl, run_takeDeferred (w := W.drew) (unhide HK), ?_⟩⟩
    refine ⟨_, results_tmp2 rfl _ _ _, w.heap.size, ?_, Nat.le_refl _, ?_, ?_⟩
    · rw [unhide HEN]
      have hb : ((en : Int) == (ws.length : Int)) = decide (en = ws.length) := by
        by_cases h : en = ws.length
        · simp [h]
        · have h2 : ¬ (en : Int) = (ws.length : Int) := by omega
          simp [h, h2]
      rw [← hb]
      rfl
    · obtain ⟨b1, b2, b3, b4⟩ := unhide HB
      have hp := keep_put W.drew dd (.deferred none)
      exact (hp.block w.heap.size (Array.getElem?_eq_some_iff.1 b1).1 (fun e => hnc ((b4 dd).2 (Or.inl e.symm)))).trans b1
    · have h1 := (unhide HW0).trans ((unhide HB1).mono (unhide HW0).size)
      have h2 := below_put h1 (unhide HM) (fun k hk => by omega) hdd (.deferred none)
      exact ⟨h2.os, h2.tape, h2.output, h2.size, h2.block⟩
  case stop =>
    rintro dd c pre x rest C W _ _ h
    exact h.elim
end Go.Proofs.Ytegefnchkgkmgaa

/- The landed package cells: All, and its sequence. -/
namespace Go.Proofs.Ytegefnchkgkmgaa
open Go.RowKit Go.Shelf
attribute [local go_sem] Oper.semAt_some

theorem Try.infoU32 : (Try.prog.info? 25).map (fun i => (i.zero, i.size, i.bytes)) = some (some (.int .u32 0), 1, 4) := by kernel_rfl
/-- The heads that came. -/
def hdV (pre : List (Nat × Int)) : List Value := pre.map fun x => .int .u32 x.2
theorem hdV_snoc (pre : List (Nat × Int)) (p : Nat) (h : Int) : hdV (pre ++ [(p, h)]) = hdV pre ++ [.int .u32 h] := by simp [hdV]
def AlI (B : Nat) (pre : List (Nat × Int)) (C : Nat → Prop) (W : World) : Prop := GR B 22 25 1 pre.length (hdV pre) C W
theorem AlI.ok (B b : Nat) : SOk b (AlI B) := ⟨fun _ _ _ _ _ h hk hn _ => GR.stays h hk hn, fun _ _ _ h k hc => GR.lt h k hc⟩

theorem ob_len (ws : List Int) : ∀ (f p : Nat), (ob ws f p).length ≤ f
  | 0, _ => Nat.le_refl _
  | f + 1, p => by
    unfold ob
    split
    · have := ob_len ws f (p + szN (wd ws p)); simp; omega
    · simp
theorem obs_len (ws : List Int) : (obs ws 1).length ≤ ws.length := Nat.le_trans (ob_len ws _ _) (Nat.sub_le _ _)

end Go.Proofs.Ytegefnchkgkmgaa

/- The landed package cells: what the sequence of All tells. -/
namespace Go.Proofs.Ytegefnchkgkmgaa
open Go.RowKit Go.Shelf
attribute [local go_sem] Oper.semAt_some

theorem hdV_get {Z pre rest : List (Nat × Int)} {x : Nat × Int} (h : Z = pre ++ x :: rest) : (hdV Z)[pre.length]? = some (.int .u32 x.2) := by
  rw [h, hdV]
  simp

end Go.Proofs.Ytegefnchkgkmgaa
