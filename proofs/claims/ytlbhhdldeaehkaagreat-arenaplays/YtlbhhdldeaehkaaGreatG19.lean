/- Texts of ours, one behind the other: ThTie. -/
import Derived.Test.YtlbhhdldeaehkaaGreatG18
import Derived.StillTailTactics
/- The landed package thread: tie, slide. -/
namespace Go.Proofs.YtlbhhdldeaehkaaGreat
open Go.RowKit

set_option maxRecDepth 20000 in
set_option maxHeartbeats 2000000 in
theorem ltie_any (ws rs : List Int) (P : Nat → List Int → Prop) (g a N : Nat) (to h : Int) (L : List Int) (w : World) (hA : LmAt w g L) (hN : L.length = N) (hv : wd L a = h * 2 + 1) (hh : 0 ≤ h ∧ h < 4294967296) (h0 : P 0 L) (hf : a + 1 + ptN h ≤ N) (hM : N ≤ 2097152)
    (hP : ∀ j L, j < ptN h → P j L → L.length = N ∧ wd L (a + 1 + j) = tgt ws rs (a + 1 + j) ∧ (∃ q : Nat, (q : Int) = tgt ws rs (a + 1 + j) ∧ q < N ∧ q ≠ a + 1 + j) ∧ P (j + 1) (tieL ws rs L (a + 1 + j))) :
    Calls Tryz.prog 56 #[.slice (some ⟨g, 0, none⟩) N N, .agg #[.int .i64 (a : Int), .int .i64 to]] w fun e w' => e = .returned (.tuple #[]) ∧ ∃ L', P (ptN h) L' ∧ LmAt w' g L' ∧ Keep (fun k => k = g) w w' := by
  have hgs := hA.size
  obtain ⟨W0, hW0⟩ : ∃ W0, W0 = w.alloc (.cells #[.int .i64 (a : Int), .int .i64 to] 123) := ⟨_, rfl⟩
  have hal : Below w.heap.size w W0 := by rw [hW0]; exact (Below.refl _ w).alloc (Nat.le_refl _) _
  have hA0 := hA.below hal hgs
  have HAL := hide hal
  have HH := hide (fun w' (hA' : LmAt w' g L) => lhead_any g a N L h w' hA' (by omega) hv hh.1 hh.2 hN)
  have HP := hide (fun w' => cptrs_t h w' hh.1 hh.2)
  have hT := fun w' (hA' : LmAt w' g L) => ltieall_any ws rs P g (a + 1) (ptN h) N L w' hA' h0 hf hM hP
  rw [show ((a + 1 : Nat) : Int) = (a : Int) + 1 by omega, ptN_int h] at hT
  have HT := hide hT
  clear hT
  have hw1 : IntKind.i64.wrap ((a : Int) + 1) = (a : Int) + 1 := by rw [IntKind.wrap_i64]; omega
  obtain ⟨d0, d1⟩ := tw_cells (w := W0) (g := w.heap.size) (a := .int .i64 (a : Int)) (b := .int .i64 to) (e := 123) (by rw [hW0]; exact World.alloc_heap_new w _)
  have hmx : Tryz.prog.follows .mixedOrders = true := by kernel_rfl
  have HA0 := hide hA0
  clear hA hN hv hh h0 hf hM hP hA0
  go_enter Tryz.func56, Tryz.ntmps56
  go_wp2_with fail
  rw [← hW0]
  clear hW0 hal
  refine wp_region_still_tail 9 hmx (by kernel_rfl) ?_
  simp only [List.take_succ_cons, List.take_zero, List.drop_succ_cons, List.drop_zero]
  repeat (first | still_step | still_call (unhide HH _ (unhide HA0)) | still_call (unhide HP _))
  refine wpStill_nil ?_
  go_wp2_with fail
  refine Calls.mono (unhide HT _ (unhide HA0).drew) ?_
  rintro e w1 ⟨rfl, L', k1, k2, k3⟩
  have HF := hide (And.intro k1 (And.intro k2 ((Keep.of_below (F := fun k => k = g) (unhide HAL).drew).trans k3 (fun _ h => Or.inl h))))
  clear k1 k2 k3
  go_wp2_with fail
  go_end0
  exact ⟨rfl, L', unhide HF⟩

theorem Tryz.sizeU64l : (Tryz.prog.info? 124).map (·.size) = some 1 := by kernel_rfl
theorem cut_from (g N l : Nat) (hl : l < N) (W : World) : (Instr.slice 95 (.slice (some ⟨g, 0, none⟩) N N) (some (.int .i64 (l : Int))) none none).run Tryz.prog W = .ok (.slice (some ⟨g, l, none⟩) (N - l) (N - l)) W := by
  have := run_slice_l (P := Tryz.prog) W 95 (some ⟨g, 0, none⟩) N N (by rw [elemV_of Tryz.underlying95]; exact Tryz.underlying95) .i64 (l : Int) (by omega) (by omega)
  rw [this, sizeV_run Tryz.sizeU64l Tryz.underlying95]
  simp only [Result.andThen_ok, Int.toNat_natCast]
  unfold sliced
  rw [if_neg (by omega), Option.map_some, Addr.add_lit, Nat.mul_one, Nat.zero_add]
theorem cut_part (g N l k : Nat) (hl : l < N) (hk : l + k ≤ N) (W : World) : (Instr.slice 95 (.slice (some ⟨g, 0, none⟩) N N) (some (.int .i64 (l : Int))) (some (.int .i64 ((l : Int) + (k : Int)))) none).run Tryz.prog W = .ok (.slice (some ⟨g, l, none⟩) k (N - l)) W := by
  have := run_slice_lh (P := Tryz.prog) W 95 (some ⟨g, 0, none⟩) N N (by rw [elemV_of Tryz.underlying95]; exact Tryz.underlying95) .i64 .i64 (l : Int) ((l : Int) + (k : Int)) (by omega) (by omega) (by omega)
  rw [this, sizeV_run Tryz.sizeU64l Tryz.underlying95]
  have e1 : ((l : Int) + (k : Int)).toNat = l + k := by omega
  simp only [Result.andThen_ok, Int.toNat_natCast, e1]
  unfold sliced
  rw [if_neg (by omega), Option.map_some, Addr.add_lit, Nat.mul_one, Nat.zero_add, Nat.add_sub_cancel_left]

set_option maxRecDepth 20000 in
set_option maxHeartbeats 2000000 in
theorem lslide_any (g a t N : Nat) (h : Int) (L : List Int) (w : World) (hA : LmAt w g L) (hN : L.length = N) (hv : wd L a = h * 2 + 1) (hh : 0 ≤ h ∧ h < 4294967296) (ht : t ≤ a) (h0 : 0 < szN h) (hf : a + szN h ≤ N) (hM : N ≤ 2097152) :
    Calls Tryz.prog 57 #[.slice (some ⟨g, 0, none⟩) N N, .agg #[.int .i64 (a : Int), .int .i64 (t : Int)]] w fun e w' => e = .returned (.tuple #[]) ∧ LmAt w' g (sldL L a t (szN h) h) ∧ Keep (fun k => k = g) w w' := by
  have hgs := hA.size
  obtain ⟨W0, hW0⟩ : ∃ W0, W0 = w.alloc (.cells #[.int .i64 (a : Int), .int .i64 (t : Int)] 123) := ⟨_, rfl⟩
  have hal : Below w.heap.size w W0 := by rw [hW0]; exact (Below.refl _ w).alloc (Nat.le_refl _) _
  have hA0 := hA.below hal hgs
  have HAL := hide hal
  have HH := hide (lhead_any g a N L h W0 hA0 (by omega) hv hh.1 hh.2 hN)
  have hcs := fun w' => csize_t h w' hh.1 hh.2
  obtain ⟨m, hm⟩ : ∃ m, m = szN h := ⟨_, rfl⟩
  rw [← szN_int hh.1, ← hm] at hcs
  rw [← hm] at h0 hf ⊢
  have HS := hide hcs
  obtain ⟨d0, d1⟩ := tw_cells (w := W0) (g := w.heap.size) (a := .int .i64 (a : Int)) (b := .int .i64 (t : Int)) (e := 123) (by rw [hW0]; exact World.alloc_heap_new w _)
  have hmx : Tryz.prog.follows .mixedOrders = true := by kernel_rfl
  have hk1 := cut_from g N t (by omega)
  have hk2 := cut_part g N a m (by omega) hf
  have hw1 : IntKind.i64.wrap ((a : Int) + (m : Int)) = (a : Int) + (m : Int) := by rw [IntKind.wrap_i64]; omega
  have hw2 : IntKind.u64.wrap h = h := by rw [IntKind.wrap_u64]; omega
  have htN : (t : Int) < (N : Int) := by omega
  obtain ⟨n1, hn1⟩ : ∃ n1, n1 = N - t := ⟨_, rfl⟩
  obtain ⟨n2, hn2⟩ : ∃ n2, n2 = N - a := ⟨_, rfl⟩
  rw [← hn1] at hk1
  rw [← hn2] at hk2
  obtain ⟨cs, hcs2⟩ : ∃ cs, cs = (L.drop a).take m := ⟨_, rfl⟩
  have hcl : cs.length = m := by rw [hcs2, List.length_take, List.length_drop]; omega
  have HA0 := hide hA0
  have HCL := hide hcl
  have HNN := hide (And.intro hn1 (And.intro hn2 (And.intro ht (And.intro h0 (And.intro hf hN)))))
  have HCS := hide hcs2
  have HSRC := hide (show ∀ j v, (Lw cs)[j]? = some v → W0.drew.cell? ((⟨g, a, none⟩ : Addr).add j) = some v from fun j v hj => by
    rw [Addr.add_lit]
    have hjl : j < m := by
      rw [← hcl]
      have := (List.getElem?_eq_some_iff.1 hj).1
      rw [List.length_map] at this
      exact this
    have hc := hA0.drew.cell (k := a + j) (by omega)
    rw [hc]
    rw [List.getElem?_map, hcs2, List.getElem?_take, if_pos hjl, List.getElem?_drop, wd_get (by omega)] at hj
    exact hj)
  have HSP := hide (show (splice (Lw L) t (Lw cs)) = Lw (splice L t cs) by unfold splice; simp)
  have HGS := hide hgs
  clear hA hN hv hh ht h0 hf hM hcs hm hA0 hgs hn1 hn2 hcs2 hcl
  go_enter Tryz.func57, Tryz.ntmps57
  go_wp2_with fail
  rw [← hW0]
  clear hW0 hal
  refine Calls.mono (unhide HH) ?_
  rintro e w1 ⟨rfl, hw⟩
  obtain rfl := hw.symm
  go_wp2_with fail
  refine wp_region_still_tail 13 hmx (by kernel_rfl) ?_
  simp only [List.take_succ_cons, List.take_zero, List.drop_succ_cons, List.drop_zero]
  repeat (first | still_step | still_call (unhide HS _))
  refine wpStill_nil ?_
  have HW2 := hide (show ∀ w2, w2 = W0.drew.setRow g ((Lw L).toArray.toList.take t ++ (Lw cs ++ (Lw L).toArray.toList.drop (t + (Lw cs).length))).toArray → LmAt w2 g (splice L t cs) ∧ Keep (fun k => k = g) W0 w2 from fun w2 h2 => by
    refine ⟨?_, ?_⟩
    · unfold LmAt
      rw [← unhide HSP, h2]
      exact setRow_heap W0.drew g _ _ _ _ (unhide HA0)
    · rw [h2]
      exact ⟨rfl, rfl, rfl, by simp [World.setRow], fun k _ hn => setRow_other W0.drew g k _ hn⟩)
  have HRUN := hide (fun ops rest o ac Q (ho : o.guard = none) h1 h2 h3 (K : ∀ w2, LmAt w2 g (splice L t cs) ∧ Keep (fun k => k = g) W0 w2 → wpList Tryz.prog ops Q rest (ac.put o.dst (goInt (Lw cs).length)) w2) => wpList_copy_own (P := Tryz.prog) (w := W0.drew) (ops := ops) (rest := rest) (o := o) (a := ac) (Q := Q) ho (.tmp 12) (.tmp 21) 95 95 h1 124 Tryz.underlying95 Tryz.sizeU64l g t n1 n1 ⟨g, a, none⟩ m n2 h2 h3 (Lw L).toArray 124 (unhide HA0).drew (Lw cs) (by rw [List.length_map, unhide HCL]; have := unhide HNN; exact (Nat.min_eq_left (by omega)).symm) (unhide HSRC) (by rw [List.length_map, unhide HCL, List.size_toArray, List.length_map]; have := unhide HNN; omega) (by intro v hv; obtain ⟨x, _, rfl⟩ := List.mem_map.1 hv; rfl) (K _ (unhide HW2 _ rfl)))
  go_wp2_with (refine unhide HRUN _ _ _ _ _ rfl rfl rfl rfl ?_)
  intro w2 ha2 hk2a
  have hal2 := unhide HAL
  have hgw : g < w.heap.size := by
    have h1 := (unhide HA0).size
    have h2 := unhide HGS
    exact h2
  have e0 := (hk2a.cell (p := ⟨w.heap.size, 0, none⟩) (World.block_lt_of_cell? _ _ d0) (by show ¬ w.heap.size = g; omega)).trans d0
  have e1 := (hk2a.cell (p := ⟨w.heap.size, 1, none⟩) (World.block_lt_of_cell? _ _ d1) (by show ¬ w.heap.size = g; omega)).trans d1
  have hfz : ∀ j, w2.frozen? ⟨g, j, none⟩ = false := fun j => frozen_of_block ha2
  have hnn := unhide HNN
  have c1 := ha2.cell (k := t) (by rw [length_splice _ _ _ (by rw [unhide HCL]; omega)]; omega)
  generalize wd (splice L t cs) t = y at *
  have HF := hide (And.intro (ha2.set t h) ((Keep.of_below (F := fun k => k = g) hal2).trans (hk2a.trans (keep_set w2 g t (.int .u64 h)) (fun _ h => Or.inl h)) (fun _ h => Or.inl h)))
  rw [show (splice L t cs).set t h = sldL L a t m h by unfold sldL; rw [unhide HCS]] at HF
  clear d0 d1 ha2 hk2a hal2 hgw hnn HW2 HRUN
  go_wp2_with fail
  go_end0
  exact ⟨rfl, unhide HF⟩
end Go.Proofs.YtlbhhdldeaehkaaGreat
