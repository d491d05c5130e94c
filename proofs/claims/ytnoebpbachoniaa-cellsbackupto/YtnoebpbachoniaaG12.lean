/- Texts of ours, one behind the other: CelAll, CelSeq. -/
import Derived.Test.YtnoebpbachoniaaG7
import Derived.Test.YtnoebpbachoniaaG11
/- The landed package cells: All, and its sequence. -/
namespace Go.Proofs.Ytnoebpbachoniaa
open Go.RowKit Go.Shelf
attribute [local go_sem] Oper.semAt_some

theorem Try.infoU32 : (Try.prog.info? 22).map (fun i => (i.zero, i.size, i.bytes)) = some (some (.int .u32 0), 1, 4) := by kernel_rfl
/-- The heads that came. -/
def hdV (pre : List (Nat × Int)) : List Value := pre.map fun x => .int .u32 x.2
theorem hdV_snoc (pre : List (Nat × Int)) (p : Nat) (h : Int) : hdV (pre ++ [(p, h)]) = hdV pre ++ [.int .u32 h] := by simp [hdV]
def AlI (B : Nat) (pre : List (Nat × Int)) (C : Nat → Prop) (W : World) : Prop := GR B 29 22 1 pre.length (hdV pre) C W
theorem AlI.ok (B b : Nat) : SOk b (AlI B) := ⟨fun _ _ _ _ _ h hk hn _ => GR.stays h hk hn, fun _ _ _ h k hc => GR.lt h k hc⟩

theorem ob_len (ws : List Int) : ∀ (f p : Nat), (ob ws f p).length ≤ f
  | 0, _ => Nat.le_refl _
  | f + 1, p => by
    unfold ob
    split
    · have := ob_len ws f (p + szN (wd ws p)); simp; omega
    · simp
theorem obs_len (ws : List Int) : (obs ws 1).length ≤ ws.length := Nat.le_trans (ob_len ws _ _) (Nat.sub_le _ _)

set_option maxRecDepth 20000 in
set_option maxHeartbeats 2000000 in
theorem call_any (s : Value) (ws : List Int) (w : World) (hs : VRow w s (Uw ws)) (hU : U32 ws) (hl : ws.length ≤ 1048576) :
    Calls Try.prog 30 #[s] w fun e w' => ∃ v, e = .returned (.func (.func 42) #[] #[.pointer (some ⟨w.heap.size, 0, none⟩)]) ∧ w'.heap[w.heap.size]? = some (.cells #[v] 29 (0, 0)) ∧ VRow w' v (hdV (obs ws 1)) ∧ (∀ k, v.ownBlock = some k → w.heap.size ≤ k ∧ k < w'.heap.size) ∧ Below w.heap.size w w' := by
  have hmf : ∀ (fn : Fn) (first cap : Array Value) (w : World), (Instr.makeFunc fn first cap).run Try.prog w = .ok (.func fn first cap) w := fun _ _ _ _ => rfl
  refine (callsIn_wide (n := 5)).1 ?_
  refine callsIn_of_wp_marks Try.func30 rfl trivial ?_ rfl
  simp only [Try.ntmps30, List.size_toArray, List.length_cons, List.length_nil, Nat.reduceAdd, Nat.reduceSub, Array.replicate_succ, Array.replicate_zero, List.push_toArray, List.append_toArray, List.nil_append, List.cons_append]
  obtain ⟨i0, hi, hz0, hz1, hz2⟩ := info_parts Try.infoU32
  obtain ⟨a, cap, rfl, hc1, hc2, hc3⟩ := hs.shape
  rw [List.length_map] at *
  have HS := hide hs
  have HU := hide hU
  have HL := hide hl
  clear hs hU hl hc1 hc2 hc3
  obtain ⟨W0, hW0⟩ : ∃ W0, w.alloc (.cells #[.slice none 0 0] 29) = W0 := ⟨_, rfl⟩
  have HB0 : Hid (Below w.heap.size w W0) := by unfold Hid; rw [← hW0]; exact (Below.refl _ w).alloc (Nat.le_refl _) _
  have HSZ : Hid (W0.heap.size = w.heap.size + 1) := by unfold Hid; rw [← hW0]; simp
  have H0 : Hid (AlI w.heap.size [] (VF w.heap.size (.slice none 0 0)) W0) := by
    unfold Hid
    rw [← hW0]
    exact ⟨_, World.alloc_heap_new w _, World.ownsRow_nil _ _ _ _, (by simp [Value.ownBlock]), fun _ => Iff.rfl⟩
  have HW0 := hide hW0
  clear hW0
  gi_wp2_with fail
  rw [unhide HW0]
  clear HW0
  refine ⟨trivial, (callsIn_wide.2 (cobjects_any W0 a ws.length cap)).mono ?_⟩
  rintro e w1 ⟨rfl, rfl⟩
  have HB1 := hide ((Below.refl _ W0).alloc (Nat.le_refl _) (.cells #[.slice a ws.length cap] 29))
  gi_wp2_with fail
  have hr0 := (unhide HS).below (unhide HB0)
  refine wpIn_seqR (C0 := VF w.heap.size (.slice none 0 0)) (objects_seq W0.heap.size (.slice a ws.length cap) ws (unhide HU) (by have := unhide HL; omega)) rfl (fun _ _ => by kernel_rfl) (fun _ => rfl)
    (AlI w.heap.size) (fun _ _ _ _ => False) (AlI.ok _ _) (fun _ => SOk.none _) ((AlI.ok _ 0).below (unhide H0) (unhide HB1)) ?data ?apart ?round ?done ?stop
  case data =>
    intro W hb
    refine ⟨(hb.cell (p := ⟨W0.heap.size, 0, none⟩) (by simp)).trans (by simp), (hr0.below (unhide HB1)).below hb⟩
  case apart =>
    intro k hk
    have hsz := unhide HSZ
    rw [World.size_alloc]
    have hv : ∀ k, VF w.heap.size (.slice none 0 0) k ↔ k = w.heap.size := fun k => by simp [VF, Value.ownBlock]
    rw [hv]
    rcases hk with rfl | ⟨hne, hk⟩
    · exact ⟨by omega, by omega⟩
    · have hk2 := hs_block (unhide HS) (fun h => hne (List.map_eq_nil_iff.1 h)) k hk
      exact ⟨by omega, by omega⟩
  case round =>
    rintro l pre ⟨p, h⟩ rest C W hZ hi2 hm
    dsimp only [encO]
    have HZ := hide hZ
    have HI := hide hi2
    clear hZ hi2 hm hr0
    gi_wp2
    refine ⟨AlI w.heap.size pre, C, (AlI.ok _ _).at pre, unhide HI, Moves.refl _ _, fun W2 hi2 hm2 => ?_⟩
    clear HI
    obtain ⟨v, o1, o2, o3, o4⟩ := hi2
    obtain ⟨pv, cv, rfl⟩ := ownsV_shape o2
    have hlen : pre.length < 1048576 := by
      have h1 := obs_len ws
      rw [unhide HZ] at h1
      have := unhide HL
      simp at h1
      omega
    have HLN := hide hlen
    have d0 : W2.cell? ⟨w.heap.size, 0, none⟩ = some (.slice pv pre.length cv) := by rw [cell_of_row W2 w.heap.size _ _ _ (0, 0) o1]; rfl
    have hbW : Below W2.heap.size W2 (W2.alloc (.cells #[.int .u32 h] 22)) := (Below.refl _ _).alloc (Nat.le_refl _) _
    have HO2 := hide (ownsV_keep (F := fun _ => False) o2 (Keep.of_below hbW) (fun _ _ => id))
    have HO1 := hide o1
    have HO3 := hide o3
    have HCV : Hid (∀ k, VF w.heap.size (.slice pv pre.length cv) k → C k) := fun k hk => (o4 k).2 hk
    have HBW := hide hbW
    have hBlW : w.heap.size < W2.heap.size := (Array.getElem?_eq_some_iff.1 o1).1
    clear hlen o1 o2 o3 o4 hbW
    gi_wp2_with (first
      | (gi_at_builtin; refine wpListIn_append_any rfl (.tmp 10) (.tmp 12) 29 rfl 0 22 i0 (.int .u32 0) Try.underlying29 hi hz0 1 4 (by omega) hz1 hz2 rfl (.slice pv pre.length cv) pre.length (hdV pre) rfl (unhide HO2) ⟨W2.heap.size, 0, none⟩ 1 1 [.int .u32 h] rfl rfl (by intro j u hj; match j, hj with | 0, hj => (simp at hj; subst hj; simp [Addr.add])) (by intro u hu; simp at hu; subst hu; rfl) (by have := unhide HLN; unfold maxLen; omega) (by have := unhide HLN; omega) (Nat.zero_le _) ?_))
    intro v2 w2 hown2 hgrow2 hob2
    have hblk2 := (hgrow2.block w.heap.size (by simp; omega) (fun e => unhide HO3 e.symm)).trans (((unhide HBW).block w.heap.size hBlW).trans (unhide HO1))
    have y0 : w2.cell? ⟨w.heap.size, 0, none⟩ = some (.slice pv pre.length cv) := by rw [cell_of_row w2 w.heap.size _ _ _ (0, 0) hblk2]; rfl
    have yf : w2.frozen? ⟨w.heap.size, 0, none⟩ = false := frozen_of_block hblk2
    have HJ := hide (GR.more (unhide HO1) (unhide HO3) (unhide HCV) (unhide HBW) hown2 hgrow2 (by rw [World.size_alloc]; exact hob2))
    obtain ⟨p2, c2, rfl⟩ := ownsV_shape hown2
    clear hown2 hgrow2 hob2 hblk2 d0
    gi_wp2_with fail
    obtain ⟨j1, j2⟩ := unhide HJ
    refine ⟨_, ?_, j2⟩
    unfold AlI
    rw [hdV_snoc, List.length_append]
    exact j1
  case done =>
    rintro dd C W hdd ⟨v, o1, o2, o3, o4⟩ hm hnc hK
    have HV := hide (And.intro o1 (And.intro o2 (And.intro o3 o4)))
    have HM := hide hm
    have HK := hide hK
    clear o1 o2 o3 o4 hm hK hr0
    gi_wp2_with fail
    refine ⟨by simp, .inl ⟨_, _, rfl, run_takeDeferred (unhide HK), ?_⟩⟩
    obtain ⟨o1, o2, o3, o4⟩ := unhide HV
    have hp := keep_put W dd (.deferred none)
    have h1 := (unhide HB0).trans ((unhide HB1).mono (unhide HB0).size)
    have hm := unhide HM
    have hsz := unhide HSZ
    rw [World.size_alloc] at hdd
    have hv : ∀ k, VF w.heap.size (.slice none 0 0) k ↔ k = w.heap.size := fun k => by simp [VF, Value.ownBlock]
    have l1 := (Array.getElem?_eq_some_iff.1 o1).1
    refine ⟨_, results_tmp rfl _ _ _, v, rfl, (hp.block _ l1 (by omega)).trans o1, ?_, fun k hk => ?_, ?_⟩
    · have hvr : VRow W v (hdV (obs ws 1)) := vrow_of_owns (by simpa [hdV] using o2)
      refine hvr.keep hp (fun b off c e _ he => hnc ((o4 dd).2 (Or.inr ?_)))
      rw [e, ← he]
      rfl
    · refine ⟨?_, Nat.lt_of_lt_of_le (o2.lt k hk).2 hp.size⟩
      rcases hm.sub k ((o4 k).2 (Or.inr hk)) with h | h
      · exact Nat.le_of_eq ((hv k).1 h).symm
      · rw [World.size_alloc] at h; omega
    · exact below_put h1 hm (fun k hk => Nat.le_of_eq ((hv k).1 hk).symm) (by rw [World.size_alloc]; exact hdd) _
  case stop =>
    rintro dd c pre x rest C W _ _ h
    exact h.elim
end Go.Proofs.Ytnoebpbachoniaa

/- The landed package cells: what the sequence of All tells. -/
namespace Go.Proofs.Ytnoebpbachoniaa
open Go.RowKit Go.Shelf
attribute [local go_sem] Oper.semAt_some

theorem hdV_get {Z pre rest : List (Nat × Int)} {x : Nat × Int} (h : Z = pre ++ x :: rest) : (hdV Z)[pre.length]? = some (.int .u32 x.2) := by
  rw [h, hdV]
  simp

set_option maxRecDepth 20000 in
set_option maxHeartbeats 2000000 in
theorem all_seq (Bn : Nat) (v : Value) (ws : List Int) (hU : U32 ws) (hl : ws.length ≤ 1048576) :
    SeqM 42 #[.pointer (some ⟨Bn, 0, none⟩)] encO (obs ws 1) (fun k => k = Bn ∨ obs ws 1 ≠ [] ∧ v.ownBlock = some k) (fun W => W.cell? ⟨Bn, 0, none⟩ = some v ∧ VRow W v (hdV (obs ws 1))) := by
  intro J Jx l m C0 W hJ hY h0 hD hF
  obtain ⟨hB, hR⟩ := hD
  refine callsIn_of_wp Try.func42 rfl trivial ?_ rfl
  simp only [Try.ntmps42, List.size_toArray, List.length_cons, List.length_nil, Nat.reduceAdd, Nat.reduceSub, Array.replicate_succ, Array.replicate_zero, List.push_toArray, List.append_toArray, List.nil_append, List.cons_append]
  obtain ⟨a, cap, rfl, hc1, hc2, hc3⟩ := hR.shape
  have hln : ∀ Z, (hdV Z).length = Z.length := fun Z => by simp [hdV]
  rw [hln] at hR hB hF
  have HY := hide hY
  have HR := hide hR
  have HF := hide hF
  have HU := hide hU
  have HL := hide (Nat.le_trans (obs_len ws) hl)
  have HWL := hide hl
  obtain ⟨Z, hZ0⟩ : ∃ Z, Z = obs ws 1 := ⟨_, rfl⟩
  rw [← hZ0] at HY HR HF HL ⊢
  have HZ0 := hide hZ0
  have hlI : (Z.length : Int) ≤ 1048576 := by have := unhide HL; omega
  rw [← hZ0] at hB
  clear hY hR hF hU hl hc1 hc2 hc3 hln hZ0
  gi_wp2_with fail
  gi_loopw [3, 8] (fun i j wr => ∃ (pre : List (Nat × Int)) (C : Nat → Prop), i = .int .i64 ((endO pre : Nat) : Int) ∧ j = .int .i64 (pre.length : Int) ∧ (∃ rest, Z = pre ++ rest) ∧ J pre C wr ∧ Moves C0 C W wr) (fun _ j _ => Z.length - (intOf j).toNat)
  case atStart => exact ⟨[], C0, rfl, rfl, ⟨_, rfl⟩, h0, Moves.refl _ _⟩
  case round =>
    obtain ⟨pre, C, rfl, rfl, ⟨rest, hZ⟩, j1, hm⟩ := hrel
    cases rest with
    | nil =>
      rw [List.append_nil] at hZ
      have HE := hide (show ∃ C, J Z C wr ∧ Moves C0 C W wr from ⟨C, by rw [hZ]; exact j1, hm⟩)
      have hge : (Z.length : Int) ≤ (pre.length : Int) := by rw [hZ]; omega
      generalize endO pre = p at *
      generalize pre.length = q at *
      clear hZ j1 hm h0 hB
      gi_wp2_with fail
      go_end0
      exact ⟨⟨_, rfl⟩, Or.inl (unhide HE)⟩
    | cons y rest =>
      have hBr : wr.cell? ⟨Bn, 0, none⟩ = some (.slice a Z.length cap) := (hm.keep.cell (p := ⟨Bn, 0, none⟩) (unhide HF Bn (Or.inl rfl)).2 (unhide HF Bn (Or.inl rfl)).1).trans hB
      have hRr := (unhide HR).keep hm.keep (fun b off c e hne => (unhide HF b (Or.inr ⟨fun h => hne (by rw [h]; rfl), by rw [e]; rfl⟩)).1)
      obtain ⟨b, off, cap', e0, g1, g2, hcl⟩ := hRr.open (by intro e; have := congrArg List.length e; simp [hdV, hZ] at this)
      simp only [Value.slice.injEq] at e0
      obtain ⟨rfl, g3, rfl⟩ := e0
      have hcp := hcl pre.length _ (hdV_get hZ)
      obtain ⟨n1, n2, n3, n4⟩ := obs_next (by rw [← unhide HZ0]; exact hZ)
      obtain ⟨u0, u1⟩ := (unhide HU).wd y.1
      rw [← n2] at u0 u1
      obtain ⟨fn, tmps, assign, body, hy, hRo⟩ := unhide HY pre y rest C wr hZ j1 hm
      obtain ⟨o1, o2, o3⟩ := n3
      rw [← n2] at o2 o3
      have hs1 := szN_int u0
      have HD := hide (show ((endO (pre ++ [y]) : Nat) : Int) = (y.1 : Int) + y.2 / 4096 by rw [endO_snoc, ← hs1]; simp)
      have hw2 : IntKind.i64.wrap ((y.1 : Int) + y.2 / 4096) = (y.1 : Int) + y.2 / 4096 := by have := unhide HWL; rw [IntKind.wrap_i64]; omega
      have hlt : (pre.length : Int) < (Z.length : Int) := by rw [hZ]; simp; omega
      have HZ := hide hZ
      have HM := hide hm
      have HRo := hide hRo
      dsimp only [encO] at hy
      rw [← n1]
      obtain ⟨p, x⟩ := y
      dsimp only at *
      have HLT := hide hlt
      have HQ := hide (show ((pre.length + 1 : Nat) : Int) = (pre.length : Int) + 1 by omega)
      obtain ⟨q, hq⟩ : ∃ q, q = pre.length := ⟨_, rfl⟩
      rw [← hq] at hcp hlt HLT HQ ⊢
      have HQE := hide hq
      have hw3 : IntKind.i64.wrap ((q : Int) + 1) = (q : Int) + 1 := by have := unhide HL; have := unhide HLT; rw [IntKind.wrap_i64]; omega
      clear hZ hm hRo n1 n2 n4 o1 o2 o3 hs1 g1 g2 g3 hcl hRr j1 h0 hB hq
      gi_wp2_with fail
      refine ⟨(fun h => (by cases h)), (unhide HRo).mono ?_⟩
      rintro e w2 (⟨rfl, C', j2, mv2⟩ | ⟨rfl, C', jx2, mv2⟩)
      · have HCS := hide (csize_t x w2 u0 u1)
        gi_wp2_with fail
        refine ⟨trivial, (fun h => (by cases h)), (callsIn_wide.2 (unhide HCS)).mono ?_⟩
        rintro e w3 ⟨rfl, rfl⟩
        have HM2 := hide ((unhide HM).trans mv2)
        clear mv2
        gi_wp2_with fail
        go_roundw
        case rel => exact ⟨pre ++ [(p, x)], C', by rw [unhide HD], by rw [List.length_append, List.length_singleton, ← unhide HQE]; rfl, ⟨rest, by rw [unhide HZ]; simp⟩, j2, unhide HM2⟩
        case measure =>
          have := unhide HLT
          simp only [intOf]
          omega
      · have HE2 := hide (show ∃ pre x rest C, Z = pre ++ x :: rest ∧ Jx (pre ++ [x]) C w2 ∧ Moves C0 C W w2 from ⟨pre, (p, x), rest, C', unhide HZ, jx2, (unhide HM).trans mv2⟩)
        clear jx2 mv2
        gi_wp2_with fail
        refine bodyPost_ret (results_none rfl _ _ _) rfl ?_
        exact ⟨⟨_, rfl⟩, Or.inr (unhide HE2)⟩
end Go.Proofs.Ytnoebpbachoniaa
