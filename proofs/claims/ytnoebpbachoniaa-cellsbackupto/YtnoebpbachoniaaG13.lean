/- Texts of ours, one behind the other: CelTold. -/
import Derived.Test.YtnoebpbachoniaaG9
import Derived.Test.YtnoebpbachoniaaG12
/- The statements' own 'told': what All tells, up to so many. -/
namespace Go.Proofs.Ytnoebpbachoniaa
open Go.RowKit Go.Shelf
attribute [local go_sem] Oper.semAt_some

theorem Try.infoInt : (Try.prog.info? 3).map (fun i => (i.zero, i.size, i.bytes)) = some (some (.int .i64 0), 1, 8) := by kernel_rfl
/-- The places that came. -/
def plV (pre : List (Nat × Int)) : List Value := pre.map fun x => .int .i64 (x.1 : Int)
theorem plV_snoc (pre : List (Nat × Int)) (p : Nat) (h : Int) : plV (pre ++ [(p, h)]) = plV pre ++ [.int .i64 (p : Int)] := by simp [plV]
/-- Variables that stand, and one that holds a row that grows. -/
def MixI (L : List (Nat × Obj)) (B TB E sz n : Nat) (xs : List Value) (C : Nat → Prop) (W : World) : Prop :=
  ∃ C1, (∀ x ∈ L, W.heap[x.1]? = some x.2) ∧ GR B TB E sz n xs C1 W ∧ (∀ x ∈ L, ¬ C1 x.1) ∧ ∀ k, C k ↔ k ∈ L.map Prod.fst ∨ C1 k
theorem MixI.stays {L : List (Nat × Obj)} {B TB E sz n : Nat} {xs : List Value} {C : Nat → Prop} {W W' : World} {G : Nat → Prop} (h : MixI L B TB E sz n xs C W) (hk : Keep G W W') (hn : ∀ k, C k → ¬ G k) : MixI L B TB E sz n xs C W' := by
  obtain ⟨C1, h1, h2, h3, h4⟩ := h
  exact ⟨C1, fun x hx => (hk.block _ (Array.getElem?_eq_some_iff.1 (h1 x hx)).1 (hn _ ((h4 _).2 (Or.inl (List.mem_map.2 ⟨x, hx, rfl⟩))))).trans (h1 x hx), h2.stays hk (fun k hk => hn k ((h4 k).2 (Or.inr hk))), h3, h4⟩
theorem MixI.lt {L : List (Nat × Obj)} {B TB E sz n : Nat} {xs : List Value} {C : Nat → Prop} {W : World} (h : MixI L B TB E sz n xs C W) (k : Nat) (hc : C k) : k < W.heap.size := by
  obtain ⟨C1, h1, h2, h3, h4⟩ := h
  rcases (h4 k).1 hc with h | h
  · obtain ⟨x, hx, rfl⟩ := List.mem_map.1 h
    exact (Array.getElem?_eq_some_iff.1 (h1 x hx)).1
  · exact h2.lt k h
/-- The row grows, the others stand. -/
theorem MixI.more {L : List (Nat × Obj)} {B TB E sz n' : Nat} {xs' : List Value} {C C1 C2 : Nat → Prop} {W W' : World} (h1 : ∀ x ∈ L, W.heap[x.1]? = some x.2) (h3 : ∀ x ∈ L, ¬ C1 x.1) (h4 : ∀ k, C k ↔ k ∈ L.map Prod.fst ∨ C1 k)
    (h2 : GR B TB E sz n' xs' C2 W') (hm : Moves C1 C2 W W') : MixI L B TB E sz n' xs' (fun k => k ∈ L.map Prod.fst ∨ C2 k) W' ∧ Moves C (fun k => k ∈ L.map Prod.fst ∨ C2 k) W W' := by
  refine ⟨⟨C2, fun x hx => (hm.keep.block _ (Array.getElem?_eq_some_iff.1 (h1 x hx)).1 (h3 x hx)).trans (h1 x hx), h2, fun x hx hc => ?_, fun _ => Iff.rfl⟩, hm.keep.weak (fun k hk => (h4 k).2 (Or.inr hk)), fun k hk => ?_⟩
  · rcases hm.sub _ hc with h | h
    · exact h3 x hx h
    · have := (Array.getElem?_eq_some_iff.1 (h1 x hx)).1; omega
  · rcases hk with hk | hk
    · exact Or.inl ((h4 k).2 (Or.inl hk))
    · rcases hm.sub k hk with h | h
      · exact Or.inl ((h4 k).2 (Or.inr h))
      · exact Or.inr h

def ToI (L : List (Nat × Obj)) (B most : Nat) (pre : List (Nat × Int)) (C : Nat → Prop) (W : World) : Prop := pre.length ≤ most ∧ MixI L B 30 3 1 pre.length (plV pre) C W
theorem ToI.ok (L : List (Nat × Obj)) (B most b : Nat) : SOk b (ToI L B most) := ⟨fun _ _ _ _ _ h hk hn _ => ⟨h.1, h.2.stays hk hn⟩, fun _ _ _ h k hc => h.2.lt k hc⟩
def ToX (L : List (Nat × Obj)) (B most : Nat) (c : Code) (xs : List (Nat × Int)) (C : Nat → Prop) (W : World) : Prop := c = .exit 0 ∧ xs.dropLast.length = most ∧ MixI L B 30 3 1 xs.dropLast.length (plV xs.dropLast) C W
theorem ToX.ok (L : List (Nat × Obj)) (B most b : Nat) (c : Code) : SOk b (ToX L B most c) := ⟨fun _ _ _ _ _ h hk hn _ => ⟨h.1, h.2.1, h.2.2.stays hk hn⟩, fun _ _ _ h k hc => h.2.2.lt k hc⟩

theorem four_new (w : World) (x y z u : Obj) : (((((w.alloc x).alloc y).alloc z).alloc u).heap[w.heap.size]? = some x) ∧ (((((w.alloc x).alloc y).alloc z).alloc u).heap[w.heap.size + 1]? = some y) ∧ (((((w.alloc x).alloc y).alloc z).alloc u).heap[w.heap.size + 1 + 1]? = some z) ∧ (((((w.alloc x).alloc y).alloc z).alloc u).heap[w.heap.size + 1 + 1 + 1]? = some u) := by
  obtain ⟨h1, h2, h3⟩ := three_new w x y z
  have hs : (((w.alloc x).alloc y).alloc z).heap.size = w.heap.size + 1 + 1 + 1 := by simp
  refine ⟨(Below.heap_alloc _ _ _ (by omega)).trans h1, (Below.heap_alloc _ _ _ (by omega)).trans h2, (Below.heap_alloc _ _ _ (by omega)).trans h3, ?_⟩
  have := World.alloc_heap_new (((w.alloc x).alloc y).alloc z) u
  rw [hs] at this
  exact this
/-- The variables of 'told' that stand. -/
def toL (n : Nat) (s : Value) (most : Nat) : List (Nat × Obj) := [(n, .cells #[s] 29 (0, 0)), (n + 1, .cells #[.int .i64 (most : Int)] 3 (0, 0)), (n + 1 + 1, .cells #[.slice none 0 0] 30 (0, 0)), (n + 1 + 1 + 1, .cells #[.bool false] 4 (0, 0))]
theorem toL_all {n : Nat} {s : Value} {most : Nat} {W : World} (h : ∀ x ∈ toL n s most, W.heap[x.1]? = some x.2) : W.heap[n]? = some (.cells #[s] 29 (0, 0)) ∧ W.heap[n + 1]? = some (.cells #[.int .i64 (most : Int)] 3 (0, 0)) ∧ W.heap[n + 1 + 1]? = some (.cells #[.slice none 0 0] 30 (0, 0)) ∧ W.heap[n + 1 + 1 + 1]? = some (.cells #[.bool false] 4 (0, 0)) :=
  ⟨h _ (List.mem_cons_self), h _ (List.mem_cons_of_mem _ List.mem_cons_self), h _ (List.mem_cons_of_mem _ (List.mem_cons_of_mem _ List.mem_cons_self)), h _ (List.mem_cons_of_mem _ (List.mem_cons_of_mem _ (List.mem_cons_of_mem _ List.mem_cons_self)))⟩
theorem toL_mem {n : Nat} {s : Value} {most : Nat} {k : Nat} : k ∈ (toL n s most).map Prod.fst ↔ k = n ∨ k = n + 1 ∨ k = n + 1 + 1 ∨ k = n + 1 + 1 + 1 := by simp [toL]

set_option maxRecDepth 20000 in
set_option maxHeartbeats 2000000 in
theorem told_any (s : Value) (ws : List Int) (most : Nat) (w : World) (hs : VRow w s (Uw ws)) (hU : U32 ws) (hl : ws.length ≤ 1048576) (hmo : most ≤ 2097152) :
    Calls Try.prog 19 #[s, .int .i64 (most : Int)] w fun e w' => ∃ v, e = .returned (.tuple #[v, .bool true]) ∧ VRow w' v (plV ((obs ws 1).take most)) ∧ Below w.heap.size w w' := by
  refine (callsIn_wide (n := 5)).1 ?_
  refine callsIn_of_wp_marks Try.func19 rfl trivial ?_ rfl
  simp only [Try.ntmps19, List.size_toArray, List.length_cons, List.length_nil, Nat.reduceAdd, Nat.reduceSub, Array.replicate_succ, Array.replicate_zero, List.push_toArray, List.append_toArray, List.nil_append, List.cons_append]
  obtain ⟨i0, hi, hz0, hz1, hz2⟩ := info_parts Try.infoInt
  obtain ⟨a, cap, rfl, hc1, hc2, hc3⟩ := hs.shape
  rw [List.length_map] at *
  have HS := hide hs
  have HU := hide hU
  have HL := hide hl
  have HMO := hide hmo
  clear hs hU hl hc1 hc2 hc3 hmo
  obtain ⟨W0, hW0⟩ : ∃ W0, ((((w.alloc (.cells #[.slice a ws.length cap] 29)).alloc (.cells #[.int .i64 (most : Int)] 3)).alloc (.cells #[.slice none 0 0] 30)).alloc (.cells #[.bool false] 4)) = W0 := ⟨_, rfl⟩
  have HB0 : Hid (Below w.heap.size w W0) := by unfold Hid; rw [← hW0]; exact ((((Below.refl _ w).alloc (Nat.le_refl _) _).alloc (by simp) _).alloc (by simp; omega) _).alloc (by simp; omega) _
  have HSZ : Hid (W0.heap.size = w.heap.size + 4) := by unfold Hid; rw [← hW0]; simp
  have H0 : Hid (∀ x ∈ toL w.heap.size (.slice a ws.length cap) most, W0.heap[x.1]? = some x.2) := by
    unfold Hid
    rw [← hW0]
    obtain ⟨h1, h2, h3, h4⟩ := four_new w (.cells #[.slice a ws.length cap] 29) (.cells #[.int .i64 (most : Int)] 3) (.cells #[.slice none 0 0] 30) (.cells #[.bool false] 4)
    intro x hx
    simp only [toL, List.mem_cons, List.not_mem_nil, or_false] at hx
    rcases hx with rfl | rfl | rfl | rfl
    · exact h1
    · exact h2
    · exact h3
    · exact h4
  have HW0 := hide hW0
  clear hW0
  gi_wp2_with fail
  rw [unhide HW0]
  clear HW0
  refine ⟨trivial, (callsIn_wide.2 (call_any _ ws W0 ((unhide HS).below (unhide HB0)) (unhide HU) (unhide HL))).mono ?_⟩
  rintro e w1 ⟨v, rfl, hv1, hv2, hv3, b1⟩
  have hnil : ∀ w, (binOp .eql 53 (.func (.func 42) #[] #[.pointer (some ⟨W0.heap.size, 0, none⟩)]) .nilFunc).run Try.prog w = .ok (.bool false) w := fun _ => by kernel_rfl
  have HV := hide (And.intro hv1 (And.intro hv2 hv3))
  have HB1 := hide b1
  clear hv1 hv2 hv3 b1
  gi_wp2_with fail
  have hb2 : Below w1.heap.size w1 (w1.alloc (.cells #[.slice none 0 0] 30)) := (Below.refl _ _).alloc (Nat.le_refl _) _
  have HB2 := hide hb2
  have hsz1 := (unhide HB1).size
  have hsz0 := unhide HSZ
  have HST : Hid (ToI (toL w.heap.size (.slice a ws.length cap) most) w1.heap.size most [] (fun k => k ∈ (toL w.heap.size (.slice a ws.length cap) most).map Prod.fst ∨ VF w1.heap.size (.slice none 0 0) k) (w1.alloc (.cells #[.slice none 0 0] 30))) := by
    refine ⟨Nat.zero_le _, VF w1.heap.size (.slice none 0 0), fun x hx => ?_, ⟨_, World.alloc_heap_new w1 _, World.ownsRow_nil _ _ _ _, (by simp [Value.ownBlock]), fun _ => Iff.rfl⟩, fun x hx hc => ?_, fun _ => Iff.rfl⟩
    · have h1 := unhide H0 x hx
      have h2 := (unhide HB1).block _ (Array.getElem?_eq_some_iff.1 h1).1
      exact (hb2.block _ (Nat.lt_of_lt_of_le (Array.getElem?_eq_some_iff.1 h1).1 hsz1)).trans (h2.trans h1)
    · have h1 := (Array.getElem?_eq_some_iff.1 (unhide H0 x hx)).1
      rcases hc with hc | hc
      · omega
      · simp [Value.ownBlock] at hc
  clear hb2
  refine wpIn_seqR (all_seq W0.heap.size v ws (unhide HU) (unhide HL)) rfl (fun _ _ => by kernel_rfl) (fun _ => rfl)
    (ToI (toL w.heap.size (.slice a ws.length cap) most) w1.heap.size most) (ToX (toL w.heap.size (.slice a ws.length cap) most) w1.heap.size most) (ToI.ok _ _ _ _) (ToX.ok _ _ _ _) (unhide HST) ?data ?apart ?round ?done ?stop
  case data =>
    intro W hb
    obtain ⟨h1, h2, h3⟩ := unhide HV
    have l1 := (Array.getElem?_eq_some_iff.1 h1).1
    have c1 : w1.cell? ⟨W0.heap.size, 0, none⟩ = some v := by rw [cell_of_row w1 _ _ _ _ (0, 0) h1]; rfl
    have hb' : Below w1.heap.size w1 W := (unhide HB2).trans (hb.mono (unhide HB2).size)
    exact ⟨(hb'.cell (p := ⟨W0.heap.size, 0, none⟩) l1).trans c1, h2.below hb'⟩
  case apart =>
    intro k hk
    obtain ⟨h1, h2, h3⟩ := unhide HV
    have l1 := (Array.getElem?_eq_some_iff.1 h1).1
    rw [World.size_alloc, toL_mem]
    have hv : VF w1.heap.size (.slice none 0 0) k ↔ k = w1.heap.size := by simp [VF, Value.ownBlock]
    rw [hv]
    rcases hk with rfl | ⟨hne, hk⟩
    · exact ⟨by omega, by omega⟩
    · have := h3 k hk
      exact ⟨by omega, by omega⟩
  case round =>
    rintro l pre ⟨p, h⟩ rest C W hZ hi2 hm
    dsimp only [encO]
    have HZ := hide hZ
    have HI := hide hi2
    clear hZ hi2 hm
    gi_wp2
    refine ⟨ToI (toL w.heap.size (.slice a ws.length cap) most) w1.heap.size most pre, C, (ToI.ok _ _ _ _).at pre, unhide HI, Moves.refl _ _, fun W2 hi2 hm2 => ?_⟩
    clear HI
    obtain ⟨hle, C1, hL, ⟨v, o1, o2, o3, o4⟩, hd, hC⟩ := hi2
    obtain ⟨pv, cv, rfl⟩ := ownsV_shape o2
    obtain ⟨b1, b2, b3, b4⟩ := toL_all hL
    have d0 : W2.cell? ⟨w1.heap.size, 0, none⟩ = some (.slice pv pre.length cv) := by rw [cell_of_row W2 w1.heap.size _ _ _ (0, 0) o1]; rfl
    have d1 : W2.cell? ⟨w.heap.size, 0, none⟩ = some (.slice a ws.length cap) := by rw [cell_of_row W2 _ _ _ _ (0, 0) b1]; rfl
    have d2 : W2.cell? ⟨w.heap.size + 1, 0, none⟩ = some (.int .i64 (most : Int)) := by rw [cell_of_row W2 _ _ _ _ (0, 0) b2]; rfl
    have HO := hide (And.intro o1 (And.intro o2 (And.intro o3 o4)))
    have HLL := hide hL
    have HDD := hide hd
    have HCC := hide hC
    have HM2 := hide hm2
    clear b1 b2 b3 b4 o1 o2 o3 o4 hL hd hC hm2
    by_cases hfull : pre.length = most
    · have hge : (most : Int) ≤ (pre.length : Int) := by omega
      have HFU := hide hfull
      clear hle hfull
      obtain ⟨q, hq⟩ : ∃ q, q = pre.length := ⟨_, rfl⟩
      rw [← hq] at d0 hge
      clear hq
      gi_wp2_with fail
      refine ⟨C, ⟨rfl, by rw [List.dropLast_concat]; exact unhide HFU, ?_⟩, Moves.refl _ _⟩
      rw [List.dropLast_concat]
      obtain ⟨o1, o2, o3, o4⟩ := unhide HO
      exact ⟨C1, unhide HLL, ⟨_, o1, o2, o3, o4⟩, unhide HDD, unhide HCC⟩
    · have hlt : (pre.length : Int) < (most : Int) := by omega
      obtain ⟨n1, n2, n3, n4⟩ := obs_next (unhide HZ)
      have hpl : p < ws.length := n3.1
      have hpI : (p : Int) < (ws.length : Int) := by omega
      have hp0 : (0 : Int) ≤ (p : Int) := by omega
      have hR2 : VRow W2 (.slice a ws.length cap) (Uw ws) := ((((unhide HS).below (unhide HB0)).below (unhide HB1)).below (unhide HB2)).keep (unhide HM2).keep (fun b off c e hne hk => by
        have h1 := hs_block (unhide HS) hne b (by rw [e]; rfl)
        rcases hk with hk | hk
        · rw [toL_mem] at hk; omega
        · have hv : VF w1.heap.size (.slice none 0 0) b ↔ b = w1.heap.size := by simp [VF, Value.ownBlock]
          rw [hv] at hk; omega)
      obtain ⟨b, off, cap', e0, g1, g2, hcl⟩ := hR2.open (by intro e; have := congrArg List.length e; simp at this; rw [this] at hpl; simp at hpl)
      simp only [Value.slice.injEq] at e0
      obtain ⟨rfl, g3, rfl⟩ := e0
      have hcp := hcl p _ (by rw [List.getElem?_map, wd_get hpl]; rfl)
      dsimp only at n2
      rw [← n2] at hcp
      have hlen : pre.length < 1048576 := by
        have h1 := obs_len ws
        rw [unhide HZ] at h1
        have := unhide HL
        simp at h1
        omega
      have HLN := hide hlen
      have HLE := hide (show pre.length + 1 ≤ most by omega)
      obtain ⟨o1, o2, o3, o4⟩ := unhide HO
      have hbW : Below W2.heap.size W2 (W2.alloc (.cells #[.int .i64 (p : Int)] 3)) := (Below.refl _ _).alloc (Nat.le_refl _) _
      have HO2 := hide (ownsV_keep (F := fun _ => False) o2 (Keep.of_below hbW) (fun _ _ => id))
      have HO1 := hide o1
      have HO3 := hide o3
      have HCV : Hid (∀ k, VF w1.heap.size (.slice pv pre.length cv) k → C1 k) := fun k hk => (o4 k).2 hk
      have HBW := hide hbW
      have hBlW : w1.heap.size < W2.heap.size := (Array.getElem?_eq_some_iff.1 o1).1
      clear hle hfull n1 n2 n3 n4 hpl hR2 g1 g2 g3 hcl hlen o1 o2 o3 o4 hbW HO
      have hhx : (h == h) = true := by simp
      gi_wp2_with (first
        | (gi_at_builtin; refine wpListIn_append_any rfl (.tmp 37) (.tmp 39) 30 rfl 0 3 i0 (.int .i64 0) Try.underlying30 hi hz0 1 8 (by omega) hz1 hz2 rfl (.slice pv pre.length cv) pre.length (plV pre) rfl (unhide HO2) ⟨W2.heap.size, 0, none⟩ 1 1 [.int .i64 (p : Int)] rfl rfl (by intro j u hj; match j, hj with | 0, hj => (simp at hj; subst hj; simp [Addr.add])) (by intro u hu; simp at hu; subst hu; rfl) (by have := unhide HLN; unfold maxLen; omega) (by have := unhide HLN; omega) (Nat.zero_le _) ?_))
      intro v2 w2 hown2 hgrow2 hob2
      have hblk2 := (hgrow2.block w1.heap.size (by simp; omega) (fun e => unhide HO3 e.symm)).trans (((unhide HBW).block w1.heap.size hBlW).trans (unhide HO1))
      have y0 : w2.cell? ⟨w1.heap.size, 0, none⟩ = some (.slice pv pre.length cv) := by rw [cell_of_row w2 w1.heap.size _ _ _ (0, 0) hblk2]; rfl
      have yf : w2.frozen? ⟨w1.heap.size, 0, none⟩ = false := frozen_of_block hblk2
      have hg := GR.more (unhide HO1) (unhide HO3) (unhide HCV) (unhide HBW) hown2 hgrow2 (by rw [World.size_alloc]; exact hob2)
      have HJ := hide (MixI.more (unhide HLL) (unhide HDD) (unhide HCC) hg.1 hg.2)
      obtain ⟨p2, c2, rfl⟩ := ownsV_shape hown2
      clear hown2 hgrow2 hob2 hblk2 d0 d1 d2 hg
      gi_wp2_with fail
      obtain ⟨j1, j2⟩ := unhide HJ
      refine ⟨_, ⟨by rw [List.length_append]; exact unhide HLE, ?_⟩, j2⟩
      rw [plV_snoc, List.length_append]
      exact j1
  case done =>
    rintro dd C W hdd ⟨hle, hmx⟩ hm hnc hK
    have HMX := hide (show MixI (toL w.heap.size (.slice a ws.length cap) most) w1.heap.size 30 3 1 ((obs ws 1).take most).length (plV ((obs ws 1).take most)) C W by rw [List.take_of_length_le hle]; exact hmx)
    have HM := hide hm
    have HK := hide hK
    have HNC := hide hnc
    clear hle hmx hm hK hnc
    obtain ⟨C1, hL, ⟨v2, o1, o2, o3, o4⟩, hd, hC⟩ := unhide HMX
    obtain ⟨pv, cv, rfl⟩ := ownsV_shape o2
    obtain ⟨b1, b2, b3, b4⟩ := toL_all hL
    have d0 : W.cell? ⟨w1.heap.size, 0, none⟩ = some (.slice pv ((obs ws 1).take most).length cv) := by rw [cell_of_row W w1.heap.size _ _ _ (0, 0) o1]; rfl
    have d3 : W.cell? ⟨w.heap.size + 1 + 1, 0, none⟩ = some (.slice none 0 0) := by rw [cell_of_row W _ _ _ _ (0, 0) b3]; rfl
    have f3 : W.frozen? ⟨w.heap.size + 1 + 1, 0, none⟩ = false := frozen_of_block b3
    have d4 : W.cell? ⟨w.heap.size + 1 + 1 + 1, 0, none⟩ = some (.bool false) := by rw [cell_of_row W _ _ _ _ (0, 0) b4]; rfl
    have f4 : W.frozen? ⟨w.heap.size + 1 + 1 + 1, 0, none⟩ = false := frozen_of_block b4
    have HO := hide (And.intro o1 (And.intro o2 (And.intro o3 o4)))
    have HBB := hide (And.intro b3 b4)
    have HCX := hide hC
    have HDX := hide hd
    generalize hZT : (obs ws 1).take most = ZT at *
    have HZT := hide hZT
    obtain ⟨q, hq⟩ : ∃ q, q = ZT.length := ⟨_, rfl⟩
    rw [← hq] at d0
    have HQ := hide hq
    clear hq hZT b1 b2 b3 b4 o1 o2 o3 o4 hd hC hL HMX
    gi_wp2_with fail
    obtain ⟨o1, o2, o3, o4⟩ := unhide HO
    obtain ⟨b3, b4⟩ := unhide HBB
    have hC := unhide HCX
    have hd := unhide HDX
    have K1 := keep_set W (w.heap.size + 1 + 1) 0 (.slice pv q cv)
    have K2 := keep_set (W.setCell ⟨w.heap.size + 1 + 1, 0, none⟩ (.slice pv q cv)) (w.heap.size + 1 + 1 + 1) 0 (.bool true)
    have K12 : Keep (fun k => k = w.heap.size + 1 + 1 ∨ k = w.heap.size + 1 + 1 + 1) W ((W.setCell ⟨w.heap.size + 1 + 1, 0, none⟩ (.slice pv q cv)).setCell ⟨w.heap.size + 1 + 1 + 1, 0, none⟩ (.bool true)) := (K1.weak (fun k hk => Or.inl hk)).trans K2 (fun k hk => Or.inl (Or.inr hk))
    have hdk := (Array.getElem?_eq_some_iff.1 (unhide HK)).1
    have n2 : dd ≠ w.heap.size + 1 + 1 := fun e => unhide HNC ((hC dd).2 (Or.inl (toL_mem.2 (by omega))))
    have n3 : dd ≠ w.heap.size + 1 + 1 + 1 := fun e => unhide HNC ((hC dd).2 (Or.inl (toL_mem.2 (by omega))))
    have hK2 := (K12.block dd hdk (by omega)).trans (unhide HK)
    refine ⟨by simp, .inl ⟨_, _, rfl, run_takeDeferred hK2, ?_⟩⟩
    have hp := keep_put ((W.setCell ⟨w.heap.size + 1 + 1, 0, none⟩ (.slice pv q cv)).setCell ⟨w.heap.size + 1 + 1 + 1, 0, none⟩ (.bool true)) dd (.deferred none)
    have g3 := heap_setCell_same W (w.heap.size + 1 + 1) 0 _ _ (.slice pv q cv) b3
    have l3 := (Array.getElem?_eq_some_iff.1 b3).1
    have l4 := (Array.getElem?_eq_some_iff.1 b4).1
    have s1 := K1.size
    have s2 := K2.size
    have g3' := (hp.block _ (by omega) (fun e => n2 e.symm)).trans ((K2.block (w.heap.size + 1 + 1) (by omega) (by omega)).trans g3)
    have b4' := (K1.block (w.heap.size + 1 + 1 + 1) l4 (by omega)).trans b4
    have g4 := (hp.block _ (by omega) (fun e => n3 e.symm)).trans (heap_setCell_same _ (w.heap.size + 1 + 1 + 1) 0 _ _ (.bool true) b4')
    have e3 := cell_of_row _ _ 0 _ _ (0, 0) g3'
    have e4 := cell_of_row _ _ 0 _ _ (0, 0) g4
    refine ⟨.tuple #[.slice pv q cv, .bool true], by simp [results, Try.results19, go_sem, e3, e4], .slice pv q cv, rfl, ?_, ?_⟩
    · rw [unhide HZT]
      have hvr : VRow W (.slice pv q cv) (plV ZT) := by rw [unhide HQ]; exact vrow_of_owns (by simpa [plV] using o2)
      refine (hvr.keep K12 (fun b off c e _ he => ?_)).keep hp (fun b off c e _ he => unhide HNC ((hC dd).2 (Or.inr ((o4 dd).2 (Or.inr ?_)))))
      · have hv : VF w1.heap.size (.slice pv ZT.length cv) b := Or.inr (by rw [← unhide HQ, e]; rfl)
        rcases he with he | he
        · exact hd (w.heap.size + 1 + 1, .cells #[.slice none 0 0] 30 (0, 0)) (List.mem_cons_of_mem _ (List.mem_cons_of_mem _ List.mem_cons_self)) ((o4 _).2 (he ▸ hv))
        · exact hd (w.heap.size + 1 + 1 + 1, .cells #[.bool false] 4 (0, 0)) (List.mem_cons_of_mem _ (List.mem_cons_of_mem _ (List.mem_cons_of_mem _ List.mem_cons_self))) ((o4 _).2 (he ▸ hv))
      · rw [← unhide HQ, e, ← he]
        rfl
    · have h1 := (unhide HB0).trans (((unhide HB1).trans ((unhide HB2).mono (unhide HB1).size)).mono (unhide HB0).size)
      have hm := unhide HM
      refine below_put (C := C) h1 ⟨hm.keep.trans K12 (fun k e => Or.inl (Or.inl (toL_mem.2 (by omega)))), hm.sub⟩ (fun k hk => ?_) hdd _
      rcases hk with hk | hk
      · rw [toL_mem] at hk; omega
      · have hv : VF w1.heap.size (.slice none 0 0) k ↔ k = w1.heap.size := by simp [VF, Value.ownBlock]
        rw [hv] at hk; omega
  case stop =>
    rintro dd c pre x rest C W hdd hZ ⟨rfl, hlen, hmx⟩ hm hnc hK
    rw [List.dropLast_concat] at hlen hmx
    have HMX := hide (show MixI (toL w.heap.size (.slice a ws.length cap) most) w1.heap.size 30 3 1 ((obs ws 1).take most).length (plV ((obs ws 1).take most)) C W by
      rw [hZ, ← hlen, List.take_left]
      rw [← hlen] at hmx
      exact hmx)
    have HM := hide hm
    have HK := hide hK
    have HNC := hide hnc
    clear hmx hm hK hnc hZ hlen
    obtain ⟨C1, hL, ⟨v2, o1, o2, o3, o4⟩, hd, hC⟩ := unhide HMX
    obtain ⟨pv, cv, rfl⟩ := ownsV_shape o2
    obtain ⟨b1, b2, b3, b4⟩ := toL_all hL
    have d0 : W.cell? ⟨w1.heap.size, 0, none⟩ = some (.slice pv ((obs ws 1).take most).length cv) := by rw [cell_of_row W w1.heap.size _ _ _ (0, 0) o1]; rfl
    have d3 : W.cell? ⟨w.heap.size + 1 + 1, 0, none⟩ = some (.slice none 0 0) := by rw [cell_of_row W _ _ _ _ (0, 0) b3]; rfl
    have f3 : W.frozen? ⟨w.heap.size + 1 + 1, 0, none⟩ = false := frozen_of_block b3
    have d4 : W.cell? ⟨w.heap.size + 1 + 1 + 1, 0, none⟩ = some (.bool false) := by rw [cell_of_row W _ _ _ _ (0, 0) b4]; rfl
    have f4 : W.frozen? ⟨w.heap.size + 1 + 1 + 1, 0, none⟩ = false := frozen_of_block b4
    have HO := hide (And.intro o1 (And.intro o2 (And.intro o3 o4)))
    have HBB := hide (And.intro b3 b4)
    have HCX := hide hC
    have HDX := hide hd
    generalize hZT : (obs ws 1).take most = ZT at *
    have HZT := hide hZT
    obtain ⟨q, hq⟩ : ∃ q, q = ZT.length := ⟨_, rfl⟩
    rw [← hq] at d0
    have HQ := hide hq
    clear hq hZT b1 b2 b3 b4 o1 o2 o3 o4 hd hC hL HMX
    gi_wp2_with fail
    obtain ⟨o1, o2, o3, o4⟩ := unhide HO
    obtain ⟨b3, b4⟩ := unhide HBB
    have hC := unhide HCX
    have hd := unhide HDX
    have K1 := keep_set W (w.heap.size + 1 + 1) 0 (.slice pv q cv)
    have K2 := keep_set (W.setCell ⟨w.heap.size + 1 + 1, 0, none⟩ (.slice pv q cv)) (w.heap.size + 1 + 1 + 1) 0 (.bool true)
    have K12 : Keep (fun k => k = w.heap.size + 1 + 1 ∨ k = w.heap.size + 1 + 1 + 1) W ((W.setCell ⟨w.heap.size + 1 + 1, 0, none⟩ (.slice pv q cv)).setCell ⟨w.heap.size + 1 + 1 + 1, 0, none⟩ (.bool true)) := (K1.weak (fun k hk => Or.inl hk)).trans K2 (fun k hk => Or.inl (Or.inr hk))
    have hdk := (Array.getElem?_eq_some_iff.1 (unhide HK)).1
    have n2 : dd ≠ w.heap.size + 1 + 1 := fun e => unhide HNC ((hC dd).2 (Or.inl (toL_mem.2 (by omega))))
    have n3 : dd ≠ w.heap.size + 1 + 1 + 1 := fun e => unhide HNC ((hC dd).2 (Or.inl (toL_mem.2 (by omega))))
    have hK2 := (K12.block dd hdk (by omega)).trans (unhide HK)
    refine ⟨by simp, .inl ⟨_, _, rfl, run_takeDeferred hK2, ?_⟩⟩
    have hp := keep_put ((W.setCell ⟨w.heap.size + 1 + 1, 0, none⟩ (.slice pv q cv)).setCell ⟨w.heap.size + 1 + 1 + 1, 0, none⟩ (.bool true)) dd (.deferred none)
    have g3 := heap_setCell_same W (w.heap.size + 1 + 1) 0 _ _ (.slice pv q cv) b3
    have l3 := (Array.getElem?_eq_some_iff.1 b3).1
    have l4 := (Array.getElem?_eq_some_iff.1 b4).1
    have s1 := K1.size
    have s2 := K2.size
    have g3' := (hp.block _ (by omega) (fun e => n2 e.symm)).trans ((K2.block (w.heap.size + 1 + 1) (by omega) (by omega)).trans g3)
    have b4' := (K1.block (w.heap.size + 1 + 1 + 1) l4 (by omega)).trans b4
    have g4 := (hp.block _ (by omega) (fun e => n3 e.symm)).trans (heap_setCell_same _ (w.heap.size + 1 + 1 + 1) 0 _ _ (.bool true) b4')
    have e3 := cell_of_row _ _ 0 _ _ (0, 0) g3'
    have e4 := cell_of_row _ _ 0 _ _ (0, 0) g4
    refine ⟨.tuple #[.slice pv q cv, .bool true], by simp [results, Try.results19, go_sem, e3, e4], .slice pv q cv, rfl, ?_, ?_⟩
    · rw [unhide HZT]
      have hvr : VRow W (.slice pv q cv) (plV ZT) := by rw [unhide HQ]; exact vrow_of_owns (by simpa [plV] using o2)
      refine (hvr.keep K12 (fun b off c e _ he => ?_)).keep hp (fun b off c e _ he => unhide HNC ((hC dd).2 (Or.inr ((o4 dd).2 (Or.inr ?_)))))
      · have hv : VF w1.heap.size (.slice pv ZT.length cv) b := Or.inr (by rw [← unhide HQ, e]; rfl)
        rcases he with he | he
        · exact hd (w.heap.size + 1 + 1, .cells #[.slice none 0 0] 30 (0, 0)) (List.mem_cons_of_mem _ (List.mem_cons_of_mem _ List.mem_cons_self)) ((o4 _).2 (he ▸ hv))
        · exact hd (w.heap.size + 1 + 1 + 1, .cells #[.bool false] 4 (0, 0)) (List.mem_cons_of_mem _ (List.mem_cons_of_mem _ (List.mem_cons_of_mem _ List.mem_cons_self))) ((o4 _).2 (he ▸ hv))
      · rw [← unhide HQ, e, ← he]
        rfl
    · have h1 := (unhide HB0).trans (((unhide HB1).trans ((unhide HB2).mono (unhide HB1).size)).mono (unhide HB0).size)
      have hm := unhide HM
      refine below_put (C := C) h1 ⟨hm.keep.trans K12 (fun k e => Or.inl (Or.inl (toL_mem.2 (by omega)))), hm.sub⟩ (fun k hk => ?_) hdd _
      rcases hk with hk | hk
      · rw [toL_mem] at hk; omega
      · have hv : VF w1.heap.size (.slice none 0 0) k ↔ k = w1.heap.size := by simp [VF, Value.ownBlock]
        rw [hv] at hk; omega
end Go.Proofs.Ytnoebpbachoniaa
