/- Texts of ours, one behind the other: ArAll. -/
import Derived.Test.YtlbhhdldeaehkaaGreatG5
import Derived.Test.YtlbhhdldeaehkaaGreatG8
import Derived.Test.YtlbhhdldeaehkaaGreatG9
import Derived.Test.YtlbhhdldeaehkaaGreatG21
import Derived.Test.YtlbhhdldeaehkaaGreatG28
/- Package arena as landed: what the sequence of All tells. -/
namespace Go.Proofs.YtlbhhdldeaehkaaGreat
open Go.RowKit Go.Shelf
attribute [local go_sem] Oper.semAt_some

/-- What is told of an object: its place, and what stands there, in new memory. -/
def encA (ws : List Int) (W : World) (x : Nat × Int) (vs : Array Value) (W2 : World) : Prop :=
  ∃ p d, vs = #[.int .i64 (x.1 : Int), .agg #[.int .i64 (wd ws x.1 % 16), p, d]] ∧ W2.ownsRow W.heap.size 3 1 p (ptsA ws x.1).length (Iw (ptsA ws x.1)) ∧ W2.ownsRow W.heap.size 31 1 d (dtA ws x.1).length (Uw (dtA ws x.1))

/-- What a caller has between two rounds of the range within: his own, since the sequence was asked. -/
def AlJ (J : List (Nat × Int) → (Nat → Prop) → World → Prop) (C0 : Nat → Prop) (W : World) (pre : List (Nat × Int)) (C : Nat → Prop) (W' : World) : Prop := J pre C W' ∧ Moves C0 C W W'
theorem isOb_of {ws : List Int} {x : Nat × Int} (h : x ∈ obs ws 1) : isOb ws (x.1 : Int) := by
  have h1 := obs_mem h
  refine ⟨by omega, by have := obs_lt h; omega, ?_⟩
  rw [Int.toNat_natCast, ← h1.2.1]
  exact h

theorem AlJ.ok {J : List (Nat × Int) → (Nat → Prop) → World → Prop} {C0 : Nat → Prop} {W : World} {b : Nat} (h : SOk W.heap.size J) (hb : W.heap.size ≤ b) : SOk b (AlJ J C0 W) :=
  ⟨fun pre C X X' G ⟨h1, h2⟩ hk hn hg => ⟨(h.from hb).stays pre C X X' G h1 hk hn hg, h2.keep.trans hk (fun k hk => Or.inr (Nat.le_trans hb (hg k hk))), h2.sub⟩, fun pre C X ⟨h1, _⟩ => h.lt pre C X h1⟩
theorem AlJ.okx {J : List (Nat × Int) → (Nat → Prop) → World → Prop} {C0 : Nat → Prop} {W : World} {b : Nat} {c : Code} (h : SOk W.heap.size J) (hb : W.heap.size ≤ b) : SOk b (fun pre C X => c = .ret ∧ AlJ J C0 W pre C X) :=
  ⟨fun pre C X X' G ⟨h0, h1⟩ hk hn hg => ⟨h0, (AlJ.ok h hb).stays pre C X X' G h1 hk hn hg⟩, fun pre C X ⟨_, h1⟩ => (AlJ.ok (C0 := C0) h hb).lt pre C X h1⟩

set_option maxRecDepth 20000 in
set_option maxHeartbeats 2000000 in
theorem aall_seq (Bn : Nat) (v : Value) (ws : List Int) (hU : U32 ws) (hl : ws.length ≤ 1048576) :
    SeqG 89 #[.pointer (some ⟨Bn, 0, none⟩)] (encA ws) (obs ws 1) (fun k => k = Bn ∨ ws ≠ [] ∧ v.ownBlock = some k) (fun W => W.cell? ⟨Bn, 0, none⟩ = some v ∧ VRow W v (Uw ws)) := by
  intro J Jx l m C0 W hJ hJx hY h0 hD hF
  obtain ⟨hB, hR⟩ := hD
  refine callsIn_of_wp_marks Tryz.func89 rfl trivial ?_ rfl
  simp only [Tryz.ntmps89, List.size_toArray, List.length_cons, List.length_nil, Nat.reduceAdd, Nat.reduceSub, Array.replicate_succ, Array.replicate_zero, List.push_toArray, List.append_toArray, List.nil_append, List.cons_append]
  obtain ⟨a, cap, rfl, hc1, hc2, hc3⟩ := hR.shape
  rw [List.length_map] at *
  have HY := hide hY
  have HR := hide hR
  have HF := hide hF
  have HU := hide hU
  have HL := hide hl
  have HJ := hide (And.intro hJ hJx)
  have H0 := hide h0
  have HBC := hide hB
  have hbY : Below W.heap.size W (W.alloc (.cells #[.func (.yield l) #[] #[]] 130)) := (Below.refl _ W).alloc (Nat.le_refl _) _
  have hB0 := (hbY.cell (p := ⟨Bn, 0, none⟩) (unhide HF Bn (Or.inl rfl)).2).trans hB
  have HBY := hide hbY
  clear hY hR hF hU hl hc1 hc2 hc3 hJ hJx h0 hbY
  gi_wp2_with fail
  refine ⟨trivial, (fun h => (by cases h)), (callsIn_wide.2 (call_any _ ws _ ((unhide HR).below (unhide HBY)) (unhide HU) (unhide HL))).mono ?_⟩
  rintro e w1 ⟨v1, rfl, hv1, hv2, hv3, b1⟩
  have HV := hide (And.intro hv1 (And.intro hv2 hv3))
  have HB1 := hide b1
  clear hv1 hv2 hv3 b1
  gi_wp2_with fail
  refine wpIn_seqR (C0 := C0) (all_seq (W.heap.size + 1) v1 ws (unhide HU) (unhide HL)) rfl (fun _ _ => by kernel_rfl) (fun _ => rfl)
    (AlJ J C0 W) (fun c pre C W' => c = .ret ∧ AlJ Jx C0 W pre C W') (AlJ.ok (unhide HJ).1 (by have := ((unhide HBY).trans (((unhide HB1).mono (unhide HBY).size))).size; omega)) (fun c => AlJ.okx (unhide HJ).2 (by have := ((unhide HBY).trans (((unhide HB1).mono (unhide HBY).size))).size; omega)) ⟨(unhide HJ).1.below (unhide H0) ((unhide HBY).trans ((unhide HB1).mono (unhide HBY).size)), Moves.of_below ((unhide HBY).trans ((unhide HB1).mono (unhide HBY).size))⟩ ?data ?apart ?round ?done ?stop
  case data =>
    intro X hb
    obtain ⟨h1, h2, h3⟩ := unhide HV
    have l1 := (Array.getElem?_eq_some_iff.1 h1).1
    rw [World.size_alloc] at h1 l1
    have c1 : w1.cell? ⟨W.heap.size + 1, 0, none⟩ = some v1 := by rw [cell_of_row w1 _ _ _ _ (0, 0) h1]; rfl
    exact ⟨(hb.cell (p := ⟨W.heap.size + 1, 0, none⟩) l1).trans c1, h2.below hb⟩
  case apart =>
    intro k hk
    obtain ⟨h1, h2, h3⟩ := unhide HV
    have l1 := (Array.getElem?_eq_some_iff.1 h1).1
    rw [World.size_alloc] at l1 h3
    have hlt : ∀ k, C0 k → k < W.heap.size := fun k hk => (unhide HJ).1.lt _ _ _ (unhide H0) k hk
    rcases hk with rfl | ⟨hne, hk⟩
    · exact ⟨fun hc => by have := hlt _ hc; omega, l1⟩
    · have := h3 k hk
      exact ⟨fun hc => by have := hlt _ hc; omega, by omega⟩
  case round =>
    rintro l2 pre ⟨q, h⟩ rest C W3 hZ ⟨hj3, hm3⟩ hm
    dsimp only [encO]
    have hbW := (unhide HBY).trans ((unhide HB1).mono (unhide HBY).size)
    have HZ := hide hZ
    have HI := hide (And.intro hj3 hm3)
    clear hZ hj3 hm3 hm
    gi_wp2
    refine ⟨AlJ J C0 W pre, C, (AlJ.ok (unhide HJ).1 hbW.size).at pre, unhide HI, Moves.refl _ _, fun W4 hi4 hm4 => ?_⟩
    have HI4 := hide hi4
    have hmx : Tryz.prog.follows .mixedOrders = true := by kernel_rfl
    have hob := isOb_of (ws := ws) (x := (q, h)) (by rw [unhide HZ]; simp)
    have hl1 := (unhide HF Bn (Or.inl rfl))
    have hm5 := hi4.2.keep
    have hcB : W4.cell? ⟨Bn, 0, none⟩ = some (.slice a ws.length cap) := (hm5.cell (p := ⟨Bn, 0, none⟩) hl1.2 hl1.1).trans (unhide HBC)
    have hyn := World.alloc_heap_new W (.cells #[.func (.yield l) #[] #[]] 130)
    have hyl := (Array.getElem?_eq_some_iff.1 hyn).1
    have hyb := ((unhide HB1).block _ hyl).trans hyn
    have hbs := hbW.size
    have hyl' : W.heap.size < W.heap.size + 1 := Nat.lt_succ_self _
    rw [World.size_alloc] at hyl
    have hs1 := (unhide HB1).size
    rw [World.size_alloc] at hs1
    have hyC : ¬ C W.heap.size := fun hc => by
      rcases hm4.sub _ hc with h | h
      · have := (unhide HJ).1.lt _ _ _ (unhide H0) _ h; omega
      · omega
    have hyb4 := (hm4.keep.block W.heap.size (by omega) (fun hc => by have := (unhide HJ).1.lt _ _ _ (unhide H0) _ hc; omega)).trans hyb
    have HP := hide (And.intro (Array.getElem?_eq_some_iff.1 hyb4).1 hl1.2)
    have hlW : W.heap.size ≤ W4.heap.size := hm5.size
    have hcY : W4.cell? ⟨W.heap.size, 0, none⟩ = some (.func (.yield l) #[] #[]) := by rw [cell_of_row W4 _ _ _ _ (0, 0) hyb4]; rfl
    have HI0 : Hid (∀ X, Below W4.heap.size W4 X → X.cell? ⟨Bn, 0, none⟩ = some (.slice a ws.length cap) ∧ X.cell? ⟨W.heap.size, 0, none⟩ = some (.func (.yield l) #[] #[])) := fun X hb =>
      ⟨(hb.cell (p := ⟨Bn, 0, none⟩) (by have := (unhide HP).2; show Bn < _; omega)).trans hcB, (hb.cell (p := ⟨W.heap.size, 0, none⟩) (unhide HP).1).trans hcY⟩
    have HWM := hide hm5
    have hR4 := (unhide HR).keep hm5 (fun b off c e hne hc => (unhide HF b (Or.inr ⟨fun h => hne (by rw [h]; rfl), by rw [e]; rfl⟩)).1 hc)
    have HR4D := hide (hR4.below ((Below.refl _ W4).drew))
    have HOB := hide hob
    clear HI hob hl1 hm5 hcB hyn hyl hyb hbs hyl' hs1 hyC hyb4 hlW hcY hR4 hi4 hm4 hbW hB hB0
    gi_wp2_with fail
    refine region_actW 4 _ (fun X => X = W4.drew) (fun v X => ∃ p d, v = .agg #[.int .i64 (wd ws q % 16), p, d] ∧ X.ownsRow W4.drew.heap.size 3 1 p (ptsA ws q).length (Iw (ptsA ws q)) ∧ X.ownsRow W4.drew.heap.size 31 1 d (dtA ws q).length (Uw (dtA ws q)) ∧ Below W4.drew.heap.size W4.drew X)
      (fun C => ∀ X, C X → X.cell? ⟨Bn, 0, none⟩ = some (.slice a ws.length cap) ∧ X.cell? ⟨W.heap.size, 0, none⟩ = some (.func (.yield l) #[] #[])) hmx (by kernel_rfl) rfl rfl (by kernel_rfl) (by simp) ?hlo ?i0 ?i1 rfl ?_
    case hlo => rintro ⟨a5, w5, h5⟩; exact h5
    case i0 => rintro X rfl; exact unhide HI0 _ ((Below.refl _ W4).drew)
    case i1 => rintro v X ⟨p, d, rfl, _, _, hb⟩; exact unhide HI0 _ (((Below.refl _ W4).drew).trans hb)
    apply Exists.intro
    refine ⟨fun C hC => ?_, fun X hX => ?_, fun v X hX => ?_⟩
    · simp only [List.take_succ_cons, List.take_zero]
      repeat (first
        | go_big_quiet_skip
        | (go_big_quiet_want
           apply Exists.intro
           refine ⟨fun w' hw' => ?_, ?_⟩
           · obtain ⟨z0, z1⟩ := hC w' hw'
             go_simp
             first | done | rfl
           simp only [Act.put, List.setIfInBounds_toArray, List.set_cons_zero, List.set_cons_succ]
           go_big_quiet_on))
      refine wpQuiet_nil ?_
      rfl
    · subst hX
      go_simp
      refine Calls.mono (aobject_any (.slice a ws.length cap) ws (q : Int) W4.drew (unhide HR4D) (unhide HU) (unhide HL) (unhide HOB)) ?_
      rintro e X ⟨p, d, rfl, o1, o2, b2⟩
      exact ⟨_, rfl, p, d, by rw [Int.toNat_natCast], o1, o2, b2⟩
    · obtain ⟨p, d, rfl, o1, o2, b2⟩ := hX
      have hbX := ((Below.refl _ W4).drew).trans b2
      obtain ⟨fn, tmps, assign, body, hy, hRo⟩ := unhide HY pre (q, h) rest C W4 X #[.int .i64 (q : Int), .agg #[.int .i64 (wd ws q % 16), p, d]] (unhide HZ) (unhide HI4).1 (unhide HI4).2 hbX ⟨p, d, rfl, o1, o2⟩
      have HRO := hide (roundIn_wide (n' := m - 1 - 1 - 1) (l' := l2) hRo)
      have HBX := hide hbX
      clear hRo o1 o2 b2 hbX
      simp only [List.drop_succ_cons, List.drop_zero, Act.put, List.setIfInBounds_toArray, List.set_cons_zero, List.set_cons_succ]
      gi_wp2_with fail
      refine ⟨(fun h => (by cases h)), (unhide HRO).mono ?_⟩
      rintro e w2 (⟨rfl, C', j2, mv2⟩ | ⟨rfl, C', jx2, mv2⟩)
      · have HE := hide (And.intro j2 mv2)
        clear j2 mv2
        gi_wp2_with fail
        exact ⟨C', ⟨(unhide HE).1, (unhide HI4).2.trans (unhide HE).2⟩, (unhide HE).2⟩
      · have HE := hide (And.intro jx2 mv2)
        clear jx2 mv2
        gi_wp2_with fail
        exact ⟨C', ⟨rfl, (unhide HE).1, (unhide HI4).2.trans (unhide HE).2⟩, (unhide HE).2⟩
  case done =>
    rintro dd C W5 hdd ⟨hj, hm5⟩ hm hnc hK
    have HE := hide (And.intro hj hm5)
    have HK := hide hK
    have HNC := hide hnc
    have hbW := (unhide HBY).trans ((unhide HB1).mono (unhide HBY).size)
    have HD := hide (Nat.le_trans hbW.size hdd)
    clear hj hm5 hm hnc hK hB hB0 hbW
    gi_wp2_with fail
    refine ⟨by simp, .inl ⟨_, _, rfl, run_takeDeferred (unhide HK), ?_⟩⟩
    refine ⟨_, results_none rfl _ _ _, ⟨_, rfl⟩, Or.inl ⟨C, ?_, ?_⟩⟩
    · exact (unhide HJ).1.stays _ _ _ _ _ (unhide HE).1 (keep_put W5 dd _) (fun k hc e => unhide HNC (e ▸ hc)) (fun k e => by have := unhide HD; omega)
    · exact ⟨(unhide HE).2.keep.trans (keep_put W5 dd _) (fun k e => Or.inr (by have := unhide HD; omega)), (unhide HE).2.sub⟩
  case stop =>
    rintro dd c pre x rest C W5 hdd hZ ⟨rfl, hj, hm5⟩ hm hnc hK
    have HE := hide (And.intro hj hm5)
    have HK := hide hK
    have HNC := hide hnc
    have HZ := hide hZ
    have hbW := (unhide HBY).trans ((unhide HB1).mono (unhide HBY).size)
    have HD := hide (Nat.le_trans hbW.size hdd)
    clear hj hm5 hm hnc hK hB hB0 hbW hZ
    gi_wp2_with fail
    refine ⟨by simp, .inl ⟨_, _, rfl, run_takeDeferred (unhide HK), ?_⟩⟩
    refine ⟨_, results_none rfl _ _ _, ⟨_, rfl⟩, Or.inr ⟨pre, x, rest, C, unhide HZ, ?_, ?_⟩⟩
    · exact (unhide HJ).2.stays _ _ _ _ _ (unhide HE).1 (keep_put W5 dd _) (fun k hc e => unhide HNC (e ▸ hc)) (fun k e => by have := unhide HD; omega)
    · exact ⟨(unhide HE).2.keep.trans (keep_put W5 dd _) (fun k e => Or.inr (by have := unhide HD; omega)), (unhide HE).2.sub⟩
end Go.Proofs.YtlbhhdldeaehkaaGreat
