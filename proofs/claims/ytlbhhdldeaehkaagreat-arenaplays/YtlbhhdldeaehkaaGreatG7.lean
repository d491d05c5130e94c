/- Texts of ours, one behind the other: CelIter. -/
import Derived.Test.YtlbhhdldeaehkaaGreatG3
import Derived.Test.YtlbhhdldeaehkaaGreatG4
import Derived.Test.YtlbhhdldeaehkaaGreatG5
import Derived.Test.YtlbhhdldeaehkaaGreatG6
/- The landed package cells: the inner iterator over the objects of words. -/
namespace Go.Proofs.YtlbhhdldeaehkaaGreat
open Go.RowKit Go.Shelf
attribute [local go_sem] Oper.semAt_some

abbrev Uw (ws : List Int) : List Value := ws.map (Value.int .u32)
/-- What is told of an object. -/
def encO (x : Nat × Int) : Array Value := #[.int .i64 (x.1 : Int), .int .u32 x.2]

theorem cishead_any (ws : List Int) (p : Nat) (w : World) (hU : U32 ws) (hl : ws.length < 70368744177664) (hp : p < ws.length) :
    Calls Tryz.prog 91 #[.int .u32 (wd ws p), .int .i64 ((ws.length : Int) - p)] w fun e w' => e = .returned (.bool (decide (okH ws p))) ∧ w' = w := by
  obtain ⟨h0, h1⟩ := hU.wd p
  have e1 := szN_int h0
  have e2 := ptN_int (wd ws p)
  generalize hx : wd ws p = x at *
  by_cases c1 : x / 16 % 256 < x / 4096
  · by_cases c2 : x / 4096 ≤ (ws.length : Int) - p
    · have hk : okH ws p := ⟨hp, by rw [hx]; omega, by rw [hx]; omega⟩
      rw [decide_eq_true hk]
      clear hk e1 e2 hx hU
      go_enter Tryz.func91, Tryz.ntmps91
      go_wp2
      go_ret
      exact ⟨rfl, rfl⟩
    · have hk : ¬ okH ws p := fun h => c2 (by have := h.2.2; rw [hx] at this; omega)
      rw [decide_eq_false hk]
      clear hk e1 e2 hx hU
      go_enter Tryz.func91, Tryz.ntmps91
      go_wp2
      go_ret
      exact ⟨rfl, rfl⟩
  · have hk : ¬ okH ws p := fun h => c1 (by have := h.2.1; rw [hx] at this; omega)
    rw [decide_eq_false hk]
    clear hk e1 e2 hx hU
    go_enter Tryz.func91, Tryz.ntmps91
    go_wp2
    go_ret
    exact ⟨rfl, rfl⟩

set_option maxRecDepth 20000 in
set_option maxHeartbeats 2000000 in
theorem objects_seq (Bn : Nat) (s : Value) (ws : List Int) (hU : U32 ws) (hl : ws.length < 70368744177664) :
    SeqM 90 #[.pointer (some ⟨Bn, 0, none⟩)] encO (obs ws 1) (fun k => k = Bn ∨ ws ≠ [] ∧ s.ownBlock = some k) (fun W => W.cell? ⟨Bn, 0, none⟩ = some s ∧ VRow W s (Uw ws)) := by
  intro J Jx l m C0 W hJ hY h0 hD hF
  obtain ⟨hB, hR⟩ := hD
  refine callsIn_of_wp Tryz.func90 rfl trivial ?_ rfl
  simp only [Tryz.ntmps90, List.size_toArray, List.length_cons, List.length_nil, Nat.reduceAdd, Nat.reduceSub, Array.replicate_succ, Array.replicate_zero, List.push_toArray, List.append_toArray, List.nil_append, List.cons_append]
  obtain ⟨a, cap, rfl, hc1, hc2, hc3⟩ := hR.shape
  rw [List.length_map] at *
  have hlen : (ws.length : Int) < 70368744177664 := by omega
  have HY := hide hY
  have HR := hide hR
  have HF := hide hF
  have HU := hide hU
  have HL := hide hl
  clear hY hR hF hU hl hc1 hc2 hc3
  gi_wp2_with fail
  gi_loopw [3] (fun i wr => ∃ (pre : List (Nat × Int)) (C : Nat → Prop), i = .int .i64 ((endO pre : Nat) : Int) ∧ (∃ rest, obs ws 1 = pre ++ rest) ∧ J pre C wr ∧ Moves C0 C W wr) (fun i _ => ws.length + 1 - (intOf i).toNat)
  case atStart => exact ⟨[], C0, rfl, ⟨_, rfl⟩, h0, Moves.refl _ _⟩
  case round =>
    obtain ⟨pre, C, rfl, ⟨rest, hZ⟩, j1, hm⟩ := hrel
    obtain ⟨e1, e2⟩ := endO_le hZ
    have hsp := obs_split hZ
    have hep : pre.foldl (fun _ x => x.1 + szN x.2) 1 = endO pre := rfl
    rw [hep] at hsp
    generalize hp : endO pre = p at *
    clear hep
    have hBr : wr.cell? ⟨Bn, 0, none⟩ = some (.slice a ws.length cap) := (hm.keep.cell (p := ⟨Bn, 0, none⟩) (unhide HF Bn (Or.inl rfl)).2 (unhide HF Bn (Or.inl rfl)).1).trans hB
    have hRr := (unhide HR).keep hm.keep (fun b off c e hne => (unhide HF b (Or.inr ⟨fun h => hne (by rw [h]; rfl), by rw [e]; rfl⟩)).1)
    have HZ := hide hZ
    have HP := hide hp
    have HM := hide hm
    clear hZ hp hm
    by_cases hlt : p < ws.length
    · obtain ⟨b, off, cap', e0, g1, g2, hcl⟩ := hRr.open (by intro e; have := congrArg List.length e; simp at this; rw [this] at hlt; simp at hlt)
      simp only [Value.slice.injEq] at e0
      obtain ⟨rfl, g3, rfl⟩ := e0
      clear g1 g2 g3
      have hcp := hcl p _ (by rw [List.getElem?_map, wd_get hlt]; rfl)
      obtain ⟨u0, u1⟩ := (unhide HU).wd p
      have hpI : (p : Int) < (ws.length : Int) := by omega
      by_cases hk : okH ws p
      · have hst := obs_step hk
        rw [hst] at hsp
        obtain ⟨fn, tmps, assign, body, hy, hRo⟩ := unhide HY pre (p, wd ws p) _ C wr (by rw [← hsp]; exact unhide HZ) j1 (unhide HM)
        have HIS := hide (cishead_any ws p wr (unhide HU) (unhide HL) hlt)
        rw [decide_eq_true hk] at HIS
        have hs1 := szN_int u0
        have hs2 : wd ws p / 4096 < 1048576 := by omega
        have hs3 : 0 ≤ wd ws p / 4096 := by omega
        have HE := hide (And.intro e1 e2)
        have HJ1 := hide j1
        have HZ2 := hide (show obs ws 1 = (pre ++ [(p, wd ws p)]) ++ obs ws (p + szN (wd ws p)) by rw [unhide HZ, hsp]; simp)
        have HK := hide hk
        have HRo := hide hRo
        have HME := hide (show (1 : Int) ≤ wd ws p / 4096 ∧ (p : Int) + wd ws p / 4096 ≤ ws.length by have h1 := hk.2.1; have h2 := hk.2.2; have h3 := hk.1; omega)
        dsimp only [encO] at hy
        have HD := hide (show ((endO (pre ++ [(p, wd ws p)]) : Nat) : Int) = (p : Int) + wd ws p / 4096 by rw [endO_snoc, ← hs1]; simp)
        generalize hx : wd ws p = x at *
        have hw1 : IntKind.i64.wrap ((ws.length : Int) - (p : Int)) = (ws.length : Int) - p := by rw [IntKind.wrap_i64]; omega
        have hw2 : IntKind.i64.wrap ((p : Int) + x / 4096) = (p : Int) + x / 4096 := by rw [IntKind.wrap_i64]; omega
        clear hst hsp hk hRr hcl hRo hx hlt e1 e2 j1 hB h0 hs1 hlen hs2 hs3
        gi_wp2_with fail
        refine ⟨trivial, (fun h => (by cases h)), (callsIn_wide.2 (unhide HIS)).mono ?_⟩
        rintro e w1 ⟨rfl, rfl⟩
        gi_wp2_with fail
        refine ⟨(fun h => (by cases h)), (unhide HRo).mono ?_⟩
        rintro e w2 (⟨rfl, C', j2, mv2⟩ | ⟨rfl, C', jx2, mv2⟩)
        · have HCS := hide (csize_t x w2 u0 u1)
          gi_wp2_with fail
          refine ⟨trivial, (fun h => (by cases h)), (callsIn_wide.2 (unhide HCS)).mono ?_⟩
          rintro e w3 ⟨rfl, rfl⟩
          have HM2 := hide ((unhide HM).trans mv2)
          clear mv2
          gi_wp2_with fail
          go_roundw
          case rel => exact ⟨pre ++ [(p, x)], C', by rw [unhide HD], ⟨_, unhide HZ2⟩, j2, unhide HM2⟩
          case measure =>
            have hk := unhide HME
            simp only [intOf]
            omega
        · have HE2 := hide (show ∃ pre x rest C, obs ws 1 = pre ++ x :: rest ∧ Jx (pre ++ [x]) C w2 ∧ Moves C0 C W w2 from ⟨pre, (p, x), _, C', by rw [unhide HZ2, List.append_assoc]; rfl, jx2, (unhide HM).trans mv2⟩)
          clear jx2 mv2
          gi_wp2_with fail
          refine bodyPost_ret (results_none rfl _ _ _) rfl ?_
          exact ⟨⟨_, rfl⟩, Or.inr (unhide HE2)⟩
      · have hst := obs_stop hk
        rw [hst] at hsp
        have HIS := hide (cishead_any ws p wr (unhide HU) (unhide HL) hlt)
        rw [decide_eq_false hk] at HIS
        have HE := hide (show ∃ C, J (obs ws 1) C wr ∧ Moves C0 C W wr from ⟨C, by rw [unhide HZ, hsp, List.append_nil]; exact j1, unhide HM⟩)
        generalize hx : wd ws p = x at *
        have hw1 : IntKind.i64.wrap ((ws.length : Int) - (p : Int)) = (ws.length : Int) - p := by rw [IntKind.wrap_i64]; omega
        clear hst hsp hk hRr hcl hx hlt e1 e2 j1 hB h0 hlen
        gi_wp2_with fail
        refine ⟨trivial, (fun h => (by cases h)), (callsIn_wide.2 (unhide HIS)).mono ?_⟩
        rintro e w1 ⟨rfl, rfl⟩
        gi_wp2_with fail
        refine ⟨fun _ h => (by cases h), ?_⟩
        gi_wp2_with fail
        refine bodyPost_ret (results_none rfl _ _ _) rfl ?_
        exact ⟨⟨_, rfl⟩, Or.inl (unhide HE)⟩
    · have hst := obs_stop (ws := ws) (p := p) (fun h => hlt h.1)
      rw [hst] at hsp
      have hpI : (ws.length : Int) ≤ (p : Int) := by omega
      have HE := hide (show ∃ C, J (obs ws 1) C wr ∧ Moves C0 C W wr from ⟨C, by rw [unhide HZ, hsp, List.append_nil]; exact j1, unhide HM⟩)
      have e3 : (1 : Int) ≤ p := by omega
      clear hst hsp hRr hlt e1 e2 j1 hB h0 hlen
      gi_wp2_with fail
      go_end0
      exact ⟨⟨_, rfl⟩, Or.inl (unhide HE)⟩
end Go.Proofs.YtlbhhdldeaehkaaGreat
