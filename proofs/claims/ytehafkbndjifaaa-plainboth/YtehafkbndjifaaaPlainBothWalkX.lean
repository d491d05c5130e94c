/- The walk of the law PlainBoth, of the landed package plain. -/
import Derived.Test.YtehafkbndjifaaaG14
import Derived.Test.YtehafkbndjifaaaG24
namespace Go.Proofs.Ytehafkbndjifaaa
open Go.RowKit

set_option maxRecDepth 20000 in
set_option maxHeartbeats 4000000 in
theorem pboth_any (v v1 v2 : Value) (L A M : List El) (w : World) (h : EL 2 prC w v L) (h1 : EL 3 opC w v1 A) (h2 : EL 3 opC w v2 M) (hv : ∀ x ∈ L, x.2.length ≤ 140737488351232) (hva : ∀ x ∈ A, x.2.length ≤ 140737488351232 ∧ x.1.key.size ≤ 140737488351232) (hvm : ∀ x ∈ M, x.2.length ≤ 140737488351232 ∧ x.1.key.size ≤ 140737488351232)
    (hl : L.length * 40 ≤ 140737488351232) (hla : A.length * 48 ≤ 140737488351232) (hlm : M.length * 48 ≤ 140737488351232) :
    Calls Try.prog 7 #[v, v1, v2] w fun e w' => e = .returned (.bool true) ∧ Below w.heap.size w w' := by
  have HD1 := hide (pdo_any v v1 L A w h h1 (by omega) hv (fun x hx => (hva x hx).1) (fun x hx => (hva x hx).2))
  have HAW := hide pawake_any
  obtain ⟨E, hE⟩ : ∃ E, E = doE (pdat L) (dat A) := ⟨_, rfl⟩
  rw [← hE] at HD1
  obtain ⟨i0, hi0, hz0, hz1, hz2⟩ := info_parts Try.info52
  by_cases hE0 : E = 0
  · subst hE0
    obtain ⟨hR, hC⟩ := doE_zero hE.symm
    have hA32 := chk_len hC
    rw [dat_len] at hA32
    have HD2 := hide (fun W hW v' (L' : List El) (hd : pdat L' = doD (pdat L) (dat A)) (hel : EL 2 prC W v' L') => pdo_any v' v2 L' M W hel (h2.below hW) (by have := do_len hd; omega) (do_bound (SP.of hR) hd hv (fun x hx => (hva x hx).1)) (fun x hx => (hvm x hx).1) (fun x hx => (hvm x hx).2))
    have HCP := hide (fun W hW => copyops_any v1 A W (h1.below hW) (by omega) (fun x hx => (hva x hx).1))
    have HEM := hide (fun W (hW : Below w.heap.size w W) => h2.below hW)
    have HEL := hide (fun W (hW : Below w.heap.size w W) => h.below hW)
    have HF := hide (And.intro hR (And.intro hA32 (And.intro hl (And.intro hlm (And.intro hv (And.intro hva hvm))))))
    obtain ⟨p, c, rfl, _⟩ := h.shape
    obtain ⟨p1, c1, rfl, _⟩ := h1.shape
    obtain ⟨p2, c2, rfl, _⟩ := h2.shape
    clear h h1 h2 hv hva hvm hl hla hlm hE hR hC hA32
    go_enter Try.func7, Try.ntmps7
    go_wp2_with fail
    refine Calls.mono (unhide HD1) ?_
    rintro e w1 ⟨vx, Lx, rfl, hdx, hox, hb1⟩
    simp only [if_true] at hdx
    obtain ⟨px, cx, rfl⟩ := hox.1.shape
    have HX := hide (And.intro hdx (And.intro (hox.1.el prC_len) hb1))
    clear hdx hox hb1
    go_wp2_with fail
    refine Calls.mono (unhide HAW _) ?_
    rintro e w2 ⟨rfl, hb2⟩
    have HB2 := hide (And.intro hb2 ((unhide HX).2.2.trans (hb2.mono (unhide HX).2.2.size)))
    clear hb2
    go_wp2_with fail
    refine Calls.mono (unhide HD2 _ (unhide HB2).2 _ Lx (unhide HX).1 ((unhide HX).2.1.below (unhide HB2).1)) ?_
    rintro e w3 ⟨vy, Ly, rfl, hdy, hoy, hb3⟩
    obtain ⟨py, cy, rfl⟩ := hoy.1.shape
    generalize doE (pdat Lx) (dat M) = F at *
    have HB3 := hide ((unhide HB2).2.trans (hb3.mono (unhide HB2).2.size))
    have HY := hide (And.intro hdy (hoy.1.el prC_len))
    clear hdy hoy hb3
    go_wp2_with fail
    refine Calls.mono (unhide HCP _ (unhide HB3)) ?_
    rintro e w4 ⟨va, Lc, rfl, hdc, hoc, hb4⟩
    obtain ⟨hR, hA32, hl, hlm, hv, hva, hvm⟩ := unhide HF
    have hb4' := (unhide HB3).trans (hb4.mono (unhide HB3).size)
    have hlc : Lc.length = A.length := by rw [← dat_len Lc, hdc, dat_len]
    obtain ⟨pa, ca, hvae⟩ := hoc.1.shape
    have hbase4 : w3.heap.size ≤ w4.heap.size := hb4.size
    have hcb : ∀ x ∈ Lc ++ M, x.2.length ≤ 140737488351232 ∧ x.1.key.size ≤ 140737488351232 := by
      intro x hx
      rcases List.mem_append.1 hx with hx | hx
      · have hm : datOf x ∈ dat A := by rw [← hdc]; exact List.mem_map.2 ⟨x, hx, rfl⟩
        obtain ⟨y, hy, e⟩ := List.mem_map.1 hm
        have := hva y hy
        unfold datOf at e
        simp only [Prod.mk.injEq] at e
        rw [← e.1, ← e.2.1]
        exact this
      · exact hvm x hx
    have HAP : Hid (∀ (ops : Array Oper) (rest : List Oper) (o : Oper) (a : Act) (Q : Exit → Act → World → Prop) (s x : Operand), o.guard = none → o.op = .call { callee := .builtin .append, args := #[s, x], argTypes := #[39, 39] } → a.eval s = va → a.eval x = .slice p2 M.length c2 →
        (∀ q n cc w', Hid (EL 3 opC w' (.slice q n cc) (Lc ++ M) ∧ Below w.heap.size w w' ∧ Below w3.heap.size w3 w') → wpList Try.prog ops Q rest (a.put o.dst (.slice q n cc)) w') → wpList Try.prog ops Q (o :: rest) a w4) := by
      intro ops rest o a Q s x hgd ho hs hx hk
      refine wpList_append_krow hgd s x 39 ho w3.heap.size 52 i0 (.agg #[.string ⟨#[]⟩, .slice none 0 0, .bool false]) Try.underlying39 hi0 hz0 3 48 (by omega) hz1 hz2 rfl va Lc.length (elC opC Lc) hs hoc.1.1 p2 M.length c2 (elC opC M) hx (unhide HEM _ hb4').1 (elC_one_cell opC_one M) (by unfold maxLen; omega) (by omega) hbase4 ?_
      intro v' w' hown' hg' hob'
      have heo : EO 52 3 opC w' w3.heap.size v' (Lc ++ M) := by
        refine EO.more hoc.1 (fun y hy => ⟨(unhide HEM _ hb4').2 y hy, fun b off e hne => ?_⟩) hown' hg' hob'
        intro ho9
        have r1 := row_lt ((unhide HEM _ (Below.refl _ _)).2 y hy) e hne
        have r2 := (hoc.1.1.lt b ho9).1
        have r3 := (unhide HB3).size
        omega
      obtain ⟨q, cc, e⟩ := heo.shape
      rw [e]
      have hel9 := heo.el opC_len
      rw [e] at hel9
      refine hk q _ cc w' ⟨hel9, hb4'.grown hg' (by have := hb4'.size; omega) (fun k hk => ?_), hb4.grown hg' (by have := hb4.size; omega) (fun k hk => (hoc.1.1.lt k hk).1)⟩
      have r2 := (hoc.1.1.lt k hk).1
      have r3 := (unhide HB3).size
      omega
    have HDZ := hide (fun W hW v' (hel : EL 3 opC W v' (Lc ++ M)) => pdo_any _ v' L (Lc ++ M) W (unhide HEL W hW) hel (by omega) hv (fun x hx => (hcb x hx).1) (fun x hx => (hcb x hx).2))
    have hdd : dat (Lc ++ M) = dat A ++ dat M := by rw [dat_app, hdc]
    have HDD : Hid (F = 0 → doE (pdat L) (dat (Lc ++ M)) = 0 → ∀ Lz, pdat Lz = doD (pdat L) (dat (Lc ++ M)) → decide (pdat Ly = pdat Lz) = true) := by
      intro hF _ Lz hz
      have h9 := (unhide HY).1
      rw [if_pos hF] at h9
      rw [h9, hz, hdd, doD_app, (unhide HX).1]
      simp
    generalize doE (pdat L) (dat (Lc ++ M)) = G at *
    subst hvae
    clear hR hA32 hl hlm hv hva hvm hb4' hlc hbase4 hcb hdd hdc hoc hb4
    go_wp2_with (refine unhide HAP _ _ _ _ _ _ _ rfl rfl rfl rfl ?_; intro q n5 cc w5 HQ)
    refine Calls.mono (unhide HDZ _ (unhide HQ).2.1 _ (unhide HQ).1) ?_
    rintro e w6 ⟨vz, Lz, rfl, hdz, hoz, hb6⟩
    obtain ⟨pz, cz, rfl⟩ := hoz.1.shape
    have hb9 := (unhide HQ).2.2
    have HPR := hide (hpairs_any _ _ Ly Lz w6 ((unhide HY).2.below (hb9.trans (hb6.mono hb9.size))) (hoz.1.el prC_len))
    have HZZ := hide (And.intro hdz ((unhide HQ).2.1.trans (hb6.mono (unhide HQ).2.1.size)))
    clear hdz hoz hb6 hb9
    by_cases hF : F = 0
    · subst hF
      by_cases hG : G = 0
      · subst hG
        have hT := unhide HDD rfl rfl Lz (by have := (unhide HZZ).1; rwa [if_pos rfl] at this)
        rw [hT] at HPR
        clear hT
        go_wp2_with fail
        refine Calls.mono (unhide HPR) ?_
        rintro e w7 ⟨rfl, hb7⟩
        have HB7 := hide ((unhide HZZ).2.trans (hb7.mono (unhide HZZ).2.size))
        clear hb7
        go_wp2
        go_ret
        exact ⟨rfl, unhide HB7⟩
      · have hG1 : (G == 0) = false := by simp [hG]
        have hG2 : (G != 0) = true := by simp [hG]
        go_wp2
        go_ret
        exact ⟨rfl, (unhide HZZ).2⟩
    · have hF1 : (F == 0) = false := by simp [hF]
      have hF2 : (F != 0) = true := by simp [hF]
      go_wp2
      go_ret
      exact ⟨rfl, (unhide HZZ).2⟩
  · have hE1 : (E == 0) = false := by simp [hE0]
    have hE2 : (E != 0) = true := by simp [hE0]
    obtain ⟨p, c, rfl, _⟩ := h.shape
    obtain ⟨p1, c1, rfl, _⟩ := h1.shape
    obtain ⟨p2, c2, rfl, _⟩ := h2.shape
    clear h h1 h2 hv hva hvm hl hla hlm hE
    go_enter Try.func7, Try.ntmps7
    go_wp2_with fail
    refine Calls.mono (unhide HD1) ?_
    rintro e w1 ⟨vx, Lx, rfl, hdx, hox, hb1⟩
    obtain ⟨px, cx, rfl⟩ := hox.1.shape
    have HB1 := hide hb1
    clear hdx hox hb1
    go_wp2_with fail
    refine Calls.mono (unhide HAW _) ?_
    rintro e w2 ⟨rfl, hb2⟩
    have HB2 := hide ((unhide HB1).trans (hb2.mono (unhide HB1).size))
    clear hb2
    go_wp2_with fail
    refine Calls.mono (unhide HAW _) ?_
    rintro e w3 ⟨rfl, hb3⟩
    have HB3 := hide ((unhide HB2).trans (hb3.mono (unhide HB2).size))
    clear hb3
    go_wp2
    go_ret
    exact ⟨rfl, unhide HB3⟩

theorem walk_PlainBoth (s0 : Value) (d0 : Dt) (s1 : Value) (d1 : Dt) (s2 : Value) (d2 : Dt) (w : World) (h0 : Reads limSaid w (.row 40 prSh) [s0] d0) (h1 : Reads limSaid w (.row 48 opSh) [s1] d1) (h2 : Reads limSaid w (.row 48 opSh) [s2] d2) :
    Calls Try.prog 7 #[s0, s1, s2] w fun e w' => e = .returned (.bool true) ∧ Below w.heap.size w w' := by
  obtain ⟨L, e0, o0, l0⟩ := prs_of_reads lim_said h0
  obtain ⟨A, e1, o1, l1⟩ := ops_of_reads lim_said h1
  obtain ⟨M, e2, o2, l2⟩ := ops_of_reads lim_said h2
  unfold limSaid reachBytes at l0 l1 l2
  exact pboth_any s0 s1 s2 L A M w e0 e1 e2 (fun x hx => (o0 x hx).2.1) (fun x hx => (o1 x hx).2) (fun x hx => (o2 x hx).2) (by omega) (by omega) (by omega)
end Go.Proofs.Ytehafkbndjifaaa
