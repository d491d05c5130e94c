/- The walk of the law PlainLast, of the landed packages plain and batch. -/
import Derived.Test.YtehafkbndjifaaaG25
import Derived.Test.YtehafkbndjifaaaG28
namespace Go.Proofs.Ytehafkbndjifaaa
open Go.RowKit

set_option maxRecDepth 20000 in
set_option maxHeartbeats 4000000 in
theorem plast_any (v v1 : Value) (L M : List El) (w : World) (h : EL 2 prC w v L) (h1 : EL 3 opC w v1 M) (hv : ∀ x ∈ L, x.2.length ≤ 140737488351232) (hvm : ∀ x ∈ M, x.2.length ≤ 140737488351232 ∧ x.1.key.size ≤ 140737488351232) (hl : L.length * 40 ≤ 140737488351232) :
    Calls Try.prog 6 #[v, v1] w fun e w' => e = .returned (.bool true) ∧ Below w.heap.size w w' := by
  have HD1 := hide (pdo_any v v1 L M w h h1 (by omega) hv (fun x hx => (hvm x hx).1) (fun x hx => (hvm x hx).2))
  have HAW := hide pawake_any
  obtain ⟨E, hE⟩ : ∃ E, E = doE (pdat L) (dat M) := ⟨_, rfl⟩
  rw [← hE] at HD1
  by_cases hE0 : E = 0
  · subst hE0
    obtain ⟨hR, hC⟩ := doE_zero hE.symm
    have hA32 := chk_len hC
    rw [dat_len] at hA32
    have HBL := hide (fun W hW => blast_any v1 M W (h1.below hW) (by omega) (fun x hx => (hvm x hx).1))
    have HD2 : Hid (∀ W, Below w.heap.size w W → ∀ v' M', dat M' = lastD (dat M) → EL 3 opC W v' M' → Calls Try.prog 23 #[v, v'] W fun e w' => ∃ v2 L2, e = .returned (.tuple #[v2, .int .i64 0]) ∧ pdat L2 = doD (pdat L) (dat M) ∧ OO 37 2 prC w' W.heap.size v2 L2 ∧ Below W.heap.size W w') := by
      intro W hW v' M' hd hel
      have hb : ∀ x ∈ M', x.2.length ≤ 140737488351232 ∧ x.1.key.size ≤ 140737488351232 := by
        intro x hx
        have hm : datOf x ∈ lastD (dat M) := by rw [← hd]; exact List.mem_map.2 ⟨x, hx, rfl⟩
        obtain ⟨t, ht, _⟩ := ((lastD_all (dat M)).2 _).1 hm
        obtain ⟨y, hy, e⟩ := List.mem_map.1 (List.mem_of_getElem? ht)
        have := hvm y hy
        unfold datOf at e
        simp only [Prod.mk.injEq] at e
        rw [← e.1, ← e.2.1]
        exact this
      have hdo := pdo_any v v' L M' W (h.below hW) hel (by omega) hv (fun x hx => (hb x hx).1) (fun x hx => (hb x hx).2)
      have hE' : doE (pdat L) (dat M') = 0 := by
        unfold doE
        rw [hR, hd]
        exact chk_last hC
      rw [hE'] at hdo
      refine hdo.mono ?_
      rintro e w' ⟨v2, L2, rfl, hd2, ho2, hb2⟩
      rw [if_pos rfl, hd, doD_last (SP.of hR)] at hd2
      exact ⟨v2, L2, rfl, hd2, ho2, hb2⟩
    have HF := hide (And.intro hR hC)
    obtain ⟨p, c, rfl, _⟩ := h.shape
    obtain ⟨p1, c1, rfl, _⟩ := h1.shape
    clear h h1 hv hvm hl hE hR hC hA32
    go_enter Try.func6, Try.ntmps6
    go_wp2_with fail
    refine Calls.mono (unhide HD1) ?_
    rintro e w1 ⟨vx, Lx, rfl, hdx, hox, hb1⟩
    simp only [if_true] at hdx
    obtain ⟨px, cx, rfl⟩ := hox.1.shape
    have HX := hide (And.intro hdx (And.intro (hox.1.el prC_len) hb1))
    clear hdx hox hb1
    go_wp2_with fail
    refine Calls.mono (unhide HAW _) ?_
    rintro e w2 ⟨rfl, hb2⟩
    have HB2 := hide (And.intro hb2 ((unhide HX).2.2.trans (hb2.mono (unhide HX).2.2.size)))
    clear hb2
    go_wp2_with fail
    refine Calls.mono (unhide HBL _ (unhide HB2).2) ?_
    rintro e w3 ⟨vm, Lm, rfl, hdm, hlm, hom, hb3⟩
    obtain ⟨pm, cm, rfl⟩ := hom.1.shape
    have HM := hide (And.intro hdm (And.intro (hom.1.el opC_len) (And.intro ((unhide HB2).1.trans (hb3.mono (unhide HB2).1.size)) ((unhide HB2).2.trans (hb3.mono (unhide HB2).2.size)))))
    clear hdm hlm hom hb3
    go_wp2_with fail
    refine Calls.mono (unhide HD2 _ (unhide HM).2.2.2 _ Lm (unhide HM).1 (unhide HM).2.1) ?_
    rintro e w4 ⟨vy, Ly, rfl, hdy, hoy, hb4⟩
    obtain ⟨py, cy, rfl⟩ := hoy.1.shape
    have hb14 := (unhide HM).2.2.1.trans (hb4.mono (unhide HM).2.2.1.size)
    have hp := hpairs_any _ _ Lx Ly w4 ((unhide HX).2.1.below hb14) (hoy.1.el prC_len)
    have hT : decide (pdat Lx = pdat Ly) = true := decide_eq_true (by rw [(unhide HX).1, hdy])
    rw [hT] at hp
    have HPR := hide hp
    have hck := fun W (hW : Below w4.heap.size w4 W) => pcheck_any _ Lx W (((unhide HX).2.1.below hb14).below hW)
    have hrx : rightD (pdat Lx) = true := by rw [(unhide HX).1]; exact doD_right (unhide HF).1 (unhide HF).2
    rw [hrx] at hck
    have HCK := hide hck
    have HB4 := hide ((unhide HM).2.2.2.trans (hb4.mono (unhide HM).2.2.2.size))
    clear hdy hoy hb4 hb14 hp hT hck hrx
    go_wp2_with fail
    refine Calls.mono (unhide HPR) ?_
    rintro e w5 ⟨rfl, hb5⟩
    have HC5 := hide (unhide HCK w5 hb5)
    have HB5 := hide ((unhide HB4).trans (hb5.mono (unhide HB4).size))
    clear hb5
    go_wp2_with fail
    refine Calls.mono (unhide HC5) ?_
    rintro e w6 ⟨rfl, hb6⟩
    have HB6 := hide ((unhide HB5).trans (hb6.mono (unhide HB5).size))
    clear hb6
    go_wp2
    go_ret
    exact ⟨rfl, unhide HB6⟩
  · have hE1 : (E == 0) = false := by simp [hE0]
    have hE2 : (E != 0) = true := by simp [hE0]
    obtain ⟨p, c, rfl, _⟩ := h.shape
    obtain ⟨p1, c1, rfl, _⟩ := h1.shape
    clear h h1 hv hvm hl hE
    go_enter Try.func6, Try.ntmps6
    go_wp2_with fail
    refine Calls.mono (unhide HD1) ?_
    rintro e w1 ⟨vx, Lx, rfl, hdx, hox, hb1⟩
    obtain ⟨px, cx, rfl⟩ := hox.1.shape
    have HB1 := hide hb1
    clear hdx hox hb1
    go_wp2_with fail
    refine Calls.mono (unhide HAW _) ?_
    rintro e w2 ⟨rfl, hb2⟩
    have HB2 := hide ((unhide HB1).trans (hb2.mono (unhide HB1).size))
    clear hb2
    go_wp2_with fail
    refine Calls.mono (unhide HAW _) ?_
    rintro e w3 ⟨rfl, hb3⟩
    have HB3 := hide ((unhide HB2).trans (hb3.mono (unhide HB2).size))
    clear hb3
    go_wp2
    go_ret
    exact ⟨rfl, unhide HB3⟩

theorem walk_PlainLast (s0 : Value) (d0 : Dt) (s1 : Value) (d1 : Dt) (w : World) (h0 : Reads limSaid w (.row 40 prSh) [s0] d0) (h1 : Reads limSaid w (.row 48 opSh) [s1] d1) :
    Calls Try.prog 6 #[s0, s1] w fun e w' => e = .returned (.bool true) ∧ Below w.heap.size w w' := by
  obtain ⟨L, e0, o0, l0⟩ := prs_of_reads lim_said h0
  obtain ⟨M, e1, o1, l1⟩ := ops_of_reads lim_said h1
  unfold limSaid reachBytes at l0
  exact plast_any s0 s1 L M w e0 e1 (fun x hx => (o0 x hx).2.1) (fun x hx => (o1 x hx).2) (by omega)
end Go.Proofs.Ytehafkbndjifaaa
