/- The walk of the law PlainOthers, of the landed package plain. -/
import Derived.Test.YtehafkbndjifaabG24
namespace Go.Proofs.Ytehafkbndjifaab
open Go.RowKit

theorem eff_none {ops : List Dat} {k : List UInt8} (h : ∀ o ∈ ops, kD o ≠ k) : eff ops k = none := by
  cases he : eff ops k with
  | none => rfl
  | some o =>
    obtain ⟨⟨t, ht, _⟩, hk⟩ := (eff_iff k o ops).1 he
    exact absurd hk (h o (List.mem_of_getElem? ht))
set_option maxRecDepth 20000 in
set_option maxHeartbeats 4000000 in
theorem pothers_any (v v1 : Value) (L M : List El) (key : ByteArray) (w : World) (h : EL 2 prC w v L) (h1 : EL 3 opC w v1 M) (hv : ∀ x ∈ L, x.2.length ≤ 140737488351232) (hvm : ∀ x ∈ M, x.2.length ≤ 140737488351232 ∧ x.1.key.size ≤ 140737488351232) (hl : L.length * 40 ≤ 140737488351232) :
    Calls Try.prog 4 #[v, v1, .string key] w fun e w' => e = .returned (.bool true) ∧ Below w.heap.size w w' := by
  have HD1 := hide (pdo_any v v1 L M w h h1 (by omega) hv (fun x hx => (hvm x hx).1) (fun x hx => (hvm x hx).2))
  have HAW := hide pawake_any
  obtain ⟨E, hE⟩ : ∃ E, E = doE (pdat L) (dat M) := ⟨_, rfl⟩
  rw [← hE] at HD1
  by_cases hE0 : E = 0
  · subst hE0
    obtain ⟨hR, hC⟩ := doE_zero hE.symm
    have hA32 := chk_len hC
    rw [dat_len] at hA32
    have HG1 := hide (fun W hW => pget_any v L key W (h.below hW) (by omega) hv)
    have HG2 := hide (fun W v' (L' : List El) (hd : pdat L' = doD (pdat L) (dat M)) (hel : EL 2 prC W v' L') => pget_any v' L' key W hel (by have := do_len hd; omega) (do_bound (SP.of hR) hd hv (fun x hx => (hvm x hx).1)))
    obtain ⟨p, c, rfl, _⟩ := h.shape
    obtain ⟨b1, o1, c1, rfl, k1, k2, hsn⟩ := h1.seen hA32.1
    unfold maxLen at k2
    obtain ⟨l, hll⟩ : ∃ l, l = M.length := ⟨_, rfl⟩
    rw [← hll] at k1 HD1 ⊢
    have hl0 : (l : Int) ≤ 9223372036854775807 := by omega
    have HSN := hide hsn
    have HF := hide (And.intro hR (And.intro hC hll))
    clear h h1 hv hvm hl hE hR hC hA32 k1 k2 hsn hll
    go_enter Try.func4, Try.ntmps4
    go_wp2_with fail
    refine Calls.mono (unhide HD1) ?_
    rintro e w1 ⟨vx, Lx, rfl, hdx, hox, hb1⟩
    simp only [if_true] at hdx
    obtain ⟨px, cx, rfl⟩ := hox.1.shape
    have HX := hide (And.intro hdx (And.intro (hox.1.el prC_len) hb1))
    clear hdx hox hb1
    go_wp2_with fail
    refine Calls.mono (unhide HAW _) ?_
    rintro e w2 ⟨rfl, hb2⟩
    have HB2 := hide (And.intro hb2 ((unhide HX).2.2.trans (hb2.mono (unhide HX).2.2.size)))
    clear hb2
    go_wp2
    go_loopw [9] (fun i wr => ∃ k : Nat, k ≤ l ∧ i = .int .i64 k ∧ wr = w2 ∧ Hid (∀ j (hj : j < M.length), j < k → M[j].1.key ≠ key)) (fun i _ => l - (intOf i).toNat)
    case atStart => exact ⟨0, Nat.zero_le _, rfl, rfl, fun j _ hj => by omega⟩
    case round =>
      obtain ⟨k, hk, rfl, rfl, hst⟩ := hrel
      by_cases hlt : (k : Int) < (l : Int)
      · have hkM : k < M.length := by have := (unhide HF).2.2; omega
        obtain ⟨a1, a2, a3, a4⟩ := unhide HSN k hkM _ (unhide HB2).2
        by_cases hke : M[k].1.key = key
        · rw [hke] at a1
          clear hst hke a2 a3 a4 hkM
          go_wp2
          go_ret
          exact ⟨rfl, (unhide HB2).2⟩
        · have HNX : Hid (∀ j (hj : j < M.length), j < k + 1 → M[j].1.key ≠ key) := by
            intro j hj hjk
            by_cases g : j = k
            · subst g; exact hke
            · exact unhide hst j hj (by omega)
          have hk2 : (M[k].1.key.toList == key.toList) = false := by
            simp only [beq_eq_false_iff_ne]
            exact fun e => hke (bl_inj e)
          clear a2 a3 a4
          generalize M[k].1.key = kk at *
          clear hst hke
          go_wp2
          go_roundw
          case rel => exact ⟨k + 1, by omega, by go_num, by first | rfl | trivial, unhide HNX⟩
          case measure => simp [intOf]; omega
      · have hnone : ∀ o ∈ dat M, kD o ≠ key.toList := by
          intro o ho e
          obtain ⟨y, hy, rfl⟩ := List.mem_map.1 ho
          obtain ⟨j, hj, rfl⟩ := List.mem_iff_getElem.1 hy
          exact unhide hst j hj (by have := (unhide HF).2.2; omega) (bl_inj e)
        have hgr : getR (pdat Lx) key.toList = getR (pdat L) key.toList := by
          have hr := (unhide HF).1
          have hrx : rightD (pdat Lx) = true := by rw [(unhide HX).1]; exact doD_right hr (unhide HF).2.1
          unfold getR
          rw [hr, hrx]
          simp only [if_true]
          rw [(unhide HX).1, (doD_all (SP.of hr) _).2.1, took, eff_none hnone]
        have HGX := hide (fun W hW => unhide HG2 W _ Lx (unhide HX).1 ((unhide HX).2.1.below hW))
        rw [hgr] at HGX
        generalize getR (pdat L) key.toList = GR at *
        clear hst hnone hgr HG2
        go_wp2_with fail
        refine Calls.mono (unhide HG1 _ (unhide HB2).2) ?_
        rintro e w3 ⟨ta, rfl, hma, hb3⟩
        obtain ⟨tp, tn, tc, rfl⟩ := mine_opv hma
        have HM3 := hide (And.intro hma.1 (And.intro ((unhide HB2).1.trans (hb3.mono (unhide HB2).1.size)) ((unhide HB2).2.trans (hb3.mono (unhide HB2).2.size))))
        clear hma hb3
        go_wp2_with fail
        refine Calls.mono (unhide HGX _ (unhide HM3).2.1) ?_
        rintro e w4 ⟨tb, rfl, hmb, hb4⟩
        obtain ⟨tp', tn', tc', rfl⟩ := mine_opv hmb
        have HY := hide (bytes_any _ _ _ _ w4 ((unhide HM3).1.below hb4) hmb.1)
        have HB4 := hide ((unhide HM3).2.2.trans (hb4.mono (unhide HM3).2.2.size))
        clear hmb hb4
        have hbq : (GR.getD [] == GR.getD []) = true := by simp
        rw [hbq] at HY
        generalize GR.isSome = IS at *
        clear hbq
        go_wp2_with fail
        refine Calls.mono (unhide HY) ?_
        rintro e w5 ⟨rfl, rfl⟩
        go_wp2
        go_ret
        exact ⟨by simp, unhide HB4⟩
  · have hE1 : (E == 0) = false := by simp [hE0]
    have hE2 : (E != 0) = true := by simp [hE0]
    obtain ⟨p, c, rfl, _⟩ := h.shape
    obtain ⟨p1, c1, rfl, _⟩ := h1.shape
    simp only [hE0, if_false] at HD1
    clear h h1 hv hvm hl hE
    go_enter Try.func4, Try.ntmps4
    go_wp2_with fail
    refine Calls.mono (unhide HD1) ?_
    rintro e w1 ⟨vx, Lx, rfl, hdx, hox, hb1⟩
    have hx0 : Lx.length = 0 := by rw [← pdat_len, hdx]; rfl
    obtain ⟨px, cx, rfl⟩ := hox.1.shape
    rw [hx0]
    have HB1 := hide hb1
    clear hdx hox hb1 hx0
    go_wp2_with fail
    refine Calls.mono (unhide HAW _) ?_
    rintro e w2 ⟨rfl, hb2⟩
    have HB2 := hide ((unhide HB1).trans (hb2.mono (unhide HB1).size))
    clear hb2
    go_wp2_with fail
    refine Calls.mono (unhide HAW _) ?_
    rintro e w3 ⟨rfl, hb3⟩
    have HB3 := hide ((unhide HB2).trans (hb3.mono (unhide HB2).size))
    clear hb3
    go_wp2
    go_ret
    exact ⟨rfl, unhide HB3⟩

theorem walk_PlainOthers (s0 : Value) (d0 : Dt) (s1 : Value) (d1 : Dt) (a2 : ByteArray) (w : World) (h0 : Reads limSaid w (.row 40 prSh) [s0] d0) (h1 : Reads limSaid w (.row 48 opSh) [s1] d1) (_h2 : a2.size ≤ 140737488351232) :
    Calls Try.prog 4 #[s0, s1, .string a2] w fun e w' => e = .returned (.bool true) ∧ Below w.heap.size w w' := by
  obtain ⟨L, e0, o0, l0⟩ := prs_of_reads lim_said h0
  obtain ⟨M, e1, o1, l1⟩ := ops_of_reads lim_said h1
  unfold limSaid reachBytes at l0
  exact pothers_any s0 s1 L M a2 w e0 e1 (fun x hx => (o0 x hx).2.1) (fun x hx => (o1 x hx).2) (by omega)
end Go.Proofs.Ytehafkbndjifaab
