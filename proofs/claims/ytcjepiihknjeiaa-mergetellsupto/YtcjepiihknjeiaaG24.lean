/- Texts of ours, one behind the other: MergeGroupsWalk, MgCount. -/
import Derived.Test.YtcjepiihknjeiaaG23
/- The walk of the statement MergeGroups. -/
namespace Go.Proofs.Ytcjepiihknjeiaa.QH
open Go.RowKit

/-- Merge of two, or three, lists that are written down. -/
theorem merge_two (v1 v2 : Value) (a b : List En) (w : World) (h1 : ER w v1 a) (h2 : ER w v2 b) (hl : totE [a, b] * 40 ≤ 140737488355328) :
    Calls Try.prog 10 #[.slice (some ⟨w.heap.size, 0, none⟩) 2 2] (w.alloc (.cells #[v1, v2] 24)) fun r w' => ∃ p c, r = .returned (.tuple #[.slice p (mrgR [a, b]).1.length c, .int .i64 (mrgR [a, b]).2]) ∧ ER w' (.slice p (mrgR [a, b]).1.length c) (mrgR [a, b]).1 ∧ Below w.heap.size w w' := by
  have hb0 : Below w.heap.size w (w.alloc (.cells #[v1, v2] 24)) := (Below.refl _ _).alloc (Nat.le_refl _) _
  refine (merge_any _ [a, b] _ (lr_lit (vs := [v1, v2]) (World.alloc_heap_new _ _) rfl (by simp [maxLen]) (fun j s l hs hl => by
    match j, hs, hl with
    | 0, hs, hl =>
      simp only [List.getElem?_cons_zero, Option.some.injEq] at hs hl
      subst hs; subst hl
      exact h1.below hb0
    | 1, hs, hl =>
      simp only [List.getElem?_cons_succ, List.getElem?_cons_zero, Option.some.injEq] at hs hl
      subst hs; subst hl
      exact h2.below hb0)) hl).mono ?_
  rintro e w' ⟨v, rfl, ho, _, hb⟩
  obtain ⟨p, c, rfl⟩ := ownsV_shape ho
  exact ⟨p, c, rfl, er_of_own ho, hb0.trans (hb.mono hb0.size)⟩
theorem merge_three (v1 v2 v3 : Value) (a b c : List En) (w : World) (h1 : ER w v1 a) (h2 : ER w v2 b) (h3 : ER w v3 c) (hl : totE [a, b, c] * 40 ≤ 140737488355328) :
    Calls Try.prog 10 #[.slice (some ⟨w.heap.size, 0, none⟩) 3 3] (w.alloc (.cells #[v1, v2, v3] 24)) fun r w' => ∃ p k, r = .returned (.tuple #[.slice p (mrgR [a, b, c]).1.length k, .int .i64 (mrgR [a, b, c]).2]) ∧ ER w' (.slice p (mrgR [a, b, c]).1.length k) (mrgR [a, b, c]).1 ∧ Below w.heap.size w w' := by
  have hb0 : Below w.heap.size w (w.alloc (.cells #[v1, v2, v3] 24)) := (Below.refl _ _).alloc (Nat.le_refl _) _
  refine (merge_any _ [a, b, c] _ (lr_lit (vs := [v1, v2, v3]) (World.alloc_heap_new _ _) rfl (by simp [maxLen]) (fun j s l hs hl => by
    match j, hs, hl with
    | 0, hs, hl =>
      simp only [List.getElem?_cons_zero, Option.some.injEq] at hs hl
      subst hs; subst hl
      exact h1.below hb0
    | 1, hs, hl =>
      simp only [List.getElem?_cons_succ, List.getElem?_cons_zero, Option.some.injEq] at hs hl
      subst hs; subst hl
      exact h2.below hb0
    | 2, hs, hl =>
      simp only [List.getElem?_cons_succ, List.getElem?_cons_zero, Option.some.injEq] at hs hl
      subst hs; subst hl
      exact h3.below hb0)) hl).mono ?_
  rintro e w' ⟨v, rfl, ho, _, hb⟩
  obtain ⟨p, k, rfl⟩ := ownsV_shape ho
  exact ⟨p, k, rfl, er_of_own ho, hb0.trans (hb.mono hb0.size)⟩

set_option maxRecDepth 20000 in
set_option maxHeartbeats 4000000 in
theorem mgroups_any (v1 v2 v3 : Value) (a b c : List En) (w : World) (h1 : ER w v1 a) (h2 : ER w v2 b) (h3 : ER w v3 c) (hl : totE [a, b, c] * 40 ≤ 140737488355328) :
    Calls Try.prog 5 #[v1, v2, v3] w fun e w' => e = .returned (.bool true) ∧ Below w.heap.size w w' := by
  have HX := hide (merge_three v1 v2 v3 a b c w h1 h2 h3 hl)
  have H1 := hide (And.intro h1 (And.intro h2 h3))
  have HT := hide (show totE [a, b] * 40 ≤ 140737488355328 ∧ totE [b, c] * 40 ≤ 140737488355328 ∧ a.length * 40 ≤ 140737488355328 from by
    simp only [totE_cons] at *
    simp only [totE, List.map_nil, List.sum_nil] at *
    omega)
  have HT2 := hide (show a.length + b.length + c.length ≤ 3518437208883 by simp only [totE_cons] at hl; simp only [totE, List.map_nil, List.sum_nil] at hl; omega)
  obtain ⟨p1, c1, rfl, _⟩ := h1.shape
  obtain ⟨p2, c2, rfl, _⟩ := h2.shape
  obtain ⟨p3, c3, rfl, _⟩ := h3.shape
  have hmx : Try.prog.follows .mixedOrders = true := by kernel_rfl
  clear h1 h2 h3 hl
  go_enter Try.func5, Try.ntmps5
  go_wp2_with fail
  refine Calls.mono (unhide HX) ?_
  rintro e w1 ⟨px, kx, rfl, hx, b1⟩
  have HX1 := hide (And.intro hx b1)
  have HAW := hide (fun W => mawake12_any W)
  clear hx b1 HX
  by_cases hz : (mrgR [a, b, c]).2 = 0
  · obtain ⟨hri, hmr⟩ := mrgR_zero hz
    rw [hmr] at HX1 ⊢
    have HRI := hide hri
    clear hz hri hmr
    have hra := unhide HRI a (by simp)
    have hrb := unhide HRI b (by simp)
    have hrc := unhide HRI c (by simp)
    have hsa := (rightE_SE hra).1
    have hsb := (rightE_SE hrb).1
    have hsc := (rightE_SE hrc).1
    have m1 : mrgR [a, b] = (mrgE [a, b], 0) := mrgR_ok (by simp) (by simp [hra, hrb])
    have m2 : mrgR [b, c] = (mrgE [b, c], 0) := mrgR_ok (by simp) (by simp [hrb, hrc])
    have r1 : rightE (mrgE [a, b]) = true := mrg_right_E (by simp [hra, hrb])
    have r2 : rightE (mrgE [b, c]) = true := mrg_right_E (by simp [hrb, hrc])
    have m3 : mrgR [mrgE [a, b], c] = (mrgE [a, b, c], 0) := by rw [mrgR_ok (by simp) (by simp [r1, hrc]), mrg_left hsa hsb hsc]
    have m4 : mrgR [a, mrgE [b, c]] = (mrgE [a, b, c], 0) := by rw [mrgR_ok (by simp) (by simp [r2, hra]), mrg_right hsa hsb hsc]
    have m5 : mrgR [[], a, []] = (a, 0) := by
      have r0 : rightE [] = true := rfl
      rw [mrgR_ok (by simp) (by simp [hra, r0]), mrg_one hsa]
    have hl1 := mrgE_len [a, b]
    have hl2 := mrgE_len [b, c]
    have ht : totE [mrgE [a, b], c] * 40 ≤ 140737488355328 ∧ totE [a, mrgE [b, c]] * 40 ≤ 140737488355328 ∧ totE [[], a, []] * 40 ≤ 140737488355328 := by
      have h := unhide HT2
      simp only [totE_cons] at *
      simp only [totE, List.map_nil, List.sum_nil, List.length_nil] at *
      omega
    have HN := hide (fun (W : World) => show ER W (.slice none 0 0) [] from KRow.nil 4 W)
    have HMM := hide (And.intro m1 (And.intro m2 (And.intro m3 (And.intro m4 m5))))
    have HTT := hide ht
    generalize mrgE [a, b, c] = X at *
    clear hra hrb hrc hsa hsb hsc m1 m2 r1 r2 m3 m4 m5 hl1 hl2 ht HRI
    go_wp2_with fail
    refine Calls.mono (unhide HAW _) ?_
    rintro e w2 ⟨rfl, b2⟩
    have HB2 := hide ((unhide HX1).2.trans (b2.mono (unhide HX1).2.size))
    have HX2 := hide ((unhide HX1).1.below b2)
    have hq := merge_two _ _ a b w2 ((unhide H1).1.below (unhide HB2)) ((unhide H1).2.1.below (unhide HB2)) (unhide HT).1
    rw [(unhide HMM).1] at hq
    have HQ := hide hq
    clear b2 hq
    go_wp2_with fail
    refine Calls.mono (unhide HQ) ?_
    rintro e w3 ⟨pl, kl, rfl, hl3, b3⟩
    have HB3 := hide ((unhide HB2).trans (b3.mono (unhide HB2).size))
    have HX3 := hide (And.intro ((unhide HX2).below b3) hl3)
    have hq := merge_two _ _ b c w3 ((unhide H1).2.1.below (unhide HB3)) ((unhide H1).2.2.below (unhide HB3)) (unhide HT).2.1
    rw [(unhide HMM).2.1] at hq
    have HQ := hide hq
    clear b3 hq hl3
    go_wp2_with fail
    refine Calls.mono (unhide HQ) ?_
    rintro e w4 ⟨pr, kr, rfl, hr4, b4⟩
    have HB4 := hide ((unhide HB3).trans (b4.mono (unhide HB3).size))
    have HX4 := hide (And.intro ((unhide HX3).1.below b4) (And.intro ((unhide HX3).2.below b4) hr4))
    have hq := merge_two _ _ (mrgE [a, b]) c w4 (unhide HX4).2.1 ((unhide H1).2.2.below (unhide HB4)) (unhide HTT).1
    rw [(unhide HMM).2.2.1] at hq
    have HQ := hide hq
    clear b4 hq hr4
    go_wp2_with fail
    refine Calls.mono (unhide HQ) ?_
    rintro e w5 ⟨pp, kp, rfl, hp5, b5⟩
    have HB5 := hide ((unhide HB4).trans (b5.mono (unhide HB4).size))
    have HX5 := hide (And.intro ((unhide HX4).1.below b5) (And.intro ((unhide HX4).2.2.below b5) hp5))
    have hq := merge_two _ _ a (mrgE [b, c]) w5 ((unhide H1).1.below (unhide HB5)) (unhide HX5).2.1 (unhide HTT).2.1
    rw [(unhide HMM).2.2.2.1] at hq
    have HQ := hide hq
    clear b5 hq hp5
    go_wp2_with fail
    refine Calls.mono (unhide HQ) ?_
    rintro e w6 ⟨pq, kq, rfl, hq6, b6⟩
    have HB6 := hide ((unhide HB5).trans (b6.mono (unhide HB5).size))
    have HX6 := hide (And.intro ((unhide HX5).1.below b6) (And.intro ((unhide HX5).2.2.below b6) hq6))
    have hq := merge_three _ _ _ [] a [] w6 (unhide HN w6) ((unhide H1).1.below (unhide HB6)) (unhide HN w6) (unhide HTT).2.2
    rw [(unhide HMM).2.2.2.2] at hq
    have HQ := hide hq
    clear b6 hq hq6
    go_wp2_with fail
    refine Calls.mono (unhide HQ) ?_
    rintro e w7 ⟨po, ko, rfl, ho7, b7⟩
    have HB7 := hide ((unhide HB6).trans (b7.mono (unhide HB6).size))
    have HX7 := hide (And.intro ((unhide HX6).1.below b7) (And.intro ((unhide HX6).2.1.below b7) (And.intro ((unhide HX6).2.2.below b7) (And.intro ho7 ((unhide H1).1.below (unhide HB7))))))
    clear b7 ho7
    have HP1 := hide (eplain_any _ _ X w7 (unhide HX7).1 (unhide HX7).2.1)
    go_wp2_with fail
    refine Calls.mono (unhide HP1) ?_
    rintro e w8 ⟨rfl, b8⟩
    have HB8 := hide ((unhide HB7).trans (b8.mono (unhide HB7).size))
    have HP2 := hide (eplain_any _ _ X w8 ((unhide HX7).1.below b8) ((unhide HX7).2.2.1.below b8))
    have HX8 := hide (And.intro ((unhide HX7).2.2.2.1.below b8) ((unhide HX7).2.2.2.2.below b8))
    clear b8
    go_wp2_with fail
    refine Calls.mono (unhide HP2) ?_
    rintro e w9 ⟨rfl, b9⟩
    have HB9 := hide ((unhide HB8).trans (b9.mono (unhide HB8).size))
    have HP3 := hide (eplain_any _ _ a w9 ((unhide HX8).1.below b9) ((unhide HX8).2.below b9))
    clear b9
    go_wp2_with fail
    refine Calls.mono (unhide HP3) ?_
    rintro e w10 ⟨rfl, b10⟩
    have HB10 := hide ((unhide HB9).trans (b10.mono (unhide HB9).size))
    clear b10
    go_wp2_with fail
    go_ret
    exact ⟨rfl, unhide HB10⟩
  · have hne : ((mrgR [a, b, c]).2 == 0) = false := beq_eq_false_iff_ne.2 hz
    generalize (mrgR [a, b, c]).2 = er at *
    generalize (mrgR [a, b, c]).1 = lx at *
    clear hz
    go_wp2_with fail
    refine Calls.mono (unhide HAW _) ?_
    rintro e w2 ⟨rfl, b2⟩
    have HB2 := hide ((unhide HX1).2.trans (b2.mono (unhide HX1).2.size))
    clear b2
    go_wp2_with fail
    refine Calls.mono (unhide HAW _) ?_
    rintro e w3 ⟨rfl, b3⟩
    have HB3 := hide ((unhide HB2).trans (b3.mono (unhide HB2).size))
    clear b3
    go_wp2_with fail
    go_ret
    exact ⟨rfl, unhide HB3⟩
end Go.Proofs.Ytcjepiihknjeiaa.QH
namespace Go.Proofs.Ytcjepiihknjeiaa
open Go.RowKit QH
theorem walk_MergeGroups (s0 : Value) (d0 : Dt) (s1 : Value) (d1 : Dt) (s2 : Value) (d2 : Dt) (w : World) (h0 : Reads limUpto w (.row 40 enSh) [s0] d0) (h1 : Reads limUpto w (.row 40 enSh) [s1] d1) (h2 : Reads limUpto w (.row 40 enSh) [s2] d2) :
    Calls Try.prog 5 #[s0, s1, s2] w fun e w' => e = .returned (.bool true) ∧ Below w.heap.size w w' := by
  obtain ⟨a, e0, _, l0⟩ := ers_of_reads h0
  obtain ⟨b, e1, _, l1⟩ := ers_of_reads h1
  obtain ⟨c, e2, _, l2⟩ := ers_of_reads h2
  unfold limUpto at l0 l1 l2
  exact mgroups_any s0 s1 s2 a b c w e0 e1 e2 (by simp only [totE_cons]; simp only [totE, List.map_nil, List.sum_nil]; omega)
end Go.Proofs.Ytcjepiihknjeiaa

/- Variables that stand, and one that counts the rounds of a range over a sequence; slices of entries that lay there before. -/
namespace Go.Proofs.Ytcjepiihknjeiaa.QH
open Go.RowKit Go.Shelf

def CtJ (L : List (Nat × Obj)) (Bi : Nat) (vs : List (Value × List En)) (n : Nat) (C : Nat → Prop) (W : World) : Prop :=
  (∀ x ∈ L, W.heap[x.1]? = some x.2) ∧ W.heap[Bi]? = some (.cells #[.int .i64 (n : Int)] 3 (0, 0)) ∧ (∀ x ∈ L, x.1 ≠ Bi) ∧ (∀ k, C k ↔ k ∈ L.map Prod.fst ∨ k = Bi) ∧ ∀ y ∈ vs, ER W y.1 y.2
/-- Where the slices lie. -/
def LowV (vs : List (Value × List En)) (b : Nat) : Prop := ∀ y ∈ vs, ∀ g o c, y.1 = .slice (some ⟨g, o, none⟩) y.2.length c → 0 < y.2.length → g < b
theorem lowV_of {vs : List (Value × List En)} {W : World} (h : ∀ y ∈ vs, ER W y.1 y.2) : LowV vs W.heap.size := fun y hy g o c e hp => by
  obtain ⟨b, o2, c2, e2, _, _, hc⟩ := (h y hy).seen hp
  rw [e] at e2
  simp only [Value.slice.injEq, Option.some.injEq, Addr.mk.injEq] at e2
  obtain ⟨⟨rfl, rfl, _⟩, _⟩ := e2
  exact World.block_lt_of_cell? W _ (hc 0 _ (List.getElem?_eq_getElem hp) W (Below.refl _ _)).1
theorem LowV.from {vs : List (Value × List En)} {b b' : Nat} (h : LowV vs b) (hb : b ≤ b') : LowV vs b' := fun y hy g o c e hp => Nat.lt_of_lt_of_le (h y hy g o c e hp) hb
theorem CtJ.stays {L : List (Nat × Obj)} {Bi n : Nat} {vs : List (Value × List En)} {C G : Nat → Prop} {W W' : World} (h : CtJ L Bi vs n C W) (hk : Keep G W W') (hn : ∀ k, C k → ¬ G k) (hl : ∀ y ∈ vs, ∀ g o c, y.1 = .slice (some ⟨g, o, none⟩) y.2.length c → 0 < y.2.length → ¬ G g) : CtJ L Bi vs n C W' := by
  obtain ⟨h1, h2, h3, h4, h5⟩ := h
  exact ⟨fun x hx => (hk.block _ (Array.getElem?_eq_some_iff.1 (h1 x hx)).1 (hn _ ((h4 _).2 (Or.inl (List.mem_map.2 ⟨x, hx, rfl⟩))))).trans (h1 x hx), (hk.block _ (Array.getElem?_eq_some_iff.1 h2).1 (hn _ ((h4 _).2 (Or.inr rfl)))).trans h2, h3, h4, fun y hy => KRow.keep (h5 y hy) hk (hl y hy)⟩
theorem CtJ.below {L : List (Nat × Obj)} {Bi n : Nat} {vs : List (Value × List En)} {C : Nat → Prop} {W W' : World} (h : CtJ L Bi vs n C W) (hb : Below W.heap.size W W') : CtJ L Bi vs n C W' := h.stays (G := fun _ => False) (Keep.of_below hb) (fun _ _ => id) (fun _ _ _ _ _ _ _ => id)
theorem CtJ.lt {L : List (Nat × Obj)} {Bi n : Nat} {vs : List (Value × List En)} {C : Nat → Prop} {W : World} (h : CtJ L Bi vs n C W) : ∀ k, C k → k < W.heap.size := fun k hc => by
  obtain ⟨h1, h2, h3, h4, h5⟩ := h
  rcases (h4 k).1 hc with h | h
  · obtain ⟨x, hx, rfl⟩ := List.mem_map.1 h
    exact (Array.getElem?_eq_some_iff.1 (h1 x hx)).1
  · rw [h]; exact (Array.getElem?_eq_some_iff.1 h2).1
theorem CtJ.ok {α : Type} (L : List (Nat × Obj)) (Bi : Nat) (vs : List (Value × List En)) (b : Nat) (hl : LowV vs b) (P : List α → Prop) (f : List α → Nat) : SOk b (fun (pre : List α) C W => P pre ∧ CtJ L Bi vs (f pre) C W) :=
  ⟨fun pre C W W' G ⟨h0, h⟩ hk hn hg => ⟨h0, h.stays hk hn (fun y hy g o c e hp hG => by have := hl y hy g o c e hp; have := hg g hG; omega)⟩, fun pre C W ⟨_, h⟩ => h.lt⟩
/-- One more. -/
theorem CtJ.tick {L : List (Nat × Obj)} {Bi n : Nat} {vs : List (Value × List En)} {C : Nat → Prop} {W : World} (h : CtJ L Bi vs n C W) (hl : ∀ y ∈ vs, ∀ g o c, y.1 = .slice (some ⟨g, o, none⟩) y.2.length c → 0 < y.2.length → g ≠ Bi) : CtJ L Bi vs (n + 1) C (W.setCell ⟨Bi, 0, none⟩ (.int .i64 ((n : Int) + 1))) ∧ Moves C C W (W.setCell ⟨Bi, 0, none⟩ (.int .i64 ((n : Int) + 1))) := by
  have h0 := h
  obtain ⟨h1, h2, h3, h4, h5⟩ := h
  have hk := keep_set W Bi 0 (.int .i64 ((n : Int) + 1))
  refine ⟨⟨fun x hx => (hk.block _ (Array.getElem?_eq_some_iff.1 (h1 x hx)).1 (h3 x hx)).trans (h1 x hx), ?_, h3, h4, fun y hy => KRow.keep (h5 y hy) hk (hl y hy)⟩, ⟨hk.weak (fun k e => (h4 k).2 (Or.inr e)), fun k hk => Or.inl hk⟩⟩
  rw [heap_setCell_same W Bi 0 _ _ _ h2, Int.natCast_add]
  rfl
end Go.Proofs.Ytcjepiihknjeiaa.QH
