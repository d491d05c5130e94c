/- Texts of ours, one behind the other: ArTold, ArAR, ArTwo, ArStep, ArStep2, ArStep3, ArStep4. -/
import Derived.Test.YtlbhhdldeaehkaaGreatG5
import Derived.Test.YtlbhhdldeaehkaaGreatG9
import Derived.Test.YtlbhhdldeaehkaaGreatG10
import Derived.Test.YtlbhhdldeaehkaaGreatG21
import Derived.Test.YtlbhhdldeaehkaaGreatG24
import Derived.Test.YtlbhhdldeaehkaaGreatG25
import Derived.Test.YtlbhhdldeaehkaaGreatG27
import Derived.Test.YtlbhhdldeaehkaaGreatG30
import Derived.Test.YtlbhhdldeaehkaaGreatG35
/- The statements' own functions of layer 16: told, what All tells of an arena. -/
namespace Go.Proofs.YtlbhhdldeaehkaaGreat
open Go.RowKit Go.Shelf
attribute [local go_sem] Oper.semAt_some

theorem Tryz.infoObj : (Tryz.prog.info? 66).map (fun i => (i.zero, i.size, i.bytes)) = some (some (.agg #[.int .i64 0, .slice none 0 0, .slice none 0 0]), 3, 56) := by kernel_rfl
/-- An object that was told: its place and head, and where its parts lie. -/
abbrev Tld := (Nat × Int) × Value × Value
def obV (ws : List Int) (L : List Tld) : List Value := L.flatMap fun y => [.int .i64 (wd ws y.1.1 % 16), y.2.1, y.2.2]
/-- The parts of what was told. -/
def PDs (ws : List Int) (L : List Tld) : Ow := fun C W => (∀ k, C k → k < W.heap.size) ∧ ∀ y ∈ L, VRow W y.2.1 (Iw (ptsA ws y.1.1)) ∧ VRow W y.2.2 (Uw (dtA ws y.1.1)) ∧ ∀ k, y.2.1.ownBlock = some k ∨ y.2.2.ownBlock = some k → C k
theorem PDs.ok (ws : List Int) (L : List Tld) : OwOk (PDs ws L) where
  stays := fun C W W' G ⟨h1, h2⟩ hk hn => ⟨fun k hc => Nat.lt_of_lt_of_le (h1 k hc) hk.size, fun y hy => by
    obtain ⟨a, b, c⟩ := h2 y hy
    exact ⟨a.keep hk (fun b off cc e _ => hn b (c b (Or.inl (by rw [e]; rfl)))), b.keep hk (fun b off cc e _ => hn b (c b (Or.inr (by rw [e]; rfl)))), c⟩⟩
  lt := fun _ _ h => h.1
def ToldI (ws : List Int) (B1 B2 : Nat) (pre : List (Nat × Int)) : Ow := fun C W => ∃ L : List Tld, L.map Prod.fst = pre ∧
  Star (GR B1 32 3 1 pre.length (plV pre)) (Star (GR B2 77 66 3 pre.length (obV ws L)) (PDs ws L)) C W
theorem ToldI.ok (ws : List Int) (B1 B2 : Nat) (pre : List (Nat × Int)) : OwOk (ToldI ws B1 B2 pre) where
  stays := fun C W W' G ⟨L, h1, h2⟩ hk hn => ⟨L, h1, (Star.ok (GR.ok ..) (Star.ok (GR.ok ..) (PDs.ok ..))).stays C W W' G h2 hk hn⟩
  lt := fun C W ⟨L, _, h2⟩ => (Star.ok (GR.ok ..) (Star.ok (GR.ok ..) (PDs.ok ws L))).lt C W h2

/-- What is told, laid into a variable of the round's own. -/
def LocO (ws : List Int) (B9 : Nat) (y : Tld) : Ow := fun C W => W.heap[B9]? = some (.cells #[.int .i64 (wd ws y.1.1 % 16), y.2.1, y.2.2] 66 (0, 0)) ∧ PDs ws [y] C W ∧ C B9
theorem LocO.ok (ws : List Int) (B9 : Nat) (y : Tld) : OwOk (LocO ws B9 y) where
  stays := fun C W W' G ⟨h1, h2, h3⟩ hk hn => ⟨(hk.block B9 (Array.getElem?_eq_some_iff.1 h1).1 (hn B9 h3)).trans h1, (PDs.ok ws [y]).stays C W W' G h2 hk hn, h3⟩
  lt := fun _ _ ⟨_, h2, _⟩ => h2.1
theorem told_more {ws : List Int} {B1 B2 B9 : Nat} {pre : List (Nat × Int)} {y : Tld} {C C1 C2 C11 C12 C21 C22 : Nat → Prop} {X Xi X8 : World} {v1 v2 u3 u7 : Value} {L : List Tld}
    (hL : L.map Prod.fst = pre) (k1 : X.heap[B1]? = some (.cells #[v1] 32 (0, 0))) (k2 : X.ownsRow 0 3 1 v1 pre.length (plV pre)) (k3 : v1.ownBlock ≠ some B1) (k4 : ∀ k, C11 k ↔ VF B1 v1 k)
    (m1 : X.heap[B2]? = some (.cells #[v2] 77 (0, 0))) (m2 : X.ownsRow 0 66 3 v2 pre.length (obV ws L)) (m3 : v2.ownBlock ≠ some B2) (m4 : ∀ k, C21 k ↔ VF B2 v2 k)
    (hpd : PDs ws L C22 X) (hd2 : ∀ k, C21 k → ¬ C22 k) (hC2 : ∀ k, C12 k ↔ C21 k ∨ C22 k) (hd1 : ∀ k, C11 k → ¬ C12 k) (hC1 : ∀ k, C1 k ↔ C11 k ∨ C12 k)
    (hloc : LocO ws B9 y C2 X) (hdis : ∀ k, C1 k → ¬ C2 k) (hCC : ∀ k, C k ↔ C1 k ∨ C2 k)
    (K : Keep (fun k => v1.ownBlock = some k) X Xi) (r3 : Xi.ownsRow 0 3 1 u3 (pre.length + 1) (plV (pre ++ [y.1]))) (b3 : u3.ownBlock = v1.ownBlock ∨ ∀ k, u3.ownBlock = some k → X.heap.size ≤ k)
    (r7 : X8.ownsRow 0 66 3 u7 (pre.length + 1) (obV ws (L ++ [y]))) (g7 : Xi.grownBy X8 v2.ownBlock) (b7 : u7.ownBlock = v2.ownBlock ∨ u7.ownBlock = some Xi.heap.size) :
    ∃ C', ToldI ws B1 B2 (pre ++ [y.1]) C' ((X8.setCell ⟨B1, 0, none⟩ u3).setCell ⟨B2, 0, none⟩ u7) ∧ Moves C C' X ((X8.setCell ⟨B1, 0, none⟩ u3).setCell ⟨B2, 0, none⟩ u7) := by
  have lB1 := (Array.getElem?_eq_some_iff.1 k1).1
  have lB2 := (Array.getElem?_eq_some_iff.1 m1).1
  have lv1 : ∀ k, v1.ownBlock = some k → k < X.heap.size := fun k hk => (k2.lt k hk).2
  have lv2 : ∀ k, v2.ownBlock = some k → k < X.heap.size := fun k hk => (m2.lt k hk).2
  have lu3 : ∀ k, u3.ownBlock = some k → k < Xi.heap.size := fun k hk => (r3.lt k hk).2
  have c11 : ∀ k, C11 k → C1 k ∧ ¬ C21 k ∧ ¬ C22 k ∧ ¬ C2 k := fun k hk => ⟨(hC1 k).2 (Or.inl hk), fun h => hd1 k hk ((hC2 k).2 (Or.inl h)), fun h => hd1 k hk ((hC2 k).2 (Or.inr h)), hdis k ((hC1 k).2 (Or.inl hk))⟩
  have c21 : ∀ k, C21 k → C1 k ∧ ¬ C22 k ∧ ¬ C2 k := fun k hk => ⟨(hC1 k).2 (Or.inr ((hC2 k).2 (Or.inl hk))), hd2 k hk, hdis k ((hC1 k).2 (Or.inr ((hC2 k).2 (Or.inl hk))))⟩
  have vB1 : C11 B1 := (k4 B1).2 (Or.inl rfl)
  have vB2 : C21 B2 := (m4 B2).2 (Or.inl rfl)
  have vv1 : ∀ k, v1.ownBlock = some k → C11 k := fun k hk => (k4 k).2 (Or.inr hk)
  have vv2 : ∀ k, v2.ownBlock = some k → C21 k := fun k hk => (m4 k).2 (Or.inr hk)
  have K7 := grown_keep g7
  have hs := K.size
  have hs7 := K7.size
  have n12 : B1 ≠ B2 := fun e => (c11 B1 vB1).2.1 (e ▸ vB2)
  have nu3 : ∀ k, u3.ownBlock = some k → C11 k ∨ X.heap.size ≤ k := fun k hk => by
    rcases b3 with e | e
    · exact Or.inl (vv1 k (e ▸ hk))
    · exact Or.inr (e k hk)
  have nu7 : ∀ k, u7.ownBlock = some k → C21 k ∨ Xi.heap.size ≤ k := fun k hk => by
    rcases b7 with e | e
    · exact Or.inl (vv2 k (e ▸ hk))
    · rw [e] at hk; simp only [Option.some.injEq] at hk; exact Or.inr (by omega)
  have nu3B : ∀ k, u3.ownBlock = some k → k ≠ B1 ∧ k ≠ B2 ∧ v2.ownBlock ≠ some k := fun k hk => by
    refine ⟨fun e => ?_, fun e => ?_, fun e => ?_⟩
    · rcases b3 with e3 | e3
      · exact k3 (by rw [← e3, hk, e])
      · have := e3 k hk; omega
    · rcases nu3 k hk with h | h
      · exact (c11 k h).2.1 (e ▸ vB2)
      · omega
    · rcases nu3 k hk with h | h
      · exact (c11 k h).2.1 (vv2 k e)
      · have := lv2 k e; omega
  have nu7B : ∀ k, u7.ownBlock = some k → k ≠ B1 ∧ k ≠ B2 := fun k hk => by
    refine ⟨fun e => ?_, fun e => ?_⟩
    · rcases nu7 k hk with h | h
      · exact (c11 B1 vB1).2.1 (e ▸ h)
      · omega
    · rcases b7 with e7 | e7
      · exact m3 (by rw [← e7, hk, e])
      · rw [e7] at hk; simp only [Option.some.injEq] at hk; omega
  have S1 := keep_set X8 B1 0 u3
  have S2 := keep_set (X8.setCell ⟨B1, 0, none⟩ u3) B2 0 u7
  have S12 : Keep (fun k => k = B1 ∨ k = B2) X8 ((X8.setCell ⟨B1, 0, none⟩ u3).setCell ⟨B2, 0, none⟩ u7) := (S1.weak (fun _ h => Or.inl h)).trans S2 (fun k h => Or.inl (Or.inr h))
  have KK : Keep (fun k => v1.ownBlock = some k ∨ v2.ownBlock = some k) X X8 := (K.weak (fun _ h => Or.inl h)).trans K7 (fun k h => Or.inl (Or.inr h))
  have KA : Keep (fun k => C11 k ∨ C21 k) X ((X8.setCell ⟨B1, 0, none⟩ u3).setCell ⟨B2, 0, none⟩ u7) :=
    (KK.weak (fun k h => h.elim (fun h => Or.inl (vv1 k h)) (fun h => Or.inr (vv2 k h)))).trans S12 (fun k h => Or.inl (h.elim (fun e => Or.inl (e ▸ vB1)) (fun e => Or.inr (e ▸ vB2))))
  -- the two variables
  have b1 := (KK.block B1 lB1 (fun h => h.elim (fun e => k3 e) (fun e => (c11 B1 vB1).2.1 (vv2 B1 e)))).trans k1
  have b2 := (KK.block B2 lB2 (fun h => h.elim (fun e => (c11 B2 (vv1 B2 e)).2.1 vB2) (fun e => m3 e))).trans m1
  have s1 := heap_setCell_same X8 B1 0 _ _ u3 b1
  have e1 := (S2.block B1 (Array.getElem?_eq_some_iff.1 s1).1 n12).trans s1
  have b2' := (S1.block B2 (Array.getElem?_eq_some_iff.1 b2).1 (Ne.symm n12)).trans b2
  have e2 := heap_setCell_same _ B2 0 _ _ u7 b2'
  -- the rows
  have r3' := ownsV_keep (ownsV_keep r3 K7 (fun k hk => (nu3B k hk).2.2)) S12 (fun k hk h => h.elim (nu3B k hk).1 (nu3B k hk).2.1)
  have r7' := ownsV_keep r7 S12 (fun k hk h => h.elim (nu7B k hk).1 (nu7B k hk).2)
  obtain ⟨hb9, hp9, hc9⟩ := hloc
  have q1 := (PDs.ok ws L).stays _ _ _ _ hpd KA (fun k hk h => h.elim (fun h => (c11 k h).2.2.1 hk) (fun h => (c21 k h).2.1 hk))
  have q2 := (PDs.ok ws [y]).stays _ _ _ _ hp9 KA (fun k hk h => h.elim (fun h => (c11 k h).2.2.2 hk) (fun h => (c21 k h).2.2 hk))
  have lC22 : ∀ k, C22 k → k < X.heap.size := hpd.1
  have lC2 : ∀ k, C2 k → k < X.heap.size := hp9.1
  have u3n : ∀ k, VF B1 u3 k → C11 k ∨ X.heap.size ≤ k := fun k hk => hk.elim (fun e => Or.inl (e ▸ vB1)) (nu3 k)
  have u7n : ∀ k, VF B2 u7 k → C21 k ∨ Xi.heap.size ≤ k := fun k hk => hk.elim (fun e => Or.inl (e ▸ vB2)) (nu7 k)
  refine ⟨fun k => VF B1 u3 k ∨ (VF B2 u7 k ∨ (C22 k ∨ C2 k)), ⟨L ++ [y], by simp [hL], _, _, ⟨u3, by rw [e1]; rfl, ?_, fun h => (nu3B B1 h).1 rfl, fun _ => Iff.rfl⟩, ⟨VF B2 u7, fun k => C22 k ∨ C2 k, ⟨u7, by rw [e2]; rfl, ?_, fun h => (nu7B B2 h).2 rfl, fun _ => Iff.rfl⟩, ⟨fun k hk => ?_, fun z hz => ?_⟩, fun k hk h => ?_, fun _ => Iff.rfl⟩, fun k hk h => ?_, fun _ => Iff.rfl⟩, ⟨KA.weak (fun k h => (hCC k).2 (Or.inl (h.elim (fun h => (c11 k h).1) (fun h => (c21 k h).1)))), fun k hk => ?_⟩⟩
  · rw [List.length_append]; exact r3'
  · rw [List.length_append]; exact r7'
  · have := KA.size
    rcases hk with hk | hk
    · exact Nat.lt_of_lt_of_le (lC22 k hk) this
    · exact Nat.lt_of_lt_of_le (lC2 k hk) this
  · rcases List.mem_append.1 hz with hz | hz
    · obtain ⟨t1, t2, t3⟩ := q1.2 z hz
      exact ⟨t1, t2, fun k hk => Or.inl (t3 k hk)⟩
    · obtain ⟨t1, t2, t3⟩ := q2.2 z hz
      exact ⟨t1, t2, fun k hk => Or.inr (t3 k hk)⟩
  · rcases u7n k hk with hk | hk
    · exact h.elim (c21 k hk).2.1 (c21 k hk).2.2
    · rcases h with h | h
      · have := lC22 k h; omega
      · have := lC2 k h; omega
  · rcases u3n k hk with h1 | h1
    · rcases h with h | h | h
      · rcases u7n k h with h | h
        · exact (c11 k h1).2.1 h
        · have : k < X.heap.size := by
            rcases (k4 k).1 h1 with e | e
            · omega
            · exact lv1 k e
          omega
      · exact (c11 k h1).2.2.1 h
      · exact (c11 k h1).2.2.2 h
    · have hk3 : k < Xi.heap.size := by
        rcases hk with e | e
        · omega
        · exact lu3 k e
      rcases h with h | h | h
      · rcases u7n k h with h | h
        · have : k < X.heap.size := by
            rcases (m4 k).1 h with e | e
            · omega
            · exact lv2 k e
          omega
        · omega
      · have := lC22 k h; omega
      · have := lC2 k h; omega
  · rcases hk with hk | hk | hk | hk
    · rcases u3n k hk with h | h
      · exact Or.inl ((hCC k).2 (Or.inl (c11 k h).1))
      · exact Or.inr h
    · rcases u7n k hk with h | h
      · exact Or.inl ((hCC k).2 (Or.inl (c21 k h).1))
      · exact Or.inr (by omega)
    · exact Or.inl ((hCC k).2 (Or.inl ((hC1 k).2 (Or.inr ((hC2 k).2 (Or.inr hk))))))
    · exact Or.inl ((hCC k).2 (Or.inr hk))

/-- The objects that are told. -/
def obsA (ws : List Int) : List Ob := (obs ws 1).map fun x => (wd ws x.1 % 16, ptsA ws x.1, dtA ws x.1)

theorem obV_get (ws : List Int) : ∀ (L : List Tld) (j : Nat) (h : j < L.length), (obV ws L)[j * 3]? = some (.int .i64 (wd ws L[j].1.1 % 16)) ∧ (obV ws L)[j * 3 + 1]? = some L[j].2.1 ∧ (obV ws L)[j * 3 + 2]? = some L[j].2.2
  | y :: L, 0, _ => ⟨rfl, rfl, rfl⟩
  | y :: L, j + 1, h => by
    have ih := obV_get ws L j (by simpa using h)
    have e : obV ws (y :: L) = [.int .i64 (wd ws y.1.1 % 16), y.2.1, y.2.2] ++ obV ws L := rfl
    rw [e, show (j + 1) * 3 = j * 3 + 3 by omega, List.getElem?_append_right (by simp), List.getElem?_append_right (by simp only [List.length_cons, List.length_nil]; omega), List.getElem?_append_right (by simp only [List.length_cons, List.length_nil]; omega)]
    simp only [List.length_cons, List.length_nil, Nat.zero_add, Nat.reduceAdd, List.getElem_cons_succ]
    rw [show j * 3 + 3 - 3 = j * 3 by omega, show j * 3 + 3 + 1 - 3 = j * 3 + 1 by omega, show j * 3 + 3 + 2 - 3 = j * 3 + 2 by omega]
    exact ih
theorem ol_told {ws : List Int} {W : World} {v : Value} {L : List Tld} {C : Nat → Prop} (hL : L.map Prod.fst = obs ws 1) (hown : W.ownsRow 0 66 3 v L.length (obV ws L)) (hp : PDs ws L C W) : OL W v (obsA ws) := by
  have hlen : (obsA ws).length = L.length := by unfold obsA; rw [List.length_map, ← hL, List.length_map]
  rcases hown.2 with ⟨rfl, h0⟩ | ⟨g, cap, cur, rfl, _⟩
  · exact ⟨none, 0, by rw [hlen, h0], Or.inl (List.eq_nil_of_length_eq_zero (by rw [hlen, h0]))⟩
  · refine ⟨some ⟨g, 0, none⟩, cap, by rw [hlen], Or.inr ⟨g, 0, rfl, fun j hj => ?_⟩⟩
    have hj' : j < L.length := by rw [← hlen]; exact hj
    obtain ⟨h1, h2, h3⟩ := obV_get ws L j hj'
    obtain ⟨r1, r2, _⟩ := hp.2 L[j] (List.getElem_mem hj')
    obtain ⟨a1, c1, e1, _⟩ := r1.shape
    obtain ⟨a2, c2, e2, _⟩ := r2.shape
    have q1 := hown.cells (g := g) rfl _ _ h1
    have q2 := hown.cells (g := g) rfl _ _ h2
    have q3 := hown.cells (g := g) rfl _ _ h3
    rw [Addr.add_lit] at q1 q2 q3
    rw [e1] at q2 r1
    rw [e2] at q3 r2
    have he : (obsA ws)[j] = (wd ws L[j].1.1 % 16, ptsA ws L[j].1.1, dtA ws L[j].1.1) := by
      have h5 : (obs ws 1)[j]'(by rw [← hL, List.length_map]; exact hj') = L[j].1 := by
        simp only [← hL, List.getElem_map]
      have h6 : ∀ (x : Ob), (obsA ws)[j]? = some x → (obsA ws)[j] = x := fun x hx => by rw [List.getElem?_eq_getElem hj] at hx; exact Option.some.inj hx
      refine h6 _ ?_
      unfold obsA
      rw [List.getElem?_map, List.getElem?_eq_getElem (by rw [← hL, List.length_map]; exact hj'), h5]
      rfl
    rw [he]
    exact ⟨_, _, _, _, _, _, q1, by rw [← Nat.add_assoc] at q2; exact q2, by rw [← Nat.add_assoc] at q3; exact q3, r1, r2⟩

set_option maxRecDepth 20000 in
set_option maxHeartbeats 2000000 in
theorem told16_any (a : Value) (ws : List Int) (w : World) (hU : U32 ws) (hl : ws.length ≤ 1048576) (hall : Calls Tryz.prog 68 #[a] w fun e w' => AllD w.heap.size ws e w' ∧ Below w.heap.size w w') :
    Calls Tryz.prog 38 #[a] w fun e w' => ∃ v vo, e = .returned (.tuple #[v, vo, .bool true]) ∧ VRow w' v (plV (obs ws 1)) ∧ OL w' vo (obsA ws) ∧ Below w.heap.size w w' := by
  refine (callsIn_wide (n := 5)).1 ?_
  refine callsIn_of_wp_marks Tryz.func38 rfl trivial ?_ rfl
  simp only [Tryz.ntmps38, List.size_toArray, List.length_cons, List.length_nil, Nat.reduceAdd, Nat.reduceSub, Array.replicate_succ, Array.replicate_zero, List.push_toArray, List.append_toArray, List.nil_append, List.cons_append]
  obtain ⟨ii, hii, hi0, hi1, hi2⟩ := info_parts Tryz.infoInt
  obtain ⟨io, hio, ho0, ho1, ho2⟩ := info_parts Tryz.infoObj
  have HU := hide hU
  have HL := hide hl
  have HALL := hide hall
  clear hU hl hall
  gi_wp2_with fail
  refine ⟨trivial, (callsIn_wide.2 (unhide HALL)).mono ?_⟩
  rintro e w1 ⟨⟨B, v, rfl, hB1, hB2, hcell, hrow, hown⟩, b1⟩
  have hnil : ∀ w, (binOp .eql 108 (.func (.func 89) #[] #[.pointer (some ⟨B, 0, none⟩)]) .nilFunc).run Tryz.prog w = .ok (.bool false) w := fun _ => by kernel_rfl
  have HV := hide (And.intro hB1 (And.intro hB2 (And.intro hcell (And.intro hrow hown))))
  have HB1 := hide b1
  clear hB1 hB2 hcell hrow hown b1
  obtain ⟨W2, hW2⟩ : ∃ W2, (w1.alloc (.cells #[.slice none 0 0] 32)).alloc (.cells #[.slice none 0 0] 77) = W2 := ⟨_, rfl⟩
  have HB2 : Hid (Below w1.heap.size w1 W2) := by unfold Hid; rw [← hW2]; exact ((Below.refl _ w1).alloc (Nat.le_refl _) _).alloc (by simp) _
  have HSZ : Hid (W2.heap.size = w1.heap.size + 2) := by unfold Hid; rw [← hW2]; simp
  have HST : Hid (ToldI ws w1.heap.size (w1.heap.size + 1) [] (fun k => VF w1.heap.size (.slice none 0 0) k ∨ (VF (w1.heap.size + 1) (.slice none 0 0) k ∨ False)) W2) := by
    unfold Hid
    rw [← hW2]
    have h1 : ((w1.alloc (.cells #[.slice none 0 0] 32)).alloc (.cells #[.slice none 0 0] 77)).heap[w1.heap.size]? = some (.cells #[.slice none 0 0] 32 (0, 0)) := (Below.heap_alloc _ _ _ (by simp)).trans (World.alloc_heap_new w1 _)
    have h2 : ((w1.alloc (.cells #[.slice none 0 0] 32)).alloc (.cells #[.slice none 0 0] 77)).heap[w1.heap.size + 1]? = some (.cells #[.slice none 0 0] 77 (0, 0)) := by
      have := World.alloc_heap_new (w1.alloc (.cells #[.slice none 0 0] 32)) (.cells #[.slice none 0 0] 77)
      rwa [World.size_alloc] at this
    refine ⟨[], rfl, _, _, ⟨_, h1, World.ownsRow_nil _ _ _ _, (by simp [Value.ownBlock]), fun _ => Iff.rfl⟩, ⟨_, fun _ => False, ⟨_, h2, World.ownsRow_nil _ _ _ _, (by simp [Value.ownBlock]), fun _ => Iff.rfl⟩, ⟨fun _ h => h.elim, fun y hy => by cases hy⟩, fun _ _ h => h, fun _ => Iff.rfl⟩, fun k hk hk2 => ?_, fun _ => Iff.rfl⟩
    rcases hk with hk | hk
    · rcases hk2 with (h | h) | h
      · omega
      · cases h
      · exact h
    · cases hk
  have HW2 := hide hW2
  clear hW2
  gi_wp2_with fail
  rw [unhide HW2]
  clear HW2
  refine wpIn_seqGR (C0 := fun k => VF w1.heap.size (.slice none 0 0) k ∨ (VF (w1.heap.size + 1) (.slice none 0 0) k ∨ False)) (aall_seq B v ws (unhide HU) (unhide HL)) rfl (fun _ _ => by kernel_rfl) (fun _ _ _ _ h => by obtain ⟨p, d, rfl, _⟩ := h; rfl)
    (ToldI ws w1.heap.size (w1.heap.size + 1)) (fun _ _ _ _ => False) (OwOk.sok (ToldI.ok ws _ _) _) (fun _ => SOk.none _) (unhide HST) ?data ?apart ?round ?done ?stop
  case data =>
    intro X hb
    obtain ⟨h1, h2, h3, h4, h5⟩ := unhide HV
    have hb' : Below w1.heap.size w1 X := (unhide HB2).trans (hb.mono (unhide HB2).size)
    exact ⟨(hb'.cell (p := ⟨B, 0, none⟩) h2).trans h3, h4.below hb'⟩
  case apart =>
    intro k hk
    obtain ⟨h1, h2, h3, h4, h5⟩ := unhide HV
    have hsz := unhide HSZ
    have hv : (VF w1.heap.size (.slice none 0 0) k ∨ (VF (w1.heap.size + 1) (.slice none 0 0) k ∨ False)) ↔ k = w1.heap.size ∨ k = w1.heap.size + 1 := by simp [VF, Value.ownBlock]
    rw [hv]
    rcases hk with rfl | ⟨hne, hk⟩
    · exact ⟨by omega, by omega⟩
    · have := h5 k hk
      exact ⟨by omega, by omega⟩
  case round =>
    rintro l pre ⟨q, h⟩ rest C W W3 vs hZ hi hm hb3 ⟨p, d, rfl, o1, o2⟩
    have HP := hide (And.intro o1 o2)
    have HI := hide hi
    have HZ := hide hZ
    have hmx : Tryz.prog.follows .mixedOrders = true := by kernel_rfl
    obtain ⟨pp, pc, rfl⟩ := ownsV_shape o1
    obtain ⟨dp, dc, rfl⟩ := ownsV_shape o2
    obtain ⟨W5, hW5⟩ : ∃ W5, W3.alloc (.cells #[.int .i64 (wd ws q % 16), .slice pp (ptsA ws q).length pc, .slice dp (dtA ws q).length dc] 66) = W5 := ⟨_, rfl⟩
    have hb5 : Below W.heap.size W W5 := by rw [← hW5]; exact hb3.trans (((Below.refl _ W3).alloc (Nat.le_refl _) _).mono hb3.size)
    have h9 : W5.heap[W3.heap.size]? = some (.cells #[.int .i64 (wd ws q % 16), .slice pp (ptsA ws q).length pc, .slice dp (dtA ws q).length dc] 66 (0, 0)) := by rw [← hW5]; exact World.alloc_heap_new _ _
    have hb35 : Below W3.heap.size W3 W5 := by rw [← hW5]; exact (Below.refl _ W3).alloc (Nat.le_refl _) _
    have HB5 := hide (And.intro hb3 (And.intro hb5 (And.intro h9 hb35)))
    clear hZ hi hm o1 o2 hb5 h9 hb35
    gi_wp2_with fail
    obtain ⟨hb3, hb5, h9, hb35⟩ := unhide HB5
    obtain ⟨o1, o2⟩ := unhide HP
    have hs3 := hb3.size
    have HLO : LocO ws W3.heap.size ((q, h), .slice pp (ptsA ws q).length pc, .slice dp (dtA ws q).length dc) (fun k => k = W3.heap.size ∨ (.slice pp (ptsA ws q).length pc : Value).ownBlock = some k ∨ (.slice dp (dtA ws q).length dc : Value).ownBlock = some k) W5 := by
      refine ⟨h9, ⟨fun k hk => ?_, fun y hy => ?_⟩, Or.inl rfl⟩
      · have h9l := (Array.getElem?_eq_some_iff.1 h9).1
        rcases hk with rfl | hk | hk
        · exact h9l
        · have := (o1.lt k hk).2; omega
        · have := (o2.lt k hk).2; omega
      · obtain rfl := List.mem_singleton.1 hy
        exact ⟨(ownsV_row o1 (by simp)).below hb35, (ownsV_row o2 (by simp)).below hb35, fun k hk => Or.inr hk⟩
    obtain ⟨hst, hmv⟩ := Star.new (ToldI.ok ws w1.heap.size (w1.heap.size + 1) pre) (unhide HI) hb5 HLO (fun k hk => by
      rcases hk with rfl | hk | hk
      · exact hs3
      · exact (o1.lt k hk).1
      · exact (o2.lt k hk).1)
    refine ⟨Star (ToldI ws w1.heap.size (w1.heap.size + 1) pre) (LocO ws W3.heap.size ((q, h), .slice pp (ptsA ws q).length pc, .slice dp (dtA ws q).length dc)), OwOk.sok (fun _ => Star.ok (ToldI.ok ..) (LocO.ok ..)) _, _, hst, hmv, fun X hX _ => ?_⟩
    clear hst hmv HLO hb3 hb5 h9 hb35 o1 o2 hs3
    have HXX := hide hX
    obtain ⟨C1, C2, ⟨L, hL, C11, C12, ⟨v1, k1, k2, k3, k4⟩, ⟨C21, C22, ⟨v2, m1, m2, m3, m4⟩, hpd, hd2, hC2⟩, hd1, hC1⟩, hloc, hdis, hCC⟩ := hX
    have hLl : L.length = pre.length := by rw [← hL, List.length_map]
    have hplen : pre.length < 1048576 := by
      have h1 := obs_len ws
      rw [unhide HZ] at h1
      have := unhide HL
      simp at h1
      omega
    obtain ⟨p1, n1, rfl⟩ := ownsV_shape k2
    obtain ⟨p2, n2, rfl⟩ := ownsV_shape m2
    have HF := hide (fun (Xi X8 : World) (u3 u7 : Value) K r3 b3 r7 g7 b7 => told_more (y := ((q, h), .slice pp (ptsA ws q).length pc, .slice dp (dtA ws q).length dc)) (Xi := Xi) (X8 := X8) (u3 := u3) (u7 := u7) hL k1 k2 k3 k4 m1 m2 m3 m4 hpd hd2 hC2 hd1 hC1 hloc hdis hCC K r3 b3 r7 g7 b7)
    have HK12 := hide (And.intro k1 (And.intro k2 (And.intro k3 (And.intro m1 (And.intro m2 (And.intro m3 hloc.1))))))
    have HD12 : Hid ((∀ k, (.slice p1 pre.length n1 : Value).ownBlock = some k → k ≠ w1.heap.size + 1 ∧ k ≠ W3.heap.size ∧ (.slice p2 pre.length n2 : Value).ownBlock ≠ some k) ∧ (∀ k, (.slice p2 pre.length n2 : Value).ownBlock = some k → k ≠ w1.heap.size)) := by
      refine ⟨fun k hk => ?_, fun k hk e => ?_⟩
      · have hc := (k4 k).2 (Or.inr hk)
        refine ⟨fun e => ?_, fun e => ?_, fun e => ?_⟩
        · exact hd1 k hc ((hC2 k).2 (Or.inl ((m4 k).2 (Or.inl e))))
        · exact hdis k ((hC1 k).2 (Or.inl hc)) (e ▸ hloc.2.2)
        · exact hd1 k hc ((hC2 k).2 (Or.inl ((m4 k).2 (Or.inr e))))
      · exact hd1 k ((k4 k).2 (Or.inl e)) ((hC2 k).2 (Or.inl ((m4 k).2 (Or.inr hk))))
    have HPL := hide (And.intro hLl hplen)
    clear k1 k2 k3 k4 m1 m2 m3 m4 hpd hd2 hC2 hd1 hC1 hloc hdis hCC hL hLl hplen
    gi_wp2_with fail
    refine region_actsW 7 (fun i => i == 2 || i == 3 || i == 6) (fun s u Xi => Keep (fun k => (.slice p1 pre.length n1 : Value).ownBlock = some k) X Xi ∧
      (s 2 = true → ∃ x2, u 2 = .slice (some ⟨x2, 0, none⟩) 1 1 ∧ X.heap.size ≤ x2 ∧ Xi.heap[x2]? = some (.cells #[.int .i64 (q : Int)] 3 (0, 0))) ∧
      (s 3 = false → Xi.ownsRow 0 3 1 (.slice p1 pre.length n1) pre.length (plV pre)) ∧
      (s 3 = true → Xi.ownsRow 0 3 1 (u 3) (pre.length + 1) (plV (pre ++ [(q, h)])) ∧ ((u 3).ownBlock = (.slice p1 pre.length n1 : Value).ownBlock ∨ ∀ k, (u 3).ownBlock = some k → X.heap.size ≤ k)) ∧
      (s 6 = true → ∃ x6, u 6 = .slice (some ⟨x6, 0, none⟩) 1 1 ∧ X.heap.size ≤ x6 ∧ Xi.heap[x6]? = some (.cells #[.int .i64 (wd ws q % 16), .slice pp (ptsA ws q).length pc, .slice dp (dtA ws q).length dc] 66 (0, 0)))) hmx (by kernel_rfl) (by simp) ?hlo ?i0 ?_
    case hlo => rintro ⟨a5, w5, h5⟩; exact h5
    case i0 =>
      obtain ⟨_, k2, _, _⟩ := unhide HK12
      exact ⟨Keep.of_below ((Below.refl _ X).drew), fun h => (by cases h), fun _ => ownsV_keep (F := fun _ => False) k2 (Keep.of_below ((Below.refl _ X).drew)) (fun _ _ => id), fun h => (by cases h), fun h => (by cases h)⟩
    have HC := hide (fun (Xi : World) (hk : Keep (fun k => (.slice p1 pre.length n1 : Value).ownBlock = some k) X Xi) => show Xi.cell? ⟨w1.heap.size, 0, none⟩ = some (.slice p1 pre.length n1) ∧ Xi.cell? ⟨w1.heap.size + 1, 0, none⟩ = some (.slice p2 pre.length n2) ∧ Xi.cell? ⟨W3.heap.size, 0, none⟩ = some (.int .i64 (wd ws q % 16)) ∧ Xi.cell? ⟨W3.heap.size, 1, none⟩ = some (.slice pp (ptsA ws q).length pc) ∧ Xi.cell? ⟨W3.heap.size, 2, none⟩ = some (.slice dp (dtA ws q).length dc) from by
      obtain ⟨k1, k2, k3, m1, m2, m3, m9⟩ := unhide HK12
      obtain ⟨d1, d2⟩ := unhide HD12
      have e1 := (hk.block _ (Array.getElem?_eq_some_iff.1 k1).1 k3).trans k1
      have e2 := (hk.block _ (Array.getElem?_eq_some_iff.1 m1).1 (fun h => (d1 _ h).1 rfl)).trans m1
      have e9 := (hk.block _ (Array.getElem?_eq_some_iff.1 m9).1 (fun h => (d1 _ h).2.1 rfl)).trans m9
      obtain ⟨z0, z1, z2, _⟩ := three_cells e9
      exact ⟨by rw [cell_of_row _ _ _ _ _ (0, 0) e1]; rfl, by rw [cell_of_row _ _ _ _ _ (0, 0) e2]; rfl, z0, z1, z2⟩)
    intro u
    simp only [List.take_succ_cons, List.take_zero]
    -- the list's row
    refine lexM_still (.slice p1 pre.length n1) rfl (by kernel_rfl) (fun s u Xi hi => ?_) ?_
    · obtain ⟨z1, z2, z3, z4, z5⟩ := unhide HC Xi hi.1
      go_simp
    simp only [Act.put, List.setIfInBounds_toArray, List.set_cons_zero, List.set_cons_succ]
    refine lexM_still (.int .i64 (q : Int)) rfl (by kernel_rfl) (fun s u Xi hi => ?_) ?_
    · go_simp
    simp only [Act.put, List.setIfInBounds_toArray, List.set_cons_zero, List.set_cons_succ]
    refine lexM_act (k := 2) rfl (by kernel_rfl) (fun s Xi hs hd hi => ?_) ?_
    · go_simp
      obtain ⟨hk, h2, h3f, h3t, h6⟩ := hi
      have hb : Below Xi.heap.size Xi (Xi.alloc (.cells #[.int .i64 (q : Int)] 3)) := (Below.refl _ _).alloc (Nat.le_refl _) _
      refine actUpon_value ?_
      rw [upd_at, upd_ne (show (3 : Nat) ≠ 2 by decide), upd_ne (show (6 : Nat) ≠ 2 by decide), upd_at, upd_ne (show (3 : Nat) ≠ 2 by decide), upd_ne (show (6 : Nat) ≠ 2 by decide)]
      refine ⟨hk.trans (Keep.of_below hb) (fun k h => Or.inl h), fun _ => ⟨Xi.heap.size, rfl, hk.size, World.alloc_heap_new _ _⟩, fun h => ownsV_keep (F := fun _ => False) (h3f h) (Keep.of_below hb) (fun _ _ => id), fun h => ⟨ownsV_keep (F := fun _ => False) (h3t h).1 (Keep.of_below hb) (fun _ _ => id), (h3t h).2⟩, fun h => ?_⟩
      obtain ⟨x6, e1, e2, e3⟩ := h6 h
      exact ⟨x6, e1, e2, (hb.block x6 (Array.getElem?_eq_some_iff.1 e3).1).trans e3⟩
    simp only [Act.put, List.setIfInBounds_toArray, List.set_cons_zero, List.set_cons_succ]
    refine lexM_act (k := 3) rfl (by kernel_rfl) (fun s Xi hs hd hi => ?_) ?_
    · obtain ⟨hk, h2, h3f, h3t, h6⟩ := hi
      have s2 : s 2 = true := hd { on := 2, ground := .data } (by simp) (by rfl) (by rfl)
      obtain ⟨x2, e1, e2, e3⟩ := h2 s2
      have hx0 : Xi.cell? ⟨x2, 0, none⟩ = some (.int .i64 (q : Int)) := by rw [cell_of_row _ _ _ _ _ (0, 0) e3]; rfl
      have hpl := (unhide HPL).2
      have hlv : ∀ k, (.slice p1 pre.length n1 : Value).ownBlock = some k → k < X.heap.size := fun k hk => ((unhide HK12).2.1.lt k hk).2
      refine act_append_any (.tmp 17) (.tmp 19) 32 rfl 0 3 ii (.int .i64 0) Tryz.underlying32 hii hi0 1 8 (by omega) hi1 hi2 rfl (.slice p1 pre.length n1) pre.length (plV pre) rfl (h3f hs) ⟨x2, 0, none⟩ 1 1 [.int .i64 (q : Int)] e1 rfl (by intro j u hj; match j, hj with | 0, hj => (simp at hj; subst hj; simpa [Addr.add] using hx0)) (by intro u hu; simp at hu; subst hu; rfl) (by unfold maxLen; omega) (by omega) (Nat.zero_le _) ?_
      intro v3 w3 hown hg hob
      have hkg := grown_keep hg
      have hkg' := hkg.size
      have hk' := hk.size
      rw [upd_ne (show (2 : Nat) ≠ 3 by decide), upd_at, upd_ne (show (6 : Nat) ≠ 3 by decide), upd_at, upd_ne (show (2 : Nat) ≠ 3 by decide), upd_ne (show (6 : Nat) ≠ 3 by decide)]
      refine ⟨hk.trans hkg (fun k h => Or.inl h), fun h => ?_, fun h => (by cases h), fun _ => ⟨by rw [plV_snoc]; exact hown, ?_⟩, fun h => ?_⟩
      · exact ⟨x2, e1, e2, (hkg.block x2 (Array.getElem?_eq_some_iff.1 e3).1 (fun h => by have := hlv _ h; omega)).trans e3⟩
      · rcases hob with h | h
        · exact Or.inl h
        · exact Or.inr (fun k hk2 => by rw [h] at hk2; simp only [Option.some.injEq] at hk2; omega)
      · obtain ⟨x6, f1, f2, f3⟩ := h6 h
        exact ⟨x6, f1, f2, (hkg.block x6 (Array.getElem?_eq_some_iff.1 f3).1 (fun h => by have := hlv _ h; omega)).trans f3⟩
    simp only [Act.put, List.setIfInBounds_toArray, List.set_cons_zero, List.set_cons_succ]
    refine lexM_still (.slice p2 pre.length n2) rfl (by kernel_rfl) (fun s u Xi hi => ?_) ?_
    · obtain ⟨z1, z2, z3, z4, z5⟩ := unhide HC Xi hi.1
      go_simp
    simp only [Act.put, List.setIfInBounds_toArray, List.set_cons_zero, List.set_cons_succ]
    refine lexM_still (.agg #[.int .i64 (wd ws q % 16), .slice pp (ptsA ws q).length pc, .slice dp (dtA ws q).length dc]) rfl (by kernel_rfl) (fun s u Xi hi => ?_) ?_
    · obtain ⟨z1, z2, z3, z4, z5⟩ := unhide HC Xi hi.1
      go_simp
    simp only [Act.put, List.setIfInBounds_toArray, List.set_cons_zero, List.set_cons_succ]
    refine lexM_act (k := 6) rfl (by kernel_rfl) (fun s Xi hs hd hi => ?_) ?_
    · go_simp
      obtain ⟨hk, h2, h3f, h3t, h6⟩ := hi
      have hb : Below Xi.heap.size Xi (Xi.alloc (.cells #[.int .i64 (wd ws q % 16), .slice pp (ptsA ws q).length pc, .slice dp (dtA ws q).length dc] 66)) := (Below.refl _ _).alloc (Nat.le_refl _) _
      refine actUpon_value ?_
      rw [upd_ne (show (2 : Nat) ≠ 6 by decide), upd_ne (show (3 : Nat) ≠ 6 by decide), upd_at, upd_ne (show (2 : Nat) ≠ 6 by decide), upd_ne (show (3 : Nat) ≠ 6 by decide), upd_at]
      refine ⟨hk.trans (Keep.of_below hb) (fun k h => Or.inl h), fun h => ?_, fun h => ownsV_keep (F := fun _ => False) (h3f h) (Keep.of_below hb) (fun _ _ => id), fun h => ⟨ownsV_keep (F := fun _ => False) (h3t h).1 (Keep.of_below hb) (fun _ _ => id), (h3t h).2⟩, fun _ => ⟨Xi.heap.size, rfl, hk.size, World.alloc_heap_new _ _⟩⟩
      obtain ⟨x2, e1, e2, e3⟩ := h2 h
      exact ⟨x2, e1, e2, (hb.block x2 (Array.getElem?_eq_some_iff.1 e3).1).trans e3⟩
    simp only [Act.put, List.setIfInBounds_toArray, List.set_cons_zero, List.set_cons_succ]
    refine lexM_nil fun Xi hi => ?_
    simp only [List.drop_succ_cons, List.drop_zero]
    obtain ⟨hk, _, _, h3t, h6⟩ := hi
    obtain ⟨r3, b3⟩ := h3t (by rfl)
    obtain ⟨x6, f1, f2, f3⟩ := h6 (by rfl)
    obtain ⟨p3, n3, e3⟩ := ownsV_shape r3
    obtain ⟨z0, z1, z2, _⟩ := three_cells f3
    obtain ⟨k1, k2, k3, m1, m2, m3, m9⟩ := unhide HK12
    obtain ⟨d1, d2⟩ := unhide HD12
    have HM2 := hide (ownsV_keep m2 hk (fun k h2 h1 => (d1 k h1).2.2 h2))
    have g1 := (hk.block _ (Array.getElem?_eq_some_iff.1 k1).1 k3).trans k1
    have g2 := (hk.block _ (Array.getElem?_eq_some_iff.1 m1).1 (fun h => (d1 _ h).1 rfl)).trans m1
    have HG := hide (And.intro g1 (And.intro g2 (And.intro (show ¬ (.slice p2 pre.length n2 : Value).ownBlock = some w1.heap.size from fun h => d2 _ h rfl) m3)))
    have HPLC := hide (unhide HPL).2
    have HR3 := hide (And.intro hk (And.intro r3 b3))
    have HNW : Hid (∀ (j : Nat) (u : Value), [Value.int .i64 (wd ws q % 16), .slice pp (ptsA ws q).length pc, .slice dp (dtA ws q).length dc][j]? = some u → Xi.cell? ((⟨x6, 0, none⟩ : Addr).add j) = some u) := fun j u hj => by
      match j, hj with
      | 0, hj => simp at hj; subst hj; simpa [Addr.add] using z0
      | 1, hj => simp at hj; subst hj; simpa [Addr.add] using z1
      | 2, hj => simp at hj; subst hj; simpa [Addr.add] using z2
    have HOB : Hid (obV ws (L ++ [((q, h), .slice pp (ptsA ws q).length pc, .slice dp (dtA ws q).length dc)]) = obV ws L ++ [Value.int .i64 (wd ws q % 16), .slice pp (ptsA ws q).length pc, .slice dp (dtA ws q).length dc]) := by
      unfold Hid obV
      rw [List.flatMap_append]
      rfl
    generalize hu3 : u 3 = t3 at *
    generalize hu6 : u 6 = t6 at *
    generalize hu2 : u 2 = t2 at *
    subst f1 e3
    clear k1 k2 k3 m1 m2 m3 m9 d1 d2 g1 g2 z0 z1 z2 hk r3 b3 f3 h3t h6
    gi_wp2_with (first
      | (gi_at_builtin; refine wpListIn_append_any rfl (.tmp 21) (.tmp 23) 77 rfl 0 66 io _ Tryz.underlying77 hio ho0 3 56 (by omega) ho1 ho2 rfl (.slice p2 pre.length n2) pre.length (obV ws L) rfl (unhide HM2) ⟨x6, 0, none⟩ 1 1 [.int .i64 (wd ws q % 16), .slice pp (ptsA ws q).length pc, .slice dp (dtA ws q).length dc] rfl rfl (unhide HNW) (by intro u hu; simp at hu; rcases hu with rfl | rfl | rfl <;> rfl) (by have := unhide HPLC; unfold maxLen; omega) (by have := unhide HPLC; omega) (Nat.zero_le _) ?_))
    intro v7 w7 hown7 hg7 hob7
    obtain ⟨g1, g2, n21, m3⟩ := unhide HG
    have q1 := ((grown_keep hg7).block _ (Array.getElem?_eq_some_iff.1 g1).1 n21).trans g1
    have q2 := ((grown_keep hg7).block _ (Array.getElem?_eq_some_iff.1 g2).1 m3).trans g2
    have y1 : w7.cell? ⟨w1.heap.size, 0, none⟩ = some (.slice p1 pre.length n1) := by rw [cell_of_row _ _ _ _ _ (0, 0) q1]; rfl
    have y2 : w7.cell? ⟨w1.heap.size + 1, 0, none⟩ = some (.slice p2 pre.length n2) := by rw [cell_of_row _ _ _ _ _ (0, 0) q2]; rfl
    have yf1 : w7.frozen? ⟨w1.heap.size, 0, none⟩ = false := frozen_of_block q1
    have yf2 : w7.frozen? ⟨w1.heap.size + 1, 0, none⟩ = false := frozen_of_block q2
    obtain ⟨hk, r3, b3⟩ := unhide HR3
    rw [← unhide HOB] at hown7
    have HFIN := hide (unhide HF Xi w7 _ v7 hk r3 b3 hown7 hg7 hob7)
    obtain ⟨p7, n7, rfl⟩ := ownsV_shape hown7
    clear hown7 hg7 hob7 g1 g2 n21 m3 q1 q2 hk r3 b3
    gi_wp2_with fail
    exact unhide HFIN
  case done =>
    rintro dd C W5 hdd ⟨L, hL, C1, C2, ⟨v1, k1, k2, k3, k4⟩, ⟨C21, C22, ⟨v2, m1, m2, m3, m4⟩, hpd, hd2, hC2⟩, hd1, hC1⟩ hm hnc hK
    have y1 : W5.cell? ⟨w1.heap.size, 0, none⟩ = some v1 := by rw [cell_of_row _ _ _ _ _ (0, 0) k1]; rfl
    have y2 : W5.cell? ⟨w1.heap.size + 1, 0, none⟩ = some v2 := by rw [cell_of_row _ _ _ _ _ (0, 0) m1]; rfl
    have hLl : L.length = (obs ws 1).length := by rw [← hL, List.length_map]
    have HE := hide (And.intro k2 (And.intro m2 (And.intro hpd (And.intro hL hLl))))
    have HC := hide (And.intro k4 (And.intro m4 (And.intro hC2 (And.intro hC1 (And.intro hm (And.intro hnc hdd))))))
    have HK := hide hK
    obtain ⟨q1, n1, rfl⟩ := ownsV_shape k2
    obtain ⟨q2, n2, rfl⟩ := ownsV_shape m2
    obtain ⟨N, hN⟩ : ∃ N, N = (obs ws 1).length := ⟨_, rfl⟩
    rw [← hN] at y1 y2
    have HN := hide hN
    clear hN
    clear k1 k2 k3 k4 m1 m2 m3 m4 hpd hd2 hC2 hd1 hC1 hm hnc hK hL hLl hdd
    gi_wp2_with fail
    have hmx : Tryz.prog.follows .mixedOrders = true := by kernel_rfl
    refine region_calmO (fun X => X = W5.drew) hmx (by kernel_rfl) rfl ?_
    repeat (first
      | go_big_quiet_skip
      | (go_big_quiet_want
         apply Exists.intro
         refine ⟨fun w' hw' => ?_, ?_⟩
         · subst hw'
           go_simp
           first | done | rfl
         simp only [Act.put, List.setIfInBounds_toArray, List.set_cons_zero, List.set_cons_succ]
         go_big_quiet_on))
    refine wpQuiet_nil ?_
    rintro X rfl
    gi_wp2_with fail
    obtain ⟨k2, m2, hpd, hL, hLl⟩ := unhide HE
    obtain ⟨k4, m4, hC2, hC1, hm, hnc, hdd⟩ := unhide HC
    have hN := unhide HN
    have hbd : Below W5.heap.size W5 W5.drew := (Below.refl _ _).drew
    have hK' : W5.drew.heap[dd]? = some (.deferred (some [])) := unhide HK
    refine ⟨by simp, .inl ⟨_, _, rfl, run_takeDeferred hK', ?_⟩⟩
    have hp := keep_put W5.drew dd (.deferred none)
    have hq : Keep (fun k => k = dd) W5 (W5.drew.putObj dd (.deferred none)) := (Keep.of_below hbd).trans hp (fun k h => Or.inl h)
    have c1 : ∀ k, (.slice q1 (obs ws 1).length n1 : Value).ownBlock = some k → ¬ k = dd := fun k hk e => hnc ((hC1 dd).2 (Or.inl ((k4 dd).2 (Or.inr (e ▸ hk)))))
    have c2 : ∀ k, (.slice q2 (obs ws 1).length n2 : Value).ownBlock = some k → ¬ k = dd := fun k hk e => hnc ((hC1 dd).2 (Or.inr ((hC2 dd).2 (Or.inl ((m4 dd).2 (Or.inr (e ▸ hk)))))))
    have r1 := ownsV_keep k2 hq c1
    have r2 := ownsV_keep m2 hq c2
    have r3 := (PDs.ok ws L).stays _ _ _ _ hpd hq (fun k hk e => hnc (e ▸ (hC1 k).2 (Or.inr ((hC2 k).2 (Or.inr hk)))))
    rw [← hN] at r1 r2
    have hLN : L.length = N := hLl.trans hN.symm
    refine ⟨.tuple #[.slice q1 N n1, .slice q2 N n2, .bool true], by simp [results, Tryz.results38, go_sem], .slice q1 N n1, .slice q2 N n2, rfl, ?_, ?_, ?_⟩
    · exact ownsV_row r1 (by rw [hN]; simp [plV])
    · exact ol_told hL (by rw [hLN]; exact r2) r3
    · have h1 := (unhide HB1).trans ((unhide HB2).mono (unhide HB1).size)
      have hsz := (unhide HB1).size
      exact below_put h1 (hm.trans (Moves.of_below hbd)) (fun k hk => by
        rcases hk with (h | h) | (h | h) | h
        · omega
        · cases h
        · omega
        · cases h
        · exact h.elim) hdd _
  case stop =>
    rintro dd c pre x rest C W _ _ h
    exact h.elim
end Go.Proofs.YtlbhhdldeaehkaaGreat

/- Package arena as landed: the questions, asked of an arena in blocks of its own. -/
namespace Go.Proofs.YtlbhhdldeaehkaaGreat
open Go.RowKit

theorem AR.owok (g n : Nat) (ws rs : List Int) : OwOk (fun F w => AR F w g n ws rs) := ⟨fun _ _ _ _ h hk hn => h.keep hk hn, fun _ _ h _ hk => h.lt hk⟩
theorem aused_ar {F : Nat → Prop} {w : World} {g n : Nat} {ws rs : List Int} (h : AR F w g n ws rs) : Calls Tryz.prog 16 #[.pointer (some ⟨g, 0, none⟩)] w fun e w' => e = .returned (.int .i64 (ws.length : Int)) ∧ w' = w := by
  obtain ⟨gh, wv, hv, rv, h, hF⟩ := h
  exact aused_any w g gh wv hv rv n ws rs h
theorem awords_ar {F : Nat → Prop} {w : World} {g n : Nat} {ws rs : List Int} (h : AR F w g n ws rs) : Calls Tryz.prog 41 #[.pointer (some ⟨g, 0, none⟩)] w fun e w' => e = .returned (.int .i64 (n : Int)) ∧ w' = w := by
  obtain ⟨gh, wv, hv, rv, h, hF⟩ := h
  exact awords_any w g gh wv hv rv n ws rs h
theorem aroot_ar {F : Nat → Prop} {w : World} {g n : Nat} {ws rs : List Int} (s : Int) (h : AR F w g n ws rs) : Calls Tryz.prog 30 #[.pointer (some ⟨g, 0, none⟩), .int .i64 s] w fun e w' => e = .returned (.int .i64 (rootP rs s)) ∧ w' = w := by
  obtain ⟨gh, wv, hv, rv, h, hF⟩ := h
  exact aroot_any w g gh wv hv rv n ws rs s h
theorem alive_ar {F : Nat → Prop} {w : World} {g n : Nat} {ws rs : List Int} (h : AR F w g n ws rs) : Calls Tryz.prog 42 #[.pointer (some ⟨g, 0, none⟩)] w fun e w' => ∃ l, e = .returned (.int .i64 ((sums ws l : Nat) : Int)) ∧ LiveIs ws rs l ∧ Below w.heap.size w w' := by
  have hU := h.ok.u32
  obtain ⟨gh, wv, hv, rv, h, hF⟩ := h
  refine (alive_any w g gh wv hv rv n ws rs h).mono ?_
  rintro e w' ⟨l, rfl, hl, b⟩
  exact ⟨l, by rw [sums_int hU], hl, b⟩
theorem aat_ar {F : Nat → Prop} {w : World} {g n : Nat} {ws rs : List Int} (a : Int) (h : AR F w g n ws rs) :
    Calls Tryz.prog 23 #[.pointer (some ⟨g, 0, none⟩), .int .i64 a] w fun e w' => ∃ p d kd er, e = .returned (.tuple #[.agg #[.int .i64 kd, p, d], .int .i64 er]) ∧ ∃ ps ds, atR ws a = (kd, ps, ds, er) ∧ w'.ownsRow w.heap.size 3 1 p ps.length (Iw ps) ∧ w'.ownsRow w.heap.size 31 1 d ds.length (Uw ds) ∧ Below w.heap.size w w' := by
  obtain ⟨gh, wv, hv, rv, h, hF⟩ := h
  exact aat_any w g gh wv hv rv n ws rs a h
theorem told_ar {F : Nat → Prop} {w : World} {g n : Nat} {ws rs : List Int} (h : AR F w g n ws rs) :
    Calls Tryz.prog 38 #[.pointer (some ⟨g, 0, none⟩)] w fun e w' => ∃ v vo, e = .returned (.tuple #[v, vo, .bool true]) ∧ VRow w' v (plV (obs ws 1)) ∧ OL w' vo (obsA ws) ∧ Below w.heap.size w w' := by
  have ok := h.ok
  obtain ⟨gh, wv, hv, rv, h, hF⟩ := h
  exact told16_any _ ws w ok.u32 ok.len (aall_any w g gh wv hv rv n ws rs h)
theorem apack_at {F : Nat → Prop} {w : World} {g n : Nat} {ws rs l : List Int} (h : AR F w g n ws rs) (hl : LiveIs ws rs l) :
    Calls Tryz.prog 9 #[.pointer (some ⟨g, 0, none⟩)] w fun e w' => e = .returned (.int .i64 ((ws.length : Int) - ((cW ws l).length : Int))) ∧ ∃ F', AR F' w' g n (cW ws l) (cR ws l rs) ∧ Moves F F' w w' := by
  refine (apack_any F w g n ws rs h).mono ?_
  rintro e w' ⟨m, rfl, hm, F', h1, h2⟩
  obtain rfl := hm.unique hl
  exact ⟨rfl, F', h1, h2⟩
end Go.Proofs.YtlbhhdldeaehkaaGreat

/- Both arenas, alike, in blocks of their own; a call of each of them. -/
namespace Go.Proofs.YtlbhhdldeaehkaaGreat
open Go.RowKit

/-- The program's arena with one state, the reference's with another. -/
def TwoX (ga gr n : Nat) (a b : List Int × List Int) : Ow := Star (fun F w => AR F w ga n a.1 a.2) (fun F w => RA F w gr n b.1 b.2)
theorem TwoX.ok (ga gr n : Nat) (a b : List Int × List Int) : OwOk (TwoX ga gr n a b) := Star.ok (AR.owok ga n a.1 a.2) (RA.owok gr n b.1 b.2)
abbrev TwoA (ga gr n : Nat) (a : List Int × List Int) : Ow := TwoX ga gr n a a
section
variable {ga gr n : Nat} {a : List Int × List Int} {C : Nat → Prop} {W0 : World} {S : Value → List Int × List Int → Prop}
def JT0 (ga gr n : Nat) (a : List Int × List Int) (C : Nat → Prop) (W0 X : World) : Prop := ∃ C', TwoA ga gr n a C' X ∧ Moves C C' W0 X
def JT1 (ga gr n : Nat) (a : List Int × List Int) (C : Nat → Prop) (W0 : World) (S : Value → List Int × List Int → Prop) (v : Value) (X : World) : Prop := ∃ b, S v b ∧ ∃ C', TwoX ga gr n b a C' X ∧ Moves C C' W0 X
def JT2 (ga gr n : Nat) (C : Nat → Prop) (W0 : World) (S : Value → List Int × List Int → Prop) (v v' : Value) (X : World) : Prop := ∃ b, S v b ∧ v' = v ∧ ∃ C', TwoA ga gr n b C' X ∧ Moves C C' W0 X
theorem left_call {f : FuncId} {args : Array Value} (hcall : ∀ F X, AR F X ga n a.1 a.2 → Calls Tryz.prog f args X fun e w' => ∃ v b F', e = .returned v ∧ S v b ∧ AR F' w' ga n b.1 b.2 ∧ Moves F F' X w') (X : World) (h : JT0 ga gr n a C W0 X) : Calls Tryz.prog f args X fun e w' => ∃ v, e = .returned v ∧ JT1 ga gr n a C W0 S v w' := by
  obtain ⟨C', ⟨C1, C2, h1, h2, h3, h4⟩, hm⟩ := h
  refine (hcall C1 X h1).mono ?_
  rintro e w' ⟨v, b, F', rfl, hs, hA, hm2⟩
  have := Star.left (I' := fun F w => AR F w ga n b.1 b.2) (RA.owok gr n a.1 a.2) h2 h3 h4 hA hm2
  exact ⟨v, rfl, b, hs, _, this.1, hm.trans this.2⟩
theorem right_call {f : FuncId} {args : Array Value} (hS : ∀ v v' b b', S v b → S v' b' → v' = v ∧ b' = b) (hcall : ∀ F X, RA F X gr n a.1 a.2 → Calls Tryz.prog f args X fun e w' => ∃ v b F', e = .returned v ∧ S v b ∧ RA F' w' gr n b.1 b.2 ∧ Moves F F' X w') (v : Value) (X : World) (h : JT1 ga gr n a C W0 S v X) : Calls Tryz.prog f args X fun e w' => ∃ v', e = .returned v' ∧ JT2 ga gr n C W0 S v v' w' := by
  obtain ⟨b, hb, C', ⟨C1, C2, h1, h2, h3, h4⟩, hm⟩ := h
  refine (hcall C2 X h2).mono ?_
  rintro e w' ⟨v', b', F', rfl, hs, hA, hm2⟩
  obtain ⟨rfl, rfl⟩ := hS _ _ _ _ hb hs
  have := Star.right (J' := fun F w => RA F w gr n b'.1 b'.2) (AR.owok ga n b'.1 b'.2) h1 h3 h4 hA hm2
  exact ⟨v', rfl, b', hb, rfl, _, this.1, hm.trans this.2⟩
theorem two_cells {k : Nat} {cs : Array Value} {t : Nat} (hk : ¬ C k) (hb : W0.heap[k]? = some (.cells cs t (0, 0))) :
    (∀ X, JT0 ga gr n a C W0 X → X.heap[k]? = some (.cells cs t (0, 0))) ∧ (∀ v X, JT1 ga gr n a C W0 S v X → X.heap[k]? = some (.cells cs t (0, 0))) ∧ (∀ v v' X, JT2 ga gr n C W0 S v v' X → X.heap[k]? = some (.cells cs t (0, 0))) := by
  have key : ∀ X C', Moves C C' W0 X → X.heap[k]? = some (.cells cs t (0, 0)) := fun X C' hm => (hm.keep.block k (Array.getElem?_eq_some_iff.1 hb).1 hk).trans hb
  exact ⟨fun X ⟨C', _, hm⟩ => key X C' hm, fun v X ⟨b, _, C', _, hm⟩ => key X C' hm, fun v v' X ⟨b, _, _, C', _, hm⟩ => key X C' hm⟩
end
theorem op_cells {w : World} {g t : Nat} {c0 c1 c2 c3 c4 c5 c6 c7 : Value} (h : w.heap[g]? = some (.cells #[c0, c1, c2, c3, c4, c5, c6, c7] t (0, 0))) :
    w.cell? ⟨g, 0, none⟩ = some c0 ∧ w.cell? ⟨g, 1, none⟩ = some c1 ∧ w.cell? ⟨g, 2, none⟩ = some c2 ∧ w.cell? ⟨g, 3, none⟩ = some c3 ∧ w.cell? ⟨g, 4, none⟩ = some c4 ∧ w.cell? ⟨g, 5, none⟩ = some c5 ∧ w.cell? ⟨g, 6, none⟩ = some c6 ∧ w.cell? ⟨g, 7, none⟩ = some c7 :=
  ⟨by rw [cell_of_row _ _ _ _ _ (0, 0) h]; rfl, by rw [cell_of_row _ _ _ _ _ (0, 0) h]; rfl, by rw [cell_of_row _ _ _ _ _ (0, 0) h]; rfl, by rw [cell_of_row _ _ _ _ _ (0, 0) h]; rfl, by rw [cell_of_row _ _ _ _ _ (0, 0) h]; rfl, by rw [cell_of_row _ _ _ _ _ (0, 0) h]; rfl, by rw [cell_of_row _ _ _ _ _ (0, 0) h]; rfl, by rw [cell_of_row _ _ _ _ _ (0, 0) h]; rfl⟩
/-- What Set, SetRoot and Pack answer and leave. -/
def SSet (a : List Int × List Int) (at' i v : Int) (r : Value) (b : List Int × List Int) : Prop := r = .int .i64 (setP a.1 at' i v).1 ∧ b = ((setP a.1 at' i v).2, a.2)
def SRoot (a : List Int × List Int) (s at' : Int) (r : Value) (b : List Int × List Int) : Prop := r = .int .i64 (setRP a.1 a.2 s at').1 ∧ b = (a.1, (setRP a.1 a.2 s at').2)
def SPack (a : List Int × List Int) (r : Value) (b : List Int × List Int) : Prop := ∃ l, LiveIs a.1 a.2 l ∧ r = .int .i64 ((a.1.length : Int) - ((cW a.1 l).length : Int)) ∧ b = (cW a.1 l, cR a.1 l a.2)
theorem SPack.one {a : List Int × List Int} (v v' : Value) (b b' : List Int × List Int) (h : SPack a v b) (h' : SPack a v' b') : v' = v ∧ b' = b := by
  obtain ⟨l, hl, rfl, rfl⟩ := h
  obtain ⟨m, hm, rfl, rfl⟩ := h'
  rw [hl.unique hm]
  exact ⟨rfl, rfl⟩
theorem SSet.one {a : List Int × List Int} {x y z : Int} (v v' : Value) (b b' : List Int × List Int) (h : SSet a x y z v b) (h' : SSet a x y z v' b') : v' = v ∧ b' = b := ⟨h'.1.trans h.1.symm, h'.2.trans h.2.symm⟩
theorem SRoot.one {a : List Int × List Int} {x y : Int} (v v' : Value) (b b' : List Int × List Int) (h : SRoot a x y v b) (h' : SRoot a x y v' b') : v' = v ∧ b' = b := ⟨h'.1.trans h.1.symm, h'.2.trans h.2.symm⟩
end Go.Proofs.YtlbhhdldeaehkaaGreat

/- The statements' own functions of layer 16: step: Set, SetRoot, Pack. -/
namespace Go.Proofs.YtlbhhdldeaehkaaGreat
open Go.RowKit

/-- What step was asked leaves both alike. -/
def StepD (ga gr n : Nat) (C : Nat → Prop) (w : World) (e : Ending) (w' : World) : Prop := e = .returned (.bool true) ∧ ∃ b C', TwoA ga gr n b C' w' ∧ Moves C C' w w'
macro "lexq" h:term : tactic => `(tactic| (
  refine lexM_stillE (by rfl) (by kernel_rfl) ?_
  apply Exists.intro
  refine ⟨fun s u Xi hi => ?_, ?_⟩
  · obtain ⟨z0, z1, z2, z3, z4, z5, z6, z7⟩ := unhide $h s u Xi hi
    go_simp
    first | done | rfl
  simp only [Act.put, List.setIfInBounds_toArray, List.set_cons_zero, List.set_cons_succ]))

set_option maxRecDepth 20000 in
set_option maxHeartbeats 2000000 in
theorem step_set (w : World) (ga gr n : Nat) (a : List Int × List Int) (C : Nat → Prop) (p d : Option Addr) (np nd cp cd : Nat) (at' i sl k2 v : Int) (hA : TwoA ga gr n a C w) (h0 : 0 ≤ v) (h1 : v < 4294967296) :
    Calls Tryz.prog 10 #[.pointer (some ⟨ga, 0, none⟩), .pointer (some ⟨gr, 0, none⟩), .agg #[.int .i64 2, .int .i64 at', .int .i64 i, .int .i64 sl, .int .i64 k2, .int .u32 v, .slice p np cp, .slice d nd cd]] w (StepD ga gr n C w) := by
  have hmx : Tryz.prog.follows .mixedOrders = true := by kernel_rfl
  obtain ⟨W0, hW0⟩ : ∃ W0, w.alloc (.cells #[.int .i64 2, .int .i64 at', .int .i64 i, .int .i64 sl, .int .i64 k2, .int .u32 v, .slice p np cp, .slice d nd cd] 35) = W0 := ⟨_, rfl⟩
  have hb0 : Below w.heap.size w W0 := by rw [← hW0]; exact (Below.refl _ _).alloc (Nat.le_refl _) _
  have hx8 : W0.heap[w.heap.size]? = some (.cells #[.int .i64 2, .int .i64 at', .int .i64 i, .int .i64 sl, .int .i64 k2, .int .u32 v, .slice p np cp, .slice d nd cd] 35 (0, 0)) := by rw [← hW0]; exact World.alloc_heap_new _ _
  obtain ⟨y0, y1, y2, y3, y4, y5, y6, y7⟩ := op_cells hx8
  have hB0 := hb0.trans ((Below.refl _ W0).drew.mono hb0.size)
  have HA0 := hide ((TwoX.ok ga gr n a a).below hA hB0)
  have HMV := hide (Moves.of_below (F := C) hB0)
  obtain ⟨t0, t1, t2⟩ := two_cells (ga := ga) (gr := gr) (n := n) (a := a) (S := SSet a at' i v) (C := C) (W0 := W0.drew) (fun hc => Nat.lt_irrefl _ ((TwoX.ok ga gr n a a).lt C w hA _ hc)) hx8
  have HC := hide (fun (s : Nat → Bool) (u : Nat → Value) (Xi : World) (hi : Inv2 7 15 (JT0 ga gr n a C W0.drew) (JT1 ga gr n a C W0.drew (SSet a at' i v)) (JT2 ga gr n C W0.drew (SSet a at' i v)) s u Xi) => op_cells (hi.all t0 t1 t2))
  have HL := hide (left_call (ga := ga) (gr := gr) (n := n) (a := a) (C := C) (W0 := W0.drew) (S := SSet a at' i v) (f := 26) (args := #[.pointer (some ⟨ga, 0, none⟩), .int .i64 at', .int .i64 i, .int .u32 v]) (fun F X h => (aset_any F X ga n a.1 a.2 at' i v h h0 h1).mono fun e w' ⟨r1, r2, r3⟩ => ⟨_, _, F, r1, ⟨rfl, rfl⟩, r2, r3, fun _ h => Or.inl h⟩))
  have HR := hide (right_call (ga := ga) (gr := gr) (n := n) (a := a) (C := C) (W0 := W0.drew) (S := SSet a at' i v) (f := 27) (args := #[.pointer (some ⟨gr, 0, none⟩), .int .i64 at', .int .i64 i, .int .u32 v]) SSet.one (fun F X h => (rset16_any F X gr n a.1 a.2 at' i v h h0 h1).mono fun e w' ⟨r1, r2, r3⟩ => ⟨_, _, F, r1, ⟨rfl, rfl⟩, r2, r3, fun _ h => Or.inl h⟩))
  clear hA hb0 hx8 hB0 t0 t1 t2 h0 h1
  go_enter Tryz.func10, Tryz.ntmps10
  go_wp2_with fail
  refine region_acts 16 (fun i => i == 7 || i == 15) (Inv2 7 15 (JT0 ga gr n a C W0.drew) (JT1 ga gr n a C W0.drew (SSet a at' i v)) (JT2 ga gr n C W0.drew (SSet a at' i v))) hmx (by kernel_rfl) ?i0 ?_
  case i0 => exact Or.inr (Or.inr ⟨rfl, rfl, C, by subst hW0; exact unhide HA0, Moves.refl _ _⟩)
  intro u
  simp only [List.take_succ_cons, List.take_zero]
  lexq HC
  lexq HC
  lexq HC
  lexq HC
  lexq HC
  lexq HC
  lexq HC
  refine lexM_act (by rfl) (by kernel_rfl) (inv2_first (by decide) (fun X hX => ?_)) ?_
  · go_simp
    exact actUpon_enter (unhide HL X hX)
  simp only [Act.put, List.setIfInBounds_toArray, List.set_cons_zero, List.set_cons_succ]
  lexq HC
  lexq HC
  lexq HC
  lexq HC
  lexq HC
  lexq HC
  lexq HC
  refine lexM_act (by rfl) (by kernel_rfl) (inv2_second (by decide) ⟨{ on := 7, ground := .chain }, by simp, by rfl, by rfl⟩ (by rfl) (fun v X hX => ?_)) ?_
  · go_simp
    exact actUpon_enter (unhide HR v X hX)
  simp only [Act.put, List.setIfInBounds_toArray, List.set_cons_zero, List.set_cons_succ]
  refine lexM_nil fun Xi hi => ?_
  simp only [List.drop_succ_cons, List.drop_zero]
  obtain ⟨b, ⟨e1, e2⟩, e3, C', hT, hm⟩ := hi.end (by rfl)
  have HF := hide (And.intro hT ((unhide HMV).trans hm))
  generalize hu7 : u 7 = t7 at *
  generalize hu15 : u 15 = t15 at *
  subst e3 e1
  clear hT hm hu7 hu15 hi
  go_wp2_with fail
  go_ret
  exact ⟨rfl, b, C', unhide HF⟩
end Go.Proofs.YtlbhhdldeaehkaaGreat

/- The statements' own functions of layer 16: step: SetRoot, Pack. -/
namespace Go.Proofs.YtlbhhdldeaehkaaGreat
open Go.RowKit

set_option maxRecDepth 20000 in
set_option maxHeartbeats 2000000 in
theorem step_pack (w : World) (ga gr n : Nat) (a : List Int × List Int) (C : Nat → Prop) (p d : Option Addr) (np nd cp cd : Nat) (at' i sl k2 v : Int) (hA : TwoA ga gr n a C w) :
    Calls Tryz.prog 10 #[.pointer (some ⟨ga, 0, none⟩), .pointer (some ⟨gr, 0, none⟩), .agg #[.int .i64 4, .int .i64 at', .int .i64 i, .int .i64 sl, .int .i64 k2, .int .u32 v, .slice p np cp, .slice d nd cd]] w (StepD ga gr n C w) := by
  obtain ⟨W0, hW0⟩ : ∃ W0, w.alloc (.cells #[.int .i64 4, .int .i64 at', .int .i64 i, .int .i64 sl, .int .i64 k2, .int .u32 v, .slice p np cp, .slice d nd cd] 35) = W0 := ⟨_, rfl⟩
  have hb0 : Below w.heap.size w W0 := by rw [← hW0]; exact (Below.refl _ _).alloc (Nat.le_refl _) _
  have hx8 : W0.heap[w.heap.size]? = some (.cells #[.int .i64 4, .int .i64 at', .int .i64 i, .int .i64 sl, .int .i64 k2, .int .u32 v, .slice p np cp, .slice d nd cd] 35 (0, 0)) := by rw [← hW0]; exact World.alloc_heap_new _ _
  obtain ⟨y0, y1, y2, y3, y4, y5, y6, y7⟩ := op_cells hx8
  have HMV := hide (Moves.of_below (F := C) hb0)
  have HL := hide (left_call (ga := ga) (gr := gr) (n := n) (a := a) (C := C) (W0 := W0) (S := SPack a) (f := 9) (args := #[.pointer (some ⟨ga, 0, none⟩)]) (fun F X h => (apack_any F X ga n a.1 a.2 h).mono fun e w' ⟨l, r1, hl, F', r2, r3⟩ => ⟨_, _, F', r1, ⟨l, hl, rfl, rfl⟩, r2, r3⟩) W0 ⟨C, (TwoX.ok ga gr n a a).below hA hb0, Moves.refl _ _⟩)
  have HR := hide (right_call (ga := ga) (gr := gr) (n := n) (a := a) (C := C) (W0 := W0) (S := SPack a) (f := 32) (args := #[.pointer (some ⟨gr, 0, none⟩)]) SPack.one (fun F X h => (rpack16_any F X gr n a.1 a.2 h).mono fun e w' ⟨l, r1, hl, F', r2, r3⟩ => ⟨_, _, F', r1, ⟨l, hl, rfl, rfl⟩, r2, r3⟩))
  clear hA hb0 hx8
  go_enter Tryz.func10, Tryz.ntmps10
  go_wp2_with fail
  refine Calls.mono (unhide HL) ?_
  rintro e w1 ⟨v1, rfl, hJ⟩
  have HJ := hide hJ
  clear hJ HL y0 y1 y2 y3 y4 y5 y6 y7
  go_wp2_with fail
  refine Calls.mono (unhide HR v1 w1 (unhide HJ)) ?_
  rintro e w2 ⟨v2, rfl, b, ⟨l, hl, rfl, e2⟩, rfl, C', hT, hm⟩
  have HF := hide (And.intro hT ((unhide HMV).trans hm))
  clear hT hm hl e2
  go_wp2_with fail
  go_ret
  exact ⟨rfl, b, C', unhide HF⟩

set_option maxRecDepth 20000 in
set_option maxHeartbeats 2000000 in
theorem step_root (w : World) (ga gr n : Nat) (a : List Int × List Int) (C : Nat → Prop) (p d : Option Addr) (np nd cp cd : Nat) (at' i sl k2 v : Int) (hA : TwoA ga gr n a C w) :
    Calls Tryz.prog 10 #[.pointer (some ⟨ga, 0, none⟩), .pointer (some ⟨gr, 0, none⟩), .agg #[.int .i64 3, .int .i64 at', .int .i64 i, .int .i64 sl, .int .i64 k2, .int .u32 v, .slice p np cp, .slice d nd cd]] w (StepD ga gr n C w) := by
  have hmx : Tryz.prog.follows .mixedOrders = true := by kernel_rfl
  obtain ⟨W0, hW0⟩ : ∃ W0, w.alloc (.cells #[.int .i64 3, .int .i64 at', .int .i64 i, .int .i64 sl, .int .i64 k2, .int .u32 v, .slice p np cp, .slice d nd cd] 35) = W0 := ⟨_, rfl⟩
  have hb0 : Below w.heap.size w W0 := by rw [← hW0]; exact (Below.refl _ _).alloc (Nat.le_refl _) _
  have hx8 : W0.heap[w.heap.size]? = some (.cells #[.int .i64 3, .int .i64 at', .int .i64 i, .int .i64 sl, .int .i64 k2, .int .u32 v, .slice p np cp, .slice d nd cd] 35 (0, 0)) := by rw [← hW0]; exact World.alloc_heap_new _ _
  obtain ⟨y0, y1, y2, y3, y4, y5, y6, y7⟩ := op_cells hx8
  have hB0 := hb0.trans ((Below.refl _ W0).drew.mono hb0.size)
  have HA0 := hide ((TwoX.ok ga gr n a a).below hA hB0)
  have HMV := hide (Moves.of_below (F := C) hB0)
  have hnc : ¬ C w.heap.size := fun hc => Nat.lt_irrefl _ ((TwoX.ok ga gr n a a).lt C w hA _ hc)
  obtain ⟨R, hR⟩ : ∃ R, R = (setRP a.1 a.2 sl at').1 := ⟨_, rfl⟩
  obtain ⟨b, hb⟩ : ∃ b : List Int × List Int, b = (a.1, (setRP a.1 a.2 sl at').2) := ⟨_, rfl⟩
  obtain ⟨q, hq⟩ : ∃ q, q = rootP b.2 sl := ⟨_, rfl⟩
  obtain ⟨c, hc⟩ : ∃ c : Nat → Value, c = fun k => if k = 5 ∨ k = 11 then .int .i64 R else if k = 13 then .bool true else .int .i64 q := ⟨_, rfl⟩
  have c5 : c 5 = .int .i64 R := by rw [hc]; rfl
  have c11 : c 11 = .int .i64 R := by rw [hc]; rfl
  have c13 : c 13 = .bool true := by rw [hc]; rfl
  have c17 : c 17 = .int .i64 q := by rw [hc]; rfl
  have c21 : c 21 = .int .i64 q := by rw [hc]; rfl
  obtain ⟨J, hJ⟩ : ∃ J : Nat → World → Prop, J = fun k X => k ≤ 5 ∧ ∃ C', TwoX ga gr n (if k = 0 then a else b) (if k ≤ 1 then a else b) C' X ∧ Moves C C' W0.drew X := ⟨_, rfl⟩
  have hJB : ∀ k X, J k X → X.heap[w.heap.size]? = some (.cells #[.int .i64 3, .int .i64 at', .int .i64 i, .int .i64 sl, .int .i64 k2, .int .u32 v, .slice p np cp, .slice d nd cd] 35 (0, 0)) := fun k X hk => by
    subst hJ
    obtain ⟨_, C', _, hm⟩ := hk
    exact (hm.keep.block _ (Array.getElem?_eq_some_iff.1 hx8).1 hnc).trans hx8
  have HJ5 := hide (fun (k : Nat) (X : World) (h : J k X) => show k ≤ 5 from by subst hJ; exact h.1)
  have HE := hide (fun (X : World) (h : J 5 X) => show ∃ C', TwoA ga gr n b C' X ∧ Moves C C' W0.drew X from by subst hJ; exact h.2)
  have HC := hide (fun (s : Nat → Bool) (u : Nat → Value) (Xi : World) (hi : InvS [5, 11, 13, 17, 21] J c s u Xi) => op_cells (hi.all hJB))
  have HJ0 := hide (show J 0 W0.drew from by subst hJ; exact ⟨by omega, C, unhide HA0, Moves.refl _ _⟩)
  have HL := hide (fun (X : World) (h : J 0 X) => show Calls Tryz.prog 28 #[.pointer (some ⟨ga, 0, none⟩), .int .i64 sl, .int .i64 at'] X fun e w' => ∃ v, e = .returned v ∧ v = c 5 ∧ J 1 w' from by
    rw [c5]
    subst hJ
    obtain ⟨_, C', ⟨C1, C2, h1, h2, h3, h4⟩, hm⟩ := h
    refine (asetroot_any C1 X ga n a.1 a.2 sl at' h1).mono ?_
    rintro e w' ⟨r1, r2, r3⟩
    have := Star.left (I' := fun F w => AR F w ga n b.1 b.2) (RA.owok gr n a.1 a.2) h2 h3 h4 (C1' := C1) (by rw [hb]; exact r2) ⟨r3, fun _ h => Or.inl h⟩
    exact ⟨_, r1, by rw [hR], by omega, _, this.1, hm.trans this.2⟩)
  have HR := hide (fun (X : World) (h : J 1 X) => show Calls Tryz.prog 29 #[.pointer (some ⟨gr, 0, none⟩), .int .i64 sl, .int .i64 at'] X fun e w' => ∃ v, e = .returned v ∧ v = c 11 ∧ J 2 w' from by
    rw [c11]
    subst hJ
    obtain ⟨_, C', ⟨C1, C2, h1, h2, h3, h4⟩, hm⟩ := h
    refine (rsetroot16_any C2 X gr n a.1 a.2 sl at' h2).mono ?_
    rintro e w' ⟨r1, r2, r3⟩
    have := Star.right (J' := fun F w => RA F w gr n b.1 b.2) (AR.owok ga n b.1 b.2) h1 h3 h4 (C2' := C2) (by rw [hb]; exact r2) ⟨r3, fun _ h => Or.inl h⟩
    exact ⟨_, r1, by rw [hR], by omega, _, this.1, hm.trans this.2⟩)
  have HP := hide (fun (X : World) (h : J 2 X) => show J 3 X from by subst hJ; exact ⟨by omega, h.2⟩)
  have HL2 := hide (fun (X : World) (h : J 3 X) => show Calls Tryz.prog 30 #[.pointer (some ⟨ga, 0, none⟩), .int .i64 sl] X fun e w' => ∃ v, e = .returned v ∧ v = c 17 ∧ J 4 w' from by
    rw [c17]
    subst hJ
    obtain ⟨_, C', ⟨C1, C2, h1, h2, h3, h4⟩, hm⟩ := h
    refine (aroot_ar sl h1).mono ?_
    rintro e w' ⟨r1, rfl⟩
    exact ⟨_, r1, by rw [hq]; rfl, by omega, C', ⟨C1, C2, h1, h2, h3, h4⟩, hm⟩)
  have HR2 := hide (fun (X : World) (h : J 4 X) => show Calls Tryz.prog 31 #[.pointer (some ⟨gr, 0, none⟩), .int .i64 sl] X fun e w' => ∃ v, e = .returned v ∧ v = c 21 ∧ J 5 w' from by
    rw [c21]
    subst hJ
    obtain ⟨_, C', ⟨C1, C2, h1, ⟨wv, h2, h2'⟩, h3, h4⟩, hm⟩ := h
    refine (rroot16_any X gr wv n b.1 b.2 sl h2).mono ?_
    rintro e w' ⟨r1, rfl⟩
    exact ⟨_, r1, by rw [hq], by omega, C', ⟨C1, C2, h1, ⟨wv, h2, h2'⟩, h3, h4⟩, hm⟩)
  have hcc : ∀ s u w, InvS [5, 11, 13, 17, 21] J c s u w → ∀ j, s j = true → u j = c j := fun s u w h => h.2
  have HCC := hide hcc
  clear hA hb0 hx8 hB0 hnc hR hb hq hc hJ hJB hcc
  go_enter Tryz.func10, Tryz.ntmps10
  go_wp2_with fail
  refine region_actsC 23 (fun i => i == 5 || i == 11 || i == 13 || i == 17 || i == 21) (InvS [5, 11, 13, 17, 21] J c) c (unhide HCC) hmx (by kernel_rfl) ?i0 ?_
  case i0 => exact ⟨⟨0, fun m j _ => by simp, by subst hW0; exact unhide HJ0⟩, fun j h => (by cases h)⟩
  simp only [List.take_succ_cons, List.take_zero]
  lexq HC
  lexq HC
  lexq HC
  lexq HC
  lexq HC
  refine lexM_act (by rfl) (by kernel_rfl) (invS_act (by decide) 0 rfl (Or.inl rfl) (fun X hX => ?_)) ?_
  · go_simp
    have h := unhide HL X hX
    rw [c5] at h
    exact actUpon_enter h
  rw [c5]
  simp only [Act.put, List.setIfInBounds_toArray, List.set_cons_zero, List.set_cons_succ]
  lexq HC
  lexq HC
  lexq HC
  lexq HC
  lexq HC
  refine lexM_act (by rfl) (by kernel_rfl) (invS_act (by decide) 1 rfl (Or.inr ⟨5, rfl, rfl, { on := 5, ground := .chain }, by simp, by rfl, by rfl⟩) (fun X hX => ?_)) ?_
  · go_simp
    have h := unhide HR X hX
    rw [c11] at h
    exact actUpon_enter h
  rw [c11]
  simp only [Act.put, List.setIfInBounds_toArray, List.set_cons_zero, List.set_cons_succ]
  lexq HC
  refine lexM_act (by rfl) (by kernel_rfl) (invS_act (by decide) 2 rfl (Or.inr ⟨11, rfl, rfl, { on := 11, ground := .chain }, by simp, by rfl, by rfl⟩) (fun X hX => ?_)) ?_
  · go_simp
    exact actUpon_value ⟨rfl, unhide HP X hX⟩
  rw [c13]
  simp only [Act.put, List.setIfInBounds_toArray, List.set_cons_zero, List.set_cons_succ]
  lexq HC
  lexq HC
  lexq HC
  refine lexM_act (by rfl) (by kernel_rfl) (invS_act (by decide) 3 rfl (Or.inr ⟨13, rfl, rfl, { on := 13, ground := .chain }, by simp, by rfl, by rfl⟩) (fun X hX => ?_)) ?_
  · go_simp
    have h := unhide HL2 X hX
    rw [c17] at h
    exact actUpon_enter h
  rw [c17]
  simp only [Act.put, List.setIfInBounds_toArray, List.set_cons_zero, List.set_cons_succ]
  lexq HC
  lexq HC
  lexq HC
  refine lexM_act (by rfl) (by kernel_rfl) (invS_act (by decide) 4 rfl (Or.inr ⟨17, rfl, rfl, { on := 17, ground := .chain }, by simp, by rfl, by rfl⟩) (fun X hX => ?_)) ?_
  · go_simp
    have h := unhide HR2 X hX
    rw [c21] at h
    exact actUpon_enter h
  rw [c21]
  simp only [Act.put, List.setIfInBounds_toArray, List.set_cons_zero, List.set_cons_succ]
  lexq HC
  refine lexM_nil fun Xi hi => ?_
  simp only [List.drop_succ_cons, List.drop_zero]
  obtain ⟨C', hT, hm⟩ := unhide HE Xi (hi.end 4 rfl (by rfl) (unhide HJ5))
  have HF := hide (And.intro hT ((unhide HMV).trans hm))
  clear hT hm hi
  go_wp2_with fail
  go_ret
  exact ⟨rfl, b, C', unhide HF⟩
end Go.Proofs.YtlbhhdldeaehkaaGreat

/- The statements' own functions of layer 16: step: At. -/
namespace Go.Proofs.YtlbhhdldeaehkaaGreat
open Go.RowKit

set_option maxRecDepth 20000 in
set_option maxHeartbeats 2000000 in
theorem step_at (w : World) (ga gr n : Nat) (a : List Int × List Int) (C : Nat → Prop) (p d : Option Addr) (np nd cp cd : Nat) (at' i sl k2 v : Int) (hA : TwoA ga gr n a C w) :
    Calls Tryz.prog 10 #[.pointer (some ⟨ga, 0, none⟩), .pointer (some ⟨gr, 0, none⟩), .agg #[.int .i64 1, .int .i64 at', .int .i64 i, .int .i64 sl, .int .i64 k2, .int .u32 v, .slice p np cp, .slice d nd cd]] w (StepD ga gr n C w) := by
  have hmx : Tryz.prog.follows .mixedOrders = true := by kernel_rfl
  obtain ⟨W0, hW0⟩ : ∃ W0, w.alloc (.cells #[.int .i64 1, .int .i64 at', .int .i64 i, .int .i64 sl, .int .i64 k2, .int .u32 v, .slice p np cp, .slice d nd cd] 35) = W0 := ⟨_, rfl⟩
  have hb0 : Below w.heap.size w W0 := by rw [← hW0]; exact (Below.refl _ _).alloc (Nat.le_refl _) _
  have hx8 : W0.heap[w.heap.size]? = some (.cells #[.int .i64 1, .int .i64 at', .int .i64 i, .int .i64 sl, .int .i64 k2, .int .u32 v, .slice p np cp, .slice d nd cd] 35 (0, 0)) := by rw [← hW0]; exact World.alloc_heap_new _ _
  obtain ⟨y0, y1, y2, y3, y4, y5, y6, y7⟩ := op_cells hx8
  obtain ⟨C1, C2, h1, ⟨wv, h2, h2'⟩, h3, h4⟩ := (TwoX.ok ga gr n a a).below hA hb0
  have HL := hide (aat_ar at' h1)
  have HR := hide (fun (X : World) (hb : Below W0.heap.size W0 X) => rat16_any X gr wv n a.1 a.2 at' (h2.below hb))
  have HC := hide (fun (X : World) (hb : Below W0.heap.size W0 X) => op_cells ((hb.block _ (Array.getElem?_eq_some_iff.1 hx8).1).trans hx8))
  have HE := hide (fun (X : World) (hb : Below W0.heap.size W0 X) => show ∃ b C', TwoA ga gr n b C' X ∧ Moves C C' w X from ⟨a, C, (TwoX.ok ga gr n a a).below hA (hb0.trans (hb.mono hb0.size)), Moves.of_below (hb0.trans (hb.mono hb0.size))⟩)
  clear hA hb0 hx8 h1 h2 h2' h3 h4 hmx
  go_enter Tryz.func10, Tryz.ntmps10
  go_wp2_with fail
  refine Calls.mono (unhide HL) ?_
  rintro e w1 ⟨p1, d1, kd, er, rfl, ps, ds, heq, op1, od1, b1⟩
  have HO1 := hide (And.intro op1 od1)
  have HB1 := hide b1
  obtain ⟨pp1, pc1, rfl⟩ := ownsV_shape op1
  obtain ⟨dp1, dc1, rfl⟩ := ownsV_shape od1
  obtain ⟨W2, hW2⟩ : ∃ W2, w1.alloc (.cells #[.int .i64 kd, .slice pp1 ps.length pc1, .slice dp1 ds.length dc1] 66) = W2 := ⟨_, rfl⟩
  have hb2 : Below w1.heap.size w1 W2 := by rw [← hW2]; exact (Below.refl _ _).alloc (Nat.le_refl _) _
  have hx3 : W2.heap[w1.heap.size]? = some (.cells #[.int .i64 kd, .slice pp1 ps.length pc1, .slice dp1 ds.length dc1] 66 (0, 0)) := by rw [← hW2]; exact World.alloc_heap_new _ _
  have HX3 := hide hx3
  have HB2 := hide (b1.trans (hb2.mono b1.size))
  have HB12 := hide hb2
  obtain ⟨y0, y1, y2, y3, y4, y5, y6, y7⟩ := unhide HC W2 (unhide HB2)
  have HEQ := hide heq
  clear op1 od1 b1 hb2 hx3 heq
  go_wp2_with fail
  refine Calls.mono (unhide HR W2 (unhide HB2)) ?_
  rintro e w3 ⟨p2, d2, kd2, er2, rfl, ps2, ds2, heq2, op2, od2, b3⟩
  rw [unhide HEQ] at heq2
  simp only [Prod.mk.injEq] at heq2
  obtain ⟨rfl, rfl, rfl, rfl⟩ := heq2
  have HO2 := hide (And.intro op2 od2)
  have HB3 := hide b3
  obtain ⟨pp2, pc2, rfl⟩ := ownsV_shape op2
  obtain ⟨dp2, dc2, rfl⟩ := ownsV_shape od2
  obtain ⟨W4, hW4⟩ : ∃ W4, w3.alloc (.cells #[.int .i64 kd, .slice pp2 ps.length pc2, .slice dp2 ds.length dc2] 66) = W4 := ⟨_, rfl⟩
  have hb4 : Below w3.heap.size w3 W4 := by rw [← hW4]; exact (Below.refl _ _).alloc (Nat.le_refl _) _
  have hx4 : W4.heap[w3.heap.size]? = some (.cells #[.int .i64 kd, .slice pp2 ps.length pc2, .slice dp2 ds.length dc2] 66 (0, 0)) := by rw [← hW4]; exact World.alloc_heap_new _ _
  have hb24 : Below W2.heap.size W2 W4 := b3.trans (hb4.mono b3.size)
  have hx3' := (hb24.block _ (Array.getElem?_eq_some_iff.1 (unhide HX3)).1).trans (unhide HX3)
  obtain ⟨z0, z1, z2, _⟩ := three_cells hx3'
  obtain ⟨u0, u1, u2, _⟩ := three_cells hx4
  have HOB := hide (hobject_any kd ps ds _ _ _ _ W4 (((ownsV_row (unhide HO1).1 (by simp)).below (unhide HB12)).below hb24) (((ownsV_row (unhide HO1).2 (by simp)).below (unhide HB12)).below hb24) ((ownsV_row (unhide HO2).1 (by simp)).below hb4) ((ownsV_row (unhide HO2).2 (by simp)).below hb4))
  have HB4 := hide ((unhide HB2).trans (hb24.mono (unhide HB2).size))
  clear op2 od2 b3 hb4 hx4 hb24 hx3' y0 y1 y2 y3 y4 y5 y6 y7
  go_wp2_with fail
  refine Calls.mono (unhide HOB) ?_
  rintro e w5 ⟨rfl, b5⟩
  have HB5 := hide ((unhide HB4).trans (b5.mono (unhide HB4).size))
  clear b5 z0 z1 z2 u0 u1 u2
  go_wp2_with fail
  go_ret
  exact ⟨rfl, unhide HE _ (unhide HB5)⟩
end Go.Proofs.YtlbhhdldeaehkaaGreat

/- The statements' own functions of layer 16: step: Make. -/
namespace Go.Proofs.YtlbhhdldeaehkaaGreat
open Go.RowKit

set_option maxRecDepth 20000 in
set_option maxHeartbeats 4000000 in
theorem step_make (w : World) (ga gr n : Nat) (a : List Int × List Int) (C : Nat → Prop) (p d : Option Addr) (cp cd : Nat) (k at' i sl k2 v : Int) (ps ds : List Int) (hA : TwoA ga gr n a C w) (q1 : (k == 1) = false) (q2 : (k == 2) = false) (q3 : (k == 3) = false) (q4 : (k == 4) = false)
    (hp : VRow w (.slice p ps.length cp) (Iw ps)) (hd : VRow w (.slice d ds.length cd) (Uw ds)) (hU : U32 ds) (hpn : ps ≠ [] → ∀ x, C x → (.slice p ps.length cp : Value).ownBlock ≠ some x) (hdn : ds ≠ [] → ∀ x, C x → (.slice d ds.length cd : Value).ownBlock ≠ some x)
    (hl1 : ps.length * 8 ≤ 140737488351232) (hl2 : ds.length * 4 ≤ 140737488351232) :
    Calls Tryz.prog 10 #[.pointer (some ⟨ga, 0, none⟩), .pointer (some ⟨gr, 0, none⟩), .agg #[.int .i64 k, .int .i64 at', .int .i64 i, .int .i64 sl, .int .i64 k2, .int .u32 v, .slice p ps.length cp, .slice d ds.length cd]] w (StepD ga gr n C w) := by
  have hmx : Tryz.prog.follows .mixedOrders = true := by kernel_rfl
  obtain ⟨W0, hW0⟩ : ∃ W0, w.alloc (.cells #[.int .i64 k, .int .i64 at', .int .i64 i, .int .i64 sl, .int .i64 k2, .int .u32 v, .slice p ps.length cp, .slice d ds.length cd] 35) = W0 := ⟨_, rfl⟩
  have hb0 : Below w.heap.size w W0 := by rw [← hW0]; exact (Below.refl _ _).alloc (Nat.le_refl _) _
  have hx8 : W0.heap[w.heap.size]? = some (.cells #[.int .i64 k, .int .i64 at', .int .i64 i, .int .i64 sl, .int .i64 k2, .int .u32 v, .slice p ps.length cp, .slice d ds.length cd] 35 (0, 0)) := by rw [← hW0]; exact World.alloc_heap_new _ _
  obtain ⟨y0, y1, y2, y3, y4, y5, y6, y7⟩ := op_cells hx8
  have hclt := (TwoX.ok ga gr n a a).lt C w hA
  have hA0 := (TwoX.ok ga gr n a a).below hA hb0
  have HC := hide (fun (X : World) (hk : ∃ G, Keep G W0 X ∧ ¬ G w.heap.size) => op_cells (show X.heap[w.heap.size]? = _ from by obtain ⟨G, hk, hn⟩ := hk; exact (hk.block _ (Array.getElem?_eq_some_iff.1 hx8).1 hn).trans hx8))
  have H0 := hide (And.intro hA0 (And.intro hclt hb0))
  have HP := hide (And.intro (hp.below hb0) (And.intro (hd.below hb0) (And.intro hpn hdn)))
  have HU := hide hU
  have HL := hide (And.intro hl1 hl2)
  have hJc : ∀ (s : Nat → Bool) (u : Nat → Value) (Xi : World), Inv2 2 5 (fun X => Below W0.heap.size W0 X) (fun v X => Below W0.heap.size W0 X ∧ ∃ gp, v = .slice (some ⟨gp, 0, none⟩) ps.length (ps.length + 3) ∧ W0.heap.size ≤ gp ∧ HInt.Owned X gp ps 71)
      (fun v v' X => Below W0.heap.size W0 X ∧ (∃ gp, v = .slice (some ⟨gp, 0, none⟩) ps.length (ps.length + 3) ∧ W0.heap.size ≤ gp ∧ HInt.Owned X gp ps 71) ∧ ∃ gd, v' = .slice (some ⟨gd, 0, none⟩) ds.length (ds.length + 3) ∧ W0.heap.size ≤ gd ∧ HU32.Owned X gd ds 71) s u Xi → Below W0.heap.size W0 Xi := fun s u Xi hi => hi.all (fun X h => h) (fun v X h => h.1) (fun v v' X h => h.1)
  have HCI := hide (fun (s : Nat → Bool) (u : Nat → Value) (Xi : World) (hi : Inv2 2 5 _ _ _ s u Xi) => unhide HC Xi ⟨fun _ => False, Keep.of_below (hJc s u Xi hi), id⟩)
  clear hA hb0 hx8 hp hd hU hpn hdn hl1 hl2 hclt hA0 hJc
  go_enter Tryz.func10, Tryz.ntmps10
  go_wp2_with fail
  refine region_acts 6 (fun i => i == 2 || i == 5) (Inv2 2 5 (fun X => Below W0.heap.size W0 X) (fun v X => Below W0.heap.size W0 X ∧ ∃ gp, v = .slice (some ⟨gp, 0, none⟩) ps.length (ps.length + 3) ∧ W0.heap.size ≤ gp ∧ HInt.Owned X gp ps 71)
      (fun v v' X => Below W0.heap.size W0 X ∧ (∃ gp, v = .slice (some ⟨gp, 0, none⟩) ps.length (ps.length + 3) ∧ W0.heap.size ≤ gp ∧ HInt.Owned X gp ps 71) ∧ ∃ gd, v' = .slice (some ⟨gd, 0, none⟩) ds.length (ds.length + 3) ∧ W0.heap.size ≤ gd ∧ HU32.Owned X gd ds 71)) hmx (by kernel_rfl) ?i0 ?_
  case i0 => exact Or.inr (Or.inr ⟨rfl, rfl, by subst hW0; exact (Below.refl _ _).drew⟩)
  intro u
  simp only [List.take_succ_cons, List.take_zero]
  lexq HCI
  lexq HCI
  refine lexM_act (by rfl) (by kernel_rfl) (inv2_first (by decide) (fun X hX => ?_)) ?_
  · go_simp
    refine actUpon_enter ((HInt.own_any _ ps 71 X ((unhide HP).1.below hX) (by have := unhide HL; omega)).mono ?_)
    rintro e w1 ⟨gp, rfl, hg, ho, b1⟩
    exact ⟨_, rfl, hX.trans (b1.mono hX.size), gp, rfl, Nat.le_trans hX.size hg, ho⟩
  simp only [Act.put, List.setIfInBounds_toArray, List.set_cons_zero, List.set_cons_succ]
  lexq HCI
  lexq HCI
  refine lexM_act (by rfl) (by kernel_rfl) (inv2_second (by decide) ⟨{ on := 2, ground := .chain }, by simp, by rfl, by rfl⟩ (by rfl) (fun v X hX => ?_)) ?_
  · go_simp
    obtain ⟨hX, gp, rfl, hgp, hop⟩ := hX
    refine actUpon_enter ((HU32.own_any _ ds 71 X ((unhide HP).2.1.below hX) (by have := unhide HL; omega)).mono ?_)
    rintro e w1 ⟨gd, rfl, hg, ho, b1⟩
    exact ⟨_, rfl, hX.trans (b1.mono hX.size), ⟨gp, rfl, hgp, hop.below b1⟩, gd, rfl, Nat.le_trans hX.size hg, ho⟩
  simp only [Act.put, List.setIfInBounds_toArray, List.set_cons_zero, List.set_cons_succ]
  refine lexM_nil fun W1 hi => ?_
  simp only [List.drop_succ_cons, List.drop_zero]
  obtain ⟨hb1, ⟨gp, e1, hgp, hop⟩, gd, e2, hgd, hod⟩ := hi.end (by rfl)
  generalize hu2 : u 2 = t2 at *
  generalize hu5 : u 5 = t5 at *
  subst e1 e2
  obtain ⟨hA0, hclt, hbw⟩ := unhide H0
  obtain ⟨hp, hd, hpn, hdn⟩ := unhide HP
  have hA1 := (TwoX.ok ga gr n a a).below hA0 hb1
  obtain ⟨C1, C2, h1, h2, h3, h4⟩ := hA1
  have hsz0 : w.heap.size ≤ W0.heap.size := hbw.size
  have hng : ∀ x, C x → x ≠ gp ∧ x ≠ gd := fun x hx => by have := hclt x hx; omega
  obtain ⟨hl1, hl2⟩ := unhide HL
  have HMK := hide (amake_any C1 W1 ga n a.1 a.2 ps ds k2 _ _ h1 (hop.row (by unfold maxLen; omega)) (hod.row (by unfold maxLen; omega)) (unhide HU) (fun _ x hx e => (hng x ((h4 x).2 (Or.inl hx))).1 (by simp [Value.ownBlock] at e; exact e.symm)) (fun _ x hx e => (hng x ((h4 x).2 (Or.inl hx))).2 (by simp [Value.ownBlock] at e; exact e.symm)) (by omega) (by omega))
  have HS := hide (And.intro h1 (And.intro h2 (And.intro h3 h4)))
  have HO := hide (And.intro hop (And.intro hod (And.intro hgp hgd)))
  have HB1 := hide hb1
  have HNG := hide hng
  have HX : Hid (∀ (X : World) (D : Nat → Prop), Moves C D W1 X → (X.heap[w.heap.size]? = W0.heap[w.heap.size]? ∧ VRow X (.slice p ps.length cp) (Iw ps) ∧ VRow X (.slice d ds.length cd) (Uw ds) ∧ HInt.Owned X gp ps 71 ∧ HU32.Owned X gd ds 71) ∧ ((ps ≠ [] → ∀ x, D x → (.slice p ps.length cp : Value).ownBlock ≠ some x) ∧ (ds ≠ [] → ∀ x, D x → (.slice d ds.length cd : Value).ownBlock ≠ some x) ∧ ∀ x, D x → x ≠ gd)) := fun X D hm => by
    have hszw : w.heap.size < W0.heap.size := by rw [← hW0, World.size_alloc]; omega
    refine ⟨⟨(hm.keep.block _ (by have := hb1.size; omega) (fun hc => by have := hclt _ hc; omega)).trans (hb1.block _ hszw), (hp.below hb1).keep hm.keep (fun b off c e hne hf => hpn (fun h => hne (by rw [h]; rfl)) b hf (by rw [e]; rfl)), (hd.below hb1).keep hm.keep (fun b off c e hne hf => hdn (fun h => hne (by rw [h]; rfl)) b hf (by rw [e]; rfl)), (hm.keep.block gp hop.lt (fun hc => (hng _ hc).1 rfl)).trans hop, (hm.keep.block gd hod.lt (fun hc => (hng _ hc).2 rfl)).trans hod⟩, fun hne x hx e => ?_, fun hne x hx e => ?_, fun x hx e => ?_⟩
    · rcases hm.sub x hx with h | h
      · exact hpn hne x h e
      · have := hs_block hp (fun h => hne (List.map_eq_nil_iff.1 h)) x e; have := hb1.size; omega
    · rcases hm.sub x hx with h | h
      · exact hdn hne x h e
      · have := hs_block hd (fun h => hne (List.map_eq_nil_iff.1 h)) x e; have := hb1.size; omega
    · rcases hm.sub x hx with h | h
      · exact (hng x h).2 e
      · have := hod.lt; omega
  have HCX := hide (fun (X : World) (e : X.heap[w.heap.size]? = W0.heap[w.heap.size]?) => op_cells (e.trans (show W0.heap[w.heap.size]? = _ from by rw [← hW0]; exact World.alloc_heap_new _ _)))
  have HM0 := hide (show Moves C C w W1 from Moves.of_below (hbw.trans (hb1.mono hbw.size)))
  have HGD := hide (show w.heap.size ≤ gd from by omega)
  obtain ⟨y0, y1, y2, y3, y4, y5, y6, y7⟩ := unhide HC W1 ⟨fun _ => False, Keep.of_below hb1, id⟩
  obtain ⟨M, hM⟩ : ∃ M, makeP n a.1 (k2, ps, ds) = M := ⟨_, rfl⟩
  rw [hM] at HMK
  have HMM := hide hM
  clear hi hb1 hop hod hgp hgd hu2 hu5 hA0 hclt hbw hp hd hpn hdn h1 h2 h3 h4 hsz0 hng hl1 hl2 hM HCI
  go_wp2_with fail
  refine Calls.mono (unhide HMK) ?_
  rintro e w2 ⟨rfl, C1', hA2, hm2⟩
  obtain ⟨h1, h2, h3, h4⟩ := unhide HS
  have hS2 := Star.left (I' := fun F w => AR F w ga n M.2 a.2) (RA.owok gr n a.1 a.2) h2 h3 h4 hA2 hm2
  obtain ⟨⟨x1, x2, x3, x4, x5⟩, x6, x7, x8⟩ := unhide HX w2 _ hS2.2
  obtain ⟨y0, y1, y2, y3, y4, y5, y6, y7⟩ := unhide HCX w2 x1
  obtain ⟨⟨D1, D2, r1, r2, r3, r4⟩, m12⟩ := hS2
  have HRM := hide (rmake16_any D2 w2 gr n a.1 a.2 ps ds k2 _ _ r2 x2 x3 (unhide HU) (fun hne x hx => x6 hne x ((r4 x).2 (Or.inr hx))) (fun hne x hx => x7 hne x ((r4 x).2 (Or.inr hx))) (by have := unhide HL; omega) (by have := unhide HL; omega))
  rw [unhide HMM] at HRM
  have HS2 := hide (And.intro r1 (And.intro r3 (And.intro r4 m12)))
  clear h1 h2 h3 h4 hA2 hm2 x1 x2 x3 x4 x5 x6 x7 x8 r1 r2 r3 r4 m12 HMK
  go_wp2_with fail
  refine Calls.mono (unhide HRM) ?_
  rintro e w3 ⟨rfl, C2', hA3, hm3⟩
  obtain ⟨r1, r3, r4, m12⟩ := unhide HS2
  have hS3 := Star.right (J' := fun F w => RA F w gr n M.2 a.2) (AR.owok ga n M.2 a.2) r1 r3 r4 hA3 hm3
  obtain ⟨hT3, m23⟩ := hS3
  have m13 := m12.trans m23
  generalize hD3 : (fun k => D1 k ∨ C2' k) = D3 at *
  obtain ⟨⟨x1, x2, x3, x4, x5⟩, x6, x7, x8⟩ := unhide HX w3 _ m13
  obtain ⟨y0, y1, y2, y3, y4, y5, y6, y7⟩ := unhide HCX w3 x1
  have HT3 := hide (And.intro hT3 m13)
  have HR3 := hide (And.intro x2 (And.intro x3 (And.intro x4 x5)))
  have HG3 := hide x8
  have HX1 := hide x1
  clear r1 r3 r4 m12 hA3 hm3 hT3 m23 m13 x1 x2 x3 x4 x5 x6 x7 x8 hD3
  go_wp2_with fail
  refine Calls.mono (HInt.kept_any gp _ ps 71 w3 (unhide HR3).2.2.1 (unhide HR3).1 (by have := unhide HL; omega)) ?_
  rintro e w4 ⟨rfl, b4⟩
  have HB4 := hide b4
  obtain ⟨y0, y1, y2, y3, y4, y5, y6, y7⟩ := unhide HCX w4 ((b4.block _ (Nat.lt_of_lt_of_le (show w.heap.size < W1.heap.size from by have := (unhide HO).1.lt; have := (unhide HB1).size; have : w.heap.size < W0.heap.size := (by rw [← hW0, World.size_alloc]; omega); omega) (unhide HT3).2.keep.size)).trans (unhide HX1))
  clear b4
  go_wp2_with fail
  refine Calls.mono (HU32.kept_any gd _ ds 71 w4 ((unhide HR3).2.2.2.below (unhide HB4)) ((unhide HR3).2.1.below (unhide HB4)) (by have := unhide HL; omega)) ?_
  rintro e w5 ⟨rfl, b5⟩
  have HB5 := hide ((unhide HB4).trans (b5.mono (unhide HB4).size))
  clear b5 y0 y1 y2 y3 y4 y5 y6 y7
  go_wp2_with fail
  go_loopw [17] (fun iv wr => ∃ (j : Nat) (cur : Array Value), iv = .int .i64 (j : Int) ∧ j ≤ ds.length ∧ wr.heap[gd]? = some (.cells cur 31 (0, 0)) ∧ ds.length ≤ cur.size ∧ Keep (fun x => x = gd) w5 wr) (fun iv _ => ds.length - (intOf iv).toNat)
  case atStart =>
    refine ⟨0, _, rfl, Nat.zero_le _, (unhide HR3).2.2.2.below (unhide HB5), ?_, Keep.refl _ _⟩
    simp
  case round =>
    obtain ⟨j, cur, rfl, hj, hh, hcs, hkp⟩ := hrel
    by_cases hlt : j < ds.length
    · have hjI : (j : Int) < (ds.length : Int) := by omega
      obtain ⟨cv0, hcell⟩ : ∃ u, wr.cell? ⟨gd, j, none⟩ = some u := ⟨cur[j]'(by omega), by
        rw [cell_of_row wr gd j cur _ (0, 0) hh]; exact Array.getElem?_eq_getElem (by omega)⟩
      have hfz : wr.frozen? ⟨gd, j, none⟩ = false := frozen_of_block hh
      have HS9 := hide (heap_setCell_same wr gd j cur _ (.int .u32 98) hh)
      have HK9 := hide (hkp.trans (keep_set wr gd j (.int .u32 98)) (fun b e => Or.inl e))
      have HCS := hide hcs
      have HLT := hide hlt
      have hnw : IntKind.i64.wrap ((j : Int) + 1) = (j : Int) + 1 := by have := unhide HL; rw [IntKind.wrap_i64]; omega
      clear hkp hh hcs hj hlt
      go_wp2_with fail
      go_roundw
      case rel => exact ⟨j + 1, _, by go_num, unhide HLT, unhide HS9, by rw [Array.size_setIfInBounds]; exact unhide HCS, unhide HK9⟩
      case measure => (have := unhide HLT; simp [intOf]; omega)
    · have hge : (ds.length : Int) ≤ (j : Int) := by omega
      have HE : Hid (∃ b C', TwoA ga gr n b C' wr ∧ Moves C C' w wr) := by
        obtain ⟨hT3, m13⟩ := unhide HT3
        have m := ((unhide HM0).trans m13).trans (Moves.of_below (unhide HB5))
        refine ⟨(M.2, a.2), D3, (TwoX.ok ga gr n _ _).stays _ _ _ _ ((TwoX.ok ga gr n _ _).below hT3 (unhide HB5)) hkp (fun x hx => unhide HG3 x hx), ?_, m.sub⟩
        exact m.keep.trans hkp (fun x hx => Or.inr (by rw [hx]; exact unhide HGD))
      clear hh hcs hkp hj hlt
      go_wp2_with fail
      go_ret
      exact ⟨rfl, unhide HE⟩
end Go.Proofs.YtlbhhdldeaehkaaGreat
