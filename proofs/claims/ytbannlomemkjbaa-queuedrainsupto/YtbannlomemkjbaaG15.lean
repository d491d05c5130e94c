/- Texts of ours, one behind the other: QDrained. -/
import Derived.Test.YtbannlomemkjbaaG13
/- Layer 8's statements: drained. -/
namespace Go.Proofs.Ytbannlomemkjbaa
open Go.RowKit Go.Shelf
attribute [local go_sem] Oper.semAt_some

/-- What was told so far, and how much may be. -/
def OutM (B B3 M : Nat) (pre : List It) (C : Nat → Prop) (W : World) : Prop :=
  ∃ Ci, Out B pre Ci W ∧ W.heap[B3]? = some (.cells #[.int .i64 (M : Int)] 3 (0, 0)) ∧ ¬ Ci B3 ∧ (∀ k, C k ↔ Ci k ∨ k = B3) ∧ ∀ k, Ci k → B3 ≤ k
theorem OutM.ok (B B3 M : Nat) : JOk (OutM B B3 M) := by
  refine ⟨fun pre C W W' G h hk hn => ?_, fun pre C W h k hc => ?_⟩
  · obtain ⟨Ci, h1, h2, h3, h4, h5⟩ := h
    exact ⟨Ci, (Out.ok B).stays _ _ _ _ G h1 hk (fun k hc => hn k ((h4 k).2 (Or.inl hc))), (hk.block B3 (Array.getElem?_eq_some_iff.1 h2).1 (hn B3 ((h4 B3).2 (Or.inr rfl)))).trans h2, h3, h4, h5⟩
  · obtain ⟨Ci, h1, h2, h3, h4, h5⟩ := h
    rcases (h4 k).1 hc with h | h
    · exact (Out.ok B).lt _ _ _ h1 k h
    · rw [h]; exact (Array.getElem?_eq_some_iff.1 h2).1
def OutL (B B3 M : Nat) (pre : List It) (C : Nat → Prop) (W : World) : Prop := OutM B B3 M pre C W ∧ pre.length < M
theorem OutL.ok (B B3 M : Nat) : JOk (OutL B B3 M) := ⟨fun _ _ _ _ G h hk hn => ⟨(OutM.ok B B3 M).stays _ _ _ _ G h.1 hk hn, h.2⟩, fun _ _ _ h => (OutM.ok B B3 M).lt _ _ _ h.1⟩
def OutX (B B3 M : Nat) (c : Code) (pre : List It) (C : Nat → Prop) (W : World) : Prop := OutM B B3 M pre C W ∧ pre.length = M ∧ c = .exit 0
theorem OutX.ok (B B3 M : Nat) (c : Code) : JOk (OutX B B3 M c) := ⟨fun _ _ _ _ G h hk hn => ⟨(OutM.ok B B3 M).stays _ _ _ _ G h.1 hk hn, h.2⟩, fun _ _ _ h => (OutM.ok B B3 M).lt _ _ _ h.1⟩
def Out2 (B B3 M : Nat) (fa : It → Nat → Act) (pre : List It) (x : It) (a' : Act) (C : Nat → Prop) (W : World) : Prop :=
  ∃ bx Ci, OutL B B3 M pre Ci W ∧ W.heap[bx]? = some (.cells #[.int .i64 x.1, .string x.2] 26 (0, 0)) ∧ ¬ Ci bx ∧ (∀ k, C k ↔ Ci k ∨ k = bx) ∧ a' = fa x bx
theorem Out2.ok (B B3 M : Nat) (fa : It → Nat → Act) (x : It) (a' : Act) : JOk (fun pre => Out2 B B3 M fa pre x a') := by
  refine ⟨fun pre C W W' G h hk hn => ?_, fun pre C W h k hc => ?_⟩
  · obtain ⟨bx, Ci, h1, h2, h3, h4, h5⟩ := h
    exact ⟨bx, Ci, (OutL.ok B B3 M).stays _ _ _ _ G h1 hk (fun k hc => hn k ((h4 k).2 (Or.inl hc))), (hk.block bx (Array.getElem?_eq_some_iff.1 h2).1 (hn bx ((h4 bx).2 (Or.inr rfl)))).trans h2, h3, h4, h5⟩
  · obtain ⟨bx, Ci, h1, h2, h3, h4, h5⟩ := h
    rcases (h4 k).1 hc with h | h
    · exact (OutL.ok B B3 M).lt _ _ _ h1 k h
    · rw [h]; exact (Array.getElem?_eq_some_iff.1 h2).1

/-- What drained leaves. -/
def DrainedPost (lt : It → It → Bool) (F0 : Nat → Prop) (w : World) (q n M : Nat) (f : Value) (Z : List It) (v : Value) (w' : World) : Prop :=
  ∃ F, w'.ownsRow 0 26 2 v (Z.take M).length (cellsI (Z.take M)) ∧ (∀ k, v.ownBlock = some k → w.heap.size ≤ k ∧ ¬ F k) ∧ QAt F w' q f lt (Z.drop M) n ∧ Moves F0 F w w'

set_option maxRecDepth 20000 in
set_option maxHeartbeats 2000000 in
theorem drained_any (lt : It → It → Bool) (F0 : Nat → Prop) (w : World) (q n M : Nat) (f : Value) (Z : List It) (hQ : QAt F0 w q f lt Z n) (hZ : Z.length ≤ 1048576) (hM : 0 < M) (hM2 : M ≤ 1048580) :
    Calls Try.prog 16 #[.pointer (some ⟨q, 0, none⟩), .int .i64 (M : Int)] w fun e w' => ∃ v, e = .returned (.tuple #[v, .bool true]) ∧ DrainedPost lt F0 w q n M f Z v w' := by
  refine (callsIn_wide (n := 3)).1 ?_
  refine callsIn_of_wp_marks Try.func16 rfl trivial ?_ rfl
  simp only [Try.ntmps16, List.size_toArray, List.length_cons, List.length_nil, Nat.reduceAdd, Nat.reduceSub, Array.replicate_succ, Array.replicate_zero, List.push_toArray, List.append_toArray, List.nil_append, List.cons_append]
  obtain ⟨is, his, hs0, hs1, hs2⟩ := info_parts Try.info26
  have hnf : ∀ (k : Nat) (a b : Array Value) (W : World), (binOp .eql 67 (.func (.func k) a b) .nilFunc).run Try.prog W = .ok (.bool false) W := fun _ _ _ _ => rfl
  have hb0 : Below w.heap.size w (w.alloc (.cells #[.int .i64 (M : Int)] 3)) := (Below.refl _ _).alloc (Nat.le_refl _) _
  have HQ0 := hide (hQ.below hb0)
  have hFw := hQ.lt
  have HB0 := hide hb0
  have HN0 := hide (heap_alloc_new w (.cells #[.int .i64 (M : Int)] 3))
  have HZ := hide hZ
  have HM := hide hM
  have hMI : (M : Int) ≤ 1048580 := by omega
  have hMI0 : (0 : Int) < (M : Int) := by omega
  clear hQ hb0 hZ hM hM2
  gi_wp2_with fail
  refine ⟨trivial, (callsIn_wide.2 (qdrain_any _ (some ⟨q, 0, none⟩))).mono ?_⟩
  rintro e w1 ⟨rfl, hBn, b1⟩
  rw [World.size_alloc] at hBn
  have hQ1 := (unhide HQ0).below b1
  have hN1 := (b1.block w.heap.size (by simp)).trans (unhide HN0)
  have hB1 := (unhide HB0).trans (b1.mono (unhide HB0).size)
  have hs1' := b1.size
  rw [World.size_alloc] at hs1'
  have hBl := World.block_lt_of_cell? w1 _ hBn
  have hBl' : w.heap.size + 1 < w1.heap.size := hBl
  have hb2 : Below w1.heap.size w1 (w1.alloc (.cells #[.slice none 0 0] 29)) := (Below.refl _ _).alloc (Nat.le_refl _) _
  have HQ2 := hide (hQ1.below hb2)
  have HN2 := hide ((hb2.block w.heap.size (by omega)).trans hN1)
  have HBN2 := hide ((hb2.cell (p := ⟨w.heap.size + 1, 0, none⟩) hBl).trans hBn)
  have HO2 : Hid (Out w1.heap.size [] (QF w1.heap.size (.slice none 0 0)) (w1.alloc (.cells #[.slice none 0 0] 29))) := ⟨_, heap_alloc_new w1 _, World.ownsRow_nil _ _ _ _, (by simp [Value.ownBlock]), fun _ => Iff.rfl⟩
  have HB2 := hide (hB1.trans (hb2.mono hB1.size))
  clear b1 hQ1 hN1 hBn hBl hb2 HQ0 HB0 HN0
  gi_wp2_with fail
  have hO2 : OutL w1.heap.size w.heap.size M [] (fun k => QF w1.heap.size (.slice none 0 0) k ∨ k = w.heap.size) (w1.alloc (.cells #[.slice none 0 0] 29)) := ⟨⟨_, unhide HO2, unhide HN2, (fun h => by
    rcases h with h | h
    · omega
    · simp [Value.ownBlock] at h), fun _ => Iff.rfl, fun k hk => by
    rcases hk with hk | hk
    · omega
    · simp [Value.ownBlock] at hk⟩, unhide HM⟩
  refine wpIn_drain (Bn := w.heap.size + 1) (q := q) (lt := lt) (f := f) (n := n) (Z := Z) rfl rfl (OutL w1.heap.size w.heap.size M) (Out2 w1.heap.size w.heap.size M (fun x bx => { tmps := #[.pointer (some ⟨q, 0, none⟩), .int .i64 (M : Int), undef, .pointer (some ⟨w.heap.size, 0, none⟩), .slice none 0 0, .bool false, .func (.func 48) #[] #[.pointer (some ⟨w.heap.size + 1, 0, none⟩)], .pointer (some ⟨w1.heap.size, 0, none⟩), .pointer (some ⟨bx, 0, none⟩), .pointer (some ⟨q, 0, none⟩), .func (.func 48) #[] #[.pointer (some ⟨w.heap.size + 1, 0, none⟩)], .func (.func 48) #[] #[.pointer (some ⟨w.heap.size + 1, 0, none⟩)], .bool false, .func (.func 48) #[] #[.pointer (some ⟨w.heap.size + 1, 0, none⟩)], .agg #[.int .i64 x.1, .string x.2], undef, undef, undef, undef, undef, undef, undef, undef, undef, undef, undef, undef, undef], defers := [] })) (OutX w1.heap.size w.heap.size M) (OutL.ok _ _ _) (Out2.ok _ _ _ _) (unhide HBN2) hO2 (unhide HQ2) ?_ ?_ ?_ ?assign ?body ?ixok ?done ?stop
  · intro k hf hc
    have := hFw k hf
    rcases hc with (hc | hc) | hc
    · omega
    · simp [Value.ownBlock] at hc
    · omega
  · intro hc
    rcases hc with (hc | hc) | hc
    · omega
    · simp [Value.ownBlock] at hc
    · omega
  · intro hf
    have := hFw _ hf
    omega
  case assign =>
    intro ll pre C x W K hi hK
    gi_wp2
    have hb : Below W.heap.size W (W.alloc (.cells #[.int .i64 x.1, .string x.2] 26)) := (Below.refl _ _).alloc (Nat.le_refl _) _
    refine hK _ (fun k => C k ∨ k = W.heap.size) _ ⟨W.heap.size, C, (OutL.ok _ _ _).stays _ _ _ _ (fun _ => False) hi (Keep.of_below hb) (fun _ _ => id), heap_alloc_new W _, fun hc => by have := (OutL.ok _ _ _).lt _ _ _ hi _ hc; omega, fun _ => Iff.rfl, rfl⟩ ⟨Keep.of_below hb, fun k hk => ?_⟩
    rcases hk with hk | hk
    · exact Or.inl hk
    · exact Or.inr (by omega)
  case body =>
    rintro ll pre C x a' W ⟨bx, Cl, ⟨⟨Ci, ⟨v, o1, o2, o3, o4⟩, oM, oN, oC, oL⟩, hlM⟩, hbx, hnb, hCC, rfl⟩ hlen
    have hlen2 : pre.length < 1048576 := by have := unhide HZ; omega
    have HLN := hide hlen2
    have HLM := hide hlM
    obtain ⟨pv, cv, rfl⟩ : ∃ pv cv, v = .slice pv pre.length cv := by
      rcases o2.2 with ⟨h', h0⟩ | ⟨g', cap', cur, h', _⟩
      · exact ⟨none, 0, by rw [h', h0]⟩
      · exact ⟨_, _, h'⟩
    have d0 : W.cell? ⟨w1.heap.size, 0, none⟩ = some (.slice pv pre.length cv) := by rw [cell_of_row W w1.heap.size _ _ _ (0, 0) o1]; rfl
    have dM : W.cell? ⟨w.heap.size, 0, none⟩ = some (.int .i64 (M : Int)) := by rw [cell_of_row W w.heap.size _ _ _ (0, 0) oM]; rfl
    have x0 : W.cell? ⟨bx, 0, none⟩ = some (.int .i64 x.1) := by rw [cell_of_row W bx _ _ _ (0, 0) hbx]; rfl
    have x1 : W.cell? ⟨bx, 1, none⟩ = some (.string x.2) := by rw [cell_of_row W bx _ _ _ (0, 0) hbx]; rfl
    have hbW : Below W.heap.size W (W.alloc (.cells #[.int .i64 x.1, .string x.2] 26)) := (Below.refl _ _).alloc (Nat.le_refl _) _
    have HO2' := hide (owns_keep (F := fun _ => False) o2 (Keep.of_below hbW) (fun _ _ => id))
    have HO1 := hide o1
    have HO3 := hide o3
    have HOM := hide oM
    have HON : Hid (¬ QF w1.heap.size (.slice pv pre.length cv) w.heap.size) := fun h => oN ((o4 _).2 h)
    have HCV : Hid (∀ k, QF w1.heap.size (.slice pv pre.length cv) k → C k) := fun k hk => (hCC k).2 (Or.inl ((oC k).2 (Or.inl ((o4 k).2 hk))))
    have HOL : Hid (∀ k, QF w1.heap.size (.slice pv pre.length cv) k → w.heap.size ≤ k) := fun k hk => oL k ((o4 k).2 hk)
    have HCM : Hid (C w.heap.size) := (hCC _).2 (Or.inl ((oC _).2 (Or.inr rfl)))
    have HBW := hide hbW
    have hBlW : w1.heap.size < W.heap.size := (Array.getElem?_eq_some_iff.1 o1).1
    have hlMI : (pre.length : Int) < (M : Int) := by omega
    have hlNI : (pre.length : Int) ≤ 1048576 := by omega
    clear hlen hlen2 o1 o2 o3 o4 hbx hnb hCC hbW oM oN oC hlM oL
    gi_wp2_with (first
      | (gi_at_builtin; refine wpListIn_append_gen rfl (.tmp 19) (.tmp 21) 29 rfl 0 26 is (.agg #[.int .i64 0, .string ⟨#[]⟩]) Try.underlying29 his hs0 2 24 (by omega) hs1 hs2 rfl (.slice pv pre.length cv) pre.length (cellsI pre) rfl (unhide HO2') ⟨W.heap.size, 0, none⟩ 1 1 (iC x) rfl rfl (by intro j u hj; match j, hj with | 0, hj => (simp [iC] at hj; subst hj; simp [Addr.add]) | 1, hj => (simp [iC] at hj; subst hj; simp [Addr.add])) (by intro u hu; simp [iC] at hu; rcases hu with rfl | rfl <;> rfl) (by have := unhide HLN; unfold maxLen; omega) (by have := unhide HLN; omega) (Nat.zero_le _) ?_))
    intro v2 w2 hown2 hgrow2 hob2
    have hblk2 := (hgrow2.block w1.heap.size (by simp; omega) (fun e => unhide HO3 e.symm)).trans (((unhide HBW).block w1.heap.size hBlW).trans (unhide HO1))
    have hMb2 := (hgrow2.block w.heap.size (by simp; omega) (fun e => unhide HON (Or.inr e.symm))).trans (((unhide HBW).block w.heap.size (by omega)).trans (unhide HOM))
    have y0 : w2.cell? ⟨w1.heap.size, 0, none⟩ = some (.slice pv pre.length cv) := by rw [cell_of_row w2 w1.heap.size _ _ _ (0, 0) hblk2]; rfl
    have yM : w2.cell? ⟨w.heap.size, 0, none⟩ = some (.int .i64 (M : Int)) := by rw [cell_of_row w2 w.heap.size _ _ _ (0, 0) hMb2]; rfl
    have yf : w2.frozen? ⟨w1.heap.size, 0, none⟩ = false := frozen_of_block hblk2
    rcases hown2.2 with ⟨_, h0⟩ | ⟨g2, cap2, cur2, e2, _⟩
    · exact absurd h0 (by omega)
    subst e2
    have hJ := Out.more (unhide HO1) (unhide HO3) (unhide HCV) (unhide HBW) hown2 hgrow2 (by rw [World.size_alloc]; exact hob2)
    have hne : ¬ w1.heap.size = w.heap.size := by omega
    have hg2 : ¬ QF w1.heap.size (.slice (some ⟨g2, 0, none⟩) (pre.length + 1) cap2) w.heap.size := fun h => by
      rcases h with h | h
      · exact hne h.symm
      · rcases hob2 with e | e
        · exact unhide HON (Or.inr (e ▸ h))
        · rw [e] at h; simp at h; omega
    have HJ : Hid (OutM w1.heap.size w.heap.size M (pre ++ [x]) (fun k => QF w1.heap.size (.slice (some ⟨g2, 0, none⟩) (pre.length + 1) cap2) k ∨ k = w.heap.size) (w2.setCell ⟨w1.heap.size, 0, none⟩ (.slice (some ⟨g2, 0, none⟩) (pre.length + 1) cap2)) ∧ Moves C (fun k => QF w1.heap.size (.slice (some ⟨g2, 0, none⟩) (pre.length + 1) cap2) k ∨ k = w.heap.size) W (w2.setCell ⟨w1.heap.size, 0, none⟩ (.slice (some ⟨g2, 0, none⟩) (pre.length + 1) cap2))) := by
      refine ⟨⟨_, hJ.1, ?_, hg2, fun _ => Iff.rfl, fun k hk => ?_⟩, hJ.2.keep, fun k hk => ?_⟩
      · exact (heap_setCell_other w2 ⟨w1.heap.size, 0, none⟩ w.heap.size _ (fun e => hne (by simp at e; exact e.symm))).trans hMb2
      · rcases hk with hk | hk
        · omega
        · rcases hob2 with e | e
          · exact unhide HOL k (Or.inr (e ▸ hk))
          · rw [e] at hk; simp at hk; omega
      · rcases hk with hk | hk
        · exact hJ.2.sub k hk
        · exact Or.inl (hk ▸ unhide HCM)
    clear hown2 hgrow2 hob2 hblk2 d0 x0 x1 dM hMb2 hJ hg2
    by_cases heq : pre.length + 1 = M
    · have heqI : (pre.length : Int) + 1 = (M : Int) := by omega
      have hbq : ((pre.length : Int) + 1 == (M : Int)) = true := by rw [beq_iff_eq]; exact heqI
      have HEQ := hide heq
      clear heq heqI
      gi_wp2_with fail
      exact ⟨_, ⟨(unhide HJ).1, by simp; exact unhide HEQ, rfl⟩, (unhide HJ).2⟩
    · have hbq : ((pre.length : Int) + 1 == (M : Int)) = false := by rw [beq_eq_false_iff_ne]; omega
      have HNE := hide heq
      clear heq
      gi_wp2_with fail
      exact ⟨_, ⟨(unhide HJ).1, by have := unhide HLM; have := unhide HNE; simp; omega⟩, (unhide HJ).2⟩
  case ixok => exact OutX.ok _ _ _
  case done =>
    rintro D C F2 W hD ⟨⟨Ci, ⟨v, o1, o2, o3, o4⟩, oM, oN, oc, oL⟩, hlM⟩ hq2 hdj hnC hnF hm hK
    have d0 : W.cell? ⟨w1.heap.size, 0, none⟩ = some v := by rw [cell_of_row W w1.heap.size _ _ _ (0, 0) o1]; rfl
    have HX : Hid (DrainedPost lt F0 w q n M f Z v (W.putObj D (.deferred none))) := by
      have hp := keep_putObj W D (.deferred none)
      have hs2 := (unhide HB2).size
      have hD' : w1.heap.size < D := by have := hD; rw [World.size_alloc] at this; omega
      have hC0b : ∀ k, (F0 k ∨ (QF w1.heap.size (.slice none 0 0) k ∨ k = w.heap.size)) → F0 k ∨ w.heap.size ≤ k := fun k hk => by
        rcases hk with hk | (hk | hk) | hk
        · exact Or.inl hk
        · exact Or.inr (by omega)
        · simp [Value.ownBlock] at hk
        · exact Or.inr (by omega)
      refine ⟨F2, ?_, fun k hk => ⟨oL k ((o4 k).2 (Or.inr hk)), fun hf => hdj k hf ((oc k).2 (Or.inl ((o4 k).2 (Or.inr hk))))⟩, ?_, ((Keep.of_below (F := F0) (unhide HB2)).trans hm.keep (fun k hk => hC0b k hk)).trans hp (fun k e => Or.inr (by omega)), fun k hk => ?_⟩
      · rw [List.take_of_length_le (Nat.le_of_lt hlM)]
        exact owns_keep o2 hp (fun k hk e => hnC ((oc D).2 (Or.inl ((o4 D).2 (Or.inr (e ▸ hk))))))
      · rw [List.drop_of_length_le (Nat.le_of_lt hlM)]
        exact hq2.keep hp (fun k hf e => hnF (e ▸ hf))
      · rcases hm.sub k (Or.inl hk) with h | h
        · exact hC0b k h
        · exact Or.inr (by omega)
    have HK := hide hK
    clear hq2 hdj hnC hnF hm hK o1 o2 o3 o4 oM oN oc oL
    gi_wp2
    refine ⟨by simp, .inl ⟨_, _, rfl, run_takeDeferred (unhide HK), ?_⟩⟩
    exact ⟨.tuple #[v, .bool true], (by simp [results, Try.results16, go_sem]), v, rfl, unhide HX⟩
  case stop =>
    rintro D c pre x rest C F2 W hD hZe ⟨⟨Ci, ⟨v, o1, o2, o3, o4⟩, oM, oN, oc, oL⟩, hlM, rfl⟩ hq2 hdj hnC hnF hm hK
    have hZ2 : Z = (pre ++ [x]) ++ rest := by rw [hZe]; simp
    have hZt : Z.take M = pre ++ [x] := by rw [hZ2, ← hlM, List.take_left]
    have hZd : Z.drop M = rest := by rw [hZ2, ← hlM, List.drop_left]
    have d0 : W.cell? ⟨w1.heap.size, 0, none⟩ = some v := by rw [cell_of_row W w1.heap.size _ _ _ (0, 0) o1]; rfl
    have HX : Hid (DrainedPost lt F0 w q n M f Z v (W.putObj D (.deferred none))) := by
      have hp := keep_putObj W D (.deferred none)
      have hs2 := (unhide HB2).size
      have hD' : w1.heap.size < D := by have := hD; rw [World.size_alloc] at this; omega
      have hC0b : ∀ k, (F0 k ∨ (QF w1.heap.size (.slice none 0 0) k ∨ k = w.heap.size)) → F0 k ∨ w.heap.size ≤ k := fun k hk => by
        rcases hk with hk | (hk | hk) | hk
        · exact Or.inl hk
        · exact Or.inr (by omega)
        · simp [Value.ownBlock] at hk
        · exact Or.inr (by omega)
      refine ⟨F2, ?_, fun k hk => ⟨oL k ((o4 k).2 (Or.inr hk)), fun hf => hdj k hf ((oc k).2 (Or.inl ((o4 k).2 (Or.inr hk))))⟩, ?_, ((Keep.of_below (F := F0) (unhide HB2)).trans hm.keep (fun k hk => hC0b k hk)).trans hp (fun k e => Or.inr (by omega)), fun k hk => ?_⟩
      · rw [hZt]
        exact owns_keep o2 hp (fun k hk e => hnC ((oc D).2 (Or.inl ((o4 D).2 (Or.inr (e ▸ hk))))))
      · rw [hZd]
        exact hq2.keep hp (fun k hf e => hnF (e ▸ hf))
      · rcases hm.sub k (Or.inl hk) with h | h
        · exact hC0b k h
        · exact Or.inr (by omega)
    have HK := hide hK
    clear hZe hZ2 hZt hZd hlM hq2 hdj hnC hnF hm hK o1 o2 o3 o4 oM oN oc oL
    gi_wp2
    refine ⟨by simp, .inl ⟨_, _, rfl, run_takeDeferred (unhide HK), ?_⟩⟩
    exact ⟨.tuple #[v, .bool true], (by simp [results, Try.results16, go_sem]), v, rfl, unhide HX⟩
end Go.Proofs.Ytbannlomemkjbaa
