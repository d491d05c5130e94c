/- Texts of ours, one behind the other: QAllPlain, QAll1, QAll2, QAll3. -/
import Derived.Test.YtbannlomemkjbaaG5
import Derived.Test.YtbannlomemkjbaaG9
import Derived.Test.YtbannlomemkjbaaG16
/- What comes out of two queues into which the same was pushed, as plain data. -/
namespace Go.Proofs.Ytbannlomemkjbaa
open Go.RowKit

theorem ins_perm {α : Type} (lt : α → α → Bool) (x : α) : ∀ Z : List α, (ins lt x Z).Perm (x :: Z) := by
  intro Z
  induction Z with
  | nil => exact List.Perm.refl _
  | cons y Z ih =>
    unfold ins
    split
    · exact List.Perm.refl _
    · exact ((ih.cons y).trans (List.Perm.swap x y Z))
theorem srt_perm_aux {α : Type} (lt : α → α → Bool) (l : List α) : ∀ Z : List α, (l.foldl (fun Z x => ins lt x Z) Z).Perm (l ++ Z) := by
  induction l with
  | nil => intro Z; exact List.Perm.refl _
  | cons x l ih =>
    intro Z
    refine (ih _).trans ?_
    refine ((ins_perm lt x Z).append_left l).trans ?_
    exact List.perm_middle
theorem srt_perm {α : Type} (lt : α → α → Bool) (l : List α) : (srt lt l).Perm l := by
  have := srt_perm_aux lt l []
  rwa [List.append_nil] at this
theorem sorted_perm_eq : ∀ (A B : List Int), A.Perm B → A.Pairwise (· ≤ ·) → B.Pairwise (· ≤ ·) → A = B := by
  intro A
  induction A with
  | nil => intro B h _ _; exact (List.nil_perm.1 h).symm
  | cons a A ih =>
    intro B h h1 h2
    cases B with
    | nil => exact absurd h.length_eq (by simp)
    | cons b B =>
      rw [List.pairwise_cons] at h1 h2
      have e1 : a ≤ b := by
        have : b ∈ a :: A := h.mem_iff.2 (by simp)
        rcases List.mem_cons.1 this with e | e
        · omega
        · exact h1.1 _ e
      have e2 : b ≤ a := by
        have : a ∈ b :: B := h.mem_iff.1 (by simp)
        rcases List.mem_cons.1 this with e | e
        · omega
        · exact h2.1 _ e
      have e : a = b := by omega
      subst e
      rw [ih B ((List.perm_cons a).1 h) h1.2 h2.2]
/-- The ranks of what comes out are the same, in whatever order it was pushed. -/
theorem ranks_same {l o : List It} (h : o.Perm l) : (srt lowI l).map (·.1) = (srt lowI o).map (·.1) := by
  refine sorted_perm_eq _ _ ?_ ?_ ?_
  · exact ((srt_perm lowI l).trans (h.symm.trans (srt_perm lowI o).symm)).map _
  · rw [List.pairwise_map]
    exact (srt_sorted lowI_order l).imp (fun {a b} h => by simp [lowI] at h; omega)
  · rw [List.pairwise_map]
    exact (srt_sorted lowI_order o).imp (fun {a b} h => by simp [lowI] at h; omega)
theorem ranks_at {l o : List It} (h : o.Perm l) (i : Nat) (h1 : i < (srt lowI l).length) (h2 : i < (srt lowI o).length) : (srt lowI l)[i].1 = (srt lowI o)[i].1 := by
  have e := ranks_same h
  have : ((srt lowI l).map (·.1))[i]? = ((srt lowI o).map (·.1))[i]? := by rw [e]
  simpa [h1, h2] using this
theorem ranks_up (l : List It) (i : Nat) (h1 : i + 1 < (srt lowI l).length) : (srt lowI l)[i].1 ≤ (srt lowI l)[i + 1].1 := by
  have := (List.pairwise_iff_getElem.1 (srt_sorted lowI_order l)) i (i + 1) (by omega) h1 (by omega)
  simp [lowI] at this
  exact this
theorem swap_gen {α : Type} [BEq α] [LawfulBEq α] (o : List α) (a b : Nat) (ha : a < o.length) (hb : b < o.length) : ((o.set a o[b]).set b o[a]).Perm o := by
  refine List.perm_iff_count.2 fun x => ?_
  rw [List.count_set (by simpa using hb), List.count_set ha]
  have c1 : (if (o[a] == x) = true then 1 else 0) ≤ o.count x := by
    split
    · rename_i h; have := List.count_pos_iff.2 (List.getElem_mem ha); rw [eq_of_beq h] at this; omega
    · omega
  by_cases e : a = b
  · subst e
    simp only [List.getElem_set_self]
    omega
  · rw [List.getElem_set_ne e]
    have c2 : (if (o[b] == x) = true then 1 else 0) ≤ o.count x := by
      split
      · rename_i h; have := List.count_pos_iff.2 (List.getElem_mem hb); rw [eq_of_beq h] at this; omega
      · omega
    omega
open Classical in
theorem swap_perm (o : List It) (a b : Nat) (ha : a < o.length) (hb : b < o.length) : ((o.set a o[b]).set b o[a]).Perm o :=
  @swap_gen It (@instBEqOfDecidableEq It (fun x y => Classical.propDecidable (x = y))) (inferInstance) o a b ha hb
/-- What is not yet marked. -/
def um : List It → List Int → List It
  | x :: l, m :: ms => if m = 0 then x :: um l ms else um l ms
  | _, _ => []
theorem um_zero : ∀ l : List It, um l (List.replicate l.length 0) = l := by
  intro l
  induction l with
  | nil => rfl
  | cons x l ih => rw [List.length_cons, List.replicate_succ]; simp [um, ih]
theorem um_set : ∀ (l : List It) (ms : List Int) (k : Nat) (h : k < l.length) (h' : k < ms.length), ms[k] = 0 → (um l ms).Perm (l[k] :: um l (ms.set k 1)) := by
  intro l
  induction l with
  | nil => intro ms k h; simp at h
  | cons x l ih =>
    intro ms k h h' e
    cases ms with
    | nil => simp at h'
    | cons m ms =>
      cases k with
      | zero => simp only [List.getElem_cons_zero] at e; subst e; simp [um]
      | succ k =>
        have := ih ms k (by simpa using h) (by simpa using h') (by simpa using e)
        simp only [List.set_cons_succ, um, List.getElem_cons_succ]
        split
        · exact (this.cons x).trans (List.Perm.swap _ _ _)
        · exact this
theorem um_mem : ∀ (l : List It) (ms : List Int) (a : It), a ∈ um l ms → ∃ k, ∃ (h : k < l.length) (h' : k < ms.length), ms[k] = 0 ∧ l[k] = a := by
  intro l
  induction l with
  | nil => intro ms a h; simp [um] at h
  | cons x l ih =>
    intro ms a h
    cases ms with
    | nil => simp [um] at h
    | cons m ms =>
      simp only [um] at h
      split at h
      · rename_i e
        rcases List.mem_cons.1 h with rfl | h
        · exact ⟨0, by simp, by simp, by simpa using e, rfl⟩
        · obtain ⟨k, h1, h2, h3, h4⟩ := ih ms a h
          exact ⟨k + 1, by simpa using h1, by simpa using h2, by simpa using h3, by simpa using h4⟩
      · obtain ⟨k, h1, h2, h3, h4⟩ := ih ms a h
        exact ⟨k + 1, by simpa using h1, by simpa using h2, by simpa using h3, by simpa using h4⟩
end Go.Proofs.Ytbannlomemkjbaa

/- Two queues beside blocks of the call's own. -/
namespace Go.Proofs.Ytbannlomemkjbaa
open Go.RowKit

/-- Two queues apart from each other and from the blocks K, all from b on. -/
structure AL (K : Nat → Prop) (b : Nat) (w wr : World) (q q' n n' : Nat) (Z Z' : List It) : Prop where
  all : ∃ F G, QAt F wr q (.func (.func 10) #[] #[]) lowI Z n ∧ QAt G wr q' (.func (.func 10) #[] #[]) lowI Z' n' ∧ (∀ k, F k → ¬ G k) ∧ (∀ k, F k → b ≤ k ∧ ¬ K k) ∧ (∀ k, G k → b ≤ k ∧ ¬ K k)
  own : ∀ k, K k → b ≤ k ∧ k < wr.heap.size
  bel : Below b w wr
  size : b ≤ wr.heap.size
variable {K K' : Nat → Prop} {b : Nat} {w wr wx : World} {q q' n n' : Nat} {Z Z' : List It}
theorem AL.keepK (h : AL K b w wr q q' n n' Z Z') (hk : Keep K wr wx) : AL K b w wx q q' n n' Z Z' := by
  obtain ⟨F, G, h1, h2, h3, h4, h5⟩ := h.all
  exact ⟨⟨F, G, h1.keep hk (fun k hf hg => (h4 k hf).2 hg), h2.keep hk (fun k hf hg => (h5 k hf).2 hg), h3, h4, h5⟩, fun k hk' => ⟨(h.own k hk').1, Nat.lt_of_lt_of_le (h.own k hk').2 hk.size⟩, h.bel.trans (hk.below h.size (fun k hk' => (h.own k hk').1)), Nat.le_trans h.size hk.size⟩
theorem AL.below (h : AL K b w wr q q' n n' Z Z') (hb : Below wr.heap.size wr wx) : AL K b w wx q q' n n' Z Z' := h.keepK (Keep.of_below hb)
theorem AL.more (h : AL K b w wr q q' n n' Z Z') (hb : Below wr.heap.size wr wx) (hK : ∀ k, K' k → K k ∨ (wr.heap.size ≤ k ∧ k < wx.heap.size)) : AL K' b w wx q q' n n' Z Z' := by
  obtain ⟨F, G, h1, h2, h3, h4, h5⟩ := h.all
  refine ⟨⟨F, G, h1.below hb, h2.below hb, h3, fun k hk => ⟨(h4 k hk).1, fun hk' => ?_⟩, fun k hk => ⟨(h5 k hk).1, fun hk' => ?_⟩⟩, fun k hk => ?_, h.bel.trans (hb.mono h.size), Nat.le_trans h.size hb.size⟩
  · rcases hK k hk' with e | e
    · exact (h4 k hk).2 e
    · have := h1.lt k hk; omega
  · rcases hK k hk' with e | e
    · exact (h5 k hk).2 e
    · have := h2.lt k hk; omega
  · rcases hK k hk with e | e
    · exact ⟨(h.own k e).1, Nat.lt_of_lt_of_le (h.own k e).2 hb.size⟩
    · have := h.size; omega
def Same (K : Nat → Prop) (w w' : World) : Prop := ∀ k, K k → w'.heap[k]? = w.heap[k]?
theorem al_push1 (x : It) (h : AL K b w wr q q' n n' Z Z') (hs : (Z.length + 1) * 32 ≤ 140737488355328) (hn : n < 4611686018427387904) :
    Calls Try.prog 14 #[.pointer (some ⟨q, 0, none⟩), .agg #[.int .i64 x.1, .string x.2]] wr fun e w' => e = .returned (.int .i64 0) ∧ AL K b w w' q q' (n + 1) n' (ins lowI x Z) Z' ∧ Same K wr w' := by
  obtain ⟨F, G, h1, h2, h3, h4, h5⟩ := h.all
  refine (qpush_any lowI F wr q n x _ Z h1 hs hn).mono ?_
  rintro e w' ⟨rfl, F', g1, m1⟩
  refine ⟨rfl, ⟨⟨F', G, g1, h2.keep m1.keep (fun k hg hf => h3 k hf hg), fun k hf hg => ?_, fun k hf => ?_, h5⟩, fun k hk => ⟨(h.own k hk).1, Nat.lt_of_lt_of_le (h.own k hk).2 m1.keep.size⟩, h.bel.trans (m1.keep.below h.size (fun k hk => (h4 k hk).1)), Nat.le_trans h.size m1.keep.size⟩, fun k hk => m1.keep.block k (h.own k hk).2 (fun hf => (h4 k hf).2 hk)⟩
  · rcases m1.sub k hf with e | e
    · exact h3 k e hg
    · have := h2.lt k hg; omega
  · rcases m1.sub k hf with e | e
    · exact h4 k e
    · exact ⟨Nat.le_trans h.size e, fun hk => by have := (h.own k hk).2; omega⟩
theorem al_push2 (x : It) (h : AL K b w wr q q' n n' Z Z') (hs : (Z'.length + 1) * 32 ≤ 140737488355328) (hn : n' < 4611686018427387904) :
    Calls Try.prog 14 #[.pointer (some ⟨q', 0, none⟩), .agg #[.int .i64 x.1, .string x.2]] wr fun e w' => e = .returned (.int .i64 0) ∧ AL K b w w' q q' n (n' + 1) Z (ins lowI x Z') ∧ Same K wr w' := by
  obtain ⟨F, G, h1, h2, h3, h4, h5⟩ := h.all
  refine (qpush_any lowI G wr q' n' x _ Z' h2 hs hn).mono ?_
  rintro e w' ⟨rfl, G', g1, m1⟩
  refine ⟨rfl, ⟨⟨F, G', h1.keep m1.keep (fun k hg hf => h3 k hg hf), g1, fun k hf hg => ?_, h4, fun k hf => ?_⟩, fun k hk => ⟨(h.own k hk).1, Nat.lt_of_lt_of_le (h.own k hk).2 m1.keep.size⟩, h.bel.trans (m1.keep.below h.size (fun k hk => (h5 k hk).1)), Nat.le_trans h.size m1.keep.size⟩, fun k hk => m1.keep.block k (h.own k hk).2 (fun hf => (h5 k hf).2 hk)⟩
  · rcases m1.sub k hg with e | e
    · exact h3 k hf e
    · have := h1.lt k hf; omega
  · rcases m1.sub k hf with e | e
    · exact h5 k e
    · exact ⟨Nat.le_trans h.size e, fun hk => by have := (h.own k hk).2; omega⟩
theorem al_pop1 {z : It} (h : AL K b w wr q q' n n' (z :: Z) Z') :
    Calls Try.prog 29 #[.pointer (some ⟨q, 0, none⟩)] wr fun e w' => e = .returned (.tuple #[.agg #[.int .i64 z.1, .string z.2], .bool true]) ∧ AL K b w w' q q' n n' Z Z' ∧ Same K wr w' := by
  obtain ⟨F, G, h1, h2, h3, h4, h5⟩ := h.all
  refine (qpop_some lowI F wr q n _ z Z h1).mono ?_
  rintro e w' ⟨rfl, F', g1, m1⟩
  refine ⟨rfl, ⟨⟨F', G, g1, h2.keep m1.keep (fun k hg hf => h3 k hf hg), fun k hf hg => ?_, fun k hf => ?_, h5⟩, fun k hk => ⟨(h.own k hk).1, Nat.lt_of_lt_of_le (h.own k hk).2 m1.keep.size⟩, h.bel.trans (m1.keep.below h.size (fun k hk => (h4 k hk).1)), Nat.le_trans h.size m1.keep.size⟩, fun k hk => m1.keep.block k (h.own k hk).2 (fun hf => (h4 k hf).2 hk)⟩
  · rcases m1.sub k hf with e | e
    · exact h3 k e hg
    · have := h2.lt k hg; omega
  · rcases m1.sub k hf with e | e
    · exact h4 k e
    · exact ⟨Nat.le_trans h.size e, fun hk => by have := (h.own k hk).2; omega⟩
theorem al_pop2 {z : It} (h : AL K b w wr q q' n n' Z (z :: Z')) :
    Calls Try.prog 29 #[.pointer (some ⟨q', 0, none⟩)] wr fun e w' => e = .returned (.tuple #[.agg #[.int .i64 z.1, .string z.2], .bool true]) ∧ AL K b w w' q q' n n' Z Z' ∧ Same K wr w' := by
  obtain ⟨F, G, h1, h2, h3, h4, h5⟩ := h.all
  refine (qpop_some lowI G wr q' n' _ z Z' h2).mono ?_
  rintro e w' ⟨rfl, G', g1, m1⟩
  refine ⟨rfl, ⟨⟨F, G', h1.keep m1.keep (fun k hg hf => h3 k hg hf), g1, fun k hf hg => ?_, h4, fun k hf => ?_⟩, fun k hk => ⟨(h.own k hk).1, Nat.lt_of_lt_of_le (h.own k hk).2 m1.keep.size⟩, h.bel.trans (m1.keep.below h.size (fun k hk => (h5 k hk).1)), Nat.le_trans h.size m1.keep.size⟩, fun k hk => m1.keep.block k (h.own k hk).2 (fun hf => (h5 k hf).2 hk)⟩
  · rcases m1.sub k hg with e | e
    · exact h3 k hf e
    · have := h1.lt k hf; omega
  · rcases m1.sub k hf with e | e
    · exact h5 k e
    · exact ⟨Nat.le_trans h.size e, fun hk => by have := (h.own k hk).2; omega⟩
theorem al_len1 (h : AL K b w wr q q' n n' Z Z') :
    Calls Try.prog 13 #[.pointer (some ⟨q, 0, none⟩)] wr fun e w' => e = .returned (.int .i64 (Z.length : Int)) ∧ Below wr.heap.size wr w' := by
  obtain ⟨F, G, h1, h2, h3, h4, h5⟩ := h.all
  exact qlen_any lowI F wr q n _ Z h1
theorem al_len2 (h : AL K b w wr q q' n n' Z Z') :
    Calls Try.prog 13 #[.pointer (some ⟨q', 0, none⟩)] wr fun e w' => e = .returned (.int .i64 (Z'.length : Int)) ∧ Below wr.heap.size wr w' := by
  obtain ⟨F, G, h1, h2, h3, h4, h5⟩ := h.all
  exact qlen_any lowI G wr q' n' _ Z' h2
end Go.Proofs.Ytbannlomemkjbaa

/- Rows of the call's own: items that are swapped, marks. -/
namespace Go.Proofs.Ytbannlomemkjbaa
open Go.RowKit

/-- A row of items in a block g of the call's own. -/
def OI (w : World) (g cap : Nat) (o : List It) : Prop := w.ownsRow 0 26 2 (.slice (some ⟨g, 0, none⟩) o.length cap) o.length (cellsI o)
theorem OI.lt {w : World} {g cap : Nat} {o : List It} (h : OI w g cap o) : g < w.heap.size := by
  rcases h.2 with ⟨e, _⟩ | ⟨g', cap', cur, e, hb, hh, _⟩
  · cases e
  · simp only [Value.slice.injEq, Option.some.injEq, Addr.mk.injEq, and_true] at e
    obtain ⟨rfl, _⟩ := e
    exact (Array.getElem?_eq_some_iff.1 hh).1
theorem OI.stays {w w' : World} {g cap : Nat} {o : List It} (h : OI w g cap o) (hb : w'.heap[g]? = w.heap[g]?) : OI w' g cap o := by
  refine ⟨h.1, ?_⟩
  rcases h.2 with ⟨e, _⟩ | ⟨g', cap', cur, e, hb', hh, h3⟩
  · cases e
  · simp only [Value.slice.injEq, Option.some.injEq, Addr.mk.injEq, and_true] at e
    obtain ⟨rfl, _, rfl⟩ := e
    exact Or.inr ⟨g, cap, cur, rfl, hb', hb.trans hh, h3⟩
theorem OI.open {w : World} {g cap : Nat} {o : List It} (h : OI w g cap o) :
    o.length ≤ cap ∧ cap ≤ maxLen ∧ (∀ j, w.frozen? ⟨g, j, none⟩ = false) ∧ ∀ i (hi : i < o.length), w.cell? ⟨g, i * 2, none⟩ = some (.int .i64 o[i].1) ∧ w.cell? ⟨g, i * 2 + 1, none⟩ = some (.string o[i].2) := by
  have hr : w.ownsRow _ _ _ _ _ _ := h
  have hs : o.length ≤ cap ∧ cap ≤ maxLen := by
    rcases h.2 with ⟨e, _⟩ | ⟨g', cap', cur, e, hb', hh, h3, h4, _⟩
    · cases e
    · simp only [Value.slice.injEq, Option.some.injEq, Addr.mk.injEq, and_true] at e
      obtain ⟨rfl, _, rfl⟩ := e
      exact ⟨h3, h4⟩
  refine ⟨hs.1, hs.2, fun j => hr.frozenAt j, fun i hi => ?_⟩
  obtain ⟨c1, c2⟩ := cellsI_get o i hi
  refine ⟨?_, ?_⟩
  · rw [hr.cellAt (i * 2) (by omega)]; exact c1
  · rw [hr.cellAt (i * 2 + 1) (by omega)]; exact c2
theorem OI.set {w : World} {g cap : Nat} {o : List It} (h : OI w g cap o) (i : Nat) (hi : i < o.length) (x : It) :
    OI ((w.setCell ⟨g, i * 2, none⟩ (.int .i64 x.1)).setCell ⟨g, i * 2 + 1, none⟩ (.string x.2)) g cap (o.set i x) ∧ Keep (fun k => k = g) w ((w.setCell ⟨g, i * 2, none⟩ (.int .i64 x.1)).setCell ⟨g, i * 2 + 1, none⟩ (.string x.2)) := by
  have hr : w.ownsRow _ _ _ _ _ _ := h
  obtain ⟨r1, g1⟩ := hr.stored (i * 2) (.int .i64 x.1)
  obtain ⟨r2, g2⟩ := r1.stored (i * 2 + 1) (.string x.2)
  have hg := grown_trans g1 g2
  refine ⟨?_, hg.os, hg.tape, hg.output, hg.size, fun k hk hn => hg.block k hk (fun e => hn (by simpa using e))⟩
  unfold OI
  rw [List.length_set, ← cellsI_set o i x hi]
  exact r2
theorem OI.set2 {w : World} {g cap : Nat} {o : List It} (h : OI w g cap o) (i j : Nat) (hi : i < o.length) (hj : j < o.length) (x y : It) :
    OI ((((w.setCell ⟨g, i * 2, none⟩ (.int .i64 x.1)).setCell ⟨g, i * 2 + 1, none⟩ (.string x.2)).setCell ⟨g, j * 2, none⟩ (.int .i64 y.1)).setCell ⟨g, j * 2 + 1, none⟩ (.string y.2)).drew g cap ((o.set i x).set j y) ∧
    Keep (fun k => k = g) w ((((w.setCell ⟨g, i * 2, none⟩ (.int .i64 x.1)).setCell ⟨g, i * 2 + 1, none⟩ (.string x.2)).setCell ⟨g, j * 2, none⟩ (.int .i64 y.1)).setCell ⟨g, j * 2 + 1, none⟩ (.string y.2)).drew := by
  obtain ⟨h1, k1⟩ := h.set i hi x
  obtain ⟨h2, k2⟩ := h1.set j (by rw [List.length_set]; exact hj) y
  have hb : ∀ W : World, Below W.heap.size W W.drew := fun W => (Below.refl _ W).drew
  refine ⟨h2.stays ((hb _).block g h2.lt), ?_⟩
  exact (k1.trans k2 (fun x hx => Or.inl hx)).trans (Keep.of_below (F := fun _ => False) (hb _)) (fun x hx => hx.elim)
theorem OI.ti {w : World} {g cap : Nat} {o : List It} (h : OI w g cap o) : TI w (.slice (some ⟨g, 0, none⟩) o.length cap) o := TI.of_owns h

/-- Marks in a block g of the call's own. -/
def OM (w : World) (g : Nat) (ms : List Int) : Prop := w.heap[g]? = some (.cells (ms.map (Value.int .i64)).toArray 3 (0, 0))
theorem OM.lt {w : World} {g : Nat} {ms : List Int} (h : OM w g ms) : g < w.heap.size := (Array.getElem?_eq_some_iff.1 h).1
theorem OM.stays {w w' : World} {g : Nat} {ms : List Int} (h : OM w g ms) (hb : w'.heap[g]? = w.heap[g]?) : OM w' g ms := hb.trans h
theorem OM.open {w : World} {g : Nat} {ms : List Int} (h : OM w g ms) : (∀ j, w.frozen? ⟨g, j, none⟩ = false) ∧ ∀ i (hi : i < ms.length), w.cell? ⟨g, i, none⟩ = some (.int .i64 ms[i]) := by
  unfold OM at h
  refine ⟨fun j => by simp [World.frozen?, h], fun i hi => ?_⟩
  rw [cell_of_row w g _ _ _ (0, 0) h]
  simp [hi]
end Go.Proofs.Ytbannlomemkjbaa

/- An item in a box of the call's own. -/
namespace Go.Proofs.Ytbannlomemkjbaa
open Go.RowKit
def LB (w : World) (g : Nat) (x : It) : Prop := w.heap[g]? = some (.cells #[.int .i64 x.1, .string x.2] 26 (0, 0))
theorem LB.lt {w : World} {g : Nat} {x : It} (h : LB w g x) : g < w.heap.size := (Array.getElem?_eq_some_iff.1 h).1
theorem LB.stays {w w' : World} {g : Nat} {x : It} (h : LB w g x) (hb : w'.heap[g]? = w.heap[g]?) : LB w' g x := hb.trans h
theorem LB.new (w : World) (x : It) : LB (w.alloc (.cells #[.int .i64 x.1, .string x.2] 26)) w.heap.size x := heap_alloc_new w _
theorem LB.cells {w : World} {g : Nat} {x : It} (h : LB w g x) : w.cell? ⟨g, 0, none⟩ = some (.int .i64 x.1) ∧ w.cell? ⟨g, 1, none⟩ = some (.string x.2) ∧ ∀ j, w.frozen? ⟨g, j, none⟩ = false := by
  unfold LB at h
  refine ⟨?_, ?_, fun j => by simp [World.frozen?, h]⟩
  all_goals (rw [cell_of_row w g _ _ _ (0, 0) h]; rfl)
theorem LB.set {w : World} {g : Nat} {x : It} (h : LB w g x) (y : It) : LB ((w.setCell ⟨g, 0, none⟩ (.int .i64 y.1)).setCell ⟨g, 1, none⟩ (.string y.2)) g y ∧ Keep (fun k => k = g) w ((w.setCell ⟨g, 0, none⟩ (.int .i64 y.1)).setCell ⟨g, 1, none⟩ (.string y.2)) := by
  have h1 := heap_setCell_same w g 0 _ _ (.int .i64 y.1) h
  have h2 := heap_setCell_same _ g 1 _ _ (.string y.2) h1
  refine ⟨?_, ?_⟩
  · unfold LB
    rw [h2]
    rfl
  · refine ⟨rfl, rfl, rfl, by simp, fun k hk hn => ?_⟩
    rw [heap_setCell_other, heap_setCell_other]
    all_goals simpa using hn
theorem OM.set {w : World} {g : Nat} {ms : List Int} (h : OM w g ms) (j : Nat) (v : Int) : OM (w.setCell ⟨g, j, none⟩ (.int .i64 v)) g (ms.set j v) ∧ Keep (fun k => k = g) w (w.setCell ⟨g, j, none⟩ (.int .i64 v)) := by
  have h1 := heap_setCell_same w g j _ _ (.int .i64 v) h
  refine ⟨?_, ?_⟩
  · unfold OM
    rw [h1]
    simp [List.map_set]
  · refine ⟨rfl, rfl, rfl, by simp, fun k hk hn => ?_⟩
    rw [heap_setCell_other]
    simpa using hn
end Go.Proofs.Ytbannlomemkjbaa
