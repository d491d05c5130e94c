/- Texts of ours, one behind the other: WalOwn6. -/
import Derived.Test.YtpkpjmebkikgdaaG27
import Derived.Test.YtpkpjmebkikgdaaG31
/- The landed package wal: Free and Sync. -/
namespace Go.Proofs.Ytpkpjmebkikgdaa
open Go.RowKit

theorem zero_start (w : World) : (zeroValue 117).run Try.prog w = .ok (.agg #[.int .u64 0, .int .u64 0]) w := by kernel_rfl
theorem zeros_two (u : Value) (n : Nat) : (Builtin.zeroCells #[u, u] n).toList = List.replicate (n * 2) u := by
  apply List.ext_getElem
  · simp [Builtin.zeroCells]
  · intro i h1 h2
    simp only [Builtin.zeroCells, List.getElem_replicate]
    simp only [Array.getElem_toList]
    have : i % 2 = 0 ∨ i % 2 = 1 := by omega
    rcases this with h | h <;> simp [h]
theorem run_clear_start (w : World) (ty : TypeId) (b o n c : Nat) (hn : 0 < n) (hc : ∀ j, j < n * 2 → (w.cell? ⟨b, o + j, none⟩).isSome = true) (hf : ∀ j, j < n * 2 → w.frozen? ⟨b, o + j, none⟩ = false) :
    (Builtin.clear_ #[62] ty #[.slice (some ⟨b, o, none⟩) n c]).run Try.prog w = .ok (.tuple #[]) (w.setCells b o (List.replicate (n * 2) (.int .u64 0))) := by
  have hst := run_storeCells_cells (P := Try.prog) b o (List.replicate (n * 2) (Value.int .u64 0)) 0 w (by simpa using hc) (by simpa using hf) (by intro v hv'; rw [List.eq_of_mem_replicate hv']; rfl)
  simp only [Nat.add_zero] at hst
  obtain ⟨m, rfl⟩ : ∃ m, n = m + 1 := ⟨n - 1, by omega⟩
  simp [Builtin.clear_, run_underlying Try.underlying62, Value.cells, zeros_two, hst]

theorem owns_of_range {w : World} {k e cap m sz : Nat} {C : Array Value} {xs : List Value} (h : w.heap[k]? = some (.cells C e (0, 0))) (hC : C.size = cap * sz) (hm : m ≤ cap) (hc : cap ≤ maxLen) (hx : xs.length = m * sz) (hr : w.rangeAt k 0 xs) : w.ownsRow 0 e sz (.slice (some ⟨k, 0, none⟩) m cap) m xs := by
  refine ⟨hx, Or.inr ⟨k, cap, C, rfl, Nat.zero_le _, h, hm, hc, hC, ?_⟩⟩
  have hle : m * sz ≤ cap * sz := Nat.mul_le_mul_right _ hm
  apply List.ext_getElem
  · rw [List.length_take, Array.length_toList, hx]; omega
  · intro i h1 h2
    have := hr i xs[i] (List.getElem?_eq_getElem h2)
    rw [cell_of_row w k _ _ e (0, 0) h, Nat.zero_add] at this
    obtain ⟨hi, e2⟩ := Array.getElem?_eq_some_iff.1 this
    rw [List.getElem_take, Array.getElem_toList]
    exact e2

theorem startsC_drop (st : List (Nat × Nat)) (i : Nat) : startsC (st.drop i) = (startsC st).drop (i * 2) := by
  induction i generalizing st with
  | zero => simp
  | succ i ih =>
    cases st with
    | nil => simp [startsC]
    | cons p l =>
      rw [List.drop_succ_cons, ih]
      simp only [startsC, List.flatMap_cons]
      rw [show (i + 1) * 2 = (startC p).length + i * 2 by simp [startC]; omega, ← List.drop_drop, List.drop_left]

/-- What Free makes of a log. -/
def LG.free (L : LG) (to : Nat) : LG := { L with starts := L.starts.dropWhile (fun p => p.1 < to), first := to }
def LG.begins (L : LG) (to : Nat) : Prop := (∃ p ∈ L.starts, p.1 = to) ∨ to = L.next
instance (L : LG) (to : Nat) : Decidable (L.begins to) := inferInstanceAs (Decidable (_ ∨ _))

theorem drop_lands {st : List (Nat × Nat)} {to i : Nat} (h : Lands st to i) : st.dropWhile (fun p => p.1 < to) = st.drop i := by
  induction st generalizing i with
  | nil => simp
  | cons p l ih =>
    obtain ⟨h1, h2, h3⟩ := h
    cases i with
    | zero =>
      have := h3 0 (by simp) (Nat.zero_le _)
      simp only [List.getElem_cons_zero] at this
      rw [List.dropWhile_cons_of_neg (by simp; omega)]
      rfl
    | succ i =>
      have := h2 0 (by simp) (by omega)
      simp only [List.getElem_cons_zero] at this
      rw [List.dropWhile_cons_of_pos (by simp; omega), List.drop_succ_cons]
      refine ih ⟨by simpa using h1, fun j hj hi => ?_, fun j hj hi => ?_⟩
      · have := h2 (j + 1) (by simpa using hj) (by omega); simpa using this
      · have := h3 (j + 1) (by simpa using hj) (by omega); simpa using this

theorem free_ok {L : LG} {R to i : Nat} (h : L.Ok R) (hl : Lands L.starts to i) (hb : L.begins to) : (L.free to).Ok R := by
  have hto : L.first ≤ to ∧ to ≤ L.next := by
    rcases hb with ⟨p, hp, rfl⟩ | rfl
    · have := h.turns p hp; omega
    · exact ⟨h.le, Nat.le_refl _⟩
  have hd := drop_lands hl
  have hring := h.ring
  refine ⟨h.age, hto.2, by show L.next ≤ to + R; omega, h.next, ?_, ?_, ?_⟩
  · show (L.starts.dropWhile _).length ≤ L.next - to
    rw [hd]
    -- the turns of what is left are unlike and from 'to' on
    have key : ∀ (l : List (Nat × Nat)) (a : Nat), l.Pairwise (fun a b => a.1 < b.1) → (∀ p ∈ l, a ≤ p.1 ∧ p.1 < L.next) → l.length ≤ L.next - a := by
      intro l
      induction l with
      | nil => intro a _ _; simp
      | cons p l ih =>
        intro a hs hp
        have h1 := hp p (by simp)
        have h2 := ih (p.1 + 1) (List.pairwise_cons.1 hs).2 (fun x hx => ⟨(List.pairwise_cons.1 hs).1 x hx, (hp x (by simp [hx])).2⟩)
        simp only [List.length_cons]
        omega
    refine key _ to (h.sorted.sublist (List.drop_sublist _ _)) (fun p hp => ?_)
    obtain ⟨j, hj, rfl⟩ := List.getElem_of_mem hp
    rw [List.getElem_drop]
    have hj' : i + j < L.starts.length := by simp at hj; omega
    exact ⟨hl.2.2 (i + j) hj' (by omega), (h.turns _ (List.getElem_mem hj')).2.1⟩
  · intro p hp
    have hp2 : p ∈ L.starts.drop i := by rw [← hd]; exact hp
    have ht := h.turns p (List.mem_of_mem_drop hp2)
    obtain ⟨j, hj, rfl⟩ := List.getElem_of_mem hp2
    rw [List.getElem_drop] at ht ⊢
    have hj' : i + j < L.starts.length := by simp at hj; omega
    exact ⟨hl.2.2 (i + j) hj' (by omega), ht.2⟩
  · show (L.starts.dropWhile _).Pairwise _
    rw [hd]
    exact h.sorted.sublist (List.drop_sublist _ _)

theorem begins_iff {L : LG} {to i : Nat} (hs : L.starts.Pairwise (fun a b => a.1 < b.1)) (hl : Lands L.starts to i) : (∃ p ∈ L.starts, p.1 = to) ↔ ∃ h : i < L.starts.length, L.starts[i].1 = to := by
  constructor
  · rintro ⟨p, hp, e⟩
    obtain ⟨j, hj, rfl⟩ := List.getElem_of_mem hp
    have h1 : i ≤ j := by
      refine Decidable.byContradiction fun hn => ?_
      have := hl.2.1 j hj (by omega)
      omega
    have hi : i < L.starts.length := by omega
    refine ⟨hi, ?_⟩
    by_cases hij : i = j
    · subst hij; exact e
    · have h2 := List.pairwise_iff_getElem.1 hs i j hi hj (by omega)
      have h3 := hl.2.2 i hi (Nat.le_refl _)
      omega
  · rintro ⟨h, e⟩
    exact ⟨_, List.getElem_mem h, e⟩

/-- What is freed, in memory. -/
theorem LAt.freed {G : Nat → Prop} {w w2 : World} {g : Nat} {dp sv sv2 : Value} {n : Int} {L : LG} {to : Nat} (R : LAt G w g dp n sv L) (hK : Keep (fun x => sv.ownBlock = some x) w w2) (hsv : sv2.ownBlock = sv.ownBlock)
    (hown : w2.ownsRow 0 117 2 sv2 (L.free to).starts.length (startsC (L.free to).starts)) (hok : (L.free to).Ok (lz n).toNat) :
    LAt G ((w2.setCell ⟨g, 13, none⟩ sv2).setCell ⟨g, 11, none⟩ (.int .u64 (to : Int))) g dp n sv2 (L.free to) ∧ Keep G w ((w2.setCell ⟨g, 13, none⟩ sv2).setCell ⟨g, 11, none⟩ (.int .u64 (to : Int))) := by
  have hgl := R.lt g R.fg
  have hb2 : w2.heap[g]? = some (.cells (logC dp n L sv) 64 (0, 0)) := (hK.block g hgl R.sg).trans R.blk
  have b1 := heap_setCell_same w2 g 13 _ _ sv2 hb2
  have b2 := heap_setCell_same (w2.setCell ⟨g, 13, none⟩ sv2) g 11 _ _ (.int .u64 (to : Int)) b1
  have K1 : Keep G w w2 := hK.weak (fun x hx => R.fs x hx)
  have K3 : Keep (fun x => x = g) w2 ((w2.setCell ⟨g, 13, none⟩ sv2).setCell ⟨g, 11, none⟩ (.int .u64 (to : Int))) := (keep_set w2 g 13 sv2).trans (keep_set _ g 11 _) (fun _ h => Or.inl h)
  have KA : Keep G w ((w2.setCell ⟨g, 13, none⟩ sv2).setCell ⟨g, 11, none⟩ (.int .u64 (to : Int))) := K1.trans K3 (fun x hx => Or.inl (by rw [hx]; exact R.fg))
  refine ⟨⟨b2.trans rfl, ?_, R.fits, hok, R.fg, fun x hx => R.fs x (hsv ▸ hx), fun x hx => Nat.lt_of_lt_of_le (R.lt x hx) KA.size⟩, KA⟩
  refine row_stays (w := w2) hown (fun x hx => K3.block x ?_ (fun e => R.sg (by rw [← hsv, hx, e])))
  obtain ⟨cur, hh⟩ := row_kind hown x hx
  exact (Array.getElem?_eq_some_iff.1 hh).1

/-- What Sync answers, what it makes of the device and of the log. -/
def syncE (s : DK) (L : LG) : Int := if L.fallen = true then 40 else s.flushE
def syncS (s : DK) (L : LG) : DK := if L.fallen = true then s else s.flush
def syncL (s : DK) (L : LG) : LG := if L.fallen = true then L else if s.flushE = 40 then L.down else L
theorem flush_n (s : DK) : s.flush.n = s.n := by unfold DK.flush DK.tick; repeat' split
                                                 all_goals rfl
end Go.Proofs.Ytpkpjmebkikgdaa
