/- Texts of ours, one behind the other: WalOwn6. -/
import Derived.Test.YtpkpjmebkikgdaaGreatG23
import Derived.Test.YtpkpjmebkikgdaaGreatG28
/- The landed package wal: Free and Sync. -/
namespace Go.Proofs.YtpkpjmebkikgdaaGreat
open Go.RowKit

theorem zero_start (w : World) : (zeroValue 101).run Tryz.prog w = .ok (.agg #[.int .u64 0, .int .u64 0]) w := by kernel_rfl
theorem zeros_two (u : Value) (n : Nat) : (Builtin.zeroCells #[u, u] n).toList = List.replicate (n * 2) u := by
  apply List.ext_getElem
  · simp [Builtin.zeroCells]
  · intro i h1 h2
    simp only [Builtin.zeroCells, List.getElem_replicate]
    simp only [Array.getElem_toList]
    have : i % 2 = 0 ∨ i % 2 = 1 := by omega
    rcases this with h | h <;> simp [h]
theorem run_clear_start (w : World) (ty : TypeId) (b o n c : Nat) (hn : 0 < n) (hc : ∀ j, j < n * 2 → (w.cell? ⟨b, o + j, none⟩).isSome = true) (hf : ∀ j, j < n * 2 → w.frozen? ⟨b, o + j, none⟩ = false) :
    (Builtin.clear_ #[71] ty #[.slice (some ⟨b, o, none⟩) n c]).run Tryz.prog w = .ok (.tuple #[]) (w.setCells b o (List.replicate (n * 2) (.int .u64 0))) := by
  have hst := run_storeCells_cells (P := Tryz.prog) b o (List.replicate (n * 2) (Value.int .u64 0)) 0 w (by simpa using hc) (by simpa using hf) (by intro v hv'; rw [List.eq_of_mem_replicate hv']; rfl)
  simp only [Nat.add_zero] at hst
  obtain ⟨m, rfl⟩ : ∃ m, n = m + 1 := ⟨n - 1, by omega⟩
  simp [Builtin.clear_, run_underlying Tryz.underlying71, Value.cells, zeros_two, hst]

theorem owns_of_range {w : World} {k e cap m sz : Nat} {C : Array Value} {xs : List Value} (h : w.heap[k]? = some (.cells C e (0, 0))) (hC : C.size = cap * sz) (hm : m ≤ cap) (hc : cap ≤ maxLen) (hx : xs.length = m * sz) (hr : w.rangeAt k 0 xs) : w.ownsRow 0 e sz (.slice (some ⟨k, 0, none⟩) m cap) m xs := by
  refine ⟨hx, Or.inr ⟨k, cap, C, rfl, Nat.zero_le _, h, hm, hc, hC, ?_⟩⟩
  have hle : m * sz ≤ cap * sz := Nat.mul_le_mul_right _ hm
  apply List.ext_getElem
  · rw [List.length_take, Array.length_toList, hx]; omega
  · intro i h1 h2
    have := hr i xs[i] (List.getElem?_eq_getElem h2)
    rw [cell_of_row w k _ _ e (0, 0) h, Nat.zero_add] at this
    obtain ⟨hi, e2⟩ := Array.getElem?_eq_some_iff.1 this
    rw [List.getElem_take, Array.getElem_toList]
    exact e2

theorem startsC_drop (st : List (Nat × Nat)) (i : Nat) : startsC (st.drop i) = (startsC st).drop (i * 2) := by
  induction i generalizing st with
  | zero => simp
  | succ i ih =>
    cases st with
    | nil => simp [startsC]
    | cons p l =>
      rw [List.drop_succ_cons, ih]
      simp only [startsC, List.flatMap_cons]
      rw [show (i + 1) * 2 = (startC p).length + i * 2 by simp [startC]; omega, ← List.drop_drop, List.drop_left]

set_option maxRecDepth 20000 in
set_option maxHeartbeats 2000000 in
theorem wdelete_any (k cap i : Nat) (st : List (Nat × Nat)) (w : World) (h : w.ownsRow 0 101 2 (.slice (some ⟨k, 0, none⟩) st.length cap) st.length (startsC st)) (hi0 : 0 < i) (hi : i ≤ st.length) :
    Calls Tryz.prog 67 #[.slice (some ⟨k, 0, none⟩) st.length cap, .int .i64 0, .int .i64 (i : Int)] w fun e w' => e = .returned (.slice (some ⟨k, 0, none⟩) (st.length - i) cap) ∧ w'.ownsRow 0 101 2 (.slice (some ⟨k, 0, none⟩) (st.length - i) cap) (st.length - i) (startsC (st.drop i)) ∧ Keep (fun x => x = k) w w' := by
  obtain ⟨is, his, hs0, hs1, hs2⟩ := info_parts Tryz.info101
  have hcells := h.cells (g := k) rfl
  rcases h.2 with ⟨h4, _⟩ | ⟨g', cap', cur, hv, _, hblk, hnc, hcm, hcs, htake⟩
  · cases h4
  simp only [Value.slice.injEq, Option.some.injEq, Addr.mk.injEq, and_true, true_and] at hv
  obtain ⟨rfl, rfl⟩ := hv
  obtain ⟨news, hnews⟩ : ∃ news, news = startsC (st.drop i) := ⟨_, rfl⟩
  have hlen : news.length = (st.length - i) * 2 := by rw [hnews, length_startsC, List.length_drop]
  have hdrop : news = (startsC st).drop (i * 2) := by rw [hnews, startsC_drop]
  obtain ⟨A, hA, hsrc⟩ : ∃ A : Addr, (if cap = i then some (⟨k, 0, none⟩ : Addr) else some ⟨k, i * 2, none⟩) = some A ∧ Hid (∀ t u, news[t]? = some u → w.drew.cell? (A.add t) = some u) := by
    by_cases hce : cap = i
    · refine ⟨⟨k, 0, none⟩, by simp [hce], fun t u hu => ?_⟩
      have h0 : news = [] := List.eq_nil_of_length_eq_zero (by rw [hlen]; omega)
      rw [h0] at hu
      simp at hu
    · refine ⟨⟨k, i * 2, none⟩, by simp [hce], fun t u hu => ?_⟩
      rw [hdrop, List.getElem?_drop] at hu
      have := hcells (i * 2 + t) u hu
      rw [Addr.add_lit] at this ⊢
      rw [Nat.zero_add] at this
      exact this
  have s1 : Hid (news.length = (st.length - i) * 2) := hlen
  have s2 : Hid (∀ u ∈ news, u.oneCell' = true) := by
    intro u hu
    rw [hnews] at hu
    simp only [startsC, List.mem_flatMap] at hu
    obtain ⟨p, _, hu⟩ := hu
    simp only [startC, List.mem_cons, List.not_mem_nil, or_false] at hu
    rcases hu with rfl | rfl <;> rfl
  have s3 : Hid (∀ t, t < news.length → (w.drew.cell? ⟨k, 0 + 0 * 2 + t, none⟩).isSome = true ∧ w.drew.frozen? ⟨k, 0 + 0 * 2 + t, none⟩ = false) := by
    intro t ht
    rw [hlen] at ht
    have hb : w.drew.heap[k]? = some (.cells cur 101 (0, 0)) := hblk
    refine ⟨?_, frozen_of_block hb⟩
    rw [cell_of_row w.drew k _ cur _ (0, 0) hb, Array.getElem?_eq_getElem (by omega)]
    rfl
  obtain ⟨W1, hW1⟩ : ∃ W1, W1 = w.drew.setCells k (0 + 0 * 2) news := ⟨_, rfl⟩
  obtain ⟨C1, hC1, hC1s⟩ := block_setCells k 101 news (0 + 0 * 2) w.drew cur hblk
  rw [← hW1] at hC1
  have hcl : ∀ ty, (Builtin.clear_ #[71] ty #[.slice (some ⟨k, (st.length - i) * 2, none⟩) (st.length - (st.length - i)) (cap - (st.length - i))]).run Tryz.prog W1 = .ok (.tuple #[]) (W1.setCells k ((st.length - i) * 2) (List.replicate ((st.length - (st.length - i)) * 2) (.int .u64 0))) :=
    fun ty => run_clear_start W1 ty k _ _ _ (by omega) (fun t ht => by rw [cell_of_row W1 k _ C1 _ (0, 0) hC1, Array.getElem?_eq_getElem (by omega)]; rfl) (fun t ht => frozen_of_block hC1)
  have HEND : Hid (World.ownsRow (W1.setCells k ((st.length - i) * 2) (List.replicate ((st.length - (st.length - i)) * 2) (.int .u64 0))) 0 101 2 (.slice (some ⟨k, 0, none⟩) (st.length - i) cap) (st.length - i) (startsC (st.drop i)) ∧ Keep (fun x => x = k) w (W1.setCells k ((st.length - i) * 2) (List.replicate ((st.length - (st.length - i)) * 2) (.int .u64 0)))) := by
    obtain ⟨C2, hC2, hC2s⟩ := block_setCells k 101 (List.replicate ((st.length - (st.length - i)) * 2) (Value.int .u64 0)) ((st.length - i) * 2) W1 C1 hC1
    have hr1 : W1.rangeAt k 0 news := by
      rw [hW1]
      exact World.rangeAt_setCells_same w.drew k 0 news (there_of_block (w := w.drew) (C := cur) hblk (by rw [hlen]; omega))
    refine ⟨?_, ?_⟩
    · rw [← hnews]
      refine owns_of_range hC2 (by omega) (by omega) hcm hlen (World.rangeAt_setCells_apart hr1 _ _ _ (Or.inr (Or.inl ?_)))
      rw [hlen]
      omega
    · have k1 : Keep (fun x => x = k) w w.drew := Keep.of_below ((Below.refl _ _).drew)
      have k2 := k1.trans (keep_setCells k news (0 + 0 * 2) w.drew) (fun _ h => Or.inl h)
      rw [← hW1] at k2
      exact k2.trans (keep_setCells k _ _ W1) (fun _ h => Or.inl h)
  have hW : Hid (W1 = w.drew.setCells k (0 + 0 * 2) news) := hW1
  have hic : (i : Int) ≤ cap := by omega
  have hiI : (i : Int) ≤ st.length := by omega
  have hncI : (st.length : Int) ≤ cap := by omega
  have h0I : ¬ (0 : Int) = i := by omega
  have hb0 : ((0 : Int) == (i : Int)) = false := by rw [beq_eq_false_iff_ne]; omega
  unfold maxLen at hcm
  have HN := hide hnc
  have HI := hide hi
  clear hW1 hC1 hC1s hcells hblk hcs htake hnews hlen hdrop h hi hnc
  go_enter Tryz.func67, Tryz.ntmps67
  go_wp2_with fail
  go_region_law (refine step_append_room rfl (.tmp 22) (.tmp 25) 71 rfl 101 is 2 Tryz.underlying71 his hs1 k 0 0 cap (by simp [Act.eval, Act.put]) A (st.length - i) (cap - i) news (by simp [Act.eval, Act.put]) s1.out hsrc.out s2.out (by have := unhide HN; have := unhide HI; omega) s3.out ?_; rw [← hW.out])
  go_wp2
  go_ret
  exact ⟨rfl, (unhide HEND).1, (unhide HEND).2⟩

/-- What Free makes of a log. -/
def LG.free (L : LG) (to : Nat) : LG := { L with starts := L.starts.dropWhile (fun p => p.1 < to), first := to }
def LG.begins (L : LG) (to : Nat) : Prop := (∃ p ∈ L.starts, p.1 = to) ∨ to = L.next
instance (L : LG) (to : Nat) : Decidable (L.begins to) := inferInstanceAs (Decidable (_ ∨ _))

theorem drop_lands {st : List (Nat × Nat)} {to i : Nat} (h : Lands st to i) : st.dropWhile (fun p => p.1 < to) = st.drop i := by
  induction st generalizing i with
  | nil => simp
  | cons p l ih =>
    obtain ⟨h1, h2, h3⟩ := h
    cases i with
    | zero =>
      have := h3 0 (by simp) (Nat.zero_le _)
      simp only [List.getElem_cons_zero] at this
      rw [List.dropWhile_cons_of_neg (by simp; omega)]
      rfl
    | succ i =>
      have := h2 0 (by simp) (by omega)
      simp only [List.getElem_cons_zero] at this
      rw [List.dropWhile_cons_of_pos (by simp; omega), List.drop_succ_cons]
      refine ih ⟨by simpa using h1, fun j hj hi => ?_, fun j hj hi => ?_⟩
      · have := h2 (j + 1) (by simpa using hj) (by omega); simpa using this
      · have := h3 (j + 1) (by simpa using hj) (by omega); simpa using this

theorem free_ok {L : LG} {R to i : Nat} (h : L.Ok R) (hl : Lands L.starts to i) (hb : L.begins to) : (L.free to).Ok R := by
  have hto : L.first ≤ to ∧ to ≤ L.next := by
    rcases hb with ⟨p, hp, rfl⟩ | rfl
    · have := h.turns p hp; omega
    · exact ⟨h.le, Nat.le_refl _⟩
  have hd := drop_lands hl
  have hring := h.ring
  refine ⟨h.age, hto.2, by show L.next ≤ to + R; omega, h.next, ?_, ?_, ?_⟩
  · show (L.starts.dropWhile _).length ≤ L.next - to
    rw [hd]
    -- the turns of what is left are unlike and from 'to' on
    have key : ∀ (l : List (Nat × Nat)) (a : Nat), l.Pairwise (fun a b => a.1 < b.1) → (∀ p ∈ l, a ≤ p.1 ∧ p.1 < L.next) → l.length ≤ L.next - a := by
      intro l
      induction l with
      | nil => intro a _ _; simp
      | cons p l ih =>
        intro a hs hp
        have h1 := hp p (by simp)
        have h2 := ih (p.1 + 1) (List.pairwise_cons.1 hs).2 (fun x hx => ⟨(List.pairwise_cons.1 hs).1 x hx, (hp x (by simp [hx])).2⟩)
        simp only [List.length_cons]
        omega
    refine key _ to (h.sorted.sublist (List.drop_sublist _ _)) (fun p hp => ?_)
    obtain ⟨j, hj, rfl⟩ := List.getElem_of_mem hp
    rw [List.getElem_drop]
    have hj' : i + j < L.starts.length := by simp at hj; omega
    exact ⟨hl.2.2 (i + j) hj' (by omega), (h.turns _ (List.getElem_mem hj')).2.1⟩
  · intro p hp
    have hp2 : p ∈ L.starts.drop i := by rw [← hd]; exact hp
    have ht := h.turns p (List.mem_of_mem_drop hp2)
    obtain ⟨j, hj, rfl⟩ := List.getElem_of_mem hp2
    rw [List.getElem_drop] at ht ⊢
    have hj' : i + j < L.starts.length := by simp at hj; omega
    exact ⟨hl.2.2 (i + j) hj' (by omega), ht.2⟩
  · show (L.starts.dropWhile _).Pairwise _
    rw [hd]
    exact h.sorted.sublist (List.drop_sublist _ _)

theorem begins_iff {L : LG} {to i : Nat} (hs : L.starts.Pairwise (fun a b => a.1 < b.1)) (hl : Lands L.starts to i) : (∃ p ∈ L.starts, p.1 = to) ↔ ∃ h : i < L.starts.length, L.starts[i].1 = to := by
  constructor
  · rintro ⟨p, hp, e⟩
    obtain ⟨j, hj, rfl⟩ := List.getElem_of_mem hp
    have h1 : i ≤ j := by
      refine Decidable.byContradiction fun hn => ?_
      have := hl.2.1 j hj (by omega)
      omega
    have hi : i < L.starts.length := by omega
    refine ⟨hi, ?_⟩
    by_cases hij : i = j
    · subst hij; exact e
    · have h2 := List.pairwise_iff_getElem.1 hs i j hi hj (by omega)
      have h3 := hl.2.2 i hi (Nat.le_refl _)
      omega
  · rintro ⟨h, e⟩
    exact ⟨_, List.getElem_mem h, e⟩

/-- What is freed, in memory. -/
theorem LAt.freed {G : Nat → Prop} {w w2 : World} {g : Nat} {dp sv sv2 : Value} {n : Int} {L : LG} {to : Nat} (R : LAt G w g dp n sv L) (hK : Keep (fun x => sv.ownBlock = some x) w w2) (hsv : sv2.ownBlock = sv.ownBlock)
    (hown : w2.ownsRow 0 101 2 sv2 (L.free to).starts.length (startsC (L.free to).starts)) (hok : (L.free to).Ok (lz n).toNat) :
    LAt G ((w2.setCell ⟨g, 13, none⟩ sv2).setCell ⟨g, 11, none⟩ (.int .u64 (to : Int))) g dp n sv2 (L.free to) ∧ Keep G w ((w2.setCell ⟨g, 13, none⟩ sv2).setCell ⟨g, 11, none⟩ (.int .u64 (to : Int))) := by
  have hgl := R.lt g R.fg
  have hb2 : w2.heap[g]? = some (.cells (logC dp n L sv) 73 (0, 0)) := (hK.block g hgl R.sg).trans R.blk
  have b1 := heap_setCell_same w2 g 13 _ _ sv2 hb2
  have b2 := heap_setCell_same (w2.setCell ⟨g, 13, none⟩ sv2) g 11 _ _ (.int .u64 (to : Int)) b1
  have K1 : Keep G w w2 := hK.weak (fun x hx => R.fs x hx)
  have K3 : Keep (fun x => x = g) w2 ((w2.setCell ⟨g, 13, none⟩ sv2).setCell ⟨g, 11, none⟩ (.int .u64 (to : Int))) := (keep_set w2 g 13 sv2).trans (keep_set _ g 11 _) (fun _ h => Or.inl h)
  have KA : Keep G w ((w2.setCell ⟨g, 13, none⟩ sv2).setCell ⟨g, 11, none⟩ (.int .u64 (to : Int))) := K1.trans K3 (fun x hx => Or.inl (by rw [hx]; exact R.fg))
  refine ⟨⟨b2.trans rfl, ?_, R.fits, hok, R.fg, fun x hx => R.fs x (hsv ▸ hx), fun x hx => Nat.lt_of_lt_of_le (R.lt x hx) KA.size⟩, KA⟩
  refine row_stays (w := w2) hown (fun x hx => K3.block x ?_ (fun e => R.sg (by rw [← hsv, hx, e])))
  obtain ⟨cur, hh⟩ := row_kind hown x hx
  exact (Array.getElem?_eq_some_iff.1 hh).1

theorem wdelete_zero (q : Option Addr) (n cap : Nat) (w : World) (hn : n ≤ cap) (hc : cap ≤ maxLen) :
    Calls Tryz.prog 67 #[.slice q n cap, .int .i64 0, .int .i64 0] w fun e w' => e = .returned (.slice q n cap) ∧ w' = w := by
  have h1 : (0 : Int) ≤ n := by omega
  have h2 : (n : Int) ≤ cap := by omega
  unfold maxLen at hc
  have h3 : (cap : Int) ≤ 9223372036854775807 := by omega
  clear hn hc
  go_enter Tryz.func67, Tryz.ntmps67
  go_wp2
  all_goals (go_ret; exact ⟨rfl, rfl⟩)

set_option maxRecDepth 20000 in
set_option maxHeartbeats 2000000 in
theorem wfree_any (G : Nat → Prop) (lp dp : Value) (n : Int) (L : LG) (to : Nat) (w : World) (h : LRep G w lp dp n L) :
    Calls Tryz.prog 46 #[lp, .int .u64 (to : Int)] w fun e w' => e = .returned (.int .i64 (if L.begins to then 0 else 1)) ∧ LRep G w' lp dp n (if L.begins to then L.free to else L) ∧ Keep G w w' := by
  obtain ⟨E, hE⟩ : ∃ E : Int, E = if L.begins to then 0 else 1 := ⟨_, rfl⟩
  obtain ⟨M, hM⟩ : ∃ M : LG, M = if L.begins to then L.free to else L := ⟨_, rfl⟩
  rw [← hE, ← hM]
  have HE := hide hE
  have HM := hide hM
  have h0 := h
  obtain ⟨g, sv, rfl, R⟩ := h
  obtain ⟨z1, z2, _⟩ := lz_le n R.fits
  obtain ⟨q, c, rfl, hc1, hc2⟩ := R.shape
  have hcnt : L.starts.length ≤ 8190 := by have := R.ok.count; have := R.ok.ring; omega
  have HSR := hide (search_any q c L.starts to w (stAt_of R.own) R.ok.sorted hcnt)
  have x13 := (fifteen_cells R.blk).2.2.2.2.1
  have HR := hide R
  have H0 := hide h0
  have HC1 := hide hc1
  have HC2 := hide hc2
  clear R z1 z2 hc1 hc2 h0 hcnt hE hM
  go_enter Tryz.func46, Tryz.ntmps46
  go_wp2_with fail
  refine Calls.mono (unhide HSR) ?_
  rintro e w1 ⟨i, rfl, hl, b1⟩
  have R1 := (unhide HR).below b1
  have HR1 := hide R1
  have HL := hide hl
  have HB1 := hide b1
  have x11 := (fifteen_cells R1.blk).2.2.1
  have x12 := (fifteen_cells R1.blk).2.2.2.1
  have x13' := (fifteen_cells R1.blk).2.2.2.2.1
  have f13 := (fifteen_cells R1.blk).2.2.2.2.2.2 13
  have f11 := (fifteen_cells R1.blk).2.2.2.2.2.2 11
  have hbi := begins_iff R1.ok.sorted hl
  have hnext := R1.ok.next
  have hiN : i ≤ L.starts.length := hl.1
  clear R1 hl b1 x13 HSR
  by_cases hb : L.begins to
  · have HBG := hide hb
    have hfok := free_ok (unhide HR1).ok (unhide HL) hb
    have HFO := hide hfok
    have hst : (L.free to).starts = L.starts.drop i := drop_lands (unhide HL)
    have HST := hide hst
    have hcond : (∃ h : i < L.starts.length, L.starts[i].1 = to) ∨ to = L.next := by
      rcases hb with hb | hb
      · exact Or.inl (hbi.1 hb)
      · exact Or.inr hb
    -- the test
    have hdec : decide (∃ h : i < L.starts.length, L.starts[i].1 = to) = true ∨ (decide (∃ h : i < L.starts.length, L.starts[i].1 = to) = false ∧ ((to : Int) == (L.next : Int)) = true) := by
      by_cases hx : ∃ h : i < L.starts.length, L.starts[i].1 = to
      · exact Or.inl (decide_eq_true hx)
      · rcases hcond with hc | hc
        · exact absurd hc hx
        · exact Or.inr ⟨decide_eq_false hx, by rw [hc]; simp⟩
    generalize decide (∃ h : i < L.starts.length, L.starts[i].1 = to) = dd at *
    by_cases hi0 : i = 0
    · have HD := hide (fun w' => wdelete_zero q L.starts.length c w' (unhide HC1) (unhide HC2))
      have hJ := (unhide HR1).freed (to := to) (sv2 := .slice q L.starts.length c) (Keep.refl _ w1) rfl (by rw [hst, hi0]; exact (unhide HR1).own) hfok
      have HJ := hide hJ
      subst hi0
      clear hst hfok hb hcond hbi hJ hiN
      rcases hdec with hdec | ⟨hdec, hdn⟩
      · subst hdec
        go_wp2_with fail
        refine Calls.mono (unhide HD _) ?_
        rintro e w2 ⟨rfl, rfl⟩
        go_wp2
        go_ret
        rw [unhide HE, unhide HM, if_pos (unhide HBG), if_pos (unhide HBG)]
        exact ⟨rfl, ⟨g, _, rfl, (unhide HJ).1⟩, (Keep.of_below (unhide HB1)).trans (unhide HJ).2 (fun _ h => Or.inl h)⟩
      · subst hdec
        go_wp2_with fail
        refine Calls.mono (unhide HD _) ?_
        rintro e w2 ⟨rfl, rfl⟩
        go_wp2
        go_ret
        rw [unhide HE, unhide HM, if_pos (unhide HBG), if_pos (unhide HBG)]
        exact ⟨rfl, ⟨g, _, rfl, (unhide HJ).1⟩, (Keep.of_below (unhide HB1)).trans (unhide HJ).2 (fun _ h => Or.inl h)⟩
    · rcases (unhide HR1).own.2 with ⟨_, h5⟩ | ⟨k, cap, cur, hv, _⟩
      · omega
      · cases hv
        have HD := hide (wdelete_any k c i L.starts w1 (unhide HR1).own (by omega) hiN)
        have HGK : Hid (k ≠ g ∧ g < w1.heap.size) := ⟨fun e => (unhide HR1).sg (by rw [← e]; rfl), (unhide HR1).lt g (unhide HR1).fg⟩
        clear hst hfok hb hcond hbi hiN hi0
        rcases hdec with hdec | ⟨hdec, hdn⟩
        · subst hdec
          go_wp2_with fail
          refine Calls.mono (unhide HD) ?_
          rintro e w2 ⟨rfl, o2, k2⟩
          have hJ := (unhide HR1).freed (to := to) (sv2 := .slice (some ⟨k, 0, none⟩) (L.starts.length - i) c) (k2.weak (fun x hx => by rw [hx]; rfl)) rfl (by rw [unhide HST, List.length_drop]; exact o2) (unhide HFO)
          have hblk := (k2.block g (unhide HGK).2 (fun e => (unhide HGK).1 e.symm)).trans (unhide HR1).blk
          have y13 := (fifteen_cells hblk).2.2.2.2.1
          have y11 := (fifteen_cells hblk).2.2.1
          have yf13 := (fifteen_cells hblk).2.2.2.2.2.2 13
          have yf11 := (fifteen_cells hblk).2.2.2.2.2.2 11
          have HJ := hide hJ
          clear o2 k2 hJ hblk x11 x12 x13' f13 f11 HD
          go_wp2
          go_ret
          rw [unhide HE, unhide HM, if_pos (unhide HBG), if_pos (unhide HBG)]
          exact ⟨rfl, ⟨g, _, rfl, (unhide HJ).1⟩, (Keep.of_below (unhide HB1)).trans (unhide HJ).2 (fun _ h => Or.inl h)⟩
        · subst hdec
          go_wp2_with fail
          refine Calls.mono (unhide HD) ?_
          rintro e w2 ⟨rfl, o2, k2⟩
          have hJ := (unhide HR1).freed (to := to) (sv2 := .slice (some ⟨k, 0, none⟩) (L.starts.length - i) c) (k2.weak (fun x hx => by rw [hx]; rfl)) rfl (by rw [unhide HST, List.length_drop]; exact o2) (unhide HFO)
          have hblk := (k2.block g (unhide HGK).2 (fun e => (unhide HGK).1 e.symm)).trans (unhide HR1).blk
          have y13 := (fifteen_cells hblk).2.2.2.2.1
          have y11 := (fifteen_cells hblk).2.2.1
          have yf13 := (fifteen_cells hblk).2.2.2.2.2.2 13
          have yf11 := (fifteen_cells hblk).2.2.2.2.2.2 11
          have HJ := hide hJ
          clear o2 k2 hJ hblk x11 x12 x13' f13 f11 HD
          go_wp2
          go_ret
          rw [unhide HE, unhide HM, if_pos (unhide HBG), if_pos (unhide HBG)]
          exact ⟨rfl, ⟨g, _, rfl, (unhide HJ).1⟩, (Keep.of_below (unhide HB1)).trans (unhide HJ).2 (fun _ h => Or.inl h)⟩
  · have HBG := hide hb
    have hd : decide (∃ h : i < L.starts.length, L.starts[i].1 = to) = false := decide_eq_false (fun hx => hb (Or.inl (hbi.2 hx)))
    have hne : ((to : Int) == (L.next : Int)) = false := by rw [beq_eq_false_iff_ne]; intro e; exact hb (Or.inr (by omega))
    generalize decide (∃ h : i < L.starts.length, L.starts[i].1 = to) = dd at *
    subst hd
    clear hb hbi hiN
    go_wp2
    go_ret
    rw [unhide HE, unhide HM, if_neg (unhide HBG), if_neg (unhide HBG)]
    exact ⟨rfl, ⟨g, _, rfl, unhide HR1⟩, Keep.of_below (unhide HB1)⟩

/-- What Sync answers, what it makes of the device and of the log. -/
def syncE (s : DK) (L : LG) : Int := if L.fallen = true then 40 else s.flushE
def syncS (s : DK) (L : LG) : DK := if L.fallen = true then s else s.flush
def syncL (s : DK) (L : LG) : LG := if L.fallen = true then L else if s.flushE = 40 then L.down else L
theorem flush_n (s : DK) : s.flush.n = s.n := by unfold DK.flush DK.tick; repeat' split
                                                 all_goals rfl
set_option maxRecDepth 20000 in
theorem wsync_any (F G : Nat → Prop) (lp dp : Value) (n : Int) (s : DK) (L : LG) (w : World) (hB : Both F G w lp dp n s L) (hw : s.waits.length ≤ 1048576) (ht : s.ticks ≤ 1048576) :
    Calls Tryz.prog 13 #[lp] w fun e w' => e = .returned (.int .i64 (syncE s L)) ∧ ∃ F', Both F' G w' lp dp n (syncS s L) (syncL s L) ∧ Moves (orF F G) (orF F' G) w w' := by
  have HB := hide hB
  obtain ⟨g, sv, hlp, R⟩ := hB.log
  subst hlp
  have x0 := (fifteen_cells R.blk).1.1
  have x14 := (fifteen_cells R.blk).2.2.2.2.2.1
  obtain ⟨dg, hdg⟩ : ∃ dg, dp = .pointer (some dg) := hB.dev.ptr
  subst hdg
  have HFL := hide (oflush_any F _ s w hB.dev hw ht)
  clear R hB hw ht
  unfold syncE syncS syncL
  cases hfa : L.fallen with
  | true =>
    rw [hfa] at x14
    rw [if_pos rfl, if_pos rfl, if_pos rfl]
    clear hfa HFL
    go_enter Tryz.func13, Tryz.ntmps13
    go_wp2
    go_ret
    exact ⟨rfl, F, unhide HB, Moves.refl _ _⟩
  | false =>
    rw [hfa] at x14
    rw [if_neg (by decide), if_neg (by decide), if_neg (by decide)]
    have HAN := hide (fun w' (h : LRep G w' (.pointer (some ⟨g, 0, none⟩)) (.pointer (some dg)) n L) => wanswer_any G _ _ n L s.flushE w' h)
    have HFN := hide (flush_n s)
    generalize hMM : (if s.flushE = 40 then L.down else L) = M at *
    generalize s.flushE = E at *
    generalize s.flush = S at *
    clear hfa hMM
    go_enter Tryz.func13, Tryz.ntmps13
    go_wp2_with fail
    refine Calls.mono (unhide HFL) ?_
    rintro e w1 ⟨rfl, F1, hd1, hm1⟩
    obtain ⟨hB1, hM1⟩ := (unhide HB).dev' hd1 hm1 (unhide HFN)
    have HA1 := hide (unhide HAN w1 hB1.log)
    have HB1 := hide hB1
    have HM1 := hide hM1
    clear hd1 hm1 hB1 hM1 HFL x0 x14
    go_wp2_with fail
    refine Calls.mono (unhide HA1) ?_
    rintro e w2 ⟨rfl, hl2, hk2⟩
    obtain ⟨hB2, hM2⟩ := (unhide HB1).log' hl2 ⟨hk2, fun k hk => Or.inl hk⟩
    have HB2 := hide hB2
    have HM2 := hide ((unhide HM1).trans hM2)
    clear hl2 hk2 hB2 hM2
    go_wp2
    go_ret
    exact ⟨rfl, F1, unhide HB2, unhide HM2⟩
end Go.Proofs.YtpkpjmebkikgdaaGreat
