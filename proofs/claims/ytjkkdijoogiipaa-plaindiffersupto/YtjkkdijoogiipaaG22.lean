/- Texts of ours, one behind the other: KCopy, PlDel, PlIns, PlIns2, PlIns3. -/
import Derived.Test.YtjkkdijoogiipaaG12
import Derived.Test.YtjkkdijoogiipaaG14
import Derived.Laws.CopyOwn
import Derived.Deep.RegionLaw
import Derived.Lib.Overlaps
import Derived.Lib.AppendZerosOnto
import Derived.Laws.Externs
/- copy and clear of rows of things of k cells, and what stands in the block behind them; nothing here speaks of the program. -/
namespace Go.Proofs.Ytjkkdijoogiipaa
open Go.RowKit

theorem splice_len {α : Type} (L : List α) (o : Nat) (cs : List α) (h : o + cs.length ≤ L.length) : (splice L o cs).length = L.length := length_splice L o cs h
theorem splice_take_le {α : Type} (L : List α) (o : Nat) (cs : List α) (k : Nat) (h : k ≤ o) (ho : o ≤ L.length) : (splice L o cs).take k = L.take k := by
  unfold splice
  rw [List.take_append_of_le_length (by rw [List.length_take]; omega), List.take_take, Nat.min_eq_left h]
theorem splice_take_eq {α : Type} (L : List α) (o : Nat) (cs : List α) (ho : o ≤ L.length) : (splice L o cs).take (o + cs.length) = L.take o ++ cs := by
  unfold splice
  rw [← List.append_assoc, List.take_left' (by rw [List.length_append, List.length_take]; omega)]
/-- What a block is behind writing some cells of it. -/
theorem own_cells {g : Nat} {t : TypeId} : ∀ (vs : List Value) (o : Nat) (w : World) (cur : Array Value), w.heap[g]? = some (.cells cur t (0, 0)) → o + vs.length ≤ cur.size →
    (w.setCells g o vs).heap[g]? = some (.cells (splice cur.toList o vs).toArray t (0, 0))
  | [], o, w, cur, h, _ => by
    simp only [World.setCells, splice, List.nil_append, List.length_nil, Nat.add_zero, List.take_append_drop, Array.toArray_toList]
    exact h
  | v :: vs, o, w, cur, h, hf => by
    rw [World.setCells, setCell_eq_setRow w g o cur t (0, 0) v h]
    have hf' : o + (vs.length + 1) ≤ cur.size := by simpa using hf
    rw [own_cells vs (o + 1) _ (cur.setIfInBounds o v) (setRow_heap w g cur _ t _ h) (by simp; omega)]
    have e := list_seg_step cur.toList o v vs (by simpa using hf')
    unfold splice
    simp only [Array.toList_setIfInBounds, List.length_cons]
    rw [← List.append_assoc, e, List.append_assoc]
theorem cell_of_heap {w : World} {g : Nat} {cur : Array Value} {t : TypeId} (h : w.heap[g]? = some (.cells cur t (0, 0))) (j : Nat) (hj : j < cur.size) : w.cell? ⟨g, j, none⟩ = some cur[j] ∧ w.frozen? ⟨g, j, none⟩ = false := by
  constructor
  · simp [World.cell?, h, hj]
  · simp [World.frozen?, h]
/-- copy of things of k cells. -/
theorem run_copy_k {P : Program} (w : World) (dT sT ty elem : TypeId) (k g o dLen dCap : Nat) (a : Addr) (sLen sCap : Nat) (cur : Array Value) (t : TypeId) (cs : List Value)
    (hu : P.underlying dT = some (.slice elem)) (hs : (P.info? elem).map (·.size) = some k)
    (hg : w.heap[g]? = some (.cells cur t (0, 0))) (hn : cs.length = Nat.min sLen dLen * k)
    (hsrc : ∀ j v, cs[j]? = some v → w.cell? (a.add j) = some v) (hfit : o + cs.length ≤ cur.size) (h1 : ∀ v ∈ cs, v.oneCell' = true) :
    (Builtin.copy_ #[dT, sT] ty #[.slice (some ⟨g, o, none⟩) dLen dCap, .slice (some a) sLen sCap]).run P w =
      .ok (goInt (Nat.min sLen dLen)) (w.setRow g (splice cur.toList o cs).toArray) := by
  have hl := run_loadCells_list (P := P) w a cs hsrc
  have hst := run_storeCells_at P g o t cs 0 cur w hg (by simpa using hfit) h1
  cases hq : P.info? elem with
  | none => simp [hq] at hs
  | some i =>
    have hi : i.size = k := by simpa [hq] using hs
    simp [Builtin.copy_, run_underlying hu, Builtin.lenOf, Builtin.firstCells, sizeOf, typeInfo, hq, hi, ← hn, hl, hst, splice]
theorem wpList_copy_k {P : Program} {w : World} {ops : Array Oper} {rest : List Oper} {o : Oper} {a : Act} {Q : Exit → Act → World → Prop} (hgd : o.guard = none) (d s : Operand) (dT sT : TypeId)
    (ho : o.op = .call { callee := .builtin .copy, args := #[d, s], argTypes := #[dT, sT] }) (elem : TypeId) (k : Nat) (hu : P.underlying dT = some (.slice elem)) (hsz : (P.info? elem).map (·.size) = some k)
    (g off dLen dCap : Nat) (ad : Addr) (sLen sCap : Nat) (hd : a.eval d = .slice (some ⟨g, off, none⟩) dLen dCap) (hs : a.eval s = .slice (some ad) sLen sCap)
    (cur : Array Value) (t : TypeId) (hg : w.heap[g]? = some (.cells cur t (0, 0))) (cs : List Value) (m : Nat) (hm : Nat.min sLen dLen = m) (hn : cs.length = m * k)
    (hsrc : ∀ j v, cs[j]? = some v → w.cell? (ad.add j) = some v) (hfit : off + cs.length ≤ cur.size) (h1 : ∀ v ∈ cs, v.oneCell' = true)
    (h : wpList P ops Q rest (a.put o.dst (goInt m)) (w.setRow g (splice cur.toList off cs).toArray)) : wpList P ops Q (o :: rest) a w := by
  subst hm
  refine wpList_plain hgd fun K hK => ?_
  have hrun := run_copy_k (P := P) w dT sT o.type elem k g off dLen dCap ad sLen sCap cur t cs hu hsz hg hn hsrc hfit h1
  unfold Oper.wp
  simp [execOp, ho, resolve, invoke, builtin, hd, hs, hrun, Result.andThen]
  exact hK _ _ h
theorem step_copy_k {P : Program} {ops : Array Oper} {o : Oper} {a : Act} {w : World} {K : Act → World → Prop} {Q : Exit → Act → World → Prop} {E : Prop} (hgd : o.guard = none) (d s : Operand) (dT sT : TypeId)
    (ho : o.op = .call { callee := .builtin .copy, args := #[d, s], argTypes := #[dT, sT] }) (elem : TypeId) (k : Nat) (hu : P.underlying dT = some (.slice elem)) (hsz : (P.info? elem).map (·.size) = some k)
    (g off dLen dCap : Nat) (ad : Addr) (sLen sCap : Nat) (hd : a.eval d = .slice (some ⟨g, off, none⟩) dLen dCap) (hs : a.eval s = .slice (some ad) sLen sCap)
    (cur : Array Value) (t : TypeId) (hg : w.heap[g]? = some (.cells cur t (0, 0))) (cs : List Value) (m : Nat) (hm : Nat.min sLen dLen = m) (hn : cs.length = m * k)
    (hsrc : ∀ j v, cs[j]? = some v → w.cell? (ad.add j) = some v) (hfit : off + cs.length ≤ cur.size) (h1 : ∀ v ∈ cs, v.oneCell' = true)
    (h : K (a.put o.dst (goInt m)) (w.setRow g (splice cur.toList off cs).toArray)) : if Region.wanted o (yielded ops a.tmps) = true then Oper.wp P o a w K Q else E := by
  subst hm
  have hw : Region.wanted o (yielded ops a.tmps) = true := by simp [Region.wanted, hgd]
  rw [if_pos hw]
  have hrun := run_copy_k (P := P) w dT sT o.type elem k g off dLen dCap ad sLen sCap cur t cs hu hsz hg hn hsrc hfit h1
  unfold Oper.wp
  simp [execOp, ho, resolve, invoke, builtin, hd, hs, hrun, Result.andThen]
  exact h
/-- clear of one thing. -/
theorem run_clear_one {P : Program} (w : World) (t e ty : TypeId) (z : Value) (ht : P.underlying t = some (.slice e)) (hv : ∀ w, (zeroValue e).run P w = .ok z w) (h1 : ∀ u ∈ z.cells.toList, u.oneCell' = true) (g o c : Nat)
    (cur : Array Value) (T : TypeId) (hg : w.heap[g]? = some (.cells cur T (0, 0))) (hf : o + z.cells.size ≤ cur.size) :
    (Builtin.clear_ #[t] ty #[.slice (some ⟨g, o, none⟩) 1 c]).run P w = .ok (.tuple #[]) (w.setRow g (splice cur.toList o z.cells.toList).toArray) := by
  have hzc : (Builtin.zeroCells z.cells 1).toList = z.cells.toList := by
    apply List.ext_getElem
    · simp [Builtin.zeroCells]
    · intro i h1 h2
      have hi : i < z.cells.size := by simpa using h2
      simp [Builtin.zeroCells, Nat.mod_eq_of_lt hi, getElem!_pos z.cells i hi]
  have hst := run_storeCells_at P g o T z.cells.toList 0 cur w hg (by simpa using hf) h1
  simp [Builtin.clear_, run_underlying ht, hv, hzc, hst, splice]
end Go.Proofs.Ytjkkdijoogiipaa

/- slices.Delete of one pair, in a row of the call's own. -/
namespace Go.Proofs.Ytjkkdijoogiipaa
open Go.RowKit

theorem below_sets {B b : Nat} {a : World} (hb : B ≤ b) : ∀ (vs : List Value) (o : Nat) (w : World), Below B a w → Below B a (w.setCells b o vs)
  | [], _, _, h => h
  | v :: vs, o, _, h => below_sets hb vs (o + 1) _ (h.setCell hb v)
def zPair : List Value := [.string ⟨#[]⟩, .slice none 0 0]
set_option maxRecDepth 20000 in
set_option maxHeartbeats 4000000 in
theorem del_any (g n cap i j q base : Nat) (cur : Array Value) (xs : List Value) (w : World) (hb : base ≤ g) (hg : w.heap[g]? = some (.cells cur 34 (0, 0))) (hn : n ≤ cap) (hc : cap ≤ maxLen) (hs : cur.size = cap * 2) (hx : cur.toList.take (n * 2) = xs)
    (h1 : ∀ u ∈ xs, u.oneCell' = true) (hi : i < n) (hj : j = i + 1) (hq : n = q + 1) :
    Calls Try.prog 39 #[.slice (some ⟨g, 0, none⟩) n cap, .int .i64 (i : Int), .int .i64 (j : Int)] w fun e w' => e = .returned (.slice (some ⟨g, 0, none⟩) q cap) ∧
      w'.ownsRow base 34 2 (.slice (some ⟨g, 0, none⟩) q cap) q (xs.take (i * 2) ++ xs.drop (j * 2)) ∧ Below base w w' := by
  obtain ⟨i0, hi0, hz0, hz1, hz2⟩ := info_parts Try.info34
  obtain ⟨d, hd⟩ : ∃ d, q = i + d := ⟨q - i, by omega⟩
  have hxl : xs.length = n * 2 := by rw [← hx, List.length_take, Array.length_toList, hs]; omega
  obtain ⟨news, hnews⟩ : ∃ news, news = xs.drop (j * 2) := ⟨_, rfl⟩
  have hnl : news.length = d * 2 := by rw [hnews, List.length_drop, hxl]; omega
  have hxg : ∀ j u, xs[j]? = some u → w.cell? ⟨g, j, none⟩ = some u := fun j u hu => by
    have hj := (List.getElem?_eq_some_iff.1 hu).1
    rw [(cell_of_heap hg j (by omega)).1]
    rw [← hx, List.getElem?_take] at hu
    split at hu
    · rw [Array.getElem?_toList, Array.getElem?_eq_getElem (by omega)] at hu
      exact hu
    · cases hu
  have HS1 : Hid (∀ t u, news[t]? = some u → w.drew.cell? ((⟨g, j * 2, none⟩ : Addr).add t) = some u) := fun t u hu => by
    rw [Addr.add_lit]
    rw [hnews, List.getElem?_drop] at hu
    exact hxg _ _ hu
  have HS2 : Hid (∀ u ∈ news, u.oneCell' = true) := fun u hu => by rw [hnews] at hu; exact h1 u (List.mem_of_mem_drop hu)
  have HS3 : Hid (∀ j, j < news.length → (w.drew.cell? ⟨g, 0 + i * 2 + j, none⟩).isSome = true ∧ w.drew.frozen? ⟨g, 0 + i * 2 + j, none⟩ = false) := fun j hj => by
    have := cell_of_heap hg (0 + i * 2 + j) (by omega)
    exact ⟨by show (w.cell? _).isSome = true; rw [this.1]; rfl, this.2⟩
  obtain ⟨W1, hW1⟩ : ∃ W1, W1 = w.drew.setCells g (0 + i * 2) news := ⟨_, rfl⟩
  have hg1 : W1.heap[g]? = some (.cells (splice cur.toList (0 + i * 2) news).toArray 34 (0, 0)) := by
    rw [hW1]
    exact own_cells news (0 + i * 2) w.drew cur hg (by omega)
  have hcl : ∀ ty c', (Builtin.clear_ #[22] ty #[.slice (some ⟨g, q * 2, none⟩) 1 c']).run Try.prog W1 = .ok (.tuple #[]) (W1.setRow g (splice (splice cur.toList (0 + i * 2) news) (q * 2) zPair).toArray) := fun ty c' => by
    have := run_clear_one (P := Try.prog) W1 22 34 ty (.agg #[.string ⟨#[]⟩, .slice none 0 0]) Try.underlying22 (fun w => by kernel_rfl) (by intro u hu; simp [Value.cells] at hu; rcases hu with rfl | rfl <;> rfl) g (q * 2) c' _ _ hg1 (by
      have e9 : (splice cur.toList (0 + i * 2) news).toArray.size = cur.size := by
        rw [List.size_toArray, splice_len _ _ _ (by simp; omega), Array.length_toList]
      rw [e9]
      show _ + 2 ≤ _
      omega)
    have hz : (Value.agg #[.string ⟨#[]⟩, .slice none 0 0]).cells.toList = zPair := by simp [Value.cells, zPair]
    rw [hz] at this
    exact this
  obtain ⟨W2, hW2⟩ : ∃ W2, W2 = W1.setRow g (splice (splice cur.toList (0 + i * 2) news) (q * 2) zPair).toArray := ⟨_, rfl⟩
  rw [← hW2] at hcl
  have hsl : (splice cur.toList (0 + i * 2) news).length = cap * 2 := by rw [splice_len _ _ _ (by simp; omega), Array.length_toList, hs]
  have hsl2 : (splice (splice cur.toList (0 + i * 2) news) (q * 2) zPair).length = cap * 2 := by rw [splice_len _ _ _ (by rw [hsl]; simp [zPair]; omega), hsl]
  have HFI : Hid (W2.ownsRow base 34 2 (.slice (some ⟨g, 0, none⟩) q cap) q (xs.take (i * 2) ++ xs.drop (j * 2)) ∧ Below base w W2) := by
    rw [← hnews]
    refine ⟨⟨?_, Or.inr ⟨g, cap, (splice (splice cur.toList (0 + i * 2) news) (q * 2) zPair).toArray, rfl, hb, ?_, by omega, hc, ?_, ?_⟩⟩, ?_⟩
    · rw [List.length_append, List.length_take, hxl, hnl]; omega
    · rw [hW2]; exact setRow_heap W1 g _ _ _ _ hg1
    · simpa using hsl2
    · rw [List.toList_toArray, splice_take_le _ _ _ _ (Nat.le_refl _) (by rw [hsl]; omega)]
      have := splice_take_eq cur.toList (0 + i * 2) news (by simp; omega)
      rw [hnl, show 0 + i * 2 + d * 2 = q * 2 by omega] at this
      rw [this, ← hx, List.take_take, Nat.zero_add]
      congr 2
      omega
    · rw [hW2]
      refine below_setRow ?_ hb _
      rw [hW1]
      exact below_sets hb news _ _ (Below.refl base w).drew
  have HW1 := hide hW1
  have HNL := hide hnl
  have hic : i ≤ cap := by omega
  have hjc : j ≤ cap := by omega
  have hij : i ≤ j := by omega
  have hjn : j ≤ n := by omega
  have hqc : q ≤ cap := by omega
  have hqn : q ≤ n := by omega
  have hne : ((i : Int) == (j : Int)) = false := by simp; omega
  have hne2 : ¬ (i : Int) = (j : Int) := by omega
  have hne3 : ¬ i = j := by omega
  have hqq : ¬ cap = q := by omega
  have e1 : n - j = d := by omega
  have e2 : i + d = q := by omega
  have e3 : n - q = 1 := by omega
  have hdc : i + d ≤ cap := by omega
  have hcc : cap ≤ 9223372036854775807 := by unfold maxLen at hc; exact hc
  have HN0 : Hid (cap = j → news = [] ∧ n = j ∧ d = 0) := fun e => ⟨List.eq_nil_of_length_eq_zero (by rw [hnl]; omega), by omega, by omega⟩
  clear hg hx h1 hxg hnl hnews hW1 hg1 hW2 hs hsl hsl2 hxl hc hj hq hd hi hn
  by_cases hcj : cap = j
  · obtain ⟨hnil, hnj, hd0⟩ := unhide HN0 hcj
    subst hnil
    subst hnj
    subst hd0
    subst hcj
    go_enter Try.func39, Try.ntmps39
    go_wp2_with fail
    go_region_law (refine step_append_room rfl _ _ 22 rfl 34 i0 2 Try.underlying22 hi0 hz1 g 0 i cap (by simp [Act.eval, Act.put]) ⟨g, 0, none⟩ 0 0 [] (by simp [Act.eval, Act.put]) rfl (by intro t u ht; simp at ht) (by intro u hu; simp at hu) (by omega) (by intro t ht; simp at ht) ?_; rw [← unhide HW1, e2])
    go_wp2
    go_ret
    exact ⟨rfl, (unhide HFI).1, (unhide HFI).2⟩
  · go_enter Try.func39, Try.ntmps39
    go_wp2_with fail
    go_region_law (refine step_append_room rfl _ _ 22 rfl 34 i0 2 Try.underlying22 hi0 hz1 g 0 i cap (by simp [Act.eval, Act.put]) ⟨g, j * 2, none⟩ d (cap - j) news (by simp [Act.eval, Act.put]) (unhide HNL) (unhide HS1) (unhide HS2) hdc (unhide HS3) ?_; rw [← unhide HW1, e2])
    go_wp2
    go_ret
    exact ⟨rfl, (unhide HFI).1, (unhide HFI).2⟩
end Go.Proofs.Ytjkkdijoogiipaa

/- slices.Insert of one pair, into a row of the call's own. -/
namespace Go.Proofs.Ytjkkdijoogiipaa
open Go.RowKit

set_option maxRecDepth 20000 in
set_option maxHeartbeats 4000000 in
/-- At the end. -/
theorem ins_end (v : Value) (n base vb : Nat) (xs : List Value) (u1 u2 : Value) (w : World) (hown : w.ownsRow base 34 2 v n xs) (hv : w.heap[vb]? = some (.cells #[u1, u2] 34 (0, 0))) (h1 : u1.oneCell' = true) (h2 : u2.oneCell' = true)
    (hroom : (n + 1) * 40 ≤ 140737488355328) (hbase : base ≤ w.heap.size) :
    Calls Try.prog 40 #[v, .int .i64 (n : Int), .slice (some ⟨vb, 0, none⟩) 1 1] w fun e w' => ∃ v', e = .returned v' ∧ w'.ownsRow base 34 2 v' (n + 1) (xs ++ [u1, u2]) ∧ Below base w w' := by
  obtain ⟨i0, hi0, hz0, hz1, hz2⟩ := info_parts Try.info34
  have HKR : Hid (KRow 2 w (.slice (some ⟨vb, 0, none⟩) 1 1) 1 [u1, u2]) := by
    refine ⟨_, 1, rfl, Nat.le_refl _, by unfold maxLen; omega, fun e => (by cases e), rfl, Or.inr ⟨vb, 0, rfl, fun j u hu => ?_⟩⟩
    match j, hu with
    | 0, hu => simp only [List.getElem?_cons_zero, Option.some.injEq] at hu; subst hu; exact (cell_of_heap hv 0 (by simp)).1
    | 1, hu => simp only [List.getElem?_cons_succ, List.getElem?_cons_zero, Option.some.injEq] at hu; subst hu; exact (cell_of_heap hv 1 (by simp)).1
  have HON : Hid (∀ u ∈ [u1, u2], u.oneCell' = true) := fun u hu => by
    simp only [List.mem_cons, List.not_mem_nil, or_false] at hu
    rcases hu with rfl | rfl
    · exact h1
    · exact h2
  obtain ⟨p, c, hve, hnc, hcm, _⟩ : ∃ p c, v = .slice p n c ∧ n ≤ c ∧ c ≤ 9223372036854775807 ∧ True := by
    rcases hown.2 with ⟨e, h0⟩ | ⟨g', cap', cur, e, _, _, a1, a2, _⟩
    · exact ⟨none, 0, by rw [e, h0], by omega, by omega, trivial⟩
    · unfold maxLen at a2
      exact ⟨_, _, e, a1, a2, trivial⟩
  subst hve
  have HOW := hide hown
  have HKV := hide (krow_of_owns hown hown.1)
  have HRM : Hid (n + 1 ≤ maxLen ∧ (n + 1) * 40 ≤ 140737488355328) := ⟨by unfold maxLen; omega, hroom⟩
  have hn0 : (n : Int) ≤ 9223372036854775807 := by omega
  clear hown hroom h1 h2 hv
  have HAP : Hid (∀ (ops : Array Oper) (rest : List Oper) (o : Oper) (a : Act) (Q : Exit → Act → World → Prop) (s x : Operand), o.guard = none → o.op = .call { callee := .builtin .append, args := #[s, x], argTypes := #[22, 22] } → a.eval s = .slice p n c → a.eval x = .slice (some ⟨vb, 0, none⟩) 1 1 → (∀ v' w', Hid (w'.ownsRow base 34 2 v' (n + 1) (xs ++ [u1, u2]) ∧ Below base w w') → (∃ g2 c2, v' = .slice (some ⟨g2, 0, none⟩) (n + 1) c2) → wpList Try.prog ops Q rest (a.put o.dst v') w') → wpList Try.prog ops Q (o :: rest) a w) := by
    intro ops rest o a Q s x hgd ho hs hx hk
    refine wpList_append_krow hgd s x 22 ho base 34 i0 (.agg #[.string ⟨#[]⟩, .slice none 0 0]) Try.underlying22 hi0 hz0 2 40 (by omega) hz1 hz2 rfl (.slice p n c) n xs hs (unhide HOW) (some ⟨vb, 0, none⟩) 1 1 [u1, u2] hx (unhide HKR) (unhide HON) (unhide HRM).1 (unhide HRM).2 hbase ?_
    intro v' w' hown' hg' hob'
    refine hk v' w' ⟨hown', (Below.refl base w).grown hg' hbase (fun k hk => ((unhide HOW).lt k hk).1)⟩ ?_
    rcases hown'.2 with ⟨_, hz9⟩ | ⟨g2, cap2, cur2, e2, _⟩
    · exact absurd hz9 (by omega)
    · exact ⟨g2, cap2, e2⟩
  clear hi0 hz0 hz1 hz2 HOW HKR HON HRM
  go_enter Try.func40, Try.ntmps40
  go_wp2_with (first
    | (refine wpList_kslice_l rfl 22 34 _ _ rfl 2 Try.underlying22 (by kernel_rfl) p n c xs n rfl rfl (unhide HKV) (Nat.le_refl _) ?_; intro q1 c2 hk1; clear hk1)
    | (refine unhide HAP _ _ _ _ _ _ _ rfl rfl rfl rfl ?_; intro v' w' HZ hsh; obtain ⟨g2, cap2, rfl⟩ := hsh))
  go_ret
  exact ⟨_, rfl, (unhide HZ).1, (unhide HZ).2⟩
end Go.Proofs.Ytjkkdijoogiipaa

/- slices.Insert of one pair in the midst of a row of the call's own. -/
namespace Go.Proofs.Ytjkkdijoogiipaa
open Go.RowKit

theorem splice_take_more {α : Type} (L : List α) (o : Nat) (cs : List α) (r : Nat) (ho : o ≤ L.length) : (splice L o cs).take (o + cs.length + r) = L.take o ++ cs ++ (L.drop (o + cs.length)).take r := by
  unfold splice
  have e : o + cs.length = (L.take o ++ cs).length := by rw [List.length_append, List.length_take]; omega
  rw [← List.append_assoc]
  have e2 := List.take_length_add_append (l₁ := L.take o ++ cs) (l₂ := L.drop (o + cs.length)) (i := r)
  rw [← e] at e2
  exact e2
set_option maxRecDepth 20000 in
set_option maxHeartbeats 4000000 in
/-- In the midst, where there is room. -/
theorem ins_room (g n cap i base vb : Nat) (cur : Array Value) (xs : List Value) (u1 u2 : Value) (w : World) (hb : base ≤ g) (hg : w.heap[g]? = some (.cells cur 34 (0, 0))) (hn : n + 1 ≤ cap) (hc : cap ≤ maxLen) (hs : cur.size = cap * 2) (hx : cur.toList.take (n * 2) = xs)
    (h1 : ∀ u ∈ xs, u.oneCell' = true) (hi : i < n) (hv : w.heap[vb]? = some (.cells #[u1, u2] 34 (0, 0))) (o1 : u1.oneCell' = true) (o2 : u2.oneCell' = true) (hvg : vb ≠ g) :
    Calls Try.prog 40 #[.slice (some ⟨g, 0, none⟩) n cap, .int .i64 (i : Int), .slice (some ⟨vb, 0, none⟩) 1 1] w fun e w' => e = .returned (.slice (some ⟨g, 0, none⟩) (n + 1) cap) ∧
      w'.ownsRow base 34 2 (.slice (some ⟨g, 0, none⟩) (n + 1) cap) (n + 1) (xs.take (i * 2) ++ [u1, u2] ++ xs.drop (i * 2)) ∧ Below base w w' := by
  have hxl : xs.length = n * 2 := by rw [← hx, List.length_take, Array.length_toList, hs]; omega
  have hxg : ∀ j u, xs[j]? = some u → w.cell? ⟨g, j, none⟩ = some u := fun j u hu => by
    have hj := (List.getElem?_eq_some_iff.1 hu).1
    rw [(cell_of_heap hg j (by omega)).1]
    rw [← hx, List.getElem?_take] at hu
    split at hu
    · rw [Array.getElem?_toList, Array.getElem?_eq_getElem (by omega)] at hu
      exact hu
    · cases hu
  have hov : ∀ W lb cb, W.heap[vb]? = w.heap[vb]? → W.heap[g]? = w.heap[g]? → (callFunc 44 #[.slice (some ⟨vb, 0, none⟩) 1 1, .slice (some ⟨g, (i + 1) * 2, none⟩) lb cb]).run Try.prog W = .ok (.value (.bool false)) W := fun W lb cb e1 e2 => by
    rw [run_callFunc_extern Try.func44 (by kernel_rfl) (by kernel_rfl) (by kernel_rfl) (e := Extern.SlicesOverlaps.overlaps #[22, 22] #[4]) (by kernel_rfl),
      Lib.run_overlaps_apart W 22 4 34 Try.underlying22 2 (fun w => by kernel_rfl) ⟨vb, 0, none⟩ ⟨g, (i + 1) * 2, none⟩ 1 1 lb cb hvg 34 34 2 (cap * 2) (by rw [World.shape?, e1, hv]; rfl) (by rw [World.shape?, e2, hg]; simp [hs]) (by omega) (by rw [World.frozen?, e1, hv]; rfl) (by rw [World.frozen?, e1, hv]; rfl)]
    rfl
  obtain ⟨A, hA⟩ : ∃ A, A = splice cur.toList ((i + 1) * 2) (xs.drop (i * 2)) := ⟨_, rfl⟩
  have hdl : (xs.drop (i * 2)).length = (n - i) * 2 := by rw [List.length_drop, hxl]; omega
  have hAl : A.length = cap * 2 := by rw [hA, splice_len _ _ _ (by rw [hdl, Array.length_toList]; omega), Array.length_toList, hs]
  obtain ⟨W1, hW1⟩ : ∃ W1, W1 = w.drew.setRow g A.toArray := ⟨_, rfl⟩
  have hg1 : W1.heap[g]? = some (.cells A.toArray 34 (0, 0)) := by rw [hW1]; exact setRow_heap w.drew g cur _ _ _ hg
  have hv1 : W1.heap[vb]? = some (.cells #[u1, u2] 34 (0, 0)) := by rw [hW1, setRow_other w.drew g vb A.toArray hvg]; exact hv
  obtain ⟨C, hC⟩ : ∃ C, C = splice A (i * 2) [u1, u2] := ⟨_, rfl⟩
  have hCl : C.length = cap * 2 := by rw [hC, splice_len _ _ _ (by rw [hAl]; simp; omega), hAl]
  have HA1 : Hid (∀ (ops : Array Oper) (o : Oper) (a : Act) (K : Act → World → Prop) (Q : Exit → Act → World → Prop) (E : Prop) (s x : Operand) (dl dc sl sc : Nat), Nat.min sl dl = n - i → o.guard = none → o.op = .call { callee := .builtin .copy, args := #[s, x], argTypes := #[22, 22] } →
      a.eval s = .slice (some ⟨g, (i + 1) * 2, none⟩) dl dc → a.eval x = .slice (some ⟨g, i * 2, none⟩) sl sc → K (a.put o.dst (goInt ((n - i : Nat) : Int))) W1 → if Region.wanted o (yielded ops a.tmps) = true then Oper.wp Try.prog o a w.drew K Q else E) := by
    intro ops o a K Q E s x dl dc sl sc hm hgd ho hs' hx' hk
    refine step_copy_k hgd s x 22 22 ho 34 2 Try.underlying22 (by kernel_rfl) g ((i + 1) * 2) dl dc ⟨g, i * 2, none⟩ sl sc hs' hx' cur 34 hg (xs.drop (i * 2)) (n - i) hm hdl (fun j u hu => ?_) (by rw [hdl]; omega) (fun u hu => h1 u (List.mem_of_mem_drop hu)) ?_
    · rw [Addr.add_lit]
      rw [List.getElem?_drop] at hu
      exact hxg _ _ hu
    · rw [← hA, ← hW1]
      exact hk
  obtain ⟨W2, hW2⟩ : ∃ W2, W2 = W1.setRow g C.toArray := ⟨_, rfl⟩
  have HA2 : Hid (∀ (ops : Array Oper) (rest : List Oper) (o : Oper) (a : Act) (Q : Exit → Act → World → Prop) (s x : Operand) (dl dc : Nat), Nat.min 1 dl = 1 → o.guard = none → o.op = .call { callee := .builtin .copy, args := #[s, x], argTypes := #[22, 22] } →
      a.eval s = .slice (some ⟨g, i * 2, none⟩) dl dc → a.eval x = .slice (some ⟨vb, 0, none⟩) 1 1 → wpList Try.prog ops Q rest (a.put o.dst (goInt 1)) W2 → wpList Try.prog ops Q (o :: rest) a W1) := by
    intro ops rest o a Q s x dl dc hm hgd ho hs' hx' hk
    refine wpList_copy_k hgd s x 22 22 ho 34 2 Try.underlying22 (by kernel_rfl) g (i * 2) dl dc ⟨vb, 0, none⟩ 1 1 hs' hx' A.toArray 34 hg1 [u1, u2] 1 hm rfl (fun j u hu => ?_) (by simp [hAl]; omega) (fun u hu => ?_) ?_
    · rw [Addr.add_lit, Nat.zero_add]
      match j, hu with
      | 0, hu => simp only [List.getElem?_cons_zero, Option.some.injEq] at hu; subst hu; exact (cell_of_heap hv1 0 (by simp)).1
      | 1, hu => simp only [List.getElem?_cons_succ, List.getElem?_cons_zero, Option.some.injEq] at hu; subst hu; exact (cell_of_heap hv1 1 (by simp)).1
    · simp only [List.mem_cons, List.not_mem_nil, or_false] at hu
      rcases hu with rfl | rfl
      · exact o1
      · exact o2
    · rw [List.toList_toArray, ← hC, ← hW2]
      exact hk
  have HFI : Hid (W2.ownsRow base 34 2 (.slice (some ⟨g, 0, none⟩) (n + 1) cap) (n + 1) (xs.take (i * 2) ++ [u1, u2] ++ xs.drop (i * 2)) ∧ Below base w W2) := by
    refine ⟨⟨?_, Or.inr ⟨g, cap, C.toArray, rfl, hb, ?_, by omega, hc, by simpa using hCl, ?_⟩⟩, ?_⟩
    · rw [List.length_append, List.length_append, List.length_take, hxl, hdl]; simp; omega
    · rw [hW2]; exact setRow_heap W1 g _ _ _ _ hg1
    · rw [List.toList_toArray, hC]
      have eA : A.take (i * 2) = xs.take (i * 2) := by
        rw [hA, splice_take_le _ _ _ _ (by omega) (by simp; omega), ← hx, List.take_take]
        congr 1
        omega
      have eD : (A.drop (i * 2 + 2)).take ((n - i) * 2) = xs.drop (i * 2) := by
        rw [hA]
        unfold splice
        rw [List.drop_left' (by rw [List.length_take, Array.length_toList]; omega), List.take_left' hdl]
      have e9 := splice_take_more A (i * 2) [u1, u2] ((n - i) * 2) (by omega)
      simp only [List.length_cons, List.length_nil, Nat.zero_add, Nat.reduceAdd] at e9
      rw [eA, eD, show i * 2 + 2 + (n - i) * 2 = (n + 1) * 2 by omega] at e9
      exact e9
    · rw [hW2]
      refine below_setRow ?_ hb _
      rw [hW1]
      exact below_setRow (Below.refl base w).drew hb _
  have hcc : cap ≤ 9223372036854775807 := by unfold maxLen at hc; exact hc
  have f1 : ¬ cap = i := by omega
  have f2 : ¬ cap = i + 1 := by omega
  have f3 : ¬ (i : Int) = (n : Int) := by omega
  have f4 : ((i : Int) == (n : Int)) = false := by simp; omega
  have f5 : ¬ (cap : Int) < (n : Int) + 1 := by omega
  have f6 : i ≤ n := by omega
  have f7 : i ≤ n + 1 := by omega
  have f8 : n ≤ cap := by omega
  have f9 : IntKind.i64.wrap ((n : Int) + 1) = (n : Int) + 1 := by rw [IntKind.wrap_i64]; omega
  have f10 : IntKind.i64.wrap ((i : Int) + 1) = (i : Int) + 1 := by rw [IntKind.wrap_i64]; omega
  have g1 : (0 : Int) ≤ (i : Int) + 1 := by omega
  have g2 : ((i : Int) + 1).toNat = i + 1 := by omega
  have g3 : (i : Int) ≤ (n : Int) := by omega
  have g4 : (i : Int) + 1 ≤ (n : Int) + 1 := by omega
  have g5 : i + 1 ≤ n + 1 := by omega
  have g6 : (i : Int) ≤ (n : Int) + 1 := by omega
  have HO : Hid (∀ lb cb, (callFunc 44 #[.slice (some ⟨vb, 0, none⟩) 1 1, .slice (some ⟨g, (i + 1) * 2, none⟩) lb cb]).run Try.prog w = .ok (.value (.bool false)) w) := fun lb cb => hov w lb cb rfl rfl
  have hov2 := unhide HO
  have HIN : Hid (i < n) := hi
  clear hov hg hx h1 hxg hxl hg1 hv1 hv hs hAl hCl hdl hW1 hW2 hA hC hc
  go_enter Try.func40, Try.ntmps40
  go_wp2_with (simp only [hov2])
  go_region_law (refine unhide HA1 _ _ _ _ _ _ _ _ (n - i) (cap - (i + 1)) (n + 1 - i) (cap - i) (by have h9 := unhide HIN; simp only [Nat.min_def]; split <;> omega) rfl rfl (by simp [Act.eval, Act.put]) (by simp [Act.eval, Act.put]) ?_)
  go_wp2_with (refine unhide HA2 _ _ _ _ _ _ _ (n + 1 - i) (cap - i) (by have h9 := unhide HIN; simp only [Nat.min_def]; split <;> omega) rfl rfl rfl rfl ?_)
  go_ret
  exact ⟨rfl, (unhide HFI).1, (unhide HFI).2⟩
end Go.Proofs.Ytjkkdijoogiipaa

/- slices.Insert of one pair in the midst of a row of the call's own that has no room. -/
namespace Go.Proofs.Ytjkkdijoogiipaa
open Go.RowKit

theorem wpList_append_eq {P : Program} {ops : Array Oper} {rest : List Oper} {o : Oper} {a : Act} {Q : Exit → Act → World → Prop} (w : World) (hgd : o.guard = none) (d s : Operand) (t t' : TypeId)
    (ho : o.op = .call { callee := .builtin .append, args := #[d, s], argTypes := #[t, t'] }) (v u : Value) (hd : a.eval d = v) (hs : a.eval s = u) {v' : Value} {w' : World}
    (hr : (Builtin.append_ #[t, t'] o.type #[v, u]).run P w = .ok v' w') (h : wpList P ops Q rest (a.put o.dst v') w') : wpList P ops Q (o :: rest) a w := by
  refine wpList_plain hgd fun K hK => ?_
  unfold Oper.wp execOp
  simp only [ho, resolve, invoke, builtin, Sem.run_bind, Sem.run_pure, Result.andThen_ok, List.map_toArray, List.map_cons, List.map_nil, hd, hs, hr]
  exact hK _ _ h
set_option maxRecDepth 20000 in
set_option maxHeartbeats 4000000 in
/-- In the midst, where there is no room. -/
theorem ins_grow (g n i base vb : Nat) (cur : Array Value) (xs : List Value) (u1 u2 : Value) (w : World) (hbase : base ≤ w.heap.size) (hg : w.heap[g]? = some (.cells cur 34 (0, 0))) (hs : cur.size = n * 2) (hx : cur.toList.take (n * 2) = xs)
    (h1 : ∀ u ∈ xs, u.oneCell' = true) (hi : i < n) (hv : w.heap[vb]? = some (.cells #[u1, u2] 34 (0, 0))) (o1 : u1.oneCell' = true) (o2 : u2.oneCell' = true) (hroom : (n + 1) * 40 ≤ 140737488355328) :
    Calls Try.prog 40 #[.slice (some ⟨g, 0, none⟩) n n, .int .i64 (i : Int), .slice (some ⟨vb, 0, none⟩) 1 1] w fun e w' => ∃ v', e = .returned v' ∧
      w'.ownsRow base 34 2 v' (n + 1) (xs.take (i * 2) ++ [u1, u2] ++ xs.drop (i * 2)) ∧ Below base w w' := by
  obtain ⟨i0, hi0, hz0, hz1, hz2⟩ := info_parts Try.info34
  have hxl : xs.length = n * 2 := by rw [← hx, List.length_take, Array.length_toList, hs]; omega
  have hgl : g < w.heap.size := (Array.getElem?_eq_some_iff.1 hg).1
  have hvl : vb < w.heap.size := (Array.getElem?_eq_some_iff.1 hv).1
  have hxg : ∀ j u, xs[j]? = some u → w.cell? ⟨g, j, none⟩ = some u := fun j u hu => by
    have hj := (List.getElem?_eq_some_iff.1 hu).1
    rw [(cell_of_heap hg j (by omega)).1]
    rw [← hx, List.getElem?_take] at hu
    split at hu
    · rw [Array.getElem?_toList, Array.getElem?_eq_getElem (by omega)] at hu
      exact hu
    · cases hu
  obtain ⟨k, hk⟩ : ∃ k, n + 1 = i + k := ⟨n + 1 - i, by omega⟩
  obtain ⟨G, hG⟩ : ∃ G, G = grownCap w (i + k) n 34 := ⟨_, rfl⟩
  obtain ⟨ROW, hROW⟩ : ∃ ROW : Array Value, ROW = (xs.take (i * 2)).toArray ++ Builtin.zeroCells (Value.agg #[.string ⟨#[]⟩, .slice none 0 0]).cells k ++ Builtin.zeroCells (Value.agg #[.string ⟨#[]⟩, .slice none 0 0]).cells (G - (i + k)) := ⟨_, rfl⟩
  obtain ⟨W1, hW1⟩ : ∃ W1, W1 = w.drew.alloc (.cells ROW 34) := ⟨_, rfl⟩
  have hold : (Builtin.firstCells i0.size i (.slice (some ⟨g, 0, none⟩) i n)).run Try.prog w.drew = .ok (xs.take (i * 2)).toArray w.drew := by
    rw [hz1]
    exact run_firstCells_some w.drew 2 i ⟨g, 0, none⟩ i n (xs.take (i * 2)) (by rw [List.length_take]; omega) (fun j v hj => by
      rw [Addr.add_lit, Nat.zero_add]
      rw [List.getElem?_take] at hj
      split at hj
      · exact hxg j v hj
      · cases hj)
  have hrz : ∀ ty, (Builtin.append_ #[22, 3] ty #[.slice (some ⟨g, 0, none⟩) i n, .int .i64 (k : Int)]).run Try.prog w = .ok (.slice (some ⟨w.heap.size, 0, none⟩) (n + 1) G) W1 := fun ty => by
    have h := Lib.run_append_grow_zeros w 22 3 ty 34 i0 _ .i64 .i64 Try.underlying22 (by kernel_rfl) hi0 hz0 (some ⟨g, 0, none⟩) i n (xs.take (i * 2)) hold k (by omega) (by omega) (by omega) (by omega) (by rw [hz2]; omega) (by rw [hz2]; exact growslice_fits (by omega) (by omega))
    rw [← hG, ← hROW, ← hW1, ← hk] at h
    exact h
  have hGn : i + k ≤ G := by rw [hG]; exact grownCap_ge w _ _ _
  have hGm : G ≤ maxLen := by rw [hG]; exact grownCap_le_maxLen w (i + k) n 34 (by unfold maxLen; omega)
  have hRs : ROW.size = G * 2 := by
    rw [hROW]
    have hz : (Value.agg #[.string ⟨#[]⟩, .slice none 0 0]).cells.size = 2 := rfl
    simp only [Builtin.zeroCells, Array.size_append, List.size_toArray, List.length_take, Array.size_map, Array.size_range, hz, hxl]
    omega
  have hRt : ROW.toList.take (i * 2) = xs.take (i * 2) := by
    rw [hROW, Array.toList_append, Array.toList_append, List.append_assoc, List.toList_toArray, List.take_left' (by rw [List.length_take, hxl]; omega)]
  obtain ⟨N, hN⟩ : ∃ N, N = w.heap.size := ⟨_, rfl⟩
  rw [← hN] at hrz
  have hg1 : W1.heap[N]? = some (.cells ROW 34 (0, 0)) := by rw [hW1, hN]; exact heap_alloc_new w.drew _
  have hb1 : Below w.heap.size w W1 := by rw [hW1]; exact (Below.refl _ _).drew.alloc (Nat.le_refl _) _
  have hgg : W1.heap[g]? = some (.cells cur 34 (0, 0)) := by rw [hb1.block g hgl]; exact hg
  have hvv : W1.heap[vb]? = some (.cells #[u1, u2] 34 (0, 0)) := by rw [hb1.block vb hvl]; exact hv
  obtain ⟨A, hA⟩ : ∃ A, A = splice ROW.toList (i * 2) [u1, u2] := ⟨_, rfl⟩
  have hAl : A.length = G * 2 := by rw [hA, splice_len _ _ _ (by simp only [Array.length_toList, hRs, List.length_cons, List.length_nil]; omega), Array.length_toList, hRs]
  have hdl : (xs.drop (i * 2)).length = (n - i) * 2 := by rw [List.length_drop, hxl]; omega
  obtain ⟨C, hC⟩ : ∃ C, C = splice A ((i + 1) * 2) (xs.drop (i * 2)) := ⟨_, rfl⟩
  have hCl : C.length = G * 2 := by rw [hC, splice_len _ _ _ (by rw [hAl, hdl]; omega), hAl]
  obtain ⟨W2, hW2⟩ : ∃ W2, W2 = W1.setRow N A.toArray := ⟨_, rfl⟩
  have hg2 : W2.heap[N]? = some (.cells A.toArray 34 (0, 0)) := by rw [hW2]; exact setRow_heap W1 N _ _ _ _ hg1
  have hgg2 : W2.heap[g]? = some (.cells cur 34 (0, 0)) := by rw [hW2, setRow_other W1 N g _ (by omega)]; exact hgg
  obtain ⟨W3, hW3⟩ : ∃ W3, W3 = W2.drew.setRow N C.toArray := ⟨_, rfl⟩
  have HA0 : Hid (∀ (ops : Array Oper) (rest : List Oper) (o : Oper) (a : Act) (Q : Exit → Act → World → Prop) (s x : Operand), o.guard = none → o.op = .call { callee := .builtin .append, args := #[s, x], argTypes := #[22, 3] } →
      a.eval s = .slice (some ⟨g, 0, none⟩) i n → a.eval x = .int .i64 ((n : Int) + 1 - (i : Int)) → wpList Try.prog ops Q rest (a.put o.dst (.slice (some ⟨N, 0, none⟩) (n + 1) G)) W1 → wpList Try.prog ops Q (o :: rest) a w) := by
    intro ops rest o a Q s x hgd ho hs' hx' hk'
    rw [show (n : Int) + 1 - (i : Int) = (k : Int) by omega] at hx'
    exact wpList_append_eq w hgd s x _ _ ho _ _ hs' hx' (hrz _) hk'
  have HA1 : Hid (∀ (ops : Array Oper) (rest : List Oper) (o : Oper) (a : Act) (Q : Exit → Act → World → Prop) (s x : Operand) (dl dc : Nat), Nat.min 1 dl = 1 → o.guard = none → o.op = .call { callee := .builtin .copy, args := #[s, x], argTypes := #[22, 22] } →
      a.eval s = .slice (some ⟨N, i * 2, none⟩) dl dc → a.eval x = .slice (some ⟨vb, 0, none⟩) 1 1 → wpList Try.prog ops Q rest (a.put o.dst (goInt 1)) W2 → wpList Try.prog ops Q (o :: rest) a W1) := by
    intro ops rest o a Q s x dl dc hm hgd ho hs' hx' hk'
    refine wpList_copy_k hgd s x 22 22 ho 34 2 Try.underlying22 (by kernel_rfl) N (i * 2) dl dc ⟨vb, 0, none⟩ 1 1 hs' hx' ROW 34 hg1 [u1, u2] 1 hm rfl (fun j u hu => ?_) (by simp [hRs]; omega) (fun u hu => ?_) ?_
    · rw [Addr.add_lit, Nat.zero_add]
      match j, hu with
      | 0, hu => simp only [List.getElem?_cons_zero, Option.some.injEq] at hu; subst hu; exact (cell_of_heap hvv 0 (by simp)).1
      | 1, hu => simp only [List.getElem?_cons_succ, List.getElem?_cons_zero, Option.some.injEq] at hu; subst hu; exact (cell_of_heap hvv 1 (by simp)).1
    · simp only [List.mem_cons, List.not_mem_nil, or_false] at hu
      rcases hu with rfl | rfl
      · exact o1
      · exact o2
    · rw [← hA, ← hW2]
      exact hk'
  have HA2 : Hid (∀ (ops : Array Oper) (o : Oper) (a : Act) (K : Act → World → Prop) (Q : Exit → Act → World → Prop) (E : Prop) (s x : Operand) (dl dc sl sc : Nat), Nat.min sl dl = n - i → o.guard = none → o.op = .call { callee := .builtin .copy, args := #[s, x], argTypes := #[22, 22] } →
      a.eval s = .slice (some ⟨N, (i + 1) * 2, none⟩) dl dc → a.eval x = .slice (some ⟨g, i * 2, none⟩) sl sc → K (a.put o.dst (goInt ((n - i : Nat) : Int))) W3 → if Region.wanted o (yielded ops a.tmps) = true then Oper.wp Try.prog o a W2.drew K Q else E) := by
    intro ops o a K Q E s x dl dc sl sc hm hgd ho hs' hx' hk'
    refine step_copy_k hgd s x 22 22 ho 34 2 Try.underlying22 (by kernel_rfl) N ((i + 1) * 2) dl dc ⟨g, i * 2, none⟩ sl sc hs' hx' A.toArray 34 hg2 (xs.drop (i * 2)) (n - i) hm hdl (fun j u hu => ?_) (by rw [hdl, List.size_toArray, hAl]; omega) (fun u hu => h1 u (List.mem_of_mem_drop hu)) ?_
    · rw [Addr.add_lit]
      rw [List.getElem?_drop] at hu
      have hj := (List.getElem?_eq_some_iff.1 hu).1
      show W2.cell? _ = _
      rw [(cell_of_heap hgg2 _ (by omega)).1, ← (cell_of_heap hg (i * 2 + j) (by omega)).1]
      exact hxg _ _ hu
    · rw [List.toList_toArray, ← hC, ← hW3]
      exact hk'
  have HFI : Hid (W3.ownsRow base 34 2 (.slice (some ⟨N, 0, none⟩) (n + 1) G) (n + 1) (xs.take (i * 2) ++ [u1, u2] ++ xs.drop (i * 2)) ∧ Below base w W3) := by
    refine ⟨⟨?_, Or.inr ⟨N, G, C.toArray, rfl, by omega, ?_, by omega, hGm, by simpa using hCl, ?_⟩⟩, ?_⟩
    · rw [List.length_append, List.length_append, List.length_take, hxl, hdl]; simp; omega
    · rw [hW3]; exact setRow_heap W2.drew N _ _ _ _ hg2
    · have e1 := splice_take_eq A ((i + 1) * 2) (xs.drop (i * 2)) (by omega)
      have e2 := splice_take_eq ROW.toList (i * 2) [u1, u2] (by rw [Array.length_toList, hRs]; omega)
      simp only [List.length_cons, List.length_nil, Nat.zero_add, Nat.reduceAdd] at e2
      rw [← hA, hRt, show i * 2 + 2 = (i + 1) * 2 by omega] at e2
      rw [hdl, ← hC, e2, show (i + 1) * 2 + (n - i) * 2 = (n + 1) * 2 by omega] at e1
      rw [List.toList_toArray]
      exact e1
    · rw [hW3]
      refine below_setRow ?_ (by omega) _
      rw [hW2]
      refine Below.drew (below_setRow ?_ (by omega) _)
      exact hb1.mono hbase
  have hcc : (G : Int) ≤ 9223372036854775807 := by unfold maxLen at hGm; omega
  have hnn : (n : Int) ≤ 140737488355328 := by omega
  have f1 : ¬ n = i := by omega
  have f3 : ¬ (i : Int) = (n : Int) := by omega
  have f4 : ((i : Int) == (n : Int)) = false := by simp; omega
  have f5 : (n : Int) < (n : Int) + 1 := by omega
  have f6 : i ≤ n := by omega
  have f7 : i ≤ n + 1 := by omega
  have f8 : n + 1 ≤ G := by omega
  have f9 : IntKind.i64.wrap ((n : Int) + 1) = (n : Int) + 1 := by rw [IntKind.wrap_i64]; omega
  have f10 : IntKind.i64.wrap ((i : Int) + 1) = (i : Int) + 1 := by rw [IntKind.wrap_i64]; omega
  have f11 : IntKind.i64.wrap ((n : Int) + 1 - (i : Int)) = (n : Int) + 1 - (i : Int) := by rw [IntKind.wrap_i64]; omega
  have f12 : ¬ G = i := by omega
  have f13 : ¬ G = i + 1 := by omega
  have g1 : (0 : Int) ≤ (i : Int) + 1 := by omega
  have g2 : ((i : Int) + 1).toNat = i + 1 := by omega
  have g3 : (i : Int) ≤ (n : Int) := by omega
  have g4 : (i : Int) + 1 ≤ (n : Int) + 1 := by omega
  have g5 : i + 1 ≤ n + 1 := by omega
  have g6 : (i : Int) ≤ (n : Int) + 1 := by omega
  have HIN : Hid (i < n) := hi
  clear hg hx h1 hxg hxl hg1 hv hs hAl hCl hdl hW1 hW2 hA hC hk hG hROW hold hrz hGn hGm hRs hRt hN hb1 hgg hvv hg2 hgg2 hW3 hgl hvl hroom
  go_enter Try.func40, Try.ntmps40
  go_wp2_with (first
    | (refine unhide HA0 _ _ _ _ _ _ _ rfl rfl rfl rfl ?_)
    | (refine unhide HA1 _ _ _ _ _ _ _ (n + 1 - i) (G - i) (by have h9 := unhide HIN; simp only [Nat.min_def]; split <;> omega) rfl rfl rfl rfl ?_))
  go_region_law (refine unhide HA2 _ _ _ _ _ _ _ _ (n - i) (G - (i + 1)) (n - i) (n - i) (by have h9 := unhide HIN; simp only [Nat.min_def]; split <;> omega) rfl rfl (by simp [Act.eval, Act.put]) (by simp [Act.eval, Act.put]) ?_)
  go_wp2
  go_ret
  exact ⟨_, rfl, (unhide HFI).1, (unhide HFI).2⟩
end Go.Proofs.Ytjkkdijoogiipaa
