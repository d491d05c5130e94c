/- Texts of ours, one behind the other: MkSorted, MkLive, MkRef2, ThRef, ThRef2, ThPos. -/
import Derived.Test.YtegefnchkgkmgabG10
import Derived.Test.YtegefnchkgkmgabG11
import Derived.Test.YtegefnchkgkmgabG16
import Derived.Test.YtegefnchkgkmgabG17
import Derived.Maps.RangeWalk
/- The library's sort of a map's keys: slices.Sorted(maps.Keys(m)) of a map of the call's own. -/
namespace Go.Proofs.Ytegefnchkgkmgab
open Go.RowKit Go.Maps Go.Sort Go.Shelf

/-- slices.Sort's two contracts, at the fence that asks nothing. -/
theorem Try.sortsA (m : Nat) : AnyZI.SortsIn Try.prog Try.sortedA_ren Fence.wide m :=
  ⟨fun blk off cap ss W hH hblk hsz => callsIn_wide.2 (AnyM.slices_Sort_int Try.sortA blk off cap ss W hH hblk hsz),
   fun p cap W => callsIn_wide.2 (AnyM.slices_Sort_int_none Try.sortA p cap W)⟩

theorem mkeys_any (mb : Option Nat) (W : World) : Calls Try.prog 26 #[.map mb] W fun e w' => e = .returned (.func (.func 36) #[] #[.pointer (some ⟨W.heap.size, 0, none⟩)]) ∧ w' = W.alloc (.cells #[.map mb] 59) :=
  (callsIn_wide (n := 5)).1 (AnyZI.keys_in Try.keysA Fence.wide 5 trivial rfl mb W)

theorem szM_has {w : World} {ws S : List Int} {b n : Nat} (h : MapIs Try.prog 3 w b n (szM ws S)) (hn : S.Nodup) : ∃ D : DataW Value, w.ownsMap Try.prog 3 heldR b n D ∧ S.Perm (intKeys D) ∧ Maps.size D = S.length ∧ (∀ x, Maps.has D (.int .i64 x) = decide (x ∈ S)) ∧ ∀ x z, D.atKey (.int .i64 x) (.held z) = .held ((szM ws S x).getD z) := by
  obtain ⟨D, h1, h2, h3⟩ := h
  have hC : CollectedI D (fun _ => false) S := ⟨hn, fun x => by
    rw [(h3 x).1]
    unfold szM
    by_cases hx : x ∈ S
    · simp [hx]
    · simp [hx]⟩
  have hP := hC.perm h1 (Maps.int_keyed Try.underlying3) Try.underlying3 (fun _ => rfl)
  refine ⟨D, h1, hP, ?_, fun x => ?_, fun x z => (h3 x).2 z⟩
  · obtain ⟨es, rfl⟩ := h2
    rw [hP.length_eq]
    simp [intKeys, Maps.size]
  · rw [(h3 x).1]
    unfold szM
    by_cases hx : x ∈ S
    · simp [hx]
    · simp [hx]

theorem live_sorted {ws rs S ss : List Int} (hn : S.Nodup) (hm : ∀ a, a ∈ S ↔ Rch ws rs a) (hp : ss.Perm S) : LiveIs ws rs (ss.mergeSort fun x y => decide (x ≤ y)) := by
  have tr : ∀ a b c : Int, leI a b = true → leI b c = true → leI a c = true := fun a b c h1 h2 => by simp only [leI, decide_eq_true_eq] at *; exact Int.le_trans h1 h2
  have to : ∀ a b : Int, (leI a b || leI b a) = true := fun a b => by simp only [leI, Bool.or_eq_true, decide_eq_true_eq]; exact Int.le_total a b
  have h1 := List.pairwise_mergeSort tr to ss
  have h2 : (ss.mergeSort leI).Nodup := ((List.mergeSort_perm ss leI).trans hp).nodup_iff.2 hn
  refine ⟨?_, fun a => ?_⟩
  · have h3 := List.Pairwise.and h1 h2
    refine h3.imp fun {a b} h => ?_
    have h4 := h.1
    simp only [leI, decide_eq_true_eq] at h4
    have h5 : a ≠ b := h.2
    omega
  · rw [← hm a]
    exact ((List.mergeSort_perm ss leI).trans hp).mem_iff

set_option maxHeartbeats 1000000 in
theorem msorted_any (w : World) (b : Nat) (ws rs S : List Int) (h : MapIs Try.prog 3 w b S.length (szM ws S)) (hn : S.Nodup) (hl : S.length ≤ 1048576) (hm : ∀ a, a ∈ S ↔ Rch ws rs a) :
    Calls Try.prog 25 #[.func (.func 36) #[] #[.pointer (some ⟨w.heap.size, 0, none⟩)]] (w.alloc (.cells #[.map (some b)] 59)) fun e w' => ∃ v l, e = .returned v ∧ LiveIs ws rs l ∧ w'.ownsRow w.heap.size 3 1 v l.length (Iw l) ∧ Below w.heap.size w w' := by
  obtain ⟨D, hown, hP, hsz, _, _⟩ := szM_has h hn
  have hbl := hown.lt
  have hseq : SeqGives Fence.wide 2 Try.prog 36 #[.pointer (some ⟨w.heap.size, 0, none⟩)] encZ (fun ss => ss.Perm (intKeys D)) (Maps.size D) (w.alloc (.cells #[.map (some b)] 59)) :=
    AnyZI.keys_gives (ρ := Try.keysA_ren) { Try.keysA with } Fence.wide _ trivial rfl (by omega) w.heap.size b S.length D _ (by simp) (by simp) (by
      obtain ⟨es, clock, hb, Ft, hs, hD⟩ := hown
      exact ⟨es, clock, (Below.heap_alloc _ _ b hbl).trans hb, Ft, hs, hD⟩)
  have cS := AnyZI.sorted_in Try.sortedA Fence.wide 5 trivial trivial trivial trivial rfl (by omega) (Try.sortsA _) (enters_of Try.func35 (by kernel_rfl) rfl) 36 #[.pointer (some ⟨w.heap.size, 0, none⟩)] trivial (enters_of Try.func36 (by kernel_rfl) rfl) _ _ (by rw [hsz]; unfold maxLen; omega) (by rw [hsz]; omega) _ hseq
  change CallsIn _ _ Try.prog 25 _ _ _ at cS
  refine (callsIn_wide.1 cS).mono ?_
  rintro e w' ⟨v, ss, rfl, hS, hrow, _, hb⟩
  refine ⟨v, _, rfl, live_sorted hn hm (hS.trans hP.symm), ?_, ((Below.refl _ w).alloc (Nat.le_refl _) _).trans (hb.mono (by simp))⟩
  rw [List.length_mergeSort]
  exact ownsRow_base_a hrow (by simp : w.heap.size ≤ _)
end Go.Proofs.Ytegefnchkgkmgab

/- The landed package mark: Live, Words, Reaches. -/
namespace Go.Proofs.Ytegefnchkgkmgab
open Go.RowKit Go.Maps

set_option maxRecDepth 20000 in
set_option maxHeartbeats 2000000 in
theorem mlive_any (s t : Value) (ws rs : List Int) (w : World) (hs : VRow w s (Uw ws)) (ht : VRow w t (Iw rs)) (hU : U32 ws) (hl : ws.length < 70368744177664) (hr : rs.length < 35184372088832) :
    Calls Try.prog 10 #[s, t] w fun e w' => ∃ v l, e = .returned (.tuple #[v, .int .i64 (chkE (rightB ws rs))]) ∧ LivD ws rs l ∧ w'.ownsRow w.heap.size 3 1 v l.length (Iw l) ∧ Below w.heap.size w w' := by
  have HC := hide (ccheck_any s t ws rs w hs ht hU hl hr)
  cases hb : rightB ws rs with
  | false =>
    rw [hb, show chkE false = 11 from rfl] at HC
    have HD := hide (show LivD ws rs [] from ⟨fun h => (by rw [hb] at h; cases h), fun _ => rfl⟩)
    clear hs ht hU hl hr hb
    go_enter Try.func10, Try.ntmps10
    go_wp2_with fail
    refine Calls.mono (unhide HC) ?_
    rintro e w1 ⟨rfl, b1⟩
    have HB1 := hide b1
    clear b1
    go_wp2_with fail
    go_ret2
    exact ⟨_, [], rfl, unhide HD, World.ownsRow_nil _ _ _ _, unhide HB1⟩
  | true =>
    rw [hb, show chkE true = 0 from rfl] at HC
    have HL := hide (fun w1 (b1 : Below w.heap.size w w1) => mliving_any s t ws rs w1 (hs.below b1) (ht.below b1) hU hb)
    have HB := hide hb
    clear hs ht hU hl hr hb
    go_enter Try.func10, Try.ntmps10
    go_wp2_with fail
    refine Calls.mono (unhide HC) ?_
    rintro e w1 ⟨rfl, b1⟩
    have HB1 := hide b1
    have HL1 := hide (unhide HL w1 b1)
    clear b1 HL
    go_wp2_with fail
    refine Calls.mono (unhide HL1) ?_
    rintro e w2 ⟨b, S, rfl, hm, hbb, hn, hls, hms, b2⟩
    have HB2 := hide ((unhide HB1).trans (b2.mono (unhide HB1).size))
    have HK := hide (mkeys_any (some b) w2)
    have HSO := hide (msorted_any w2 b ws rs S hm hn hls hms)
    clear hm hbb hn hls hms b2
    go_wp2_with fail
    refine Calls.mono (unhide HK) ?_
    rintro e w3 ⟨rfl, rfl⟩
    go_wp2_with fail
    refine Calls.mono (unhide HSO) ?_
    rintro e w4 ⟨v, l, rfl, hli, hrow, b4⟩
    have HF := hide (show LivD ws rs l ∧ w4.ownsRow w.heap.size 3 1 v l.length (Iw l) ∧ Below w.heap.size w w4 from
      ⟨⟨fun _ => hli, fun h => (by rw [unhide HB] at h; cases h)⟩, ownsRow_base_a hrow (unhide HB2).size, (unhide HB2).trans (b4.mono (unhide HB2).size)⟩)
    clear hli hrow b4
    go_wp2_with fail
    go_ret2
    exact ⟨_, l, rfl, unhide HF⟩

/-- The sizes of objects, together. -/
def sumW (ws : List Int) : List Int → Int
  | [] => 0
  | a :: l => wd ws a.toNat / 4096 + sumW ws l
theorem sumW_perm {ws l m : List Int} (h : l.Perm m) : sumW ws l = sumW ws m := by
  induction h with
  | nil => rfl
  | cons a _ ih => simp only [sumW, ih]
  | swap a b l => simp only [sumW]; omega
  | trans _ _ h1 h2 => rw [h1, h2]
theorem sumW_snoc (ws l : List Int) (a : Int) : sumW ws (l ++ [a]) = sumW ws l + wd ws a.toNat / 4096 := by
  induction l with
  | nil => simp [sumW]
  | cons b l ih => simp only [List.cons_append, sumW, ih]; omega
theorem sumW_bounds {ws : List Int} (hU : U32 ws) : ∀ l : List Int, 0 ≤ sumW ws l ∧ sumW ws l ≤ (l.length : Int) * 1048576
  | [] => by simp [sumW]
  | a :: l => by
    obtain ⟨h1, h2⟩ := sumW_bounds hU l
    obtain ⟨u0, u1⟩ := hU.wd a.toNat
    simp only [sumW, List.length_cons]
    omega

instance (ws : List Int) (a : Int) : Decidable (isOb ws a) := by unfold isOb; infer_instance
theorem isPl_iff {ws : List Int} {a : Int} : isPl ws.length (obs ws 1) a = true ↔ a = 0 ∨ isOb ws a := by
  constructor
  · intro h
    by_cases h0 : a = 0
    · exact Or.inl h0
    · exact Or.inr (isOb_of_pl h h0)
  · rintro (h | ⟨h1, h2, h3⟩)
    · subst h; simp [isPl]
    · unfold isPl
      simp only [Bool.or_eq_true, Bool.and_eq_true, decide_eq_true_eq]
      exact Or.inr ⟨⟨h1, h2⟩, List.mem_map.2 ⟨_, h3, rfl⟩⟩
/-- Are there objects at both places? -/
def okR (ws : List Int) (a b : Int) : Bool := decide (isOb ws a) && decide (isOb ws b)
def reaE (ws : List Int) (a b : Int) : Int := if rightB ws [] = true then (if okR ws a b = true then 0 else 6) else 11
/-- What Reaches answers. -/
def ReaD (ws : List Int) (a b : Int) (B : Bool) : Prop := (rightB ws [] = true → okR ws a b = true → (B = true ↔ Rch ws [a] b)) ∧ (¬ (rightB ws [] = true ∧ okR ws a b = true) → B = false)
theorem ReaD.unique {ws : List Int} {a b : Int} {B C : Bool} (h : ReaD ws a b B) (h2 : ReaD ws a b C) : B = C := by
  by_cases hc : rightB ws [] = true ∧ okR ws a b = true
  · have h3 := (h.1 hc.1 hc.2).trans (h2.1 hc.1 hc.2).symm
    cases B <;> cases C <;> simp_all
  · rw [h.2 hc, h2.2 hc]
theorem right_one {ws : List Int} {a : Int} (h : rightB ws [] = true) (ha : isOb ws a) : rightB ws [a] = true :=
  right_iff'.2 ⟨h, by simp, fun r hr => by rw [List.mem_singleton.1 hr]; exact isPl_iff.2 (Or.inr ha)⟩
theorem right_two {ws : List Int} {a b : Int} (h : rightB ws [] = true) (ha : a ≠ 0) (hb : b ≠ 0) : rightB ws [a, b] = okR ws a b := by
  have h1 : rightB ws [a, b] = true ↔ okR ws a b = true := by
    rw [right_iff']
    unfold okR
    simp only [Bool.and_eq_true, decide_eq_true_eq]
    constructor
    · rintro ⟨_, _, h2⟩
      exact ⟨(isPl_iff.1 (h2 a (by simp))).resolve_left ha, (isPl_iff.1 (h2 b (by simp))).resolve_left hb⟩
    · rintro ⟨h2, h3⟩
      refine ⟨h, by simp, fun r hr => ?_⟩
      rcases List.mem_cons.1 hr with rfl | hr
      · exact isPl_iff.2 (Or.inr h2)
      · rw [List.mem_singleton.1 hr]; exact isPl_iff.2 (Or.inr h3)
  cases h2 : rightB ws [a, b] <;> cases h3 : okR ws a b <;> simp_all

end Go.Proofs.Ytegefnchkgkmgab

/- The reference of layer 14: Live, Words, is, Reaches. -/
namespace Go.Proofs.Ytegefnchkgkmgab
open Go.RowKit

/-- The marked places below k. -/
def liveM (m : List Bool) (k : Nat) : List Int := ((List.range k).filter (fun i : Nat => decide (m[i]? = some true))).map (fun i : Nat => (i : Int))
theorem liveM_yes {m : List Bool} {k : Nat} (h : m[k]? = some true) : liveM m (k + 1) = liveM m k ++ [(k : Int)] := by
  unfold liveM
  rw [List.range_succ, List.filter_append, List.map_append]
  simp [h]
theorem liveM_no {m : List Bool} {k : Nat} (h : ¬ m[k]? = some true) : liveM m (k + 1) = liveM m k := by
  unfold liveM
  rw [List.range_succ, List.filter_append, List.map_append]
  simp [h]
theorem liveM_len (m : List Bool) (k : Nat) : (liveM m k).length ≤ k := by
  unfold liveM
  rw [List.length_map]
  exact Nat.le_trans (List.length_filter_le _ _) (by simp)
theorem liveM_is {ws rs : List Int} {m : List Bool} (hh : heapB ws rs = true) (h : ∀ k : Nat, m[k]? = some true ↔ Rch ws rs (k : Int)) : LiveIs ws rs (liveM m ws.length) := by
  refine ⟨?_, fun a => ?_⟩
  · unfold liveM
    refine List.pairwise_map.2 ((List.Pairwise.filter _ List.pairwise_lt_range).imp fun {a b} h => ?_)
    omega
  · unfold liveM
    rw [List.mem_map]
    constructor
    · rintro ⟨k, hk, rfl⟩
      rw [List.mem_filter, decide_eq_true_eq] at hk
      exact (h k).1 hk.2
    · intro hr
      obtain ⟨s1, s2, s3, s4⟩ := isOb_size (rch_ob hh hr)
      refine ⟨a.toNat, List.mem_filter.2 ⟨List.mem_range.2 s3, decide_eq_true ((h a.toNat).2 (by rw [s4]; exact hr))⟩, s4⟩

theorem atR_ob {ws : List Int} {a : Int} : (atR ws a).2.2.2 = if isOb ws a then 0 else 6 := by
  unfold atR
  cases hf : fndO ws a with
  | none =>
    have h : ¬ isOb ws a := fun h => by
      unfold fndO at hf
      have := List.find?_eq_none.1 hf _ h.2.2
      have h2 := h.1
      simp only [decide_eq_true_eq] at this
      omega
    rw [if_neg h]
  | some x =>
    unfold fndO at hf
    have h1 := List.mem_of_find?_eq_some hf
    have h2 := List.find?_some hf
    simp only [decide_eq_true_eq] at h2
    obtain ⟨o1, o2, o3⟩ := obs_mem h1
    have h3 : isOb ws a := ⟨by omega, by have := o3.1; omega, by
      have e : a.toNat = x.1 := by omega
      rw [e, ← o2]
      exact h1⟩
    rw [if_pos h3]

end Go.Proofs.Ytegefnchkgkmgab

/- The reference of layer 15: Follow, Compact. -/
namespace Go.Proofs.Ytegefnchkgkmgab
open Go.RowKit

theorem results_tmp4 {fn : Func} {t u v x : Tmp} (h : fn.results = #[.tmp t, .tmp u, .tmp v, .tmp x]) (tmps : Array Value) (P : Program) (w : World) :
    (results fn tmps).run P w = .ok (.tuple #[tmps.getD t undef, tmps.getD u undef, tmps.getD v undef, tmps.getD x undef]) w := by
  simp [results, h]
theorem toP_snoc {ws : List Int} {a x : Int} : ∀ {M : List Int} {p : Nat}, a ∉ M → toP ws (M ++ [a]) p x = if x = a then p + sums ws M else toP ws M p x
  | [], p, _ => by simp [toP, sums]
  | b :: M, p, h => by
    have hb : a ≠ b := fun e => h (e ▸ List.mem_cons_self ..)
    have hM : a ∉ M := fun e => h (List.mem_cons_of_mem _ e)
    simp only [List.cons_append, toP, sums]
    by_cases e : x = b
    · have hx : ¬ x = a := fun e2 => hb (e2.symm.trans e)
      rw [if_pos e, if_neg hx, if_pos e]
    · rw [if_neg e, if_neg e, toP_snoc hM]
      split
      · omega
      · rfl
theorem toA_snoc {ws M : List Int} {a x : Int} (h : a ∉ M) : toA ws (M ++ [a]) x = if x = a then ((1 + sums ws M : Nat) : Int) else toA ws M x := by
  unfold toA
  rw [toP_snoc h]
  split <;> rfl
/-- The table of new places. -/
def tabL (ws M : List Int) : List Int := (List.range ws.length).map fun j : Nat => toA ws M (j : Int)
theorem tabL_snoc {ws M : List Int} {a : Nat} (h : (a : Int) ∉ M) (ha : a < ws.length) : (tabL ws M).set a ((1 + sums ws M : Nat) : Int) = tabL ws (M ++ [(a : Int)]) := by
  apply List.ext_getElem?
  intro k
  unfold tabL
  rw [List.getElem?_set]
  by_cases e : a = k
  · subst e
    rw [if_pos rfl]
    simp [ha, toA_snoc h]
  · rw [if_neg e]
    by_cases hk : k < ws.length
    · have : ¬ (k : Int) = (a : Int) := fun x => e (by omega)
      simp [hk, toA_snoc h, this]
    · simp [hk]
theorem tabL_get {ws M : List Int} {k : Nat} (h : k < ws.length) : (tabL ws M)[k]? = some (toA ws M (k : Int)) := by simp [tabL, h]
theorem toA_zero (ws : List Int) (x : Int) : toA ws [] x = 0 := rfl
theorem tabL_nil (ws : List Int) : tabL ws [] = List.replicate ws.length 0 := by
  apply List.ext_getElem?
  intro k
  unfold tabL
  by_cases h : k < ws.length
  · simp [h, toA_zero]
  · simp [h]

/-- The table and the list of what went, in memory. -/
structure TbP (w : World) (g : Nat) (lv : Value) (m : List Int) (L : List (Int × Int)) : Prop where
  blk : w.heap[g]? = some (.cells (Iw m).toArray 3 (0, 0))
  own : w.ownsRow (g + 1) 62 2 lv L.length (posC L)
theorem TbP.mark {w : World} {g : Nat} {lv : Value} {m : List Int} {L : List (Int × Int)} (h : TbP w g lv m L) (k : Nat) (v : Int) : TbP (w.setCell ⟨g, k, none⟩ (.int .i64 v)) g lv (m.set k v) L := by
  refine ⟨?_, ownsV_keep h.own (keep_set w g k (.int .i64 v)) (fun b e => by have := (h.own.lt b e).1; omega)⟩
  rw [heap_setCell_same w g k _ _ (.int .i64 v) h.blk]
  simp
theorem TbP.cell {w : World} {g : Nat} {lv : Value} {m : List Int} {L : List (Int × Int)} (h : TbP w g lv m L) {k : Nat} {v : Int} (hk : m[k]? = some v) : w.cell? ⟨g, k, none⟩ = some (.int .i64 v) := by
  rw [cell_of_row w g k _ _ (0, 0) h.blk]
  simp [hk]
theorem TbP.push {w w2 : World} {g : Nat} {lv lv' : Value} {m : List Int} {L : List (Int × Int)} {x : Int × Int} (h : TbP w g lv m L) (hown : w2.ownsRow (g + 1) 62 2 lv' (L.length + 1) (posC L ++ [.int .i64 x.1, .int .i64 x.2])) (hg : (w.alloc (.cells #[.int .i64 x.1, .int .i64 x.2] 62)).grownBy w2 lv.ownBlock) :
    TbP w2 g lv' m (L ++ [x]) ∧ Below (g + 1) w w2 := by
  have hgl : g < w.heap.size := (Array.getElem?_eq_some_iff.1 h.blk).1
  have hne : ∀ k, k < g + 1 → lv.ownBlock ≠ some k := fun k hk e => by have := (h.own.lt k e).1; omega
  have hkeep : ∀ k, k < g + 1 → w2.heap[k]? = w.heap[k]? := fun k hk =>
    (hg.block k (by rw [World.size_alloc]; omega) (fun e => hne k hk e.symm)).trans (Below.heap_alloc _ _ k (by omega))
  refine ⟨⟨(hkeep g (by omega)).trans h.blk, by rw [posC_snoc, List.length_append]; exact hown⟩, hg.os, hg.tape, hg.output, ?_, hkeep⟩
  have := hg.size; rw [World.size_alloc] at this; omega
/-- One more behind a row of the call's own: laid aside first, then appended. -/
theorem own_push {w w2 : World} {base e n : Nat} {lv y : Value} {xs : List Value} {b0 : Nat} (h : w.ownsRow base e 1 lv n xs) (hb : base ≤ w.heap.size) (h0 : b0 ≤ base) (hg : (w.alloc (.cells #[y] e)).grownBy w2 lv.ownBlock) : Below b0 w w2 := by
  have hs := hg.size
  rw [World.size_alloc] at hs
  exact ⟨hg.os, hg.tape, hg.output, by omega, fun k hk => (hg.block k (by rw [World.size_alloc]; omega) (fun e => by have := (h.lt k e.symm).1; omega)).trans (Below.heap_alloc _ _ k (by omega))⟩
end Go.Proofs.Ytegefnchkgkmgab

/- The reference of layer 15: Follow, Compact. -/
namespace Go.Proofs.Ytegefnchkgkmgab
open Go.RowKit

theorem Try.infoPos : (Try.prog.info? 62).map (fun i => (i.zero, i.size, i.bytes)) = some (some (.agg #[.int .i64 0, .int .i64 0]), 2, 16) := by kernel_rfl
theorem Try.infoU32t : (Try.prog.info? 31).map (fun i => (i.zero, i.size, i.bytes)) = some (some (.int .u32 0), 1, 4) := by kernel_rfl
theorem run_make_ints (n : Nat) (hn : n ≤ 1048576) (w : World) :
    (Instr.makeSlice 22 (.int .i64 (n : Int)) (.int .i64 (n : Int))).run Try.prog w = .ok (.slice (some ⟨w.heap.size, 0, none⟩) n n) (w.alloc (.cells (Array.replicate n (.int .i64 0)) 3)) := by
  rw [← List.toArray_replicate, ← made_arr]
  exact run_make_row' 22 3 (.int .i64 0) 8 Try.underlying22 Try.infoI64 rfl .i64 .i64 n (by omega) (by omega) w
theorem cell_two {w : World} {v1 v2 : Value} {t : TypeId} : ∀ (j : Nat) (u : Value), [v1, v2][j]? = some u → (w.alloc (.cells #[v1, v2] t)).cell? ((⟨w.heap.size, 0, none⟩ : Addr).add j) = some u := fun j u hj => by
  match j, hj with
  | 0, hj => simp at hj; subst hj; simp [Addr.add]
  | 1, hj => simp at hj; subst hj; simp [Addr.add]

end Go.Proofs.Ytegefnchkgkmgab

/- Rows of places that went; the reference's Follow. -/
namespace Go.Proofs.Ytegefnchkgkmgab
open Go.RowKit

/-- A slice value that reads as places that went. -/
def PR (w : World) (v : Value) (L : List (Int × Int)) : Prop :=
  ∃ (a : Option Addr) (cap : Nat), v = .slice a L.length cap ∧ L.length ≤ cap ∧ cap ≤ maxLen ∧ (a = none → cap = 0) ∧ (L = [] ∨ ∃ g off, a = some ⟨g, off, none⟩ ∧ ∀ j (h : j < L.length), w.cell? ⟨g, off + j * 2, none⟩ = some (.int .i64 L[j].1) ∧ w.cell? ⟨g, off + j * 2 + 1, none⟩ = some (.int .i64 L[j].2))
theorem PR.below {w w' : World} {v : Value} {L : List (Int × Int)} (h : PR w v L) (hb : Below w.heap.size w w') : PR w' v L := by
  obtain ⟨a, cap, e, h1, h2, h3, h4⟩ := h
  refine ⟨a, cap, e, h1, h2, h3, ?_⟩
  rcases h4 with h4 | ⟨g, off, e2, hc⟩
  · exact Or.inl h4
  · refine Or.inr ⟨g, off, e2, fun j hj => ?_⟩
    obtain ⟨c1, c2⟩ := hc j hj
    exact ⟨(hb.cell (World.block_lt_of_cell? _ _ c1)).trans c1, (hb.cell (World.block_lt_of_cell? _ _ c2)).trans c2⟩
theorem PR.shape {w : World} {v : Value} {L : List (Int × Int)} (h : PR w v L) : ∃ (a : Option Addr) (cap : Nat), v = .slice a L.length cap ∧ L.length ≤ cap ∧ cap ≤ maxLen := by
  obtain ⟨a, cap, e, h1, h2, _⟩ := h
  exact ⟨a, cap, e, h1, h2⟩
theorem PR.open {w : World} {v : Value} {L : List (Int × Int)} (h : PR w v L) (hne : 0 < L.length) : ∃ g off cap, v = .slice (some ⟨g, off, none⟩) L.length cap ∧ ∀ j (h : j < L.length), w.cell? ⟨g, off + j * 2, none⟩ = some (.int .i64 L[j].1) ∧ w.cell? ⟨g, off + j * 2 + 1, none⟩ = some (.int .i64 L[j].2) := by
  obtain ⟨a, cap, e, _, _, _, h4⟩ := h
  rcases h4 with h4 | ⟨g, off, e2, hc⟩
  · rw [h4] at hne; simp at hne
  · exact ⟨g, off, cap, by rw [e, e2], hc⟩
theorem posC_get : ∀ {L : List (Int × Int)} {j : Nat} (h : j < L.length), (posC L)[j * 2]? = some (.int .i64 L[j].1) ∧ (posC L)[j * 2 + 1]? = some (.int .i64 L[j].2)
  | x :: L, 0, _ => by simp [posC]
  | x :: L, j + 1, h => by
    have := posC_get (L := L) (j := j) (by simpa using h)
    have e : posC (x :: L) = .int .i64 x.1 :: .int .i64 x.2 :: posC L := by simp [posC]
    rw [e, show (j + 1) * 2 = j * 2 + 1 + 1 by omega, show j * 2 + 1 + 1 + 1 = j * 2 + 1 + 1 + 1 from rfl]
    simp only [List.getElem?_cons_succ, List.getElem_cons_succ]
    exact this
theorem pr_of_owns {w : World} {base : Nat} {v : Value} {L : List (Int × Int)} (h : w.ownsRow base 62 2 v L.length (posC L)) : PR w v L := by
  rcases h.2 with ⟨h1, h2⟩ | ⟨g, cap, cur, e, a1, a2, a3, a4, a5, a6⟩
  · exact ⟨none, 0, by rw [h1, h2], by omega, Nat.zero_le _, fun _ => rfl, Or.inl (List.length_eq_zero_iff.1 h2)⟩
  · refine ⟨_, cap, e, a3, a4, fun e => (nomatch e), Or.inr ⟨g, 0, rfl, fun j hj => ?_⟩⟩
    have hc : ∀ i u, (posC L)[i]? = some u → w.cell? ⟨g, i, none⟩ = some u := fun i u hu => by
      rw [cell_of_row w g i _ _ (0, 0) a2]
      rw [← a6, List.getElem?_take] at hu
      split at hu
      · simpa using hu
      · cases hu
    obtain ⟨c1, c2⟩ := posC_get hj
    rw [Nat.zero_add]
    exact ⟨hc _ _ c1, hc _ _ c2⟩

theorem fndP_take : ∀ {L : List (Int × Int)} {j : Nat} {a : Int} (h : j < L.length), (∀ x ∈ L.take j, x.1 ≠ a) → fndP L a = if L[j].1 = a then L[j].2 else fndP (L.drop (j + 1)) a
  | x :: L, 0, a, _, _ => by simp [fndP]
  | x :: L, j + 1, a, h, hn => by
    have h1 : x.1 ≠ a := hn x (by simp)
    have ih := fndP_take (L := L) (j := j) (a := a) (by simpa using h) (fun y hy => hn y (by simp [hy]))
    simp only [fndP, if_neg h1]
    simpa using ih

end Go.Proofs.Ytegefnchkgkmgab
