/- Texts of ours, one behind the other: MkSorted, MkLive, MkRef2, ThRef, ThRef2, ThPos, ThFol, ThHelp. -/
import Derived.Test.YtegefnchkgkmgaaG10
import Derived.Test.YtegefnchkgkmgaaG11
import Derived.Test.YtegefnchkgkmgaaG16
import Derived.Test.YtegefnchkgkmgaaG17
import Derived.Test.YtegefnchkgkmgaaG18
import Derived.Test.YtegefnchkgkmgaaG23
import Derived.Maps.RangeWalk
import Derived.Laws.EntriesVeiled
/- The library's sort of a map's keys: slices.Sorted(maps.Keys(m)) of a map of the call's own. -/
namespace Go.Proofs.Ytegefnchkgkmgaa
open Go.RowKit Go.Maps Go.Sort Go.Shelf

/-- slices.Sort's two contracts, at the fence that asks nothing. -/
theorem Try.sortsA (m : Nat) : AnyZI.SortsIn Try.prog Try.sortedA_ren Fence.wide m :=
  ⟨fun blk off cap ss W hH hblk hsz => callsIn_wide.2 (AnyM.slices_Sort_int Try.sortA blk off cap ss W hH hblk hsz),
   fun p cap W => callsIn_wide.2 (AnyM.slices_Sort_int_none Try.sortA p cap W)⟩

theorem mkeys_any (mb : Option Nat) (W : World) : Calls Try.prog 50 #[.map mb] W fun e w' => e = .returned (.func (.func 64) #[] #[.pointer (some ⟨W.heap.size, 0, none⟩)]) ∧ w' = W.alloc (.cells #[.map mb] 83) :=
  (callsIn_wide (n := 5)).1 (AnyZI.keys_in Try.keysA Fence.wide 5 trivial rfl mb W)

theorem szM_has {w : World} {ws S : List Int} {b n : Nat} (h : MapIs Try.prog 3 w b n (szM ws S)) (hn : S.Nodup) : ∃ D : DataW Value, w.ownsMap Try.prog 3 heldR b n D ∧ S.Perm (intKeys D) ∧ Maps.size D = S.length ∧ (∀ x, Maps.has D (.int .i64 x) = decide (x ∈ S)) ∧ ∀ x z, D.atKey (.int .i64 x) (.held z) = .held ((szM ws S x).getD z) := by
  obtain ⟨D, h1, h2, h3⟩ := h
  have hC : CollectedI D (fun _ => false) S := ⟨hn, fun x => by
    rw [(h3 x).1]
    unfold szM
    by_cases hx : x ∈ S
    · simp [hx]
    · simp [hx]⟩
  have hP := hC.perm h1 (Maps.int_keyed Try.underlying3) Try.underlying3 (fun _ => rfl)
  refine ⟨D, h1, hP, ?_, fun x => ?_, fun x z => (h3 x).2 z⟩
  · obtain ⟨es, rfl⟩ := h2
    rw [hP.length_eq]
    simp [intKeys, Maps.size]
  · rw [(h3 x).1]
    unfold szM
    by_cases hx : x ∈ S
    · simp [hx]
    · simp [hx]

theorem live_sorted {ws rs S ss : List Int} (hn : S.Nodup) (hm : ∀ a, a ∈ S ↔ Rch ws rs a) (hp : ss.Perm S) : LiveIs ws rs (ss.mergeSort fun x y => decide (x ≤ y)) := by
  have tr : ∀ a b c : Int, leI a b = true → leI b c = true → leI a c = true := fun a b c h1 h2 => by simp only [leI, decide_eq_true_eq] at *; exact Int.le_trans h1 h2
  have to : ∀ a b : Int, (leI a b || leI b a) = true := fun a b => by simp only [leI, Bool.or_eq_true, decide_eq_true_eq]; exact Int.le_total a b
  have h1 := List.pairwise_mergeSort tr to ss
  have h2 : (ss.mergeSort leI).Nodup := ((List.mergeSort_perm ss leI).trans hp).nodup_iff.2 hn
  refine ⟨?_, fun a => ?_⟩
  · have h3 := List.Pairwise.and h1 h2
    refine h3.imp fun {a b} h => ?_
    have h4 := h.1
    simp only [leI, decide_eq_true_eq] at h4
    have h5 : a ≠ b := h.2
    omega
  · rw [← hm a]
    exact ((List.mergeSort_perm ss leI).trans hp).mem_iff

set_option maxHeartbeats 1000000 in
theorem msorted_any (w : World) (b : Nat) (ws rs S : List Int) (h : MapIs Try.prog 3 w b S.length (szM ws S)) (hn : S.Nodup) (hl : S.length ≤ 1048576) (hm : ∀ a, a ∈ S ↔ Rch ws rs a) :
    Calls Try.prog 49 #[.func (.func 64) #[] #[.pointer (some ⟨w.heap.size, 0, none⟩)]] (w.alloc (.cells #[.map (some b)] 83)) fun e w' => ∃ v l, e = .returned v ∧ LiveIs ws rs l ∧ w'.ownsRow w.heap.size 3 1 v l.length (Iw l) ∧ Below w.heap.size w w' := by
  obtain ⟨D, hown, hP, hsz, _, _⟩ := szM_has h hn
  have hbl := hown.lt
  have hseq : SeqGives Fence.wide 2 Try.prog 64 #[.pointer (some ⟨w.heap.size, 0, none⟩)] encZ (fun ss => ss.Perm (intKeys D)) (Maps.size D) (w.alloc (.cells #[.map (some b)] 83)) :=
    AnyZI.keys_gives (ρ := Try.keysA_ren) { Try.keysA with } Fence.wide _ trivial rfl (by omega) w.heap.size b S.length D _ (by simp) (by simp) (by
      obtain ⟨es, clock, hb, Ft, hs, hD⟩ := hown
      exact ⟨es, clock, (Below.heap_alloc _ _ b hbl).trans hb, Ft, hs, hD⟩)
  have cS := AnyZI.sorted_in Try.sortedA Fence.wide 5 trivial trivial trivial trivial rfl (by omega) (Try.sortsA _) (enters_of Try.func63 (by kernel_rfl) rfl) 64 #[.pointer (some ⟨w.heap.size, 0, none⟩)] trivial (enters_of Try.func64 (by kernel_rfl) rfl) _ _ (by rw [hsz]; unfold maxLen; omega) (by rw [hsz]; omega) _ hseq
  change CallsIn _ _ Try.prog 49 _ _ _ at cS
  refine (callsIn_wide.1 cS).mono ?_
  rintro e w' ⟨v, ss, rfl, hS, hrow, _, hb⟩
  refine ⟨v, _, rfl, live_sorted hn hm (hS.trans hP.symm), ?_, ((Below.refl _ w).alloc (Nat.le_refl _) _).trans (hb.mono (by simp))⟩
  rw [List.length_mergeSort]
  exact ownsRow_base_a hrow (by simp : w.heap.size ≤ _)
end Go.Proofs.Ytegefnchkgkmgaa

/- The landed package mark: Live, Words, Reaches. -/
namespace Go.Proofs.Ytegefnchkgkmgaa
open Go.RowKit Go.Maps

set_option maxRecDepth 20000 in
set_option maxHeartbeats 2000000 in
theorem mlive_any (s t : Value) (ws rs : List Int) (w : World) (hs : VRow w s (Uw ws)) (ht : VRow w t (Iw rs)) (hU : U32 ws) (hl : ws.length < 70368744177664) (hr : rs.length < 35184372088832) :
    Calls Try.prog 23 #[s, t] w fun e w' => ∃ v l, e = .returned (.tuple #[v, .int .i64 (chkE (rightB ws rs))]) ∧ LivD ws rs l ∧ w'.ownsRow w.heap.size 3 1 v l.length (Iw l) ∧ Below w.heap.size w w' := by
  have HC := hide (ccheck_any s t ws rs w hs ht hU hl hr)
  cases hb : rightB ws rs with
  | false =>
    rw [hb, show chkE false = 11 from rfl] at HC
    have HD := hide (show LivD ws rs [] from ⟨fun h => (by rw [hb] at h; cases h), fun _ => rfl⟩)
    clear hs ht hU hl hr hb
    go_enter Try.func23, Try.ntmps23
    go_wp2_with fail
    refine Calls.mono (unhide HC) ?_
    rintro e w1 ⟨rfl, b1⟩
    have HB1 := hide b1
    clear b1
    go_wp2_with fail
    go_ret2
    exact ⟨_, [], rfl, unhide HD, World.ownsRow_nil _ _ _ _, unhide HB1⟩
  | true =>
    rw [hb, show chkE true = 0 from rfl] at HC
    have HL := hide (fun w1 (b1 : Below w.heap.size w w1) => mliving_any s t ws rs w1 (hs.below b1) (ht.below b1) hU hb)
    have HB := hide hb
    clear hs ht hU hl hr hb
    go_enter Try.func23, Try.ntmps23
    go_wp2_with fail
    refine Calls.mono (unhide HC) ?_
    rintro e w1 ⟨rfl, b1⟩
    have HB1 := hide b1
    have HL1 := hide (unhide HL w1 b1)
    clear b1 HL
    go_wp2_with fail
    refine Calls.mono (unhide HL1) ?_
    rintro e w2 ⟨b, S, rfl, hm, hbb, hn, hls, hms, b2⟩
    have HB2 := hide ((unhide HB1).trans (b2.mono (unhide HB1).size))
    have HK := hide (mkeys_any (some b) w2)
    have HSO := hide (msorted_any w2 b ws rs S hm hn hls hms)
    clear hm hbb hn hls hms b2
    go_wp2_with fail
    refine Calls.mono (unhide HK) ?_
    rintro e w3 ⟨rfl, rfl⟩
    go_wp2_with fail
    refine Calls.mono (unhide HSO) ?_
    rintro e w4 ⟨v, l, rfl, hli, hrow, b4⟩
    have HF := hide (show LivD ws rs l ∧ w4.ownsRow w.heap.size 3 1 v l.length (Iw l) ∧ Below w.heap.size w w4 from
      ⟨⟨fun _ => hli, fun h => (by rw [unhide HB] at h; cases h)⟩, ownsRow_base_a hrow (unhide HB2).size, (unhide HB2).trans (b4.mono (unhide HB2).size)⟩)
    clear hli hrow b4
    go_wp2_with fail
    go_ret2
    exact ⟨_, l, rfl, unhide HF⟩

/-- The sizes of objects, together. -/
def sumW (ws : List Int) : List Int → Int
  | [] => 0
  | a :: l => wd ws a.toNat / 4096 + sumW ws l
theorem sumW_perm {ws l m : List Int} (h : l.Perm m) : sumW ws l = sumW ws m := by
  induction h with
  | nil => rfl
  | cons a _ ih => simp only [sumW, ih]
  | swap a b l => simp only [sumW]; omega
  | trans _ _ h1 h2 => rw [h1, h2]
theorem sumW_snoc (ws l : List Int) (a : Int) : sumW ws (l ++ [a]) = sumW ws l + wd ws a.toNat / 4096 := by
  induction l with
  | nil => simp [sumW]
  | cons b l ih => simp only [List.cons_append, sumW, ih]; omega
theorem sumW_bounds {ws : List Int} (hU : U32 ws) : ∀ l : List Int, 0 ≤ sumW ws l ∧ sumW ws l ≤ (l.length : Int) * 1048576
  | [] => by simp [sumW]
  | a :: l => by
    obtain ⟨h1, h2⟩ := sumW_bounds hU l
    obtain ⟨u0, u1⟩ := hU.wd a.toNat
    simp only [sumW, List.length_cons]
    omega

set_option maxRecDepth 20000 in
set_option maxHeartbeats 2000000 in
theorem mwords_any (s t : Value) (ws rs : List Int) (w : World) (hs : VRow w s (Uw ws)) (ht : VRow w t (Iw rs)) (hU : U32 ws) (hl : ws.length < 70368744177664) (hr : rs.length < 35184372088832) :
    Calls Try.prog 24 #[s, t] w fun e w' => ∃ l, e = .returned (.tuple #[.int .i64 (sumW ws l), .int .i64 (chkE (rightB ws rs))]) ∧ LivD ws rs l ∧ Below w.heap.size w w' := by
  have HC := hide (ccheck_any s t ws rs w hs ht hU hl hr)
  cases hb : rightB ws rs with
  | false =>
    rw [hb, show chkE false = 11 from rfl] at HC
    have HD := hide (show LivD ws rs [] from ⟨fun h => (by rw [hb] at h; cases h), fun _ => rfl⟩)
    clear hs ht hU hl hr hb
    go_enter Try.func24, Try.ntmps24
    go_wp2_with fail
    refine Calls.mono (unhide HC) ?_
    rintro e w1 ⟨rfl, b1⟩
    have HB1 := hide b1
    clear b1
    go_wp2_with fail
    go_ret2
    exact ⟨[], rfl, unhide HD, unhide HB1⟩
  | true =>
    rw [hb, show chkE true = 0 from rfl] at HC
    have HL := hide (fun w1 (b1 : Below w.heap.size w w1) => mliving_any s t ws rs w1 (hs.below b1) (ht.below b1) hU hb)
    have HB := hide hb
    have HU := hide hU
    have HH := hide (right_parts hb).2.2.2.2
    have HWL := hide (right_parts hb).2.1
    clear hs ht hU hl hr hb
    go_enter Try.func24, Try.ntmps24
    go_wp2_with fail
    refine Calls.mono (unhide HC) ?_
    rintro e w1 ⟨rfl, b1⟩
    have HB1 := hide b1
    have HL1 := hide (unhide HL w1 b1)
    clear b1 HL
    go_wp2_with fail
    refine Calls.mono (unhide HL1) ?_
    rintro e w2 ⟨b, S, rfl, hm, hbb, hn, hls, hms, b2⟩
    obtain ⟨D, hown, hP, hsz, hhas, hatk⟩ := szM_has hm hn
    have HB2 := hide ((unhide HB1).trans (b2.mono (unhide HB1).size))
    have HS2 := hide (unhide HB2).size
    have HO := hide hown
    have HP := hide hP
    have HHA := hide hhas
    have HAT := hide hatk
    have HN := hide hn
    have HMS := hide hms
    clear hown hm hbb hn hls hms b2 hP hsz hhas hatk
    go_wp2_with (first
      | (at_range; refine wpList_range_own _ rfl _ 83 rfl 3 3 (Maps.int_keyed Try.underlying3) Try.underlying83 _ b S.length _ rfl (unhide HO) ?_; intro w0 hrg0 hg0 hs0)
      | go_in)
    go_frame
    have HB0 := hide ((unhide HB2).grown hg0 (unhide HB2).size (fun j hj => by cases hj))
    obtain ⟨r, hr⟩ : ∃ r, r = w2.heap.size := ⟨_, rfl⟩
    have HR := hide (show w.heap.size ≤ r by rw [hr]; exact unhide HS2)
    rw [← hr] at hrg0 ⊢
    clear hr hg0 hs0
    go_loopw [7] (fun sv wr => ∃ (left : Lit → Bool) (cnt : Nat) (ss : List Int), sv = .int .i64 (sumW ws ss) ∧ wr.ranges Try.prog 3 heldR b r S.length D left cnt ∧ Hid (CollectedI D left ss) ∧ Hid (Below w.heap.size w wr)) (fun _ wr => wr.rangeLeft b r)
    case atStart => exact ⟨_, _, [], rfl, hrg0, CollectedI.start D, unhide HB0⟩
    case round =>
      clear hrg0 HB0
      obtain ⟨left, cnt, ss, rfl, hrg, hC, hbr⟩ := hrel
      have hss : ss.Nodup ∧ ∀ x ∈ ss, x ∈ S := ⟨(unhide hC).1, fun x hx => by
        have := (((unhide hC).2 x).1 hx).1
        rw [unhide HHA x] at this
        exact of_decide_eq_true this⟩
      have hsl : ss.length ≤ ws.length := obs_count ws ss hss.1 fun x hx => rch_ob (unhide HH) ((unhide HMS x).1 (hss.2 x hx))
      have hbd := sumW_bounds (unhide HU) ss
      have HSB := hide (show 0 ≤ sumW ws ss ∧ sumW ws ss ≤ 1099511627776 by have := unhide HWL; omega)
      clear hss hsl hbd
      go_wp2_with (first
        | (at_next; refine wpList_next_ranges _ rfl _ rfl 3 (Maps.int_keyed Try.underlying3) heldR encZ id (fun key kl hk => by obtain ⟨x, hx, _⟩ := Maps.keyOf_i64 Try.underlying3 hk; exact ⟨x, hx⟩) (fun v _ _ => ⟨v, rfl⟩) b r S.length _ _ _ rfl hrg ?_ ?_)
        | go_in)
      · intro hc0 hl0
        have hp1 := (unhide hC).perm (unhide HO) (Maps.int_keyed Try.underlying3) Try.underlying3 hl0
        have hp2 : ss.Perm S := hp1.trans (unhide HP).symm
        have hli := live_sorted (unhide HN) (unhide HMS) (List.Perm.refl S)
        have hsum : sumW ws ss = sumW ws (S.mergeSort fun x y => decide (x ≤ y)) := sumW_perm (hp2.trans (List.mergeSort_perm S _).symm)
        have HE := hide (show ∃ l, (Ending.returned (.tuple #[.int .i64 (sumW ws ss), .int .i64 0]) : Ending) = .returned (.tuple #[.int .i64 (sumW ws l), .int .i64 (chkE true)]) ∧ LivD ws rs l ∧ Below w.heap.size w wr from
          ⟨_, by rw [hsum]; rfl, ⟨fun _ => hli, fun h => (by rw [unhide HB] at h; cases h)⟩, unhide hbr⟩)
        clear hp1 hp2 hli hsum hl0 hc0 hrg
        go_wp2_with fail
        go_ret2
        exact unhide HE
      · intro x c kl yd yp w4 cnt2 hkey hlk hv hat hrg2 hlt hg2 hs2 hen
        obtain ⟨x', ex, rfl, _⟩ := Maps.keyOf_i64 Try.underlying3 hkey
        obtain rfl : x = x' := encZ_inj ex
        have hyd : yd = .held c := by
          have h : some ((DataW.held c : DataW Value), ([] : List MemPlace)) = some (yd, yp) := hv
          simp only [Option.some.injEq, Prod.mk.injEq] at h
          exact h.1.symm
        have hxc : ∀ z, (szM ws S x).getD z = c := fun z => by
          have h := (unhide HAT x z).symm.trans (hat (.held z))
          rw [hyd] at h
          simpa using h
        have hxS : x ∈ S := by
          by_cases hx : x ∈ S
          · exact hx
          · exfalso
            unfold szM at hxc
            rw [if_neg hx] at hxc
            have h1 := hxc (.bool true)
            have h2 := hxc (.bool false)
            rw [← h1] at h2
            simp at h2
        have hc9 : c = .int .i64 (wd ws x.toNat / 4096) := by
          have h := hxc (.bool true)
          unfold szM at h
          rw [if_pos hxS] at h
          exact h.symm
        subst hc9
        obtain ⟨u0, u1⟩ := (unhide HU).wd x.toNat
        have hwr : IntKind.i64.wrap (sumW ws ss + wd ws x.toNat / 4096) = sumW ws (ss ++ [x]) := by rw [sumW_snoc, IntKind.wrap_i64]; have := unhide HSB; omega
        have HC2 := hide ((unhide hC).step hlk hat)
        have HB4 := hide ((unhide hbr).grown hg2 (unhide hbr).size (fun j hj => by cases hj; exact unhide HR))
        have HRG := hide hrg2
        have HME := hide (show wr.rangeLeft b r > w4.rangeLeft b r by rw [hrg2.left_eq, hrg.left_eq]; exact hlt)
        generalize wd ws x.toNat / 4096 = y at *
        generalize hz : sumW ws (ss ++ [x]) = z at *
        have HZ := hide hz
        clear hz hrg2 hlt hg2 hs2 hxS hxc hv hat hlk hkey ex hbr hC hrg
        go_wp2_with fail
        go_roundw
        case rel => exact ⟨_, cnt2, ss ++ [x], by rw [unhide HZ], unhide HRG, unhide HC2, unhide HB4⟩
        case measure => exact unhide HME

instance (ws : List Int) (a : Int) : Decidable (isOb ws a) := by unfold isOb; infer_instance
theorem isPl_iff {ws : List Int} {a : Int} : isPl ws.length (obs ws 1) a = true ↔ a = 0 ∨ isOb ws a := by
  constructor
  · intro h
    by_cases h0 : a = 0
    · exact Or.inl h0
    · exact Or.inr (isOb_of_pl h h0)
  · rintro (h | ⟨h1, h2, h3⟩)
    · subst h; simp [isPl]
    · unfold isPl
      simp only [Bool.or_eq_true, Bool.and_eq_true, decide_eq_true_eq]
      exact Or.inr ⟨⟨h1, h2⟩, List.mem_map.2 ⟨_, h3, rfl⟩⟩
/-- Are there objects at both places? -/
def okR (ws : List Int) (a b : Int) : Bool := decide (isOb ws a) && decide (isOb ws b)
def reaE (ws : List Int) (a b : Int) : Int := if rightB ws [] = true then (if okR ws a b = true then 0 else 6) else 11
/-- What Reaches answers. -/
def ReaD (ws : List Int) (a b : Int) (B : Bool) : Prop := (rightB ws [] = true → okR ws a b = true → (B = true ↔ Rch ws [a] b)) ∧ (¬ (rightB ws [] = true ∧ okR ws a b = true) → B = false)
theorem ReaD.unique {ws : List Int} {a b : Int} {B C : Bool} (h : ReaD ws a b B) (h2 : ReaD ws a b C) : B = C := by
  by_cases hc : rightB ws [] = true ∧ okR ws a b = true
  · have h3 := (h.1 hc.1 hc.2).trans (h2.1 hc.1 hc.2).symm
    cases B <;> cases C <;> simp_all
  · rw [h.2 hc, h2.2 hc]
theorem right_one {ws : List Int} {a : Int} (h : rightB ws [] = true) (ha : isOb ws a) : rightB ws [a] = true :=
  right_iff'.2 ⟨h, by simp, fun r hr => by rw [List.mem_singleton.1 hr]; exact isPl_iff.2 (Or.inr ha)⟩
theorem right_two {ws : List Int} {a b : Int} (h : rightB ws [] = true) (ha : a ≠ 0) (hb : b ≠ 0) : rightB ws [a, b] = okR ws a b := by
  have h1 : rightB ws [a, b] = true ↔ okR ws a b = true := by
    rw [right_iff']
    unfold okR
    simp only [Bool.and_eq_true, decide_eq_true_eq]
    constructor
    · rintro ⟨_, _, h2⟩
      exact ⟨(isPl_iff.1 (h2 a (by simp))).resolve_left ha, (isPl_iff.1 (h2 b (by simp))).resolve_left hb⟩
    · rintro ⟨h2, h3⟩
      refine ⟨h, by simp, fun r hr => ?_⟩
      rcases List.mem_cons.1 hr with rfl | hr
      · exact isPl_iff.2 (Or.inr h2)
      · rw [List.mem_singleton.1 hr]; exact isPl_iff.2 (Or.inr h3)
  cases h2 : rightB ws [a, b] <;> cases h3 : okR ws a b <;> simp_all

end Go.Proofs.Ytegefnchkgkmgaa

/- The reference of layer 14: Live, Words, is, Reaches. -/
namespace Go.Proofs.Ytegefnchkgkmgaa
open Go.RowKit

/-- The marked places below k. -/
def liveM (m : List Bool) (k : Nat) : List Int := ((List.range k).filter (fun i : Nat => decide (m[i]? = some true))).map (fun i : Nat => (i : Int))
theorem liveM_yes {m : List Bool} {k : Nat} (h : m[k]? = some true) : liveM m (k + 1) = liveM m k ++ [(k : Int)] := by
  unfold liveM
  rw [List.range_succ, List.filter_append, List.map_append]
  simp [h]
theorem liveM_no {m : List Bool} {k : Nat} (h : ¬ m[k]? = some true) : liveM m (k + 1) = liveM m k := by
  unfold liveM
  rw [List.range_succ, List.filter_append, List.map_append]
  simp [h]
theorem liveM_len (m : List Bool) (k : Nat) : (liveM m k).length ≤ k := by
  unfold liveM
  rw [List.length_map]
  exact Nat.le_trans (List.length_filter_le _ _) (by simp)
theorem liveM_is {ws rs : List Int} {m : List Bool} (hh : heapB ws rs = true) (h : ∀ k : Nat, m[k]? = some true ↔ Rch ws rs (k : Int)) : LiveIs ws rs (liveM m ws.length) := by
  refine ⟨?_, fun a => ?_⟩
  · unfold liveM
    refine List.pairwise_map.2 ((List.Pairwise.filter _ List.pairwise_lt_range).imp fun {a b} h => ?_)
    omega
  · unfold liveM
    rw [List.mem_map]
    constructor
    · rintro ⟨k, hk, rfl⟩
      rw [List.mem_filter, decide_eq_true_eq] at hk
      exact (h k).1 hk.2
    · intro hr
      obtain ⟨s1, s2, s3, s4⟩ := isOb_size (rch_ob hh hr)
      refine ⟨a.toNat, List.mem_filter.2 ⟨List.mem_range.2 s3, decide_eq_true ((h a.toNat).2 (by rw [s4]; exact hr))⟩, s4⟩

set_option maxRecDepth 20000 in
set_option maxHeartbeats 2000000 in
theorem rlive14_any (s t : Value) (ws rs : List Int) (w : World) (hs : VRow w s (Uw ws)) (ht : VRow w t (Iw rs)) (hU : U32 ws) :
    Calls Try.prog 37 #[s, t] w fun e w' => ∃ v l, e = .returned (.tuple #[v, .int .i64 (chkE (rightB ws rs))]) ∧ LivD ws rs l ∧ w'.ownsRow w.heap.size 3 1 v l.length (Iw l) ∧ Below w.heap.size w w' := by
  have HC := hide (rright_any s t ws rs w hs ht hU)
  cases hb : rightB ws rs with
  | false =>
    rw [hb] at HC
    have HD := hide (show LivD ws rs [] from ⟨fun h => (by rw [hb] at h; cases h), fun _ => rfl⟩)
    clear hs ht hU hb
    go_enter Try.func37, Try.ntmps37
    go_wp2_with fail
    refine Calls.mono (unhide HC) ?_
    rintro e w1 ⟨rfl, b1⟩
    have HB1 := hide b1
    clear b1
    go_wp2_with fail
    go_ret2
    exact ⟨_, [], rfl, unhide HD, World.ownsRow_nil _ _ _ _, unhide HB1⟩
  | true =>
    rw [hb] at HC
    obtain ⟨i0, hi, hz0, hz1, hz2⟩ := info_parts Try.infoI64
    have HL := hide (fun w1 (b1 : Below w.heap.size w w1) => rmarks_any s t ws rs w1 (hs.below b1) (ht.below b1) hU hb)
    have HB := hide hb
    have HH := hide (right_parts hb).2.2.2.2
    have HWL := hide (right_parts hb).2.1
    clear hs ht hU hb
    go_enter Try.func37, Try.ntmps37
    go_wp2_with fail
    refine Calls.mono (unhide HC) ?_
    rintro e w1 ⟨rfl, b1⟩
    have HB1 := hide b1
    have HL1 := hide (unhide HL w1 b1)
    clear b1 HL
    go_wp2_with fail
    refine Calls.mono (unhide HL1) ?_
    rintro e w2 ⟨rfl, m, hm, hml, hmr, b2⟩
    have HB2 := hide ((unhide HB1).trans (b2.mono (unhide HB1).size))
    obtain ⟨g, hg⟩ : ∃ g, g = w1.heap.size := ⟨_, rfl⟩
    rw [← hg] at hm ⊢
    have HM := hide hm
    have HGL := hide (show g < w2.heap.size from (Array.getElem?_eq_some_iff.1 hm).1)
    have HML := hide hml
    have HLI := hide (liveM_is (unhide HH) hmr)
    clear hm hml hmr b2 hg
    go_wp2_with fail
    go_loopw [7, 8] (fun ov iv wr => ∃ (k : Nat), iv = .int .i64 (k : Int) ∧ k ≤ ws.length ∧ Hid (wr.ownsRow w2.heap.size 3 1 ov (liveM m k).length (Iw (liveM m k))) ∧ Hid (Below w2.heap.size w2 wr)) (fun _ iv _ => ws.length - (intOf iv).toNat)
    case atStart => exact ⟨0, rfl, Nat.zero_le _, World.ownsRow_nil _ _ _ _, Below.refl _ _⟩
    case round =>
      obtain ⟨k, rfl, hk, hown, hbr⟩ := hrel
      obtain ⟨p0, c0, rfl⟩ := ownsV_shape (unhide hown)
      have hkw : IntKind.i64.wrap ((k : Int) + 1) = (k : Int) + 1 := by have := unhide HWL; rw [IntKind.wrap_i64]; omega
      by_cases hlt : k < ws.length
      · have hkI : (k : Int) < (ws.length : Int) := by omega
        have hgb := ((unhide hbr).block g (unhide HGL)).trans (unhide HM)
        obtain ⟨b, hb⟩ : ∃ b, m[k]? = some b := ⟨m[k]'(by rw [unhide HML]; exact hlt), List.getElem?_eq_getElem _⟩
        have hcb : wr.cell? ⟨g, k, none⟩ = some (.bool b) := by
          rw [cell_of_row wr g k _ _ (0, 0) hgb]
          simp [hb]
        have HLT := hide hlt
        have HBR := hide (unhide hbr)
        cases b with
        | false =>
          have hn := liveM_no (m := m) (k := k) (by rw [hb]; simp)
          have HOW := hide (show wr.ownsRow w2.heap.size 3 1 (.slice p0 (liveM m k).length c0) (liveM m (k + 1)).length (Iw (liveM m (k + 1))) by rw [hn]; exact unhide hown)
          clear hn hown hbr hgb hb hlt hk
          go_wp2_with fail
          go_roundw
          case rel => exact ⟨k + 1, by go_num, unhide HLT, unhide HOW, unhide HBR⟩
          case measure => (have := unhide HLT; simp [intOf]; omega)
        | true =>
          have hn := liveM_yes (m := m) (k := k) hb
          have hlen := liveM_len m k
          have HN := hide hn
          have HLB := hide (show (liveM m k).length ≤ 1048576 by have := unhide HWL; omega)
          have HOX := hide (show (wr.alloc (.cells #[.int .i64 (k : Int)] 3)).ownsRow w2.heap.size 3 1 (.slice p0 (liveM m k).length c0) (liveM m k).length (Iw (liveM m k)) from ownsV_keep (F := fun _ => False) (unhide hown) (Keep.of_below ((Below.refl _ _).alloc (Nat.le_refl _) _)) (fun _ _ => id))
          have HNW := hide (show ∀ (i : Nat) (u : Value), [Value.int .i64 (k : Int)][i]? = some u → (wr.alloc (.cells #[.int .i64 (k : Int)] 3)).cell? ((⟨wr.heap.size, 0, none⟩ : Addr).add i) = some u from fun i u hi => by match i, hi with | 0, hi => (simp at hi; subst hi; simp [Addr.add]))
          have HGS := hide (show w2.heap.size ≤ (wr.alloc (.cells #[.int .i64 (k : Int)] 3)).heap.size by rw [World.size_alloc]; have := (unhide hbr).size; omega)
          obtain ⟨L, hL⟩ : ∃ L, L = liveM m k := ⟨_, rfl⟩
          rw [← hL] at HN HLB HOX ⊢
          clear hn hlen hown hbr hgb hb hlt hk hL
          go_wp2_with (first
            | (at_builtin; refine wpList_append_gen rfl _ _ 23 rfl w2.heap.size 3 i0 (.int .i64 0) Try.underlying23 hi hz0 1 8 (by omega) hz1 hz2 rfl (.slice p0 L.length c0) L.length (Iw L) rfl (unhide HOX) ⟨wr.heap.size, 0, none⟩ 1 1 [.int .i64 (k : Int)] rfl rfl (unhide HNW) (by intro u hu; simp at hu; subst hu; rfl) (by have := unhide HLB; unfold maxLen; omega) (by have := unhide HLB; omega) (unhide HGS) ?_))
          intro v6 w6 hown6 hgrow6 hob6
          have HF := hide (show w6.ownsRow w2.heap.size 3 1 v6 (liveM m (k + 1)).length (Iw (liveM m (k + 1))) by rw [unhide HN]; simpa using hown6)
          have HB6 := hide (((unhide HBR).trans ((Below.refl _ wr).alloc (unhide HBR).size _)).grown hgrow6 (by have := unhide HGS; exact this) (fun q e => ((unhide HOX).lt q e).1))
          obtain ⟨p6, c6, rfl⟩ := ownsV_shape hown6
          clear hown6 hgrow6 hob6
          go_wp2_with fail
          go_roundw
          case rel => exact ⟨k + 1, by go_num, unhide HLT, unhide HF, unhide HB6⟩
          case measure => (have := unhide HLT; simp [intOf]; omega)
      · have hke : k = ws.length := by omega
        subst hke
        have hge : ¬ (ws.length : Int) < (ws.length : Int) := by omega
        have HE := hide (show LivD ws rs (liveM m ws.length) ∧ wr.ownsRow w.heap.size 3 1 (.slice p0 (liveM m ws.length).length c0) (liveM m ws.length).length (Iw (liveM m ws.length)) ∧ Below w.heap.size w wr from
          ⟨⟨fun _ => unhide HLI, fun h => (by rw [unhide HB] at h; cases h)⟩, ownsRow_base_a (unhide hown) (unhide HB2).size, (unhide HB2).trans ((unhide hbr).mono (unhide HB2).size)⟩)
        clear hown hbr hlt hk hkw
        go_wp2_with fail
        go_ret2
        exact ⟨_, rfl, _, unhide HE⟩

theorem atR_ob {ws : List Int} {a : Int} : (atR ws a).2.2.2 = if isOb ws a then 0 else 6 := by
  unfold atR
  cases hf : fndO ws a with
  | none =>
    have h : ¬ isOb ws a := fun h => by
      unfold fndO at hf
      have := List.find?_eq_none.1 hf _ h.2.2
      have h2 := h.1
      simp only [decide_eq_true_eq] at this
      omega
    rw [if_neg h]
  | some x =>
    unfold fndO at hf
    have h1 := List.mem_of_find?_eq_some hf
    have h2 := List.find?_some hf
    simp only [decide_eq_true_eq] at h2
    obtain ⟨o1, o2, o3⟩ := obs_mem h1
    have h3 : isOb ws a := ⟨by omega, by have := o3.1; omega, by
      have e : a.toNat = x.1 := by omega
      rw [e, ← o2]
      exact h1⟩
    rw [if_pos h3]

end Go.Proofs.Ytegefnchkgkmgaa

/- The reference of layer 15: Follow, Compact. -/
namespace Go.Proofs.Ytegefnchkgkmgaa
open Go.RowKit

theorem results_tmp4 {fn : Func} {t u v x : Tmp} (h : fn.results = #[.tmp t, .tmp u, .tmp v, .tmp x]) (tmps : Array Value) (P : Program) (w : World) :
    (results fn tmps).run P w = .ok (.tuple #[tmps.getD t undef, tmps.getD u undef, tmps.getD v undef, tmps.getD x undef]) w := by
  simp [results, h]
theorem toP_snoc {ws : List Int} {a x : Int} : ∀ {M : List Int} {p : Nat}, a ∉ M → toP ws (M ++ [a]) p x = if x = a then p + sums ws M else toP ws M p x
  | [], p, _ => by simp [toP, sums]
  | b :: M, p, h => by
    have hb : a ≠ b := fun e => h (e ▸ List.mem_cons_self ..)
    have hM : a ∉ M := fun e => h (List.mem_cons_of_mem _ e)
    simp only [List.cons_append, toP, sums]
    by_cases e : x = b
    · have hx : ¬ x = a := fun e2 => hb (e2.symm.trans e)
      rw [if_pos e, if_neg hx, if_pos e]
    · rw [if_neg e, if_neg e, toP_snoc hM]
      split
      · omega
      · rfl
theorem toA_snoc {ws M : List Int} {a x : Int} (h : a ∉ M) : toA ws (M ++ [a]) x = if x = a then ((1 + sums ws M : Nat) : Int) else toA ws M x := by
  unfold toA
  rw [toP_snoc h]
  split <;> rfl
/-- The table of new places. -/
def tabL (ws M : List Int) : List Int := (List.range ws.length).map fun j : Nat => toA ws M (j : Int)
theorem tabL_snoc {ws M : List Int} {a : Nat} (h : (a : Int) ∉ M) (ha : a < ws.length) : (tabL ws M).set a ((1 + sums ws M : Nat) : Int) = tabL ws (M ++ [(a : Int)]) := by
  apply List.ext_getElem?
  intro k
  unfold tabL
  rw [List.getElem?_set]
  by_cases e : a = k
  · subst e
    rw [if_pos rfl]
    simp [ha, toA_snoc h]
  · rw [if_neg e]
    by_cases hk : k < ws.length
    · have : ¬ (k : Int) = (a : Int) := fun x => e (by omega)
      simp [hk, toA_snoc h, this]
    · simp [hk]
theorem tabL_get {ws M : List Int} {k : Nat} (h : k < ws.length) : (tabL ws M)[k]? = some (toA ws M (k : Int)) := by simp [tabL, h]
theorem toA_zero (ws : List Int) (x : Int) : toA ws [] x = 0 := rfl
theorem tabL_nil (ws : List Int) : tabL ws [] = List.replicate ws.length 0 := by
  apply List.ext_getElem?
  intro k
  unfold tabL
  by_cases h : k < ws.length
  · simp [h, toA_zero]
  · simp [h]

/-- The table and the list of what went, in memory. -/
structure TbP (w : World) (g : Nat) (lv : Value) (m : List Int) (L : List (Int × Int)) : Prop where
  blk : w.heap[g]? = some (.cells (Iw m).toArray 3 (0, 0))
  own : w.ownsRow (g + 1) 36 2 lv L.length (posC L)
theorem TbP.mark {w : World} {g : Nat} {lv : Value} {m : List Int} {L : List (Int × Int)} (h : TbP w g lv m L) (k : Nat) (v : Int) : TbP (w.setCell ⟨g, k, none⟩ (.int .i64 v)) g lv (m.set k v) L := by
  refine ⟨?_, ownsV_keep h.own (keep_set w g k (.int .i64 v)) (fun b e => by have := (h.own.lt b e).1; omega)⟩
  rw [heap_setCell_same w g k _ _ (.int .i64 v) h.blk]
  simp
theorem TbP.cell {w : World} {g : Nat} {lv : Value} {m : List Int} {L : List (Int × Int)} (h : TbP w g lv m L) {k : Nat} {v : Int} (hk : m[k]? = some v) : w.cell? ⟨g, k, none⟩ = some (.int .i64 v) := by
  rw [cell_of_row w g k _ _ (0, 0) h.blk]
  simp [hk]
theorem TbP.push {w w2 : World} {g : Nat} {lv lv' : Value} {m : List Int} {L : List (Int × Int)} {x : Int × Int} (h : TbP w g lv m L) (hown : w2.ownsRow (g + 1) 36 2 lv' (L.length + 1) (posC L ++ [.int .i64 x.1, .int .i64 x.2])) (hg : (w.alloc (.cells #[.int .i64 x.1, .int .i64 x.2] 36)).grownBy w2 lv.ownBlock) :
    TbP w2 g lv' m (L ++ [x]) ∧ Below (g + 1) w w2 := by
  have hgl : g < w.heap.size := (Array.getElem?_eq_some_iff.1 h.blk).1
  have hne : ∀ k, k < g + 1 → lv.ownBlock ≠ some k := fun k hk e => by have := (h.own.lt k e).1; omega
  have hkeep : ∀ k, k < g + 1 → w2.heap[k]? = w.heap[k]? := fun k hk =>
    (hg.block k (by rw [World.size_alloc]; omega) (fun e => hne k hk e.symm)).trans (Below.heap_alloc _ _ k (by omega))
  refine ⟨⟨(hkeep g (by omega)).trans h.blk, by rw [posC_snoc, List.length_append]; exact hown⟩, hg.os, hg.tape, hg.output, ?_, hkeep⟩
  have := hg.size; rw [World.size_alloc] at this; omega
/-- One more behind a row of the call's own: laid aside first, then appended. -/
theorem own_push {w w2 : World} {base e n : Nat} {lv y : Value} {xs : List Value} {b0 : Nat} (h : w.ownsRow base e 1 lv n xs) (hb : base ≤ w.heap.size) (h0 : b0 ≤ base) (hg : (w.alloc (.cells #[y] e)).grownBy w2 lv.ownBlock) : Below b0 w w2 := by
  have hs := hg.size
  rw [World.size_alloc] at hs
  exact ⟨hg.os, hg.tape, hg.output, by omega, fun k hk => (hg.block k (by rw [World.size_alloc]; omega) (fun e => by have := (h.lt k e.symm).1; omega)).trans (Below.heap_alloc _ _ k (by omega))⟩
end Go.Proofs.Ytegefnchkgkmgaa

/- The reference of layer 15: Follow, Compact. -/
namespace Go.Proofs.Ytegefnchkgkmgaa
open Go.RowKit

theorem Try.infoPos : (Try.prog.info? 36).map (fun i => (i.zero, i.size, i.bytes)) = some (some (.agg #[.int .i64 0, .int .i64 0]), 2, 16) := by kernel_rfl
theorem Try.infoU32t : (Try.prog.info? 25).map (fun i => (i.zero, i.size, i.bytes)) = some (some (.int .u32 0), 1, 4) := by kernel_rfl
theorem run_make_ints (n : Nat) (hn : n ≤ 1048576) (w : World) :
    (Instr.makeSlice 23 (.int .i64 (n : Int)) (.int .i64 (n : Int))).run Try.prog w = .ok (.slice (some ⟨w.heap.size, 0, none⟩) n n) (w.alloc (.cells (Array.replicate n (.int .i64 0)) 3)) := by
  rw [← List.toArray_replicate, ← made_arr]
  exact run_make_row' 23 3 (.int .i64 0) 8 Try.underlying23 Try.infoI64 rfl .i64 .i64 n (by omega) (by omega) w
theorem cell_two {w : World} {v1 v2 : Value} {t : TypeId} : ∀ (j : Nat) (u : Value), [v1, v2][j]? = some u → (w.alloc (.cells #[v1, v2] t)).cell? ((⟨w.heap.size, 0, none⟩ : Addr).add j) = some u := fun j u hj => by
  match j, hj with
  | 0, hj => simp at hj; subst hj; simp [Addr.add]
  | 1, hj => simp at hj; subst hj; simp [Addr.add]

set_option maxRecDepth 20000 in
set_option maxHeartbeats 4000000 in
theorem rcompact_any (s t : Value) (ws rs : List Int) (w : World) (hs : VRow w s (Uw ws)) (ht : VRow w t (Iw rs)) (hU : U32 ws) :
    Calls Try.prog 12 #[s, t] w fun e w' => ∃ vo vr vp l, e = .returned (.tuple #[vo, vr, vp, .int .i64 (chkE (rightB ws rs))]) ∧ LivD ws rs l ∧ CmpD w' w.heap.size ws rs l vo vr vp ∧ Below w.heap.size w w' := by
  have HL := hide (rlive14_any s t ws rs w hs ht hU)
  cases hb : rightB ws rs with
  | false =>
    rw [hb, show chkE false = 11 from rfl] at HL
    have HC := hide (show ∀ l w', CmpD w' w.heap.size ws rs l (.slice none 0 0) (.slice none 0 0) (.slice none 0 0) from fun l w' => by
      unfold CmpD outW outR outP
      rw [hb]
      exact ⟨World.ownsRow_nil _ _ _ _, World.ownsRow_nil _ _ _ _, World.ownsRow_nil _ _ _ _⟩)
    clear hs ht hU hb
    go_enter Try.func12, Try.ntmps12
    go_wp2_with fail
    refine Calls.mono (unhide HL) ?_
    rintro e w1 ⟨v, l, rfl, hli, hrow, b1⟩
    have HB1 := hide b1
    have HLI := hide hli
    obtain ⟨pv, cv, rfl⟩ := ownsV_shape hrow
    clear hli hrow b1
    go_wp2_with fail
    (try simp only [Exit.inBlock, Exit.then])
    refine bodyPost_ret (results_tmp4 rfl _ _ _) rfl ?_
    exact ⟨_, _, _, l, rfl, unhide HLI, unhide HC l w1, unhide HB1⟩
  | true =>
    rw [hb, show chkE true = 0 from rfl] at HL
    obtain ⟨r1, r2, r3, r4, r5⟩ := right_parts hb
    obtain ⟨i0, hi, hz0, hz1, hz2⟩ := info_parts Try.infoI64
    obtain ⟨i1, hi1, hy0, hy1, hy2⟩ := info_parts Try.infoPos
    obtain ⟨i2, hi2, hx0, hx1, hx2⟩ := info_parts Try.infoU32t
    have hmk := run_make_ints ws.length r2
    have HR := hide hb
    have HS := hide hs
    have HT := hide ht
    have HU := hide hU
    have HWL := hide (And.intro r1 (And.intro r2 r4))
    have HPL := hide (fun r hr => isPl_iff14.1 ((heap_parts r5).2.2 r hr))
    obtain ⟨a, cap, rfl, g1, g2, g3⟩ := hs.shape
    obtain ⟨a', cap', rfl, k1, k2, k3⟩ := ht.shape
    have hlw : (Uw ws).length = ws.length := by simp
    have hlr : (Iw rs).length = rs.length := by simp
    rw [hlw] at HS HL
    rw [hlr] at HT HL
    rw [hlw, hlr]
    clear hs ht hU hb g1 g2 g3 k1 k2 k3 hlw hlr r1 r2 r3 r4 r5
    go_enter Try.func12, Try.ntmps12
    go_wp2_with fail
    refine Calls.mono (unhide HL) ?_
    rintro e w1 ⟨v, l, rfl, hli, hrow, b1⟩
    have hlv := Liv.of (unhide HU) (unhide HR) (hli.1 (unhide HR))
    have HV := hide hlv
    have HLL := hide (show l.length ≤ 1048576 from Nat.le_trans (obs_count ws l (hlv.rise.imp fun {a b} h => by omega) hlv.ob) (unhide HWL).2.1)
    have HLI := hide hli
    obtain ⟨pv, cv, rfl⟩ := ownsV_shape hrow
    have HV1 := hide (vrow_of_owns (vs := Iw l) (s := .slice pv l.length cv) (by simpa using hrow))
    have HB1 := hide b1
    have HTB := hide (show TbP (w1.alloc (.cells (Array.replicate ws.length (.int .i64 0)) 3)) w1.heap.size (.slice none 0 0) (tabL ws []) [] from ⟨by
      rw [tabL_nil]
      have := World.alloc_heap_new w1 (.cells (Array.replicate ws.length (.int .i64 0)) 3)
      simpa using this, World.ownsRow_nil _ _ _ _⟩)
    have HB0 := hide (show Below w1.heap.size w1 (w1.alloc (.cells (Array.replicate ws.length (.int .i64 0)) 3)) from (Below.refl _ _).alloc (Nat.le_refl _) _)
    clear hlv hli hrow b1 HL
    go_wp2_with fail
    obtain ⟨g, hg⟩ : ∃ g, g = w1.heap.size := ⟨_, rfl⟩
    have HG := hide hg
    rw [← hg] at HTB HB0 ⊢
    clear hg
    go_loopw [11, 12, 13] (fun pv av iv wr => ∃ (k q : Nat) (pp : Option Addr) (pc : Nat), iv = .int .i64 (k : Int) ∧ av = .int .i64 (q : Int) ∧ pv = .slice pp k pc ∧ k ≤ l.length ∧ Hid (q = 1 + sums ws (l.take k)) ∧ Hid (TbP wr g (.slice pp k pc) (tabL ws (l.take k)) ((l.take k).map fun a => (a, toA ws l a))) ∧ Hid (Below g w1 wr)) (fun _ _ iv _ => l.length - (intOf iv).toNat)
    case atStart => exact ⟨0, 1, none, 0, rfl, rfl, rfl, Nat.zero_le _, rfl, unhide HTB, unhide HB0⟩
    case round =>
      clear HTB HB0
      obtain ⟨k, q, pp, pc, rfl, rfl, rfl, hk, hq, hT, hbr⟩ := hrel
      have hkw : IntKind.i64.wrap ((k : Int) + 1) = (k : Int) + 1 := by have := unhide HLL; rw [IntKind.wrap_i64]; omega
      by_cases hlt : k < l.length
      · have hkI : (k : Int) < (l.length : Int) := by omega
        have hbr' : Below w1.heap.size w1 wr := by rw [← unhide HG]; exact unhide hbr
        have hbw := (unhide HB1).trans (hbr'.mono (unhide HB1).size)
        obtain ⟨bt, ot, ct, e9, _, _, htl⟩ := (unhide HV1).open (by intro e; have := congrArg List.length e; simp at this; rw [this] at hlt; simp at hlt)
        simp only [Value.slice.injEq, List.length_map] at e9
        obtain ⟨rfl, e8, rfl⟩ := e9
        have ht0 := htl k (.int .i64 l[k]) (by rw [List.getElem?_map, List.getElem?_eq_getElem hlt]; rfl)
        have hob := (unhide HV).ob l[k] (List.getElem_mem hlt)
        obtain ⟨s1, s2, s3, s4⟩ := isOb_size hob
        obtain ⟨p, hp⟩ : ∃ p : Nat, (p : Int) = l[k] := ⟨_, s4⟩
        have htk := List.take_succ_eq_append_getElem hlt
        have hat : toA ws l l[k] = ((1 + sums ws (l.take k) : Nat) : Int) := (unhide HV).at (M := l.take k) (R := l.drop (k + 1)) (by rw [← List.drop_eq_getElem_cons hlt, List.take_append_drop])
        have hnm : l[k] ∉ l.take k := (unhide HV).apart (M := l.take k) (R := l.drop (k + 1)) (by rw [← List.drop_eq_getElem_cons hlt, List.take_append_drop])
        rw [← hp] at ht0 s1 s2 s3 htk hat hnm
        simp only [Int.toNat_natCast] at s1 s2 s3
        have hpI : (p : Int) < (ws.length : Int) := by omega
        obtain ⟨bk, off, cz, e5, _, _, hwl⟩ := (unhide HS).open (by intro e; have := congrArg List.length e; simp at this; rw [this] at s3; simp at s3)
        simp only [Value.slice.injEq, List.length_map] at e5
        obtain ⟨rfl, e6, rfl⟩ := e5
        have hw0 := hwl p _ (by rw [List.getElem?_map, wd_get s3]; rfl)
        obtain ⟨u0, u1⟩ := (unhide HU).wd p
        have HSZ := hide (fun w => rsize_t (wd ws p) w u0 u1)
        have hsA : wd ws p / 4096 = ((szA ws (p : Int) : Nat) : Int) := by unfold szA; rw [Int.toNat_natCast]; exact (szN_int u0).symm
        have hall := (unhide HV).all (unhide HWL).1
        have hsum : sums ws (l.take (k + 1)) = sums ws (l.take k) + szA ws (p : Int) := by rw [htk, sums_app]; simp [sums]
        have hsl : sums ws (l.take (k + 1)) ≤ sums ws l := by
          have : sums ws l = sums ws (l.take (k + 1)) + sums ws (l.drop (k + 1)) := by rw [← sums_app, List.take_append_drop]
          omega
        have hqq := unhide hq
        have hwr : IntKind.i64.wrap ((q : Int) + wd ws p / 4096) = ((q + szA ws (p : Int) : Nat) : Int) := by
          rw [hsA, IntKind.wrap_i64]; have := (unhide HWL).2.1; omega
        have hTM := (unhide hT).mark p (q : Int)
        have hcl := (unhide hT).cell (tabL_get (ws := ws) (M := l.take k) s3)
        have hfz : wr.frozen? ⟨g, p, none⟩ = false := frozen_of_block (unhide hT).blk
        obtain ⟨W1, hW1⟩ : ∃ W1, W1 = wr.setCell ⟨g, p, none⟩ (.int .i64 (q : Int)) := ⟨_, rfl⟩
        rw [← hW1] at hTM
        have hb1 : Below g w1 W1 := by
          refine (unhide hbr).trans ?_
          rw [hW1]
          exact ⟨rfl, rfl, rfl, by simp [World.setCell], fun k hk => heap_setCell_other wr ⟨g, p, none⟩ k _ (fun e => by dsimp only at e; omega)⟩
        have HQ2 := hide (show q + szA ws (p : Int) = 1 + sums ws (l.take (k + 1)) by rw [hsum, hqq]; omega)
        have hTM2 : TbP W1 g (.slice pp k pc) (tabL ws (l.take (k + 1))) ((l.take k).map fun a => (a, toA ws l a)) := by
          rw [htk, ← tabL_snoc hnm s3, ← hqq]
          exact hTM
        have HPS := hide (show (l.take (k + 1)).map (fun a => (a, toA ws l a)) = ((l.take k).map fun a => (a, toA ws l a)) ++ [((p : Int), (q : Int))] by rw [htk, List.map_append, List.map_cons, List.map_nil, hat, hqq])
        have hlk : ((l.take k).map fun a => (a, toA ws l a)).length = k := by rw [List.length_map, List.length_take]; omega
        have HTM := hide hTM2
        have hcl2 : W1.cell? ⟨bt, ot + k, none⟩ = some (.int .i64 (p : Int)) := by
          have hx : Below w1.heap.size w1 W1 := by rw [← unhide HG]; exact hb1
          exact (hx.cell (World.block_lt_of_cell? _ _ ht0)).trans ht0
        have htw := (hbr'.cell (World.block_lt_of_cell? _ _ ht0)).trans ht0
        have HCW := hide (fun (W : World) (hW : Below g w1 W) => (show W.cell? ⟨bt, ot + k, none⟩ = some (.int .i64 (p : Int)) ∧ W.cell? ⟨bk, off + p, none⟩ = some (.int .u32 (wd ws p)) from by
          have hx : Below w1.heap.size w1 W := by rw [← unhide HG]; exact hW
          exact ⟨(hx.cell (World.block_lt_of_cell? _ _ ht0)).trans ht0, (((unhide HB1).trans (hx.mono (unhide HB1).size)).cell (World.block_lt_of_cell? _ _ hw0)).trans hw0⟩))
        have HB1' := hide hb1
        have HOX := hide (show (W1.alloc (.cells #[.int .i64 (p : Int), .int .i64 (q : Int)] 36)).ownsRow (g + 1) 36 2 (.slice pp k pc) k (posC ((l.take k).map fun a => (a, toA ws l a))) from ownsV_keep (F := fun _ => False) (by have := hTM2.own; rw [hlk] at this; exact this) (Keep.of_below ((Below.refl _ _).alloc (Nat.le_refl _) _)) (fun _ _ => id))
        have HGS := hide (show g + 1 ≤ (W1.alloc (.cells #[.int .i64 (p : Int), .int .i64 (q : Int)] 36)).heap.size by rw [World.size_alloc]; have := (Array.getElem?_eq_some_iff.1 hTM2.blk).1; omega)
        have HLK := hide hlk
        have HLT := hide hlt
        obtain ⟨PC, hPC⟩ : ∃ PC, PC = posC ((l.take k).map fun a => (a, toA ws l a)) := ⟨_, rfl⟩
        rw [← hPC] at HOX
        have HPC := hide hPC
        have hW1' := hW1
        generalize wd ws p = x at *
        clear hbr' hbw e8 htl hob s1 s2 s3 s4 hp htk hat hnm e6 hwl hw0 hall hsum hsl hqq hTM hb1 hTM2 hlk hlt ht0 hT hbr hk hq hPC hsA
        go_upto_region 11 with fail
        rw [← hW1]
        clear hW1 hW1' hcl hfz htw
        go_wp2_with (first
          | (at_builtin; refine wpList_append_gen rfl _ _ 27 rfl (g + 1) 36 i1 (.agg #[.int .i64 0, .int .i64 0]) Try.underlying27 hi1 hy0 2 16 (by omega) hy1 hy2 rfl (.slice pp k pc) k PC rfl (unhide HOX) ⟨W1.heap.size, 0, none⟩ 1 1 [.int .i64 (p : Int), .int .i64 (q : Int)] rfl rfl cell_two (by intro u hu; simp at hu; rcases hu with rfl | rfl <;> rfl) (by have := unhide HLL; have := unhide HLT; unfold maxLen; omega) (by have := unhide HLL; have := unhide HLT; omega) (unhide HGS) ?_))
        intro v6 w6 hown6 hgrow6 hob6
        have hps := (unhide HTM).push (x := ((p : Int), (q : Int))) (by rw [unhide HLK, ← unhide HPC]; exact hown6) hgrow6
        rw [← unhide HPS] at hps
        obtain ⟨p6, c6, rfl⟩ := ownsV_shape hown6
        have HF := hide hps.1
        have HB6 := hide ((unhide HB1').trans (hps.2.mono (Nat.le_succ _)))
        obtain ⟨d0, d1⟩ := unhide HCW w6 (unhide HB6)
        clear hps hown6 hgrow6 hob6 hcl2
        go_wp2_with fail
        refine Calls.mono (unhide HSZ _) ?_
        rintro e w7 ⟨rfl, rfl⟩
        go_wp2_with fail
        go_roundw
        case rel => exact ⟨k + 1, _, p6, c6, by go_num, rfl, rfl, unhide HLT, unhide HQ2, unhide HF, unhide HB6⟩
        case measure => (have := unhide HLT; simp [intOf]; omega)
      · have hke : k = l.length := by omega
        subst hke
        have hge : ¬ (l.length : Int) < (l.length : Int) := by omega
        rw [List.take_length] at hT
        have hbr' : Below w1.heap.size w1 wr := by rw [← unhide HG]; exact unhide hbr
        have HBW := hide ((unhide HB1).trans (hbr'.mono (unhide HB1).size))
        have HBR := hide hbr'
        have HTT := hide (unhide hT)
        have HGL := hide (show g < wr.heap.size from (Array.getElem?_eq_some_iff.1 (unhide hT).blk).1)
        have HO0 := hide (show (wr.alloc (.cells #[.int .u32 0] 25)).ownsRow wr.heap.size 25 1 (.slice (some ⟨wr.heap.size, 0, none⟩) 1 1) 1 (Uw [0]) from ⟨rfl, Or.inr ⟨wr.heap.size, 1, _, rfl, Nat.le_refl _, World.alloc_heap_new wr _, Nat.le_refl _, by unfold maxLen; omega, rfl, rfl⟩⟩)
        have HBA := hide (show Below wr.heap.size wr (wr.alloc (.cells #[.int .u32 0] 25)) from (Below.refl _ _).alloc (Nat.le_refl _) _)
        clear hlt hk hkw hq hT hbr hbr'
        rename World => wa
        go_wp2_with fail
        go_loopw [14, 15] (fun ov iv wz => ∃ (i : Nat) (po : Option Addr) (pq : Nat) (xs : List Int), iv = .int .i64 (i : Int) ∧ ov = .slice po xs.length pq ∧ i ≤ l.length ∧ Hid (xs = layW ((l.take i).map (obT ws (toA ws l))) ∧ wz.ownsRow wa.heap.size 25 1 (.slice po xs.length pq) xs.length (Uw xs)) ∧ Hid (Below wa.heap.size wa wz)) (fun _ iv _ => l.length - (intOf iv).toNat)
        case atStart => exact ⟨0, _, 1, [0], rfl, rfl, Nat.zero_le _, ⟨rfl, unhide HO0⟩, unhide HBA⟩
        case round =>
          clear HO0 HBA
          obtain ⟨i, po, pq, xs, rfl, rfl, hi9, hX, hbz⟩ := hrel
          have hiw : IntKind.i64.wrap ((i : Int) + 1) = (i : Int) + 1 := by have := unhide HLL; rw [IntKind.wrap_i64]; omega
          by_cases hlt : i < l.length
          · have hiI : (i : Int) < (l.length : Int) := by omega
            obtain ⟨bt, ot, ct, e9, _, _, htl⟩ := (unhide HV1).open (by intro e; have := congrArg List.length e; simp at this; rw [this] at hlt; simp at hlt)
            simp only [Value.slice.injEq, List.length_map] at e9
            obtain ⟨rfl, e8, rfl⟩ := e9
            have ht0 := htl i (.int .i64 l[i]) (by rw [List.getElem?_map, List.getElem?_eq_getElem hlt]; rfl)
            have hob := (unhide HV).ob l[i] (List.getElem_mem hlt)
            have hcl := (unhide HV).closed l[i] (List.getElem_mem hlt)
            obtain ⟨s1, s2, s3, s4⟩ := isOb_size hob
            obtain ⟨p, hp⟩ : ∃ p : Nat, (p : Int) = l[i] := ⟨_, s4⟩
            have htk := List.take_succ_eq_append_getElem hlt
            rw [← hp] at ht0 s1 s2 s3 htk hob hcl
            simp only [Int.toNat_natCast] at s1 s2 s3
            have hpI : (p : Int) < (ws.length : Int) := by omega
            obtain ⟨bk, off, cz, e5, _, _, hwl⟩ := (unhide HS).open (by intro e; have := congrArg List.length e; simp at this; rw [this] at s3; simp at s3)
            simp only [Value.slice.injEq, List.length_map] at e5
            obtain ⟨rfl, e6, rfl⟩ := e5
            have hw0 := hwl p _ (by rw [List.getElem?_map, wd_get s3]; rfl)
            obtain ⟨u0, u1⟩ := (unhide HU).wd p
            have HSZ := hide (fun w => rsize_t (wd ws p) w u0 u1)
            have HPT := hide (fun w => rptrs_t (wd ws p) w u0 u1)
            have hsA : wd ws p / 4096 = ((szA ws (p : Int) : Nat) : Int) := by unfold szA; rw [Int.toNat_natCast]; exact (szN_int u0).symm
            have hpA := ptN_int (wd ws p)
            have HCW := hide (fun (W : World) (hW : Below wa.heap.size wa W) => (show W.cell? ⟨bt, ot + i, none⟩ = some (.int .i64 (p : Int)) ∧ W.cell? ⟨bk, off + p, none⟩ = some (.int .u32 (wd ws p)) ∧ (∀ j, p + 1 + j < ws.length → W.cell? ⟨bk, off + (p + 1 + j), none⟩ = some (.int .u32 (wd ws (p + 1 + j)))) ∧ ∀ v : Nat, v < ws.length → W.cell? ⟨g, v, none⟩ = some (.int .i64 (toA ws l (v : Int))) from by
              have hx : Below w1.heap.size w1 W := (unhide HBR).trans (hW.mono (unhide HBR).size)
              have hy : Below w.heap.size w W := (unhide HB1).trans (hx.mono (unhide HB1).size)
              refine ⟨(hx.cell (World.block_lt_of_cell? _ _ ht0)).trans ht0, (hy.cell (World.block_lt_of_cell? _ _ hw0)).trans hw0, fun j hj => ?_, fun v hv => ?_⟩
              · have h1 := hwl (p + 1 + j) _ (by rw [List.getElem?_map, wd_get hj]; rfl)
                exact (hy.cell (World.block_lt_of_cell? _ _ h1)).trans h1
              · have h1 := (unhide HTT).cell (tabL_get (ws := ws) (M := l) hv)
                exact (hW.cell (World.block_lt_of_cell? _ _ h1)).trans h1))
            obtain ⟨c0, c1, c2, c3⟩ := unhide HCW wr (unhide hbz)
            have hxe := (unhide hX).1
            have hlay : xs.length = 1 + sums ws (l.take i) := by rw [hxe]; exact lay_len (unhide HU) (fun x hx => (unhide HV).ob x (List.mem_of_mem_take hx))
            have hall := (unhide HV).all (unhide HWL).1
            have hsl : sums ws (l.take i) + szA ws (p : Int) ≤ sums ws l := by
              have h1 : sums ws l = sums ws (l.take (i + 1)) + sums ws (l.drop (i + 1)) := by rw [← sums_app, List.take_append_drop]
              rw [htk, sums_app] at h1
              simp only [sums] at h1
              omega
            obtain ⟨g1, g2, g3⟩ := obT_good (unhide HU) (t := toA ws l) hob
            have hw1' : (wrdO (obT ws (toA ws l) (p : Int)))[0]? = some (wd ws p) := by
              rw [wrdO_good g1, g2, Int.toNat_natCast]; rfl
            have HWT := hide (fun j y (h : (wrdO (obT ws (toA ws l) (p : Int)))[j]? = some y) => wrd_take h)
            have HW0 := hide hw1'
            have HWG := hide (fun j (hj : j + 1 < szA ws (p : Int)) => wrd_get (unhide HV) (p := p) rfl hob hj)
            have HPC := hide (show ∀ j, j < ptN (wd ws p) → ∃ v : Nat, v < ws.length ∧ (v : Int) = wd ws (p + 1 + j) from fun j hj => by
              have h1 := ptsA_get hob (k := j) (by rw [Int.toNat_natCast]; exact hj)
              rw [Int.toNat_natCast] at h1
              rcases hcl _ (List.mem_of_getElem? h1) with h2 | h2
              · exact ⟨0, by have := (unhide HWL).1; omega, by omega⟩
              · have h3 := ((unhide HV).ob _ h2)
                have h4 := h3.1
                have h5 := h3.2.1
                exact ⟨(wd ws (p + 1 + j)).toNat, by omega, by omega⟩)
            have HXS := hide (show layW ((l.take (i + 1)).map (obT ws (toA ws l))) = xs ++ wrdO (obT ws (toA ws l) (p : Int)) by rw [htk, lay_snoc', hxe])
            have HGN := hide (show (wrdO (obT ws (toA ws l) (p : Int))).length = szA ws (p : Int) ∧ 0 < szA ws (p : Int) ∧ xs.length + szA ws (p : Int) ≤ 1048577 ∧ p + szA ws (p : Int) ≤ ws.length ∧ ptN (wd ws p) < szA ws (p : Int) from ⟨g3, by unfold szA; rw [Int.toNat_natCast]; omega, by have := (unhide HWL).2.1; omega, by unfold szA; rw [Int.toNat_natCast]; omega, by unfold szA; rw [Int.toNat_natCast]; exact s1⟩)
            have HXL := hide (show xs.length ≤ 1048577 by have := (unhide HGN).2.2.1; omega)
            have HLT := hide hlt
            have HBZ := hide (unhide hbz)
            have HOX := hide (show (wr.alloc (.cells #[.int .u32 (wd ws p)] 25)).ownsRow wa.heap.size 25 1 (.slice po xs.length pq) xs.length (Uw xs) from ownsV_keep (F := fun _ => False) (unhide hX).2 (Keep.of_below ((Below.refl _ _).alloc (Nat.le_refl _) _)) (fun _ _ => id))
            have HNW := hide (show ∀ (j : Nat) (u : Value), [Value.int .u32 (wd ws p)][j]? = some u → (wr.alloc (.cells #[.int .u32 (wd ws p)] 25)).cell? ((⟨wr.heap.size, 0, none⟩ : Addr).add j) = some u from fun j u hj => by match j, hj with | 0, hj => (simp at hj; subst hj; simp [Addr.add]))
            have HGS := hide (show wa.heap.size ≤ (wr.alloc (.cells #[.int .u32 (wd ws p)] 25)).heap.size by rw [World.size_alloc]; have := (unhide hbz).size; omega)
            have HXO := hide (unhide hX).2
            have HSA := hide (And.intro hsA hpA)
            clear htl ht0 e8 hob hcl s1 s2 s3 s4 hp htk e6 hwl hw0 hxe hlay hall hsl g1 g2 g3 hw1' hX hbz hlt hi9 hsA hpA c2 c3
            generalize hxx : wd ws p = x at *
            have HXX := hide hxx
            clear hxx
            go_wp2_with (first
              | (at_builtin; refine wpList_append_gen rfl _ _ 22 rfl wa.heap.size 25 i2 (.int .u32 0) Try.underlying22 hi2 hx0 1 4 (by omega) hx1 hx2 rfl (.slice po xs.length pq) xs.length (Uw xs) rfl (unhide HOX) ⟨wr.heap.size, 0, none⟩ 1 1 [.int .u32 x] rfl rfl (unhide HNW) (by intro u hu; simp at hu; subst hu; rfl) (by have := unhide HXL; unfold maxLen; omega) (by have := unhide HXL; omega) (unhide HGS) ?_))
            intro v5 w5 hown5 hgrow5 hob5
            have hb5 := (unhide HBZ).trans (own_push (unhide HXO) (unhide HBZ).size (Nat.le_refl _) hgrow5)
            obtain ⟨p5, c5, rfl⟩ := ownsV_shape hown5
            have HO5 := hide (show w5.ownsRow wa.heap.size 25 1 (.slice p5 (xs.length + 1) c5) (xs ++ [x]).length (Uw (xs ++ [x])) by simpa using hown5)
            have HB5 := hide hb5
            clear hown5 hgrow5 hob5 hb5 HOX HNW HGS HXO HBZ c0 c1
            go_wp2_with fail
            go_loopw [14, 17] (fun ov kv wz => ∃ (j : Nat) (po : Option Addr) (pq : Nat) (ys : List Int), kv = .int .i64 ((j : Int) + 1) ∧ ov = .slice po ys.length pq ∧ j + 1 ≤ szA ws (p : Int) ∧ Hid (ys = xs ++ (wrdO (obT ws (toA ws l) (p : Int))).take (j + 1) ∧ wz.ownsRow wa.heap.size 25 1 (.slice po ys.length pq) ys.length (Uw ys)) ∧ Hid (Below wa.heap.size wa wz)) (fun _ kv _ => szA ws (p : Int) - (intOf kv).toNat)
            case atStart =>
              have hyl8 : (xs ++ [x]).length = xs.length + 1 := by simp
              refine ⟨0, p5, c5, xs ++ [x], by go_num, by rw [hyl8], (unhide HGN).2.1, ⟨?_, ?_⟩, unhide HB5⟩
              · have h1 := unhide HWT 0 _ (unhide HW0)
                rw [h1]; simp
              · rw [hyl8]; have h1 := unhide HO5; rw [hyl8] at h1; exact h1
            case round =>
              clear HO5 HB5
              obtain ⟨j, po, pq, ys, rfl, rfl, hj, hY, hbz⟩ := hrel
              obtain ⟨c0, c1, c2, c3⟩ := unhide HCW wr (unhide hbz)
              obtain ⟨hsA, hpA⟩ := unhide HSA
              have HYO := hide (unhide hY).2
              have HYE := hide (unhide hY).1
              have HBZ := hide (unhide hbz)
              have hjw : IntKind.i64.wrap ((j : Int) + 1 + 1) = (j : Int) + 1 + 1 := by have := (unhide HGN).2.2.2.1; have := (unhide HWL).2.1; rw [IntKind.wrap_i64]; omega
              by_cases hlt : j + 1 < szA ws (p : Int)
              · have hltI : (j : Int) + 1 < x / 4096 := by rw [hsA]; omega
                have hpj : p + 1 + j < ws.length := by have := (unhide HGN).2.2.2.1; omega
                have hpw : IntKind.i64.wrap ((p : Int) + ((j : Int) + 1)) = ((p + 1 + j : Nat) : Int) := by have := (unhide HWL).2.1; rw [IntKind.wrap_i64]; omega
                have hpjI : ((p + 1 + j : Nat) : Int) < (ws.length : Int) := by omega
                have hcj := c2 j hpj
                have hwg := unhide HWG j hlt
                have HYL := hide (show ys.length ≤ 1048577 by
                  rw [unhide HYE, List.length_append, List.length_take]
                  have := (unhide HGN).2.2.1
                  have : min (j + 1) (wrdO (obT ws (toA ws l) (p : Int))).length ≤ j + 1 := Nat.min_le_left _ _
                  omega)
                have HLJ := hide (show j + 1 + 1 ≤ szA ws (p : Int) from hlt)
                obtain ⟨y0, y1⟩ := (unhide HU).wd (p + 1 + j)
                obtain ⟨q9, hq9⟩ : ∃ q9 : Nat, q9 = p + 1 + j := ⟨_, rfl⟩
                rw [← hq9] at hpw hpjI hcj hwg y0 y1
                by_cases hpt : j < ptN x
                · rw [if_pos hpt] at hwg
                  have hle : (j : Int) + 1 ≤ x / 16 % 256 := by rw [← hpA]; omega
                  obtain ⟨v, hv, hve⟩ := unhide HPC j hpt
                  rw [← hq9] at hve
                  rw [← hve] at hcj hwg y0 y1
                  have hcv := c3 v hv
                  have hvI : (v : Int) < (ws.length : Int) := by omega
                  obtain ⟨t0, t1⟩ := (unhide HV).to_bound (v : Int)
                  have HYN := hide (show ys ++ [toA ws l (v : Int)] = xs ++ (wrdO (obT ws (toA ws l) (p : Int))).take (j + 1 + 1) by rw [unhide HWT (j + 1) _ hwg, unhide HYE, List.append_assoc])
                  generalize toA ws l (v : Int) = y at *
                  have hyw : IntKind.u32.wrap y = y := by rw [IntKind.wrap_u32]; omega
                  have HOX := hide (show (wr.alloc (.cells #[.int .u32 y] 25)).ownsRow wa.heap.size 25 1 (.slice po ys.length pq) ys.length (Uw ys) from ownsV_keep (F := fun _ => False) (unhide HYO) (Keep.of_below ((Below.refl _ _).alloc (Nat.le_refl _) _)) (fun _ _ => id))
                  have HNW := hide (show ∀ (i : Nat) (u : Value), [Value.int .u32 y][i]? = some u → (wr.alloc (.cells #[.int .u32 y] 25)).cell? ((⟨wr.heap.size, 0, none⟩ : Addr).add i) = some u from fun i u hi => by match i, hi with | 0, hi => (simp at hi; subst hi; simp [Addr.add]))
                  have HGS := hide (show wa.heap.size ≤ (wr.alloc (.cells #[.int .u32 y] 25)).heap.size by rw [World.size_alloc]; have := (unhide HBZ).size; omega)
                  clear hY hbz hwg hlt hj hpj hve hq9 c2 c3 hsA hpA hpt hv
                  go_wp2_with fail
                  refine Calls.mono (unhide HSZ _) ?_
                  rintro e w6 ⟨rfl, hw6⟩
                  subst hw6
                  go_wp2_with fail
                  refine Calls.mono (unhide HPT _) ?_
                  rintro e w7 ⟨rfl, hw7⟩
                  subst hw7
                  go_wp2_with (first
                    | (at_builtin; refine wpList_append_gen rfl _ _ 22 rfl wa.heap.size 25 i2 (.int .u32 0) Try.underlying22 hi2 hx0 1 4 (by omega) hx1 hx2 rfl (.slice po ys.length pq) ys.length (Uw ys) rfl (unhide HOX) ⟨w7.heap.size, 0, none⟩ 1 1 [.int .u32 y] rfl rfl (unhide HNW) (by intro u hu; simp at hu; subst hu; rfl) (by have := unhide HYL; unfold maxLen; omega) (by have := unhide HYL; omega) (unhide HGS) ?_))
                  intro v8 w8 hown8 hgrow8 hob8
                  have hb8 := (unhide HBZ).trans (own_push (unhide HYO) (unhide HBZ).size (Nat.le_refl _) hgrow8)
                  obtain ⟨p8, c8, rfl⟩ := ownsV_shape hown8
                  have HO8 := hide (show w8.ownsRow wa.heap.size 25 1 (.slice p8 (ys.length + 1) c8) (ys ++ [y]).length (Uw (ys ++ [y])) by simpa using hown8)
                  have HB8 := hide hb8
                  have hyl8 : (ys ++ [y]).length = ys.length + 1 := by simp
                  have HY8 := hide hyl8
                  clear hown8 hgrow8 hob8 hb8 hyl8
                  go_wp2_with fail
                  go_roundw
                  case rel => exact ⟨j + 1, p8, c8, ys ++ [y], by go_num, by rw [unhide HY8], unhide HLJ, ⟨unhide HYN, by rw [unhide HY8]; rw [unhide HY8] at HO8; exact unhide HO8⟩, unhide HB8⟩
                  case measure => (have := unhide HLJ; simp [intOf]; omega)
                · rw [if_neg hpt] at hwg
                  have hle : ¬ (j : Int) + 1 ≤ x / 16 % 256 := by rw [← hpA]; omega
                  have HYN := hide (show ys ++ [wd ws q9] = xs ++ (wrdO (obT ws (toA ws l) (p : Int))).take (j + 1 + 1) by rw [unhide HWT (j + 1) _ hwg, unhide HYE, List.append_assoc])
                  generalize wd ws q9 = y at *
                  have HOX := hide (show (wr.alloc (.cells #[.int .u32 y] 25)).ownsRow wa.heap.size 25 1 (.slice po ys.length pq) ys.length (Uw ys) from ownsV_keep (F := fun _ => False) (unhide HYO) (Keep.of_below ((Below.refl _ _).alloc (Nat.le_refl _) _)) (fun _ _ => id))
                  have HNW := hide (show ∀ (i : Nat) (u : Value), [Value.int .u32 y][i]? = some u → (wr.alloc (.cells #[.int .u32 y] 25)).cell? ((⟨wr.heap.size, 0, none⟩ : Addr).add i) = some u from fun i u hi => by match i, hi with | 0, hi => (simp at hi; subst hi; simp [Addr.add]))
                  have HGS := hide (show wa.heap.size ≤ (wr.alloc (.cells #[.int .u32 y] 25)).heap.size by rw [World.size_alloc]; have := (unhide HBZ).size; omega)
                  clear hY hbz hwg hlt hj hpj hq9 c2 c3 hsA hpA hpt
                  go_wp2_with fail
                  refine Calls.mono (unhide HSZ _) ?_
                  rintro e w6 ⟨rfl, hw6⟩
                  subst hw6
                  go_wp2_with fail
                  refine Calls.mono (unhide HPT _) ?_
                  rintro e w7 ⟨rfl, hw7⟩
                  subst hw7
                  go_wp2_with (first
                    | (at_builtin; refine wpList_append_gen rfl _ _ 22 rfl wa.heap.size 25 i2 (.int .u32 0) Try.underlying22 hi2 hx0 1 4 (by omega) hx1 hx2 rfl (.slice po ys.length pq) ys.length (Uw ys) rfl (unhide HOX) ⟨w7.heap.size, 0, none⟩ 1 1 [.int .u32 y] rfl rfl (unhide HNW) (by intro u hu; simp at hu; subst hu; rfl) (by have := unhide HYL; unfold maxLen; omega) (by have := unhide HYL; omega) (unhide HGS) ?_))
                  intro v8 w8 hown8 hgrow8 hob8
                  have hb8 := (unhide HBZ).trans (own_push (unhide HYO) (unhide HBZ).size (Nat.le_refl _) hgrow8)
                  obtain ⟨p8, c8, rfl⟩ := ownsV_shape hown8
                  have HO8 := hide (show w8.ownsRow wa.heap.size 25 1 (.slice p8 (ys.length + 1) c8) (ys ++ [y]).length (Uw (ys ++ [y])) by simpa using hown8)
                  have HB8 := hide hb8
                  have hyl8 : (ys ++ [y]).length = ys.length + 1 := by simp
                  have HY8 := hide hyl8
                  clear hown8 hgrow8 hob8 hb8 hyl8
                  go_wp2_with fail
                  go_roundw
                  case rel => exact ⟨j + 1, p8, c8, ys ++ [y], by go_num, by rw [unhide HY8], unhide HLJ, ⟨unhide HYN, by rw [unhide HY8]; rw [unhide HY8] at HO8; exact unhide HO8⟩, unhide HB8⟩
                  case measure => (have := unhide HLJ; simp [intOf]; omega)
              · have hltI : ¬ (j : Int) + 1 < x / 4096 := by rw [hsA]; omega
                have hje : j + 1 = szA ws (p : Int) := by omega
                have HE := hide (show ys = layW ((l.take (i + 1)).map (obT ws (toA ws l))) by
                  rw [unhide HXS, unhide HYE, hje, ← (unhide HGN).1, List.take_length])
                clear hY hbz hlt hj hjw hje c0 c1 c2 c3 hsA hpA
                go_wp2_with fail
                refine Calls.mono (unhide HSZ _) ?_
                rintro e w6 ⟨rfl, hw6⟩
                subst hw6
                go_wp2_with fail
                go_roundw
                case rel => exact ⟨i + 1, po, pq, ys, by go_num, rfl, unhide HLT, ⟨unhide HE, unhide HYO⟩, unhide HBZ⟩
                case measure => (have := unhide HLT; simp [intOf]; omega)
          · have hie : i = l.length := by omega
            subst hie
            have hge2 : ¬ (l.length : Int) < (l.length : Int) := by omega
            rw [List.take_length] at hX
            have HXE := hide (unhide hX).1
            have HXO := hide (unhide hX).2
            have HBZ := hide (unhide hbz)
            have HTW := hide (show ∀ W, Below wr.heap.size wr W → (∀ (j : Nat) (u : Value), (Iw rs)[j]? = some u → True) ∧ VRow W (.slice a' rs.length cap') (Iw rs) ∧ ∀ v : Nat, v < ws.length → W.cell? ⟨g, v, none⟩ = some (.int .i64 (toA ws l (v : Int))) from fun W hW => by
              have hz : Below wa.heap.size wa W := (unhide hbz).trans (hW.mono (unhide hbz).size)
              have hx : Below w1.heap.size w1 W := (unhide HBR).trans (hz.mono (unhide HBR).size)
              have hy : Below w.heap.size w W := (unhide HB1).trans (hx.mono (unhide HB1).size)
              refine ⟨fun _ _ _ => trivial, (unhide HT).below hy, fun v hv => ?_⟩
              have h1 := (unhide HTT).cell (tabL_get (ws := ws) (M := l) hv)
              exact (hz.cell (World.block_lt_of_cell? _ _ h1)).trans h1)
            clear hX hbz hlt hi9 hiw
            rename World => wb
            go_wp2_with fail
            go_loopw [19, 20] (fun rv iv wz => ∃ (i : Nat) (pr : Option Addr) (pq' : Nat), iv = .int .i64 (i : Int) ∧ rv = .slice pr i pq' ∧ i ≤ rs.length ∧ Hid (wz.ownsRow wb.heap.size 3 1 (.slice pr i pq') i (Iw ((rs.take i).map (toA ws l)))) ∧ Hid (Below wb.heap.size wb wz)) (fun _ iv _ => rs.length - (intOf iv).toNat)
            case atStart => exact ⟨0, none, 0, rfl, rfl, Nat.zero_le _, World.ownsRow_nil _ _ _ _, Below.refl _ _⟩
            case round =>
              obtain ⟨i, pr, pq', rfl, rfl, hi9, hR9, hbz⟩ := hrel
              obtain ⟨_, c1, c2⟩ := unhide HTW wr (unhide hbz)
              have hiw : IntKind.i64.wrap ((i : Int) + 1) = (i : Int) + 1 := by have := (unhide HWL).2.2; rw [IntKind.wrap_i64]; omega
              by_cases hlt : i < rs.length
              · have hiI : (i : Int) < (rs.length : Int) := by omega
                obtain ⟨bt, ot, ct, e9, _, _, htl⟩ := c1.open (by intro e; have := congrArg List.length e; simp at this; rw [this] at hlt; simp at hlt)
                simp only [Value.slice.injEq, List.length_map] at e9
                obtain ⟨rfl, e8, rfl⟩ := e9
                have ht0 := htl i (.int .i64 rs[i]) (by rw [List.getElem?_map, List.getElem?_eq_getElem hlt]; rfl)
                obtain ⟨v, hv, hve⟩ : ∃ v : Nat, v < ws.length ∧ (v : Int) = rs[i] := by
                  rcases unhide HPL rs[i] (List.getElem_mem hlt) with h | h
                  · exact ⟨0, by have := (unhide HWL).1; omega, by omega⟩
                  · have h4 := h.1
                    have h5 := h.2.1
                    exact ⟨rs[i].toNat, by omega, by omega⟩
                have hcv := c2 v hv
                have hvI : (v : Int) < (ws.length : Int) := by omega
                have htk : (rs.take (i + 1)).map (toA ws l) = (rs.take i).map (toA ws l) ++ [toA ws l (v : Int)] := by rw [List.take_succ_eq_append_getElem hlt, List.map_append, List.map_cons, List.map_nil, ← hve]
                rw [← hve] at ht0
                have HTK := hide htk
                have HLT := hide hlt
                have HBZ2 := hide (unhide hbz)
                have HRO := hide (unhide hR9)
                generalize toA ws l (v : Int) = y at *
                have HOX := hide (show (wr.alloc (.cells #[.int .i64 y] 3)).ownsRow wb.heap.size 3 1 (.slice pr i pq') i (Iw ((rs.take i).map (toA ws l))) from ownsV_keep (F := fun _ => False) (unhide hR9) (Keep.of_below ((Below.refl _ _).alloc (Nat.le_refl _) _)) (fun _ _ => id))
                have HNW := hide (show ∀ (i : Nat) (u : Value), [Value.int .i64 y][i]? = some u → (wr.alloc (.cells #[.int .i64 y] 3)).cell? ((⟨wr.heap.size, 0, none⟩ : Addr).add i) = some u from fun i u hi => by match i, hi with | 0, hi => (simp at hi; subst hi; simp [Addr.add]))
                have HGS := hide (show wb.heap.size ≤ (wr.alloc (.cells #[.int .i64 y] 3)).heap.size by rw [World.size_alloc]; have := (unhide hbz).size; omega)
                obtain ⟨RL, hRL⟩ : ∃ RL, RL = (rs.take i).map (toA ws l) := ⟨_, rfl⟩
                rw [← hRL] at HTK HRO HOX
                have HR4 := hide (unhide HWL).2.2
                clear htl e8 hve htk hR9 hbz hlt hi9 c1 c2 hv hRL
                go_wp2_with (first
                  | (at_builtin; refine wpList_append_gen rfl _ _ 23 rfl wb.heap.size 3 i0 (.int .i64 0) Try.underlying23 hi hz0 1 8 (by omega) hz1 hz2 rfl (.slice pr i pq') i (Iw RL) rfl (unhide HOX) ⟨wr.heap.size, 0, none⟩ 1 1 [.int .i64 y] rfl rfl (unhide HNW) (by intro u hu; simp at hu; subst hu; rfl) (by have := unhide HLT; have := unhide HR4; unfold maxLen; omega) (by have := unhide HLT; have := unhide HR4; omega) (unhide HGS) ?_))
                intro v8 w8 hown8 hgrow8 hob8
                have hb8 := (unhide HBZ2).trans (own_push (unhide HRO) (unhide HBZ2).size (Nat.le_refl _) hgrow8)
                obtain ⟨p8, c8, rfl⟩ := ownsV_shape hown8
                have HO8 := hide (show w8.ownsRow wb.heap.size 3 1 (.slice p8 (i + 1) c8) (i + 1) (Iw ((rs.take (i + 1)).map (toA ws l))) by rw [unhide HTK]; simpa using hown8)
                have HB8 := hide hb8
                clear hown8 hgrow8 hob8 hb8
                go_wp2_with fail
                go_roundw
                case rel => exact ⟨i + 1, p8, c8, by go_num, rfl, unhide HLT, unhide HO8, unhide HB8⟩
                case measure => (have := unhide HLT; simp [intOf]; omega)
              · have hie : i = rs.length := by omega
                subst hie
                have hge3 : ¬ (rs.length : Int) < (rs.length : Int) := by omega
                rw [List.take_length] at hR9
                have hbW : Below w.heap.size w wb := (unhide HBW).trans ((unhide HBZ).mono (unhide HBW).size)
                have HE := hide (show LivD ws rs l ∧ CmpD wr w.heap.size ws rs l (.slice po xs.length pq) (.slice pr rs.length pq') (.slice pp l.length pc) ∧ Below w.heap.size w wr from by
                  refine ⟨unhide HLI, ?_, hbW.trans ((unhide hbz).mono hbW.size)⟩
                  unfold CmpD outW outR outP
                  rw [if_pos (unhide HR), if_pos (unhide HR), if_pos (unhide HR)]
                  have e1 : xs = cW ws l := unhide HXE
                  have e2 : (cR ws l rs).length = rs.length := by unfold cR; rw [List.length_map]
                  have e3 : (posL ws l).length = l.length := by unfold posL; rw [List.length_map]
                  rw [e2, e3, ← e1]
                  have hz1 := (unhide HBZ).trans ((unhide hbz).mono (unhide HBZ).size)
                  refine ⟨ownsRow_base_a (ownsV_keep (F := fun _ => False) (unhide HXO) (Keep.of_below ((unhide hbz))) (fun _ _ => id)) (unhide HBW).size, ownsRow_base_a (unhide hR9) hbW.size, ?_⟩
                  have h9 := (unhide HTT).own
                  rw [show ((l.map fun a => (a, toA ws l a)) : List (Int × Int)).length = l.length by rw [List.length_map]] at h9
                  refine ownsRow_base_a (ownsV_keep (F := fun _ => False) h9 (Keep.of_below hz1) (fun _ _ => id)) ?_
                  have h1 := (unhide HB1).size
                  have h2 := unhide HG
                  omega)
                clear hR9 hbz hlt hi9 hiw c1 c2 hbW
                go_wp2_with fail
                (try simp only [Exit.inBlock, Exit.then])
                refine bodyPost_ret (results_tmp4 rfl _ _ _) rfl ?_
                exact ⟨_, _, _, rfl, l, unhide HE⟩
end Go.Proofs.Ytegefnchkgkmgaa

/- Rows of places that went; the reference's Follow. -/
namespace Go.Proofs.Ytegefnchkgkmgaa
open Go.RowKit

/-- A slice value that reads as places that went. -/
def PR (w : World) (v : Value) (L : List (Int × Int)) : Prop :=
  ∃ (a : Option Addr) (cap : Nat), v = .slice a L.length cap ∧ L.length ≤ cap ∧ cap ≤ maxLen ∧ (a = none → cap = 0) ∧ (L = [] ∨ ∃ g off, a = some ⟨g, off, none⟩ ∧ ∀ j (h : j < L.length), w.cell? ⟨g, off + j * 2, none⟩ = some (.int .i64 L[j].1) ∧ w.cell? ⟨g, off + j * 2 + 1, none⟩ = some (.int .i64 L[j].2))
theorem PR.below {w w' : World} {v : Value} {L : List (Int × Int)} (h : PR w v L) (hb : Below w.heap.size w w') : PR w' v L := by
  obtain ⟨a, cap, e, h1, h2, h3, h4⟩ := h
  refine ⟨a, cap, e, h1, h2, h3, ?_⟩
  rcases h4 with h4 | ⟨g, off, e2, hc⟩
  · exact Or.inl h4
  · refine Or.inr ⟨g, off, e2, fun j hj => ?_⟩
    obtain ⟨c1, c2⟩ := hc j hj
    exact ⟨(hb.cell (World.block_lt_of_cell? _ _ c1)).trans c1, (hb.cell (World.block_lt_of_cell? _ _ c2)).trans c2⟩
theorem PR.shape {w : World} {v : Value} {L : List (Int × Int)} (h : PR w v L) : ∃ (a : Option Addr) (cap : Nat), v = .slice a L.length cap ∧ L.length ≤ cap ∧ cap ≤ maxLen := by
  obtain ⟨a, cap, e, h1, h2, _⟩ := h
  exact ⟨a, cap, e, h1, h2⟩
theorem PR.open {w : World} {v : Value} {L : List (Int × Int)} (h : PR w v L) (hne : 0 < L.length) : ∃ g off cap, v = .slice (some ⟨g, off, none⟩) L.length cap ∧ ∀ j (h : j < L.length), w.cell? ⟨g, off + j * 2, none⟩ = some (.int .i64 L[j].1) ∧ w.cell? ⟨g, off + j * 2 + 1, none⟩ = some (.int .i64 L[j].2) := by
  obtain ⟨a, cap, e, _, _, _, h4⟩ := h
  rcases h4 with h4 | ⟨g, off, e2, hc⟩
  · rw [h4] at hne; simp at hne
  · exact ⟨g, off, cap, by rw [e, e2], hc⟩
theorem posC_get : ∀ {L : List (Int × Int)} {j : Nat} (h : j < L.length), (posC L)[j * 2]? = some (.int .i64 L[j].1) ∧ (posC L)[j * 2 + 1]? = some (.int .i64 L[j].2)
  | x :: L, 0, _ => by simp [posC]
  | x :: L, j + 1, h => by
    have := posC_get (L := L) (j := j) (by simpa using h)
    have e : posC (x :: L) = .int .i64 x.1 :: .int .i64 x.2 :: posC L := by simp [posC]
    rw [e, show (j + 1) * 2 = j * 2 + 1 + 1 by omega, show j * 2 + 1 + 1 + 1 = j * 2 + 1 + 1 + 1 from rfl]
    simp only [List.getElem?_cons_succ, List.getElem_cons_succ]
    exact this
theorem pr_of_owns {w : World} {base : Nat} {v : Value} {L : List (Int × Int)} (h : w.ownsRow base 36 2 v L.length (posC L)) : PR w v L := by
  rcases h.2 with ⟨h1, h2⟩ | ⟨g, cap, cur, e, a1, a2, a3, a4, a5, a6⟩
  · exact ⟨none, 0, by rw [h1, h2], by omega, Nat.zero_le _, fun _ => rfl, Or.inl (List.length_eq_zero_iff.1 h2)⟩
  · refine ⟨_, cap, e, a3, a4, fun e => (nomatch e), Or.inr ⟨g, 0, rfl, fun j hj => ?_⟩⟩
    have hc : ∀ i u, (posC L)[i]? = some u → w.cell? ⟨g, i, none⟩ = some u := fun i u hu => by
      rw [cell_of_row w g i _ _ (0, 0) a2]
      rw [← a6, List.getElem?_take] at hu
      split at hu
      · simpa using hu
      · cases hu
    obtain ⟨c1, c2⟩ := posC_get hj
    rw [Nat.zero_add]
    exact ⟨hc _ _ c1, hc _ _ c2⟩

theorem fndP_take : ∀ {L : List (Int × Int)} {j : Nat} {a : Int} (h : j < L.length), (∀ x ∈ L.take j, x.1 ≠ a) → fndP L a = if L[j].1 = a then L[j].2 else fndP (L.drop (j + 1)) a
  | x :: L, 0, a, _, _ => by simp [fndP]
  | x :: L, j + 1, a, h, hn => by
    have h1 : x.1 ≠ a := hn x (by simp)
    have ih := fndP_take (L := L) (j := j) (a := a) (by simpa using h) (fun y hy => hn y (by simp [hy]))
    simp only [fndP, if_neg h1]
    simpa using ih

set_option maxHeartbeats 1000000 in
theorem rfollow_any (v : Value) (L : List (Int × Int)) (a : Int) (w : World) (hv : PR w v L) (hl : L.length < 35184372088832) :
    Calls Try.prog 18 #[v, .int .i64 a] w fun e w' => e = .returned (.int .i64 (fndP L a)) ∧ w' = w := by
  have HV := hide hv
  have HL := hide hl
  obtain ⟨pv, cap, rfl, g1, g2⟩ := hv.shape
  clear hv hl g1 g2
  go_enter Try.func18, Try.ntmps18
  go_wp2_with fail
  go_loopw [5] (fun iv wr => ∃ k : Nat, iv = .int .i64 (k : Int) ∧ k ≤ L.length ∧ Hid (∀ x ∈ L.take k, x.1 ≠ a) ∧ wr = w) (fun iv _ => L.length - (intOf iv).toNat)
  case atStart => exact ⟨0, rfl, Nat.zero_le _, by intro x hx; simp at hx, rfl⟩
  case round =>
    obtain ⟨k, rfl, hk, hn, rfl⟩ := hrel
    have hkw : IntKind.i64.wrap ((k : Int) + 1) = (k : Int) + 1 := by have := unhide HL; rw [IntKind.wrap_i64]; omega
    by_cases hlt : k < L.length
    · have hkI : (k : Int) < (L.length : Int) := by omega
      obtain ⟨g, off, cz, e0, hc⟩ := (unhide HV).open (by omega)
      simp only [Value.slice.injEq] at e0
      obtain ⟨rfl, _, rfl⟩ := e0
      obtain ⟨c0, c1⟩ := hc k hlt
      have hf := fndP_take hlt (unhide hn)
      have htk := List.take_succ_eq_append_getElem hlt
      by_cases heq : L[k].1 = a
      · rw [if_pos heq] at hf
        have HF := hide hf
        have hbe : (L[k].1 == a) = true := by simp [heq]
        generalize L[k].1 = x at *
        generalize L[k].2 = y at *
        clear heq hf htk hc hlt hk hn
        go_wp2_with fail
        go_ret
        exact ⟨by rw [unhide HF]; rfl, by first | rfl | trivial⟩
      · have hbe : (L[k].1 == a) = false := by simp [heq]
        have HN := hide (show ∀ x ∈ L.take (k + 1), x.1 ≠ a by
          rw [htk]
          intro x hx
          rcases List.mem_append.1 hx with hx | hx
          · exact unhide hn x hx
          · rw [List.mem_singleton.1 hx]; exact heq)
        have HLT := hide hlt
        generalize L[k].1 = x at *
        clear heq hf htk hc c1 hlt hk hn
        go_wp2_with fail
        go_roundw
        case rel => exact ⟨k + 1, by go_num, unhide HLT, unhide HN, by first | rfl | trivial⟩
        case measure => (have := unhide HLT; simp [intOf]; omega)
    · have hke : k = L.length := by omega
      subst hke
      have hge : ¬ (L.length : Int) < (L.length : Int) := by omega
      rw [List.take_length] at hn
      have HF := hide (fndP_none (unhide hn))
      clear hn hlt hk hkw
      go_wp2_with fail
      go_ret
      exact ⟨by rw [unhide HF]; rfl, by first | rfl | trivial⟩

/-- What is asked of thread.Follow. -/
def AskF : Prop := ∀ (v : Value) (L : List (Int × Int)) (a : Int) (w : World), PR w v L → L.length < 35184372088832 →
  Calls Try.prog 17 #[v, .int .i64 a] w fun e w' => e = .returned (.int .i64 (fndP L a)) ∧ Below w.heap.size w w'
end Go.Proofs.Ytegefnchkgkmgaa

/- The landed package thread: Follow. -/
namespace Go.Proofs.Ytegefnchkgkmgaa
open Go.RowKit

/-- The place of the first one from here. -/
def FIdx (L : List (Int × Int)) (a z : Int) : Prop := (z = -1 ∧ ∀ x ∈ L, x.1 ≠ a) ∨ ∃ k : Nat, ∃ h : k < L.length, z = k ∧ (∀ x ∈ L.take k, x.1 ≠ a) ∧ L[k].1 = a
theorem ent_follow1 (args : Array Value) (w : World) : (callFunc 48 args).run Try.prog w = .ok (.enter 48 args) w := by kernel_rfl
theorem fclos_any (x1 x2 a : Int) (b : Nat) (w : World) (hb : w.cell? ⟨b, 0, none⟩ = some (.int .i64 a)) :
    Calls Try.prog 48 #[.agg #[.int .i64 x1, .int .i64 x2], .pointer (some ⟨b, 0, none⟩)] w fun e w' => e = .returned (.bool (x1 == a)) ∧ Below w.heap.size w w' := by
  have hbb : Below w.heap.size w (w.alloc (.cells #[.int .i64 x1, .int .i64 x2] 36)) := (Below.refl _ _).alloc (Nat.le_refl _) _
  have hb2 := (hbb.cell (World.block_lt_of_cell? _ _ hb)).trans hb
  have HB := hide hbb
  clear hb hbb
  go_enter Try.func48, Try.ntmps48
  go_wp2_with fail
  go_ret
  exact ⟨rfl, unhide HB⟩

set_option maxRecDepth 20000 in
set_option maxHeartbeats 2000000 in
theorem fidx_any (b : Nat) (v : Value) (L : List (Int × Int)) (a : Int) (w : World) (hv : PR w v L) (hl : L.length < 35184372088832) (hb : w.cell? ⟨b, 0, none⟩ = some (.int .i64 a)) :
    Calls Try.prog 47 #[v, .func (.func 48) #[] #[.pointer (some ⟨b, 0, none⟩)]] w fun e w' => ∃ z : Int, e = .returned (.int .i64 z) ∧ FIdx L a z ∧ Below w.heap.size w w' := by
  have HV := hide hv
  have HL := hide hl
  have HB := hide hb
  have hent := ent_follow1
  obtain ⟨pv, cap, rfl, g1, g2⟩ := hv.shape
  obtain ⟨n, hn⟩ : ∃ n, n = L.length := ⟨_, rfl⟩
  have HN := hide hn
  rw [← hn] at HV HL ⊢
  clear hv hl g1 g2 hb hn
  go_enter Try.func47, Try.ntmps47
  go_wp2_with fail
  go_loopw [8] (fun i wr => ∃ k : Nat, k ≤ n ∧ i = .int .i64 (k : Int) ∧ Hid ((∀ x ∈ L.take k, x.1 ≠ a) ∧ Below w.heap.size w wr)) (fun i _ => n - (intOf i).toNat)
  case atStart => exact ⟨0, Nat.zero_le _, rfl, fun x hx => by simp at hx, Below.refl _ _⟩
  case round =>
    obtain ⟨k, hk, rfl, hst⟩ := hrel
    have hkw : IntKind.i64.wrap ((k : Int) + 1) = (k : Int) + 1 := by have := unhide HL; rw [IntKind.wrap_i64]; omega
    by_cases hlt : k < n
    · have hkI : (k : Int) < (n : Int) := by omega
      have hkL : k < L.length := by have := unhide HN; omega
      obtain ⟨hnn, hbb⟩ := unhide hst
      obtain ⟨g, off, cz, e0, hc⟩ := (unhide HV).open (by omega)
      simp only [Value.slice.injEq] at e0
      obtain ⟨rfl, e9, rfl⟩ := e0
      obtain ⟨c0, c1⟩ := hc k hkL
      have d0 := (hbb.cell (World.block_lt_of_cell? _ _ c0)).trans c0
      have d1 := (hbb.cell (World.block_lt_of_cell? _ _ c1)).trans c1
      have db := (hbb.cell (World.block_lt_of_cell? _ _ (unhide HB))).trans (unhide HB)
      have htk := List.take_succ_eq_append_getElem hkL
      have HA := hide (And.intro hnn (And.intro hbb (And.intro htk (And.intro hkL hlt))))
      have HKL := hide hkL
      clear hc c0 c1 e9 hnn hbb htk hlt hst hk
      generalize hx1 : L[k].1 = x1 at *
      generalize L[k].2 = x2 at *
      have HX1 := hide hx1
      clear hx1
      have HCL := hide (fclos_any x1 x2 a b wr db)
      by_cases hxa : x1 = a
      · have hbe : (x1 == a) = true := by simp [hxa]
        rw [hbe] at HCL
        have HXA := hide hxa
        clear hxa
        go_wp2_with fail
        refine Calls.mono (unhide HCL) ?_
        rintro e w2 ⟨rfl, b2⟩
        have HB2 := hide b2
        clear b2
        go_wp2_with fail
        go_ret
        obtain ⟨q1, q2, q3, q4, q5⟩ := unhide HA
        exact ⟨_, rfl, Or.inr ⟨k, q4, rfl, q1, (unhide HX1).trans (unhide HXA)⟩, q2.trans ((unhide HB2).mono q2.size)⟩
      · have hbe : (x1 == a) = false := by simp [hxa]
        rw [hbe] at HCL
        have HXA := hide hxa
        clear hxa
        go_wp2_with fail
        refine Calls.mono (unhide HCL) ?_
        rintro e w2 ⟨rfl, b2⟩
        have HB2 := hide b2
        clear b2
        go_wp2_with fail
        obtain ⟨q1, q2, q3, q4, q5⟩ := unhide HA
        have HN2 := hide (show (∀ x ∈ L.take (k + 1), x.1 ≠ a) ∧ Below w.heap.size w w2 from ⟨by
          rw [q3]
          intro x hx
          rcases List.mem_append.1 hx with hx | hx
          · exact q1 x hx
          · rw [List.mem_singleton.1 hx]; exact fun e => unhide HXA ((unhide HX1).symm.trans e), q2.trans ((unhide HB2).mono q2.size)⟩)
        have HLT := hide q5
        clear q1 q2 q3 q4 q5
        go_roundw
        case rel => exact ⟨k + 1, unhide HLT, by go_num, unhide HN2⟩
        case measure => (have := unhide HLT; simp [intOf]; omega)
    · have hke : k = n := by omega
      subst hke
      have hge : ¬ (k : Int) < (k : Int) := by omega
      have HA := hide (unhide hst)
      clear hst hlt hk hkw
      go_wp2_with fail
      go_ret
      have hA := unhide HA
      rw [unhide HN, List.take_length] at hA
      exact ⟨_, rfl, Or.inl ⟨rfl, hA.1⟩, hA.2⟩

set_option maxRecDepth 20000 in
set_option maxHeartbeats 2000000 in
theorem follow_any (v : Value) (L : List (Int × Int)) (a : Int) (w : World) (hv : PR w v L) (hl : L.length < 35184372088832) :
    Calls Try.prog 17 #[v, .int .i64 a] w fun e w' => e = .returned (.int .i64 (fndP L a)) ∧ Below w.heap.size w w' := by
  have hb1 : Below w.heap.size w (w.alloc (.cells #[.int .i64 a] 3)) := (Below.refl _ _).alloc (Nat.le_refl _) _
  have HC := hide (fidx_any w.heap.size v L a (w.alloc (.cells #[.int .i64 a] 3)) (hv.below hb1) hl (by simp))
  have HB1 := hide hb1
  have HV := hide hv
  obtain ⟨pv, cap, rfl, g1, g2⟩ := hv.shape
  obtain ⟨n, hn⟩ : ∃ n, n = L.length := ⟨_, rfl⟩
  have HN := hide hn
  rw [← hn] at HC HV hl ⊢
  clear hv hb1 g1 g2 hn
  go_enter Try.func17, Try.ntmps17
  go_wp2_with fail
  refine Calls.mono (unhide HC) ?_
  rintro e w2 ⟨z, rfl, hz, b2⟩
  have HB2 := hide ((unhide HB1).trans (b2.mono (unhide HB1).size))
  clear b2
  rcases hz with ⟨rfl, hz⟩ | ⟨k, hk, rfl, hz, hka⟩
  · have HF := hide (fndP_none hz)
    clear hz
    go_wp2_with fail
    go_ret
    exact ⟨by rw [unhide HF]; rfl, unhide HB2⟩
  · have hf := fndP_take hk hz
    rw [if_pos hka] at hf
    have HF := hide hf
    have hkn : (k : Int) < (n : Int) := by have := unhide HN; omega
    obtain ⟨g, off, cz, e0, hc⟩ := (unhide HV).open (by omega)
    simp only [Value.slice.injEq] at e0
    obtain ⟨rfl, e9, rfl⟩ := e0
    obtain ⟨c0, c1⟩ := hc k hk
    have d0 := ((unhide HB2).cell (World.block_lt_of_cell? _ _ c0)).trans c0
    have d1 := ((unhide HB2).cell (World.block_lt_of_cell? _ _ c1)).trans c1
    generalize L[k].1 = x1 at *
    generalize L[k].2 = x2 at *
    clear hf hc c0 c1 e9 hz hka hk
    go_wp2_with fail
    go_ret
    exact ⟨by rw [unhide HF]; rfl, unhide HB2⟩
theorem askF : AskF := fun v L a w hv hl => follow_any v L a w hv hl
end Go.Proofs.Ytegefnchkgkmgaa

/- The helpers on places that went: Plain, Same. -/
namespace Go.Proofs.Ytegefnchkgkmgaa
open Go.RowKit

theorem two_cells {w : World} {g e : Nat} {a b : Value} (h : w.heap[g]? = some (.cells #[a, b] e (0, 0))) : w.cell? ⟨g, 0, none⟩ = some a ∧ w.cell? ⟨g, 1, none⟩ = some b := by
  refine ⟨?_, ?_⟩ <;> (rw [cell_of_row w g _ _ e (0, 0) h]; rfl)
theorem plainp_same (x y : Int) (w : World) : Calls Try.prog 46 #[.agg #[.int .i64 x, .int .i64 y], .agg #[.int .i64 x, .int .i64 y]] w fun e w' => e = .returned (.bool true) ∧ Below w.heap.size w w' := by
  go_enter Try.func46, Try.ntmps46
  go_wp2_with fail
  go_ret
  exact ⟨rfl, ((Below.refl _ w).alloc (Nat.le_refl _) _).alloc (by simp) _⟩

set_option maxRecDepth 20000 in
set_option maxHeartbeats 2000000 in
theorem samep_any (v1 v2 : Value) (L : List (Int × Int)) (w : World) (h1 : PR w v1 L) (h2 : PR w v2 L) (hl : L.length < 35184372088832) :
    Calls Try.prog 45 #[v1, v2, .func (.func 46) #[] #[]] w fun e w' => e = .returned (.bool true) ∧ Below w.heap.size w w' := by
  have H1 := hide h1
  have H2 := hide h2
  have HL := hide hl
  obtain ⟨p1, c1, rfl, _, _⟩ := h1.shape
  obtain ⟨p2, c2, rfl, _, _⟩ := h2.shape
  have hn : ((L.length : Int) == (L.length : Int)) = true := by simp
  rename_i g1 g2 g3 g4
  clear h1 h2 hl g1 g2 g3 g4
  go_enter Try.func45, Try.ntmps45
  go_wp2_with fail
  go_loopw [7] (fun i wr => ∃ k : Nat, k ≤ L.length ∧ i = .int .i64 (k : Int) ∧ Hid (Below w.heap.size w wr)) (fun i _ => L.length - (intOf i).toNat)
  case atStart => exact ⟨0, Nat.zero_le _, rfl, Below.refl _ _⟩
  case round =>
    obtain ⟨k, hk, rfl, hb⟩ := hrel
    have hkw : IntKind.i64.wrap ((k : Int) + 1) = (k : Int) + 1 := by have := unhide HL; rw [IntKind.wrap_i64]; omega
    by_cases hlt : k < L.length
    · have hkI : (k : Int) < (L.length : Int) := by omega
      obtain ⟨b1, o1, q1, e1, hc1⟩ := (unhide H1).open (by omega)
      simp only [Value.slice.injEq] at e1
      obtain ⟨rfl, _, rfl⟩ := e1
      obtain ⟨b2, o2, q2, e2, hc2⟩ := (unhide H2).open (by omega)
      simp only [Value.slice.injEq] at e2
      obtain ⟨rfl, _, rfl⟩ := e2
      obtain ⟨x0, x1⟩ := hc1 k hlt
      obtain ⟨y0, y1⟩ := hc2 k hlt
      have HCA := hide (fun W (hW : Below w.heap.size w W) => And.intro ((hW.cell (World.block_lt_of_cell? _ _ x0)).trans x0) (And.intro ((hW.cell (World.block_lt_of_cell? _ _ x1)).trans x1) (And.intro ((hW.cell (World.block_lt_of_cell? _ _ y0)).trans y0) ((hW.cell (World.block_lt_of_cell? _ _ y1)).trans y1))))
      have HLT := hide hlt
      generalize L[k].1 = x at *
      generalize L[k].2 = y at *
      obtain ⟨CC, hCC⟩ : ∃ CC : World → Prop, CC = fun w' => Below w.heap.size w w' := ⟨_, rfl⟩
      have HC0 : Hid (CC { wr with drawn := wr.drawn + 1 }) := by rw [hCC]; exact (unhide hb).drew
      have HCW : Hid (∀ w', CC w' → Below w.heap.size w w') := by rw [hCC]; exact fun w' hw => hw
      have HCL : Hid (∀ w', CC w' → Calls Try.prog 46 #[.agg #[.int .i64 x, .int .i64 y], .agg #[.int .i64 x, .int .i64 y]] w' fun e w'' => e = .returned (.bool true) ∧ CC w'') := by
        rw [hCC]
        exact fun w' hw => (plainp_same x y w').mono fun e w'' hx => ⟨hx.1, hw.trans (hx.2.mono hw.size)⟩
      clear hc1 hc2 x0 x1 y0 y1 hlt hk hb hCC
      go_wp2_with fail
      refine region_calm CC (by kernel_rfl) (by kernel_rfl) (unhide HC0) ?_
      repeat (first
        | go_big_quiet_skip
        | (go_big_quiet_want
           apply Exists.intro
           refine ⟨fun w' hw' => ?_, ?_⟩
           · obtain ⟨c0, c1, c2, c3⟩ := unhide HCA w' (unhide HCW w' hw')
             go_simp
             first | done | rfl | exact unhide HCL w' hw'
           simp only [Act.put, List.setIfInBounds_toArray, List.set_cons_zero, List.set_cons_succ]
           go_big_quiet_on))
      refine wpQuiet_nil ?_
      intro w' hw'
      have HBW := hide (unhide HCW w' hw')
      clear hw' HCL HC0 HCW
      go_wp2_with fail
      go_roundw
      case rel => exact ⟨k + 1, unhide HLT, by go_num, unhide HBW⟩
      case measure => (have := unhide HLT; simp [intOf]; omega)
    · have hke : k = L.length := by omega
      subst hke
      have hge : ¬ (L.length : Int) < (L.length : Int) := by omega
      have HBR := hide (unhide hb)
      clear hb hlt hk hkw
      go_wp2_with fail
      go_ret
      exact ⟨rfl, unhide HBR⟩
theorem plainp_any (v1 v2 : Value) (L : List (Int × Int)) (w : World) (h1 : PR w v1 L) (h2 : PR w v2 L) (hl : L.length < 35184372088832) :
    Calls Try.prog 16 #[v1, v2] w fun e w' => e = .returned (.bool true) ∧ Below w.heap.size w w' := by
  have HS := hide (samep_any v1 v2 L w h1 h2 hl)
  clear h1 h2 hl
  go_enter Try.func16, Try.ntmps16
  go_wp2_with fail
  refine Calls.mono (unhide HS) ?_
  rintro e w1 ⟨rfl, b1⟩
  have HB1 := hide b1
  clear b1
  go_wp2_with fail
  go_ret
  exact ⟨rfl, unhide HB1⟩
end Go.Proofs.Ytegefnchkgkmgaa
