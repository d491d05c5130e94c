/- Texts of ours, one behind the other: MkSorted, MkLive, ThAlP, ArPlain, ArMem, ArOwn1, MkRef2, ThRef. -/
import Derived.Test.YtlbhhdldeaehkaaGreatG3
import Derived.Test.YtlbhhdldeaehkaaGreatG4
import Derived.Test.YtlbhhdldeaehkaaGreatG5
import Derived.Test.YtlbhhdldeaehkaaGreatG10
import Derived.Test.YtlbhhdldeaehkaaGreatG11
import Derived.Test.YtlbhhdldeaehkaaGreatG12
import Derived.Test.YtlbhhdldeaehkaaGreatG14
import Derived.Test.YtlbhhdldeaehkaaGreatG15
import Derived.Maps.RangeWalk
/- The library's sort of a map's keys: slices.Sorted(maps.Keys(m)) of a map of the call's own. -/
namespace Go.Proofs.YtlbhhdldeaehkaaGreat
open Go.RowKit Go.Maps Go.Sort Go.Shelf

/-- slices.Sort's two contracts, at the fence that asks nothing. -/
theorem Tryz.sortsA (m : Nat) : AnyZI.SortsIn Tryz.prog Tryz.sortedA_ren Fence.wide m :=
  ⟨fun blk off cap ss W hH hblk hsz => callsIn_wide.2 (AnyM.slices_Sort_int Tryz.sortA blk off cap ss W hH hblk hsz),
   fun p cap W => callsIn_wide.2 (AnyM.slices_Sort_int_none Tryz.sortA p cap W)⟩

theorem mkeys_any (mb : Option Nat) (W : World) : Calls Tryz.prog 80 #[.map mb] W fun e w' => e = .returned (.func (.func 97) #[] #[.pointer (some ⟨W.heap.size, 0, none⟩)]) ∧ w' = W.alloc (.cells #[.map mb] 120) :=
  (callsIn_wide (n := 5)).1 (AnyZI.keys_in Tryz.keysA Fence.wide 5 trivial rfl mb W)

theorem szM_has {w : World} {ws S : List Int} {b n : Nat} (h : MapIs Tryz.prog 3 w b n (szM ws S)) (hn : S.Nodup) : ∃ D : DataW Value, w.ownsMap Tryz.prog 3 heldR b n D ∧ S.Perm (intKeys D) ∧ Maps.size D = S.length ∧ (∀ x, Maps.has D (.int .i64 x) = decide (x ∈ S)) ∧ ∀ x z, D.atKey (.int .i64 x) (.held z) = .held ((szM ws S x).getD z) := by
  obtain ⟨D, h1, h2, h3⟩ := h
  have hC : CollectedI D (fun _ => false) S := ⟨hn, fun x => by
    rw [(h3 x).1]
    unfold szM
    by_cases hx : x ∈ S
    · simp [hx]
    · simp [hx]⟩
  have hP := hC.perm h1 (Maps.int_keyed Tryz.underlying3) Tryz.underlying3 (fun _ => rfl)
  refine ⟨D, h1, hP, ?_, fun x => ?_, fun x z => (h3 x).2 z⟩
  · obtain ⟨es, rfl⟩ := h2
    rw [hP.length_eq]
    simp [intKeys, Maps.size]
  · rw [(h3 x).1]
    unfold szM
    by_cases hx : x ∈ S
    · simp [hx]
    · simp [hx]

theorem live_sorted {ws rs S ss : List Int} (hn : S.Nodup) (hm : ∀ a, a ∈ S ↔ Rch ws rs a) (hp : ss.Perm S) : LiveIs ws rs (ss.mergeSort fun x y => decide (x ≤ y)) := by
  have tr : ∀ a b c : Int, leI a b = true → leI b c = true → leI a c = true := fun a b c h1 h2 => by simp only [leI, decide_eq_true_eq] at *; exact Int.le_trans h1 h2
  have to : ∀ a b : Int, (leI a b || leI b a) = true := fun a b => by simp only [leI, Bool.or_eq_true, decide_eq_true_eq]; exact Int.le_total a b
  have h1 := List.pairwise_mergeSort tr to ss
  have h2 : (ss.mergeSort leI).Nodup := ((List.mergeSort_perm ss leI).trans hp).nodup_iff.2 hn
  refine ⟨?_, fun a => ?_⟩
  · have h3 := List.Pairwise.and h1 h2
    refine h3.imp fun {a b} h => ?_
    have h4 := h.1
    simp only [leI, decide_eq_true_eq] at h4
    have h5 : a ≠ b := h.2
    omega
  · rw [← hm a]
    exact ((List.mergeSort_perm ss leI).trans hp).mem_iff

set_option maxHeartbeats 1000000 in
theorem msorted_any (w : World) (b : Nat) (ws rs S : List Int) (h : MapIs Tryz.prog 3 w b S.length (szM ws S)) (hn : S.Nodup) (hl : S.length ≤ 1048576) (hm : ∀ a, a ∈ S ↔ Rch ws rs a) :
    Calls Tryz.prog 79 #[.func (.func 97) #[] #[.pointer (some ⟨w.heap.size, 0, none⟩)]] (w.alloc (.cells #[.map (some b)] 120)) fun e w' => ∃ v l, e = .returned v ∧ LiveIs ws rs l ∧ w'.ownsRow w.heap.size 3 1 v l.length (Iw l) ∧ Below w.heap.size w w' := by
  obtain ⟨D, hown, hP, hsz, _, _⟩ := szM_has h hn
  have hbl := hown.lt
  have hseq : SeqGives Fence.wide 2 Tryz.prog 97 #[.pointer (some ⟨w.heap.size, 0, none⟩)] encZ (fun ss => ss.Perm (intKeys D)) (Maps.size D) (w.alloc (.cells #[.map (some b)] 120)) :=
    AnyZI.keys_gives (ρ := Tryz.keysA_ren) { Tryz.keysA with } Fence.wide _ trivial rfl (by omega) w.heap.size b S.length D _ (by simp) (by simp) (by
      obtain ⟨es, clock, hb, Ft, hs, hD⟩ := hown
      exact ⟨es, clock, (Below.heap_alloc _ _ b hbl).trans hb, Ft, hs, hD⟩)
  have cS := AnyZI.sorted_in Tryz.sortedA Fence.wide 5 trivial trivial trivial trivial rfl (by omega) (Tryz.sortsA _) (enters_of Tryz.func96 (by kernel_rfl) rfl) 97 #[.pointer (some ⟨w.heap.size, 0, none⟩)] trivial (enters_of Tryz.func97 (by kernel_rfl) rfl) _ _ (by rw [hsz]; unfold maxLen; omega) (by rw [hsz]; omega) _ hseq
  change CallsIn _ _ Tryz.prog 79 _ _ _ at cS
  refine (callsIn_wide.1 cS).mono ?_
  rintro e w' ⟨v, ss, rfl, hS, hrow, _, hb⟩
  refine ⟨v, _, rfl, live_sorted hn hm (hS.trans hP.symm), ?_, ((Below.refl _ w).alloc (Nat.le_refl _) _).trans (hb.mono (by simp))⟩
  rw [List.length_mergeSort]
  exact ownsRow_base_a hrow (by simp : w.heap.size ≤ _)
end Go.Proofs.YtlbhhdldeaehkaaGreat

/- The landed package mark: Live, Words, Reaches. -/
namespace Go.Proofs.YtlbhhdldeaehkaaGreat
open Go.RowKit Go.Maps

set_option maxRecDepth 20000 in
set_option maxHeartbeats 2000000 in
theorem mlive_any (s t : Value) (ws rs : List Int) (w : World) (hs : VRow w s (Uw ws)) (ht : VRow w t (Iw rs)) (hU : U32 ws) (hl : ws.length < 70368744177664) (hr : rs.length < 35184372088832) :
    Calls Tryz.prog 50 #[s, t] w fun e w' => ∃ v l, e = .returned (.tuple #[v, .int .i64 (chkE (rightB ws rs))]) ∧ LivD ws rs l ∧ w'.ownsRow w.heap.size 3 1 v l.length (Iw l) ∧ Below w.heap.size w w' := by
  have HC := hide (ccheck_any s t ws rs w hs ht hU hl hr)
  cases hb : rightB ws rs with
  | false =>
    rw [hb, show chkE false = 11 from rfl] at HC
    have HD := hide (show LivD ws rs [] from ⟨fun h => (by rw [hb] at h; cases h), fun _ => rfl⟩)
    clear hs ht hU hl hr hb
    go_enter Tryz.func50, Tryz.ntmps50
    go_wp2_with fail
    refine Calls.mono (unhide HC) ?_
    rintro e w1 ⟨rfl, b1⟩
    have HB1 := hide b1
    clear b1
    go_wp2_with fail
    go_ret2
    exact ⟨_, [], rfl, unhide HD, World.ownsRow_nil _ _ _ _, unhide HB1⟩
  | true =>
    rw [hb, show chkE true = 0 from rfl] at HC
    have HL := hide (fun w1 (b1 : Below w.heap.size w w1) => mliving_any s t ws rs w1 (hs.below b1) (ht.below b1) hU hb)
    have HB := hide hb
    clear hs ht hU hl hr hb
    go_enter Tryz.func50, Tryz.ntmps50
    go_wp2_with fail
    refine Calls.mono (unhide HC) ?_
    rintro e w1 ⟨rfl, b1⟩
    have HB1 := hide b1
    have HL1 := hide (unhide HL w1 b1)
    clear b1 HL
    go_wp2_with fail
    refine Calls.mono (unhide HL1) ?_
    rintro e w2 ⟨b, S, rfl, hm, hbb, hn, hls, hms, b2⟩
    have HB2 := hide ((unhide HB1).trans (b2.mono (unhide HB1).size))
    have HK := hide (mkeys_any (some b) w2)
    have HSO := hide (msorted_any w2 b ws rs S hm hn hls hms)
    clear hm hbb hn hls hms b2
    go_wp2_with fail
    refine Calls.mono (unhide HK) ?_
    rintro e w3 ⟨rfl, rfl⟩
    go_wp2_with fail
    refine Calls.mono (unhide HSO) ?_
    rintro e w4 ⟨v, l, rfl, hli, hrow, b4⟩
    have HF := hide (show LivD ws rs l ∧ w4.ownsRow w.heap.size 3 1 v l.length (Iw l) ∧ Below w.heap.size w w4 from
      ⟨⟨fun _ => hli, fun h => (by rw [unhide HB] at h; cases h)⟩, ownsRow_base_a hrow (unhide HB2).size, (unhide HB2).trans (b4.mono (unhide HB2).size)⟩)
    clear hli hrow b4
    go_wp2_with fail
    go_ret2
    exact ⟨_, l, rfl, unhide HF⟩

/-- The sizes of objects, together. -/
def sumW (ws : List Int) : List Int → Int
  | [] => 0
  | a :: l => wd ws a.toNat / 4096 + sumW ws l
theorem sumW_perm {ws l m : List Int} (h : l.Perm m) : sumW ws l = sumW ws m := by
  induction h with
  | nil => rfl
  | cons a _ ih => simp only [sumW, ih]
  | swap a b l => simp only [sumW]; omega
  | trans _ _ h1 h2 => rw [h1, h2]
theorem sumW_snoc (ws l : List Int) (a : Int) : sumW ws (l ++ [a]) = sumW ws l + wd ws a.toNat / 4096 := by
  induction l with
  | nil => simp [sumW]
  | cons b l ih => simp only [List.cons_append, sumW, ih]; omega
theorem sumW_bounds {ws : List Int} (hU : U32 ws) : ∀ l : List Int, 0 ≤ sumW ws l ∧ sumW ws l ≤ (l.length : Int) * 1048576
  | [] => by simp [sumW]
  | a :: l => by
    obtain ⟨h1, h2⟩ := sumW_bounds hU l
    obtain ⟨u0, u1⟩ := hU.wd a.toNat
    simp only [sumW, List.length_cons]
    omega

set_option maxRecDepth 20000 in
set_option maxHeartbeats 2000000 in
theorem mwords_any (s t : Value) (ws rs : List Int) (w : World) (hs : VRow w s (Uw ws)) (ht : VRow w t (Iw rs)) (hU : U32 ws) (hl : ws.length < 70368744177664) (hr : rs.length < 35184372088832) :
    Calls Tryz.prog 73 #[s, t] w fun e w' => ∃ l, e = .returned (.tuple #[.int .i64 (sumW ws l), .int .i64 (chkE (rightB ws rs))]) ∧ LivD ws rs l ∧ Below w.heap.size w w' := by
  have HC := hide (ccheck_any s t ws rs w hs ht hU hl hr)
  cases hb : rightB ws rs with
  | false =>
    rw [hb, show chkE false = 11 from rfl] at HC
    have HD := hide (show LivD ws rs [] from ⟨fun h => (by rw [hb] at h; cases h), fun _ => rfl⟩)
    clear hs ht hU hl hr hb
    go_enter Tryz.func73, Tryz.ntmps73
    go_wp2_with fail
    refine Calls.mono (unhide HC) ?_
    rintro e w1 ⟨rfl, b1⟩
    have HB1 := hide b1
    clear b1
    go_wp2_with fail
    go_ret2
    exact ⟨[], rfl, unhide HD, unhide HB1⟩
  | true =>
    rw [hb, show chkE true = 0 from rfl] at HC
    have HL := hide (fun w1 (b1 : Below w.heap.size w w1) => mliving_any s t ws rs w1 (hs.below b1) (ht.below b1) hU hb)
    have HB := hide hb
    have HU := hide hU
    have HH := hide (right_parts hb).2.2.2.2
    have HWL := hide (right_parts hb).2.1
    clear hs ht hU hl hr hb
    go_enter Tryz.func73, Tryz.ntmps73
    go_wp2_with fail
    refine Calls.mono (unhide HC) ?_
    rintro e w1 ⟨rfl, b1⟩
    have HB1 := hide b1
    have HL1 := hide (unhide HL w1 b1)
    clear b1 HL
    go_wp2_with fail
    refine Calls.mono (unhide HL1) ?_
    rintro e w2 ⟨b, S, rfl, hm, hbb, hn, hls, hms, b2⟩
    obtain ⟨D, hown, hP, hsz, hhas, hatk⟩ := szM_has hm hn
    have HB2 := hide ((unhide HB1).trans (b2.mono (unhide HB1).size))
    have HS2 := hide (unhide HB2).size
    have HO := hide hown
    have HP := hide hP
    have HHA := hide hhas
    have HAT := hide hatk
    have HN := hide hn
    have HMS := hide hms
    clear hown hm hbb hn hls hms b2 hP hsz hhas hatk
    go_wp2_with (first
      | (at_range; refine wpList_range_own _ rfl _ 120 rfl 3 3 (Maps.int_keyed Tryz.underlying3) Tryz.underlying120 _ b S.length _ rfl (unhide HO) ?_; intro w0 hrg0 hg0 hs0)
      | go_in)
    go_frame
    have HB0 := hide ((unhide HB2).grown hg0 (unhide HB2).size (fun j hj => by cases hj))
    obtain ⟨r, hr⟩ : ∃ r, r = w2.heap.size := ⟨_, rfl⟩
    have HR := hide (show w.heap.size ≤ r by rw [hr]; exact unhide HS2)
    rw [← hr] at hrg0 ⊢
    clear hr hg0 hs0
    go_loopw [7] (fun sv wr => ∃ (left : Lit → Bool) (cnt : Nat) (ss : List Int), sv = .int .i64 (sumW ws ss) ∧ wr.ranges Tryz.prog 3 heldR b r S.length D left cnt ∧ Hid (CollectedI D left ss) ∧ Hid (Below w.heap.size w wr)) (fun _ wr => wr.rangeLeft b r)
    case atStart => exact ⟨_, _, [], rfl, hrg0, CollectedI.start D, unhide HB0⟩
    case round =>
      clear hrg0 HB0
      obtain ⟨left, cnt, ss, rfl, hrg, hC, hbr⟩ := hrel
      have hss : ss.Nodup ∧ ∀ x ∈ ss, x ∈ S := ⟨(unhide hC).1, fun x hx => by
        have := (((unhide hC).2 x).1 hx).1
        rw [unhide HHA x] at this
        exact of_decide_eq_true this⟩
      have hsl : ss.length ≤ ws.length := obs_count ws ss hss.1 fun x hx => rch_ob (unhide HH) ((unhide HMS x).1 (hss.2 x hx))
      have hbd := sumW_bounds (unhide HU) ss
      have HSB := hide (show 0 ≤ sumW ws ss ∧ sumW ws ss ≤ 1099511627776 by have := unhide HWL; omega)
      clear hss hsl hbd
      go_wp2_with (first
        | (at_next; refine wpList_next_ranges _ rfl _ rfl 3 (Maps.int_keyed Tryz.underlying3) heldR encZ id (fun key kl hk => by obtain ⟨x, hx, _⟩ := Maps.keyOf_i64 Tryz.underlying3 hk; exact ⟨x, hx⟩) (fun v _ _ => ⟨v, rfl⟩) b r S.length _ _ _ rfl hrg ?_ ?_)
        | go_in)
      · intro hc0 hl0
        have hp1 := (unhide hC).perm (unhide HO) (Maps.int_keyed Tryz.underlying3) Tryz.underlying3 hl0
        have hp2 : ss.Perm S := hp1.trans (unhide HP).symm
        have hli := live_sorted (unhide HN) (unhide HMS) (List.Perm.refl S)
        have hsum : sumW ws ss = sumW ws (S.mergeSort fun x y => decide (x ≤ y)) := sumW_perm (hp2.trans (List.mergeSort_perm S _).symm)
        have HE := hide (show ∃ l, (Ending.returned (.tuple #[.int .i64 (sumW ws ss), .int .i64 0]) : Ending) = .returned (.tuple #[.int .i64 (sumW ws l), .int .i64 (chkE true)]) ∧ LivD ws rs l ∧ Below w.heap.size w wr from
          ⟨_, by rw [hsum]; rfl, ⟨fun _ => hli, fun h => (by rw [unhide HB] at h; cases h)⟩, unhide hbr⟩)
        clear hp1 hp2 hli hsum hl0 hc0 hrg
        go_wp2_with fail
        go_ret2
        exact unhide HE
      · intro x c kl yd yp w4 cnt2 hkey hlk hv hat hrg2 hlt hg2 hs2 hen
        obtain ⟨x', ex, rfl, _⟩ := Maps.keyOf_i64 Tryz.underlying3 hkey
        obtain rfl : x = x' := encZ_inj ex
        have hyd : yd = .held c := by
          have h : some ((DataW.held c : DataW Value), ([] : List MemPlace)) = some (yd, yp) := hv
          simp only [Option.some.injEq, Prod.mk.injEq] at h
          exact h.1.symm
        have hxc : ∀ z, (szM ws S x).getD z = c := fun z => by
          have h := (unhide HAT x z).symm.trans (hat (.held z))
          rw [hyd] at h
          simpa using h
        have hxS : x ∈ S := by
          by_cases hx : x ∈ S
          · exact hx
          · exfalso
            unfold szM at hxc
            rw [if_neg hx] at hxc
            have h1 := hxc (.bool true)
            have h2 := hxc (.bool false)
            rw [← h1] at h2
            simp at h2
        have hc9 : c = .int .i64 (wd ws x.toNat / 4096) := by
          have h := hxc (.bool true)
          unfold szM at h
          rw [if_pos hxS] at h
          exact h.symm
        subst hc9
        obtain ⟨u0, u1⟩ := (unhide HU).wd x.toNat
        have hwr : IntKind.i64.wrap (sumW ws ss + wd ws x.toNat / 4096) = sumW ws (ss ++ [x]) := by rw [sumW_snoc, IntKind.wrap_i64]; have := unhide HSB; omega
        have HC2 := hide ((unhide hC).step hlk hat)
        have HB4 := hide ((unhide hbr).grown hg2 (unhide hbr).size (fun j hj => by cases hj; exact unhide HR))
        have HRG := hide hrg2
        have HME := hide (show wr.rangeLeft b r > w4.rangeLeft b r by rw [hrg2.left_eq, hrg.left_eq]; exact hlt)
        generalize wd ws x.toNat / 4096 = y at *
        generalize hz : sumW ws (ss ++ [x]) = z at *
        have HZ := hide hz
        clear hz hrg2 hlt hg2 hs2 hxS hxc hv hat hlk hkey ex hbr hC hrg
        go_wp2_with fail
        go_roundw
        case rel => exact ⟨_, cnt2, ss ++ [x], by rw [unhide HZ], unhide HRG, unhide HC2, unhide HB4⟩
        case measure => exact unhide HME

instance (ws : List Int) (a : Int) : Decidable (isOb ws a) := by unfold isOb; infer_instance
theorem isPl_iff {ws : List Int} {a : Int} : isPl ws.length (obs ws 1) a = true ↔ a = 0 ∨ isOb ws a := by
  constructor
  · intro h
    by_cases h0 : a = 0
    · exact Or.inl h0
    · exact Or.inr (isOb_of_pl h h0)
  · rintro (h | ⟨h1, h2, h3⟩)
    · subst h; simp [isPl]
    · unfold isPl
      simp only [Bool.or_eq_true, Bool.and_eq_true, decide_eq_true_eq]
      exact Or.inr ⟨⟨h1, h2⟩, List.mem_map.2 ⟨_, h3, rfl⟩⟩
/-- Are there objects at both places? -/
def okR (ws : List Int) (a b : Int) : Bool := decide (isOb ws a) && decide (isOb ws b)
def reaE (ws : List Int) (a b : Int) : Int := if rightB ws [] = true then (if okR ws a b = true then 0 else 6) else 11
/-- What Reaches answers. -/
def ReaD (ws : List Int) (a b : Int) (B : Bool) : Prop := (rightB ws [] = true → okR ws a b = true → (B = true ↔ Rch ws [a] b)) ∧ (¬ (rightB ws [] = true ∧ okR ws a b = true) → B = false)
theorem ReaD.unique {ws : List Int} {a b : Int} {B C : Bool} (h : ReaD ws a b B) (h2 : ReaD ws a b C) : B = C := by
  by_cases hc : rightB ws [] = true ∧ okR ws a b = true
  · have h3 := (h.1 hc.1 hc.2).trans (h2.1 hc.1 hc.2).symm
    cases B <;> cases C <;> simp_all
  · rw [h.2 hc, h2.2 hc]
theorem right_one {ws : List Int} {a : Int} (h : rightB ws [] = true) (ha : isOb ws a) : rightB ws [a] = true :=
  right_iff'.2 ⟨h, by simp, fun r hr => by rw [List.mem_singleton.1 hr]; exact isPl_iff.2 (Or.inr ha)⟩
theorem right_two {ws : List Int} {a b : Int} (h : rightB ws [] = true) (ha : a ≠ 0) (hb : b ≠ 0) : rightB ws [a, b] = okR ws a b := by
  have h1 : rightB ws [a, b] = true ↔ okR ws a b = true := by
    rw [right_iff']
    unfold okR
    simp only [Bool.and_eq_true, decide_eq_true_eq]
    constructor
    · rintro ⟨_, _, h2⟩
      exact ⟨(isPl_iff.1 (h2 a (by simp))).resolve_left ha, (isPl_iff.1 (h2 b (by simp))).resolve_left hb⟩
    · rintro ⟨h2, h3⟩
      refine ⟨h, by simp, fun r hr => ?_⟩
      rcases List.mem_cons.1 hr with rfl | hr
      · exact isPl_iff.2 (Or.inr h2)
      · rw [List.mem_singleton.1 hr]; exact isPl_iff.2 (Or.inr h3)
  cases h2 : rightB ws [a, b] <;> cases h3 : okR ws a b <;> simp_all

end Go.Proofs.YtlbhhdldeaehkaaGreat

/- What stands at a place of a heap, and of the heap compacted; a contract for cells.At at an object. -/
namespace Go.Proofs.YtlbhhdldeaehkaaGreat
open Go.RowKit

theorem atR_is {ws : List Int} {a : Int} (h : isOb ws a) : atR ws a = (wd ws a.toNat % 16, ptsA ws a, dtA ws a, 0) := by
  obtain ⟨pre, rest, hs⟩ := List.append_of_mem h.2.2
  have := atR_some hs
  have h4 := (isOb_size h).2.2.2
  rw [h4] at this
  exact this
theorem cat_ob (s : Value) (ws : List Int) (a : Int) (w : World) (hs : VRow w s (Uw ws)) (hU : U32 ws) (hl : ws.length ≤ 1048577) (h : isOb ws a) :
    Calls Tryz.prog 84 #[s, .int .i64 a] w fun e w' => ∃ p cp d cd, e = .returned (.tuple #[.agg #[.int .i64 (wd ws a.toNat % 16), .slice p (ptsA ws a).length cp, .slice d (dtA ws a).length cd], .int .i64 0]) ∧ VRow w' (.slice p (ptsA ws a).length cp) (Iw (ptsA ws a)) ∧ VRow w' (.slice d (dtA ws a).length cd) (Uw (dtA ws a)) ∧ Below w.heap.size w w' := by
  refine (cat_any s ws a w hs hU (by omega)).mono ?_
  rintro e w' ⟨p, d, kd, er, ps, ds, rfl, hat, hop, hod, b⟩
  rw [atR_is h] at hat
  simp only [Prod.mk.injEq] at hat
  obtain ⟨rfl, rfl, rfl, rfl⟩ := hat
  obtain ⟨p, cp, rfl⟩ := ownsV_shape hop
  obtain ⟨d, cd, rfl⟩ := ownsV_shape hod
  exact ⟨p, cp, d, cd, rfl, vrow_of_owns (by simpa [Iw] using hop), vrow_of_owns (by simpa [Uw] using hod), b⟩
theorem sums_int {ws : List Int} (hU : U32 ws) (l : List Int) : sumW ws l = ((sums ws l : Nat) : Int) := by
  induction l with
  | nil => rfl
  | cons a l ih =>
    simp only [sumW, sums, ih, Int.natCast_add]
    unfold szA
    rw [szN_int (hU.wd a.toNat).1]
/-- What is asked of a compacted heap, object by object. -/
theorem alike_of {ws rs l : List Int} (h : Rts ws rs l) {a : Int} (ha : a ∈ l) : isOb (cW ws l) (toA ws l a) ∧ wd (cW ws l) (toA ws l a).toNat % 16 = wd ws a.toNat % 16 ∧ ptsA (cW ws l) (toA ws l a) = (ptsA ws a).map (toA ws l) ∧ dtA (cW ws l) (toA ws l a) = dtA ws a := by
  obtain ⟨h1, h2, h3⟩ := cW_pts h.toLiv ha
  exact ⟨cW_ob h.toLiv ha, by rw [h2], h1, h3⟩
end Go.Proofs.YtlbhhdldeaehkaaGreat

/- An arena as plain data: words and roots, and what each call makes of them; nothing here speaks of the program. -/
namespace Go.Proofs.YtlbhhdldeaehkaaGreat
open Go.RowKit

/-- What an arena may be. -/
structure AOk (n : Nat) (ws rs : List Int) : Prop where
  lo : 16 ≤ n
  hi : n ≤ 1048576
  fit : ws.length ≤ n
  u32 : U32 ws
  right : rightB ws rs = true
  slots : rs.length = 16
theorem AOk.pos {n : Nat} {ws rs : List Int} (h : AOk n ws rs) : 1 ≤ ws.length := (right_parts h.right).1
theorem AOk.ends {n : Nat} {ws rs : List Int} (h : AOk n ws rs) : endO (obs ws 1) = ws.length := (heap_parts (right_parts h.right).2.2.2.2).1
theorem AOk.len {n : Nat} {ws rs : List Int} (h : AOk n ws rs) : ws.length ≤ 1048576 := Nat.le_trans h.fit h.hi
theorem AOk.new {n : Nat} (h1 : 16 ≤ n) (h2 : n ≤ 1048576) : AOk n [0] (List.replicate 16 0) :=
  ⟨h1, h2, by simp; omega, by intro h hh; simp at hh; omega, by decide, by simp⟩

theorem wd_app {ws T : List Int} {k : Nat} (h : k < ws.length) : wd (ws ++ T) k = wd ws k := by
  unfold wd
  rw [List.getElem?_append_left h]
theorem okH_app {ws T : List Int} {p : Nat} (h : okH ws p) : okH (ws ++ T) p := by
  obtain ⟨h1, h2, h3⟩ := h
  refine ⟨by rw [List.length_append]; omega, by rw [wd_app h1]; exact h2, by rw [wd_app h1, List.length_append]; omega⟩
theorem obs_app {ws T : List Int} : ∀ (L : List (Nat × Int)) (p : Nat), obs ws p = L → L.foldl (fun _ x => x.1 + szN x.2) p = ws.length → obs (ws ++ T) p = L ++ obs (ws ++ T) ws.length
  | [], p, _, he => by
    simp only [List.foldl_nil] at he
    rw [he]; rfl
  | x :: L, p, h, he => by
    obtain ⟨a, b, c, d⟩ := obs_head h
    rw [obs_step (okH_app c), wd_app c.1]
    simp only [List.foldl_cons] at he
    rw [a, b] at he
    rw [obs_app L _ d.symm he]
    obtain ⟨x1, x2⟩ := x
    simp only at a b
    rw [a, b]
    rfl
/-- One object more. -/
def addW (ws : List Int) (x : Ob) : List Int := ws ++ wrdO x
theorem addW_len {ws : List Int} {x : Ob} (h : goodO x) : (addW ws x).length = ws.length + (1 + x.2.1.length + x.2.2.length) := by
  unfold addW
  rw [wrdO_good h]
  simp [w32_len]; omega
theorem addW_wd {ws : List Int} {x : Ob} (h : goodO x) : wd (addW ws x) ws.length = hdO x := by
  unfold addW wd
  rw [wrdO_good h, List.getElem?_append_right (Nat.le_refl _)]
  simp
theorem addW_obs {ws : List Int} {x : Ob} (h : goodO x) (he : endO (obs ws 1) = ws.length) : obs (addW ws x) 1 = obs ws 1 ++ [(ws.length, hdO x)] := by
  have h1 := obs_app (T := wrdO x) _ 1 rfl he
  obtain ⟨p1, p2, p3, p4, p5⟩ := hdO_parts h
  have hl := addW_len (ws := ws) h
  have hw := addW_wd (ws := ws) h
  have hok : okH (addW ws x) ws.length := ⟨by omega, by rw [hw, p3, p4]; omega, by rw [hw, p3, hl]; omega⟩
  have h2 := obs_step hok
  rw [hw, p3] at h2
  have h3 : obs (addW ws x) (ws.length + (1 + x.2.1.length + x.2.2.length)) = [] := obs_stop (fun hk => by have := hk.1; omega)
  rw [h3] at h2
  unfold addW at h2 ⊢
  rw [h1, h2]
theorem ptrsO_app {ws T : List Int} {x : Nat × Int} (h : okH ws x.1) (hx : x.2 = wd ws x.1) : ptrsO (ws ++ T) x = ptrsO ws x ∧ dataO (ws ++ T) x = dataO ws x := by
  obtain ⟨h1, h2, h3⟩ := h
  rw [← hx] at h2 h3
  unfold ptrsO dataO
  constructor
  · rw [List.drop_append_of_le_length (by omega), List.take_append_of_le_length (by rw [List.length_drop]; omega)]
  · rw [List.drop_append_of_le_length (by omega), List.take_append_of_le_length (by rw [List.length_drop]; omega)]
theorem isPl_more {n m : Nat} {Z Y : List (Nat × Int)} {a : Int} (h : isPl n Z a = true) : isPl (n + m) (Z ++ Y) a = true := by
  unfold isPl at h ⊢
  simp only [Bool.or_eq_true, Bool.and_eq_true, decide_eq_true_eq, List.map_append, List.mem_append] at h ⊢
  rcases h with h | ⟨⟨h1, h2⟩, h3⟩
  · exact Or.inl h
  · exact Or.inr ⟨⟨h1, by omega⟩, Or.inl h3⟩
theorem addW_ob {ws : List Int} {x : Ob} (h : goodO x) (he : endO (obs ws 1) = ws.length) (h1 : 1 ≤ ws.length) {a : Int} : isOb (addW ws x) a ↔ isOb ws a ∨ a = ws.length := by
  have hl := addW_len (ws := ws) h
  unfold isOb
  rw [addW_obs h he]
  simp only [List.mem_append, List.mem_singleton, Prod.mk.injEq]
  constructor
  · rintro ⟨a1, a2, a3 | a3⟩
    · have hm := obs_mem a3
      have hlt := hm.2.2.1
      dsimp only at hlt
      refine Or.inl ⟨a1, by omega, ?_⟩
      rw [← hm.2.1]
      exact a3
    · exact Or.inr (by omega)
  · rintro (⟨a1, a2, a3⟩ | rfl)
    · have hlt := (obs_mem a3).2.2.1
      dsimp only at hlt
      refine ⟨a1, by omega, Or.inl ?_⟩
      unfold addW
      rw [wd_app hlt]
      exact a3
    · exact ⟨by omega, by omega, Or.inr ⟨by simp, by rw [Int.toNat_natCast]; exact addW_wd h⟩⟩
theorem wrap_u32_small {p : Int} (h1 : 0 ≤ p) (h2 : p < 4294967296) : IntKind.u32.wrap p = p := by rw [IntKind.wrap_u32]; omega
theorem w32_of_obs {ws : List Int} (hl : ws.length ≤ 1048576) {ps : List Int} (h : ∀ p ∈ ps, p = 0 ∨ isOb ws p) : w32 ps = ps := by
  unfold w32
  conv => rhs; rw [← List.map_id ps]
  refine List.map_congr_left fun p hp => ?_
  rcases h p hp with rfl | h
  · rfl
  · have := h.1; have := h.2.1
    exact wrap_u32_small (by omega) (by omega)
/-- The new object's own parts. -/
theorem addW_new {ws : List Int} {x : Ob} (h : goodO x) : ptrsO (addW ws x) (ws.length, hdO x) = w32 x.2.1 ∧ dataO (addW ws x) (ws.length, hdO x) = x.2.2 := by
  obtain ⟨p1, p2, p3, p4, p5⟩ := hdO_parts h
  unfold ptrsO dataO addW
  dsimp only
  rw [p4, p3, wrdO_good h]
  have e1 : (ws ++ hdO x :: (w32 x.2.1 ++ x.2.2)) = (ws ++ [hdO x]) ++ (w32 x.2.1 ++ x.2.2) := by simp
  constructor
  · rw [e1, List.drop_append, List.drop_eq_nil_of_le (by simp)]
    simp [w32_len]
  · rw [e1, List.drop_append, List.drop_eq_nil_of_le (by simp)]
    simp only [List.nil_append, List.length_append, List.length_singleton]
    rw [show ws.length + 1 + x.2.1.length - (ws.length + 1) = x.2.1.length by omega, List.drop_append, List.drop_eq_nil_of_le (by rw [w32_len]; omega), w32_len, Nat.sub_self, List.drop_zero, List.nil_append, List.take_of_length_le (by omega)]
theorem AOk.add {n : Nat} {ws rs : List Int} {x : Ob} (h : AOk n ws rs) (hg : goodO x) (hp : ∀ p ∈ x.2.1, p = 0 ∨ isOb ws p) (hd : U32 x.2.2) (hf : ws.length + (1 + x.2.1.length + x.2.2.length) ≤ n) : AOk n (addW ws x) rs := by
  have hl := addW_len (ws := ws) hg
  have he := h.ends
  have h1 := h.pos
  obtain ⟨r1, r2, r3, r4, r5⟩ := right_parts h.right
  obtain ⟨k1, k2, k3⟩ := heap_parts r5
  have hO := addW_obs hg he
  refine ⟨h.lo, h.hi, by omega, fun z hz => ?_, ?_, h.slots⟩
  · unfold addW at hz
    rcases List.mem_append.1 hz with hz | hz
    · exact h.u32 z hz
    · rw [wrdO_good hg, w32_of_obs h.len hp] at hz
      rcases List.mem_cons.1 hz with rfl | hz
      · have := hdO_parts hg; omega
      · rcases List.mem_append.1 hz with hz | hz
        · have hln := h.len
          rcases hp z hz with rfl | h
          · omega
          · have := h.1; have := h.2.1; omega
        · exact hd z hz
  · unfold rightB heapB
    have hi := h.hi
    have hw0 : wd (addW ws x) 0 = 0 := by unfold addW; rw [wd_app (by omega)]; exact r3
    have hend : endO (obs (addW ws x) 1) = (addW ws x).length := by
      rw [hO, endO_snoc, hl, (hdO_parts hg).2.2.1]
    have hpl : ∀ a, isPl ws.length (obs ws 1) a = true → isPl (addW ws x).length (obs (addW ws x) 1) a = true := fun a ha => by
      rw [hO, hl]; exact isPl_more ha
    have hall : ∀ y ∈ obs (addW ws x) 1, ∀ p ∈ ptrsO (addW ws x) y, isPl (addW ws x).length (obs (addW ws x) 1) p = true := fun y hy p hpy => by
      rw [hO] at hy
      rcases List.mem_append.1 hy with hy | hy
      · have hm := obs_mem hy
        unfold addW at hpy
        rw [(ptrsO_app (T := wrdO x) hm.2.2 hm.2.1).1] at hpy
        exact hpl p (k2 y hy p hpy)
      · obtain rfl := List.mem_singleton.1 hy
        rw [(addW_new hg).1, w32_of_obs h.len hp] at hpy
        exact hpl p (isPl_iff.2 (hp p hpy))
    have a1 : 1 ≤ (addW ws x).length := by omega
    have a2 : (addW ws x).length ≤ 1048576 := by omega
    simp only [a1, a2, hw0, r4, hend, decide_true, Bool.true_and, Bool.and_eq_true, List.all_eq_true]
    exact ⟨fun y hy p hpy => hall y hy p hpy, fun r hr => hpl r (k3 r hr)⟩

/-- Of each word, is it a head: one object more. -/
theorem marks_more {n m : Nat} {Z : List (Nat × Int)} (h : ∀ x ∈ Z, x.1 < n) : marks (n + m) Z = marks n Z ++ List.replicate m false := by
  apply List.ext_getElem?
  intro k
  by_cases hk : k < n
  · rw [List.getElem?_append_left (by rw [marks_length]; exact hk), marks_get Z hk, marks_get Z (by omega)]
  · rw [List.getElem?_append_right (by rw [marks_length]; omega), marks_length, List.getElem?_replicate]
    by_cases hk2 : k < n + m
    · rw [marks_get Z hk2, if_pos (by omega)]
      have : ¬ k ∈ Z.map Prod.fst := fun hm => by
        obtain ⟨x, hx, rfl⟩ := List.mem_map.1 hm
        exact hk (h x hx)
      simp [this]
    · rw [if_neg (by omega), List.getElem?_eq_none (by rw [marks_length]; omega)]
theorem obs_lt {ws : List Int} {x : Nat × Int} (h : x ∈ obs ws 1) : x.1 < ws.length := (obs_mem h).2.2.1
theorem marks_add {ws : List Int} {x : Ob} (h : goodO x) (he : endO (obs ws 1) = ws.length) :
    (marks ws.length (obs ws 1) ++ List.replicate (1 + x.2.1.length + x.2.2.length) false).set ws.length true = marks (addW ws x).length (obs (addW ws x) 1) := by
  rw [addW_obs h he, marks_snoc, addW_len h, marks_more (fun x hx => obs_lt hx)]
theorem marks_at {ws : List Int} {a : Int} (h0 : 0 ≤ a) (hl : a < ws.length) : (marks ws.length (obs ws 1))[a.toNat]? = some (decide (isOb ws a)) := by
  rw [marks_get _ (by omega)]
  congr 1
  rw [Bool.eq_iff_iff, decide_eq_true_eq, decide_eq_true_eq]
  constructor
  · intro hm
    obtain ⟨x, hx, hxa⟩ := List.mem_map.1 hm
    have h1 := obs_mem hx
    refine ⟨by omega, hl, ?_⟩
    rw [← hxa, ← h1.2.1]
    exact hx
  · intro h
    exact List.mem_map.2 ⟨_, h.2.2, rfl⟩

/-- What stands at a place, read from the words from there on. -/
theorem drop_ob {ws : List Int} {a : Int} (h : isOb ws a) : isOb (ws.drop (a.toNat - 1)) 1 ∧ wd (ws.drop (a.toNat - 1)) 1 = wd ws a.toNat ∧ ptsA (ws.drop (a.toNat - 1)) 1 = ptsA ws a ∧ dtA (ws.drop (a.toNat - 1)) 1 = dtA ws a := by
  obtain ⟨s1, s2, s3, s4⟩ := isOb_size h
  have h1 := h.1
  have hw : wd (ws.drop (a.toNat - 1)) 1 = wd ws a.toNat := by
    unfold wd
    rw [List.getElem?_drop, show a.toNat - 1 + 1 = a.toNat by omega]
  have hl : (ws.drop (a.toNat - 1)).length = ws.length - (a.toNat - 1) := List.length_drop
  have hok : okH (ws.drop (a.toNat - 1)) 1 := ⟨by rw [hl]; omega, by rw [hw]; exact s1, by rw [hw, hl]; omega⟩
  have hd : ∀ k, (ws.drop (a.toNat - 1)).drop (1 + k) = ws.drop (a.toNat + k) := fun k => by
    rw [List.drop_drop]; congr 1; omega
  refine ⟨⟨by omega, by rw [hl]; omega, ?_⟩, hw, ?_, ?_⟩
  · rw [obs_step hok]
    exact List.mem_cons_self ..
  · unfold ptsA ptrsO
    dsimp only
    rw [show ((1 : Int).toNat) = 1 from rfl, hw, hd 1]
  · unfold dtA dataO
    dsimp only
    rw [show ((1 : Int).toNat) = 1 from rfl, hw, show 1 + 1 + ptN (wd ws a.toNat) = 1 + (1 + ptN (wd ws a.toNat)) by omega, hd, show a.toNat + (1 + ptN (wd ws a.toNat)) = a.toNat + 1 + ptN (wd ws a.toNat) by omega]
theorem atR_drop {ws : List Int} {a : Int} (h : isOb ws a) : atR (ws.drop (a.toNat - 1)) 1 = atR ws a := by
  obtain ⟨h1, h2, h3, h4⟩ := drop_ob h
  rw [atR_is h1, atR_is h, show ((1 : Int).toNat) = 1 from rfl, h2, h3, h4]
theorem atR_not {ws : List Int} {a : Int} (h : ¬ isOb ws a) : atR ws a = (0, [], [], 6) := atR_none fun x hx e => h (by
  have h1 := obs_mem hx
  refine ⟨by omega, by have := obs_lt hx; omega, ?_⟩
  rw [← e, Int.toNat_natCast, ← h1.2.1]
  exact hx)

/-- Objects do not meet. -/
theorem obs_apart {ws : List Int} : ∀ {pre rest : List (Nat × Int)} {x : Nat × Int} {p : Nat}, obs ws p = pre ++ x :: rest → ∀ y ∈ pre, y.1 + szN y.2 ≤ x.1
  | [], rest, x, p, h => fun y hy => by cases hy
  | z :: pre, rest, x, p, h => by
    obtain ⟨a, b, c, d⟩ := obs_head (by simpa using h)
    obtain ⟨e, f⟩ := obs_ahead (ws := ws) (pre := pre) (rest := rest) (x := x) (p := p + szN (wd ws p)) d.symm
    have ih := obs_apart (ws := ws) (pre := pre) (rest := rest) (x := x) (p := p + szN (wd ws p)) d.symm
    intro y hy
    cases hy with
    | head => rw [a, b]; exact e
    | tail _ hy => exact ih y hy
theorem obx_apart {ws : List Int} {x y : Nat × Int} (hx : x ∈ obs ws 1) (hy : y ∈ obs ws 1) : x = y ∨ x.1 + szN x.2 ≤ y.1 ∨ y.1 + szN y.2 ≤ x.1 := by
  obtain ⟨pre, rest, h⟩ := List.append_of_mem hx
  rw [h] at hy
  rcases List.mem_append.1 hy with hy | hy
  · exact Or.inr (Or.inr (obs_apart h y hy))
  · rcases List.mem_cons.1 hy with rfl | hy
    · exact Or.inl rfl
    · obtain ⟨r1, r2, hr⟩ := List.append_of_mem hy
      rw [hr] at h
      exact Or.inr (Or.inl (obs_apart (pre := pre ++ x :: r1) (rest := r2) (by rw [h]; simp) x (by simp)))
theorem wd_set {ws : List Int} {j k : Nat} {v : Int} (h : k ≠ j) : wd (ws.set j v) k = wd ws k := by
  unfold wd
  rw [List.getElem?_set_ne (by omega)]
theorem obs_set {ws : List Int} {j : Nat} {v : Int} : ∀ (L : List (Nat × Int)) (p : Nat), obs ws p = L → (∀ x ∈ L, x.1 ≠ j) → L.foldl (fun _ x => x.1 + szN x.2) p = ws.length → obs (ws.set j v) p = L
  | [], p, _, _, he => by
    simp only [List.foldl_nil] at he
    exact obs_stop (fun hk => by have := hk.1; rw [List.length_set] at this; omega)
  | x :: L, p, h, hn, he => by
    obtain ⟨a, b, c, d⟩ := obs_head h
    have hpj : p ≠ j := fun e => hn x (List.mem_cons_self ..) (by omega)
    obtain ⟨c1, c2, c3⟩ := c
    have hok : okH (ws.set j v) p := ⟨by rw [List.length_set]; exact c1, by rw [wd_set hpj]; exact c2, by rw [wd_set hpj, List.length_set]; exact c3⟩
    simp only [List.foldl_cons] at he
    rw [a, b] at he
    rw [obs_step hok, wd_set hpj, obs_set L _ d.symm (fun y hy => hn y (List.mem_cons_of_mem _ hy)) he]
    obtain ⟨x1, x2⟩ := x
    simp only at a b
    rw [a, b]
/-- One word of an object's data is another. -/
def setW (ws : List Int) (a : Int) (i : Nat) (v : Int) : List Int := ws.set (a.toNat + 1 + ptN (wd ws a.toNat) + i) v
theorem setW_place {ws : List Int} {a : Int} {i : Nat} (h : isOb ws a) (hi : i < (dtA ws a).length) {x : Nat × Int} (hx : x ∈ obs ws 1) : x.1 ≠ a.toNat + 1 + ptN (wd ws a.toNat) + i ∧ ∀ k, k < ptN x.2 → x.1 + 1 + k ≠ a.toNat + 1 + ptN (wd ws a.toNat) + i := by
  obtain ⟨s1, s2, s3, s4⟩ := isOb_size h
  rw [dtA_len h] at hi
  unfold szA at hi
  have hm := obs_mem hx
  obtain ⟨o1, o2, o3⟩ := hm.2.2
  rw [← hm.2.1] at o2 o3
  rcases obx_apart hx h.2.2 with rfl | h1 | h1
  · exact ⟨by dsimp only; omega, fun k hk => by dsimp only at hk ⊢; omega⟩
  · dsimp only at h1
    exact ⟨by omega, fun k hk => by omega⟩
  · dsimp only at h1
    exact ⟨by omega, fun k hk => by omega⟩
theorem AOk.set {n : Nat} {ws rs : List Int} {a v : Int} {i : Nat} (h : AOk n ws rs) (ha : isOb ws a) (hi : i < (dtA ws a).length) (h0 : 0 ≤ v) (h1 : v < 4294967296) : AOk n (setW ws a i v) rs ∧ obs (setW ws a i v) 1 = obs ws 1 ∧ (setW ws a i v).length = ws.length := by
  obtain ⟨r1, r2, r3, r4, r5⟩ := right_parts h.right
  obtain ⟨k1, k2, k3⟩ := heap_parts r5
  have hO : obs (setW ws a i v) 1 = obs ws 1 := obs_set _ 1 rfl (fun x hx => (setW_place ha hi hx).1) k1
  have hl : (setW ws a i v).length = ws.length := by unfold setW; rw [List.length_set]
  refine ⟨⟨h.lo, h.hi, by rw [hl]; exact h.fit, fun z hz => ?_, ?_, h.slots⟩, hO, hl⟩
  · unfold setW at hz
    rcases List.mem_or_eq_of_mem_set hz with hz | rfl
    · exact h.u32 z hz
    · exact ⟨h0, h1⟩
  · unfold rightB heapB
    rw [hO, hl]
    have hw0 : wd (setW ws a i v) 0 = 0 := by unfold setW; rw [wd_set (by omega)]; exact r3
    have hpt : ∀ x ∈ obs ws 1, ptrsO (setW ws a i v) x = ptrsO ws x := fun x hx => by
      unfold ptrsO
      apply List.ext_getElem?
      intro k
      rw [List.getElem?_take, List.getElem?_take]
      split
      · rename_i hk
        rw [List.getElem?_drop, List.getElem?_drop]
        unfold setW
        rw [List.getElem?_set_ne (fun e => (setW_place ha hi hx).2 k hk e.symm)]
      · rfl
    simp only [r1, r2, hw0, r4, k1, decide_true, Bool.true_and, Bool.and_eq_true, List.all_eq_true]
    exact ⟨fun x hx p hp => k2 x hx p (by rw [← hpt x hx]; exact hp), k3⟩
theorem AOk.root {n : Nat} {ws rs : List Int} {a : Int} (h : AOk n ws rs) (s : Nat) (ha : a = 0 ∨ isOb ws a) : AOk n ws (rs.set s a) := by
  refine ⟨h.lo, h.hi, h.fit, h.u32, ?_, by rw [List.length_set]; exact h.slots⟩
  obtain ⟨q1, q2, q3⟩ := right_iff'.1 h.right
  refine right_iff'.2 ⟨q1, by rw [List.length_set]; exact q2, fun r hr => ?_⟩
  rcases List.mem_or_eq_of_mem_set hr with hr | rfl
  · exact q3 r hr
  · exact isPl_iff.2 ha
theorem AOk.pack {n : Nat} {ws rs l : List Int} (h : AOk n ws rs) (hl : LiveIs ws rs l) : AOk n (cW ws l) (cR ws l rs) ∧ (cW ws l).length = 1 + sums ws l ∧ 1 + sums ws l ≤ ws.length := by
  have hR := rts_live h.u32 h.right hl
  have h1 := cW_len hR.toLiv
  have h2 := hR.toLiv.all hR.pos
  have h3 := h.fit
  refine ⟨⟨h.lo, h.hi, by omega, cW_u32 hR.toLiv, cW_right hR.toLiv hR.pos hR.few hR.root, ?_⟩, h1, h2⟩
  unfold cR
  rw [List.length_map]
  exact h.slots
/-- Packed once more nothing becomes free, and as much lives as did. -/
theorem pack_again {n : Nat} {ws rs l l2 : List Int} (h : AOk n ws rs) (hl : LiveIs ws rs l) (h2 : LiveIs (cW ws l) (cR ws l rs) l2) : sums (cW ws l) l2 = sums ws l ∧ (cW (cW ws l) l2).length = (cW ws l).length := by
  have hR := rts_live h.u32 h.right hl
  have hp := h.pack hl
  obtain ⟨p1, p2, p3⟩ := hp.1.pack h2
  have ht := twice_of hR hR.root hR.few hl ⟨fun _ => h2, fun e => by rw [hp.1.right] at e; cases e⟩
  have e1 : cW (cW ws l) l2 = cW ws l := by
    have := ht.2.2.1
    unfold outW at this
    rw [if_pos ht.1] at this
    exact this
  rw [e1] at p2
  exact ⟨by have := hp.2.1; omega, by rw [e1]⟩
end Go.Proofs.YtlbhhdldeaehkaaGreat

/- An arena in memory: its struct, its heap, the rows of that; what moves, what stays. -/
namespace Go.Proofs.YtlbhhdldeaehkaaGreat
open Go.RowKit

/-- Blocks of unlike kinds are not the same. -/
theorem own_type {w : World} {base e sz : Nat} {v : Value} {n : Nat} {xs : List Value} (h : w.ownsRow base e sz v n xs) {g e' : Nat} {cs : Array Value} (hg : w.heap[g]? = some (.cells cs e' (0, 0))) (hne : e ≠ e') : v.ownBlock ≠ some g := by
  intro hv
  rcases h.2 with ⟨rfl, _⟩ | ⟨g', cap, cur, rfl, _, hh, _⟩
  · cases hv
  · simp only [Value.ownBlock, Option.some.injEq] at hv
    subst hv
    rw [hh] at hg
    simp only [Option.some.injEq, Obj.cells.injEq] at hg
    exact hne hg.2.1
theorem own_unlike {w : World} {base base' e e' sz sz' : Nat} {v v' : Value} {n n' : Nat} {xs xs' : List Value} (h : w.ownsRow base e sz v n xs) (h' : w.ownsRow base' e' sz' v' n' xs') (hne : e ≠ e') : ∀ k, v.ownBlock = some k → v'.ownBlock ≠ some k := fun k hk hk' => by
  rcases h'.2 with ⟨rfl, _⟩ | ⟨g', cap, cur, rfl, _, hh, _⟩
  · cases hk'
  · simp only [Value.ownBlock, Option.some.injEq] at hk'
    subst hk'
    exact own_type h hh hne hk
theorem blk_unlike {w : World} {g g' t t' : Nat} {c c' : Array Value} (h : w.heap[g]? = some (.cells c t (0, 0))) (h' : w.heap[g']? = some (.cells c' t' (0, 0))) (hne : t ≠ t') : g ≠ g' := fun e => by
  subst e
  rw [h] at h'
  simp only [Option.some.injEq, Obj.cells.injEq] at h'
  exact hne h'.2.1
theorem ownsV_row {w : World} {base e n : Nat} {v : Value} {xs : List Value} (h : w.ownsRow base e 1 v n xs) (hn : xs.length = n) : VRow w v xs := vrow_of_owns (by rw [hn]; exact h)
theorem ownsV_lt {w : World} {base e sz n : Nat} {v : Value} {xs : List Value} (h : w.ownsRow base e sz v n xs) {k : Nat} (hk : v.ownBlock = some k) : k < w.heap.size := (h.lt k hk).2

/-- Of each word, is it a head: as values. -/
def mkV (ws : List Int) : List Value := (marks ws.length (obs ws 1)).map Value.bool
theorem mkV_len (ws : List Int) : (mkV ws).length = ws.length := by unfold mkV; rw [List.length_map, marks_length]
/-- The question that an arena asks of its heap. -/
def hasV (gh : Nat) : Value := .func (.func 44) #[.pointer (some ⟨gh, 0, none⟩)] #[]
/-- An arena in memory: where it lies (g), its heap (gh), and the rows of that. -/
structure AAt (w : World) (g gh : Nat) (wv hv rv : Value) (n : Nat) (ws rs : List Int) : Prop where
  blk : w.heap[g]? = some (.cells #[.int .i64 (n : Int), .pointer (some ⟨gh, 0, none⟩), hasV gh] 53 (0, 0))
  hblk : w.heap[gh]? = some (.cells #[wv, hv, rv] 64 (0, 0))
  wown : w.ownsRow 0 31 1 wv ws.length (Uw ws)
  hown : w.ownsRow 0 4 1 hv ws.length (mkV ws)
  rown : w.ownsRow 0 3 1 rv 16 (Iw rs)
  ok : AOk n ws rs
/-- Its blocks. -/
def AF (g gh : Nat) (wv hv rv : Value) (k : Nat) : Prop := k = g ∨ k = gh ∨ wv.ownBlock = some k ∨ hv.ownBlock = some k ∨ rv.ownBlock = some k
theorem AAt.lt {w : World} {g gh : Nat} {wv hv rv : Value} {n : Nat} {ws rs : List Int} (h : AAt w g gh wv hv rv n ws rs) {k : Nat} (hk : AF g gh wv hv rv k) : k < w.heap.size := by
  rcases hk with rfl | rfl | hk | hk | hk
  · exact (Array.getElem?_eq_some_iff.1 h.blk).1
  · exact (Array.getElem?_eq_some_iff.1 h.hblk).1
  · exact ownsV_lt h.wown hk
  · exact ownsV_lt h.hown hk
  · exact ownsV_lt h.rown hk
theorem AAt.keep {G : Nat → Prop} {w w' : World} {g gh : Nat} {wv hv rv : Value} {n : Nat} {ws rs : List Int} (h : AAt w g gh wv hv rv n ws rs) (hk : Keep G w w') (hn : ∀ k, AF g gh wv hv rv k → ¬ G k) : AAt w' g gh wv hv rv n ws rs :=
  ⟨(hk.block g (h.lt (Or.inl rfl)) (hn g (Or.inl rfl))).trans h.blk, (hk.block gh (h.lt (Or.inr (Or.inl rfl))) (hn gh (Or.inr (Or.inl rfl)))).trans h.hblk,
    ownsV_keep h.wown hk (fun k hk => hn k (Or.inr (Or.inr (Or.inl hk)))), ownsV_keep h.hown hk (fun k hk => hn k (Or.inr (Or.inr (Or.inr (Or.inl hk))))), ownsV_keep h.rown hk (fun k hk => hn k (Or.inr (Or.inr (Or.inr (Or.inr hk))))), h.ok⟩
theorem AAt.below {w w' : World} {g gh : Nat} {wv hv rv : Value} {n : Nat} {ws rs : List Int} (h : AAt w g gh wv hv rv n ws rs) (hb : Below w.heap.size w w') : AAt w' g gh wv hv rv n ws rs := h.keep (Keep.of_below hb) (fun _ _ => id)
theorem AAt.wrow {w : World} {g gh : Nat} {wv hv rv : Value} {n : Nat} {ws rs : List Int} (h : AAt w g gh wv hv rv n ws rs) : VRow w wv (Uw ws) := ownsV_row h.wown (by simp)
theorem AAt.hrow {w : World} {g gh : Nat} {wv hv rv : Value} {n : Nat} {ws rs : List Int} (h : AAt w g gh wv hv rv n ws rs) : VRow w hv (mkV ws) := ownsV_row h.hown (mkV_len ws)
theorem AAt.rrow {w : World} {g gh : Nat} {wv hv rv : Value} {n : Nat} {ws rs : List Int} (h : AAt w g gh wv hv rv n ws rs) : VRow w rv (Iw rs) := ownsV_row h.rown (by simp [h.ok.slots])
/-- An arena in blocks F. -/
def AR (F : Nat → Prop) (w : World) (g n : Nat) (ws rs : List Int) : Prop := ∃ gh wv hv rv, AAt w g gh wv hv rv n ws rs ∧ ∀ k, F k ↔ AF g gh wv hv rv k
theorem AR.lt {F : Nat → Prop} {w : World} {g n : Nat} {ws rs : List Int} (h : AR F w g n ws rs) {k : Nat} (hk : F k) : k < w.heap.size := by
  obtain ⟨gh, wv, hv, rv, h, hF⟩ := h
  exact h.lt ((hF k).1 hk)
theorem AR.keep {F G : Nat → Prop} {w w' : World} {g n : Nat} {ws rs : List Int} (h : AR F w g n ws rs) (hk : Keep G w w') (hn : ∀ k, F k → ¬ G k) : AR F w' g n ws rs := by
  obtain ⟨gh, wv, hv, rv, h, hF⟩ := h
  exact ⟨gh, wv, hv, rv, h.keep hk (fun k hk => hn k ((hF k).2 hk)), hF⟩
theorem AR.below {F : Nat → Prop} {w w' : World} {g n : Nat} {ws rs : List Int} (h : AR F w g n ws rs) (hb : Below w.heap.size w w') : AR F w' g n ws rs := h.keep (Keep.of_below hb) (fun _ _ => id)
theorem AR.ok {F : Nat → Prop} {w : World} {g n : Nat} {ws rs : List Int} (h : AR F w g n ws rs) : AOk n ws rs := by
  obtain ⟨gh, wv, hv, rv, h, hF⟩ := h
  exact h.ok
theorem AR.g {F : Nat → Prop} {w : World} {g n : Nat} {ws rs : List Int} (h : AR F w g n ws rs) : F g := by
  obtain ⟨gh, wv, hv, rv, h, hF⟩ := h
  exact (hF g).2 (Or.inl rfl)
end Go.Proofs.YtlbhhdldeaehkaaGreat

/- Package arena as landed: the small questions: has, isNone, may, isSlot, Used, Words, Root. -/
namespace Go.Proofs.YtlbhhdldeaehkaaGreat
open Go.RowKit

theorem ahas_any (w : World) (g gh : Nat) (wv hv rv : Value) (n : Nat) (ws rs : List Int) (a : Int) (h : AAt w g gh wv hv rv n ws rs) :
    Calls Tryz.prog 44 #[.pointer (some ⟨gh, 0, none⟩), .int .i64 a] w fun e w' => e = .returned (.bool (decide (isOb ws a))) ∧ w' = w := by
  obtain ⟨c0, c1, c2, _⟩ := three_cells h.hblk
  have hrow := h.hrow
  obtain ⟨p, c, rfl⟩ := ownsV_shape h.hown
  by_cases h0 : 0 ≤ a
  · by_cases h1 : a < ws.length
    · have hm := marks_at (ws := ws) h0 h1
      obtain ⟨bo, of1, co, e0, _, _, hcl⟩ := hrow.open (by intro e; have := congrArg List.length e; rw [mkV_len] at this; simp at this; rw [this] at h1; simp at h1; omega)
      simp only [Value.slice.injEq, mkV_len] at e0
      obtain ⟨rfl, e1, rfl⟩ := e0
      obtain ⟨k, rfl⟩ := Int.eq_ofNat_of_zero_le h0
      rw [Int.toNat_natCast] at hm
      have hc := hcl k (.bool (decide (isOb ws (k : Int)))) (by unfold mkV; rw [List.getElem?_map, hm]; rfl)
      generalize decide (isOb ws (k : Int)) = B at *
      generalize ws.length = m at *
      clear h hrow hm hcl e1
      go_enter Tryz.func44, Tryz.ntmps44
      go_wp2_with fail
      go_ret
      exact ⟨rfl, rfl⟩
    · have hB : decide (isOb ws a) = false := by simp only [decide_eq_false_iff_not]; intro hh; exact h1 hh.2.1
      rw [hB]
      have h1' : ¬ a < (ws.length : Int) := h1
      generalize ws.length = m at *
      clear h hrow hB
      go_enter Tryz.func44, Tryz.ntmps44
      go_wp2_with fail
      go_ret
      exact ⟨rfl, rfl⟩
  · have hB : decide (isOb ws a) = false := by simp only [decide_eq_false_iff_not]; intro hh; have := hh.1; omega
    rw [hB]
    clear h hrow hB
    go_enter Tryz.func44, Tryz.ntmps44
    go_wp2_with fail
    go_ret
    exact ⟨rfl, rfl⟩

theorem anone_nil (w : World) : Calls Tryz.prog 17 #[.pointer none] w fun e w' => e = .returned (.bool true) ∧ w' = w := by
  go_enter Tryz.func17, Tryz.ntmps17
  go_wp2_with fail
  go_ret
  exact ⟨rfl, rfl⟩
theorem anone_no (w : World) (g gh : Nat) (wv hv rv : Value) (n : Nat) (ws rs : List Int) (h : AAt w g gh wv hv rv n ws rs) : Calls Tryz.prog 17 #[.pointer (some ⟨g, 0, none⟩)] w fun e w' => e = .returned (.bool false) ∧ w' = w := by
  obtain ⟨c0, c1, c2, _⟩ := three_cells h.blk
  clear h
  go_enter Tryz.func17, Tryz.ntmps17
  go_wp2_with fail
  go_ret
  exact ⟨rfl, rfl⟩
theorem aslot_any (s : Int) (w : World) : Calls Tryz.prog 64 #[.int .i64 s] w fun e w' => e = .returned (.bool (decide (0 ≤ s ∧ s < 16))) ∧ w' = w := by
  by_cases h0 : 0 ≤ s
  · by_cases h1 : s < 16
    · rw [show decide (0 ≤ s ∧ s < 16) = true by simp [h0, h1]]
      go_enter Tryz.func64, Tryz.ntmps64
      go_wp2_with fail
      go_ret
      exact ⟨rfl, rfl⟩
    · rw [show decide (0 ≤ s ∧ s < 16) = false by simp [h1]]
      go_enter Tryz.func64, Tryz.ntmps64
      go_wp2_with fail
      go_ret
      exact ⟨rfl, rfl⟩
  · rw [show decide (0 ≤ s ∧ s < 16) = false by simp [h0]]
    go_enter Tryz.func64, Tryz.ntmps64
    go_wp2_with fail
    go_ret
    exact ⟨rfl, rfl⟩
theorem amay_any (w : World) (g gh : Nat) (wv hv rv : Value) (n : Nat) (ws rs : List Int) (a : Int) (h : AAt w g gh wv hv rv n ws rs) :
    Calls Tryz.prog 49 #[.pointer (some ⟨g, 0, none⟩), .int .i64 a] w fun e w' => e = .returned (.bool (decide (a = 0 ∨ isOb ws a))) ∧ w' = w := by
  obtain ⟨c0, c1, c2, _⟩ := three_cells h.blk
  have HH := hide (ahas_any w g gh wv hv rv n ws rs a h)
  by_cases h0 : a = 0
  · subst h0
    rw [show decide ((0 : Int) = 0 ∨ isOb ws 0) = true by simp]
    clear h HH
    go_enter Tryz.func49, Tryz.ntmps49
    go_wp2_with fail
    go_ret
    exact ⟨rfl, rfl⟩
  · have hb : (a == 0) = false := by simp [h0]
    rw [show decide (a = 0 ∨ isOb ws a) = decide (isOb ws a) by simp [h0]]
    unfold hasV at c2
    generalize decide (isOb ws a) = B at *
    clear h h0
    go_enter Tryz.func49, Tryz.ntmps49
    go_wp2_with fail
    refine Calls.mono (unhide HH) ?_
    rintro e w1 ⟨rfl, rfl⟩
    go_wp2_with fail
    go_ret
    exact ⟨rfl, rfl⟩
theorem aused_nil (w : World) : Calls Tryz.prog 16 #[.pointer none] w fun e w' => e = .returned (.int .i64 0) ∧ w' = w := by
  have HN := hide (anone_nil w)
  go_enter Tryz.func16, Tryz.ntmps16
  go_wp2_with fail
  refine Calls.mono (unhide HN) ?_
  rintro e w1 ⟨rfl, rfl⟩
  go_wp2_with fail
  go_ret
  exact ⟨rfl, rfl⟩
theorem aused_any (w : World) (g gh : Nat) (wv hv rv : Value) (n : Nat) (ws rs : List Int) (h : AAt w g gh wv hv rv n ws rs) :
    Calls Tryz.prog 16 #[.pointer (some ⟨g, 0, none⟩)] w fun e w' => e = .returned (.int .i64 (ws.length : Int)) ∧ w' = w := by
  obtain ⟨c0, c1, c2, _⟩ := three_cells h.blk
  obtain ⟨d0, d1, d2, _⟩ := three_cells h.hblk
  obtain ⟨p, c, rfl⟩ := ownsV_shape h.wown
  have HN := hide (anone_no w g gh _ hv rv n ws rs h)
  clear h
  go_enter Tryz.func16, Tryz.ntmps16
  go_wp2_with fail
  refine Calls.mono (unhide HN) ?_
  rintro e w1 ⟨rfl, rfl⟩
  go_wp2_with fail
  go_ret
  exact ⟨rfl, rfl⟩
theorem awords_nil (w : World) : Calls Tryz.prog 41 #[.pointer none] w fun e w' => e = .returned (.int .i64 0) ∧ w' = w := by
  have HN := hide (anone_nil w)
  go_enter Tryz.func41, Tryz.ntmps41
  go_wp2_with fail
  refine Calls.mono (unhide HN) ?_
  rintro e w1 ⟨rfl, rfl⟩
  go_wp2_with fail
  go_ret
  exact ⟨rfl, rfl⟩
theorem awords_any (w : World) (g gh : Nat) (wv hv rv : Value) (n : Nat) (ws rs : List Int) (h : AAt w g gh wv hv rv n ws rs) :
    Calls Tryz.prog 41 #[.pointer (some ⟨g, 0, none⟩)] w fun e w' => e = .returned (.int .i64 (n : Int)) ∧ w' = w := by
  obtain ⟨c0, c1, c2, _⟩ := three_cells h.blk
  have HN := hide (anone_no w g gh _ hv rv n ws rs h)
  clear h
  go_enter Tryz.func41, Tryz.ntmps41
  go_wp2_with fail
  refine Calls.mono (unhide HN) ?_
  rintro e w1 ⟨rfl, rfl⟩
  go_wp2_with fail
  go_ret
  exact ⟨rfl, rfl⟩
/-- A root. -/
def rootP (rs : List Int) (s : Int) : Int := if 0 ≤ s ∧ s < 16 then wd rs s.toNat else 0
theorem aroot_nil (s : Int) (w : World) : Calls Tryz.prog 30 #[.pointer none, .int .i64 s] w fun e w' => e = .returned (.int .i64 0) ∧ w' = w := by
  have HN := hide (anone_nil w)
  go_enter Tryz.func30, Tryz.ntmps30
  go_wp2_with fail
  refine Calls.mono (unhide HN) ?_
  rintro e w1 ⟨rfl, rfl⟩
  go_wp2_with fail
  go_ret
  exact ⟨rfl, rfl⟩
theorem aroot_any (w : World) (g gh : Nat) (wv hv rv : Value) (n : Nat) (ws rs : List Int) (s : Int) (h : AAt w g gh wv hv rv n ws rs) :
    Calls Tryz.prog 30 #[.pointer (some ⟨g, 0, none⟩), .int .i64 s] w fun e w' => e = .returned (.int .i64 (rootP rs s)) ∧ w' = w := by
  obtain ⟨c0, c1, c2, _⟩ := three_cells h.blk
  obtain ⟨d0, d1, d2, _⟩ := three_cells h.hblk
  have HN := hide (anone_no w g gh _ hv rv n ws rs h)
  have hS := aslot_any s w
  by_cases hs : 0 ≤ s ∧ s < 16
  · rw [show decide (0 ≤ s ∧ s < 16) = true by simp [hs]] at hS
    have HS := hide hS
    unfold rootP
    rw [if_pos hs]
    have hrow := h.rrow
    have hsl := h.ok.slots
    obtain ⟨p, c, rfl⟩ := ownsV_shape h.rown
    obtain ⟨bo, of1, co, e0, _, _, hcl⟩ := hrow.open (by intro e; have := congrArg List.length e; simp [hsl] at this)
    simp only [Value.slice.injEq] at e0
    obtain ⟨rfl, e1, rfl⟩ := e0
    obtain ⟨k, rfl⟩ := Int.eq_ofNat_of_zero_le hs.1
    have hc := hcl k (.int .i64 (wd rs k)) (by rw [List.getElem?_map, wd_get (by omega)]; rfl)
    have h16 : (k : Int) < 16 := hs.2
    rw [Int.toNat_natCast]
    generalize wd rs k = x at *
    clear h hrow hcl e1 hS hs hsl
    go_enter Tryz.func30, Tryz.ntmps30
    go_wp2_with fail
    refine Calls.mono (unhide HN) ?_
    rintro e w1 ⟨rfl, rfl⟩
    go_wp2_with fail
    refine Calls.mono (unhide HS) ?_
    rintro e w1 ⟨rfl, rfl⟩
    go_wp2_with fail
    go_ret
    exact ⟨rfl, rfl⟩
  · rw [show decide (0 ≤ s ∧ s < 16) = false by simp [hs]] at hS
    have HS := hide hS
    unfold rootP
    rw [if_neg hs]
    clear h hS hs
    go_enter Tryz.func30, Tryz.ntmps30
    go_wp2_with fail
    refine Calls.mono (unhide HN) ?_
    rintro e w1 ⟨rfl, rfl⟩
    go_wp2_with fail
    refine Calls.mono (unhide HS) ?_
    rintro e w1 ⟨rfl, rfl⟩
    go_wp2_with fail
    go_ret
    exact ⟨rfl, rfl⟩
end Go.Proofs.YtlbhhdldeaehkaaGreat

/- The reference of layer 14: Live, Words, is, Reaches. -/
namespace Go.Proofs.YtlbhhdldeaehkaaGreat
open Go.RowKit

/-- The marked places below k. -/
def liveM (m : List Bool) (k : Nat) : List Int := ((List.range k).filter (fun i : Nat => decide (m[i]? = some true))).map (fun i : Nat => (i : Int))
theorem liveM_yes {m : List Bool} {k : Nat} (h : m[k]? = some true) : liveM m (k + 1) = liveM m k ++ [(k : Int)] := by
  unfold liveM
  rw [List.range_succ, List.filter_append, List.map_append]
  simp [h]
theorem liveM_no {m : List Bool} {k : Nat} (h : ¬ m[k]? = some true) : liveM m (k + 1) = liveM m k := by
  unfold liveM
  rw [List.range_succ, List.filter_append, List.map_append]
  simp [h]
theorem liveM_len (m : List Bool) (k : Nat) : (liveM m k).length ≤ k := by
  unfold liveM
  rw [List.length_map]
  exact Nat.le_trans (List.length_filter_le _ _) (by simp)
theorem liveM_is {ws rs : List Int} {m : List Bool} (hh : heapB ws rs = true) (h : ∀ k : Nat, m[k]? = some true ↔ Rch ws rs (k : Int)) : LiveIs ws rs (liveM m ws.length) := by
  refine ⟨?_, fun a => ?_⟩
  · unfold liveM
    refine List.pairwise_map.2 ((List.Pairwise.filter _ List.pairwise_lt_range).imp fun {a b} h => ?_)
    omega
  · unfold liveM
    rw [List.mem_map]
    constructor
    · rintro ⟨k, hk, rfl⟩
      rw [List.mem_filter, decide_eq_true_eq] at hk
      exact (h k).1 hk.2
    · intro hr
      obtain ⟨s1, s2, s3, s4⟩ := isOb_size (rch_ob hh hr)
      refine ⟨a.toNat, List.mem_filter.2 ⟨List.mem_range.2 s3, decide_eq_true ((h a.toNat).2 (by rw [s4]; exact hr))⟩, s4⟩

set_option maxRecDepth 20000 in
set_option maxHeartbeats 2000000 in
theorem rlive14_any (s t : Value) (ws rs : List Int) (w : World) (hs : VRow w s (Uw ws)) (ht : VRow w t (Iw rs)) (hU : U32 ws) :
    Calls Tryz.prog 88 #[s, t] w fun e w' => ∃ v l, e = .returned (.tuple #[v, .int .i64 (chkE (rightB ws rs))]) ∧ LivD ws rs l ∧ w'.ownsRow w.heap.size 3 1 v l.length (Iw l) ∧ Below w.heap.size w w' := by
  have HC := hide (rright_any s t ws rs w hs ht hU)
  cases hb : rightB ws rs with
  | false =>
    rw [hb] at HC
    have HD := hide (show LivD ws rs [] from ⟨fun h => (by rw [hb] at h; cases h), fun _ => rfl⟩)
    clear hs ht hU hb
    go_enter Tryz.func88, Tryz.ntmps88
    go_wp2_with fail
    refine Calls.mono (unhide HC) ?_
    rintro e w1 ⟨rfl, b1⟩
    have HB1 := hide b1
    clear b1
    go_wp2_with fail
    go_ret2
    exact ⟨_, [], rfl, unhide HD, World.ownsRow_nil _ _ _ _, unhide HB1⟩
  | true =>
    rw [hb] at HC
    obtain ⟨i0, hi, hz0, hz1, hz2⟩ := info_parts Tryz.infoI64
    have HL := hide (fun w1 (b1 : Below w.heap.size w w1) => rmarks_any s t ws rs w1 (hs.below b1) (ht.below b1) hU hb)
    have HB := hide hb
    have HH := hide (right_parts hb).2.2.2.2
    have HWL := hide (right_parts hb).2.1
    clear hs ht hU hb
    go_enter Tryz.func88, Tryz.ntmps88
    go_wp2_with fail
    refine Calls.mono (unhide HC) ?_
    rintro e w1 ⟨rfl, b1⟩
    have HB1 := hide b1
    have HL1 := hide (unhide HL w1 b1)
    clear b1 HL
    go_wp2_with fail
    refine Calls.mono (unhide HL1) ?_
    rintro e w2 ⟨rfl, m, hm, hml, hmr, b2⟩
    have HB2 := hide ((unhide HB1).trans (b2.mono (unhide HB1).size))
    obtain ⟨g, hg⟩ : ∃ g, g = w1.heap.size := ⟨_, rfl⟩
    rw [← hg] at hm ⊢
    have HM := hide hm
    have HGL := hide (show g < w2.heap.size from (Array.getElem?_eq_some_iff.1 hm).1)
    have HML := hide hml
    have HLI := hide (liveM_is (unhide HH) hmr)
    clear hm hml hmr b2 hg
    go_wp2_with fail
    go_loopw [7, 8] (fun ov iv wr => ∃ (k : Nat), iv = .int .i64 (k : Int) ∧ k ≤ ws.length ∧ Hid (wr.ownsRow w2.heap.size 3 1 ov (liveM m k).length (Iw (liveM m k))) ∧ Hid (Below w2.heap.size w2 wr)) (fun _ iv _ => ws.length - (intOf iv).toNat)
    case atStart => exact ⟨0, rfl, Nat.zero_le _, World.ownsRow_nil _ _ _ _, Below.refl _ _⟩
    case round =>
      obtain ⟨k, rfl, hk, hown, hbr⟩ := hrel
      obtain ⟨p0, c0, rfl⟩ := ownsV_shape (unhide hown)
      have hkw : IntKind.i64.wrap ((k : Int) + 1) = (k : Int) + 1 := by have := unhide HWL; rw [IntKind.wrap_i64]; omega
      by_cases hlt : k < ws.length
      · have hkI : (k : Int) < (ws.length : Int) := by omega
        have hgb := ((unhide hbr).block g (unhide HGL)).trans (unhide HM)
        obtain ⟨b, hb⟩ : ∃ b, m[k]? = some b := ⟨m[k]'(by rw [unhide HML]; exact hlt), List.getElem?_eq_getElem _⟩
        have hcb : wr.cell? ⟨g, k, none⟩ = some (.bool b) := by
          rw [cell_of_row wr g k _ _ (0, 0) hgb]
          simp [hb]
        have HLT := hide hlt
        have HBR := hide (unhide hbr)
        cases b with
        | false =>
          have hn := liveM_no (m := m) (k := k) (by rw [hb]; simp)
          have HOW := hide (show wr.ownsRow w2.heap.size 3 1 (.slice p0 (liveM m k).length c0) (liveM m (k + 1)).length (Iw (liveM m (k + 1))) by rw [hn]; exact unhide hown)
          clear hn hown hbr hgb hb hlt hk
          go_wp2_with fail
          go_roundw
          case rel => exact ⟨k + 1, by go_num, unhide HLT, unhide HOW, unhide HBR⟩
          case measure => (have := unhide HLT; simp [intOf]; omega)
        | true =>
          have hn := liveM_yes (m := m) (k := k) hb
          have hlen := liveM_len m k
          have HN := hide hn
          have HLB := hide (show (liveM m k).length ≤ 1048576 by have := unhide HWL; omega)
          have HOX := hide (show (wr.alloc (.cells #[.int .i64 (k : Int)] 3)).ownsRow w2.heap.size 3 1 (.slice p0 (liveM m k).length c0) (liveM m k).length (Iw (liveM m k)) from ownsV_keep (F := fun _ => False) (unhide hown) (Keep.of_below ((Below.refl _ _).alloc (Nat.le_refl _) _)) (fun _ _ => id))
          have HNW := hide (show ∀ (i : Nat) (u : Value), [Value.int .i64 (k : Int)][i]? = some u → (wr.alloc (.cells #[.int .i64 (k : Int)] 3)).cell? ((⟨wr.heap.size, 0, none⟩ : Addr).add i) = some u from fun i u hi => by match i, hi with | 0, hi => (simp at hi; subst hi; simp [Addr.add]))
          have HGS := hide (show w2.heap.size ≤ (wr.alloc (.cells #[.int .i64 (k : Int)] 3)).heap.size by rw [World.size_alloc]; have := (unhide hbr).size; omega)
          obtain ⟨L, hL⟩ : ∃ L, L = liveM m k := ⟨_, rfl⟩
          rw [← hL] at HN HLB HOX ⊢
          clear hn hlen hown hbr hgb hb hlt hk hL
          go_wp2_with (first
            | (at_builtin; refine wpList_append_gen rfl _ _ 32 rfl w2.heap.size 3 i0 (.int .i64 0) Tryz.underlying32 hi hz0 1 8 (by omega) hz1 hz2 rfl (.slice p0 L.length c0) L.length (Iw L) rfl (unhide HOX) ⟨wr.heap.size, 0, none⟩ 1 1 [.int .i64 (k : Int)] rfl rfl (unhide HNW) (by intro u hu; simp at hu; subst hu; rfl) (by have := unhide HLB; unfold maxLen; omega) (by have := unhide HLB; omega) (unhide HGS) ?_))
          intro v6 w6 hown6 hgrow6 hob6
          have HF := hide (show w6.ownsRow w2.heap.size 3 1 v6 (liveM m (k + 1)).length (Iw (liveM m (k + 1))) by rw [unhide HN]; simpa using hown6)
          have HB6 := hide (((unhide HBR).trans ((Below.refl _ wr).alloc (unhide HBR).size _)).grown hgrow6 (by have := unhide HGS; exact this) (fun q e => ((unhide HOX).lt q e).1))
          obtain ⟨p6, c6, rfl⟩ := ownsV_shape hown6
          clear hown6 hgrow6 hob6
          go_wp2_with fail
          go_roundw
          case rel => exact ⟨k + 1, by go_num, unhide HLT, unhide HF, unhide HB6⟩
          case measure => (have := unhide HLT; simp [intOf]; omega)
      · have hke : k = ws.length := by omega
        subst hke
        have hge : ¬ (ws.length : Int) < (ws.length : Int) := by omega
        have HE := hide (show LivD ws rs (liveM m ws.length) ∧ wr.ownsRow w.heap.size 3 1 (.slice p0 (liveM m ws.length).length c0) (liveM m ws.length).length (Iw (liveM m ws.length)) ∧ Below w.heap.size w wr from
          ⟨⟨fun _ => unhide HLI, fun h => (by rw [unhide HB] at h; cases h)⟩, ownsRow_base_a (unhide hown) (unhide HB2).size, (unhide HB2).trans ((unhide hbr).mono (unhide HB2).size)⟩)
        clear hown hbr hlt hk hkw
        go_wp2_with fail
        go_ret2
        exact ⟨_, rfl, _, unhide HE⟩

set_option maxRecDepth 20000 in
set_option maxHeartbeats 2000000 in
theorem rwords14_any (s t : Value) (ws rs : List Int) (w : World) (hs : VRow w s (Uw ws)) (ht : VRow w t (Iw rs)) (hU : U32 ws) :
    Calls Tryz.prog 74 #[s, t] w fun e w' => ∃ l, e = .returned (.tuple #[.int .i64 (sumW ws l), .int .i64 (chkE (rightB ws rs))]) ∧ LivD ws rs l ∧ Below w.heap.size w w' := by
  have HC := hide (rlive14_any s t ws rs w hs ht hU)
  have HS := hide hs
  have HU := hide hU
  obtain ⟨a, cap, rfl, g1, g2, g3⟩ := hs.shape
  have hlw : (Uw ws).length = ws.length := by simp
  rw [hlw] at HC HS ⊢
  generalize hE : chkE (rightB ws rs) = E at *
  clear hs ht hU g1 g2 g3 hlw hE
  go_enter Tryz.func74, Tryz.ntmps74
  go_wp2_with fail
  refine Calls.mono (unhide HC) ?_
  rintro e w1 ⟨v, l, rfl, hli, hrow, b1⟩
  have hob : (∀ x ∈ l, isOb ws x) ∧ l.length ≤ 1048576 := by
    cases hb : rightB ws rs with
    | false => rw [hli.2 hb]; simp
    | true =>
      have h1 := hli.1 hb
      obtain ⟨r1, r2, r3, r4, r5⟩ := right_parts hb
      have h2 : ∀ x ∈ l, isOb ws x := fun x hx => rch_ob r5 ((h1.2 x).1 hx)
      refine ⟨h2, Nat.le_trans (obs_count ws l (h1.1.imp fun {a b} h => by omega) h2) r2⟩
  obtain ⟨pv, cv, rfl⟩ := ownsV_shape hrow
  have HVR := hide (vrow_of_owns (vs := Iw l) (s := .slice pv l.length cv) (by simpa using hrow))
  have HOB := hide hob
  have HLI := hide hli
  have HB1 := hide b1
  clear hli hrow b1 hob
  go_wp2_with fail
  go_loopw [8, 9] (fun sv iv wr => ∃ (k : Nat), iv = .int .i64 (k : Int) ∧ sv = .int .i64 (sumW ws (l.take k)) ∧ k ≤ l.length ∧ wr = w1) (fun _ iv _ => l.length - (intOf iv).toNat)
  case atStart => exact ⟨0, rfl, rfl, Nat.zero_le _, rfl⟩
  case round =>
    obtain ⟨k, rfl, rfl, hk, rfl⟩ := hrel
    have hkw : IntKind.i64.wrap ((k : Int) + 1) = (k : Int) + 1 := by have := (unhide HOB).2; rw [IntKind.wrap_i64]; omega
    by_cases hlt : k < l.length
    · have hkI : (k : Int) < (l.length : Int) := by omega
      obtain ⟨bo, of1, co, e0, _, _, hcl⟩ := (unhide HVR).open (by intro e; have := congrArg List.length e; simp at this; rw [this] at hlt; simp at hlt)
      simp only [Value.slice.injEq, List.length_map] at e0
      obtain ⟨rfl, e1, rfl⟩ := e0
      have hc0 := hcl k (.int .i64 l[k]) (by rw [List.getElem?_map, List.getElem?_eq_getElem hlt]; rfl)
      obtain ⟨s1, s2, s3, s4⟩ := isOb_size ((unhide HOB).1 l[k] (List.getElem_mem hlt))
      obtain ⟨p, hp⟩ : ∃ p : Nat, (p : Int) = l[k] := ⟨_, s4⟩
      have htk : sumW ws (l.take (k + 1)) = sumW ws (l.take k) + wd ws p / 4096 := by
        rw [List.take_succ_eq_append_getElem hlt, sumW_snoc, ← hp]; simp
      rw [← hp] at hc0 s1 s2 s3
      simp only [Int.toNat_natCast] at s1 s2 s3
      obtain ⟨bk, off, cz, e5, _, _, hwl⟩ := (unhide HS).open (by intro e; have := congrArg List.length e; simp at this; rw [this] at s3; simp at s3)
      simp only [Value.slice.injEq, List.length_map] at e5
      obtain ⟨rfl, e6, rfl⟩ := e5
      have hw0 := hwl p _ (by rw [List.getElem?_map, wd_get s3]; rfl)
      have hcw := ((unhide HB1).cell (World.block_lt_of_cell? w _ hw0)).trans hw0
      obtain ⟨u0, u1⟩ := (unhide HU).wd p
      have HSZ := hide (fun w => rsize_t (wd ws p) w u0 u1)
      have hpI : (p : Int) < (ws.length : Int) := by omega
      have hbd := sumW_bounds (unhide HU) (l.take k)
      have hwr : IntKind.i64.wrap (sumW ws (l.take k) + wd ws p / 4096) = sumW ws (l.take (k + 1)) := by
        rw [htk, IntKind.wrap_i64]
        have h1 : (l.take k).length ≤ 1048576 := by rw [List.length_take]; have := (unhide HOB).2; omega
        omega
      have HLT := hide hlt
      generalize wd ws p = x at *
      generalize sumW ws (l.take k) = y at *
      generalize hz : sumW ws (l.take (k + 1)) = z at *
      have HZ := hide hz
      clear hlt hk e1 hcl s1 s2 s3 s4 hp htk e6 hwl hw0 hbd hz
      go_wp2_with fail
      refine Calls.mono (unhide HSZ _) ?_
      rintro e w3 ⟨rfl, rfl⟩
      go_wp2_with fail
      go_roundw
      case rel => exact ⟨k + 1, by go_num, by rw [unhide HZ], unhide HLT, by first | rfl | trivial⟩
      case measure => (have := unhide HLT; simp [intOf]; omega)
    · have hke : k = l.length := by omega
      subst hke
      have hge : ¬ (l.length : Int) < (l.length : Int) := by omega
      rw [List.take_length]
      clear hlt hk hkw
      go_wp2_with fail
      go_ret2
      exact ⟨l, rfl, unhide HLI, unhide HB1⟩

theorem atR_ob {ws : List Int} {a : Int} : (atR ws a).2.2.2 = if isOb ws a then 0 else 6 := by
  unfold atR
  cases hf : fndO ws a with
  | none =>
    have h : ¬ isOb ws a := fun h => by
      unfold fndO at hf
      have := List.find?_eq_none.1 hf _ h.2.2
      have h2 := h.1
      simp only [decide_eq_true_eq] at this
      omega
    rw [if_neg h]
  | some x =>
    unfold fndO at hf
    have h1 := List.mem_of_find?_eq_some hf
    have h2 := List.find?_some hf
    simp only [decide_eq_true_eq] at h2
    obtain ⟨o1, o2, o3⟩ := obs_mem h1
    have h3 : isOb ws a := ⟨by omega, by have := o3.1; omega, by
      have e : a.toNat = x.1 := by omega
      rw [e, ← o2]
      exact h1⟩
    rw [if_pos h3]

end Go.Proofs.YtlbhhdldeaehkaaGreat

/- The reference of layer 15: Follow, Compact. -/
namespace Go.Proofs.YtlbhhdldeaehkaaGreat
open Go.RowKit

theorem results_tmp4 {fn : Func} {t u v x : Tmp} (h : fn.results = #[.tmp t, .tmp u, .tmp v, .tmp x]) (tmps : Array Value) (P : Program) (w : World) :
    (results fn tmps).run P w = .ok (.tuple #[tmps.getD t undef, tmps.getD u undef, tmps.getD v undef, tmps.getD x undef]) w := by
  simp [results, h]
theorem toP_snoc {ws : List Int} {a x : Int} : ∀ {M : List Int} {p : Nat}, a ∉ M → toP ws (M ++ [a]) p x = if x = a then p + sums ws M else toP ws M p x
  | [], p, _ => by simp [toP, sums]
  | b :: M, p, h => by
    have hb : a ≠ b := fun e => h (e ▸ List.mem_cons_self ..)
    have hM : a ∉ M := fun e => h (List.mem_cons_of_mem _ e)
    simp only [List.cons_append, toP, sums]
    by_cases e : x = b
    · have hx : ¬ x = a := fun e2 => hb (e2.symm.trans e)
      rw [if_pos e, if_neg hx, if_pos e]
    · rw [if_neg e, if_neg e, toP_snoc hM]
      split
      · omega
      · rfl
theorem toA_snoc {ws M : List Int} {a x : Int} (h : a ∉ M) : toA ws (M ++ [a]) x = if x = a then ((1 + sums ws M : Nat) : Int) else toA ws M x := by
  unfold toA
  rw [toP_snoc h]
  split <;> rfl
/-- The table of new places. -/
def tabL (ws M : List Int) : List Int := (List.range ws.length).map fun j : Nat => toA ws M (j : Int)
theorem tabL_snoc {ws M : List Int} {a : Nat} (h : (a : Int) ∉ M) (ha : a < ws.length) : (tabL ws M).set a ((1 + sums ws M : Nat) : Int) = tabL ws (M ++ [(a : Int)]) := by
  apply List.ext_getElem?
  intro k
  unfold tabL
  rw [List.getElem?_set]
  by_cases e : a = k
  · subst e
    rw [if_pos rfl]
    simp [ha, toA_snoc h]
  · rw [if_neg e]
    by_cases hk : k < ws.length
    · have : ¬ (k : Int) = (a : Int) := fun x => e (by omega)
      simp [hk, toA_snoc h, this]
    · simp [hk]
theorem tabL_get {ws M : List Int} {k : Nat} (h : k < ws.length) : (tabL ws M)[k]? = some (toA ws M (k : Int)) := by simp [tabL, h]
theorem toA_zero (ws : List Int) (x : Int) : toA ws [] x = 0 := rfl
theorem tabL_nil (ws : List Int) : tabL ws [] = List.replicate ws.length 0 := by
  apply List.ext_getElem?
  intro k
  unfold tabL
  by_cases h : k < ws.length
  · simp [h, toA_zero]
  · simp [h]

/-- The table and the list of what went, in memory. -/
structure TbP (w : World) (g : Nat) (lv : Value) (m : List Int) (L : List (Int × Int)) : Prop where
  blk : w.heap[g]? = some (.cells (Iw m).toArray 3 (0, 0))
  own : w.ownsRow (g + 1) 123 2 lv L.length (posC L)
theorem TbP.mark {w : World} {g : Nat} {lv : Value} {m : List Int} {L : List (Int × Int)} (h : TbP w g lv m L) (k : Nat) (v : Int) : TbP (w.setCell ⟨g, k, none⟩ (.int .i64 v)) g lv (m.set k v) L := by
  refine ⟨?_, ownsV_keep h.own (keep_set w g k (.int .i64 v)) (fun b e => by have := (h.own.lt b e).1; omega)⟩
  rw [heap_setCell_same w g k _ _ (.int .i64 v) h.blk]
  simp
theorem TbP.cell {w : World} {g : Nat} {lv : Value} {m : List Int} {L : List (Int × Int)} (h : TbP w g lv m L) {k : Nat} {v : Int} (hk : m[k]? = some v) : w.cell? ⟨g, k, none⟩ = some (.int .i64 v) := by
  rw [cell_of_row w g k _ _ (0, 0) h.blk]
  simp [hk]
theorem TbP.push {w w2 : World} {g : Nat} {lv lv' : Value} {m : List Int} {L : List (Int × Int)} {x : Int × Int} (h : TbP w g lv m L) (hown : w2.ownsRow (g + 1) 123 2 lv' (L.length + 1) (posC L ++ [.int .i64 x.1, .int .i64 x.2])) (hg : (w.alloc (.cells #[.int .i64 x.1, .int .i64 x.2] 123)).grownBy w2 lv.ownBlock) :
    TbP w2 g lv' m (L ++ [x]) ∧ Below (g + 1) w w2 := by
  have hgl : g < w.heap.size := (Array.getElem?_eq_some_iff.1 h.blk).1
  have hne : ∀ k, k < g + 1 → lv.ownBlock ≠ some k := fun k hk e => by have := (h.own.lt k e).1; omega
  have hkeep : ∀ k, k < g + 1 → w2.heap[k]? = w.heap[k]? := fun k hk =>
    (hg.block k (by rw [World.size_alloc]; omega) (fun e => hne k hk e.symm)).trans (Below.heap_alloc _ _ k (by omega))
  refine ⟨⟨(hkeep g (by omega)).trans h.blk, by rw [posC_snoc, List.length_append]; exact hown⟩, hg.os, hg.tape, hg.output, ?_, hkeep⟩
  have := hg.size; rw [World.size_alloc] at this; omega
/-- One more behind a row of the call's own: laid aside first, then appended. -/
theorem own_push {w w2 : World} {base e n : Nat} {lv y : Value} {xs : List Value} {b0 : Nat} (h : w.ownsRow base e 1 lv n xs) (hb : base ≤ w.heap.size) (h0 : b0 ≤ base) (hg : (w.alloc (.cells #[y] e)).grownBy w2 lv.ownBlock) : Below b0 w w2 := by
  have hs := hg.size
  rw [World.size_alloc] at hs
  exact ⟨hg.os, hg.tape, hg.output, by omega, fun k hk => (hg.block k (by rw [World.size_alloc]; omega) (fun e => by have := (h.lt k e.symm).1; omega)).trans (Below.heap_alloc _ _ k (by omega))⟩
end Go.Proofs.YtlbhhdldeaehkaaGreat
