/- Texts of ours, one behind the other: MkSorted, MkLive, MkLaw, MkRef2. -/
import Derived.Test.YtgnfgeebcphglaaG3
import Derived.Test.YtgnfgeebcphglaaG14
import Derived.Test.YtgnfgeebcphglaaG16
import Derived.Maps.RangeWalk
/- The library's sort of a map's keys: slices.Sorted(maps.Keys(m)) of a map of the call's own. -/
namespace Go.Proofs.Ytgnfgeebcphglaa
open Go.RowKit Go.Maps Go.Sort Go.Shelf

/-- slices.Sort's two contracts, at the fence that asks nothing. -/
theorem Try.sortsA (m : Nat) : AnyZI.SortsIn Try.prog Try.sortedA_ren Fence.wide m :=
  ⟨fun blk off cap ss W hH hblk hsz => callsIn_wide.2 (AnyM.slices_Sort_int Try.sortA blk off cap ss W hH hblk hsz),
   fun p cap W => callsIn_wide.2 (AnyM.slices_Sort_int_none Try.sortA p cap W)⟩

theorem mkeys_any (mb : Option Nat) (W : World) : Calls Try.prog 23 #[.map mb] W fun e w' => e = .returned (.func (.func 41) #[] #[.pointer (some ⟨W.heap.size, 0, none⟩)]) ∧ w' = W.alloc (.cells #[.map mb] 52) :=
  (callsIn_wide (n := 5)).1 (AnyZI.keys_in Try.keysA Fence.wide 5 trivial rfl mb W)

theorem szM_has {w : World} {ws S : List Int} {b n : Nat} (h : MapIs Try.prog 3 w b n (szM ws S)) (hn : S.Nodup) : ∃ D : DataW Value, w.ownsMap Try.prog 3 heldR b n D ∧ S.Perm (intKeys D) ∧ Maps.size D = S.length ∧ (∀ x, Maps.has D (.int .i64 x) = decide (x ∈ S)) ∧ ∀ x z, D.atKey (.int .i64 x) (.held z) = .held ((szM ws S x).getD z) := by
  obtain ⟨D, h1, h2, h3⟩ := h
  have hC : CollectedI D (fun _ => false) S := ⟨hn, fun x => by
    rw [(h3 x).1]
    unfold szM
    by_cases hx : x ∈ S
    · simp [hx]
    · simp [hx]⟩
  have hP := hC.perm h1 (Maps.int_keyed Try.underlying3) Try.underlying3 (fun _ => rfl)
  refine ⟨D, h1, hP, ?_, fun x => ?_, fun x z => (h3 x).2 z⟩
  · obtain ⟨es, rfl⟩ := h2
    rw [hP.length_eq]
    simp [intKeys, Maps.size]
  · rw [(h3 x).1]
    unfold szM
    by_cases hx : x ∈ S
    · simp [hx]
    · simp [hx]

theorem live_sorted {ws rs S ss : List Int} (hn : S.Nodup) (hm : ∀ a, a ∈ S ↔ Rch ws rs a) (hp : ss.Perm S) : LiveIs ws rs (ss.mergeSort fun x y => decide (x ≤ y)) := by
  have tr : ∀ a b c : Int, leI a b = true → leI b c = true → leI a c = true := fun a b c h1 h2 => by simp only [leI, decide_eq_true_eq] at *; exact Int.le_trans h1 h2
  have to : ∀ a b : Int, (leI a b || leI b a) = true := fun a b => by simp only [leI, Bool.or_eq_true, decide_eq_true_eq]; exact Int.le_total a b
  have h1 := List.pairwise_mergeSort tr to ss
  have h2 : (ss.mergeSort leI).Nodup := ((List.mergeSort_perm ss leI).trans hp).nodup_iff.2 hn
  refine ⟨?_, fun a => ?_⟩
  · have h3 := List.Pairwise.and h1 h2
    refine h3.imp fun {a b} h => ?_
    have h4 := h.1
    simp only [leI, decide_eq_true_eq] at h4
    have h5 : a ≠ b := h.2
    omega
  · rw [← hm a]
    exact ((List.mergeSort_perm ss leI).trans hp).mem_iff

set_option maxHeartbeats 1000000 in
theorem msorted_any (w : World) (b : Nat) (ws rs S : List Int) (h : MapIs Try.prog 3 w b S.length (szM ws S)) (hn : S.Nodup) (hl : S.length ≤ 1048576) (hm : ∀ a, a ∈ S ↔ Rch ws rs a) :
    Calls Try.prog 22 #[.func (.func 41) #[] #[.pointer (some ⟨w.heap.size, 0, none⟩)]] (w.alloc (.cells #[.map (some b)] 52)) fun e w' => ∃ v l, e = .returned v ∧ LiveIs ws rs l ∧ w'.ownsRow w.heap.size 3 1 v l.length (Iw l) ∧ Below w.heap.size w w' := by
  obtain ⟨D, hown, hP, hsz, _, _⟩ := szM_has h hn
  have hbl := hown.lt
  have hseq : SeqGives Fence.wide 2 Try.prog 41 #[.pointer (some ⟨w.heap.size, 0, none⟩)] encZ (fun ss => ss.Perm (intKeys D)) (Maps.size D) (w.alloc (.cells #[.map (some b)] 52)) :=
    AnyZI.keys_gives (ρ := Try.keysA_ren) { Try.keysA with } Fence.wide _ trivial rfl (by omega) w.heap.size b S.length D _ (by simp) (by simp) (by
      obtain ⟨es, clock, hb, Ft, hs, hD⟩ := hown
      exact ⟨es, clock, (Below.heap_alloc _ _ b hbl).trans hb, Ft, hs, hD⟩)
  have cS := AnyZI.sorted_in Try.sortedA Fence.wide 5 trivial trivial trivial trivial rfl (by omega) (Try.sortsA _) (enters_of Try.func40 (by kernel_rfl) rfl) 41 #[.pointer (some ⟨w.heap.size, 0, none⟩)] trivial (enters_of Try.func41 (by kernel_rfl) rfl) _ _ (by rw [hsz]; unfold maxLen; omega) (by rw [hsz]; omega) _ hseq
  change CallsIn _ _ Try.prog 22 _ _ _ at cS
  refine (callsIn_wide.1 cS).mono ?_
  rintro e w' ⟨v, ss, rfl, hS, hrow, _, hb⟩
  refine ⟨v, _, rfl, live_sorted hn hm (hS.trans hP.symm), ?_, ((Below.refl _ w).alloc (Nat.le_refl _) _).trans (hb.mono (by simp))⟩
  rw [List.length_mergeSort]
  exact ownsRow_base_a hrow (by simp : w.heap.size ≤ _)
end Go.Proofs.Ytgnfgeebcphglaa

/- The landed package mark: Live, Words, Reaches. -/
namespace Go.Proofs.Ytgnfgeebcphglaa
open Go.RowKit Go.Maps

/-- What Live answers. -/
def LivD (ws rs l : List Int) : Prop := (rightB ws rs = true → LiveIs ws rs l) ∧ (rightB ws rs = false → l = [])
theorem LivD.unique {ws rs l m : List Int} (h : LivD ws rs l) (h2 : LivD ws rs m) : l = m := by
  cases hb : rightB ws rs with
  | false => rw [h.2 hb, h2.2 hb]
  | true => exact (h.1 hb).unique (h2.1 hb)

set_option maxRecDepth 20000 in
set_option maxHeartbeats 2000000 in
theorem mlive_any (s t : Value) (ws rs : List Int) (w : World) (hs : VRow w s (Uw ws)) (ht : VRow w t (Iw rs)) (hU : U32 ws) (hl : ws.length < 70368744177664) (hr : rs.length < 35184372088832) :
    Calls Try.prog 9 #[s, t] w fun e w' => ∃ v l, e = .returned (.tuple #[v, .int .i64 (chkE (rightB ws rs))]) ∧ LivD ws rs l ∧ w'.ownsRow w.heap.size 3 1 v l.length (Iw l) ∧ Below w.heap.size w w' := by
  have HC := hide (ccheck_any s t ws rs w hs ht hU hl hr)
  cases hb : rightB ws rs with
  | false =>
    rw [hb, show chkE false = 11 from rfl] at HC
    have HD := hide (show LivD ws rs [] from ⟨fun h => (by rw [hb] at h; cases h), fun _ => rfl⟩)
    clear hs ht hU hl hr hb
    go_enter Try.func9, Try.ntmps9
    go_wp2_with fail
    refine Calls.mono (unhide HC) ?_
    rintro e w1 ⟨rfl, b1⟩
    have HB1 := hide b1
    clear b1
    go_wp2_with fail
    go_ret2
    exact ⟨_, [], rfl, unhide HD, World.ownsRow_nil _ _ _ _, unhide HB1⟩
  | true =>
    rw [hb, show chkE true = 0 from rfl] at HC
    have HL := hide (fun w1 (b1 : Below w.heap.size w w1) => mliving_any s t ws rs w1 (hs.below b1) (ht.below b1) hU hb)
    have HB := hide hb
    clear hs ht hU hl hr hb
    go_enter Try.func9, Try.ntmps9
    go_wp2_with fail
    refine Calls.mono (unhide HC) ?_
    rintro e w1 ⟨rfl, b1⟩
    have HB1 := hide b1
    have HL1 := hide (unhide HL w1 b1)
    clear b1 HL
    go_wp2_with fail
    refine Calls.mono (unhide HL1) ?_
    rintro e w2 ⟨b, S, rfl, hm, hbb, hn, hls, hms, b2⟩
    have HB2 := hide ((unhide HB1).trans (b2.mono (unhide HB1).size))
    have HK := hide (mkeys_any (some b) w2)
    have HSO := hide (msorted_any w2 b ws rs S hm hn hls hms)
    clear hm hbb hn hls hms b2
    go_wp2_with fail
    refine Calls.mono (unhide HK) ?_
    rintro e w3 ⟨rfl, rfl⟩
    go_wp2_with fail
    refine Calls.mono (unhide HSO) ?_
    rintro e w4 ⟨v, l, rfl, hli, hrow, b4⟩
    have HF := hide (show LivD ws rs l ∧ w4.ownsRow w.heap.size 3 1 v l.length (Iw l) ∧ Below w.heap.size w w4 from
      ⟨⟨fun _ => hli, fun h => (by rw [unhide HB] at h; cases h)⟩, ownsRow_base_a hrow (unhide HB2).size, (unhide HB2).trans (b4.mono (unhide HB2).size)⟩)
    clear hli hrow b4
    go_wp2_with fail
    go_ret2
    exact ⟨_, l, rfl, unhide HF⟩

/-- The sizes of objects, together. -/
def sumW (ws : List Int) : List Int → Int
  | [] => 0
  | a :: l => wd ws a.toNat / 4096 + sumW ws l
theorem sumW_perm {ws l m : List Int} (h : l.Perm m) : sumW ws l = sumW ws m := by
  induction h with
  | nil => rfl
  | cons a _ ih => simp only [sumW, ih]
  | swap a b l => simp only [sumW]; omega
  | trans _ _ h1 h2 => rw [h1, h2]
theorem sumW_snoc (ws l : List Int) (a : Int) : sumW ws (l ++ [a]) = sumW ws l + wd ws a.toNat / 4096 := by
  induction l with
  | nil => simp [sumW]
  | cons b l ih => simp only [List.cons_append, sumW, ih]; omega
theorem sumW_bounds {ws : List Int} (hU : U32 ws) : ∀ l : List Int, 0 ≤ sumW ws l ∧ sumW ws l ≤ (l.length : Int) * 1048576
  | [] => by simp [sumW]
  | a :: l => by
    obtain ⟨h1, h2⟩ := sumW_bounds hU l
    obtain ⟨u0, u1⟩ := hU.wd a.toNat
    simp only [sumW, List.length_cons]
    omega

set_option maxRecDepth 20000 in
set_option maxHeartbeats 2000000 in
theorem mwords_any (s t : Value) (ws rs : List Int) (w : World) (hs : VRow w s (Uw ws)) (ht : VRow w t (Iw rs)) (hU : U32 ws) (hl : ws.length < 70368744177664) (hr : rs.length < 35184372088832) :
    Calls Try.prog 11 #[s, t] w fun e w' => ∃ l, e = .returned (.tuple #[.int .i64 (sumW ws l), .int .i64 (chkE (rightB ws rs))]) ∧ LivD ws rs l ∧ Below w.heap.size w w' := by
  have HC := hide (ccheck_any s t ws rs w hs ht hU hl hr)
  cases hb : rightB ws rs with
  | false =>
    rw [hb, show chkE false = 11 from rfl] at HC
    have HD := hide (show LivD ws rs [] from ⟨fun h => (by rw [hb] at h; cases h), fun _ => rfl⟩)
    clear hs ht hU hl hr hb
    go_enter Try.func11, Try.ntmps11
    go_wp2_with fail
    refine Calls.mono (unhide HC) ?_
    rintro e w1 ⟨rfl, b1⟩
    have HB1 := hide b1
    clear b1
    go_wp2_with fail
    go_ret2
    exact ⟨[], rfl, unhide HD, unhide HB1⟩
  | true =>
    rw [hb, show chkE true = 0 from rfl] at HC
    have HL := hide (fun w1 (b1 : Below w.heap.size w w1) => mliving_any s t ws rs w1 (hs.below b1) (ht.below b1) hU hb)
    have HB := hide hb
    have HU := hide hU
    have HH := hide (right_parts hb).2.2.2.2
    have HWL := hide (right_parts hb).2.1
    clear hs ht hU hl hr hb
    go_enter Try.func11, Try.ntmps11
    go_wp2_with fail
    refine Calls.mono (unhide HC) ?_
    rintro e w1 ⟨rfl, b1⟩
    have HB1 := hide b1
    have HL1 := hide (unhide HL w1 b1)
    clear b1 HL
    go_wp2_with fail
    refine Calls.mono (unhide HL1) ?_
    rintro e w2 ⟨b, S, rfl, hm, hbb, hn, hls, hms, b2⟩
    obtain ⟨D, hown, hP, hsz, hhas, hatk⟩ := szM_has hm hn
    have HB2 := hide ((unhide HB1).trans (b2.mono (unhide HB1).size))
    have HS2 := hide (unhide HB2).size
    have HO := hide hown
    have HP := hide hP
    have HHA := hide hhas
    have HAT := hide hatk
    have HN := hide hn
    have HMS := hide hms
    clear hown hm hbb hn hls hms b2 hP hsz hhas hatk
    go_wp2_with (first
      | (at_range; refine wpList_range_own _ rfl _ 52 rfl 3 3 (Maps.int_keyed Try.underlying3) Try.underlying52 _ b S.length _ rfl (unhide HO) ?_; intro w0 hrg0 hg0 hs0)
      | go_in)
    go_frame
    have HB0 := hide ((unhide HB2).grown hg0 (unhide HB2).size (fun j hj => by cases hj))
    obtain ⟨r, hr⟩ : ∃ r, r = w2.heap.size := ⟨_, rfl⟩
    have HR := hide (show w.heap.size ≤ r by rw [hr]; exact unhide HS2)
    rw [← hr] at hrg0 ⊢
    clear hr hg0 hs0
    go_loopw [7] (fun sv wr => ∃ (left : Lit → Bool) (cnt : Nat) (ss : List Int), sv = .int .i64 (sumW ws ss) ∧ wr.ranges Try.prog 3 heldR b r S.length D left cnt ∧ Hid (CollectedI D left ss) ∧ Hid (Below w.heap.size w wr)) (fun _ wr => wr.rangeLeft b r)
    case atStart => exact ⟨_, _, [], rfl, hrg0, CollectedI.start D, unhide HB0⟩
    case round =>
      clear hrg0 HB0
      obtain ⟨left, cnt, ss, rfl, hrg, hC, hbr⟩ := hrel
      have hss : ss.Nodup ∧ ∀ x ∈ ss, x ∈ S := ⟨(unhide hC).1, fun x hx => by
        have := (((unhide hC).2 x).1 hx).1
        rw [unhide HHA x] at this
        exact of_decide_eq_true this⟩
      have hsl : ss.length ≤ ws.length := obs_count ws ss hss.1 fun x hx => rch_ob (unhide HH) ((unhide HMS x).1 (hss.2 x hx))
      have hbd := sumW_bounds (unhide HU) ss
      have HSB := hide (show 0 ≤ sumW ws ss ∧ sumW ws ss ≤ 1099511627776 by have := unhide HWL; omega)
      clear hss hsl hbd
      go_wp2_with (first
        | (at_next; refine wpList_next_ranges _ rfl _ rfl 3 (Maps.int_keyed Try.underlying3) heldR encZ id (fun key kl hk => by obtain ⟨x, hx, _⟩ := Maps.keyOf_i64 Try.underlying3 hk; exact ⟨x, hx⟩) (fun v _ _ => ⟨v, rfl⟩) b r S.length _ _ _ rfl hrg ?_ ?_)
        | go_in)
      · intro hc0 hl0
        have hp1 := (unhide hC).perm (unhide HO) (Maps.int_keyed Try.underlying3) Try.underlying3 hl0
        have hp2 : ss.Perm S := hp1.trans (unhide HP).symm
        have hli := live_sorted (unhide HN) (unhide HMS) (List.Perm.refl S)
        have hsum : sumW ws ss = sumW ws (S.mergeSort fun x y => decide (x ≤ y)) := sumW_perm (hp2.trans (List.mergeSort_perm S _).symm)
        have HE := hide (show ∃ l, (Ending.returned (.tuple #[.int .i64 (sumW ws ss), .int .i64 0]) : Ending) = .returned (.tuple #[.int .i64 (sumW ws l), .int .i64 (chkE true)]) ∧ LivD ws rs l ∧ Below w.heap.size w wr from
          ⟨_, by rw [hsum]; rfl, ⟨fun _ => hli, fun h => (by rw [unhide HB] at h; cases h)⟩, unhide hbr⟩)
        clear hp1 hp2 hli hsum hl0 hc0 hrg
        go_wp2_with fail
        go_ret2
        exact unhide HE
      · intro x c kl yd yp w4 cnt2 hkey hlk hv hat hrg2 hlt hg2 hs2 hen
        obtain ⟨x', ex, rfl, _⟩ := Maps.keyOf_i64 Try.underlying3 hkey
        obtain rfl : x = x' := encZ_inj ex
        have hyd : yd = .held c := by
          have h : some ((DataW.held c : DataW Value), ([] : List MemPlace)) = some (yd, yp) := hv
          simp only [Option.some.injEq, Prod.mk.injEq] at h
          exact h.1.symm
        have hxc : ∀ z, (szM ws S x).getD z = c := fun z => by
          have h := (unhide HAT x z).symm.trans (hat (.held z))
          rw [hyd] at h
          simpa using h
        have hxS : x ∈ S := by
          by_cases hx : x ∈ S
          · exact hx
          · exfalso
            unfold szM at hxc
            rw [if_neg hx] at hxc
            have h1 := hxc (.bool true)
            have h2 := hxc (.bool false)
            rw [← h1] at h2
            simp at h2
        have hc9 : c = .int .i64 (wd ws x.toNat / 4096) := by
          have h := hxc (.bool true)
          unfold szM at h
          rw [if_pos hxS] at h
          exact h.symm
        subst hc9
        obtain ⟨u0, u1⟩ := (unhide HU).wd x.toNat
        have hwr : IntKind.i64.wrap (sumW ws ss + wd ws x.toNat / 4096) = sumW ws (ss ++ [x]) := by rw [sumW_snoc, IntKind.wrap_i64]; have := unhide HSB; omega
        have HC2 := hide ((unhide hC).step hlk hat)
        have HB4 := hide ((unhide hbr).grown hg2 (unhide hbr).size (fun j hj => by cases hj; exact unhide HR))
        have HRG := hide hrg2
        have HME := hide (show wr.rangeLeft b r > w4.rangeLeft b r by rw [hrg2.left_eq, hrg.left_eq]; exact hlt)
        generalize wd ws x.toNat / 4096 = y at *
        generalize hz : sumW ws (ss ++ [x]) = z at *
        have HZ := hide hz
        clear hz hrg2 hlt hg2 hs2 hxS hxc hv hat hlk hkey ex hbr hC hrg
        go_wp2_with fail
        go_roundw
        case rel => exact ⟨_, cnt2, ss ++ [x], by rw [unhide HZ], unhide HRG, unhide HC2, unhide HB4⟩
        case measure => exact unhide HME

instance (ws : List Int) (a : Int) : Decidable (isOb ws a) := by unfold isOb; infer_instance
theorem isPl_iff {ws : List Int} {a : Int} : isPl ws.length (obs ws 1) a = true ↔ a = 0 ∨ isOb ws a := by
  constructor
  · intro h
    by_cases h0 : a = 0
    · exact Or.inl h0
    · exact Or.inr (isOb_of_pl h h0)
  · rintro (h | ⟨h1, h2, h3⟩)
    · subst h; simp [isPl]
    · unfold isPl
      simp only [Bool.or_eq_true, Bool.and_eq_true, decide_eq_true_eq]
      exact Or.inr ⟨⟨h1, h2⟩, List.mem_map.2 ⟨_, h3, rfl⟩⟩
/-- Are there objects at both places? -/
def okR (ws : List Int) (a b : Int) : Bool := decide (isOb ws a) && decide (isOb ws b)
def reaE (ws : List Int) (a b : Int) : Int := if rightB ws [] = true then (if okR ws a b = true then 0 else 6) else 11
/-- What Reaches answers. -/
def ReaD (ws : List Int) (a b : Int) (B : Bool) : Prop := (rightB ws [] = true → okR ws a b = true → (B = true ↔ Rch ws [a] b)) ∧ (¬ (rightB ws [] = true ∧ okR ws a b = true) → B = false)
theorem ReaD.unique {ws : List Int} {a b : Int} {B C : Bool} (h : ReaD ws a b B) (h2 : ReaD ws a b C) : B = C := by
  by_cases hc : rightB ws [] = true ∧ okR ws a b = true
  · have h3 := (h.1 hc.1 hc.2).trans (h2.1 hc.1 hc.2).symm
    cases B <;> cases C <;> simp_all
  · rw [h.2 hc, h2.2 hc]
theorem right_one {ws : List Int} {a : Int} (h : rightB ws [] = true) (ha : isOb ws a) : rightB ws [a] = true :=
  right_iff'.2 ⟨h, by simp, fun r hr => by rw [List.mem_singleton.1 hr]; exact isPl_iff.2 (Or.inr ha)⟩
theorem right_two {ws : List Int} {a b : Int} (h : rightB ws [] = true) (ha : a ≠ 0) (hb : b ≠ 0) : rightB ws [a, b] = okR ws a b := by
  have h1 : rightB ws [a, b] = true ↔ okR ws a b = true := by
    rw [right_iff']
    unfold okR
    simp only [Bool.and_eq_true, decide_eq_true_eq]
    constructor
    · rintro ⟨_, _, h2⟩
      exact ⟨(isPl_iff.1 (h2 a (by simp))).resolve_left ha, (isPl_iff.1 (h2 b (by simp))).resolve_left hb⟩
    · rintro ⟨h2, h3⟩
      refine ⟨h, by simp, fun r hr => ?_⟩
      rcases List.mem_cons.1 hr with rfl | hr
      · exact isPl_iff.2 (Or.inr h2)
      · rw [List.mem_singleton.1 hr]; exact isPl_iff.2 (Or.inr h3)
  cases h2 : rightB ws [a, b] <;> cases h3 : okR ws a b <;> simp_all
/-- A new row of numbers. -/
theorem vrow_new (w : World) (l : List Int) (t : TypeId) (hl : l.length ≤ 16) : VRow (w.alloc (.cells (Iw l).toArray t)) (.slice (some ⟨w.heap.size, 0, none⟩) l.length l.length) (Iw l) :=
  ⟨_, l.length, by simp, by simp, by unfold maxLen; omega, by simp, Or.inr ⟨w.heap.size, 0, rfl, fun j v hv => by
    rw [Nat.zero_add, cell_of_row _ w.heap.size j _ _ (0, 0) (World.alloc_heap_new w _)]
    simpa using hv⟩⟩

set_option maxRecDepth 20000 in
set_option maxHeartbeats 2000000 in
theorem mreaches_any (s : Value) (ws : List Int) (a b : Int) (w : World) (hs : VRow w s (Uw ws)) (hU : U32 ws) (hl : ws.length < 70368744177664) (hb : (Lit.int .i64 b).wf = true) :
    Calls Try.prog 13 #[s, .int .i64 a, .int .i64 b] w fun e w' => ∃ B, e = .returned (.tuple #[.bool B, .int .i64 (reaE ws a b)]) ∧ ReaD ws a b B ∧ Below w.heap.size w w' := by
  have HC := hide (ccheck_any s (.slice none 0 0) ws [] w hs (VRow.nil _) hU hl (by simp))
  cases hr : rightB ws [] with
  | false =>
    rw [hr, show chkE false = 11 from rfl] at HC
    have HD := hide (show ReaD ws a b false ∧ reaE ws a b = 11 from ⟨⟨fun h => (by rw [hr] at h; cases h), fun _ => rfl⟩, by unfold reaE; rw [hr]; rfl⟩)
    clear hs hU hl hb hr
    go_enter Try.func13, Try.ntmps13
    go_wp2_with fail
    refine Calls.mono (unhide HC) ?_
    rintro e w1 ⟨rfl, b1⟩
    have HB1 := hide b1
    clear b1
    go_wp2_with fail
    go_ret2
    exact ⟨false, by rw [(unhide HD).2]; rfl, (unhide HD).1, unhide HB1⟩
  | true =>
    rw [hr, show chkE true = 0 from rfl] at HC
    by_cases hz : a = 0 ∨ b = 0
    · have hno : okR ws a b = false := by
        unfold okR
        rcases hz with h | h
        · have h2 : ¬ isOb ws a := fun h2 => by have := h2.1; omega
          rw [decide_eq_false h2, Bool.false_and]
        · have h2 : ¬ isOb ws b := fun h2 => by have := h2.1; omega
          rw [decide_eq_false h2, Bool.and_false]
      have HD := hide (show ReaD ws a b false ∧ reaE ws a b = 6 from ⟨⟨fun _ h => (by rw [hno] at h; cases h), fun _ => rfl⟩, by unfold reaE; rw [hr, hno]; rfl⟩)
      clear hs hU hl hb hr hno
      rcases hz with rfl | rfl
      · go_enter Try.func13, Try.ntmps13
        go_wp2_with fail
        refine Calls.mono (unhide HC) ?_
        rintro e w1 ⟨rfl, b1⟩
        have HB1 := hide b1
        clear b1
        go_wp2_with fail
        go_ret2
        exact ⟨false, by rw [(unhide HD).2]; rfl, (unhide HD).1, unhide HB1⟩
      · by_cases h0 : a = 0
        · subst h0
          go_enter Try.func13, Try.ntmps13
          go_wp2_with fail
          refine Calls.mono (unhide HC) ?_
          rintro e w1 ⟨rfl, b1⟩
          have HB1 := hide b1
          clear b1
          go_wp2_with fail
          go_ret2
          exact ⟨false, by rw [(unhide HD).2]; rfl, (unhide HD).1, unhide HB1⟩
        · have hz1 : (a == 0) = false := beq_eq_false_iff_ne.2 h0
          go_enter Try.func13, Try.ntmps13
          go_wp2_with fail
          refine Calls.mono (unhide HC) ?_
          rintro e w1 ⟨rfl, b1⟩
          have HB1 := hide b1
          clear b1
          go_wp2_with fail
          go_ret2
          exact ⟨false, by rw [(unhide HD).2]; rfl, (unhide HD).1, unhide HB1⟩
    · have h0 : ¬ a = 0 := fun e => hz (Or.inl e)
      have h1 : ¬ b = 0 := fun e => hz (Or.inr e)
      have hz1 : (a == 0) = false := beq_eq_false_iff_ne.2 h0
      have hz2 : (b == 0) = false := beq_eq_false_iff_ne.2 h1
      have hrt := right_two hr h0 h1
      have HC2 := hide (fun w1 (b1 : Below w.heap.size w w1) => ccheck_any s (.slice (some ⟨w1.heap.size, 0, none⟩) 2 2) ws [a, b] (w1.alloc (.cells #[.int .i64 a, .int .i64 b] 3)) ((hs.below b1).below ((Below.refl _ _).alloc (Nat.le_refl _) _)) (vrow_new w1 [a, b] _ (by simp)) hU hl (by simp))
      rw [hrt] at HC2
      cases hok : okR ws a b with
      | false =>
        rw [hok, show chkE false = 11 from rfl] at HC2
        have HD := hide (show ReaD ws a b false ∧ reaE ws a b = 6 from ⟨⟨fun _ h => (by rw [hok] at h; cases h), fun _ => rfl⟩, by unfold reaE; rw [hr, hok]; rfl⟩)
        clear hs hU hl hb hr hok hrt hz
        go_enter Try.func13, Try.ntmps13
        go_wp2_with fail
        refine Calls.mono (unhide HC) ?_
        rintro e w1 ⟨rfl, b1⟩
        have HB1 := hide b1
        have HC3 := hide (unhide HC2 w1 b1)
        clear b1
        go_wp2_with fail
        refine Calls.mono (unhide HC3) ?_
        rintro e w2 ⟨rfl, b2⟩
        have HB2 := hide ((unhide HB1).trans (((Below.refl _ w1).alloc (unhide HB1).size _).trans (b2.mono (by have := (unhide HB1).size; rw [World.size_alloc]; omega))))
        clear b2
        go_wp2_with fail
        go_ret2
        exact ⟨false, by rw [(unhide HD).2]; rfl, (unhide HD).1, unhide HB2⟩
      | true =>
        rw [hok, show chkE true = 0 from rfl] at HC2
        have hob : isOb ws a := by unfold okR at hok; simp only [Bool.and_eq_true, decide_eq_true_eq] at hok; exact hok.1
        have HL := hide (fun w1 (b1 : Below w.heap.size w w1) => mliving_any s (.slice (some ⟨w1.heap.size, 0, none⟩) 1 1) ws [a] (w1.alloc (.cells #[.int .i64 a] 3)) ((hs.below b1).below ((Below.refl _ _).alloc (Nat.le_refl _) _)) (vrow_new w1 [a] _ (by simp)) hU (right_one hr hob))
        have HD := hide (show (∀ B, (B = true ↔ Rch ws [a] b) → ReaD ws a b B) ∧ reaE ws a b = 0 from ⟨fun B h => ⟨fun _ _ => h, fun h2 => absurd ⟨hr, hok⟩ h2⟩, by unfold reaE; rw [hr, hok]; rfl⟩)
        have HWB := hide hb
        clear hs hU hl hb hr hok hrt hz hob
        go_enter Try.func13, Try.ntmps13
        go_wp2_with fail
        refine Calls.mono (unhide HC) ?_
        rintro e w1 ⟨rfl, b1⟩
        have HB1 := hide b1
        have HC3 := hide (unhide HC2 w1 b1)
        clear b1
        go_wp2_with fail
        refine Calls.mono (unhide HC3) ?_
        rintro e w2 ⟨rfl, b2⟩
        have HB2 := hide ((unhide HB1).trans (((Below.refl _ w1).alloc (unhide HB1).size _).trans (b2.mono (by have := (unhide HB1).size; rw [World.size_alloc]; omega))))
        have HL2 := hide (unhide HL w2 (unhide HB2))
        clear b2
        go_wp2_with fail
        refine Calls.mono (unhide HL2) ?_
        rintro e w3 ⟨m, S, rfl, hm, _, _, _, hms, b3⟩
        have HB3 := hide ((unhide HB2).trans (((Below.refl _ w2).alloc (unhide HB2).size _).trans (b3.mono (by have := (unhide HB2).size; rw [World.size_alloc]; omega))))
        have hlk := hm.look (P := Try.prog) (k := 3) (t := 52) (e := 3) Try.underlying3 Try.underlying52 (z := .int .i64 0) rfl b (unhide HWB)
        have HE := hide (show ((szM ws S b).isSome = true ↔ Rch ws [a] b) by
          rw [← hms b]
          unfold szM
          by_cases hx : b ∈ S
          · simp [hx]
          · simp [hx])
        generalize (szM ws S b).isSome = B at *
        generalize (szM ws S b).getD (.int .i64 0) = V at *
        clear hm hms b3
        go_wp2_with fail
        go_ret2
        exact ⟨B, by rw [(unhide HD).2]; rfl, (unhide HD).1 B (unhide HE), unhide HB3⟩
end Go.Proofs.Ytgnfgeebcphglaa

/- The statements' own functions of layer 14: has, awake. -/
namespace Go.Proofs.Ytgnfgeebcphglaa
open Go.RowKit

/-- What has answers. -/
def HasP (l : List Int) (n : Int) (e : Ending) : Prop := ∃ B, e = .returned (.bool B) ∧ (B = true ↔ n ∈ l)
theorem lhas_any (v : Value) (l : List Int) (n : Int) (w : World) (hv : VRow w v (Iw l)) (hl : l.length < 35184372088832) :
    Calls Try.prog 19 #[v, .int .i64 n] w fun e w' => HasP l n e ∧ w' = w := by
  have HV := hide hv
  have HL := hide hl
  obtain ⟨a, cap, rfl, g1, g2, g3⟩ := hv.shape
  have hlr : (Iw l).length = l.length := by simp
  rw [hlr] at HV ⊢
  clear hv hl g1 g2 g3 hlr
  go_enter Try.func19, Try.ntmps19
  go_wp2_with fail
  go_loopw [5] (fun iv wr => ∃ k : Nat, iv = .int .i64 (k : Int) ∧ k ≤ l.length ∧ Hid (n ∉ l.take k) ∧ wr = w) (fun iv _ => l.length - (intOf iv).toNat)
  case atStart => exact ⟨0, rfl, Nat.zero_le _, by rw [List.take_zero]; exact List.not_mem_nil, rfl⟩
  case round =>
    obtain ⟨k, rfl, hk, hn, rfl⟩ := hrel
    have hkw : IntKind.i64.wrap ((k : Int) + 1) = (k : Int) + 1 := by have := unhide HL; rw [IntKind.wrap_i64]; omega
    by_cases hlt : k < l.length
    · have hkI : (k : Int) < (l.length : Int) := by omega
      obtain ⟨bo, of1, co, e0, _, _, hcl⟩ := (unhide HV).open (by intro e; have := congrArg List.length e; simp at this; rw [this] at hlt; simp at hlt)
      simp only [Value.slice.injEq, List.length_map] at e0
      obtain ⟨rfl, e1, rfl⟩ := e0
      have hc0 := hcl k (.int .i64 l[k]) (by rw [List.getElem?_map, List.getElem?_eq_getElem hlt]; rfl)
      have htk := List.take_succ_eq_append_getElem hlt
      by_cases heq : l[k] = n
      · have hbe : (l[k] == n) = true := by simp [heq]
        have HE := hide (show n ∈ l from heq ▸ List.getElem_mem hlt)
        generalize l[k] = x at *
        clear heq htk hcl e1 hlt hk hn
        go_wp2_with fail
        go_ret
        exact ⟨⟨true, rfl, by simp [unhide HE]⟩, rfl⟩
      · have hbe : (l[k] == n) = false := by simp [heq]
        have HN := hide (show n ∉ l.take (k + 1) by
          rw [htk]
          intro h
          rcases List.mem_append.1 h with h | h
          · exact unhide hn h
          · exact heq (List.mem_singleton.1 h).symm)
        have HLT := hide hlt
        generalize l[k] = x at *
        clear heq htk hcl e1 hlt hk hn
        go_wp2_with fail
        go_roundw
        case rel => exact ⟨k + 1, by go_num, unhide HLT, unhide HN, by first | rfl | trivial⟩
        case measure => (have := unhide HLT; simp [intOf]; omega)
    · have hke : k = l.length := by omega
      subst hke
      have hge : ¬ (l.length : Int) < (l.length : Int) := by omega
      rw [List.take_length] at hn
      have HN := hide (unhide hn)
      clear hn hlt hk hkw
      go_wp2_with fail
      go_ret
      exact ⟨⟨false, rfl, by simp [unhide HN]⟩, rfl⟩

theorem awake_rch (a : Int) : Rch [0, 4096] [1] a ↔ a = 1 := by
  constructor
  · intro h
    refine h (fun x => x = 1) (fun r hr _ => List.mem_singleton.1 hr) (fun b hb p hp _ => ?_)
    subst hb
    have : ptsA [0, 4096] 1 = [] := by decide
    rw [this] at hp
    cases hp
  · rintro rfl
    exact .root (by simp) (by decide)
theorem awake_live : LiveIs [0, 4096] [1] [1] := ⟨List.pairwise_singleton _ _, fun a => by rw [awake_rch]; simp⟩

set_option maxRecDepth 20000 in
set_option maxHeartbeats 2000000 in
theorem mawake_any (w : World) : Calls Try.prog 15 #[] w fun e w' => e = .returned (.bool true) ∧ Below w.heap.size w w' := by
  have hh : ∀ w, Calls Try.prog 29 #[.int .i64 1, .int .i64 0, .int .i64 0] w fun e w' => e = .returned (.tuple #[.int .u32 4096, .int .i64 0]) ∧ w' = w := fun w => chead_t 1 0 0 w (by omega) (by omega) (by omega) (by omega) (by omega) (by omega)
  have hr1 : VRow (w.alloc (.cells #[.int .u32 0, .int .u32 4096] 25)) (.slice (some ⟨w.heap.size, 0, none⟩) 2 2) (Uw [0, 4096]) := ⟨_, 2, rfl, Nat.le_refl _, by unfold maxLen; omega, by simp, Or.inr ⟨w.heap.size, 0, rfl, fun j v hv => by
    match j, hv with
    | 0, hv => simp [Uw] at hv; subst hv; simp
    | 1, hv => simp [Uw] at hv; subst hv; simp⟩⟩
  have hr2 := vrow_new (w.alloc (.cells #[.int .u32 0, .int .u32 4096] 25)) [1] 3 (by simp)
  have hb1 : Below w.heap.size w (w.alloc (.cells #[.int .u32 0, .int .u32 4096] 25)) := (Below.refl _ w).alloc (Nat.le_refl _) _
  have hb2 := hb1.alloc hb1.size (.cells #[.int .i64 1] 3)
  have hz1 : (w.alloc (.cells #[.int .u32 0, .int .u32 4096] 25)).heap.size = w.heap.size + 1 := by simp
  rw [hz1] at hr2
  have hC : Calls Try.prog 9 #[.slice (some ⟨w.heap.size, 0, none⟩) 2 2, .slice (some ⟨w.heap.size + 1, 0, none⟩) 1 1] ((w.alloc (.cells #[.int .u32 0, .int .u32 4096] 25)).alloc (.cells #[.int .i64 1] 3)) fun e w' => ∃ v l, e = .returned (.tuple #[v, .int .i64 (chkE (rightB [0, 4096] [1]))]) ∧ LivD [0, 4096] [1] l ∧ w'.ownsRow ((w.alloc (.cells #[.int .u32 0, .int .u32 4096] 25)).alloc (.cells #[.int .i64 1] 3)).heap.size 3 1 v l.length (Iw l) ∧ Below ((w.alloc (.cells #[.int .u32 0, .int .u32 4096] 25)).alloc (.cells #[.int .i64 1] 3)).heap.size ((w.alloc (.cells #[.int .u32 0, .int .u32 4096] 25)).alloc (.cells #[.int .i64 1] 3)) w' := (mlive_any _ _ [0, 4096] [1] _ (hr1.below ((Below.refl _ _).alloc (Nat.le_refl _) _)) hr2 (by intro h hh; simp at hh; omega) (by simp) (by simp))
  have hrt : rightB [0, 4096] [1] = true := by decide
  rw [hrt, show chkE true = 0 from rfl] at hC
  have HC := hide hC
  have HR := hide hrt
  have HB := hide hb2
  have HH := hide hh
  clear hb1 hb2 hr1 hr2 hh hrt hC hz1
  go_enter Try.func15, Try.ntmps15
  go_wp2_with fail
  refine Calls.mono (unhide HH w) ?_
  rintro e w1 ⟨rfl, rfl⟩
  go_wp2_with fail
  refine Calls.mono (unhide HC) ?_
  rintro e w2 ⟨v, l, rfl, hli, hrow, b2⟩
  have hl : l = [1] := (hli.1 (unhide HR)).unique awake_live
  subst hl
  have HB2 := hide ((unhide HB).trans (b2.mono (unhide HB).size))
  obtain ⟨pv, cv, rfl⟩ := ownsV_shape hrow
  have hvr := vrow_of_owns (vs := Iw [1]) (s := .slice pv 1 cv) hrow
  obtain ⟨bo, of1, co, e0, _, _, hcl⟩ := hvr.open (by simp)
  simp only [Value.slice.injEq, List.length_map] at e0
  obtain ⟨rfl, e1, rfl⟩ := e0
  have hc0 := hcl 0 (.int .i64 1) (by simp)
  simp only [Nat.add_zero] at hc0
  clear hli hrow b2 e1 hcl hvr
  go_wp2_with fail
  go_ret
  exact ⟨rfl, unhide HB2⟩
end Go.Proofs.Ytgnfgeebcphglaa

/- The reference of layer 14: Live, Words, is, Reaches. -/
namespace Go.Proofs.Ytgnfgeebcphglaa
open Go.RowKit

/-- The marked places below k. -/
def liveM (m : List Bool) (k : Nat) : List Int := ((List.range k).filter (fun i : Nat => decide (m[i]? = some true))).map (fun i : Nat => (i : Int))
theorem liveM_yes {m : List Bool} {k : Nat} (h : m[k]? = some true) : liveM m (k + 1) = liveM m k ++ [(k : Int)] := by
  unfold liveM
  rw [List.range_succ, List.filter_append, List.map_append]
  simp [h]
theorem liveM_no {m : List Bool} {k : Nat} (h : ¬ m[k]? = some true) : liveM m (k + 1) = liveM m k := by
  unfold liveM
  rw [List.range_succ, List.filter_append, List.map_append]
  simp [h]
theorem liveM_len (m : List Bool) (k : Nat) : (liveM m k).length ≤ k := by
  unfold liveM
  rw [List.length_map]
  exact Nat.le_trans (List.length_filter_le _ _) (by simp)
theorem liveM_is {ws rs : List Int} {m : List Bool} (hh : heapB ws rs = true) (h : ∀ k : Nat, m[k]? = some true ↔ Rch ws rs (k : Int)) : LiveIs ws rs (liveM m ws.length) := by
  refine ⟨?_, fun a => ?_⟩
  · unfold liveM
    refine List.pairwise_map.2 ((List.Pairwise.filter _ List.pairwise_lt_range).imp fun {a b} h => ?_)
    omega
  · unfold liveM
    rw [List.mem_map]
    constructor
    · rintro ⟨k, hk, rfl⟩
      rw [List.mem_filter, decide_eq_true_eq] at hk
      exact (h k).1 hk.2
    · intro hr
      obtain ⟨s1, s2, s3, s4⟩ := isOb_size (rch_ob hh hr)
      refine ⟨a.toNat, List.mem_filter.2 ⟨List.mem_range.2 s3, decide_eq_true ((h a.toNat).2 (by rw [s4]; exact hr))⟩, s4⟩

set_option maxRecDepth 20000 in
set_option maxHeartbeats 2000000 in
theorem rlive14_any (s t : Value) (ws rs : List Int) (w : World) (hs : VRow w s (Uw ws)) (ht : VRow w t (Iw rs)) (hU : U32 ws) :
    Calls Try.prog 10 #[s, t] w fun e w' => ∃ v l, e = .returned (.tuple #[v, .int .i64 (chkE (rightB ws rs))]) ∧ LivD ws rs l ∧ w'.ownsRow w.heap.size 3 1 v l.length (Iw l) ∧ Below w.heap.size w w' := by
  have HC := hide (rright_any s t ws rs w hs ht hU)
  cases hb : rightB ws rs with
  | false =>
    rw [hb] at HC
    have HD := hide (show LivD ws rs [] from ⟨fun h => (by rw [hb] at h; cases h), fun _ => rfl⟩)
    clear hs ht hU hb
    go_enter Try.func10, Try.ntmps10
    go_wp2_with fail
    refine Calls.mono (unhide HC) ?_
    rintro e w1 ⟨rfl, b1⟩
    have HB1 := hide b1
    clear b1
    go_wp2_with fail
    go_ret2
    exact ⟨_, [], rfl, unhide HD, World.ownsRow_nil _ _ _ _, unhide HB1⟩
  | true =>
    rw [hb] at HC
    obtain ⟨i0, hi, hz0, hz1, hz2⟩ := info_parts Try.infoI64
    have HL := hide (fun w1 (b1 : Below w.heap.size w w1) => rmarks_any s t ws rs w1 (hs.below b1) (ht.below b1) hU hb)
    have HB := hide hb
    have HH := hide (right_parts hb).2.2.2.2
    have HWL := hide (right_parts hb).2.1
    clear hs ht hU hb
    go_enter Try.func10, Try.ntmps10
    go_wp2_with fail
    refine Calls.mono (unhide HC) ?_
    rintro e w1 ⟨rfl, b1⟩
    have HB1 := hide b1
    have HL1 := hide (unhide HL w1 b1)
    clear b1 HL
    go_wp2_with fail
    refine Calls.mono (unhide HL1) ?_
    rintro e w2 ⟨rfl, m, hm, hml, hmr, b2⟩
    have HB2 := hide ((unhide HB1).trans (b2.mono (unhide HB1).size))
    obtain ⟨g, hg⟩ : ∃ g, g = w1.heap.size := ⟨_, rfl⟩
    rw [← hg] at hm ⊢
    have HM := hide hm
    have HGL := hide (show g < w2.heap.size from (Array.getElem?_eq_some_iff.1 hm).1)
    have HML := hide hml
    have HLI := hide (liveM_is (unhide HH) hmr)
    clear hm hml hmr b2 hg
    go_wp2_with fail
    go_loopw [7, 8] (fun ov iv wr => ∃ (k : Nat), iv = .int .i64 (k : Int) ∧ k ≤ ws.length ∧ Hid (wr.ownsRow w2.heap.size 3 1 ov (liveM m k).length (Iw (liveM m k))) ∧ Hid (Below w2.heap.size w2 wr)) (fun _ iv _ => ws.length - (intOf iv).toNat)
    case atStart => exact ⟨0, rfl, Nat.zero_le _, World.ownsRow_nil _ _ _ _, Below.refl _ _⟩
    case round =>
      obtain ⟨k, rfl, hk, hown, hbr⟩ := hrel
      obtain ⟨p0, c0, rfl⟩ := ownsV_shape (unhide hown)
      have hkw : IntKind.i64.wrap ((k : Int) + 1) = (k : Int) + 1 := by have := unhide HWL; rw [IntKind.wrap_i64]; omega
      by_cases hlt : k < ws.length
      · have hkI : (k : Int) < (ws.length : Int) := by omega
        have hgb := ((unhide hbr).block g (unhide HGL)).trans (unhide HM)
        obtain ⟨b, hb⟩ : ∃ b, m[k]? = some b := ⟨m[k]'(by rw [unhide HML]; exact hlt), List.getElem?_eq_getElem _⟩
        have hcb : wr.cell? ⟨g, k, none⟩ = some (.bool b) := by
          rw [cell_of_row wr g k _ _ (0, 0) hgb]
          simp [hb]
        have HLT := hide hlt
        have HBR := hide (unhide hbr)
        cases b with
        | false =>
          have hn := liveM_no (m := m) (k := k) (by rw [hb]; simp)
          have HOW := hide (show wr.ownsRow w2.heap.size 3 1 (.slice p0 (liveM m k).length c0) (liveM m (k + 1)).length (Iw (liveM m (k + 1))) by rw [hn]; exact unhide hown)
          clear hn hown hbr hgb hb hlt hk
          go_wp2_with fail
          go_roundw
          case rel => exact ⟨k + 1, by go_num, unhide HLT, unhide HOW, unhide HBR⟩
          case measure => (have := unhide HLT; simp [intOf]; omega)
        | true =>
          have hn := liveM_yes (m := m) (k := k) hb
          have hlen := liveM_len m k
          have HN := hide hn
          have HLB := hide (show (liveM m k).length ≤ 1048576 by have := unhide HWL; omega)
          have HOX := hide (show (wr.alloc (.cells #[.int .i64 (k : Int)] 3)).ownsRow w2.heap.size 3 1 (.slice p0 (liveM m k).length c0) (liveM m k).length (Iw (liveM m k)) from ownsV_keep (F := fun _ => False) (unhide hown) (Keep.of_below ((Below.refl _ _).alloc (Nat.le_refl _) _)) (fun _ _ => id))
          have HNW := hide (show ∀ (i : Nat) (u : Value), [Value.int .i64 (k : Int)][i]? = some u → (wr.alloc (.cells #[.int .i64 (k : Int)] 3)).cell? ((⟨wr.heap.size, 0, none⟩ : Addr).add i) = some u from fun i u hi => by match i, hi with | 0, hi => (simp at hi; subst hi; simp [Addr.add]))
          have HGS := hide (show w2.heap.size ≤ (wr.alloc (.cells #[.int .i64 (k : Int)] 3)).heap.size by rw [World.size_alloc]; have := (unhide hbr).size; omega)
          obtain ⟨L, hL⟩ : ∃ L, L = liveM m k := ⟨_, rfl⟩
          rw [← hL] at HN HLB HOX ⊢
          clear hn hlen hown hbr hgb hb hlt hk hL
          go_wp2_with (first
            | (at_builtin; refine wpList_append_gen rfl _ _ 23 rfl w2.heap.size 3 i0 (.int .i64 0) Try.underlying23 hi hz0 1 8 (by omega) hz1 hz2 rfl (.slice p0 L.length c0) L.length (Iw L) rfl (unhide HOX) ⟨wr.heap.size, 0, none⟩ 1 1 [.int .i64 (k : Int)] rfl rfl (unhide HNW) (by intro u hu; simp at hu; subst hu; rfl) (by have := unhide HLB; unfold maxLen; omega) (by have := unhide HLB; omega) (unhide HGS) ?_))
          intro v6 w6 hown6 hgrow6 hob6
          have HF := hide (show w6.ownsRow w2.heap.size 3 1 v6 (liveM m (k + 1)).length (Iw (liveM m (k + 1))) by rw [unhide HN]; simpa using hown6)
          have HB6 := hide (((unhide HBR).trans ((Below.refl _ wr).alloc (unhide HBR).size _)).grown hgrow6 (by have := unhide HGS; exact this) (fun q e => ((unhide HOX).lt q e).1))
          obtain ⟨p6, c6, rfl⟩ := ownsV_shape hown6
          clear hown6 hgrow6 hob6
          go_wp2_with fail
          go_roundw
          case rel => exact ⟨k + 1, by go_num, unhide HLT, unhide HF, unhide HB6⟩
          case measure => (have := unhide HLT; simp [intOf]; omega)
      · have hke : k = ws.length := by omega
        subst hke
        have hge : ¬ (ws.length : Int) < (ws.length : Int) := by omega
        have HE := hide (show LivD ws rs (liveM m ws.length) ∧ wr.ownsRow w.heap.size 3 1 (.slice p0 (liveM m ws.length).length c0) (liveM m ws.length).length (Iw (liveM m ws.length)) ∧ Below w.heap.size w wr from
          ⟨⟨fun _ => unhide HLI, fun h => (by rw [unhide HB] at h; cases h)⟩, ownsRow_base_a (unhide hown) (unhide HB2).size, (unhide HB2).trans ((unhide hbr).mono (unhide HB2).size)⟩)
        clear hown hbr hlt hk hkw
        go_wp2_with fail
        go_ret2
        exact ⟨_, rfl, _, unhide HE⟩

set_option maxRecDepth 20000 in
set_option maxHeartbeats 2000000 in
theorem rwords14_any (s t : Value) (ws rs : List Int) (w : World) (hs : VRow w s (Uw ws)) (ht : VRow w t (Iw rs)) (hU : U32 ws) :
    Calls Try.prog 12 #[s, t] w fun e w' => ∃ l, e = .returned (.tuple #[.int .i64 (sumW ws l), .int .i64 (chkE (rightB ws rs))]) ∧ LivD ws rs l ∧ Below w.heap.size w w' := by
  have HC := hide (rlive14_any s t ws rs w hs ht hU)
  have HS := hide hs
  have HU := hide hU
  obtain ⟨a, cap, rfl, g1, g2, g3⟩ := hs.shape
  have hlw : (Uw ws).length = ws.length := by simp
  rw [hlw] at HC HS ⊢
  generalize hE : chkE (rightB ws rs) = E at *
  clear hs ht hU g1 g2 g3 hlw hE
  go_enter Try.func12, Try.ntmps12
  go_wp2_with fail
  refine Calls.mono (unhide HC) ?_
  rintro e w1 ⟨v, l, rfl, hli, hrow, b1⟩
  have hob : (∀ x ∈ l, isOb ws x) ∧ l.length ≤ 1048576 := by
    cases hb : rightB ws rs with
    | false => rw [hli.2 hb]; simp
    | true =>
      have h1 := hli.1 hb
      obtain ⟨r1, r2, r3, r4, r5⟩ := right_parts hb
      have h2 : ∀ x ∈ l, isOb ws x := fun x hx => rch_ob r5 ((h1.2 x).1 hx)
      refine ⟨h2, Nat.le_trans (obs_count ws l (h1.1.imp fun {a b} h => by omega) h2) r2⟩
  obtain ⟨pv, cv, rfl⟩ := ownsV_shape hrow
  have HVR := hide (vrow_of_owns (vs := Iw l) (s := .slice pv l.length cv) (by simpa using hrow))
  have HOB := hide hob
  have HLI := hide hli
  have HB1 := hide b1
  clear hli hrow b1 hob
  go_wp2_with fail
  go_loopw [8, 9] (fun sv iv wr => ∃ (k : Nat), iv = .int .i64 (k : Int) ∧ sv = .int .i64 (sumW ws (l.take k)) ∧ k ≤ l.length ∧ wr = w1) (fun _ iv _ => l.length - (intOf iv).toNat)
  case atStart => exact ⟨0, rfl, rfl, Nat.zero_le _, rfl⟩
  case round =>
    obtain ⟨k, rfl, rfl, hk, rfl⟩ := hrel
    have hkw : IntKind.i64.wrap ((k : Int) + 1) = (k : Int) + 1 := by have := (unhide HOB).2; rw [IntKind.wrap_i64]; omega
    by_cases hlt : k < l.length
    · have hkI : (k : Int) < (l.length : Int) := by omega
      obtain ⟨bo, of1, co, e0, _, _, hcl⟩ := (unhide HVR).open (by intro e; have := congrArg List.length e; simp at this; rw [this] at hlt; simp at hlt)
      simp only [Value.slice.injEq, List.length_map] at e0
      obtain ⟨rfl, e1, rfl⟩ := e0
      have hc0 := hcl k (.int .i64 l[k]) (by rw [List.getElem?_map, List.getElem?_eq_getElem hlt]; rfl)
      obtain ⟨s1, s2, s3, s4⟩ := isOb_size ((unhide HOB).1 l[k] (List.getElem_mem hlt))
      obtain ⟨p, hp⟩ : ∃ p : Nat, (p : Int) = l[k] := ⟨_, s4⟩
      have htk : sumW ws (l.take (k + 1)) = sumW ws (l.take k) + wd ws p / 4096 := by
        rw [List.take_succ_eq_append_getElem hlt, sumW_snoc, ← hp]; simp
      rw [← hp] at hc0 s1 s2 s3
      simp only [Int.toNat_natCast] at s1 s2 s3
      obtain ⟨bk, off, cz, e5, _, _, hwl⟩ := (unhide HS).open (by intro e; have := congrArg List.length e; simp at this; rw [this] at s3; simp at s3)
      simp only [Value.slice.injEq, List.length_map] at e5
      obtain ⟨rfl, e6, rfl⟩ := e5
      have hw0 := hwl p _ (by rw [List.getElem?_map, wd_get s3]; rfl)
      have hcw := ((unhide HB1).cell (World.block_lt_of_cell? w _ hw0)).trans hw0
      obtain ⟨u0, u1⟩ := (unhide HU).wd p
      have HSZ := hide (fun w => rsize_t (wd ws p) w u0 u1)
      have hpI : (p : Int) < (ws.length : Int) := by omega
      have hbd := sumW_bounds (unhide HU) (l.take k)
      have hwr : IntKind.i64.wrap (sumW ws (l.take k) + wd ws p / 4096) = sumW ws (l.take (k + 1)) := by
        rw [htk, IntKind.wrap_i64]
        have h1 : (l.take k).length ≤ 1048576 := by rw [List.length_take]; have := (unhide HOB).2; omega
        omega
      have HLT := hide hlt
      generalize wd ws p = x at *
      generalize sumW ws (l.take k) = y at *
      generalize hz : sumW ws (l.take (k + 1)) = z at *
      have HZ := hide hz
      clear hlt hk e1 hcl s1 s2 s3 s4 hp htk e6 hwl hw0 hbd hz
      go_wp2_with fail
      refine Calls.mono (unhide HSZ _) ?_
      rintro e w3 ⟨rfl, rfl⟩
      go_wp2_with fail
      go_roundw
      case rel => exact ⟨k + 1, by go_num, by rw [unhide HZ], unhide HLT, by first | rfl | trivial⟩
      case measure => (have := unhide HLT; simp [intOf]; omega)
    · have hke : k = l.length := by omega
      subst hke
      have hge : ¬ (l.length : Int) < (l.length : Int) := by omega
      rw [List.take_length]
      clear hlt hk hkw
      go_wp2_with fail
      go_ret2
      exact ⟨l, rfl, unhide HLI, unhide HB1⟩

theorem atR_ob {ws : List Int} {a : Int} : (atR ws a).2.2.2 = if isOb ws a then 0 else 6 := by
  unfold atR
  cases hf : fndO ws a with
  | none =>
    have h : ¬ isOb ws a := fun h => by
      unfold fndO at hf
      have := List.find?_eq_none.1 hf _ h.2.2
      have h2 := h.1
      simp only [decide_eq_true_eq] at this
      omega
    rw [if_neg h]
  | some x =>
    unfold fndO at hf
    have h1 := List.mem_of_find?_eq_some hf
    have h2 := List.find?_some hf
    simp only [decide_eq_true_eq] at h2
    obtain ⟨o1, o2, o3⟩ := obs_mem h1
    have h3 : isOb ws a := ⟨by omega, by have := o3.1; omega, by
      have e : a.toNat = x.1 := by omega
      rw [e, ← o2]
      exact h1⟩
    rw [if_pos h3]

set_option maxHeartbeats 1000000 in
theorem ris_any (s : Value) (ws : List Int) (a : Int) (w : World) (hs : VRow w s (Uw ws)) (hU : U32 ws) (hl : ws.length ≤ 4194304) :
    Calls Try.prog 28 #[s, .int .i64 a] w fun e w' => e = .returned (.bool (decide (isOb ws a))) ∧ Below w.heap.size w w' := by
  have HA := hide (rat_any s ws a w hs hU hl)
  have h0 := atR_ob (ws := ws) (a := a)
  by_cases hob : isOb ws a
  · rw [if_pos hob] at h0
    rw [decide_eq_true hob]
    have H0 := hide h0
    clear hs hU hl h0 hob
    go_enter Try.func28, Try.ntmps28
    go_wp2_with fail
    refine Calls.mono (unhide HA) ?_
    rintro e w1 ⟨p, d, kd, er, rfl, ps, ds, hat, hp, hd, b1⟩
    have he : er = 0 := by have := unhide H0; rw [hat] at this; exact this
    subst he
    have HB1 := hide b1
    obtain ⟨pp, pc, rfl⟩ := ownsV_shape hp
    obtain ⟨dp, dc, rfl⟩ := ownsV_shape hd
    clear hat hp hd b1
    go_wp2_with fail
    go_ret
    exact ⟨rfl, (unhide HB1).alloc (unhide HB1).size _⟩
  · rw [if_neg hob] at h0
    rw [decide_eq_false hob]
    have H0 := hide h0
    clear hs hU hl h0 hob
    go_enter Try.func28, Try.ntmps28
    go_wp2_with fail
    refine Calls.mono (unhide HA) ?_
    rintro e w1 ⟨p, d, kd, er, rfl, ps, ds, hat, hp, hd, b1⟩
    have he : er = 6 := by have := unhide H0; rw [hat] at this; exact this
    subst he
    have HB1 := hide b1
    obtain ⟨pp, pc, rfl⟩ := ownsV_shape hp
    obtain ⟨dp, dc, rfl⟩ := ownsV_shape hd
    clear hat hp hd b1
    go_wp2_with fail
    go_ret
    exact ⟨rfl, (unhide HB1).alloc (unhide HB1).size _⟩

set_option maxRecDepth 20000 in
set_option maxHeartbeats 2000000 in
theorem rreaches_any (s : Value) (ws : List Int) (a b : Int) (w : World) (hs : VRow w s (Uw ws)) (hU : U32 ws) :
    Calls Try.prog 14 #[s, .int .i64 a, .int .i64 b] w fun e w' => ∃ B, e = .returned (.tuple #[.bool B, .int .i64 (reaE ws a b)]) ∧ ReaD ws a b B ∧ Below w.heap.size w w' := by
  have HC := hide (rright_any s (.slice none 0 0) ws [] w hs (VRow.nil _) hU)
  cases hr : rightB ws [] with
  | false =>
    rw [hr] at HC
    have HD := hide (show ReaD ws a b false ∧ reaE ws a b = 11 from ⟨⟨fun h => (by rw [hr] at h; cases h), fun _ => rfl⟩, by unfold reaE; rw [hr]; rfl⟩)
    clear hs hU hr
    go_enter Try.func14, Try.ntmps14
    go_wp2_with fail
    refine Calls.mono (unhide HC) ?_
    rintro e w1 ⟨rfl, b1⟩
    have HB1 := hide b1
    clear b1
    go_wp2_with fail
    go_ret2
    exact ⟨false, by rw [(unhide HD).2]; rfl, (unhide HD).1, unhide HB1⟩
  | true =>
    rw [hr] at HC
    have hl : ws.length ≤ 4194304 := Nat.le_trans (right_parts hr).2.1 (by omega)
    have HA := hide (fun w1 (b1 : Below w.heap.size w w1) => ris_any s ws a w1 (hs.below b1) hU hl)
    have HBI := hide (fun w1 (b1 : Below w.heap.size w w1) => ris_any s ws b w1 (hs.below b1) hU hl)
    by_cases hoa : isOb ws a
    · rw [decide_eq_true hoa] at HA
      by_cases hob : isOb ws b
      · rw [decide_eq_true hob] at HBI
        have hok : okR ws a b = true := by unfold okR; rw [decide_eq_true hoa, decide_eq_true hob]; rfl
        have HL := hide (fun w1 (b1 : Below w.heap.size w w1) => rmarks_any s (.slice (some ⟨w1.heap.size, 0, none⟩) 1 1) ws [a] (w1.alloc (.cells #[.int .i64 a] 3)) ((hs.below b1).below ((Below.refl _ _).alloc (Nat.le_refl _) _)) (vrow_new w1 [a] _ (by simp)) hU (right_one hr hoa))
        have HD := hide (show (∀ B, (B = true ↔ Rch ws [a] b) → ReaD ws a b B) ∧ reaE ws a b = 0 from ⟨fun B h => ⟨fun _ _ => h, fun h2 => absurd ⟨hr, hok⟩ h2⟩, by unfold reaE; rw [hr, hok]; rfl⟩)
        obtain ⟨s1, s2, s3, s4⟩ := isOb_size hob
        obtain ⟨p, hp⟩ : ∃ p : Nat, (p : Int) = b := ⟨_, s4⟩
        subst hp
        rw [Int.toNat_natCast] at s3
        have hpI : (p : Int) < (ws.length : Int) := by omega
        have HP := hide s3
        clear hs hU hl hr hoa hob hok s1 s2 s3 s4
        go_enter Try.func14, Try.ntmps14
        go_wp2_with fail
        refine Calls.mono (unhide HC) ?_
        rintro e w1 ⟨rfl, b1⟩
        have HB1 := hide b1
        have HA1 := hide (unhide HA w1 b1)
        clear b1
        go_wp2_with fail
        refine Calls.mono (unhide HA1) ?_
        rintro e w2 ⟨rfl, b2⟩
        have HB2 := hide ((unhide HB1).trans (b2.mono (unhide HB1).size))
        have HI2 := hide (unhide HBI w2 (unhide HB2))
        clear b2
        go_wp2_with fail
        refine Calls.mono (unhide HI2) ?_
        rintro e w3 ⟨rfl, b3⟩
        have HB3 := hide ((unhide HB2).trans (b3.mono (unhide HB2).size))
        have HL3 := hide (unhide HL w3 (unhide HB3))
        clear b3
        go_wp2_with fail
        refine Calls.mono (unhide HL3) ?_
        rintro e w4 ⟨rfl, m, hm, hml, hmr, b4⟩
        have HB4 := hide ((unhide HB3).trans (((Below.refl _ w3).alloc (unhide HB3).size _).trans (b4.mono (by have := (unhide HB3).size; rw [World.size_alloc]; omega))))
        obtain ⟨B, hB⟩ : ∃ B, m[p]? = some B := ⟨m[p]'(by rw [hml]; exact unhide HP), List.getElem?_eq_getElem _⟩
        have hc : w4.cell? ⟨(w3.alloc (.cells #[.int .i64 a] 3)).heap.size, p, none⟩ = some (.bool B) := by
          rw [cell_of_row w4 _ p _ _ (0, 0) hm]
          simp [hB]
        have HE := hide (show (B = true ↔ Rch ws [a] (p : Int)) by
          rw [← hmr p, hB]
          simp)
        rw [World.size_alloc] at hc
        clear hm hml hmr b4 hB
        go_wp2_with fail
        go_ret2
        exact ⟨B, by rw [(unhide HD).2]; rfl, (unhide HD).1 B (unhide HE), unhide HB4⟩
      · rw [decide_eq_false hob] at HBI
        have hok : okR ws a b = false := by unfold okR; rw [decide_eq_false hob, Bool.and_false]
        have HD := hide (show ReaD ws a b false ∧ reaE ws a b = 6 from ⟨⟨fun _ h => (by rw [hok] at h; cases h), fun _ => rfl⟩, by unfold reaE; rw [hr, hok]; rfl⟩)
        clear hs hU hl hr hoa hob hok
        go_enter Try.func14, Try.ntmps14
        go_wp2_with fail
        refine Calls.mono (unhide HC) ?_
        rintro e w1 ⟨rfl, b1⟩
        have HB1 := hide b1
        have HA1 := hide (unhide HA w1 b1)
        clear b1
        go_wp2_with fail
        refine Calls.mono (unhide HA1) ?_
        rintro e w2 ⟨rfl, b2⟩
        have HB2 := hide ((unhide HB1).trans (b2.mono (unhide HB1).size))
        have HI2 := hide (unhide HBI w2 (unhide HB2))
        clear b2
        go_wp2_with fail
        refine Calls.mono (unhide HI2) ?_
        rintro e w3 ⟨rfl, b3⟩
        have HB3 := hide ((unhide HB2).trans (b3.mono (unhide HB2).size))
        clear b3
        go_wp2_with fail
        go_ret2
        exact ⟨false, by rw [(unhide HD).2]; rfl, (unhide HD).1, unhide HB3⟩
    · rw [decide_eq_false hoa] at HA
      have hok : okR ws a b = false := by unfold okR; rw [decide_eq_false hoa, Bool.false_and]
      have HD := hide (show ReaD ws a b false ∧ reaE ws a b = 6 from ⟨⟨fun _ h => (by rw [hok] at h; cases h), fun _ => rfl⟩, by unfold reaE; rw [hr, hok]; rfl⟩)
      clear hs hU hl hr hoa hok HBI
      go_enter Try.func14, Try.ntmps14
      go_wp2_with fail
      refine Calls.mono (unhide HC) ?_
      rintro e w1 ⟨rfl, b1⟩
      have HB1 := hide b1
      have HA1 := hide (unhide HA w1 b1)
      clear b1
      go_wp2_with fail
      refine Calls.mono (unhide HA1) ?_
      rintro e w2 ⟨rfl, b2⟩
      have HB2 := hide ((unhide HB1).trans (b2.mono (unhide HB1).size))
      clear b2
      go_wp2_with fail
      go_ret2
      exact ⟨false, by rw [(unhide HD).2]; rfl, (unhide HD).1, unhide HB2⟩
end Go.Proofs.Ytgnfgeebcphglaa
