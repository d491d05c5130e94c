/- What package frame does: whole. -/
import Derived.Test.YtdpoiieblbmofaaFrOwn6
import Derived.BigQuiet
namespace Go.Proofs.Ytdpoiieblbmofaa
open Go.RowKit

/-- Two times four cells. -/
def At8 (w : World) (g off g' off' : Nat) (a b c d a' b' c' d' : Value) : Prop := w.cell? ⟨g, off, none⟩ = some a ∧ w.cell? ⟨g, off + 1, none⟩ = some b ∧ w.cell? ⟨g, off + 2, none⟩ = some c ∧ w.cell? ⟨g, off + 3, none⟩ = some d ∧ w.cell? ⟨g', off', none⟩ = some a' ∧ w.cell? ⟨g', off' + 1, none⟩ = some b' ∧ w.cell? ⟨g', off' + 2, none⟩ = some c' ∧ w.cell? ⟨g', off' + 3, none⟩ = some d'
theorem At8.of {w : World} {g off g' off' : Nat} {a b c d a' b' c' d' : Value} (h : At4 w g off a b c d) (h' : At4 w g' off' a' b' c' d') : At8 w g off g' off' a b c d a' b' c' d' :=
  ⟨h.1, h.2.1, h.2.2.1, h.2.2.2, h'.1, h'.2.1, h'.2.2.1, h'.2.2.2⟩
theorem At8.below {w w' : World} {g off g' off' : Nat} {a b c d a' b' c' d' : Value} (h : At8 w g off g' off' a b c d a' b' c' d') (hb : Below w.heap.size w w') : At8 w' g off g' off' a b c d a' b' c' d' := by
  obtain ⟨h1, h2, h3, h4, k1, k2, k3, k4⟩ := h
  exact At8.of (At4.below ⟨h1, h2, h3, h4⟩ hb) (At4.below ⟨k1, k2, k3, k4⟩ hb)








/-- A region that draws its order, by a class of worlds that all its operations keep: one walk, in the order of the text. -/
theorem region_quiet {P : Program} {id : Nat} {Q : Exit → Act → World → Prop} {a : Act} {w : World} {l : List Oper} (C : World → Prop) (hm : P.follows .mixedOrders = true) (hB : Region.lexB .any l.toArray = true) (hC : C { w with drawn := w.drawn + 1 })
    (h : wpQuiet P l.toArray C (fun a' => ∀ w', C w' → Q .normal a' w') l a) : (Code.region id l.toArray true).wp P Q a w :=
  wp_region_quiet hm hB hC (by simpa using h)

set_option maxRecDepth 20000 in
set_option maxHeartbeats 4000000 in
theorem whole_any (v : Value) (l : List (Fr × Value)) (w : World) (hl : FL w v l) :
    Calls Try.prog 85 #[v] w fun e w' => e = .returned (.bool (decide (IsRec (frs l)))) ∧ Below w.heap.size w w' := by
  by_cases h0 : l = []
  · subst h0
    obtain ⟨a, cap, rfl, _⟩ := hl.shape
    rw [decide_eq_false (by intro h; exact h.1 rfl)]
    exact whole_nil w a cap
  have hpos : 0 < l.length := List.length_pos_iff.2 h0
  have hok : ∀ p ∈ l, p.1.ok := fun p hp => (hl.2 p hp).2
  obtain ⟨b, off, cap, rfl, hc1, hc2, _, hat⟩ := hl.open h0
  have hlen : (frs l).length = l.length := by simp [frs]
  have hget : ∀ j (h : j < l.length) (h' : j < (frs l).length), (frs l)[j] = l[j].1 := fun j h h' => by simp [frs]
  have hhd : (frs l).headD zeroF = l[0].1 := by rw [headD_get _ (by omega), hget 0 hpos]
  by_cases hof : (l.length : Int) = l[0].1.of
  · have hat0 := (hat 0 hpos).1
    rw [Nat.zero_mul, Nat.add_zero] at hat0
    obtain ⟨p0, l0, q0, hs0⟩ := slice_of_row (hat 0 hpos).2
    rw [hs0] at hat0
    have HAT := hide (fun w' (hb : Below w.heap.size w w') j (hj : j < l.length) => And.intro ((hat j hj).1.below hb) ((hat j hj).2.below hb))
    have HOK := hide hok
    have HGET := hide hget
    have HLEN := hide hlen
    clear hat hs0 hok hget
    obtain ⟨f0, hf0⟩ : ∃ f0 : Fr, f0 = l[0].1 := ⟨_, rfl⟩
    rw [← hf0] at hat0 hhd hof
    have HHD := hide hhd
    have HAT0 := hide (fun w' (hb : Below w.heap.size w w') => hat0.below hb)
    obtain ⟨d0, d1, d2, d3⟩ := hat0
    have HOF := hide hof
    rw [← hof] at d2
    have hz : ((l.length : Int) == 0) = false := by rw [beq_eq_false_iff_ne]; omega
    have hzz : ((l.length : Int) == l.length) = true := by simp
    have HGD : Hid (∀ k (h : k < (frs l).length), goodB (frs l)[k] f0 k = false → ¬ IsRec (frs l)) := fun k h hb => not_rec h (by rw [unhide HHD]; exact hb)
    unfold maxLen at hc2
    clear hhd hof hl hf0 hlen
    go_enter Try.func85, Try.ntmps85
    go_wp2_with fail
    clear d0 d1 d2 d3
    go_loopw [3, 20] (fun z i wr => ∃ k : Nat, k ≤ l.length ∧ i = .int .i64 k ∧ z = .int .i64 ((flatF ((frs l).take k)).length : Nat) ∧ Hid ((flatF ((frs l).take k)).length ≤ k * 440) ∧ Hid (∀ j (h : j < (frs l).length), j < k → goodB (frs l)[j] f0 j = true) ∧ Hid (k = 0 ∨ l.length ≤ 32) ∧ Hid (Below w.heap.size w wr)) (fun _ i _ => l.length - (intOf i).toNat)
    case atStart => exact ⟨0, Nat.zero_le _, rfl, by simp [flatF], by simp [flatF, Hid], fun j hj hj0 => absurd hj0 (by omega), Or.inl rfl, Below.refl _ _⟩
    case round =>
      obtain ⟨k, hk, rfl, rfl, hz440, hgood, h32, hbel⟩ := hrel
      by_cases hlt : k < l.length
      · obtain ⟨hatk, hrk⟩ := unhide HAT wr (unhide hbel) k hlt
        obtain ⟨pk, lk, qk, hsk⟩ := slice_of_row hrk
        obtain ⟨o1, o2, o3, o4, o5⟩ := unhide HOK l[k] (List.getElem_mem hlt)
        have hkf : k < (frs l).length := by rw [unhide HLEN]; exact hlt
        have hgk := unhide HGET k hlt hkf
        have hft := flat_take (frs l) k hkf
        have hgd := unhide HGD k hkf
        rw [hgk] at hft hgd
        rw [hsk] at hatk hrk
        have hlk : l[k].1.data.length = lk := by obtain ⟨a, c, e, _⟩ := hrk; simp only [Value.slice.injEq] at e; omega
        have hg1 : goodB l[k].1 f0 k = true → ∀ j (h : j < (frs l).length), j < k + 1 → goodB (frs l)[j] f0 j = true := fun hg j h hj => by
          by_cases hjk : j = k
          · subst hjk; rw [hgk]; exact hg
          · exact unhide hgood j h (by omega)
        generalize l[k].1 = f at *
        have hat8 := unhide HAT0 wr (unhide hbel)
        obtain ⟨W1, hW1⟩ : ∃ W1, W1 = wr.alloc (.cells #[.int .u64 (f.age : Int), .int .u64 (f.first : Int), .int .i64 f.of, .slice pk lk qk] 91) := ⟨_, rfl⟩
        have hb1 : Below wr.heap.size wr W1 := by rw [hW1]; exact (Below.refl _ _).alloc (Nat.le_refl _) _
        have hn4 : At4 W1 wr.heap.size 0 (.int .u64 (f.age : Int)) (.int .u64 (f.first : Int)) (.int .i64 f.of) (.slice pk lk qk) := by rw [hW1]; exact at4_new _ _ _ _ _ _
        have hbd : Below W1.heap.size W1 W1.drew := (Below.refl _ _).drew
        obtain ⟨CC, hCC⟩ : ∃ CC : World → Prop, CC = fun w' => At8 w' wr.heap.size 0 b off (.int .u64 (f.age : Int)) (.int .u64 (f.first : Int)) (.int .i64 f.of) (.slice pk lk qk) (.int .u64 (f0.age : Int)) (.int .u64 (f0.first : Int)) (.int .i64 f0.of) (.slice p0 l0 q0) ∧ Below w.heap.size w w' ∧ Row w' (.slice pk lk qk) f.data := ⟨_, rfl⟩
        have HC0 : Hid (CC { W1 with drawn := W1.drawn + 1 }) := by
          unfold Hid
          rw [hCC]
          exact ⟨At8.below (At8.of hn4 (hat8.below hb1)) hbd, ((unhide hbel).trans (hb1.mono (unhide hbel).size)).drew, (hrk.below hb1).below hbd⟩
        have HCC : Hid (∀ w', CC w' → At8 w' wr.heap.size 0 b off (.int .u64 (f.age : Int)) (.int .u64 (f.first : Int)) (.int .i64 f.of) (.slice pk lk qk) (.int .u64 (f0.age : Int)) (.int .u64 (f0.first : Int)) (.int .i64 f0.of) (.slice p0 l0 q0) ∧ Below w.heap.size w w' ∧ Row w' (.slice pk lk qk) f.data) := by unfold Hid; rw [hCC]; exact fun w' h => h
        have HUP : Hid (∀ w' w'', CC w' → Below w'.heap.size w' w'' → CC w'') := by
          unfold Hid
          rw [hCC]
          exact fun w' w'' h hb => ⟨h.1.below hb, h.2.1.trans (hb.mono h.2.1.size), h.2.2.below hb⟩
        clear hCC
        have HW1 := hide hW1
        have HAL := hide (fun w' (h : CC w') => (alike_any f f0 (.slice pk lk qk) (.slice p0 l0 q0) ⟨_, _, _, rfl⟩ ⟨_, _, _, rfl⟩ w').mono (fun e w'' (hx : e = .returned (.bool (alikeB f f0)) ∧ Below w'.heap.size w' w'') => And.intro hx.1 (unhide HUP w' w'' h hx.2)))
        have HMB := hide (fun w' (h : CC w') => (mayBe_any f (.slice pk lk qk) w' (unhide HCC w' h).2.2).mono (fun e w'' (hx : e = .returned (.bool (mayF f)) ∧ Below w'.heap.size w' w'') => And.intro hx.1 (unhide HUP w' w'' h hx.2)))
        obtain ⟨e0, e1, e2, e3⟩ := hatk
        have hkl : (k : Int) < l.length := by omega
        clear hat8 hb1 hn4 hbd hrk hsk hgk hW1
        have hz440' := unhide hz440
        clear hz440
        generalize hZ : (flatF ((frs l).take k)).length = Z at *
        unfold fv at HAL HMB
        cases ha : alikeB f f0 with
        | false =>
          have HNO := hide (hgd (by unfold goodB; rw [ha]; rfl))
          rw [ha] at HAL
          clear hgd hg1 hft hgood hZ hlk ha
          go_wp2_with fail
          rw [← unhide HW1]
          refine region_quiet CC (by kernel_rfl) (by kernel_rfl) (unhide HC0) ?_
          go_big_quiet_want
          refine ⟨.agg #[.int .u64 (f.age : Int), .int .u64 (f.first : Int), .int .i64 f.of, .slice pk lk qk], fun w' hw' => ?_, ?_⟩
          · obtain ⟨⟨c0, c1, c2, c3, c4, c5, c6, c7⟩, _⟩ := unhide HCC w' hw'
            go_simp
          simp only [Act.put, List.setIfInBounds_toArray, List.set_cons_zero, List.set_cons_succ]
          go_big_quiet_on
          go_big_quiet_want
          refine ⟨.slice (some ⟨b, off, none⟩) l.length cap, fun w' _ => ?_, ?_⟩
          · go_simp
          simp only [Act.put, List.setIfInBounds_toArray, List.set_cons_zero, List.set_cons_succ]
          go_big_quiet_on
          go_big_quiet_want
          refine ⟨.pointer (some ⟨b, off, none⟩), fun w' _ => ?_, ?_⟩
          · go_simp
          simp only [Act.put, List.setIfInBounds_toArray, List.set_cons_zero, List.set_cons_succ]
          go_big_quiet_on
          go_big_quiet_want
          refine ⟨.agg #[.int .u64 (f0.age : Int), .int .u64 (f0.first : Int), .int .i64 f0.of, .slice p0 l0 q0], fun w' hw' => ?_, ?_⟩
          · obtain ⟨⟨c0, c1, c2, c3, c4, c5, c6, c7⟩, _⟩ := unhide HCC w' hw'
            go_simp
          simp only [Act.put, List.setIfInBounds_toArray, List.set_cons_zero, List.set_cons_succ]
          go_big_quiet_on
          go_big_quiet_want
          refine ⟨.bool false, fun w' hw' => ?_, ?_⟩
          · go_simp
            exact unhide HAL w' hw'
          simp only [Act.put, List.setIfInBounds_toArray, List.set_cons_zero, List.set_cons_succ]
          go_big_quiet_on
          go_big_quiet_want
          refine ⟨.bool true, fun w' _ => ?_, ?_⟩
          · go_simp
          simp only [Act.put, List.setIfInBounds_toArray, List.set_cons_zero, List.set_cons_succ]
          go_big_quiet_on
          go_big_quiet_want
          refine ⟨.bool true, fun w' _ => ?_, ?_⟩
          · go_simp
          simp only [Act.put, List.setIfInBounds_toArray, List.set_cons_zero, List.set_cons_succ]
          go_big_quiet_on
          go_big_quiet_skip
          go_big_quiet_skip
          go_big_quiet_skip
          go_big_quiet_want
          refine ⟨.bool true, fun w' _ => ?_, ?_⟩
          · go_simp
          simp only [Act.put, List.setIfInBounds_toArray, List.set_cons_zero, List.set_cons_succ]
          go_big_quiet_on
          go_big_quiet_want
          refine ⟨.bool true, fun w' _ => ?_, ?_⟩
          · go_simp
          simp only [Act.put, List.setIfInBounds_toArray, List.set_cons_zero, List.set_cons_succ]
          go_big_quiet_on
          go_big_quiet_skip
          go_big_quiet_skip
          go_big_quiet_skip
          go_big_quiet_skip
          go_big_quiet_want
          refine ⟨.bool true, fun w' _ => ?_, ?_⟩
          · go_simp
          simp only [Act.put, List.setIfInBounds_toArray, List.set_cons_zero, List.set_cons_succ]
          go_big_quiet_on
          refine wpQuiet_nil ?_
          intro w2 hw2
          go_wp2
          go_ret
          exact ⟨by rw [decide_eq_false (unhide HNO)]; rfl, (unhide HCC w2 hw2).2.1⟩
        | true =>
          rw [ha] at HAL
          cases hm : mayF f with
          | false =>
            have HNO := hide (hgd (by unfold goodB; rw [ha, hm]; rfl))
            rw [hm] at HMB
            clear hgd hg1 hft hgood hZ hlk ha hm
            go_wp2_with fail
            rw [← unhide HW1]
            refine region_quiet CC (by kernel_rfl) (by kernel_rfl) (unhide HC0) ?_
            go_big_quiet_want
            refine ⟨.agg #[.int .u64 (f.age : Int), .int .u64 (f.first : Int), .int .i64 f.of, .slice pk lk qk], fun w' hw' => ?_, ?_⟩
            · obtain ⟨⟨c0, c1, c2, c3, c4, c5, c6, c7⟩, _⟩ := unhide HCC w' hw'
              go_simp
            simp only [Act.put, List.setIfInBounds_toArray, List.set_cons_zero, List.set_cons_succ]
            go_big_quiet_on
            go_big_quiet_want
            refine ⟨.slice (some ⟨b, off, none⟩) l.length cap, fun w' _ => ?_, ?_⟩
            · go_simp
            simp only [Act.put, List.setIfInBounds_toArray, List.set_cons_zero, List.set_cons_succ]
            go_big_quiet_on
            go_big_quiet_want
            refine ⟨.pointer (some ⟨b, off, none⟩), fun w' _ => ?_, ?_⟩
            · go_simp
            simp only [Act.put, List.setIfInBounds_toArray, List.set_cons_zero, List.set_cons_succ]
            go_big_quiet_on
            go_big_quiet_want
            refine ⟨.agg #[.int .u64 (f0.age : Int), .int .u64 (f0.first : Int), .int .i64 f0.of, .slice p0 l0 q0], fun w' hw' => ?_, ?_⟩
            · obtain ⟨⟨c0, c1, c2, c3, c4, c5, c6, c7⟩, _⟩ := unhide HCC w' hw'
              go_simp
            simp only [Act.put, List.setIfInBounds_toArray, List.set_cons_zero, List.set_cons_succ]
            go_big_quiet_on
            go_big_quiet_want
            refine ⟨.bool true, fun w' hw' => ?_, ?_⟩
            · go_simp
              exact unhide HAL w' hw'
            simp only [Act.put, List.setIfInBounds_toArray, List.set_cons_zero, List.set_cons_succ]
            go_big_quiet_on
            go_big_quiet_want
            refine ⟨.bool false, fun w' _ => ?_, ?_⟩
            · go_simp
            simp only [Act.put, List.setIfInBounds_toArray, List.set_cons_zero, List.set_cons_succ]
            go_big_quiet_on
            go_big_quiet_want
            refine ⟨.bool false, fun w' _ => ?_, ?_⟩
            · go_simp
            simp only [Act.put, List.setIfInBounds_toArray, List.set_cons_zero, List.set_cons_succ]
            go_big_quiet_on
            go_big_quiet_want
            refine ⟨.agg #[.int .u64 (f.age : Int), .int .u64 (f.first : Int), .int .i64 f.of, .slice pk lk qk], fun w' hw' => ?_, ?_⟩
            · obtain ⟨⟨c0, c1, c2, c3, c4, c5, c6, c7⟩, _⟩ := unhide HCC w' hw'
              go_simp
            simp only [Act.put, List.setIfInBounds_toArray, List.set_cons_zero, List.set_cons_succ]
            go_big_quiet_on
            go_big_quiet_want
            refine ⟨.bool false, fun w' hw' => ?_, ?_⟩
            · go_simp
              exact unhide HMB w' hw'
            simp only [Act.put, List.setIfInBounds_toArray, List.set_cons_zero, List.set_cons_succ]
            go_big_quiet_on
            go_big_quiet_want
            refine ⟨.bool true, fun w' _ => ?_, ?_⟩
            · go_simp
            simp only [Act.put, List.setIfInBounds_toArray, List.set_cons_zero, List.set_cons_succ]
            go_big_quiet_on
            go_big_quiet_want
            refine ⟨.bool true, fun w' _ => ?_, ?_⟩
            · go_simp
            simp only [Act.put, List.setIfInBounds_toArray, List.set_cons_zero, List.set_cons_succ]
            go_big_quiet_on
            go_big_quiet_want
            refine ⟨.bool true, fun w' _ => ?_, ?_⟩
            · go_simp
            simp only [Act.put, List.setIfInBounds_toArray, List.set_cons_zero, List.set_cons_succ]
            go_big_quiet_on
            go_big_quiet_skip
            go_big_quiet_skip
            go_big_quiet_skip
            go_big_quiet_skip
            go_big_quiet_want
            refine ⟨.bool true, fun w' _ => ?_, ?_⟩
            · go_simp
            simp only [Act.put, List.setIfInBounds_toArray, List.set_cons_zero, List.set_cons_succ]
            go_big_quiet_on
            refine wpQuiet_nil ?_
            intro w2 hw2
            go_wp2
            go_ret
            exact ⟨by rw [decide_eq_false (unhide HNO)]; rfl, (unhide HCC w2 hw2).2.1⟩
          | true =>
            rw [hm] at HMB
            obtain ⟨m1, m2, m3⟩ := (may_iff f).1 hm
            have HFI := hide (fun w' (h : CC w') => (filled_any f (.slice pk lk qk) k w' (unhide HCC w' h).2.2 (by omega) o4).mono (fun e w'' (hx : e = .returned (.bool (filledB f k)) ∧ Below w'.heap.size w' w'') => And.intro hx.1 (unhide HUP w' w'' h hx.2)))
            unfold fv at HFI
            cases hfi : filledB f k with
            | false =>
              have HNO := hide (hgd (by unfold goodB; rw [ha, hm, hfi]; rfl))
              rw [hfi] at HFI
              clear hgd hg1 hft hgood hZ hlk ha hm hfi
              go_wp2_with fail
              rw [← unhide HW1]
              refine region_quiet CC (by kernel_rfl) (by kernel_rfl) (unhide HC0) ?_
              go_big_quiet_want
              refine ⟨.agg #[.int .u64 (f.age : Int), .int .u64 (f.first : Int), .int .i64 f.of, .slice pk lk qk], fun w' hw' => ?_, ?_⟩
              · obtain ⟨⟨c0, c1, c2, c3, c4, c5, c6, c7⟩, _⟩ := unhide HCC w' hw'
                go_simp
              simp only [Act.put, List.setIfInBounds_toArray, List.set_cons_zero, List.set_cons_succ]
              go_big_quiet_on
              go_big_quiet_want
              refine ⟨.slice (some ⟨b, off, none⟩) l.length cap, fun w' _ => ?_, ?_⟩
              · go_simp
              simp only [Act.put, List.setIfInBounds_toArray, List.set_cons_zero, List.set_cons_succ]
              go_big_quiet_on
              go_big_quiet_want
              refine ⟨.pointer (some ⟨b, off, none⟩), fun w' _ => ?_, ?_⟩
              · go_simp
              simp only [Act.put, List.setIfInBounds_toArray, List.set_cons_zero, List.set_cons_succ]
              go_big_quiet_on
              go_big_quiet_want
              refine ⟨.agg #[.int .u64 (f0.age : Int), .int .u64 (f0.first : Int), .int .i64 f0.of, .slice p0 l0 q0], fun w' hw' => ?_, ?_⟩
              · obtain ⟨⟨c0, c1, c2, c3, c4, c5, c6, c7⟩, _⟩ := unhide HCC w' hw'
                go_simp
              simp only [Act.put, List.setIfInBounds_toArray, List.set_cons_zero, List.set_cons_succ]
              go_big_quiet_on
              go_big_quiet_want
              refine ⟨.bool true, fun w' hw' => ?_, ?_⟩
              · go_simp
                exact unhide HAL w' hw'
              simp only [Act.put, List.setIfInBounds_toArray, List.set_cons_zero, List.set_cons_succ]
              go_big_quiet_on
              go_big_quiet_want
              refine ⟨.bool false, fun w' _ => ?_, ?_⟩
              · go_simp
              simp only [Act.put, List.setIfInBounds_toArray, List.set_cons_zero, List.set_cons_succ]
              go_big_quiet_on
              go_big_quiet_want
              refine ⟨.bool false, fun w' _ => ?_, ?_⟩
              · go_simp
              simp only [Act.put, List.setIfInBounds_toArray, List.set_cons_zero, List.set_cons_succ]
              go_big_quiet_on
              go_big_quiet_want
              refine ⟨.agg #[.int .u64 (f.age : Int), .int .u64 (f.first : Int), .int .i64 f.of, .slice pk lk qk], fun w' hw' => ?_, ?_⟩
              · obtain ⟨⟨c0, c1, c2, c3, c4, c5, c6, c7⟩, _⟩ := unhide HCC w' hw'
                go_simp
              simp only [Act.put, List.setIfInBounds_toArray, List.set_cons_zero, List.set_cons_succ]
              go_big_quiet_on
              go_big_quiet_want
              refine ⟨.bool true, fun w' hw' => ?_, ?_⟩
              · go_simp
                exact unhide HMB w' hw'
              simp only [Act.put, List.setIfInBounds_toArray, List.set_cons_zero, List.set_cons_succ]
              go_big_quiet_on
              go_big_quiet_want
              refine ⟨.bool false, fun w' _ => ?_, ?_⟩
              · go_simp
              simp only [Act.put, List.setIfInBounds_toArray, List.set_cons_zero, List.set_cons_succ]
              go_big_quiet_on
              go_big_quiet_want
              refine ⟨.bool false, fun w' _ => ?_, ?_⟩
              · go_simp
              simp only [Act.put, List.setIfInBounds_toArray, List.set_cons_zero, List.set_cons_succ]
              go_big_quiet_on
              go_big_quiet_want
              refine ⟨.bool false, fun w' _ => ?_, ?_⟩
              · go_simp
              simp only [Act.put, List.setIfInBounds_toArray, List.set_cons_zero, List.set_cons_succ]
              go_big_quiet_on
              go_big_quiet_want
              refine ⟨.agg #[.int .u64 (f.age : Int), .int .u64 (f.first : Int), .int .i64 f.of, .slice pk lk qk], fun w' hw' => ?_, ?_⟩
              · obtain ⟨⟨c0, c1, c2, c3, c4, c5, c6, c7⟩, _⟩ := unhide HCC w' hw'
                go_simp
              simp only [Act.put, List.setIfInBounds_toArray, List.set_cons_zero, List.set_cons_succ]
              go_big_quiet_on
              go_big_quiet_want
              refine ⟨.int .i64 (k : Int), fun w' _ => ?_, ?_⟩
              · go_simp
              simp only [Act.put, List.setIfInBounds_toArray, List.set_cons_zero, List.set_cons_succ]
              go_big_quiet_on
              go_big_quiet_want
              refine ⟨.bool false, fun w' hw' => ?_, ?_⟩
              · go_simp
                exact unhide HFI w' hw'
              simp only [Act.put, List.setIfInBounds_toArray, List.set_cons_zero, List.set_cons_succ]
              go_big_quiet_on
              go_big_quiet_want
              refine ⟨.bool true, fun w' _ => ?_, ?_⟩
              · go_simp
              simp only [Act.put, List.setIfInBounds_toArray, List.set_cons_zero, List.set_cons_succ]
              go_big_quiet_on
              go_big_quiet_want
              refine ⟨.bool true, fun w' _ => ?_, ?_⟩
              · go_simp
              simp only [Act.put, List.setIfInBounds_toArray, List.set_cons_zero, List.set_cons_succ]
              go_big_quiet_on
              refine wpQuiet_nil ?_
              intro w2 hw2
              go_wp2
              go_ret
              exact ⟨by rw [decide_eq_false (unhide HNO)]; rfl, (unhide HCC w2 hw2).2.1⟩
            | true =>
              have HGOOD := hide (hg1 (by unfold goodB; rw [ha, hm, hfi]; rfl))
              rw [hfi] at HFI
              rw [hlk] at m3
              have HFT' : Hid ((flatF ((frs l).take (k + 1))).length = Z + lk) := by unfold Hid; rw [hft, List.length_append, hZ, hlk]
              have H32 : Hid (k + 1 = 0 ∨ l.length ≤ 32) := by
                refine Or.inr ?_
                have e : f.of = f0.of := (of_decide_eq_true ha).2.2
                have := unhide HOF
                omega
              have hzk : (Z : Int) ≤ 14080 := by
                rcases unhide h32 with h | h
                · omega
                · omega
              have hlk4 : (lk : Int) ≤ 440 := by omega
              clear hgd hg1 hft hgood hZ hlk ha hm hfi m1 m2 m3 h32
              go_wp2_with fail
              rw [← unhide HW1]
              refine region_quiet CC (by kernel_rfl) (by kernel_rfl) (unhide HC0) ?_
              go_big_quiet_want
              refine ⟨.agg #[.int .u64 (f.age : Int), .int .u64 (f.first : Int), .int .i64 f.of, .slice pk lk qk], fun w' hw' => ?_, ?_⟩
              · obtain ⟨⟨c0, c1, c2, c3, c4, c5, c6, c7⟩, _⟩ := unhide HCC w' hw'
                go_simp
              simp only [Act.put, List.setIfInBounds_toArray, List.set_cons_zero, List.set_cons_succ]
              go_big_quiet_on
              go_big_quiet_want
              refine ⟨.slice (some ⟨b, off, none⟩) l.length cap, fun w' _ => ?_, ?_⟩
              · go_simp
              simp only [Act.put, List.setIfInBounds_toArray, List.set_cons_zero, List.set_cons_succ]
              go_big_quiet_on
              go_big_quiet_want
              refine ⟨.pointer (some ⟨b, off, none⟩), fun w' _ => ?_, ?_⟩
              · go_simp
              simp only [Act.put, List.setIfInBounds_toArray, List.set_cons_zero, List.set_cons_succ]
              go_big_quiet_on
              go_big_quiet_want
              refine ⟨.agg #[.int .u64 (f0.age : Int), .int .u64 (f0.first : Int), .int .i64 f0.of, .slice p0 l0 q0], fun w' hw' => ?_, ?_⟩
              · obtain ⟨⟨c0, c1, c2, c3, c4, c5, c6, c7⟩, _⟩ := unhide HCC w' hw'
                go_simp
              simp only [Act.put, List.setIfInBounds_toArray, List.set_cons_zero, List.set_cons_succ]
              go_big_quiet_on
              go_big_quiet_want
              refine ⟨.bool true, fun w' hw' => ?_, ?_⟩
              · go_simp
                exact unhide HAL w' hw'
              simp only [Act.put, List.setIfInBounds_toArray, List.set_cons_zero, List.set_cons_succ]
              go_big_quiet_on
              go_big_quiet_want
              refine ⟨.bool false, fun w' _ => ?_, ?_⟩
              · go_simp
              simp only [Act.put, List.setIfInBounds_toArray, List.set_cons_zero, List.set_cons_succ]
              go_big_quiet_on
              go_big_quiet_want
              refine ⟨.bool false, fun w' _ => ?_, ?_⟩
              · go_simp
              simp only [Act.put, List.setIfInBounds_toArray, List.set_cons_zero, List.set_cons_succ]
              go_big_quiet_on
              go_big_quiet_want
              refine ⟨.agg #[.int .u64 (f.age : Int), .int .u64 (f.first : Int), .int .i64 f.of, .slice pk lk qk], fun w' hw' => ?_, ?_⟩
              · obtain ⟨⟨c0, c1, c2, c3, c4, c5, c6, c7⟩, _⟩ := unhide HCC w' hw'
                go_simp
              simp only [Act.put, List.setIfInBounds_toArray, List.set_cons_zero, List.set_cons_succ]
              go_big_quiet_on
              go_big_quiet_want
              refine ⟨.bool true, fun w' hw' => ?_, ?_⟩
              · go_simp
                exact unhide HMB w' hw'
              simp only [Act.put, List.setIfInBounds_toArray, List.set_cons_zero, List.set_cons_succ]
              go_big_quiet_on
              go_big_quiet_want
              refine ⟨.bool false, fun w' _ => ?_, ?_⟩
              · go_simp
              simp only [Act.put, List.setIfInBounds_toArray, List.set_cons_zero, List.set_cons_succ]
              go_big_quiet_on
              go_big_quiet_want
              refine ⟨.bool false, fun w' _ => ?_, ?_⟩
              · go_simp
              simp only [Act.put, List.setIfInBounds_toArray, List.set_cons_zero, List.set_cons_succ]
              go_big_quiet_on
              go_big_quiet_want
              refine ⟨.bool false, fun w' _ => ?_, ?_⟩
              · go_simp
              simp only [Act.put, List.setIfInBounds_toArray, List.set_cons_zero, List.set_cons_succ]
              go_big_quiet_on
              go_big_quiet_want
              refine ⟨.agg #[.int .u64 (f.age : Int), .int .u64 (f.first : Int), .int .i64 f.of, .slice pk lk qk], fun w' hw' => ?_, ?_⟩
              · obtain ⟨⟨c0, c1, c2, c3, c4, c5, c6, c7⟩, _⟩ := unhide HCC w' hw'
                go_simp
              simp only [Act.put, List.setIfInBounds_toArray, List.set_cons_zero, List.set_cons_succ]
              go_big_quiet_on
              go_big_quiet_want
              refine ⟨.int .i64 (k : Int), fun w' _ => ?_, ?_⟩
              · go_simp
              simp only [Act.put, List.setIfInBounds_toArray, List.set_cons_zero, List.set_cons_succ]
              go_big_quiet_on
              go_big_quiet_want
              refine ⟨.bool true, fun w' hw' => ?_, ?_⟩
              · go_simp
                exact unhide HFI w' hw'
              simp only [Act.put, List.setIfInBounds_toArray, List.set_cons_zero, List.set_cons_succ]
              go_big_quiet_on
              go_big_quiet_want
              refine ⟨.bool false, fun w' _ => ?_, ?_⟩
              · go_simp
              simp only [Act.put, List.setIfInBounds_toArray, List.set_cons_zero, List.set_cons_succ]
              go_big_quiet_on
              go_big_quiet_want
              refine ⟨.bool false, fun w' _ => ?_, ?_⟩
              · go_simp
              simp only [Act.put, List.setIfInBounds_toArray, List.set_cons_zero, List.set_cons_succ]
              go_big_quiet_on
              refine wpQuiet_nil ?_
              intro w2 hw2
              obtain ⟨⟨c0, c1, c2, c3, _⟩, B2, _⟩ := unhide HCC w2 hw2
              have HB2 := hide B2
              clear B2
              go_wp2
              go_roundw
              case rel => exact ⟨k + 1, by omega, by go_num, by rw [unhide HFT']; go_num, by unfold Hid; rw [unhide HFT']; omega, unhide HGOOD, unhide H32, unhide HB2⟩
              case measure => simp [intOf]; omega
      · have hkn : k = l.length := by omega
        subst hkn
        have hfl : (frs l).take l.length = frs l := List.take_of_length_le (by rw [unhide HLEN]; exact Nat.le_refl _)
        rw [hfl] at *
        have HEND : Hid (decide (IsRec (frs l)) = decide (((flatF (frs l)).length : Int) ≤ 8192)) := by
          unfold Hid
          refine decide_eq_decide.2 ⟨fun h => by have := h.2.1; omega, fun h => (whole_iff _).1 ⟨?_, ?_, ?_, by omega⟩⟩
          · intro e; have := unhide HLEN; rw [e] at this; simp at this; omega
          · rw [unhide HLEN, unhide HHD]; exact unhide HOF
          · intro i hi; rw [unhide HHD]; exact unhide hgood i hi (by rw [← unhide HLEN]; exact hi)
        generalize (flatF (frs l)).length = Z at *
        clear hgood hfl
        go_wp2
        go_ret
        exact ⟨by rw [unhide HEND]; rfl, unhide hbel⟩
  · have hat0 := (hat 0 hpos).1
    rw [Nat.zero_mul, Nat.add_zero] at hat0
    rw [decide_eq_false (by
      intro h
      have h2 := ((whole_iff _).2 h).2.1
      rw [hlen, hhd] at h2
      exact hof h2)]
    exact whole_of w b off l.length cap _ _ _ _ _ rfl hat0 (by omega) hof
end Go.Proofs.Ytdpoiieblbmofaa
