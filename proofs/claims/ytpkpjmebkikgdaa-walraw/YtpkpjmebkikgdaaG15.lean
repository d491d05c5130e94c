/- Texts of ours, one behind the other: FrRef4, FrRef4b. -/
import Derived.Test.YtpkpjmebkikgdaaG11
import Derived.Test.YtpkpjmebkikgdaaG13
import Derived.Test.YtpkpjmebkikgdaaG14
/- The document's own answers of layer 6: Join. -/
namespace Go.Proofs.Ytpkpjmebkikgdaa
open Go.RowKit

theorem isRec_le {l : List Fr} (h : IsRec l) : l.length ≤ 19 := by
  have h1 := congrArg List.length h.2.2
  have h2 := length_frames (l.headD zeroF).age (l.headD zeroF).first (flatF l)
  have h3 := count_le (n := (flatF l).length) (by have := h.2.1; omega)
  omega
theorem join_no {l : List Fr} (h : ¬ IsRec l) : joinE l = 11 ∧ joinB l = [] := by unfold joinE joinB; rw [if_neg h, if_neg h]; exact ⟨rfl, rfl⟩
theorem join_yes {l : List Fr} (h : IsRec l) : joinE l = 0 ∧ joinB l = flatF l := by unfold joinE joinB; rw [if_pos h, if_pos h]; exact ⟨rfl, rfl⟩
theorem isRec_data {l : List Fr} (h : IsRec l) {j : Nat} (hj : j < l.length) : l[j].data.length ≤ 440 := by
  have := ((good_iff _ _ _).1 (((whole_iff l).2 h).2.2.1 j hj)).2.1.2.2
  omega

set_option maxRecDepth 20000 in
theorem rjoin_small (w : World) (p : Option Addr) (n c : Nat) (h : n = 0 ∨ 32 < n) : Calls Try.prog 27 #[.slice p n c] w fun e w' => e = .returned (.tuple #[.slice none 0 0, .int .i64 11]) ∧ Below w.heap.size w w' := by
  rcases h with rfl | h
  · go_enter Try.func27, Try.ntmps27
    go_wp2
    go_ret2
    exact ⟨rfl, Below.refl _ _⟩
  · have h1 : ((n : Int) == 0) = false := by rw [beq_eq_false_iff_ne]; omega
    have h2 : (32 : Int) < n := by omega
    go_enter Try.func27, Try.ntmps27
    go_wp2
    go_ret2
    exact ⟨rfl, Below.refl _ _⟩

set_option maxRecDepth 20000 in
set_option maxHeartbeats 4000000 in
theorem rjoin_any (v : Value) (l : List (Fr × Value)) (w : World) (hl : FL w v l) :
    Calls Try.prog 27 #[v] w fun e w' => ∃ t, e = .returned (.tuple #[t, .int .i64 (joinE (frs l))]) ∧ Row w' t (joinB (frs l)) ∧ Below w.heap.size w w' := by
  obtain ⟨i0, hi, hz0, hz1, hz2⟩ := info_parts Try.info5
  have hlen := length_frs l
  by_cases hsm : l.length = 0 ∨ 32 < l.length
  · have hno : ¬ IsRec (frs l) := by
      intro h
      have h1 := isRec_le h
      have h2 : (frs l).length ≠ 0 := fun e => h.1 (List.eq_nil_of_length_eq_zero e)
      omega
    rw [(join_no hno).1, (join_no hno).2]
    obtain ⟨a, cap, rfl, _⟩ := hl.shape
    refine (rjoin_small w a l.length cap hsm).mono ?_
    rintro e w1 ⟨rfl, b1⟩
    exact ⟨_, rfl, Row.nil _, b1⟩
  have hne : l ≠ [] := by intro e; subst e; simp at hsm
  have hpos : 0 < l.length := by omega
  have h32 : l.length ≤ 32 := by omega
  have hok : ∀ p ∈ l, p.1.ok := fun p hp => (hl.2 p hp).2
  have HGET : Hid (∀ j (h : j < l.length) (h' : j < (frs l).length), (frs l)[j] = l[j].1) := fun j h h' => by simp [frs]
  have hhd : (frs l).headD zeroF = l[0].1 := by rw [headD_get _ (by omega)]; exact unhide HGET 0 hpos (by omega)
  obtain ⟨b, off, cap, rfl, hc1, hc2, _, hat⟩ := hl.open hne
  have HAT := hide (fun w' (hb : Below w.heap.size w w') j (hj : j < l.length) => And.intro ((hat j hj).1.below hb) ((hat j hj).2.below hb))
  have hat0 := (hat 0 hpos).1
  rw [Nat.zero_mul, Nat.add_zero] at hat0
  have HAT0 := hide (fun w' (hb : Below w.heap.size w w') => hat0.below hb)
  have hok0 := hok _ (List.getElem_mem hpos)
  obtain ⟨f0, hf0⟩ : ∃ f0 : Fr, f0 = l[0].1 := ⟨_, rfl⟩
  obtain ⟨t0, ht0⟩ : ∃ t0 : Value, t0 = l[0].2 := ⟨_, rfl⟩
  obtain ⟨p0, l0, q0, hs0⟩ := slice_of_row (hat 0 hpos).2
  rw [← hf0, hs0] at HAT0
  rw [← hf0] at hhd hok0
  have HHD := hide hhd
  have HLEN := hide hlen
  have HFT := hide (fun k (h : k < (frs l).length) => flat_take (frs l) k h)
  have HND := hide (fun (h : IsRec (frs l)) k (hk : k < (frs l).length) => isRec_data h hk)
  have HALL : Hid ((frs l).take l.length = frs l) := by unfold Hid; rw [List.take_of_length_le (by omega)]
  have hz : ((l.length : Int) == 0) = false := by rw [beq_eq_false_iff_ne]; omega
  have hnl : ¬ (32 : Int) < l.length := by omega
  unfold maxLen at hc2
  clear hat hl hat0 hok hf0 ht0 hs0 hhd hlen hsm
  go_enter Try.func27, Try.ntmps27
  go_wp2_with fail
  go_loopw [4, 5] (fun t i wr => ∃ k : Nat, k ≤ l.length ∧ i = .int .i64 k ∧ wr.ownsRow w.heap.size 5 1 t (flatF ((frs l).take k)).length ((flatF ((frs l).take k)).map B) ∧ (flatF ((frs l).take k)).length ≤ k * 440 ∧ Hid (Below w.heap.size w wr)) (fun _ i _ => l.length - (intOf i).toNat)
  case atStart => exact ⟨0, Nat.zero_le _, rfl, by simpa [flatF] using World.ownsRow_nil _ _ _ _, by simp [flatF], Below.refl _ _⟩
  case round =>
    obtain ⟨k, hk, rfl, hown, hZ, hbel⟩ := hrel
    by_cases hlt : k < l.length
    · obtain ⟨hatk, hrk⟩ := unhide HAT wr (unhide hbel) k hlt
      have hkf : k < (frs l).length := by rw [unhide HLEN]; exact hlt
      have hgk := unhide HGET k hlt hkf
      have hft := unhide HFT k hkf
      rw [hgk] at hft
      have hnd := fun h => unhide HND h k hkf
      rw [hgk] at hnd
      obtain ⟨pk, lk, qk, hsk⟩ := slice_of_row hrk
      rw [hsk] at hatk hrk
      have hlk : l[k].1.data.length = lk := by obtain ⟨a, c, e, _⟩ := hrk; simp only [Value.slice.injEq] at e; omega
      generalize l[k].1 = f at *
      obtain ⟨c0, c1, c2, c3⟩ := hatk
      have hkl : (k : Int) < l.length := by omega
      have hsz := (unhide hbel).size
      by_cases hbig : (440 : Int) < lk
      · have HNO : Hid (¬ IsRec (frs l)) := fun h => by have := hnd h; omega
        clear hft hgk hnd hrk hsk hown
        go_wp2
        go_ret2
        refine ⟨.slice none 0 0, ?_, ?_, unhide hbel⟩
        · rw [(join_no (unhide HNO)).1]; rfl
        · rw [(join_no (unhide HNO)).2]; exact Row.nil _
      · have HLT := hide (fun j hj => (hown.lt j hj).1)
        have hle : (flatF ((frs l).take (k + 1))).length ≤ (k + 1) * 440 := by rw [hft, List.length_append]; omega
        have HLE := hide hle
        have HF := hide hft
        have hlk' : f.data.length ≤ 440 := by omega
        clear hft hgk hsk hnd hle hlk
        generalize flatF ((frs l).take k) = X at *
        go_wp2_with (at_builtin; refine wpList_append_row rfl _ _ 31 rfl w.heap.size 5 i0 (.int .u8 0) Try.underlying31 hi hz0 hz1 hz2 rfl _ _ _ rfl hown _ f.data rfl hrk (by omega) hsz ?_)
        intro v' w2 hown2 hgrow
        have hb2 : Below w.heap.size w w2 := (unhide hbel).grown hgrow hsz (fun j hj => unhide HLT j hj)
        have HB2 := hide hb2
        clear hgrow hb2 HLT c0 c1 c2 c3 hown hrk
        go_wp2
        go_roundw
        case rel => exact ⟨k + 1, by omega, by go_num, by rw [unhide HF, List.length_append, List.map_append]; exact hown2, unhide HLE, unhide HB2⟩
        case measure => simp [intOf]; omega
    · have hkn : k = l.length := by omega
      subst hkn
      rw [unhide HALL] at hown hZ
      by_cases hbig : (8192 : Int) < (flatF (frs l)).length
      · have HNO : Hid (¬ IsRec (frs l)) := fun h => by have := h.2.1; omega
        obtain ⟨p, cc, ll, rfl, hll⟩ := (row_of_owns hown).shape
        have hb' : (8192 : Int) < ll := by omega
        clear hown hZ hbig hll
        go_wp2
        go_ret2
        refine ⟨.slice none 0 0, ?_, ?_, unhide hbel⟩
        · rw [(join_no (unhide HNO)).1]; rfl
        · rw [(join_no (unhide HNO)).2]; exact Row.nil _
      · have hrowX := row_of_owns hown
        obtain ⟨p, cc, ll, rfl, hll⟩ := hrowX.shape
        have hb' : ¬ (8192 : Int) < ll := by omega
        have hdw : Below wr.heap.size wr wr.drew := (Below.refl _ _).drew
        have HFRM := hide (rframes_any f0.age f0.first hok0.1 hok0.2.1 (.slice p ll cc) (flatF (frs l)) wr.drew (hrowX.below hdw) (by omega))
        obtain ⟨c0, c1, c2, c3⟩ := unhide HAT0 wr.drew ((unhide hbel).drew)
        have HBD := hide ((unhide hbel).drew)
        have HOWN := hide hown
        have HX8 : Hid ((flatF (frs l)).length ≤ 8192) := by unfold Hid; omega
        have HLF := hide (length_frames f0.age f0.first (flatF (frs l)))
        clear hown hZ hrowX hdw hll
        go_wp2_with fail
        go_region_held3 (fun w' => w'.cell? ⟨b, off, none⟩ = some (.int .u64 (f0.age : Int)) ∧ w'.cell? ⟨b, off + 1, none⟩ = some (.int .u64 (f0.first : Int))) (first | assumption | go_keep)
          (first | (go_at_call 46; refine Calls.mono (unhide HFRM) ?_; rintro e w2 ⟨v2, L2, rfl, hF2, hfr2, b2⟩; have hk2 : w2.cell? ⟨b, off, none⟩ = some (.int .u64 (f0.age : Int)) ∧ w2.cell? ⟨b, off + 1, none⟩ = some (.int .u64 (f0.first : Int)) := ⟨(b2.cell (World.block_lt_of_cell? _ _ c0)).trans c0, (b2.cell (World.block_lt_of_cell? _ _ c1)).trans c1⟩))
        have HB2 := hide ((unhide HBD).trans (b2.mono (unhide HBD).size))
        have HRX := hide (((row_of_owns (unhide HOWN)).below ((Below.refl _ wr).drew)).below b2)
        have hl2 : L2.length = (framesN f0.age f0.first (flatF (frs l))).length := by rw [← hfr2, length_frs]
        obtain ⟨p2, cap2, rfl, h2a, h2b, _⟩ := hF2.fl.shape
        have HFL2 := hide hF2.fl
        have HFR := hide hfr2
        clear c0 c1 c2 c3 HFRM HBD HOWN b2 hF2 hfr2 hk2
        by_cases hln : L2.length = l.length
        · rw [hln]
          have hne2 : L2 ≠ [] := by intro e; rw [e] at hln; simp at hln; omega
          obtain ⟨b2, off2, cap2', e2, _, hm2, _, hat2⟩ := (unhide HFL2).open hne2
          simp only [Value.slice.injEq, true_and] at e2
          obtain ⟨rfl, rfl⟩ := e2
          have HAT2 := hide (fun w' (hb : Below w2.heap.size w2 w') j (hj : j < L2.length) => And.intro ((hat2 j hj).1.below hb) ((hat2 j hj).2.below hb))
          have hnn : ((l.length : Int) == l.length) = true := by simp
          have HG2 : Hid (∀ j (h : j < L2.length) (h' : j < (frs L2).length), (frs L2)[j] = L2[j].1) := fun j h h' => by simp [frs]
          have HL2 := hide (length_frs L2)
          have HREC : Hid ((∀ j (h : j < l.length) (h2 : j < L2.length), l[j].1 = L2[j].1) → IsRec (frs l)) := by
            intro h
            have e : frs l = frs L2 := by
              apply List.ext_getElem
              · rw [unhide HLEN, unhide HL2, hln]
              · intro i h1 h2
                rw [unhide HGET i (by rw [← unhide HLEN]; exact h1) h1, unhide HG2 i (by rw [← unhide HL2]; exact h2) h2]
                exact h i _ _
            refine ⟨fun e => ?_, unhide HX8, ?_⟩
            · have := unhide HLEN; rw [e] at this; simp at this; omega
            · rw [unhide HHD, ← unhide HFR]; exact e
          have HNRE : Hid (∀ j (h : j < l.length) (h2 : j < L2.length), l[j].1 ≠ L2[j].1 → ¬ IsRec (frs l)) := by
            intro j h h2 hd hr
            have e := hr.2.2
            rw [unhide HHD, ← unhide HFR] at e
            apply hd
            rw [← unhide HGET j h (by rw [unhide HLEN]; exact h), ← unhide HG2 j h2 (by rw [unhide HL2]; exact h2)]
            congr 1
          unfold maxLen at hm2
          clear hat2 hl2 HFL2
          go_wp2_with fail
          go_loopw [7] (fun i wq => ∃ k : Nat, k ≤ l.length ∧ i = .int .i64 k ∧ Hid (∀ j (h : j < l.length) (h2 : j < L2.length), j < k → l[j].1 = L2[j].1) ∧ Hid (Below w2.heap.size w2 wq)) (fun i _ => l.length - (intOf i).toNat)
          case atStart => exact ⟨0, Nat.zero_le _, rfl, fun j _ _ hj => absurd hj (by omega), Below.refl _ _⟩
          case round =>
            obtain ⟨k, hk, rfl, heq, hbq⟩ := hrel
            by_cases hlt : k < l.length
            · have hlt2 : k < L2.length := by omega
              have hBq : Below w.heap.size w wr := (unhide HB2).trans ((unhide hbq).mono (unhide HB2).size)
              obtain ⟨hatk, hrk⟩ := unhide HAT wr hBq k hlt
              obtain ⟨hatg, hrg⟩ := unhide HAT2 wr (unhide hbq) k hlt2
              obtain ⟨pk, lk, qk, hsk⟩ := slice_of_row hrk
              obtain ⟨pg, lg, qg, hsg⟩ := slice_of_row hrg
              rw [hsk] at hatk hrk
              rw [hsg] at hatg hrg
              have hne := unhide HNRE k hlt hlt2
              have hstep : l[k].1 = L2[k].1 → ∀ j (h : j < l.length) (h2 : j < L2.length), j < k + 1 → l[j].1 = L2[j].1 := fun e j h h2 hj => by
                by_cases hjk : j = k
                · subst hjk; exact e
                · exact unhide heq j h h2 (by omega)
              generalize l[k].1 = f at *
              generalize L2[k].1 = g at *
              have hkl : (k : Int) < l.length := by omega
              obtain ⟨CC, hCC⟩ : ∃ CC : World → Prop, CC = fun w' => At8 w' b (off + k * 4) b2 (off2 + k * 4) (.int .u64 (f.age : Int)) (.int .u64 (f.first : Int)) (.int .i64 f.of) (.slice pk lk qk) (.int .u64 (g.age : Int)) (.int .u64 (g.first : Int)) (.int .i64 g.of) (.slice pg lg qg) ∧ Below w2.heap.size w2 w' ∧ Row w' (.slice pk lk qk) f.data ∧ Row w' (.slice pg lg qg) g.data := ⟨_, rfl⟩
              have hbd : Below wr.heap.size wr wr.drew := (Below.refl _ _).drew
              have HC0 : Hid (CC { wr with drawn := wr.drawn + 1 }) := by
                unfold Hid
                rw [hCC]
                exact ⟨At8.below (At8.of hatk hatg) hbd, (unhide hbq).drew, hrk.below hbd, hrg.below hbd⟩
              have HCC : Hid (∀ w', CC w' → At8 w' b (off + k * 4) b2 (off2 + k * 4) (.int .u64 (f.age : Int)) (.int .u64 (f.first : Int)) (.int .i64 f.of) (.slice pk lk qk) (.int .u64 (g.age : Int)) (.int .u64 (g.first : Int)) (.int .i64 g.of) (.slice pg lg qg) ∧ Below w2.heap.size w2 w' ∧ Row w' (.slice pk lk qk) f.data ∧ Row w' (.slice pg lg qg) g.data) := by unfold Hid; rw [hCC]; exact fun w' h => h
              have HFR2 : Hid (∀ w', CC w' → Calls Try.prog 47 #[fv f (.slice pk lk qk), fv g (.slice pg lg qg)] w' fun e w'' => e = .returned (.bool (decide (f = g))) ∧ CC w'') := by
                intro w' h
                refine (hframe_any f g _ _ w' (unhide HCC w' h).2.2.1 (unhide HCC w' h).2.2.2).mono ?_
                rintro e w'' ⟨rfl, hb⟩
                refine ⟨rfl, ?_⟩
                obtain ⟨a1, a2, a3, a4⟩ := unhide HCC w' h
                rw [hCC]
                exact ⟨a1.below hb, a2.trans (hb.mono a2.size), a3.below hb, a4.below hb⟩
              unfold fv at HFR2
              clear hCC hatk hatg hrk hrg hsk hsg hbd hBq
              by_cases he : f = g
              · have HSTEP := hide (hstep he)
                rw [decide_eq_true he] at HFR2
                clear hstep hne he
                go_wp2_with fail
                refine region_quiet CC (by kernel_rfl) (by kernel_rfl) (unhide HC0) ?_
                go_big_quiet_want
                refine ⟨.slice (some ⟨b, off, none⟩) l.length cap, fun w' _ => ?_, ?_⟩
                · go_simp
                simp only [Act.put, List.setIfInBounds_toArray, List.set_cons_zero, List.set_cons_succ]
                go_big_quiet_on
                go_big_quiet_want
                refine ⟨.int .i64 (k : Int), fun w' _ => ?_, ?_⟩
                · go_simp
                simp only [Act.put, List.setIfInBounds_toArray, List.set_cons_zero, List.set_cons_succ]
                go_big_quiet_on
                go_big_quiet_want
                refine ⟨.pointer (some ⟨b, off + k * 4, none⟩), fun w' _ => ?_, ?_⟩
                · go_simp
                simp only [Act.put, List.setIfInBounds_toArray, List.set_cons_zero, List.set_cons_succ]
                go_big_quiet_on
                go_big_quiet_want
                refine ⟨.agg #[.int .u64 (f.age : Int), .int .u64 (f.first : Int), .int .i64 f.of, .slice pk lk qk], fun w' hw' => ?_, ?_⟩
                · obtain ⟨⟨c0, c1, c2, c3, c4, c5, c6, c7⟩, _⟩ := unhide HCC w' hw'
                  go_simp
                simp only [Act.put, List.setIfInBounds_toArray, List.set_cons_zero, List.set_cons_succ]
                go_big_quiet_on
                go_big_quiet_want
                refine ⟨.slice (some ⟨b2, off2, none⟩) l.length cap2, fun w' _ => ?_, ?_⟩
                · go_simp
                simp only [Act.put, List.setIfInBounds_toArray, List.set_cons_zero, List.set_cons_succ]
                go_big_quiet_on
                go_big_quiet_want
                refine ⟨.int .i64 (k : Int), fun w' _ => ?_, ?_⟩
                · go_simp
                simp only [Act.put, List.setIfInBounds_toArray, List.set_cons_zero, List.set_cons_succ]
                go_big_quiet_on
                go_big_quiet_want
                refine ⟨.pointer (some ⟨b2, off2 + k * 4, none⟩), fun w' _ => ?_, ?_⟩
                · go_simp
                simp only [Act.put, List.setIfInBounds_toArray, List.set_cons_zero, List.set_cons_succ]
                go_big_quiet_on
                go_big_quiet_want
                refine ⟨.agg #[.int .u64 (g.age : Int), .int .u64 (g.first : Int), .int .i64 g.of, .slice pg lg qg], fun w' hw' => ?_, ?_⟩
                · obtain ⟨⟨c0, c1, c2, c3, c4, c5, c6, c7⟩, _⟩ := unhide HCC w' hw'
                  go_simp
                simp only [Act.put, List.setIfInBounds_toArray, List.set_cons_zero, List.set_cons_succ]
                go_big_quiet_on
                go_big_quiet_want
                refine ⟨.bool true, fun w' hw' => ?_, ?_⟩
                · go_simp
                  exact unhide HFR2 w' hw'
                simp only [Act.put, List.setIfInBounds_toArray, List.set_cons_zero, List.set_cons_succ]
                go_big_quiet_on
                go_big_quiet_want
                refine ⟨.bool false, fun w' _ => ?_, ?_⟩
                · go_simp
                simp only [Act.put, List.setIfInBounds_toArray, List.set_cons_zero, List.set_cons_succ]
                go_big_quiet_on
                refine wpQuiet_nil ?_
                intro w3 hw3
                have HBQ := hide (unhide HCC w3 hw3).2.1
                clear hw3
                go_wp2
                go_roundw
                case rel => exact ⟨k + 1, by omega, by go_num, unhide HSTEP, unhide HBQ⟩
                case measure => simp [intOf]; omega
              · have HNO := hide (hne he)
                rw [decide_eq_false he] at HFR2
                clear hstep hne he
                go_wp2_with fail
                refine region_quiet CC (by kernel_rfl) (by kernel_rfl) (unhide HC0) ?_
                go_big_quiet_want
                refine ⟨.slice (some ⟨b, off, none⟩) l.length cap, fun w' _ => ?_, ?_⟩
                · go_simp
                simp only [Act.put, List.setIfInBounds_toArray, List.set_cons_zero, List.set_cons_succ]
                go_big_quiet_on
                go_big_quiet_want
                refine ⟨.int .i64 (k : Int), fun w' _ => ?_, ?_⟩
                · go_simp
                simp only [Act.put, List.setIfInBounds_toArray, List.set_cons_zero, List.set_cons_succ]
                go_big_quiet_on
                go_big_quiet_want
                refine ⟨.pointer (some ⟨b, off + k * 4, none⟩), fun w' _ => ?_, ?_⟩
                · go_simp
                simp only [Act.put, List.setIfInBounds_toArray, List.set_cons_zero, List.set_cons_succ]
                go_big_quiet_on
                go_big_quiet_want
                refine ⟨.agg #[.int .u64 (f.age : Int), .int .u64 (f.first : Int), .int .i64 f.of, .slice pk lk qk], fun w' hw' => ?_, ?_⟩
                · obtain ⟨⟨c0, c1, c2, c3, c4, c5, c6, c7⟩, _⟩ := unhide HCC w' hw'
                  go_simp
                simp only [Act.put, List.setIfInBounds_toArray, List.set_cons_zero, List.set_cons_succ]
                go_big_quiet_on
                go_big_quiet_want
                refine ⟨.slice (some ⟨b2, off2, none⟩) l.length cap2, fun w' _ => ?_, ?_⟩
                · go_simp
                simp only [Act.put, List.setIfInBounds_toArray, List.set_cons_zero, List.set_cons_succ]
                go_big_quiet_on
                go_big_quiet_want
                refine ⟨.int .i64 (k : Int), fun w' _ => ?_, ?_⟩
                · go_simp
                simp only [Act.put, List.setIfInBounds_toArray, List.set_cons_zero, List.set_cons_succ]
                go_big_quiet_on
                go_big_quiet_want
                refine ⟨.pointer (some ⟨b2, off2 + k * 4, none⟩), fun w' _ => ?_, ?_⟩
                · go_simp
                simp only [Act.put, List.setIfInBounds_toArray, List.set_cons_zero, List.set_cons_succ]
                go_big_quiet_on
                go_big_quiet_want
                refine ⟨.agg #[.int .u64 (g.age : Int), .int .u64 (g.first : Int), .int .i64 g.of, .slice pg lg qg], fun w' hw' => ?_, ?_⟩
                · obtain ⟨⟨c0, c1, c2, c3, c4, c5, c6, c7⟩, _⟩ := unhide HCC w' hw'
                  go_simp
                simp only [Act.put, List.setIfInBounds_toArray, List.set_cons_zero, List.set_cons_succ]
                go_big_quiet_on
                go_big_quiet_want
                refine ⟨.bool false, fun w' hw' => ?_, ?_⟩
                · go_simp
                  exact unhide HFR2 w' hw'
                simp only [Act.put, List.setIfInBounds_toArray, List.set_cons_zero, List.set_cons_succ]
                go_big_quiet_on
                go_big_quiet_want
                refine ⟨.bool true, fun w' _ => ?_, ?_⟩
                · go_simp
                simp only [Act.put, List.setIfInBounds_toArray, List.set_cons_zero, List.set_cons_succ]
                go_big_quiet_on
                refine wpQuiet_nil ?_
                intro w3 hw3
                have HBQ := hide (unhide HCC w3 hw3).2.1
                clear hw3
                go_wp2
                go_ret2
                refine ⟨.slice none 0 0, ?_, ?_, (unhide HB2).trans ((unhide HBQ).mono (unhide HB2).size)⟩
                · rw [(join_no (unhide HNO)).1]; rfl
                · rw [(join_no (unhide HNO)).2]; exact Row.nil _
            · have hkn : k = l.length := by omega
              subst hkn
              have HY := hide (unhide HREC (fun j h h2 => unhide heq j h h2 h))
              go_wp2
              go_ret2
              refine ⟨.slice p ll cc, ?_, ?_, (unhide HB2).trans ((unhide hbq).mono (unhide HB2).size)⟩
              · rw [(join_yes (unhide HY)).1]; rfl
              · rw [(join_yes (unhide HY)).2]; exact (unhide HRX).below (unhide hbq)
        · have HNO : Hid (¬ IsRec (frs l)) := fun h => by
            have e := congrArg List.length h.2.2
            rw [unhide HHD, ← hl2, unhide HLEN] at e
            omega
          have hnn : ((L2.length : Int) == l.length) = false := by rw [beq_eq_false_iff_ne]; omega
          clear hln hl2
          go_wp2
          go_ret2
          refine ⟨.slice none 0 0, ?_, ?_, unhide HB2⟩
          · rw [(join_no (unhide HNO)).1]; rfl
          · rw [(join_no (unhide HNO)).2]; exact Row.nil _
end Go.Proofs.Ytpkpjmebkikgdaa

/- The reference's Join, and where its answer lies. -/
namespace Go.Proofs.Ytpkpjmebkikgdaa
open Go.RowKit

set_option maxRecDepth 20000 in
set_option maxHeartbeats 4000000 in
theorem rjoin_own (v : Value) (l : List (Fr × Value)) (w : World) (hl : FL w v l) :
    Calls Try.prog 27 #[v] w fun e w' => ∃ t, e = .returned (.tuple #[t, .int .i64 (joinE (frs l))]) ∧ Row w' t (joinB (frs l)) ∧ (∀ b off n c, t = .slice (some ⟨b, off, none⟩) n c → w.heap.size ≤ b) ∧ Below w.heap.size w w' := by
  obtain ⟨i0, hi, hz0, hz1, hz2⟩ := info_parts Try.info5
  have hlen := length_frs l
  by_cases hsm : l.length = 0 ∨ 32 < l.length
  · have hno : ¬ IsRec (frs l) := by
      intro h
      have h1 := isRec_le h
      have h2 : (frs l).length ≠ 0 := fun e => h.1 (List.eq_nil_of_length_eq_zero e)
      omega
    rw [(join_no hno).1, (join_no hno).2]
    obtain ⟨a, cap, rfl, _⟩ := hl.shape
    refine (rjoin_small w a l.length cap hsm).mono ?_
    rintro e w1 ⟨rfl, b1⟩
    exact ⟨_, rfl, Row.nil _, (fun b off n c e => by cases e), b1⟩
  have hne : l ≠ [] := by intro e; subst e; simp at hsm
  have hpos : 0 < l.length := by omega
  have h32 : l.length ≤ 32 := by omega
  have hok : ∀ p ∈ l, p.1.ok := fun p hp => (hl.2 p hp).2
  have HGET : Hid (∀ j (h : j < l.length) (h' : j < (frs l).length), (frs l)[j] = l[j].1) := fun j h h' => by simp [frs]
  have hhd : (frs l).headD zeroF = l[0].1 := by rw [headD_get _ (by omega)]; exact unhide HGET 0 hpos (by omega)
  obtain ⟨b, off, cap, rfl, hc1, hc2, _, hat⟩ := hl.open hne
  have HAT := hide (fun w' (hb : Below w.heap.size w w') j (hj : j < l.length) => And.intro ((hat j hj).1.below hb) ((hat j hj).2.below hb))
  have hat0 := (hat 0 hpos).1
  rw [Nat.zero_mul, Nat.add_zero] at hat0
  have HAT0 := hide (fun w' (hb : Below w.heap.size w w') => hat0.below hb)
  have hok0 := hok _ (List.getElem_mem hpos)
  obtain ⟨f0, hf0⟩ : ∃ f0 : Fr, f0 = l[0].1 := ⟨_, rfl⟩
  obtain ⟨t0, ht0⟩ : ∃ t0 : Value, t0 = l[0].2 := ⟨_, rfl⟩
  obtain ⟨p0, l0, q0, hs0⟩ := slice_of_row (hat 0 hpos).2
  rw [← hf0, hs0] at HAT0
  rw [← hf0] at hhd hok0
  have HHD := hide hhd
  have HLEN := hide hlen
  have HFT := hide (fun k (h : k < (frs l).length) => flat_take (frs l) k h)
  have HND := hide (fun (h : IsRec (frs l)) k (hk : k < (frs l).length) => isRec_data h hk)
  have HALL : Hid ((frs l).take l.length = frs l) := by unfold Hid; rw [List.take_of_length_le (by omega)]
  have hz : ((l.length : Int) == 0) = false := by rw [beq_eq_false_iff_ne]; omega
  have hnl : ¬ (32 : Int) < l.length := by omega
  unfold maxLen at hc2
  clear hat hl hat0 hok hf0 ht0 hs0 hhd hlen hsm
  go_enter Try.func27, Try.ntmps27
  go_wp2_with fail
  go_loopw [4, 5] (fun t i wr => ∃ k : Nat, k ≤ l.length ∧ i = .int .i64 k ∧ wr.ownsRow w.heap.size 5 1 t (flatF ((frs l).take k)).length ((flatF ((frs l).take k)).map B) ∧ (flatF ((frs l).take k)).length ≤ k * 440 ∧ Hid (Below w.heap.size w wr)) (fun _ i _ => l.length - (intOf i).toNat)
  case atStart => exact ⟨0, Nat.zero_le _, rfl, by simpa [flatF] using World.ownsRow_nil _ _ _ _, by simp [flatF], Below.refl _ _⟩
  case round =>
    obtain ⟨k, hk, rfl, hown, hZ, hbel⟩ := hrel
    by_cases hlt : k < l.length
    · obtain ⟨hatk, hrk⟩ := unhide HAT wr (unhide hbel) k hlt
      have hkf : k < (frs l).length := by rw [unhide HLEN]; exact hlt
      have hgk := unhide HGET k hlt hkf
      have hft := unhide HFT k hkf
      rw [hgk] at hft
      have hnd := fun h => unhide HND h k hkf
      rw [hgk] at hnd
      obtain ⟨pk, lk, qk, hsk⟩ := slice_of_row hrk
      rw [hsk] at hatk hrk
      have hlk : l[k].1.data.length = lk := by obtain ⟨a, c, e, _⟩ := hrk; simp only [Value.slice.injEq] at e; omega
      generalize l[k].1 = f at *
      obtain ⟨c0, c1, c2, c3⟩ := hatk
      have hkl : (k : Int) < l.length := by omega
      have hsz := (unhide hbel).size
      by_cases hbig : (440 : Int) < lk
      · have HNO : Hid (¬ IsRec (frs l)) := fun h => by have := hnd h; omega
        clear hft hgk hnd hrk hsk hown
        go_wp2
        go_ret2
        refine ⟨.slice none 0 0, ?_, ?_, (fun b off n c e => by cases e), unhide hbel⟩
        · rw [(join_no (unhide HNO)).1]; rfl
        · rw [(join_no (unhide HNO)).2]; exact Row.nil _
      · have HLT := hide (fun j hj => (hown.lt j hj).1)
        have hle : (flatF ((frs l).take (k + 1))).length ≤ (k + 1) * 440 := by rw [hft, List.length_append]; omega
        have HLE := hide hle
        have HF := hide hft
        have hlk' : f.data.length ≤ 440 := by omega
        clear hft hgk hsk hnd hle hlk
        generalize flatF ((frs l).take k) = X at *
        go_wp2_with (at_builtin; refine wpList_append_row rfl _ _ 31 rfl w.heap.size 5 i0 (.int .u8 0) Try.underlying31 hi hz0 hz1 hz2 rfl _ _ _ rfl hown _ f.data rfl hrk (by omega) hsz ?_)
        intro v' w2 hown2 hgrow
        have hb2 : Below w.heap.size w w2 := (unhide hbel).grown hgrow hsz (fun j hj => unhide HLT j hj)
        have HB2 := hide hb2
        clear hgrow hb2 HLT c0 c1 c2 c3 hown hrk
        go_wp2
        go_roundw
        case rel => exact ⟨k + 1, by omega, by go_num, by rw [unhide HF, List.length_append, List.map_append]; exact hown2, unhide HLE, unhide HB2⟩
        case measure => simp [intOf]; omega
    · have hkn : k = l.length := by omega
      subst hkn
      rw [unhide HALL] at hown hZ
      by_cases hbig : (8192 : Int) < (flatF (frs l)).length
      · have HNO : Hid (¬ IsRec (frs l)) := fun h => by have := h.2.1; omega
        obtain ⟨p, cc, ll, rfl, hll⟩ := (row_of_owns hown).shape
        have hb' : (8192 : Int) < ll := by omega
        clear hown hZ hbig hll
        go_wp2
        go_ret2
        refine ⟨.slice none 0 0, ?_, ?_, (fun b off n c e => by cases e), unhide hbel⟩
        · rw [(join_no (unhide HNO)).1]; rfl
        · rw [(join_no (unhide HNO)).2]; exact Row.nil _
      · have hrowX := row_of_owns hown
        obtain ⟨p, cc, ll, rfl, hll⟩ := hrowX.shape
        have hb' : ¬ (8192 : Int) < ll := by omega
        have HLO : Hid (∀ b off n c, Value.slice p ll cc = .slice (some ⟨b, off, none⟩) n c → w.heap.size ≤ b) := by
          intro b off n c e
          rcases hown.2 with ⟨e', _⟩ | ⟨g, cap, cur, hv, hg, _⟩
          · rw [e'] at e; cases e
          · rw [e] at hv
            simp only [Value.slice.injEq, Option.some.injEq, Addr.mk.injEq, and_true] at hv
            omega
        have hdw : Below wr.heap.size wr wr.drew := (Below.refl _ _).drew
        have HFRM := hide (rframes_any f0.age f0.first hok0.1 hok0.2.1 (.slice p ll cc) (flatF (frs l)) wr.drew (hrowX.below hdw) (by omega))
        obtain ⟨c0, c1, c2, c3⟩ := unhide HAT0 wr.drew ((unhide hbel).drew)
        have HBD := hide ((unhide hbel).drew)
        have HOWN := hide hown
        have HX8 : Hid ((flatF (frs l)).length ≤ 8192) := by unfold Hid; omega
        have HLF := hide (length_frames f0.age f0.first (flatF (frs l)))
        clear hown hZ hrowX hdw hll
        go_wp2_with fail
        go_region_held3 (fun w' => w'.cell? ⟨b, off, none⟩ = some (.int .u64 (f0.age : Int)) ∧ w'.cell? ⟨b, off + 1, none⟩ = some (.int .u64 (f0.first : Int))) (first | assumption | go_keep)
          (first | (go_at_call 46; refine Calls.mono (unhide HFRM) ?_; rintro e w2 ⟨v2, L2, rfl, hF2, hfr2, b2⟩; have hk2 : w2.cell? ⟨b, off, none⟩ = some (.int .u64 (f0.age : Int)) ∧ w2.cell? ⟨b, off + 1, none⟩ = some (.int .u64 (f0.first : Int)) := ⟨(b2.cell (World.block_lt_of_cell? _ _ c0)).trans c0, (b2.cell (World.block_lt_of_cell? _ _ c1)).trans c1⟩))
        have HB2 := hide ((unhide HBD).trans (b2.mono (unhide HBD).size))
        have HRX := hide (((row_of_owns (unhide HOWN)).below ((Below.refl _ wr).drew)).below b2)
        have hl2 : L2.length = (framesN f0.age f0.first (flatF (frs l))).length := by rw [← hfr2, length_frs]
        obtain ⟨p2, cap2, rfl, h2a, h2b, _⟩ := hF2.fl.shape
        have HFL2 := hide hF2.fl
        have HFR := hide hfr2
        clear c0 c1 c2 c3 HFRM HBD HOWN b2 hF2 hfr2 hk2
        by_cases hln : L2.length = l.length
        · rw [hln]
          have hne2 : L2 ≠ [] := by intro e; rw [e] at hln; simp at hln; omega
          obtain ⟨b2, off2, cap2', e2, _, hm2, _, hat2⟩ := (unhide HFL2).open hne2
          simp only [Value.slice.injEq, true_and] at e2
          obtain ⟨rfl, rfl⟩ := e2
          have HAT2 := hide (fun w' (hb : Below w2.heap.size w2 w') j (hj : j < L2.length) => And.intro ((hat2 j hj).1.below hb) ((hat2 j hj).2.below hb))
          have hnn : ((l.length : Int) == l.length) = true := by simp
          have HG2 : Hid (∀ j (h : j < L2.length) (h' : j < (frs L2).length), (frs L2)[j] = L2[j].1) := fun j h h' => by simp [frs]
          have HL2 := hide (length_frs L2)
          have HREC : Hid ((∀ j (h : j < l.length) (h2 : j < L2.length), l[j].1 = L2[j].1) → IsRec (frs l)) := by
            intro h
            have e : frs l = frs L2 := by
              apply List.ext_getElem
              · rw [unhide HLEN, unhide HL2, hln]
              · intro i h1 h2
                rw [unhide HGET i (by rw [← unhide HLEN]; exact h1) h1, unhide HG2 i (by rw [← unhide HL2]; exact h2) h2]
                exact h i _ _
            refine ⟨fun e => ?_, unhide HX8, ?_⟩
            · have := unhide HLEN; rw [e] at this; simp at this; omega
            · rw [unhide HHD, ← unhide HFR]; exact e
          have HNRE : Hid (∀ j (h : j < l.length) (h2 : j < L2.length), l[j].1 ≠ L2[j].1 → ¬ IsRec (frs l)) := by
            intro j h h2 hd hr
            have e := hr.2.2
            rw [unhide HHD, ← unhide HFR] at e
            apply hd
            rw [← unhide HGET j h (by rw [unhide HLEN]; exact h), ← unhide HG2 j h2 (by rw [unhide HL2]; exact h2)]
            congr 1
          unfold maxLen at hm2
          clear hat2 hl2 HFL2
          go_wp2_with fail
          go_loopw [7] (fun i wq => ∃ k : Nat, k ≤ l.length ∧ i = .int .i64 k ∧ Hid (∀ j (h : j < l.length) (h2 : j < L2.length), j < k → l[j].1 = L2[j].1) ∧ Hid (Below w2.heap.size w2 wq)) (fun i _ => l.length - (intOf i).toNat)
          case atStart => exact ⟨0, Nat.zero_le _, rfl, fun j _ _ hj => absurd hj (by omega), Below.refl _ _⟩
          case round =>
            obtain ⟨k, hk, rfl, heq, hbq⟩ := hrel
            by_cases hlt : k < l.length
            · have hlt2 : k < L2.length := by omega
              have hBq : Below w.heap.size w wr := (unhide HB2).trans ((unhide hbq).mono (unhide HB2).size)
              obtain ⟨hatk, hrk⟩ := unhide HAT wr hBq k hlt
              obtain ⟨hatg, hrg⟩ := unhide HAT2 wr (unhide hbq) k hlt2
              obtain ⟨pk, lk, qk, hsk⟩ := slice_of_row hrk
              obtain ⟨pg, lg, qg, hsg⟩ := slice_of_row hrg
              rw [hsk] at hatk hrk
              rw [hsg] at hatg hrg
              have hne := unhide HNRE k hlt hlt2
              have hstep : l[k].1 = L2[k].1 → ∀ j (h : j < l.length) (h2 : j < L2.length), j < k + 1 → l[j].1 = L2[j].1 := fun e j h h2 hj => by
                by_cases hjk : j = k
                · subst hjk; exact e
                · exact unhide heq j h h2 (by omega)
              generalize l[k].1 = f at *
              generalize L2[k].1 = g at *
              have hkl : (k : Int) < l.length := by omega
              obtain ⟨CC, hCC⟩ : ∃ CC : World → Prop, CC = fun w' => At8 w' b (off + k * 4) b2 (off2 + k * 4) (.int .u64 (f.age : Int)) (.int .u64 (f.first : Int)) (.int .i64 f.of) (.slice pk lk qk) (.int .u64 (g.age : Int)) (.int .u64 (g.first : Int)) (.int .i64 g.of) (.slice pg lg qg) ∧ Below w2.heap.size w2 w' ∧ Row w' (.slice pk lk qk) f.data ∧ Row w' (.slice pg lg qg) g.data := ⟨_, rfl⟩
              have hbd : Below wr.heap.size wr wr.drew := (Below.refl _ _).drew
              have HC0 : Hid (CC { wr with drawn := wr.drawn + 1 }) := by
                unfold Hid
                rw [hCC]
                exact ⟨At8.below (At8.of hatk hatg) hbd, (unhide hbq).drew, hrk.below hbd, hrg.below hbd⟩
              have HCC : Hid (∀ w', CC w' → At8 w' b (off + k * 4) b2 (off2 + k * 4) (.int .u64 (f.age : Int)) (.int .u64 (f.first : Int)) (.int .i64 f.of) (.slice pk lk qk) (.int .u64 (g.age : Int)) (.int .u64 (g.first : Int)) (.int .i64 g.of) (.slice pg lg qg) ∧ Below w2.heap.size w2 w' ∧ Row w' (.slice pk lk qk) f.data ∧ Row w' (.slice pg lg qg) g.data) := by unfold Hid; rw [hCC]; exact fun w' h => h
              have HFR2 : Hid (∀ w', CC w' → Calls Try.prog 47 #[fv f (.slice pk lk qk), fv g (.slice pg lg qg)] w' fun e w'' => e = .returned (.bool (decide (f = g))) ∧ CC w'') := by
                intro w' h
                refine (hframe_any f g _ _ w' (unhide HCC w' h).2.2.1 (unhide HCC w' h).2.2.2).mono ?_
                rintro e w'' ⟨rfl, hb⟩
                refine ⟨rfl, ?_⟩
                obtain ⟨a1, a2, a3, a4⟩ := unhide HCC w' h
                rw [hCC]
                exact ⟨a1.below hb, a2.trans (hb.mono a2.size), a3.below hb, a4.below hb⟩
              unfold fv at HFR2
              clear hCC hatk hatg hrk hrg hsk hsg hbd hBq
              by_cases he : f = g
              · have HSTEP := hide (hstep he)
                rw [decide_eq_true he] at HFR2
                clear hstep hne he
                go_wp2_with fail
                refine region_quiet CC (by kernel_rfl) (by kernel_rfl) (unhide HC0) ?_
                go_big_quiet_want
                refine ⟨.slice (some ⟨b, off, none⟩) l.length cap, fun w' _ => ?_, ?_⟩
                · go_simp
                simp only [Act.put, List.setIfInBounds_toArray, List.set_cons_zero, List.set_cons_succ]
                go_big_quiet_on
                go_big_quiet_want
                refine ⟨.int .i64 (k : Int), fun w' _ => ?_, ?_⟩
                · go_simp
                simp only [Act.put, List.setIfInBounds_toArray, List.set_cons_zero, List.set_cons_succ]
                go_big_quiet_on
                go_big_quiet_want
                refine ⟨.pointer (some ⟨b, off + k * 4, none⟩), fun w' _ => ?_, ?_⟩
                · go_simp
                simp only [Act.put, List.setIfInBounds_toArray, List.set_cons_zero, List.set_cons_succ]
                go_big_quiet_on
                go_big_quiet_want
                refine ⟨.agg #[.int .u64 (f.age : Int), .int .u64 (f.first : Int), .int .i64 f.of, .slice pk lk qk], fun w' hw' => ?_, ?_⟩
                · obtain ⟨⟨c0, c1, c2, c3, c4, c5, c6, c7⟩, _⟩ := unhide HCC w' hw'
                  go_simp
                simp only [Act.put, List.setIfInBounds_toArray, List.set_cons_zero, List.set_cons_succ]
                go_big_quiet_on
                go_big_quiet_want
                refine ⟨.slice (some ⟨b2, off2, none⟩) l.length cap2, fun w' _ => ?_, ?_⟩
                · go_simp
                simp only [Act.put, List.setIfInBounds_toArray, List.set_cons_zero, List.set_cons_succ]
                go_big_quiet_on
                go_big_quiet_want
                refine ⟨.int .i64 (k : Int), fun w' _ => ?_, ?_⟩
                · go_simp
                simp only [Act.put, List.setIfInBounds_toArray, List.set_cons_zero, List.set_cons_succ]
                go_big_quiet_on
                go_big_quiet_want
                refine ⟨.pointer (some ⟨b2, off2 + k * 4, none⟩), fun w' _ => ?_, ?_⟩
                · go_simp
                simp only [Act.put, List.setIfInBounds_toArray, List.set_cons_zero, List.set_cons_succ]
                go_big_quiet_on
                go_big_quiet_want
                refine ⟨.agg #[.int .u64 (g.age : Int), .int .u64 (g.first : Int), .int .i64 g.of, .slice pg lg qg], fun w' hw' => ?_, ?_⟩
                · obtain ⟨⟨c0, c1, c2, c3, c4, c5, c6, c7⟩, _⟩ := unhide HCC w' hw'
                  go_simp
                simp only [Act.put, List.setIfInBounds_toArray, List.set_cons_zero, List.set_cons_succ]
                go_big_quiet_on
                go_big_quiet_want
                refine ⟨.bool true, fun w' hw' => ?_, ?_⟩
                · go_simp
                  exact unhide HFR2 w' hw'
                simp only [Act.put, List.setIfInBounds_toArray, List.set_cons_zero, List.set_cons_succ]
                go_big_quiet_on
                go_big_quiet_want
                refine ⟨.bool false, fun w' _ => ?_, ?_⟩
                · go_simp
                simp only [Act.put, List.setIfInBounds_toArray, List.set_cons_zero, List.set_cons_succ]
                go_big_quiet_on
                refine wpQuiet_nil ?_
                intro w3 hw3
                have HBQ := hide (unhide HCC w3 hw3).2.1
                clear hw3
                go_wp2
                go_roundw
                case rel => exact ⟨k + 1, by omega, by go_num, unhide HSTEP, unhide HBQ⟩
                case measure => simp [intOf]; omega
              · have HNO := hide (hne he)
                rw [decide_eq_false he] at HFR2
                clear hstep hne he
                go_wp2_with fail
                refine region_quiet CC (by kernel_rfl) (by kernel_rfl) (unhide HC0) ?_
                go_big_quiet_want
                refine ⟨.slice (some ⟨b, off, none⟩) l.length cap, fun w' _ => ?_, ?_⟩
                · go_simp
                simp only [Act.put, List.setIfInBounds_toArray, List.set_cons_zero, List.set_cons_succ]
                go_big_quiet_on
                go_big_quiet_want
                refine ⟨.int .i64 (k : Int), fun w' _ => ?_, ?_⟩
                · go_simp
                simp only [Act.put, List.setIfInBounds_toArray, List.set_cons_zero, List.set_cons_succ]
                go_big_quiet_on
                go_big_quiet_want
                refine ⟨.pointer (some ⟨b, off + k * 4, none⟩), fun w' _ => ?_, ?_⟩
                · go_simp
                simp only [Act.put, List.setIfInBounds_toArray, List.set_cons_zero, List.set_cons_succ]
                go_big_quiet_on
                go_big_quiet_want
                refine ⟨.agg #[.int .u64 (f.age : Int), .int .u64 (f.first : Int), .int .i64 f.of, .slice pk lk qk], fun w' hw' => ?_, ?_⟩
                · obtain ⟨⟨c0, c1, c2, c3, c4, c5, c6, c7⟩, _⟩ := unhide HCC w' hw'
                  go_simp
                simp only [Act.put, List.setIfInBounds_toArray, List.set_cons_zero, List.set_cons_succ]
                go_big_quiet_on
                go_big_quiet_want
                refine ⟨.slice (some ⟨b2, off2, none⟩) l.length cap2, fun w' _ => ?_, ?_⟩
                · go_simp
                simp only [Act.put, List.setIfInBounds_toArray, List.set_cons_zero, List.set_cons_succ]
                go_big_quiet_on
                go_big_quiet_want
                refine ⟨.int .i64 (k : Int), fun w' _ => ?_, ?_⟩
                · go_simp
                simp only [Act.put, List.setIfInBounds_toArray, List.set_cons_zero, List.set_cons_succ]
                go_big_quiet_on
                go_big_quiet_want
                refine ⟨.pointer (some ⟨b2, off2 + k * 4, none⟩), fun w' _ => ?_, ?_⟩
                · go_simp
                simp only [Act.put, List.setIfInBounds_toArray, List.set_cons_zero, List.set_cons_succ]
                go_big_quiet_on
                go_big_quiet_want
                refine ⟨.agg #[.int .u64 (g.age : Int), .int .u64 (g.first : Int), .int .i64 g.of, .slice pg lg qg], fun w' hw' => ?_, ?_⟩
                · obtain ⟨⟨c0, c1, c2, c3, c4, c5, c6, c7⟩, _⟩ := unhide HCC w' hw'
                  go_simp
                simp only [Act.put, List.setIfInBounds_toArray, List.set_cons_zero, List.set_cons_succ]
                go_big_quiet_on
                go_big_quiet_want
                refine ⟨.bool false, fun w' hw' => ?_, ?_⟩
                · go_simp
                  exact unhide HFR2 w' hw'
                simp only [Act.put, List.setIfInBounds_toArray, List.set_cons_zero, List.set_cons_succ]
                go_big_quiet_on
                go_big_quiet_want
                refine ⟨.bool true, fun w' _ => ?_, ?_⟩
                · go_simp
                simp only [Act.put, List.setIfInBounds_toArray, List.set_cons_zero, List.set_cons_succ]
                go_big_quiet_on
                refine wpQuiet_nil ?_
                intro w3 hw3
                have HBQ := hide (unhide HCC w3 hw3).2.1
                clear hw3
                go_wp2
                go_ret2
                refine ⟨.slice none 0 0, ?_, ?_, (fun b off n c e => by cases e), (unhide HB2).trans ((unhide HBQ).mono (unhide HB2).size)⟩
                · rw [(join_no (unhide HNO)).1]; rfl
                · rw [(join_no (unhide HNO)).2]; exact Row.nil _
            · have hkn : k = l.length := by omega
              subst hkn
              have HY := hide (unhide HREC (fun j h h2 => unhide heq j h h2 h))
              go_wp2
              go_ret2
              refine ⟨.slice p ll cc, ?_, ?_, unhide HLO, (unhide HB2).trans ((unhide hbq).mono (unhide HB2).size)⟩
              · rw [(join_yes (unhide HY)).1]; rfl
              · rw [(join_yes (unhide HY)).2]; exact (unhide HRX).below (unhide hbq)
        · have HNO : Hid (¬ IsRec (frs l)) := fun h => by
            have e := congrArg List.length h.2.2
            rw [unhide HHD, ← hl2, unhide HLEN] at e
            omega
          have hnn : ((L2.length : Int) == l.length) = false := by rw [beq_eq_false_iff_ne]; omega
          clear hln hl2
          go_wp2
          go_ret2
          refine ⟨.slice none 0 0, ?_, ?_, (fun b off n c e => by cases e), unhide HB2⟩
          · rw [(join_no (unhide HNO)).1]; rfl
          · rw [(join_no (unhide HNO)).2]; exact Row.nil _
end Go.Proofs.Ytpkpjmebkikgdaa
