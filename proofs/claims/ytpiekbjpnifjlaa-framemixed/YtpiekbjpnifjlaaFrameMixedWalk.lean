/- The walk of the law FrameMixed. -/
import Derived.Test.YtpiekbjpnifjlaaFrLawRead
import Derived.Test.YtpiekbjpnifjlaaFrMix
import Derived.Test.YtpiekbjpnifjlaaFrOwn8
import Derived.Test.YtpiekbjpnifjlaaFrAwake
namespace Go.Proofs.Ytpiekbjpnifjlaa
open Go.RowKit

set_option maxRecDepth 20000 in
set_option maxHeartbeats 1000000 in
/-- One of the two is too large. -/
theorem fmixed_large (A C O T : Nat) (hA : A < 18446744073709551616) (hC : C < 18446744073709551616) (hO : O < 18446744073709551616) (hT : T < 18446744073709551616) (s : Value) (r : List UInt8) (s5 : Value) (tw : List UInt8) (a : Int) (w : World) (hs : Row w s r) (hs5 : Row w s5 tw) (h8 : 8192 < r.length ∨ 8192 < tw.length) :
    Calls Try.prog 7 #[.int .u64 (A : Int), .int .u64 (C : Int), s, .int .u64 (O : Int), .int .u64 (T : Int), s5, .int .i64 a] w fun e w' => e = .returned (.bool true) ∧ Below w.heap.size w w' := by
  have HA := hide awake_any
  have HC1 := hide (cut_any A C hA hC s r w hs)
  have HC2 := hide (fun w' (hb : Below w.heap.size w w') => cut_any O T hO hT s5 tw w' (hs5.below hb))
  have hE : (cutE r ≠ 0 ∨ cutE tw ≠ 0) := by
    unfold cutE
    rcases h8 with h | h
    · left; rw [if_pos h]; omega
    · right; rw [if_pos h]; omega
  generalize cutE r = E1 at *
  generalize cutE tw = E2 at *
  by_cases h1 : E1 = 0
  · have h2 : E2 ≠ 0 := hE.elim (fun h => absurd h1 h) id
    have h2' : (E2 == 0) = false := by simp [h2]
    clear hE h8 hs hs5 h2
    subst h1
    go_enter Try.func7, Try.ntmps7
    go_wp2_with fail
    refine Calls.mono (unhide HC1) ?_
    rintro e w1 ⟨v1, rfl, _, b1⟩
    have HC2' := hide (unhide HC2 w1 b1)
    have HB1 := hide b1
    clear b1 HC2
    go_wp2_with fail
    refine Calls.mono (unhide HC2') ?_
    rintro e w2 ⟨v2, rfl, _, b2⟩
    have HB2 := hide ((unhide HB1).trans (b2.mono (unhide HB1).size))
    clear b2
    go_wp2_with fail
    refine Calls.mono (unhide HA _) ?_
    rintro e w3 ⟨rfl, b3⟩
    have HB3 := hide ((unhide HB2).trans (b3.mono (unhide HB2).size))
    clear b3
    go_wp2_with fail
    refine Calls.mono (unhide HA _) ?_
    rintro e w4 ⟨rfl, b4⟩
    go_wp2
    go_ret
    exact ⟨rfl, (unhide HB3).trans (b4.mono (unhide HB3).size)⟩
  · have h1' : (E1 == 0) = false := by simp [h1]
    clear hE h8 hs hs5 h1
    go_enter Try.func7, Try.ntmps7
    go_wp2_with fail
    refine Calls.mono (unhide HC1) ?_
    rintro e w1 ⟨v1, rfl, _, b1⟩
    have HC2' := hide (unhide HC2 w1 b1)
    have HB1 := hide b1
    clear b1 HC2
    go_wp2_with fail
    refine Calls.mono (unhide HC2') ?_
    rintro e w2 ⟨v2, rfl, _, b2⟩
    have HB2 := hide ((unhide HB1).trans (b2.mono (unhide HB1).size))
    clear b2
    go_wp2_with fail
    refine Calls.mono (unhide HA _) ?_
    rintro e w3 ⟨rfl, b3⟩
    have HB3 := hide ((unhide HB2).trans (b3.mono (unhide HB2).size))
    clear b3
    go_wp2_with fail
    refine Calls.mono (unhide HA _) ?_
    rintro e w4 ⟨rfl, b4⟩
    go_wp2
    go_ret
    exact ⟨rfl, (unhide HB3).trans (b4.mono (unhide HB3).size)⟩

/-- Which place is meant. -/
def placeN (a : Int) (n : Nat) : Nat := ((a % 18446744073709551616) % (n : Int)).toNat
theorem place_lt (a : Int) (n : Nat) (h : 0 < n) : placeN a n < n ∧ (placeN a n : Int) = (a % 18446744073709551616) % (n : Int) := by
  have h1 : 0 ≤ (a % 18446744073709551616) % (n : Int) := Int.emod_nonneg _ (by omega)
  have h2 : (a % 18446744073709551616) % (n : Int) < n := Int.emod_lt_of_pos _ (by omega)
  unfold placeN
  omega

set_option maxRecDepth 20000 in
set_option maxHeartbeats 8000000 in
theorem fmixed_ok (A C O T : Nat) (hA : A < 18446744073709551616) (hC : C < 18446744073709551616) (hO : O < 18446744073709551616) (hT : T < 18446744073709551616) (s : Value) (r : List UInt8) (s5 : Value) (tw : List UInt8) (a : Int) (w : World) (hs : Row w s r) (hs5 : Row w s5 tw) (h8 : ¬ 8192 < r.length) (h85 : ¬ 8192 < tw.length) :
    Calls Try.prog 7 #[.int .u64 (A : Int), .int .u64 (C : Int), s, .int .u64 (O : Int), .int .u64 (T : Int), s5, .int .i64 a] w fun e w' => e = .returned (.bool true) ∧ Below w.heap.size w w' := by
  obtain ⟨i0, hi, hz0, hz1, hz2⟩ := info_parts Try.info25
  have HA := hide awake_any
  have HC1 := hide (cut_ok A C hA hC s r w hs h8)
  have HC2 := hide (fun w' (hb : Below w.heap.size w w') => cut_ok O T hO hT s5 tw w' (hs5.below hb) h85)
  have HLR : ∀ (A C : Nat) (hA : A < 18446744073709551616) (hC : C < 18446744073709551616) (r : List UInt8) (h8 : ¬ 8192 < r.length), Hid (∀ v w', Rows2 w' v (cutL A C r) → Calls Try.prog 25 #[v] w' fun e w'' => ∃ u L, e = .returned (.tuple #[u, .bool true]) ∧ FOwn w'' w'.heap.size u L ∧ frs L = framesN A C r ∧ Below w'.heap.size w' w'') := by
    intro A C hA hC r h8 v w' hr
    obtain ⟨hcr, hcm⟩ := cut_reads A C hA hC r h8
    have hlen := length_cutL A C r h8
    have hc19 := count_le (n := r.length) (by omega)
    have h := lread_any v (cutL A C r) w' hr (by omega) (fun j hj => ⟨(hcr j hj).1, by have := (hcr j hj).2; omega⟩)
    rw [hcm] at h
    exact h
  have HL1 := HLR A C hA hC r h8
  have HL2 := HLR O T hO hT tw h85
  have hn1 := length_frames A C r
  have hn2 := length_frames O T tw
  have hp1 := count_pos (n := r.length) (by omega)
  have hp2 := count_pos (n := tw.length) (by omega)
  have hc1 := count_le (n := r.length) (by omega)
  have hc2 := count_le (n := tw.length) (by omega)
  have hl1 := length_cutL A C r h8
  have hl2 := length_cutL O T tw h85
  obtain ⟨n, hn⟩ : ∃ n, n = (framesN A C r).length := ⟨_, rfl⟩
  obtain ⟨m, hm⟩ : ∃ m, m = (framesN O T tw).length := ⟨_, rfl⟩
  have hn0 : (0 : Int) < n := by omega
  have hm0 : (0 : Int) < m := by omega
  have hn19 : (n : Int) ≤ 19 := by omega
  have hm19 : (m : Int) ≤ 19 := by omega
  obtain ⟨hkn, hke⟩ := place_lt a n (by omega)
  have HKE := hide hke
  have HLN : Hid ((cutL A C r).length = n ∧ (cutL O T tw).length = m) := by unfold Hid; omega
  have HN := hide hn
  have HM := hide hm
  have HNOL := hide (fun (k : Nat) (hk : k < n) (h1 : 1 < n) => less_no A C r k (by omega) (by omega))
  have HNOT := hide (fun (k : Nat) (hk : k < n) => twice_no A C r k (by omega))
  have HMIX := hide (fun (k : Nat) (hk : k < (framesN A C r).length) (hk2 : k < (framesN O T tw).length) (h1 : (framesN A C r).length ≠ 1) => mixed_iff A C O T r tw (by omega) (by omega) k hk hk2 h1)
  clear HLR hn1 hn2 hp1 hp2 hc1 hc2 hl1 hl2 hn hm hke
  obtain ⟨q, c, l, e0, hl⟩ := hs.shape
  subst e0
  obtain ⟨q5, c5, l5, e05, hl5⟩ := hs5.shape
  subst e05
  clear hs hs5 h8 h85 hl hl5
  generalize framesN A C r = fa at *
  generalize framesN O T tw = fb at *
  generalize cutL A C r = la at *
  generalize cutL O T tw = lb at *
  generalize placeN a n = k at *
  go_enter Try.func7, Try.ntmps7
  go_wp2_with fail
  refine Calls.mono (unhide HC1) ?_
  rintro e w1 ⟨v1, rfl, p1, b1⟩
  have HC2' := hide (unhide HC2 w1 b1)
  have HB1 := hide b1
  have HP1 := hide p1
  clear b1 p1 HC1 HC2
  go_wp2_with fail
  refine Calls.mono (unhide HC2') ?_
  rintro e w2 ⟨v2, rfl, p2, b2⟩
  have HB2 := hide ((unhide HB1).trans (b2.mono (unhide HB1).size))
  have HP2 := hide (And.intro ((unhide HP1).below b2) p2)
  clear b2 p2 HC2' HP1 HB1
  go_wp2_with fail
  refine Calls.mono (unhide HA _) ?_
  rintro e w3 ⟨rfl, b3⟩
  have HB3 := hide ((unhide HB2).trans (b3.mono (unhide HB2).size))
  have HL1' := hide (unhide HL1 v1 w3 (((unhide HP2).1.below b3).rows (by have := (unhide HLN).1; unfold maxLen; omega)))
  have HR2 := hide (((unhide HP2).2.below b3).rows (by have := (unhide HLN).2; unfold maxLen; omega))
  clear b3 HP2 HB2 HL1
  go_wp2_with fail
  refine Calls.mono (unhide HL1') ?_
  rintro e w4 ⟨va, La, rfl, hFa, hfa, b4⟩
  have HB4 := hide ((unhide HB3).trans (b4.mono (unhide HB3).size))
  have HL2' := hide (unhide HL2 v2 w4 ((unhide HR2).below b4))
  have HFA := hide hFa
  have HFa := hide hfa
  clear b4 hFa hfa HL1' HR2 HB3 HL2
  go_wp2_with fail
  refine Calls.mono (unhide HL2') ?_
  rintro e w5 ⟨vb, Lb, rfl, hFb, hfb, b5⟩
  have HB5 := hide ((unhide HB4).trans (b5.mono (unhide HB4).size))
  have hFa5 := (unhide HFA).below b5
  have hLa : La.length = n := by rw [← length_frs, unhide HFa, unhide HN]
  have hLb : Lb.length = m := by rw [← length_frs, hfb, unhide HM]
  obtain ⟨ga, ca, cura, ea, hga, hha, hca1, hca2, _, hcella⟩ := hFa5.cells (by intro e; rw [e] at hLa; simp at hLa; omega)
  obtain ⟨gb, cb, curb, eb, hgb, hhb, hcb1, hcb2, _, hcellb⟩ := hFb.cells (by intro e; rw [e] at hLb; simp at hLb; omega)
  subst ea eb
  rw [hLa, hLb]
  rw [hLa] at hca1
  rw [hLb] at hcb1
  have HKF : Hid (wrap64 ((IntKind.u64.wrap a).tmod (n : Int)) = (k : Int)) := by
    have h1 : 0 ≤ a % 18446744073709551616 := Int.emod_nonneg _ (by omega)
    have h2 := (unhide HKE)
    unfold Hid
    rw [IntKind.wrap_u64, Int.tmod_eq_emod_of_nonneg h1, ← h2]
    unfold wrap64
    omega
  have hkl : (k : Int) < n := by omega
  have HFA5 := hide hFa5
  have HFB5 := hide hFb
  have HFb := hide hfb
  have HCA := hide hcella
  have HLA := hide hLa
  have HLB := hide hLb
  unfold maxLen at hca2 hcb2
  have hca0 : ¬ ca = 0 := by omega
  have hk0 : (0 : Int) ≤ k := by omega
  have hkca : (k : Int) ≤ ca := by omega
  have hk1n : (k : Int) + 1 ≤ n := by omega
  have hk1c : (k : Int) + 1 ≤ ca := by omega
  have hk01 : (0 : Int) ≤ (k : Int) + 1 := by omega
  have hkln : (k : Int) ≤ n := by omega
  have hcak : ¬ ca = k := by omega
  have hwk : IntKind.i64.wrap ((k : Int) + 1) = (k : Int) + 1 := by rw [IntKind.wrap_i64]; omega
  have HJ := hide (fun v L w' (h : FL w' v L) => join_any v L w' h)
  clear b5 hFa5 hFb hfb hha hhb hcella hcellb HL2' HFA HB4 hLa hLb HKE
  by_cases h1n : (1 : Int) < n
  · have HNL := hide (unhide HNOL k hkn (by omega))
    go_wp2_with fail
    rw [unhide HKF]
    by_cases hck : ca = k + 1
    · have hck1 : (k : Int) ≤ ((k + 1 : Nat) : Int) := by omega
      have hck2 : (k : Int) + 1 ≤ ((k + 1 : Nat) : Int) := by omega
      have hck3 : (k : Int) ≤ (k : Int) + 1 := by omega
      have QC := HCA
      have QD : Hid (∀ j u, (cellsL La)[j]? = some u → w5.drew.cell? ⟨ga, j, none⟩ = some u) := unhide QC
      have Q1 : Hid ((cellsL (La.take k)).length = k * 4) := by have := unhide HLA; unfold Hid; rw [length_cellsL, List.length_take]; congr 1; omega
      have Q2 : Hid (∀ j u, (cellsL (La.take k))[j]? = some u → w5.drew.cell? ((⟨ga, 0, none⟩ : Addr).add j) = some u) := fun j u hu => by rw [Addr.add_lit, Nat.zero_add]; exact unhide QD j u (cells_take La k j u hu)
      have Q3 := hide (oneCell_L (La.take k) (fun p hp => (unhide HFA5).slices p (List.mem_of_mem_take hp)))
      have Q4 : Hid ((cellsL (La.drop (k + 1))).length = (n - (k + 1)) * 4) := by have := unhide HLA; unfold Hid; rw [length_cellsL, List.length_drop]; congr 1; omega
      have Q6 := hide (oneCell_L (La.drop (k + 1)) (fun p hp => (unhide HFA5).slices p (List.mem_of_mem_drop hp)))
      have Q7 : Hid (∀ w6, w5.drew.grownBy w6 (Value.slice none 0 0).ownBlock → w5.heap.size ≤ w6.heap.size) := fun w6 hg => hg.size
      have Q8 : Hid ((La.take k).length = k) := by have := unhide HLA; unfold Hid; rw [List.length_take]; omega
      have Q9 : Hid ((La.drop (k + 1)).length = (n - (k + 1))) := by have := unhide HLA; unfold Hid; rw [List.length_drop]; omega
      have Q0 := hide (fun v6 w6 v7 w7 => two_apps (v6 := v6) (w6 := w6) (v7 := v7) (w7 := w7) (M1 := (La.take k)) (M2 := (La.drop (k + 1))) (unhide HFA5) (fun p hp => List.mem_of_mem_take hp) (fun p hp => List.mem_of_mem_drop hp) ((Below.refl _ w5).drew))
      rw [unhide Q8, unhide Q9] at Q0
      have Q5 : Hid (∀ w6, w5.drew.grownBy w6 (Value.slice none 0 0).ownBlock → ∀ j u, (cellsL (La.drop (k + 1)))[j]? = some u → w6.cell? ((⟨ga, 0, none⟩ : Addr).add j) = some u) := fun w6 hg => by
        intro j u hu
        have hl : (La.drop (k + 1)).length = 0 := by have := unhide HLA; rw [List.length_drop]; omega
        rw [List.eq_nil_of_length_eq_zero hl] at hu
        simp [cellsL] at hu
      go_region_law (first
        | (refine step_append_many rfl _ _ 44 rfl w5.heap.size 25 i0 _ Try.underlying44 hi hz0 4 48 (by omega) hz1 hz2 rfl (.slice none 0 0) 0 [] (by simp [Act.eval]) (World.ownsRow_nil _ _ _ _) ⟨ga, 0, none⟩ k (k + 1) (cellsL (La.take k)) (by simp [Act.eval, Act.put]) (unhide Q1) (unhide Q2) (unhide Q3) (by unfold maxLen; omega) (by omega) (by simp) ?_; intro v6 w6 own6 grow6 vb6)
        | (refine step_append_many rfl _ _ 44 rfl w5.heap.size 25 i0 _ Try.underlying44 hi hz0 4 48 (by omega) hz1 hz2 rfl v6 (0 + k) ([] ++ cellsL (La.take k)) (by simp [Act.eval]) own6 ⟨ga, 0, none⟩ (n - (k + 1)) 0 (cellsL (La.drop (k + 1))) (by simp [Act.eval]) (unhide Q4) (unhide Q5 _ grow6) (unhide Q6) (by unfold maxLen; omega) (by omega) (unhide Q7 _ grow6) ?_; intro v7 w7 own7 grow7 vb7; have QT := hide (unhide Q0 v6 w6 v7 w7 own6 grow6 vb6 own7 grow7 vb7); clear own6 grow6 vb6 own7 grow7 vb7))
      obtain ⟨hF7, b7⟩ := unhide QT
      have hfr7 : frs (La.take k ++ La.drop (k + 1)) = fa.take k ++ fa.drop (k + 1) := by
        rw [frs_append, ← unhide HFa]
        unfold frs
        rw [List.map_take, List.map_drop]
      have HJ7 := hide (unhide HJ v7 _ w7 hF7.fl)
      rw [hfr7] at HJ7
      have e11 : joinE (fa.take k ++ fa.drop (k + 1)) = 11 := by unfold joinE; rw [if_neg (unhide HNL)]
      rw [e11] at HJ7
      have HFA7 := hide ((unhide HFA5).below b7)
      have HFB7 := hide ((unhide HFB5).below b7)
      have HB7 := hide ((unhide HB5).trans (b7.mono (unhide HB5).size))
      clear hF7 b7 hfr7 e11 QC QD Q1 Q2 Q3 Q4 Q5 Q6 Q7 Q8 Q9 Q0 QT HFA5 HFB5 HB5
      go_wp2_with fail
      refine Calls.mono (unhide HJ7) ?_
      rintro e w75 ⟨t75, rfl, _, b75⟩
      have HFAt := hide ((unhide HFA7).below b75)
      have HFBt := hide ((unhide HFB7).below b75)
      have HBt := hide ((unhide HB7).trans (b75.mono (unhide HB7).size))
      clear b75 HFA7 HFB7 HB7 HJ7 HCA
      go_wp2_with fail
      have RC : Hid (∀ j u, (cellsL La)[j]? = some u → w75.cell? ⟨ga, j, none⟩ = some u) := by
        obtain ⟨g', cap', cur', e', _, _, _, _, _, hc'⟩ := (unhide HFAt).cells (by intro e; have := unhide HLA; rw [e] at this; simp at this; omega)
        simp only [Value.slice.injEq, Option.some.injEq, Addr.mk.injEq, and_true, true_and] at e'
        obtain ⟨rfl, rfl⟩ := e'
        exact hc'
      have RD : Hid (∀ j u, (cellsL La)[j]? = some u → w75.drew.cell? ⟨ga, j, none⟩ = some u) := unhide RC
      have R1 : Hid ((cellsL (La.take (k + 1))).length = (k + 1) * 4) := by have := unhide HLA; unfold Hid; rw [length_cellsL, List.length_take]; congr 1; omega
      have R2 : Hid (∀ j u, (cellsL (La.take (k + 1)))[j]? = some u → w75.drew.cell? ((⟨ga, 0, none⟩ : Addr).add j) = some u) := fun j u hu => by rw [Addr.add_lit, Nat.zero_add]; exact unhide RD j u (cells_take La (k + 1) j u hu)
      have R3 := hide (oneCell_L (La.take (k + 1)) (fun p hp => (unhide HFAt).slices p (List.mem_of_mem_take hp)))
      have R4 : Hid ((cellsL (La.drop k)).length = (n - k) * 4) := by have := unhide HLA; unfold Hid; rw [length_cellsL, List.length_drop]; congr 1; omega
      have R6 := hide (oneCell_L (La.drop k) (fun p hp => (unhide HFAt).slices p (List.mem_of_mem_drop hp)))
      have R7 : Hid (∀ w6, w75.drew.grownBy w6 (Value.slice none 0 0).ownBlock → w75.heap.size ≤ w6.heap.size) := fun w6 hg => hg.size
      have R8 : Hid ((La.take (k + 1)).length = (k + 1)) := by have := unhide HLA; unfold Hid; rw [List.length_take]; omega
      have R9 : Hid ((La.drop k).length = (n - k)) := by have := unhide HLA; unfold Hid; rw [List.length_drop]; omega
      have R0 := hide (fun v6 w6 v7 w7 => two_apps (v6 := v6) (w6 := w6) (v7 := v7) (w7 := w7) (M1 := (La.take (k + 1))) (M2 := (La.drop k)) (unhide HFAt) (fun p hp => List.mem_of_mem_take hp) (fun p hp => List.mem_of_mem_drop hp) ((Below.refl _ w75).drew))
      rw [unhide R8, unhide R9] at R0
      have R5 : Hid (∀ w6, w75.drew.grownBy w6 (Value.slice none 0 0).ownBlock → ∀ j u, (cellsL (La.drop k))[j]? = some u → w6.cell? ((⟨ga, k * 4, none⟩ : Addr).add j) = some u) := fun w6 hg => by
        intro j u hu
        rw [Addr.add_lit]
        exact cells_grown (unhide RD) hg _ u (cells_drop La k (by have := unhide HLA; omega) j u hu)
      go_region_law (first
        | (refine step_append_many rfl _ _ 44 rfl w75.heap.size 25 i0 _ Try.underlying44 hi hz0 4 48 (by omega) hz1 hz2 rfl (.slice none 0 0) 0 [] (by simp [Act.eval]) (World.ownsRow_nil _ _ _ _) ⟨ga, 0, none⟩ (k + 1) (k + 1) (cellsL (La.take (k + 1))) (by simp [Act.eval, Act.put]) (unhide R1) (unhide R2) (unhide R3) (by unfold maxLen; omega) (by omega) (by simp) ?_; intro v6 w6 own6 grow6 vb6)
        | (refine step_append_many rfl _ _ 44 rfl w75.heap.size 25 i0 _ Try.underlying44 hi hz0 4 48 (by omega) hz1 hz2 rfl v6 (0 + (k + 1)) ([] ++ cellsL (La.take (k + 1))) (by simp [Act.eval]) own6 ⟨ga, k * 4, none⟩ (n - k) 1 (cellsL (La.drop k)) (by simp [Act.eval]) (unhide R4) (unhide R5 _ grow6) (unhide R6) (by unfold maxLen; omega) (by omega) (unhide R7 _ grow6) ?_; intro v7 w7 own7 grow7 vb7; have RT := hide (unhide R0 v6 w6 v7 w7 own6 grow6 vb6 own7 grow7 vb7); clear own6 grow6 vb6 own7 grow7 vb7))
      obtain ⟨hF7, b7⟩ := unhide RT
      have hfr7 : frs (La.take (k + 1) ++ La.drop k) = fa.take (k + 1) ++ fa.drop k := by
        rw [frs_append, ← unhide HFa]
        unfold frs
        rw [List.map_take, List.map_drop]
      have HJ7 := hide (unhide HJ v7 _ w7 hF7.fl)
      rw [hfr7] at HJ7
      have e11 : joinE (fa.take (k + 1) ++ fa.drop k) = 11 := by unfold joinE; rw [if_neg (unhide HNOT k hkn)]
      rw [e11] at HJ7
      have HFA7 := hide ((unhide HFAt).below b7)
      have HFB7 := hide ((unhide HFBt).below b7)
      have HB7 := hide ((unhide HBt).trans (b7.mono (unhide HBt).size))
      clear hF7 b7 hfr7 e11 RC RD R1 R2 R3 R4 R5 R6 R7 R8 R9 R0 RT
      go_wp2_with fail
      refine Calls.mono (unhide HJ7) ?_
      rintro e w8 ⟨t8, rfl, _, b8⟩
      have HFA8 := hide ((unhide HFA7).below b8)
      have HFB8 := hide ((unhide HFB7).below b8)
      have HB8 := hide ((unhide HB7).trans (b8.mono (unhide HB7).size))
      clear b8 HFA7 HFB7 HB7 HJ7
      by_cases hkm : (k : Int) < m
      · have hkm' : ¬ (m : Int) ≤ k := by omega
        obtain ⟨ga', ca', cura', ea', _, _, _, _, _, hcella⟩ := (unhide HFA8).cells (by intro e; have := unhide HLA; rw [e] at this; simp at this; omega)
        simp only [Value.slice.injEq, Option.some.injEq, Addr.mk.injEq, and_true, true_and] at ea'
        obtain ⟨rfl, rfl⟩ := ea'
        have HCE8 := hide hcella
        have hall := oneCell_L La (fun p hp => (unhide HFA8).slices p hp)
        have HONE := hide hall
        have HLC : Hid ((cellsL La).length = n * 4) := by have := unhide HLA; unfold Hid; rw [length_cellsL, this]
        have HOA := hide (fun v6 w6 => one_app (v6 := v6) (w6 := w6) (M1 := La) (unhide HFA8) (fun p hp => hp) (Below.refl _ w8))
        rw [unhide HLA] at HOA
        clear hcella hall
        go_wp2_with (at_builtin; refine wpList_append_gen rfl _ _ 44 rfl w8.heap.size 25 i0 _ Try.underlying44 hi hz0 4 48 (by omega) hz1 hz2 rfl (.slice none 0 0) 0 [] rfl (World.ownsRow_nil _ _ _ _) ⟨ga, 0, none⟩ n (k + 1) (cellsL La) rfl (unhide HLC) (fun j u hu => by rw [Addr.add_lit, Nat.zero_add]; exact unhide HCE8 j u hu) (unhide HONE) (by unfold maxLen; omega) (by omega) (Nat.le_refl _) ?_)
        intro v9 w9 own9 grow9 vb9
        obtain ⟨hF9, b9⟩ := unhide HOA v9 w9 (by rw [Nat.zero_add, List.nil_append]; exact own9) grow9 vb9
        clear own9 grow9 vb9
        have hFb9 := (unhide HFB8).below b9
        have HB9 := hide ((unhide HB8).trans (b9.mono (unhide HB8).size))
        obtain ⟨gm, cm, curm, em, hgm, hhm, hcm1, hcm2, hcms, _⟩ := hF9.cells (by intro e; have := unhide HLA; rw [e] at this; simp at this; omega)
        obtain ⟨gb', cb', curb', eb', _, hhb', hcb1', _, _, hcellb⟩ := hFb9.cells (by intro e; have := unhide HLB; rw [e] at this; simp at this; omega)
        simp only [Value.slice.injEq, Option.some.injEq, Addr.mk.injEq, and_true, true_and] at eb'
        obtain ⟨rfl, rfl⟩ := eb'
        have hkb : k < Lb.length := by have := unhide HLB; omega
        have hka : k < La.length := by have := unhide HLA; omega
        obtain ⟨d0, d1, d2, d3⟩ := at4_of (off := 0) (fun j u hu => by rw [Nat.zero_add]; exact hcellb j u hu) k hkb
        rw [Nat.zero_add] at d0 d1 d2 d3
        have hrowb := (hFb9.2 _ (List.getElem_mem hkb)).2.1
        have hokb := (hFb9.2 _ (List.getElem_mem hkb)).1
        have hbl := fun b off n' c' e hne => row_block_lt ((unhide HFB8).2 _ (List.getElem_mem hkb)).2.1 (b := b) (off := off) (n := n') (c := c') e hne
        obtain ⟨pk, lk, qk, esk⟩ := slice_of_row hrowb
        have HST := hide (hF9.set em k hka Lb[k] ⟨hokb, hrowb, fun b off n' c' e hne he => by
          rw [em] at he
          simp only [Value.ownBlock, Option.some.injEq] at he
          have := hbl b off n' c' e hne
          omega⟩)
        have hfs : frs (La.set k Lb[k]) = fa.set k (fb[k]'(by rw [← unhide HFb, length_frs]; exact hkb)) := by
          have e1 : (frs Lb)[k]'(by rw [length_frs]; exact hkb) = Lb[k].1 := by simp [frs]
          have e2 : fb[k]'(by rw [← unhide HFb, length_frs]; exact hkb) = Lb[k].1 := by
            rw [← e1]
            congr 1
            exact (unhide HFb).symm
          rw [e2, ← unhide HFa]
          unfold frs
          rw [List.map_set]
        have HIFF : Hid (n ≠ 1 → (IsRec (frs (La.set k Lb[k])) ↔ (A = O ∧ C = T ∧ n = m))) := fun h1 => by
          rw [hfs]
          have := unhide HMIX k (by rw [← unhide HN]; exact hkn) (by rw [← unhide HM]; omega) (by rw [← unhide HN]; exact h1)
          have e1 := unhide HN
          have e2 := unhide HM
          exact this.trans ⟨fun ⟨x, y, z⟩ => ⟨x, y, by omega⟩, fun ⟨x, y, z⟩ => ⟨x, y, by omega⟩⟩
        have HJE : Hid (joinE (frs (La.set k Lb[k])) = if IsRec (frs (La.set k Lb[k])) then 0 else 11) := rfl
        have HJM := hide (fun w' (h : FL w' v9 (La.set k Lb[k])) => unhide HJ v9 _ w' h)
        rw [esk] at d3 HST
        subst em
        rw [unhide HLA] at HST HJM ⊢
        generalize Lb[k].1 = f at *
        generalize La.set k Lb[k] = LS at *
        have hms : k * 4 + 3 < curm.size := by rw [hcms]; have := unhide HLA; omega
        have y0 : w9.cell? ⟨gm, k * 4, none⟩ = some (curm[k * 4]'(by omega)) := by rw [cell_of_row w9 gm _ curm _ (0, 0) hhm]; exact Array.getElem?_eq_getElem (by omega)
        have y1 : w9.cell? ⟨gm, k * 4 + 1, none⟩ = some (curm[k * 4 + 1]'(by omega)) := by rw [cell_of_row w9 gm _ curm _ (0, 0) hhm]; exact Array.getElem?_eq_getElem (by omega)
        have y2 : w9.cell? ⟨gm, k * 4 + 2, none⟩ = some (curm[k * 4 + 2]'(by omega)) := by rw [cell_of_row w9 gm _ curm _ (0, 0) hhm]; exact Array.getElem?_eq_getElem (by omega)
        have y3 : w9.cell? ⟨gm, k * 4 + 3, none⟩ = some (curm[k * 4 + 3]'(by omega)) := by rw [cell_of_row w9 gm _ curm _ (0, 0) hhm]; exact Array.getElem?_eq_getElem (by omega)
        have z0 : w9.frozen? ⟨gm, k * 4, none⟩ = false := frozen_of_block hhm
        have z1 : w9.frozen? ⟨gm, k * 4 + 1, none⟩ = false := frozen_of_block hhm
        have z2 : w9.frozen? ⟨gm, k * 4 + 2, none⟩ = false := frozen_of_block hhm
        have z3 : w9.frozen? ⟨gm, k * 4 + 3, none⟩ = false := frozen_of_block hhm
        generalize curm[k * 4]'(by omega) = x0 at *
        generalize curm[k * 4 + 1]'(by omega) = x1 at *
        generalize curm[k * 4 + 2]'(by omega) = x2 at *
        generalize curm[k * 4 + 3]'(by omega) = x3 at *
        have hgm' : w.heap.size ≤ gm := by have := (unhide HB8).size; omega
        rw [unhide HLA] at hcm1
        unfold maxLen at hcm2
        obtain ⟨W10, hW10⟩ : ∃ W10, W10 = (((w9.setCell ⟨gm, k * 4, none⟩ (.int .u64 (f.age : Int))).setCell ⟨gm, k * 4 + 1, none⟩ (.int .u64 (f.first : Int))).setCell ⟨gm, k * 4 + 2, none⟩ (.int .i64 f.of)).setCell ⟨gm, k * 4 + 3, none⟩ (.slice pk lk qk) := ⟨_, rfl⟩
        rw [← hW10] at HST
        have HB10 : Hid (Below w.heap.size w W10) := by
          unfold Hid
          rw [hW10]
          exact ((((unhide HB9).setCell (p := ⟨gm, k * 4, none⟩) hgm' _).setCell (p := ⟨gm, k * 4 + 1, none⟩) hgm' _).setCell (p := ⟨gm, k * 4 + 2, none⟩) hgm' _).setCell (p := ⟨gm, k * 4 + 3, none⟩) hgm' _
        have HW10 := hide hW10
        have HJ10 := hide (unhide HJM W10 (unhide HST).fl)
        have hjj := unhide HJE
        clear HJE
        generalize joinE (frs LS) = E at *
        generalize joinB (frs LS) = X at *
        clear hF9 b9 hFb9 hhm hcms hhb' hcellb hrowb hokb hbl esk hfs HJM HST hW10 hms HOA HONE HLC HCE8 HFA8 HFB8
        by_cases hAO : A = O
        · by_cases hCT : C = T
          · by_cases hnm : n = m
            · have q1 : ((A : Int) == O) = true := by rw [hAO]; simp
              have q2 : ((C : Int) == T) = true := by rw [hCT]; simp
              have q3 : ((n : Int) == m) = true := by rw [hnm]; simp
              have hE0 : (E == 0) = true := by rw [hjj, if_pos ((unhide HIFF (by omega)).2 ⟨hAO, hCT, hnm⟩)]; rfl
              have hn1 : ((n : Int) == 1) = false := by rw [beq_eq_false_iff_ne]; omega
              clear hjj hAO hCT hnm
              go_wp2_with fail
              rw [← unhide HW10]
              go_wp2_with fail
              refine Calls.mono (unhide HJ10) ?_
              rintro e w11 ⟨t11, rfl, _, b11⟩
              have HB11 := hide ((unhide HB10).trans (b11.mono (unhide HB10).size))
              clear b11
              go_wp2
              go_ret
              exact ⟨rfl, unhide HB11⟩
            · have q1 : ((A : Int) == O) = true := by rw [hAO]; simp
              have q2 : ((C : Int) == T) = true := by rw [hCT]; simp
              have q3 : ((n : Int) == m) = false := by rw [beq_eq_false_iff_ne]; omega
              have HNO : ¬ (A = O ∧ C = T ∧ n = m) := fun h => hnm h.2.2
              have hE0 : (E == 0) = false := by rw [hjj, if_neg (fun h => HNO ((unhide HIFF (by omega)).1 h))]; rfl
              have hn1 : ((n : Int) == 1) = false := by rw [beq_eq_false_iff_ne]; omega
              clear hjj hAO hCT hnm HNO
              go_wp2_with fail
              rw [← unhide HW10]
              go_wp2_with fail
              refine Calls.mono (unhide HJ10) ?_
              rintro e w11 ⟨t11, rfl, _, b11⟩
              have HB11 := hide ((unhide HB10).trans (b11.mono (unhide HB10).size))
              clear b11
              go_wp2
              go_ret
              exact ⟨rfl, unhide HB11⟩
          · have q1 : ((A : Int) == O) = true := by rw [hAO]; simp
            have q2 : ((C : Int) == T) = false := by rw [beq_eq_false_iff_ne]; omega
            have HNO : ¬ (A = O ∧ C = T ∧ n = m) := fun h => hCT h.2.1
            have hE0 : (E == 0) = false := by rw [hjj, if_neg (fun h => HNO ((unhide HIFF (by omega)).1 h))]; rfl
            have hn1 : ((n : Int) == 1) = false := by rw [beq_eq_false_iff_ne]; omega
            clear hjj hAO hCT HNO
            go_wp2_with fail
            rw [← unhide HW10]
            go_wp2_with fail
            refine Calls.mono (unhide HJ10) ?_
            rintro e w11 ⟨t11, rfl, _, b11⟩
            have HB11 := hide ((unhide HB10).trans (b11.mono (unhide HB10).size))
            clear b11
            go_wp2
            go_ret
            exact ⟨rfl, unhide HB11⟩
        · have q1 : ((A : Int) == O) = false := by rw [beq_eq_false_iff_ne]; omega
          have HNO : ¬ (A = O ∧ C = T ∧ n = m) := fun h => hAO h.1
          have hE0 : (E == 0) = false := by rw [hjj, if_neg (fun h => HNO ((unhide HIFF (by omega)).1 h))]; rfl
          have hn1 : ((n : Int) == 1) = false := by rw [beq_eq_false_iff_ne]; omega
          clear hjj hAO HNO
          go_wp2_with fail
          rw [← unhide HW10]
          go_wp2_with fail
          refine Calls.mono (unhide HJ10) ?_
          rintro e w11 ⟨t11, rfl, _, b11⟩
          have HB11 := hide ((unhide HB10).trans (b11.mono (unhide HB10).size))
          clear b11
          go_wp2
          go_ret
          exact ⟨rfl, unhide HB11⟩
      · have hkm' : (m : Int) ≤ k := by omega
        have h11 : ((11 : Int) == 11) = true := rfl
        go_wp2
        go_ret
        exact ⟨rfl, unhide HB8⟩
    · have QC := HCA
      have QD : Hid (∀ j u, (cellsL La)[j]? = some u → w5.drew.cell? ⟨ga, j, none⟩ = some u) := unhide QC
      have Q1 : Hid ((cellsL (La.take k)).length = k * 4) := by have := unhide HLA; unfold Hid; rw [length_cellsL, List.length_take]; congr 1; omega
      have Q2 : Hid (∀ j u, (cellsL (La.take k))[j]? = some u → w5.drew.cell? ((⟨ga, 0, none⟩ : Addr).add j) = some u) := fun j u hu => by rw [Addr.add_lit, Nat.zero_add]; exact unhide QD j u (cells_take La k j u hu)
      have Q3 := hide (oneCell_L (La.take k) (fun p hp => (unhide HFA5).slices p (List.mem_of_mem_take hp)))
      have Q4 : Hid ((cellsL (La.drop (k + 1))).length = (n - (k + 1)) * 4) := by have := unhide HLA; unfold Hid; rw [length_cellsL, List.length_drop]; congr 1; omega
      have Q6 := hide (oneCell_L (La.drop (k + 1)) (fun p hp => (unhide HFA5).slices p (List.mem_of_mem_drop hp)))
      have Q7 : Hid (∀ w6, w5.drew.grownBy w6 (Value.slice none 0 0).ownBlock → w5.heap.size ≤ w6.heap.size) := fun w6 hg => hg.size
      have Q8 : Hid ((La.take k).length = k) := by have := unhide HLA; unfold Hid; rw [List.length_take]; omega
      have Q9 : Hid ((La.drop (k + 1)).length = (n - (k + 1))) := by have := unhide HLA; unfold Hid; rw [List.length_drop]; omega
      have Q0 := hide (fun v6 w6 v7 w7 => two_apps (v6 := v6) (w6 := w6) (v7 := v7) (w7 := w7) (M1 := (La.take k)) (M2 := (La.drop (k + 1))) (unhide HFA5) (fun p hp => List.mem_of_mem_take hp) (fun p hp => List.mem_of_mem_drop hp) ((Below.refl _ w5).drew))
      rw [unhide Q8, unhide Q9] at Q0
      have Q5 : Hid (∀ w6, w5.drew.grownBy w6 (Value.slice none 0 0).ownBlock → ∀ j u, (cellsL (La.drop (k + 1)))[j]? = some u → w6.cell? ((⟨ga, (k + 1) * 4, none⟩ : Addr).add j) = some u) := fun w6 hg => by
        intro j u hu
        rw [Addr.add_lit]
        exact cells_grown (unhide QD) hg _ u (cells_drop La (k + 1) (by have := unhide HLA; omega) j u hu)
      go_region_law (first
        | (refine step_append_many rfl _ _ 44 rfl w5.heap.size 25 i0 _ Try.underlying44 hi hz0 4 48 (by omega) hz1 hz2 rfl (.slice none 0 0) 0 [] (by simp [Act.eval]) (World.ownsRow_nil _ _ _ _) ⟨ga, 0, none⟩ k ca (cellsL (La.take k)) (by simp [Act.eval, Act.put]) (unhide Q1) (unhide Q2) (unhide Q3) (by unfold maxLen; omega) (by omega) (by simp) ?_; intro v6 w6 own6 grow6 vb6)
        | (refine step_append_many rfl _ _ 44 rfl w5.heap.size 25 i0 _ Try.underlying44 hi hz0 4 48 (by omega) hz1 hz2 rfl v6 (0 + k) ([] ++ cellsL (La.take k)) (by simp [Act.eval]) own6 ⟨ga, (k + 1) * 4, none⟩ (n - (k + 1)) (ca - (k + 1)) (cellsL (La.drop (k + 1))) (by simp [Act.eval]) (unhide Q4) (unhide Q5 _ grow6) (unhide Q6) (by unfold maxLen; omega) (by omega) (unhide Q7 _ grow6) ?_; intro v7 w7 own7 grow7 vb7; have QT := hide (unhide Q0 v6 w6 v7 w7 own6 grow6 vb6 own7 grow7 vb7); clear own6 grow6 vb6 own7 grow7 vb7))
      obtain ⟨hF7, b7⟩ := unhide QT
      have hfr7 : frs (La.take k ++ La.drop (k + 1)) = fa.take k ++ fa.drop (k + 1) := by
        rw [frs_append, ← unhide HFa]
        unfold frs
        rw [List.map_take, List.map_drop]
      have HJ7 := hide (unhide HJ v7 _ w7 hF7.fl)
      rw [hfr7] at HJ7
      have e11 : joinE (fa.take k ++ fa.drop (k + 1)) = 11 := by unfold joinE; rw [if_neg (unhide HNL)]
      rw [e11] at HJ7
      have HFA7 := hide ((unhide HFA5).below b7)
      have HFB7 := hide ((unhide HFB5).below b7)
      have HB7 := hide ((unhide HB5).trans (b7.mono (unhide HB5).size))
      clear hF7 b7 hfr7 e11 QC QD Q1 Q2 Q3 Q4 Q5 Q6 Q7 Q8 Q9 Q0 QT HFA5 HFB5 HB5
      go_wp2_with fail
      refine Calls.mono (unhide HJ7) ?_
      rintro e w75 ⟨t75, rfl, _, b75⟩
      have HFAt := hide ((unhide HFA7).below b75)
      have HFBt := hide ((unhide HFB7).below b75)
      have HBt := hide ((unhide HB7).trans (b75.mono (unhide HB7).size))
      clear b75 HFA7 HFB7 HB7 HJ7 HCA
      go_wp2_with fail
      have RC : Hid (∀ j u, (cellsL La)[j]? = some u → w75.cell? ⟨ga, j, none⟩ = some u) := by
        obtain ⟨g', cap', cur', e', _, _, _, _, _, hc'⟩ := (unhide HFAt).cells (by intro e; have := unhide HLA; rw [e] at this; simp at this; omega)
        simp only [Value.slice.injEq, Option.some.injEq, Addr.mk.injEq, and_true, true_and] at e'
        obtain ⟨rfl, rfl⟩ := e'
        exact hc'
      have RD : Hid (∀ j u, (cellsL La)[j]? = some u → w75.drew.cell? ⟨ga, j, none⟩ = some u) := unhide RC
      have R1 : Hid ((cellsL (La.take (k + 1))).length = (k + 1) * 4) := by have := unhide HLA; unfold Hid; rw [length_cellsL, List.length_take]; congr 1; omega
      have R2 : Hid (∀ j u, (cellsL (La.take (k + 1)))[j]? = some u → w75.drew.cell? ((⟨ga, 0, none⟩ : Addr).add j) = some u) := fun j u hu => by rw [Addr.add_lit, Nat.zero_add]; exact unhide RD j u (cells_take La (k + 1) j u hu)
      have R3 := hide (oneCell_L (La.take (k + 1)) (fun p hp => (unhide HFAt).slices p (List.mem_of_mem_take hp)))
      have R4 : Hid ((cellsL (La.drop k)).length = (n - k) * 4) := by have := unhide HLA; unfold Hid; rw [length_cellsL, List.length_drop]; congr 1; omega
      have R6 := hide (oneCell_L (La.drop k) (fun p hp => (unhide HFAt).slices p (List.mem_of_mem_drop hp)))
      have R7 : Hid (∀ w6, w75.drew.grownBy w6 (Value.slice none 0 0).ownBlock → w75.heap.size ≤ w6.heap.size) := fun w6 hg => hg.size
      have R8 : Hid ((La.take (k + 1)).length = (k + 1)) := by have := unhide HLA; unfold Hid; rw [List.length_take]; omega
      have R9 : Hid ((La.drop k).length = (n - k)) := by have := unhide HLA; unfold Hid; rw [List.length_drop]; omega
      have R0 := hide (fun v6 w6 v7 w7 => two_apps (v6 := v6) (w6 := w6) (v7 := v7) (w7 := w7) (M1 := (La.take (k + 1))) (M2 := (La.drop k)) (unhide HFAt) (fun p hp => List.mem_of_mem_take hp) (fun p hp => List.mem_of_mem_drop hp) ((Below.refl _ w75).drew))
      rw [unhide R8, unhide R9] at R0
      have R5 : Hid (∀ w6, w75.drew.grownBy w6 (Value.slice none 0 0).ownBlock → ∀ j u, (cellsL (La.drop k))[j]? = some u → w6.cell? ((⟨ga, k * 4, none⟩ : Addr).add j) = some u) := fun w6 hg => by
        intro j u hu
        rw [Addr.add_lit]
        exact cells_grown (unhide RD) hg _ u (cells_drop La k (by have := unhide HLA; omega) j u hu)
      go_region_law (first
        | (refine step_append_many rfl _ _ 44 rfl w75.heap.size 25 i0 _ Try.underlying44 hi hz0 4 48 (by omega) hz1 hz2 rfl (.slice none 0 0) 0 [] (by simp [Act.eval]) (World.ownsRow_nil _ _ _ _) ⟨ga, 0, none⟩ (k + 1) ca (cellsL (La.take (k + 1))) (by simp [Act.eval, Act.put]) (unhide R1) (unhide R2) (unhide R3) (by unfold maxLen; omega) (by omega) (by simp) ?_; intro v6 w6 own6 grow6 vb6)
        | (refine step_append_many rfl _ _ 44 rfl w75.heap.size 25 i0 _ Try.underlying44 hi hz0 4 48 (by omega) hz1 hz2 rfl v6 (0 + (k + 1)) ([] ++ cellsL (La.take (k + 1))) (by simp [Act.eval]) own6 ⟨ga, k * 4, none⟩ (n - k) (ca - k) (cellsL (La.drop k)) (by simp [Act.eval]) (unhide R4) (unhide R5 _ grow6) (unhide R6) (by unfold maxLen; omega) (by omega) (unhide R7 _ grow6) ?_; intro v7 w7 own7 grow7 vb7; have RT := hide (unhide R0 v6 w6 v7 w7 own6 grow6 vb6 own7 grow7 vb7); clear own6 grow6 vb6 own7 grow7 vb7))
      obtain ⟨hF7, b7⟩ := unhide RT
      have hfr7 : frs (La.take (k + 1) ++ La.drop k) = fa.take (k + 1) ++ fa.drop k := by
        rw [frs_append, ← unhide HFa]
        unfold frs
        rw [List.map_take, List.map_drop]
      have HJ7 := hide (unhide HJ v7 _ w7 hF7.fl)
      rw [hfr7] at HJ7
      have e11 : joinE (fa.take (k + 1) ++ fa.drop k) = 11 := by unfold joinE; rw [if_neg (unhide HNOT k hkn)]
      rw [e11] at HJ7
      have HFA7 := hide ((unhide HFAt).below b7)
      have HFB7 := hide ((unhide HFBt).below b7)
      have HB7 := hide ((unhide HBt).trans (b7.mono (unhide HBt).size))
      clear hF7 b7 hfr7 e11 RC RD R1 R2 R3 R4 R5 R6 R7 R8 R9 R0 RT
      go_wp2_with fail
      refine Calls.mono (unhide HJ7) ?_
      rintro e w8 ⟨t8, rfl, _, b8⟩
      have HFA8 := hide ((unhide HFA7).below b8)
      have HFB8 := hide ((unhide HFB7).below b8)
      have HB8 := hide ((unhide HB7).trans (b8.mono (unhide HB7).size))
      clear b8 HFA7 HFB7 HB7 HJ7
      by_cases hkm : (k : Int) < m
      · have hkm' : ¬ (m : Int) ≤ k := by omega
        obtain ⟨ga', ca', cura', ea', _, _, _, _, _, hcella⟩ := (unhide HFA8).cells (by intro e; have := unhide HLA; rw [e] at this; simp at this; omega)
        simp only [Value.slice.injEq, Option.some.injEq, Addr.mk.injEq, and_true, true_and] at ea'
        obtain ⟨rfl, rfl⟩ := ea'
        have HCE8 := hide hcella
        have hall := oneCell_L La (fun p hp => (unhide HFA8).slices p hp)
        have HONE := hide hall
        have HLC : Hid ((cellsL La).length = n * 4) := by have := unhide HLA; unfold Hid; rw [length_cellsL, this]
        have HOA := hide (fun v6 w6 => one_app (v6 := v6) (w6 := w6) (M1 := La) (unhide HFA8) (fun p hp => hp) (Below.refl _ w8))
        rw [unhide HLA] at HOA
        clear hcella hall
        go_wp2_with (at_builtin; refine wpList_append_gen rfl _ _ 44 rfl w8.heap.size 25 i0 _ Try.underlying44 hi hz0 4 48 (by omega) hz1 hz2 rfl (.slice none 0 0) 0 [] rfl (World.ownsRow_nil _ _ _ _) ⟨ga, 0, none⟩ n ca (cellsL La) rfl (unhide HLC) (fun j u hu => by rw [Addr.add_lit, Nat.zero_add]; exact unhide HCE8 j u hu) (unhide HONE) (by unfold maxLen; omega) (by omega) (Nat.le_refl _) ?_)
        intro v9 w9 own9 grow9 vb9
        obtain ⟨hF9, b9⟩ := unhide HOA v9 w9 (by rw [Nat.zero_add, List.nil_append]; exact own9) grow9 vb9
        clear own9 grow9 vb9
        have hFb9 := (unhide HFB8).below b9
        have HB9 := hide ((unhide HB8).trans (b9.mono (unhide HB8).size))
        obtain ⟨gm, cm, curm, em, hgm, hhm, hcm1, hcm2, hcms, _⟩ := hF9.cells (by intro e; have := unhide HLA; rw [e] at this; simp at this; omega)
        obtain ⟨gb', cb', curb', eb', _, hhb', hcb1', _, _, hcellb⟩ := hFb9.cells (by intro e; have := unhide HLB; rw [e] at this; simp at this; omega)
        simp only [Value.slice.injEq, Option.some.injEq, Addr.mk.injEq, and_true, true_and] at eb'
        obtain ⟨rfl, rfl⟩ := eb'
        have hkb : k < Lb.length := by have := unhide HLB; omega
        have hka : k < La.length := by have := unhide HLA; omega
        obtain ⟨d0, d1, d2, d3⟩ := at4_of (off := 0) (fun j u hu => by rw [Nat.zero_add]; exact hcellb j u hu) k hkb
        rw [Nat.zero_add] at d0 d1 d2 d3
        have hrowb := (hFb9.2 _ (List.getElem_mem hkb)).2.1
        have hokb := (hFb9.2 _ (List.getElem_mem hkb)).1
        have hbl := fun b off n' c' e hne => row_block_lt ((unhide HFB8).2 _ (List.getElem_mem hkb)).2.1 (b := b) (off := off) (n := n') (c := c') e hne
        obtain ⟨pk, lk, qk, esk⟩ := slice_of_row hrowb
        have HST := hide (hF9.set em k hka Lb[k] ⟨hokb, hrowb, fun b off n' c' e hne he => by
          rw [em] at he
          simp only [Value.ownBlock, Option.some.injEq] at he
          have := hbl b off n' c' e hne
          omega⟩)
        have hfs : frs (La.set k Lb[k]) = fa.set k (fb[k]'(by rw [← unhide HFb, length_frs]; exact hkb)) := by
          have e1 : (frs Lb)[k]'(by rw [length_frs]; exact hkb) = Lb[k].1 := by simp [frs]
          have e2 : fb[k]'(by rw [← unhide HFb, length_frs]; exact hkb) = Lb[k].1 := by
            rw [← e1]
            congr 1
            exact (unhide HFb).symm
          rw [e2, ← unhide HFa]
          unfold frs
          rw [List.map_set]
        have HIFF : Hid (n ≠ 1 → (IsRec (frs (La.set k Lb[k])) ↔ (A = O ∧ C = T ∧ n = m))) := fun h1 => by
          rw [hfs]
          have := unhide HMIX k (by rw [← unhide HN]; exact hkn) (by rw [← unhide HM]; omega) (by rw [← unhide HN]; exact h1)
          have e1 := unhide HN
          have e2 := unhide HM
          exact this.trans ⟨fun ⟨x, y, z⟩ => ⟨x, y, by omega⟩, fun ⟨x, y, z⟩ => ⟨x, y, by omega⟩⟩
        have HJE : Hid (joinE (frs (La.set k Lb[k])) = if IsRec (frs (La.set k Lb[k])) then 0 else 11) := rfl
        have HJM := hide (fun w' (h : FL w' v9 (La.set k Lb[k])) => unhide HJ v9 _ w' h)
        rw [esk] at d3 HST
        subst em
        rw [unhide HLA] at HST HJM ⊢
        generalize Lb[k].1 = f at *
        generalize La.set k Lb[k] = LS at *
        have hms : k * 4 + 3 < curm.size := by rw [hcms]; have := unhide HLA; omega
        have y0 : w9.cell? ⟨gm, k * 4, none⟩ = some (curm[k * 4]'(by omega)) := by rw [cell_of_row w9 gm _ curm _ (0, 0) hhm]; exact Array.getElem?_eq_getElem (by omega)
        have y1 : w9.cell? ⟨gm, k * 4 + 1, none⟩ = some (curm[k * 4 + 1]'(by omega)) := by rw [cell_of_row w9 gm _ curm _ (0, 0) hhm]; exact Array.getElem?_eq_getElem (by omega)
        have y2 : w9.cell? ⟨gm, k * 4 + 2, none⟩ = some (curm[k * 4 + 2]'(by omega)) := by rw [cell_of_row w9 gm _ curm _ (0, 0) hhm]; exact Array.getElem?_eq_getElem (by omega)
        have y3 : w9.cell? ⟨gm, k * 4 + 3, none⟩ = some (curm[k * 4 + 3]'(by omega)) := by rw [cell_of_row w9 gm _ curm _ (0, 0) hhm]; exact Array.getElem?_eq_getElem (by omega)
        have z0 : w9.frozen? ⟨gm, k * 4, none⟩ = false := frozen_of_block hhm
        have z1 : w9.frozen? ⟨gm, k * 4 + 1, none⟩ = false := frozen_of_block hhm
        have z2 : w9.frozen? ⟨gm, k * 4 + 2, none⟩ = false := frozen_of_block hhm
        have z3 : w9.frozen? ⟨gm, k * 4 + 3, none⟩ = false := frozen_of_block hhm
        generalize curm[k * 4]'(by omega) = x0 at *
        generalize curm[k * 4 + 1]'(by omega) = x1 at *
        generalize curm[k * 4 + 2]'(by omega) = x2 at *
        generalize curm[k * 4 + 3]'(by omega) = x3 at *
        have hgm' : w.heap.size ≤ gm := by have := (unhide HB8).size; omega
        rw [unhide HLA] at hcm1
        unfold maxLen at hcm2
        obtain ⟨W10, hW10⟩ : ∃ W10, W10 = (((w9.setCell ⟨gm, k * 4, none⟩ (.int .u64 (f.age : Int))).setCell ⟨gm, k * 4 + 1, none⟩ (.int .u64 (f.first : Int))).setCell ⟨gm, k * 4 + 2, none⟩ (.int .i64 f.of)).setCell ⟨gm, k * 4 + 3, none⟩ (.slice pk lk qk) := ⟨_, rfl⟩
        rw [← hW10] at HST
        have HB10 : Hid (Below w.heap.size w W10) := by
          unfold Hid
          rw [hW10]
          exact ((((unhide HB9).setCell (p := ⟨gm, k * 4, none⟩) hgm' _).setCell (p := ⟨gm, k * 4 + 1, none⟩) hgm' _).setCell (p := ⟨gm, k * 4 + 2, none⟩) hgm' _).setCell (p := ⟨gm, k * 4 + 3, none⟩) hgm' _
        have HW10 := hide hW10
        have HJ10 := hide (unhide HJM W10 (unhide HST).fl)
        have hjj := unhide HJE
        clear HJE
        generalize joinE (frs LS) = E at *
        generalize joinB (frs LS) = X at *
        clear hF9 b9 hFb9 hhm hcms hhb' hcellb hrowb hokb hbl esk hfs HJM HST hW10 hms HOA HONE HLC HCE8 HFA8 HFB8
        by_cases hAO : A = O
        · by_cases hCT : C = T
          · by_cases hnm : n = m
            · have q1 : ((A : Int) == O) = true := by rw [hAO]; simp
              have q2 : ((C : Int) == T) = true := by rw [hCT]; simp
              have q3 : ((n : Int) == m) = true := by rw [hnm]; simp
              have hE0 : (E == 0) = true := by rw [hjj, if_pos ((unhide HIFF (by omega)).2 ⟨hAO, hCT, hnm⟩)]; rfl
              have hn1 : ((n : Int) == 1) = false := by rw [beq_eq_false_iff_ne]; omega
              clear hjj hAO hCT hnm
              go_wp2_with fail
              rw [← unhide HW10]
              go_wp2_with fail
              refine Calls.mono (unhide HJ10) ?_
              rintro e w11 ⟨t11, rfl, _, b11⟩
              have HB11 := hide ((unhide HB10).trans (b11.mono (unhide HB10).size))
              clear b11
              go_wp2
              go_ret
              exact ⟨rfl, unhide HB11⟩
            · have q1 : ((A : Int) == O) = true := by rw [hAO]; simp
              have q2 : ((C : Int) == T) = true := by rw [hCT]; simp
              have q3 : ((n : Int) == m) = false := by rw [beq_eq_false_iff_ne]; omega
              have HNO : ¬ (A = O ∧ C = T ∧ n = m) := fun h => hnm h.2.2
              have hE0 : (E == 0) = false := by rw [hjj, if_neg (fun h => HNO ((unhide HIFF (by omega)).1 h))]; rfl
              have hn1 : ((n : Int) == 1) = false := by rw [beq_eq_false_iff_ne]; omega
              clear hjj hAO hCT hnm HNO
              go_wp2_with fail
              rw [← unhide HW10]
              go_wp2_with fail
              refine Calls.mono (unhide HJ10) ?_
              rintro e w11 ⟨t11, rfl, _, b11⟩
              have HB11 := hide ((unhide HB10).trans (b11.mono (unhide HB10).size))
              clear b11
              go_wp2
              go_ret
              exact ⟨rfl, unhide HB11⟩
          · have q1 : ((A : Int) == O) = true := by rw [hAO]; simp
            have q2 : ((C : Int) == T) = false := by rw [beq_eq_false_iff_ne]; omega
            have HNO : ¬ (A = O ∧ C = T ∧ n = m) := fun h => hCT h.2.1
            have hE0 : (E == 0) = false := by rw [hjj, if_neg (fun h => HNO ((unhide HIFF (by omega)).1 h))]; rfl
            have hn1 : ((n : Int) == 1) = false := by rw [beq_eq_false_iff_ne]; omega
            clear hjj hAO hCT HNO
            go_wp2_with fail
            rw [← unhide HW10]
            go_wp2_with fail
            refine Calls.mono (unhide HJ10) ?_
            rintro e w11 ⟨t11, rfl, _, b11⟩
            have HB11 := hide ((unhide HB10).trans (b11.mono (unhide HB10).size))
            clear b11
            go_wp2
            go_ret
            exact ⟨rfl, unhide HB11⟩
        · have q1 : ((A : Int) == O) = false := by rw [beq_eq_false_iff_ne]; omega
          have HNO : ¬ (A = O ∧ C = T ∧ n = m) := fun h => hAO h.1
          have hE0 : (E == 0) = false := by rw [hjj, if_neg (fun h => HNO ((unhide HIFF (by omega)).1 h))]; rfl
          have hn1 : ((n : Int) == 1) = false := by rw [beq_eq_false_iff_ne]; omega
          clear hjj hAO HNO
          go_wp2_with fail
          rw [← unhide HW10]
          go_wp2_with fail
          refine Calls.mono (unhide HJ10) ?_
          rintro e w11 ⟨t11, rfl, _, b11⟩
          have HB11 := hide ((unhide HB10).trans (b11.mono (unhide HB10).size))
          clear b11
          go_wp2
          go_ret
          exact ⟨rfl, unhide HB11⟩
      · have hkm' : (m : Int) ≤ k := by omega
        have h11 : ((11 : Int) == 11) = true := rfl
        go_wp2
        go_ret
        exact ⟨rfl, unhide HB8⟩
  · go_wp2_with fail
    rw [unhide HKF]
    have RC : Hid (∀ j u, (cellsL La)[j]? = some u → w5.cell? ⟨ga, j, none⟩ = some u) := by
      obtain ⟨g', cap', cur', e', _, _, _, _, _, hc'⟩ := (unhide HFA5).cells (by intro e; have := unhide HLA; rw [e] at this; simp at this; omega)
      simp only [Value.slice.injEq, Option.some.injEq, Addr.mk.injEq, and_true, true_and] at e'
      obtain ⟨rfl, rfl⟩ := e'
      exact hc'
    have RD : Hid (∀ j u, (cellsL La)[j]? = some u → w5.drew.cell? ⟨ga, j, none⟩ = some u) := unhide RC
    have R1 : Hid ((cellsL (La.take (k + 1))).length = (k + 1) * 4) := by have := unhide HLA; unfold Hid; rw [length_cellsL, List.length_take]; congr 1; omega
    have R2 : Hid (∀ j u, (cellsL (La.take (k + 1)))[j]? = some u → w5.drew.cell? ((⟨ga, 0, none⟩ : Addr).add j) = some u) := fun j u hu => by rw [Addr.add_lit, Nat.zero_add]; exact unhide RD j u (cells_take La (k + 1) j u hu)
    have R3 := hide (oneCell_L (La.take (k + 1)) (fun p hp => (unhide HFA5).slices p (List.mem_of_mem_take hp)))
    have R4 : Hid ((cellsL (La.drop k)).length = (n - k) * 4) := by have := unhide HLA; unfold Hid; rw [length_cellsL, List.length_drop]; congr 1; omega
    have R6 := hide (oneCell_L (La.drop k) (fun p hp => (unhide HFA5).slices p (List.mem_of_mem_drop hp)))
    have R7 : Hid (∀ w6, w5.drew.grownBy w6 (Value.slice none 0 0).ownBlock → w5.heap.size ≤ w6.heap.size) := fun w6 hg => hg.size
    have R8 : Hid ((La.take (k + 1)).length = (k + 1)) := by have := unhide HLA; unfold Hid; rw [List.length_take]; omega
    have R9 : Hid ((La.drop k).length = (n - k)) := by have := unhide HLA; unfold Hid; rw [List.length_drop]; omega
    have R0 := hide (fun v6 w6 v7 w7 => two_apps (v6 := v6) (w6 := w6) (v7 := v7) (w7 := w7) (M1 := (La.take (k + 1))) (M2 := (La.drop k)) (unhide HFA5) (fun p hp => List.mem_of_mem_take hp) (fun p hp => List.mem_of_mem_drop hp) ((Below.refl _ w5).drew))
    rw [unhide R8, unhide R9] at R0
    have R5 : Hid (∀ w6, w5.drew.grownBy w6 (Value.slice none 0 0).ownBlock → ∀ j u, (cellsL (La.drop k))[j]? = some u → w6.cell? ((⟨ga, k * 4, none⟩ : Addr).add j) = some u) := fun w6 hg => by
      intro j u hu
      rw [Addr.add_lit]
      exact cells_grown (unhide RD) hg _ u (cells_drop La k (by have := unhide HLA; omega) j u hu)
    go_region_law (first
      | (refine step_append_many rfl _ _ 44 rfl w5.heap.size 25 i0 _ Try.underlying44 hi hz0 4 48 (by omega) hz1 hz2 rfl (.slice none 0 0) 0 [] (by simp [Act.eval]) (World.ownsRow_nil _ _ _ _) ⟨ga, 0, none⟩ (k + 1) ca (cellsL (La.take (k + 1))) (by simp [Act.eval, Act.put]) (unhide R1) (unhide R2) (unhide R3) (by unfold maxLen; omega) (by omega) (by simp) ?_; intro v6 w6 own6 grow6 vb6)
      | (refine step_append_many rfl _ _ 44 rfl w5.heap.size 25 i0 _ Try.underlying44 hi hz0 4 48 (by omega) hz1 hz2 rfl v6 (0 + (k + 1)) ([] ++ cellsL (La.take (k + 1))) (by simp [Act.eval]) own6 ⟨ga, k * 4, none⟩ (n - k) (ca - k) (cellsL (La.drop k)) (by simp [Act.eval]) (unhide R4) (unhide R5 _ grow6) (unhide R6) (by unfold maxLen; omega) (by omega) (unhide R7 _ grow6) ?_; intro v7 w7 own7 grow7 vb7; have RT := hide (unhide R0 v6 w6 v7 w7 own6 grow6 vb6 own7 grow7 vb7); clear own6 grow6 vb6 own7 grow7 vb7))
    obtain ⟨hF7, b7⟩ := unhide RT
    have hfr7 : frs (La.take (k + 1) ++ La.drop k) = fa.take (k + 1) ++ fa.drop k := by
      rw [frs_append, ← unhide HFa]
      unfold frs
      rw [List.map_take, List.map_drop]
    have HJ7 := hide (unhide HJ v7 _ w7 hF7.fl)
    rw [hfr7] at HJ7
    have e11 : joinE (fa.take (k + 1) ++ fa.drop k) = 11 := by unfold joinE; rw [if_neg (unhide HNOT k hkn)]
    rw [e11] at HJ7
    have HFA7 := hide ((unhide HFA5).below b7)
    have HFB7 := hide ((unhide HFB5).below b7)
    have HB7 := hide ((unhide HB5).trans (b7.mono (unhide HB5).size))
    clear hF7 b7 hfr7 e11 RC RD R1 R2 R3 R4 R5 R6 R7 R8 R9 R0 RT
    go_wp2_with fail
    refine Calls.mono (unhide HJ7) ?_
    rintro e w8 ⟨t8, rfl, _, b8⟩
    have HFA8 := hide ((unhide HFA7).below b8)
    have HFB8 := hide ((unhide HFB7).below b8)
    have HB8 := hide ((unhide HB7).trans (b8.mono (unhide HB7).size))
    clear b8 HFA7 HFB7 HB7 HJ7
    by_cases hkm : (k : Int) < m
    · have hkm' : ¬ (m : Int) ≤ k := by omega
      obtain ⟨ga', ca', cura', ea', _, _, _, _, _, hcella⟩ := (unhide HFA8).cells (by intro e; have := unhide HLA; rw [e] at this; simp at this; omega)
      simp only [Value.slice.injEq, Option.some.injEq, Addr.mk.injEq, and_true, true_and] at ea'
      obtain ⟨rfl, rfl⟩ := ea'
      have HCE8 := hide hcella
      have hall := oneCell_L La (fun p hp => (unhide HFA8).slices p hp)
      have HONE := hide hall
      have HLC : Hid ((cellsL La).length = n * 4) := by have := unhide HLA; unfold Hid; rw [length_cellsL, this]
      have HOA := hide (fun v6 w6 => one_app (v6 := v6) (w6 := w6) (M1 := La) (unhide HFA8) (fun p hp => hp) (Below.refl _ w8))
      rw [unhide HLA] at HOA
      clear hcella hall
      go_wp2_with (at_builtin; refine wpList_append_gen rfl _ _ 44 rfl w8.heap.size 25 i0 _ Try.underlying44 hi hz0 4 48 (by omega) hz1 hz2 rfl (.slice none 0 0) 0 [] rfl (World.ownsRow_nil _ _ _ _) ⟨ga, 0, none⟩ n ca (cellsL La) rfl (unhide HLC) (fun j u hu => by rw [Addr.add_lit, Nat.zero_add]; exact unhide HCE8 j u hu) (unhide HONE) (by unfold maxLen; omega) (by omega) (Nat.le_refl _) ?_)
      intro v9 w9 own9 grow9 vb9
      obtain ⟨hF9, b9⟩ := unhide HOA v9 w9 (by rw [Nat.zero_add, List.nil_append]; exact own9) grow9 vb9
      clear own9 grow9 vb9
      have hFb9 := (unhide HFB8).below b9
      have HB9 := hide ((unhide HB8).trans (b9.mono (unhide HB8).size))
      obtain ⟨gm, cm, curm, em, hgm, hhm, hcm1, hcm2, hcms, _⟩ := hF9.cells (by intro e; have := unhide HLA; rw [e] at this; simp at this; omega)
      obtain ⟨gb', cb', curb', eb', _, hhb', hcb1', _, _, hcellb⟩ := hFb9.cells (by intro e; have := unhide HLB; rw [e] at this; simp at this; omega)
      simp only [Value.slice.injEq, Option.some.injEq, Addr.mk.injEq, and_true, true_and] at eb'
      obtain ⟨rfl, rfl⟩ := eb'
      have hkb : k < Lb.length := by have := unhide HLB; omega
      have hka : k < La.length := by have := unhide HLA; omega
      obtain ⟨d0, d1, d2, d3⟩ := at4_of (off := 0) (fun j u hu => by rw [Nat.zero_add]; exact hcellb j u hu) k hkb
      rw [Nat.zero_add] at d0 d1 d2 d3
      have hrowb := (hFb9.2 _ (List.getElem_mem hkb)).2.1
      have hokb := (hFb9.2 _ (List.getElem_mem hkb)).1
      have hbl := fun b off n' c' e hne => row_block_lt ((unhide HFB8).2 _ (List.getElem_mem hkb)).2.1 (b := b) (off := off) (n := n') (c := c') e hne
      obtain ⟨pk, lk, qk, esk⟩ := slice_of_row hrowb
      have HST := hide (hF9.set em k hka Lb[k] ⟨hokb, hrowb, fun b off n' c' e hne he => by
        rw [em] at he
        simp only [Value.ownBlock, Option.some.injEq] at he
        have := hbl b off n' c' e hne
        omega⟩)
      have hfs : frs (La.set k Lb[k]) = fa.set k (fb[k]'(by rw [← unhide HFb, length_frs]; exact hkb)) := by
        have e1 : (frs Lb)[k]'(by rw [length_frs]; exact hkb) = Lb[k].1 := by simp [frs]
        have e2 : fb[k]'(by rw [← unhide HFb, length_frs]; exact hkb) = Lb[k].1 := by
          rw [← e1]
          congr 1
          exact (unhide HFb).symm
        rw [e2, ← unhide HFa]
        unfold frs
        rw [List.map_set]
      have HIFF : Hid (n ≠ 1 → (IsRec (frs (La.set k Lb[k])) ↔ (A = O ∧ C = T ∧ n = m))) := fun h1 => by
        rw [hfs]
        have := unhide HMIX k (by rw [← unhide HN]; exact hkn) (by rw [← unhide HM]; omega) (by rw [← unhide HN]; exact h1)
        have e1 := unhide HN
        have e2 := unhide HM
        exact this.trans ⟨fun ⟨x, y, z⟩ => ⟨x, y, by omega⟩, fun ⟨x, y, z⟩ => ⟨x, y, by omega⟩⟩
      have HJE : Hid (joinE (frs (La.set k Lb[k])) = if IsRec (frs (La.set k Lb[k])) then 0 else 11) := rfl
      have HJM := hide (fun w' (h : FL w' v9 (La.set k Lb[k])) => unhide HJ v9 _ w' h)
      rw [esk] at d3 HST
      subst em
      rw [unhide HLA] at HST HJM ⊢
      generalize Lb[k].1 = f at *
      generalize La.set k Lb[k] = LS at *
      have hms : k * 4 + 3 < curm.size := by rw [hcms]; have := unhide HLA; omega
      have y0 : w9.cell? ⟨gm, k * 4, none⟩ = some (curm[k * 4]'(by omega)) := by rw [cell_of_row w9 gm _ curm _ (0, 0) hhm]; exact Array.getElem?_eq_getElem (by omega)
      have y1 : w9.cell? ⟨gm, k * 4 + 1, none⟩ = some (curm[k * 4 + 1]'(by omega)) := by rw [cell_of_row w9 gm _ curm _ (0, 0) hhm]; exact Array.getElem?_eq_getElem (by omega)
      have y2 : w9.cell? ⟨gm, k * 4 + 2, none⟩ = some (curm[k * 4 + 2]'(by omega)) := by rw [cell_of_row w9 gm _ curm _ (0, 0) hhm]; exact Array.getElem?_eq_getElem (by omega)
      have y3 : w9.cell? ⟨gm, k * 4 + 3, none⟩ = some (curm[k * 4 + 3]'(by omega)) := by rw [cell_of_row w9 gm _ curm _ (0, 0) hhm]; exact Array.getElem?_eq_getElem (by omega)
      have z0 : w9.frozen? ⟨gm, k * 4, none⟩ = false := frozen_of_block hhm
      have z1 : w9.frozen? ⟨gm, k * 4 + 1, none⟩ = false := frozen_of_block hhm
      have z2 : w9.frozen? ⟨gm, k * 4 + 2, none⟩ = false := frozen_of_block hhm
      have z3 : w9.frozen? ⟨gm, k * 4 + 3, none⟩ = false := frozen_of_block hhm
      generalize curm[k * 4]'(by omega) = x0 at *
      generalize curm[k * 4 + 1]'(by omega) = x1 at *
      generalize curm[k * 4 + 2]'(by omega) = x2 at *
      generalize curm[k * 4 + 3]'(by omega) = x3 at *
      have hgm' : w.heap.size ≤ gm := by have := (unhide HB8).size; omega
      rw [unhide HLA] at hcm1
      unfold maxLen at hcm2
      obtain ⟨W10, hW10⟩ : ∃ W10, W10 = (((w9.setCell ⟨gm, k * 4, none⟩ (.int .u64 (f.age : Int))).setCell ⟨gm, k * 4 + 1, none⟩ (.int .u64 (f.first : Int))).setCell ⟨gm, k * 4 + 2, none⟩ (.int .i64 f.of)).setCell ⟨gm, k * 4 + 3, none⟩ (.slice pk lk qk) := ⟨_, rfl⟩
      rw [← hW10] at HST
      have HB10 : Hid (Below w.heap.size w W10) := by
        unfold Hid
        rw [hW10]
        exact ((((unhide HB9).setCell (p := ⟨gm, k * 4, none⟩) hgm' _).setCell (p := ⟨gm, k * 4 + 1, none⟩) hgm' _).setCell (p := ⟨gm, k * 4 + 2, none⟩) hgm' _).setCell (p := ⟨gm, k * 4 + 3, none⟩) hgm' _
      have HW10 := hide hW10
      have HJ10 := hide (unhide HJM W10 (unhide HST).fl)
      have hjj := unhide HJE
      clear HJE
      generalize joinE (frs LS) = E at *
      generalize joinB (frs LS) = X at *
      clear hF9 b9 hFb9 hhm hcms hhb' hcellb hrowb hokb hbl esk hfs HJM HST hW10 hms HOA HONE HLC HCE8 HFA8 HFB8
      by_cases hAO : A = O
      · by_cases hCT : C = T
        · by_cases hnm : n = m
          · have q1 : ((A : Int) == O) = true := by rw [hAO]; simp
            have q2 : ((C : Int) == T) = true := by rw [hCT]; simp
            have q3 : ((n : Int) == m) = true := by rw [hnm]; simp
            have hn1 : ((n : Int) == 1) = true := by rw [show (n : Int) = 1 by omega]; rfl
            clear hjj hAO hCT hnm
            go_wp2_with fail
            rw [← unhide HW10]
            go_wp2_with fail
            refine Calls.mono (unhide HJ10) ?_
            rintro e w11 ⟨t11, rfl, _, b11⟩
            have HB11 := hide ((unhide HB10).trans (b11.mono (unhide HB10).size))
            clear b11
            go_wp2
            go_ret
            exact ⟨rfl, unhide HB11⟩
          · have q1 : ((A : Int) == O) = true := by rw [hAO]; simp
            have q2 : ((C : Int) == T) = true := by rw [hCT]; simp
            have q3 : ((n : Int) == m) = false := by rw [beq_eq_false_iff_ne]; omega
            have hn1 : ((n : Int) == 1) = true := by rw [show (n : Int) = 1 by omega]; rfl
            clear hjj hAO hCT hnm
            go_wp2_with fail
            rw [← unhide HW10]
            go_wp2_with fail
            refine Calls.mono (unhide HJ10) ?_
            rintro e w11 ⟨t11, rfl, _, b11⟩
            have HB11 := hide ((unhide HB10).trans (b11.mono (unhide HB10).size))
            clear b11
            go_wp2
            go_ret
            exact ⟨rfl, unhide HB11⟩
        · have q1 : ((A : Int) == O) = true := by rw [hAO]; simp
          have q2 : ((C : Int) == T) = false := by rw [beq_eq_false_iff_ne]; omega
          have hn1 : ((n : Int) == 1) = true := by rw [show (n : Int) = 1 by omega]; rfl
          clear hjj hAO hCT
          go_wp2_with fail
          rw [← unhide HW10]
          go_wp2_with fail
          refine Calls.mono (unhide HJ10) ?_
          rintro e w11 ⟨t11, rfl, _, b11⟩
          have HB11 := hide ((unhide HB10).trans (b11.mono (unhide HB10).size))
          clear b11
          go_wp2
          go_ret
          exact ⟨rfl, unhide HB11⟩
      · have q1 : ((A : Int) == O) = false := by rw [beq_eq_false_iff_ne]; omega
        have hn1 : ((n : Int) == 1) = true := by rw [show (n : Int) = 1 by omega]; rfl
        clear hjj hAO
        go_wp2_with fail
        rw [← unhide HW10]
        go_wp2_with fail
        refine Calls.mono (unhide HJ10) ?_
        rintro e w11 ⟨t11, rfl, _, b11⟩
        have HB11 := hide ((unhide HB10).trans (b11.mono (unhide HB10).size))
        clear b11
        go_wp2
        go_ret
        exact ⟨rfl, unhide HB11⟩
    · have hkm' : (m : Int) ≤ k := by omega
      have h11 : ((11 : Int) == 11) = true := rfl
      go_wp2
      go_ret
      exact ⟨rfl, unhide HB8⟩

theorem walk_FrameMixed (a0 : Int) (w0 : (Lit.int .u64 a0).wf = true) (a1 : Int) (w1 : (Lit.int .u64 a1).wf = true) (s2 : Value) (b2 : List UInt8) (a3 : Int) (w3 : (Lit.int .u64 a3).wf = true) (a4 : Int) (w4 : (Lit.int .u64 a4).wf = true) (s5 : Value) (b5 : List UInt8) (a6 : Int) (_w6 : (Lit.int .i64 a6).wf = true) (w : World) (h2 : Row w s2 b2) (_room2 : b2.length ≤ 140737488351232) (h5 : Row w s5 b5) (_room5 : b5.length ≤ 140737488351232) :
    Calls Try.prog 7 #[.int .u64 a0, .int .u64 a1, s2, .int .u64 a3, .int .u64 a4, s5, .int .i64 a6] w fun e w' => e = .returned (.bool true) ∧ Below w.heap.size w w' := by
  have hb0 := bounds_u64 w0
  have hb1 := bounds_u64 w1
  have hb3 := bounds_u64 w3
  have hb4 := bounds_u64 w4
  obtain ⟨A, rfl⟩ := Int.eq_ofNat_of_zero_le hb0.1
  obtain ⟨C, rfl⟩ := Int.eq_ofNat_of_zero_le hb1.1
  obtain ⟨O, rfl⟩ := Int.eq_ofNat_of_zero_le hb3.1
  obtain ⟨T, rfl⟩ := Int.eq_ofNat_of_zero_le hb4.1
  by_cases h : 8192 < b2.length ∨ 8192 < b5.length
  · exact fmixed_large A C O T (by omega) (by omega) (by omega) (by omega) s2 b2 s5 b5 a6 w h2 h5 h
  · exact fmixed_ok A C O T (by omega) (by omega) (by omega) (by omega) s2 b2 s5 b5 a6 w h2 h5 (fun h' => h (Or.inl h')) (fun h' => h (Or.inr h'))
end Go.Proofs.Ytpiekbjpnifjlaa
