/- The walk of the law WordRows, out of the contracts of Text, ReadText, Bytes and awake. -/
import Derived.Test.YtjcemodfpcohgaaRowsPlain
import Derived.Test.YtjcemodfpcohgaaLists
import Derived.Test.YtjcemodfpcohgaaText
import Derived.Test.YtjcemodfpcohgaaBytes
namespace Go.Proofs.Ytjcemodfpcohgaa
open Go.RowKit

theorem join_le (ls : List (List UInt8)) : (join ls).length ≤ 10 * tot ls := by
  induction ls with
  | nil => simp [join, tot]
  | cons t r ih =>
    have h := (txt_len t).2
    simp only [join, tot, List.flatMap_cons, List.length_append, List.map_cons, List.sum_cons] at ih ⊢
    omega
theorem join_take_le (ls : List (List UInt8)) (k : Nat) : (join (ls.take k)).length ≤ (join ls).length := by
  have h : join ls = join (ls.take k) ++ join (ls.drop k) := by rw [← join_append, List.take_append_drop]
  rw [h, List.length_append]
  omega
theorem tot_get (ls : List (List UInt8)) (k : Nat) (h : k < ls.length) : ls[k].length + 1 ≤ tot ls := by
  induction ls generalizing k with
  | nil => simp at h
  | cons t r ih =>
    cases k with
    | zero => simp [tot]
    | succ k =>
      have := ih k (by simpa using h)
      simp only [tot, List.map_cons, List.sum_cons, List.getElem_cons_succ] at this ⊢
      omega
theorem tot_len (ls : List (List UInt8)) : ls.length ≤ tot ls := by
  induction ls with
  | nil => simp
  | cons t r ih => simp only [tot, List.map_cons, List.sum_cons, List.length_cons] at ih ⊢; omega

theorem Row.take {w : World} {p : Option Addr} {l c m : Nat} {bs : List UInt8} (h : Row w (.slice p l c) bs) (hm : m ≤ l) : Row w (.slice p m c) (bs.take m) := by
  obtain ⟨a, cap, e, h1, h2, h3, h4⟩ := h
  simp only [Value.slice.injEq] at e
  obtain ⟨rfl, rfl, rfl⟩ := e
  have hl : (bs.take m).length = m := by simp; omega
  refine ⟨p, c, by rw [hl], by rw [hl]; omega, h2, h3, ?_⟩
  rcases h4 with rfl | ⟨b, off, ha, hc⟩
  · exact Or.inl (by simp)
  · refine Or.inr ⟨b, off, ha, fun j hj => ?_⟩
    rw [hc j (by omega)]
    simp
theorem Row.cap {w : World} {p : Option Addr} {l c : Nat} {bs : List UInt8} (h : Row w (.slice p l c) bs) : l ≤ c ∧ c ≤ 9223372036854775807 := by
  obtain ⟨a, cap, e, h1, h2, h3, h4⟩ := h
  unfold maxLen at h2
  simp only [Value.slice.injEq] at e
  obtain ⟨rfl, rfl, rfl⟩ := e
  exact ⟨h1, by omega⟩

theorem cut_mod (x : Int) (n : Nat) (h1 : 1 ≤ n) (h2 : n ≤ 10485760) : ∃ c : Nat, wrap64 ((IntKind.u64.wrap x).tmod (n : Int)) = (c : Int) ∧ c < n := by
  have h0 : 0 ≤ IntKind.u64.wrap x := by rw [IntKind.wrap_u64]; omega
  have h3 := Int.tmod_nonneg (n : Int) h0
  have h4 := Int.tmod_lt_of_pos (IntKind.u64.wrap x) (show (0 : Int) < n by omega)
  generalize (IntKind.u64.wrap x).tmod (n : Int) = y at h3 h4
  rw [IntWalk.wrap64_in y ⟨by omega, by omega⟩]
  exact ⟨y.toNat, by omega, by omega⟩

set_option maxRecDepth 100000 in
set_option maxHeartbeats 4000000 in
theorem rows_many (b0 off c : Nat) (ls : List (List UInt8)) (cut : Int) (w : World) (hne : ls ≠ []) (hlc : ls.length ≤ c) (hcm : c ≤ 9223372036854775807) (htot : tot ls ≤ 1048576)
    (hcell : ∀ j (h : j < ls.length), ∃ v, w.cell? ⟨b0, off + j, none⟩ = some v ∧ Row w v ls[j]) :
    Calls Try.prog 8 #[.slice (some ⟨b0, off, none⟩) ls.length c, .int .i64 cut] w fun e w' => e = .returned (.bool true) ∧ Below w.heap.size w w' := by
  obtain ⟨i0, hi, hz0, hz1, hz2⟩ := info_parts Try.info5
  have HC := hide hcell
  have htl := tot_len ls
  have hjl := join_le ls
  have hlen0 : 0 < ls.length := List.length_pos_iff.2 hne
  clear hcell hne
  go_enter Try.func8, Try.ntmps8
  go_wp2
  go_loopw [5, 6] (fun t i wr => ∃ k : Nat, k ≤ ls.length ∧ i = .int .i64 k ∧ wr.ownsRow w.heap.size 5 1 t (join (ls.take k)).length ((join (ls.take k)).map B) ∧ Below w.heap.size w wr)
    (fun _ i _ => ls.length - (intOf i).toNat)
  case atStart => exact ⟨0, Nat.zero_le _, rfl, by simpa [join] using World.ownsRow_nil _ _ _ _, Below.refl _ _⟩
  case round =>
    obtain ⟨k, hk, rfl, hown, hnx⟩ := hrel
    have hsz := hnx.size
    by_cases hlt : k < ls.length
    · obtain ⟨v, hv, hr⟩ := unhide HC k hlt
      have hvr : wr.cell? ⟨b0, off + k, none⟩ = some v := (hnx.cell (World.block_lt_of_cell? w _ hv)).trans hv
      have HRr := hide (hr.below hnx)
      have htk := tot_get ls k hlt
      have HJ := hide (join_succ ls k hlt)
      have hjk := join_take_le ls (k + 1)
      rw [unhide HJ, List.length_append] at hjk
      have HO := hide hown
      clear hv hr hown
      go_wp2_with fail
      refine (text_any v ls[k] wr (unhide HRr) (by omega)).mono ?_
      rintro e w2 ⟨t2, rfl, hown2, hb2⟩
      have hrow2 := row_of_owns hown2
      have hownb := owns_below (unhide HO) hb2
      have hb2w : Below w.heap.size w w2 := hnx.trans (hb2.mono hsz)
      have hsz2 := hb2w.size
      clear hown2 HO HRr
      go_wp2_with (at_builtin; refine wpList_append_row rfl _ _ 22 rfl w.heap.size 5 i0 (.int .u8 0) Try.underlying22 hi hz0 hz1 hz2 rfl _ _ _ rfl hownb _ (txt ls[k]) rfl hrow2 (by omega) hsz2 ?_)
      intro v3 w3 hown3 hgrow3
      have hb3 : Below w.heap.size w w3 := hb2w.grown hgrow3 hsz2 (fun j hj => (hownb.lt j hj).1)
      have HO3 : Hid (w3.ownsRow w.heap.size 5 1 v3 (join (ls.take (k + 1))).length ((join (ls.take (k + 1))).map B)) := by
        unfold Hid
        rw [unhide HJ, List.length_append, List.map_append]
        exact hown3
      clear hown3 hgrow3 hownb hrow2
      go_wp2
      go_roundw
      case rel => exact ⟨k + 1, by omega, by go_num, HO3.out, hb3⟩
      case measure => simp [intOf]; omega
    · have hkn : k = ls.length := by omega
      subst hkn
      rw [List.take_of_length_le (Nat.le_refl _)] at hown
      have HOJ := hide (row_of_owns hown)
      obtain ⟨pJ, cJ, lJ, rfl, hlJ⟩ := (row_of_owns hown).shape
      have HLJ := hide hlJ
      clear hown hlJ
      go_wp2_with fail
      refine (awake_any wr).mono ?_
      rintro e w4 ⟨rfl, hb4⟩
      have B4 : Below w.heap.size w w4 := hnx.trans (hb4.mono hsz)
      have HJ4 := hide ((unhide HOJ).below hb4)
      clear HOJ hnx hb4
      go_wp2_with fail
      go_loopw [7, 8] (fun t i wr => ∃ k : Nat, k ≤ ls.length ∧ i = .int .i64 k ∧ t = .int .i64 ((join (ls.take k)).length : Nat) ∧ Below w4.heap.size w4 wr)
        (fun _ i _ => ls.length - (intOf i).toNat)
      case atStart => exact ⟨0, Nat.zero_le _, rfl, rfl, Below.refl _ _⟩
      case round =>
        obtain ⟨k, hk, rfl, rfl, hnx'⟩ := hrel
        have B5 : Below w.heap.size w wr := B4.trans (hnx'.mono B4.size)
        by_cases hlt : k < ls.length
        · obtain ⟨v, hv, hr⟩ := unhide HC k hlt
          have hvr : wr.cell? ⟨b0, off + k, none⟩ = some v := (B5.cell (World.block_lt_of_cell? w _ hv)).trans hv
          have HRr := hide (hr.below B5)
          have htk := tot_get ls k hlt
          have hT := (txt_len ls[k]).1
          have hjk := join_take_le ls (k + 1)
          have hJs := join_succ ls k hlt
          obtain ⟨q1, q2, q3⟩ := text_read (join (ls.take k)) ls[k] (join (ls.drop (k + 1))) (lJ : Int) (by omega) (by have := unhide HLJ; rw [hJs, List.length_append] at hjk; omega)
          rw [← join_split ls k hlt] at q1 q2 q3
          have HRT := readtext_any _ (join ls) ((join (ls.take k)).length : Nat) (lJ : Int) wr ((unhide HJ4).below hnx') (by omega) (by have := unhide HLJ; omega)
          rw [q1, q2, q3] at HRT
          obtain ⟨N2, hN2⟩ : ∃ N2, (join (ls.take k)).length + (txt ls[k]).length = N2 := ⟨_, rfl⟩
          have HN2 : Hid (N2 = (join (ls.take (k + 1))).length) := by unfold Hid; rw [hJs, List.length_append]; exact hN2.symm
          rw [hN2] at HRT
          have HRT' := hide HRT
          have hlt2 : (join (ls.take k)).length < N2 := by omega
          have d1 : decide (N2 ≤ (join (ls.take k)).length) = false := by simp; omega
          have hN2b : N2 ≤ 10485760 := by have := unhide HN2; omega
          clear hv hr hjk hJs q1 q2 q3 HRT hN2 htk hT
          generalize (join (ls.take k)).length = P at *
          go_wp2_with fail
          refine Calls.mono (unhide HRT') ?_
          rintro e w6 ⟨t6, rfl, hown6, hb6⟩
          have R6 := hide (row_of_owns hown6)
          have hvr6 : w6.cell? ⟨b0, off + k, none⟩ = some v := (hb6.cell (World.block_lt_of_cell? wr _ hvr)).trans hvr
          have HRr6 := hide ((unhide HRr).below hb6)
          clear hown6 HRT' HRr hvr
          go_wp2_with fail
          refine (bytes_any _ _ ls[k] ls[k] w6 (unhide R6) (unhide HRr6)).mono ?_
          rintro e w6 ⟨rfl, rfl⟩
          rw [show (ls[k] == ls[k]) = true by simp]
          go_wp2
          go_roundw
          case rel => exact ⟨k + 1, by omega, by go_num, by rw [unhide HN2], hnx'.trans (hb6.mono hnx'.size)⟩
          case measure => simp [intOf]; omega
        · have hkn : k = ls.length := by omega
          subst hkn
          rw [List.take_of_length_le (Nat.le_refl _), unhide HLJ]
          obtain ⟨v, hv, hr⟩ := unhide HC (ls.length - 1) (by omega)
          have hvr : wr.cell? ⟨b0, off + (ls.length - 1), none⟩ = some v := (B5.cell (World.block_lt_of_cell? w _ hv)).trans hv
          have htk := tot_get ls (ls.length - 1) (by omega)
          have HT := hide (text_any v ls[ls.length - 1] wr (hr.below B5) (by omega))
          have hsp := join_split ls (ls.length - 1) (by omega)
          rw [show ls.length - 1 + 1 = ls.length by omega, List.drop_of_length_le (Nat.le_refl _)] at hsp
          have hsp' : join ls = join (ls.take (ls.length - 1)) ++ txt ls[ls.length - 1] := by rw [hsp]; simp [join]
          have hlen' : (join (ls.take (ls.length - 1))).length + (txt ls[ls.length - 1]).length = lJ := by rw [← unhide HLJ, hsp', List.length_append]
          have htl2 := txt_len ls[ls.length - 1]
          have HSP := hide hsp'
          have HLEN := hide hlen'
          have hlJ : lJ ≤ 10485760 := by have := unhide HLJ; omega
          have hlJT : (txt ls[ls.length - 1]).length ≤ lJ := by omega
          have hne0 : ((ls.length : Int) == 0) = false := by rw [beq_eq_false_iff_ne]; omega
          have hge1 : (1 : Int) ≤ ls.length := by omega
          clear hsp hsp' hlen' hv hr
          generalize ls[ls.length - 1] = last at *
          go_wp2_with fail
          refine Calls.mono (unhide HT) ?_
          rintro e w7 ⟨t7, rfl, hown7, hb7⟩
          obtain ⟨p7, c7, l7, rfl, hl7⟩ := (row_of_owns hown7).shape
          have hl7' : (txt last).length = l7 := hl7
          have HL7 := hide hl7'
          have HR7 := hide ((unhide HJ4).below (hnx'.trans (hb7.mono hnx'.size)))
          have B7 : Below w.heap.size w w7 := B5.trans (hb7.mono B5.size)
          rw [hl7'] at hlJT htl2
          obtain ⟨cc, hcc, hcl⟩ := cut_mod cut l7 (by omega) (by omega)
          have hJc := (unhide HJ4).cap
          have hpre : ((lJ : Int) - l7) = ((join (ls.take (ls.length - 1))).length : Nat) := by have := unhide HLEN; omega
          have hrowS : Row w7 (.slice pJ (lJ - 1 - cc) cJ) (join (ls.take (ls.length - 1)) ++ (txt last).take (l7 - 1 - cc)) := by
            have h := (unhide HR7).take (m := lJ - 1 - cc) (by omega)
            rw [unhide HSP, List.take_append, List.take_of_length_le (by have := unhide HLEN; omega)] at h
            have e : lJ - 1 - cc - (join (ls.take (ls.length - 1))).length = l7 - 1 - cc := by have := unhide HLEN; omega
            rw [e] at h
            exact h
          have hRT := readtext_any _ _ ((join (ls.take (ls.length - 1))).length : Nat) (lJ : Int) w7 hrowS (by simp; have := unhide HLEN; omega) (by omega)
          rw [text_cut _ last (l7 - 1 - cc) (lJ : Int) (by omega) (by omega) (by omega), ← hpre] at hRT
          have HRT := hide hRT
          clear hown7 hl7 hl7' HT hvr hpre hrowS hRT
          have hi1 : (cc : Int) ≤ lJ - 1 := by omega
          have hi2 : (lJ : Int) - 1 - cc ≤ cJ := by omega
          go_wp2_with fail
          refine Calls.mono (unhide HRT) ?_
          rintro e w8 ⟨t8, rfl, _, hb8⟩
          go_wp2
          go_ret
          exact ⟨rfl, B7.trans (hb8.mono B7.size)⟩

set_option maxRecDepth 100000 in
theorem rows_none (a : Option Addr) (c : Nat) (cut : Int) (w : World) :
    Calls Try.prog 8 #[.slice a 0 c, .int .i64 cut] w fun e w' => e = .returned (.bool true) ∧ Below w.heap.size w w' := by
  go_enter Try.func8, Try.ntmps8
  go_wp2
  refine wp_loop_rounds 1 ?_
  rw [rounds_succ]
  go_wp2_with fail
  refine (awake_any w).mono ?_
  rintro e w1 ⟨rfl, hb1⟩
  go_wp2
  refine wp_loop_rounds 1 ?_
  rw [rounds_succ]
  go_wp2
  go_ret
  exact ⟨rfl, hb1⟩

theorem walk_WordRows (s : Value) (ls : List (List UInt8)) (a1 : Int) (_w1 : (Lit.int .i64 a1).wf = true) (w : World) (hs : Rows2 w s ls) (htot : tot ls ≤ 1048576) :
    Calls Try.prog 8 #[s, .int .i64 a1] w fun e w' => e = .returned (.bool true) ∧ Below w.heap.size w w' := by
  obtain ⟨a, cap, rfl, h1, h2, h3, h4⟩ := hs
  unfold maxLen at h2
  by_cases hne : ls = []
  · subst hne
    exact rows_none a cap a1 w
  · rcases h4 with h4 | ⟨b, off, rfl, hc⟩
    · exact absurd h4 hne
    · exact rows_many b off cap ls a1 w hne h1 (by omega) htot hc
end Go.Proofs.Ytjcemodfpcohgaa
