/- Texts of ours, one behind the other: PlOwn3, PlOwn4, PlOwn5. -/
import Derived.Test.YtehafkbndjifaaaG14
import Derived.Test.YtehafkbndjifaaaG15
import Derived.Test.YtehafkbndjifaaaG19
/- Package plain as landed: copied, Bytes. -/
namespace Go.Proofs.Ytehafkbndjifaaa
open Go.RowKit

set_option maxRecDepth 20000 in
set_option maxHeartbeats 4000000 in
theorem copied_any (v : Value) (L : List El) (w : World) (h : EL 2 prC w v L) (hroom : L.length * 40 ≤ 140737488355328) (hv : ∀ x ∈ L, x.2.length ≤ 140737488351232) :
    Calls Try.prog 39 #[v] w fun e w' => ∃ v' L', e = .returned v' ∧ pdat L' = pdat L ∧ OO 37 2 prC w' w.heap.size v' L' ∧ Below w.heap.size w w' := by
  by_cases h0 : L.length = 0
  · obtain ⟨p1, c1, rfl, _⟩ := h.shape
    obtain rfl : L = [] := List.eq_nil_of_length_eq_zero h0
    go_enter Try.func39, Try.ntmps39
    go_wp2
    refine wp_loop_rounds 1 ?_
    rw [rounds_succ]
    go_wp2
    go_ret
    exact ⟨_, [], rfl, rfl, OO.nil _ _ _ _ _, Below.refl _ _⟩
  obtain ⟨b1, o1, c1, rfl, k1, k2, hsn⟩ := h.seenP (by omega)
  obtain ⟨l, hl⟩ : ∃ l, l = L.length := ⟨_, rfl⟩
  rw [← hl] at k1 ⊢
  unfold maxLen at k2
  have hl0 : (l : Int) ≤ 9223372036854775807 := by omega
  obtain ⟨i0, hi, hz0, hz1, hz2⟩ := info_parts Try.info37
  have HST := hide hsn
  have HVL := hide hv
  have HLN := hide hl
  have HRM := hide hroom
  clear h hsn k1 k2 hl h0 hv hroom
  go_enter Try.func39, Try.ntmps39
  go_wp2
  go_loopw [3, 8] (fun ov i wr => ∃ (k : Nat) (L' : List El), k ≤ l ∧ i = .int .i64 k ∧ L'.length = k ∧ Hid (pdat L' = (pdat L).take k ∧ OO 37 2 prC wr w.heap.size ov L' ∧ Below w.heap.size w wr)) (fun _ i _ => l - (intOf i).toNat)
  case atStart => exact ⟨0, [], Nat.zero_le _, rfl, rfl, rfl, OO.nil _ _ _ _ _, Below.refl _ _⟩
  case round =>
    obtain ⟨k, L', hk, rfl, hkl, hst⟩ := hrel
    obtain ⟨hd, hoo, hb⟩ := unhide hst
    obtain ⟨vp, vc, hve⟩ := hoo.1.shape
    rw [hkl] at hve
    subst hve
    have HKL := hide hkl
    have HOW := hide hoo.1.1
    rw [hkl] at HOW
    clear hkl
    by_cases hlt : (k : Int) < (l : Int)
    · have hl := unhide HLN
      have hrm := unhide HRM
      have hkL : k < L.length := by omega
      obtain ⟨a1, a2, _⟩ := unhide HST k hkL wr hb
      have hdl := unhide HVL _ (List.getElem_mem hkL)
      have hdk : (pdat L).take (k + 1) = (pdat L).take k ++ [(L[k].1.key, L[k].2)] := by
        rw [List.take_succ_eq_append_getElem (by rw [pdat_len]; exact hkL), pdat_get L k hkL]
      have HSW := hide (fun W hW => unhide HST k hkL W hW)
      generalize L[k] = x at *
      obtain ⟨⟨ak, ap, an, ac, ad⟩, av⟩ := x
      unfold vof at *
      simp only at *
      obtain ⟨W1, hW1⟩ : ∃ W1, W1 = wr.alloc (.cells #[.string ak, .slice ap an ac] 37) := ⟨_, rfl⟩
      have hb1 : Below wr.heap.size wr W1 := by rw [hW1]; exact (Below.refl _ _).alloc (Nat.le_refl _) _
      have hbd : Below wr.heap.size wr W1.drew := hb1.drew
      have hn5 : W1.drew.cell? ⟨wr.heap.size, 0, none⟩ = some (.string ak) := by
        show W1.cell? _ = _
        rw [hW1]; simp
      have hn6 : W1.drew.cell? ⟨wr.heap.size, 1, none⟩ = some (.slice ap an ac) := by
        show W1.cell? _ = _
        rw [hW1]; simp
      have hbw := hb.trans (hbd.mono hb.size)
      have hcb := clone_any _ _ W1.drew (unhide HSW W1.drew hbw).2.2 hdl
      have hsz1 : wr.heap.size ≤ W1.drew.heap.size := hbd.size
      have HCH : Hid (Calls Try.prog 34 #[.slice ap an ac] W1.drew fun e w5 => ∃ tp tn tc, e = .returned (.slice tp tn tc) ∧ w5.cell? ⟨wr.heap.size, 0, none⟩ = some (.string ak) ∧ Hid (Mine w5 wr.heap.size (.slice tp tn tc) av ∧ Below wr.heap.size wr w5)) := by
        refine hcb.mono ?_
        rintro e w5 ⟨t, rfl, ho5, hb5⟩
        obtain ⟨tp, tn, tc, rfl⟩ := mine_opv ho5
        exact ⟨tp, tn, tc, rfl, (hb5.cell (World.block_lt_of_cell? W1.drew _ hn5)).trans hn5, ho5.base hsz1, hbd.trans (hb5.mono hsz1)⟩
      have HA := hide (And.intro hd (And.intro hoo (And.intro hb hdk)))
      have hsz : w.heap.size ≤ wr.heap.size := hb.size
      have HW1 := hide hW1
      clear hd hoo hb hl hrm hkL hdl hcb hdk hst hW1 hb1 hbd hbw hsz1
      go_wp2_with fail
      rw [← unhide HW1]
      go_region_law (first
        | (go_simp; go_at_call 34; refine Calls.mono (unhide HCH) ?_; rintro x w5 ⟨tp, tn, tc, rfl, y0, HB6⟩; dsimp only)
        | (refine step_append_gen rfl _ _ 22 rfl w.heap.size 37 i0 (.agg #[.string ⟨#[]⟩, .slice none 0 0]) Try.underlying22 hi hz0 2 40 (by omega) hz1 hz2 rfl (.slice vp k vc) k (elC prC L') (by simp [Act.eval]) (World.ownsRow.alloc (owns_below4 (unhide HOW) (unhide HB6).2) _) ⟨w5.heap.size, 0, none⟩ 1 (prC ⟨ak, tp, tn, tc, false⟩) (by simp [Act.eval]) rfl (by intro j u hj; match j, hj with | 0, hj => (simp [prC] at hj; subst hj; simp [Addr.add]) | 1, hj => (simp [prC] at hj; subst hj; simp [Addr.add])) (prC_one _) (by have h9 := unhide HLN; have h8 := unhide HRM; unfold maxLen; omega) (by have h9 := unhide HLN; have h8 := unhide HRM; omega) (by have h9 := (unhide HB6).2.size; simp; omega) ?_; intro v2 w6 hown6 hgrow6 hob6; have hmr := OO.push (x := (⟨ak, tp, tn, tc, false⟩, av)) (unhide HA).2.1 ((unhide HB6).2.alloc (by have h9 := (unhide HB6).2.size; omega) _) ((unhide HB6).1.below ((Below.refl _ _).alloc (Nat.le_refl _) _)) hsz (by rw [unhide HKL]; exact hown6) hgrow6 hob6; have hbw := ((unhide HA).2.2.1.trans (((unhide HB6).2.alloc (by have h9 := (unhide HB6).2.size; omega) _).mono hsz)).grown hgrow6 (by have h9 := (unhide HB6).2.size; simp; omega) (fun q hq => ((unhide HA).2.1.1.1.lt q hq).1); have HJ := hide (And.intro hmr hbw); clear hmr hbw; rcases hown6.2 with ⟨_, hz9⟩ | ⟨g2, cap2, cur2, e2, _⟩; (exact absurd hz9 (by omega)); subst e2; clear hown6 hgrow6 hob6))
      all_goals
        go_wp2
        go_roundw
        case rel =>
          obtain ⟨hd, _, _, hdk⟩ := unhide HA
          refine ⟨k + 1, L' ++ [(⟨ak, tp, tn, tc, false⟩, av)], by omega, by go_num, by rw [List.length_append, unhide HKL]; rfl, ?_, (unhide HJ).1, (unhide HJ).2⟩
          rw [hdk, pdat_app, hd]
          rfl
        case measure => simp [intOf]; omega
    · have hlk : k = l := by omega
      have HA := hide (And.intro hd (And.intro hoo (And.intro hb hlk)))
      clear hd hoo hb hlk hst
      go_wp2
      go_ret
      obtain ⟨hd, hoo, hb, hlk⟩ := unhide HA
      refine ⟨_, rfl, L', ?_, hoo, hb⟩
      rw [hd, hlk, unhide HLN, ← pdat_len, List.take_length]

set_option maxRecDepth 20000 in
set_option maxHeartbeats 2000000 in
theorem pbytes_any (v : Value) (L : List El) (w : World) (h : EL 2 prC w v L) (hroom : L.length * 40 ≤ 140737488355328) :
    Calls Try.prog 19 #[v] w fun e w' => e = .returned (.int .i64 (if rightD (pdat L) then (bytesP (pdat L) : Int) else 0)) ∧ Below w.heap.size w w' := by
  have HCK := hide (pcheck_any v L w h)
  cases hR : rightD (pdat L) with
  | false =>
    rw [hR] at HCK
    obtain ⟨p1, c1, rfl, _⟩ := h.shape
    clear h
    go_enter Try.func19, Try.ntmps19
    go_wp2_with (go_at_call 15; refine Calls.mono (unhide HCK) ?_; rintro e w2 ⟨rfl, hb2⟩; have HB2 := hide hb2; clear hb2)
    go_ret
    exact ⟨rfl, unhide HB2⟩
  | true =>
    rw [hR] at HCK
    have hmy := ((right_iff _).1 hR).2
    have hbd : ∀ x ∈ L, x.1.key.size + x.2.length ≤ 4160 := by
      intro x hx
      have := hmy (x.1.key, x.2) (List.mem_map.2 ⟨x, hx, rfl⟩)
      unfold pmay kmay at this
      simp only [Bool.and_eq_true, decide_eq_true_eq] at this
      omega
    have hsum : ∀ k, k ≤ L.length → bytesP ((pdat L).take k) ≤ k * 4160 := by
      intro k
      induction k with
      | zero => intro _; simp [bytesP]
      | succ k ih =>
        intro hk
        rw [bytesP_take _ k (by rw [pdat_len]; omega), pdat_get L k (by omega)]
        have a := ih (by omega)
        have b := hbd _ (List.getElem_mem (show k < L.length by omega))
        simp only
        omega
    by_cases h0 : L.length = 0
    · obtain ⟨p1, c1, rfl, _⟩ := h.shape
      obtain rfl : L = [] := List.eq_nil_of_length_eq_zero h0
      clear h
      go_enter Try.func19, Try.ntmps19
      go_wp2_with (go_at_call 15; refine Calls.mono (unhide HCK) ?_; rintro e w2 ⟨rfl, hb2⟩; have HB2 := hide hb2; clear hb2)
      refine wp_loop_rounds 1 ?_
      rw [rounds_succ]
      go_wp2
      go_ret
      exact ⟨rfl, unhide HB2⟩
    obtain ⟨b1, o1, c1, rfl, k1, k2, hsn⟩ := h.seenP (by omega)
    obtain ⟨l, hl⟩ : ∃ l, l = L.length := ⟨_, rfl⟩
    rw [← hl] at k1 HCK ⊢
    unfold maxLen at k2
    have hl0 : (l : Int) ≤ 9223372036854775807 := by omega
    have HSN := hide hsn
    have HLN := hide (And.intro hl hroom)
    have HBD := hide (And.intro hbd hsum)
    obtain ⟨N, hN⟩ : ∃ N, N = bytesP (pdat L) := ⟨_, rfl⟩
    rw [← hN]
    have HN := hide hN
    simp only [if_true] at HCK ⊢
    clear h hsn k1 k2 hl h0 hN hR hmy hbd hsum hroom
    go_enter Try.func19, Try.ntmps19
    go_wp2_with (go_at_call 15; refine Calls.mono (unhide HCK) ?_; rintro e w2 ⟨rfl, hb2⟩; have HB2 := hide hb2; clear hb2)
    go_loopw [3, 11] (fun s i wr => ∃ k n : Nat, k ≤ l ∧ i = .int .i64 k ∧ s = .int .i64 n ∧ Hid (n = bytesP ((pdat L).take k) ∧ Below w.heap.size w wr)) (fun _ i _ => l - (intOf i).toNat)
    case atStart => exact ⟨0, 0, Nat.zero_le _, rfl, rfl, by simp [bytesP], unhide HB2⟩
    case round =>
      obtain ⟨k, n, hk, rfl, rfl, hst⟩ := hrel
      obtain ⟨hn, hb⟩ := unhide hst
      by_cases hlt : (k : Int) < (l : Int)
      · obtain ⟨hl, hroom⟩ := unhide HLN
        have hkL : k < L.length := by omega
        obtain ⟨a1, a2, ar⟩ := unhide HSN k hkL wr hb
        have hkz := (unhide HBD).1 _ (List.getElem_mem hkL)
        have hs0 := (unhide HBD).2 k (by omega)
        have hst' := bytesP_take (pdat L) k (by rw [pdat_len]; exact hkL)
        rw [pdat_get L k hkL] at hst'
        obtain ⟨rn, rl⟩ := row_n ar
        generalize L[k] = x at *
        obtain ⟨⟨ak, ap, an, ac, ad⟩, av⟩ := x
        unfold vof at *
        simp only at *
        subst rn
        have hl1 : (av.length : Int) ≤ 9223372036854775807 := by omega
        have w1 : IntKind.i64.wrap ((ak.size : Int) + (av.length : Int)) = ((ak.size + av.length : Nat) : Int) := by rw [IntKind.wrap_i64]; omega
        have w2 : IntKind.i64.wrap ((n : Int) + ((ak.size + av.length : Nat) : Int)) = ((n + (ak.size + av.length) : Nat) : Int) := by rw [IntKind.wrap_i64]; omega
        have w3 : IntKind.i64.wrap ((n : Int) + ((ak.size : Int) + (av.length : Int))) = ((n + (ak.size + av.length) : Nat) : Int) := by rw [IntKind.wrap_i64]; omega
        have HA := hide (And.intro hn (And.intro hst' hb))
        clear hn hb hkL ar hkz hst' rl hst hl hroom hs0
        go_wp2
        obtain ⟨hn, hst', hb⟩ := unhide HA
        go_roundw
        case rel => exact ⟨k + 1, n + (ak.size + av.length), by omega, by go_num, by first | rfl | (congr 1; omega), by rw [hst']; omega, hb.alloc hb.size _⟩
        case measure => simp [intOf]; omega
      · have HA := hide (And.intro hn hb)
        clear hn hb hst
        go_wp2
        go_ret
        obtain ⟨hn, hb⟩ := unhide HA
        refine ⟨?_, hb⟩
        have e : n = N := by
          rw [unhide HN, hn]
          have hkl : k = L.length := by have := (unhide HLN).1; omega
          rw [hkl, ← pdat_len, List.take_length]
        subst e
        rfl
end Go.Proofs.Ytehafkbndjifaaa

/- Package plain as landed: Get, Scan. -/
namespace Go.Proofs.Ytehafkbndjifaaa
open Go.RowKit

theorem look_plc {l : List Pd} (h : SP l) (k : List UInt8) : look l k = match l[plc l k]? with | some x => (if kP x = k then some x.2 else none) | none => none := by
  obtain ⟨A, B, hl, hA, hB, hlen, sA, sB, a1, b1, ab⟩ := plc_parts h k
  have hat : l[plc l k]? = B.head? := by rw [hB, List.head?_drop]
  have lA : look A k = none := look_none fun x hx => tl_ne (a1 x hx)
  rw [hat]
  conv => lhs; rw [hl, look_app, lA]
  cases B with
  | nil => rfl
  | cons b B =>
    simp only [List.head?_cons, Option.none_or, look_cons]
    by_cases hk : kP b = k
    · rw [if_pos hk, if_pos hk]
    · rw [if_neg hk, if_neg hk]
      obtain ⟨hb1, hb2⟩ := List.pairwise_cons.1 sB
      have hkb : tl k (kP b) = true := by
        cases ht : tl k (kP b) with
        | true => rfl
        | false => exact absurd (tl_total _ _ (b1 b (by simp)) ht) hk
      exact look_none fun x hx => (tl_ne (tl_trans _ _ _ hkb (hb1 x hx))).symm
/-- What Get answers. -/
def getR (l : List Pd) (k : List UInt8) : Option (List UInt8) := if rightD l then look l k else none

set_option maxRecDepth 20000 in
set_option maxHeartbeats 4000000 in
theorem pget_any (v : Value) (L : List El) (key : ByteArray) (w : World) (h : EL 2 prC w v L) (hsz : L.length < 4611686018427387904) (hv : ∀ x ∈ L, x.2.length ≤ 140737488351232) :
    Calls Try.prog 11 #[v, .string key] w fun e w' => ∃ t, e = .returned (.tuple #[t, .bool (getR (pdat L) key.toList).isSome]) ∧ Mine w' w.heap.size t ((getR (pdat L) key.toList).getD []) ∧ Below w.heap.size w w' := by
  have HCK := hide (pcheck_any v L w h)
  cases hR : rightD (pdat L) with
  | false =>
    have hG : getR (pdat L) key.toList = none := by unfold getR; rw [hR]; rfl
    rw [hG]
    rw [hR] at HCK
    obtain ⟨p1, c1, rfl, _⟩ := h.shape
    clear h hG
    go_enter Try.func11, Try.ntmps11
    go_wp2_with (go_at_call 15; refine Calls.mono (unhide HCK) ?_; rintro e w2 ⟨rfl, hb2⟩; have HB2 := hide hb2; clear hb2)
    go_ret2
    exact ⟨_, rfl, mine_nil _ _, unhide HB2⟩
  | true =>
    rw [hR] at HCK
    simp only [if_true] at HCK
    have hsp := SP.of hR
    have hG : getR (pdat L) key.toList = look (pdat L) key.toList := by unfold getR; rw [hR]; rfl
    rw [hG]
    have hlk := look_plc hsp key.toList
    have HFD := hide (fun W hW => find_any v L key W (h.below hW) hsp hsz)
    have hn := elN h
    obtain ⟨N, hN⟩ : ∃ N, N = plc (pdat L) key.toList := ⟨_, rfl⟩
    rw [← hN] at hlk HFD
    by_cases hlt : N < L.length
    · have e1 : (pdat L)[N]? = some (L[N].1.key, L[N].2) := by rw [List.getElem?_eq_getElem (by rw [pdat_len]; exact hlt), pdat_get L N hlt]
      rw [e1] at hlk HFD
      simp only [Option.any_some] at hlk HFD
      by_cases hk : L[N].1.key.toList = key.toList
      · rw [if_pos hk] at hlk
        obtain ⟨b, o, c, rfl, _, _, hsn⟩ := h.seenP (by omega)
        have HS := hide (fun W hW => hsn N hlt W hW)
        have hdl := hv _ (List.getElem_mem hlt)
        have hT : decide (kP (L[N].1.key, L[N].2) = key.toList) = true := decide_eq_true hk
        rw [hT] at HFD
        rw [hlk]
        have hlt2 : (N : Int) < (L.length : Int) := by omega
        have hl0 : (L.length : Int) ≤ 9223372036854775807 := by omega
        generalize L[N] = x at *
        generalize L.length = l at *
        obtain ⟨⟨ak, ap, an, ac, ad⟩, av⟩ := x
        unfold vof at *
        simp only at *
        have HCL := hide (fun W hW => clone_any (.slice ap an ac) av W (unhide HS W hW).2.2 hdl)
        clear h hsp hsz hn hN hlk hG hsn hlt hk hdl hT hR hv e1
        go_enter Try.func11, Try.ntmps11
        go_wp2_with fail
        refine Calls.mono (unhide HCK) ?_
        rintro e w2 ⟨rfl, hb2⟩
        have HF2 := hide (unhide HFD w2 hb2)
        have HB2 := hide hb2
        clear hb2
        go_wp2_with fail
        refine Calls.mono (unhide HF2) ?_
        rintro e w3 ⟨rfl, hb3⟩
        have HB3 := hide ((unhide HB2).trans (hb3.mono (unhide HB2).size))
        clear hb3
        obtain ⟨c0, c1, _⟩ := unhide HS w3 (unhide HB3)
        go_wp2_with fail
        refine Calls.mono (unhide HCL w3 (unhide HB3)) ?_
        rintro e w4 ⟨t, rfl, hm4, hb4⟩
        obtain ⟨tp, tn, tc, rfl⟩ := mine_opv hm4
        have HB4 := hide (And.intro (hm4.base (unhide HB3).size) ((unhide HB3).trans (hb4.mono (unhide HB3).size)))
        clear hm4 hb4
        go_wp2
        go_ret2
        exact ⟨_, rfl, (unhide HB4).1, (unhide HB4).2⟩
      · rw [if_neg hk] at hlk
        have hF : decide (kP (L[N].1.key, L[N].2) = key.toList) = false := decide_eq_false hk
        rw [hF] at HFD
        rw [hlk]
        obtain ⟨p1, c1, rfl, _⟩ := h.shape
        clear h hsp hsz hn hN hlk hG hlt hk hF hR hv e1
        go_enter Try.func11, Try.ntmps11
        go_wp2_with fail
        refine Calls.mono (unhide HCK) ?_
        rintro e w2 ⟨rfl, hb2⟩
        have HF2 := hide (unhide HFD w2 hb2)
        have HB2 := hide hb2
        clear hb2
        go_wp2_with fail
        refine Calls.mono (unhide HF2) ?_
        rintro e w3 ⟨rfl, hb3⟩
        have HB3 := hide ((unhide HB2).trans (hb3.mono (unhide HB2).size))
        clear hb3
        go_wp2
        go_ret2
        exact ⟨_, rfl, mine_nil _ _, unhide HB3⟩
    · have e1 : (pdat L)[N]? = none := List.getElem?_eq_none (by rw [pdat_len]; omega)
      rw [e1] at hlk HFD
      simp only [Option.any_none] at hlk HFD
      rw [hlk]
      obtain ⟨p1, c1, rfl, _⟩ := h.shape
      clear h hsp hsz hn hN hlk hG hlt hR hv e1
      go_enter Try.func11, Try.ntmps11
      go_wp2_with fail
      refine Calls.mono (unhide HCK) ?_
      rintro e w2 ⟨rfl, hb2⟩
      have HF2 := hide (unhide HFD w2 hb2)
      have HB2 := hide hb2
      clear hb2
      go_wp2_with fail
      refine Calls.mono (unhide HF2) ?_
      rintro e w3 ⟨rfl, hb3⟩
      have HB3 := hide ((unhide HB2).trans (hb3.mono (unhide HB2).size))
      clear hb3
      go_wp2
      go_ret2
      exact ⟨_, rfl, mine_nil _ _, unhide HB3⟩
end Go.Proofs.Ytehafkbndjifaaa

/- Package plain as landed: Scan. -/
namespace Go.Proofs.Ytehafkbndjifaaa
open Go.RowKit

/-- min of two numbers, as a step of a walk. -/
theorem wpList_min2 {P : Program} {w : World} {ops : Array Oper} {rest : List Oper} {o : Oper} {a : Act} {Q : Exit → Act → World → Prop} (hgd : o.guard = none) (x y : Operand) (ts : Array TypeId)
    (ho : o.op = .call { callee := .builtin .min, args := #[x, y], argTypes := ts }) (m R M : Nat) (hx : a.eval x = .int .i64 (m : Int)) (hy : a.eval y = .int .i64 (R : Int)) (hM : M = min m R)
    (h : wpList P ops Q rest (a.put o.dst (.int .i64 (M : Int))) w) : wpList P ops Q (o :: rest) a w := by
  have e : (if (R : Int) < (m : Int) then (R : Int) else (m : Int)) = (M : Int) := by rw [hM]; split <;> omega
  refine wpList_plain hgd fun K hK => ?_
  unfold Oper.wp execOp
  simp only [ho, resolve, invoke, builtin, Sem.run_bind, Sem.run_pure, Result.andThen_ok, List.map_toArray, List.map_cons, List.map_nil, hx, hy, run_min_int2, e]
  exact hK _ _ h

set_option maxRecDepth 20000 in
set_option maxHeartbeats 4000000 in
theorem scanF_any (bl bh br b o c l : Nat) (lo hi ak : ByteArray) (i : Nat) (W : World) (hi0 : (i : Int) < (l : Int)) (_ : (l : Int) ≤ 9223372036854775807)
    (h1 : W.cell? ⟨bl, 0, none⟩ = some (.string lo)) (h2 : W.cell? ⟨bh, 0, none⟩ = some (.string hi)) (h0 : W.cell? ⟨br, 0, none⟩ = some (.slice (some ⟨b, o, none⟩) l c)) (h3 : W.cell? ⟨b, o + i * 2, none⟩ = some (.string ak)) :
    Calls Try.prog 37 #[.int .i64 (i : Int), .pointer (some ⟨bl, 0, none⟩), .pointer (some ⟨bh, 0, none⟩), .pointer (some ⟨br, 0, none⟩)] W fun e w' => e = .returned (.bool (!wi lo.toList hi.toList ak.toList)) ∧ Below W.heap.size W w' := by
  have HLS : Hid (∀ W, Calls Try.prog 38 #[.string lo, .string hi, .string ak] W fun e w' => e = .returned (.bool (wi lo.toList hi.toList ak.toList)) ∧ w' = W) := fun W => kwithin_any lo hi ak W
  generalize wi lo.toList hi.toList ak.toList = TL at *
  obtain ⟨CC, hCC⟩ : ∃ CC : World → Prop, CC = fun w' => Below W.heap.size W w' := ⟨_, rfl⟩
  have HC0 : Hid (CC { W with drawn := W.drawn + 1 }) := by unfold Hid; rw [hCC]; exact (Below.refl _ _).drew
  have HCC : Hid (∀ w', CC w' → w'.cell? ⟨bl, 0, none⟩ = some (.string lo) ∧ w'.cell? ⟨bh, 0, none⟩ = some (.string hi) ∧ w'.cell? ⟨br, 0, none⟩ = some (.slice (some ⟨b, o, none⟩) l c) ∧ w'.cell? ⟨b, o + i * 2, none⟩ = some (.string ak)) := by
    unfold Hid
    rw [hCC]
    exact fun w' hw => ⟨(hw.cell (World.block_lt_of_cell? W _ h1)).trans h1, (hw.cell (World.block_lt_of_cell? W _ h2)).trans h2, (hw.cell (World.block_lt_of_cell? W _ h0)).trans h0, (hw.cell (World.block_lt_of_cell? W _ h3)).trans h3⟩
  have HCW : Hid (∀ w', CC w' → Below W.heap.size W w') := by unfold Hid; rw [hCC]; exact fun w' hw => hw
  clear hCC h1 h2 h3 h0
  go_enter Try.func37, Try.ntmps37
  go_wp2_with fail
  refine region_calm CC (by kernel_rfl) (by kernel_rfl) (unhide HC0) ?_
  repeat (first
    | go_big_quiet_skip
    | (go_big_quiet_want
       apply Exists.intro
       refine ⟨fun w' hw' => ?_, ?_⟩
       · obtain ⟨c0, c1, c2, c3⟩ := unhide HCC w' hw'
         go_simp
         first | done | rfl | exact Calls.mono (unhide HLS w') (fun e w'' hx => ⟨hx.1, hx.2 ▸ hw'⟩)
       simp only [Act.put, List.setIfInBounds_toArray, List.set_cons_zero, List.set_cons_succ]
       go_big_quiet_on))
  refine wpQuiet_nil ?_
  intro w' hw'
  have HBW := hide (unhide HCW w' hw')
  go_wp2
  go_ret
  exact ⟨rfl, unhide HBW⟩
theorem ent_scanF (args : Array Value) (w : World) : (callFunc 37 args).run Try.prog w = .ok (.enter 37 args) w := by kernel_rfl

set_option maxRecDepth 20000 in
set_option maxHeartbeats 4000000 in
theorem pscan_any (v : Value) (L : List El) (lo hi : ByteArray) (most : Int) (hm : most ≤ 9223372036854775807) (w : World) (h : EL 2 prC w v L) (hroom : L.length * 40 ≤ 140737488355328) (hv : ∀ x ∈ L, x.2.length ≤ 140737488351232) :
    Calls Try.prog 13 #[v, .string lo, .string hi, .int .i64 most] w fun e w' => ∃ v' L', e = .returned v' ∧ pdat L' = (if rightD (pdat L) then scanD (pdat L) lo.toList hi.toList most.toNat else []) ∧ OO 37 2 prC w' w.heap.size v' L' ∧ Below w.heap.size w w' := by
  have HAL := hide (fun (o1 o2 : Obj) => ((Below.refl w.heap.size w).alloc (Nat.le_refl _) o1).alloc (by simp) o2)
  have HCK := hide (fun W hW => pcheck_any v L W (h.below hW))
  obtain ⟨p1, c1, rfl, k1, k2, k3⟩ := h.shape
  unfold maxLen at k2
  have hl0 : (L.length : Int) ≤ 9223372036854775807 := by omega
  cases hR : rightD (pdat L) with
  | false =>
    rw [hR] at HCK
    clear h hv hroom hR k1 k2 k3
    go_enter Try.func13, Try.ntmps13
    go_wp2_with fail
    refine Calls.mono (unhide HCK _ (unhide HAL _ _)) ?_
    rintro e w2 ⟨rfl, hb2⟩
    have HB2 := hide ((unhide HAL _ _).trans (hb2.mono (unhide HAL _ _).size))
    clear hb2
    go_wp2
    go_ret
    exact ⟨_, rfl, [], rfl, OO.nil _ _ _ _ _, unhide HB2⟩
  | true =>
    rw [hR] at HCK
    by_cases hm0 : most < 1
    · have hz : most.toNat = 0 := by omega
      rw [hz]
      clear h hv hroom hR k1 k2 k3 hz
      go_enter Try.func13, Try.ntmps13
      go_wp2_with fail
      refine Calls.mono (unhide HCK _ (unhide HAL _ _)) ?_
      rintro e w2 ⟨rfl, hb2⟩
      have HB2 := hide ((unhide HAL _ _).trans (hb2.mono (unhide HAL _ _).size))
      clear hb2
      go_wp2
      go_ret
      exact ⟨_, rfl, [], by simp [scanD, pdat], OO.nil _ _ _ _ _, unhide HB2⟩
    · obtain ⟨m, rfl⟩ : ∃ m : Nat, most = (m : Int) := ⟨most.toNat, by omega⟩
      have hsp := SP.of hR
      have HPL := hide (fun W hW => place_any _ L lo W (h.below hW) hsp (by omega))
      obtain ⟨N, hN⟩ : ∃ N, N = plc (pdat L) lo.toList := ⟨_, rfl⟩
      have hle := plc_le (pdat L) lo.toList
      rw [pdat_len] at hle
      rw [← hN] at HPL hle
      obtain ⟨W2, hW2⟩ : ∃ W2, W2 = (w.alloc (.cells #[.string lo] 9)).alloc (.cells #[.string hi] 9) := ⟨_, rfl⟩
      have hb2 : Below w.heap.size w W2 := by rw [hW2]; exact unhide HAL _ _
      have c1' : W2.cell? ⟨w.heap.size, 0, none⟩ = some (.string lo) := by rw [hW2]; simp
      have c2' : W2.cell? ⟨w.heap.size + 1, 0, none⟩ = some (.string hi) := by rw [hW2]; simp
      have HCE := hide (fun W (hW : Below W2.heap.size W2 W) => And.intro ((hW.cell (World.block_lt_of_cell? W2 _ c1')).trans c1') ((hW.cell (World.block_lt_of_cell? W2 _ c2')).trans c2'))
      have HBW2 := hide (fun W (hW : Below W2.heap.size W2 W) => hb2.trans (hW.mono hb2.size))
      have HCK2 := hide (unhide HCK W2 hb2)
      have HW2 := hide hW2
      have HEL := hide h
      obtain ⟨R, hRe⟩ : ∃ R, R = L.length - N := ⟨_, rfl⟩
      obtain ⟨M, hMe⟩ : ∃ M, M = min m R := ⟨_, rfl⟩
      obtain ⟨l, hl⟩ : ∃ l, l = L.length := ⟨_, rfl⟩
      have HF := hide (And.intro hN (And.intro hRe (And.intro hMe (And.intro hl (And.intro hsp (And.intro hR (And.intro hv (And.intro hroom hle))))))))
      have hmm : ¬ (m : Int) < 1 := by omega
      have hdm : decide ((m : Int) < 1) = false := decide_eq_false hmm
      rw [← hl] at hl0 HPL HCK2 HEL ⊢
      have hR0 : (R : Int) ≤ 9223372036854775807 := by omega
      have hM0 : (M : Int) ≤ 9223372036854775807 := by omega
      generalize hX : scanD (pdat L) lo.toList hi.toList ((m : Int)).toNat = X
      have HX := hide hX
      clear h hR k1 k2 k3 hW2 hb2 c1' c2' HCK hN hRe hMe hl hsp hv hroom hle hm0 hX
      go_enter Try.func13, Try.ntmps13
      go_wp2_with fail
      rw [← unhide HW2]
      refine Calls.mono (unhide HCK2) ?_
      rintro e w3 ⟨rfl, hb3⟩
      have HB3 := hide hb3
      have HP3 := hide (unhide HPL _ (unhide HBW2 _ hb3))
      obtain ⟨c5, c6⟩ := unhide HCE _ hb3
      clear hb3
      go_wp2_with fail
      refine Calls.mono (unhide HP3) ?_
      rintro e w4 ⟨rfl, hb4⟩
      have HB4 := hide ((unhide HB3).trans (hb4.mono (unhide HB3).size))
      have HE4 := hide ((unhide HEL).below ((unhide HBW2 _ (unhide HB3)).trans (hb4.mono (unhide HBW2 _ (unhide HB3)).size)))
      clear hb4 c5 c6
      obtain ⟨c5, c6⟩ := unhide HCE _ (unhide HB4)
      have HK0 : Hid (KRow 2 w4 (.slice p1 l c1) l (elC prC L)) := by
        have := (unhide HE4).1
        rw [← (unhide HF).2.2.2.1] at this
        exact this
      have HNL : Hid (N ≤ l) := by have := (unhide HF).2.2.2.2.2.2.2.2; rw [← (unhide HF).2.2.2.1] at this; exact this
      go_wp2_with (first
        | (refine wpList_min2 rfl _ _ _ rfl m R M rfl rfl (unhide HF).2.2.1 ?_)
        | (refine wpList_kslice_h rfl 22 37 _ _ rfl 2 Try.underlying22 (by kernel_rfl) q1 R c2 ((elC prC L).drop (N * 2)) M rfl rfl (unhide HK1) (by have := (unhide HF).2.2.1; omega) ?_; intro q2 c3 hk2; have HK2 := hide hk2; clear hk2)
        | (refine wpList_kslice_l rfl 22 37 _ _ rfl 2 Try.underlying22 (by kernel_rfl) p1 l c1 (elC prC L) N rfl rfl (unhide HK0) (unhide HNL) ?_; intro q1 c2 hk1; have HK1 := hide hk1; clear hk1; rw [show l - N = R by have := (unhide HF).2.1; rw [← (unhide HF).2.2.2.1] at this; exact this.symm] at HK1 ⊢))
      obtain ⟨W5, hW5⟩ : ∃ W5, W5 = w4.alloc (.cells #[.slice q2 M c3] 22) := ⟨_, rfl⟩
      obtain ⟨hN, hRe, hMe, hl, hsp, hRt, hv, hroom, hle⟩ := unhide HF
      obtain ⟨T, hT⟩ : ∃ T, T = (L.drop N).take M := ⟨_, rfl⟩
      have hTl : T.length = M := by rw [hT, List.length_take, List.length_drop]; omega
      have hTc : elC prC T = ((elC prC L).drop (N * 2)).take (M * 2) := by
        rw [hT, elC_drop prC_len L N hle, elC_take prC_len (L.drop N) M (by rw [List.length_drop]; omega)]
      have hTd : pdat T = ((pdat L).drop N).take m := by
        rw [hT]
        unfold pdat
        rw [List.map_take, List.map_drop, hMe, hRe]
        rcases Nat.le_total m (L.length - N) with g | g
        · rw [Nat.min_eq_left g]
        · rw [Nat.min_eq_right g, List.take_of_length_le (by simp), List.take_of_length_le (by simpa using g)]
      have hTm : ∀ x ∈ T, x ∈ L := fun x hx => by rw [hT] at hx; exact List.mem_of_mem_drop (List.mem_of_mem_take hx)
      have hET : EL 2 prC w4 (.slice q2 M c3) T := ⟨by rw [hTl, hTc]; exact unhide HK2, fun x hx => (unhide HE4).2 x (hTm x hx)⟩
      have hb5 : Below w4.heap.size w4 W5 := by rw [hW5]; exact (Below.refl _ _).alloc (Nat.le_refl _) _
      have hET5 := hET.below hb5
      have hB25 : Below W2.heap.size W2 W5 := (unhide HB4).trans (hb5.mono (unhide HB4).size)
      have c7 : W5.cell? ⟨w4.heap.size, 0, none⟩ = some (.slice q2 M c3) := by rw [hW5]; simp
      have hse := search_any 37 #[.pointer (some ⟨w.heap.size, 0, none⟩), .pointer (some ⟨w.heap.size + 1, 0, none⟩), .pointer (some ⟨w4.heap.size, 0, none⟩)] M (fun i => match (pdat T)[i]? with | some x => !wi lo.toList hi.toList (kP x) | none => true) W5 ent_scanF (by omega) (by
        intro W i hW hiM
        obtain ⟨b, o, c, e, _, _, hsn⟩ := hET5.seenP (by omega)
        simp only [Value.slice.injEq] at e
        obtain ⟨rfl, _, rfl⟩ := e
        have hiT : i < T.length := by omega
        obtain ⟨d5, d6⟩ := unhide HCE W (hB25.trans (hW.mono hB25.size))
        have := scanF_any w.heap.size (w.heap.size + 1) w4.heap.size b o c3 M lo hi T[i].1.key i W (by omega) (by omega) d5 d6 ((hW.cell (World.block_lt_of_cell? W5 _ c7)).trans c7) (hsn i hiT W hW).1
        refine this.mono fun e w' hx => ⟨?_, hW.trans (hx.2.mono hW.size)⟩
        rw [hx.1, List.getElem?_eq_getElem (by rw [pdat_len]; exact hiT), pdat_get T i hiT])
      have hall : Below w.heap.size w W5 := unhide HBW2 _ hB25
      have HSE : Hid (Calls Try.prog 36 #[.int .i64 (M : Int), .func (.func 37) #[] #[.pointer (some ⟨w.heap.size, 0, none⟩), .pointer (some ⟨w.heap.size + 1, 0, none⟩), .pointer (some ⟨w4.heap.size, 0, none⟩)]] W5 fun e w' => ∃ r : Nat, e = .returned (.int .i64 (r : Int)) ∧ w'.cell? ⟨w4.heap.size, 0, none⟩ = some (.slice q2 M c3) ∧ Hid (r ≤ M ∧ pdat (T.take r) = X ∧ Below w.heap.size w w' ∧ EL 2 prC w' (.slice q2 M c3) T)) := by
        refine hse.mono ?_
        rintro e w' ⟨r, rfl, hr, h1, h2, hb⟩
        refine ⟨r, rfl, (hb.cell (World.block_lt_of_cell? W5 _ c7)).trans c7, hr, ?_, hall.trans (hb.mono hall.size), hET5.below hb⟩
        rw [← unhide HX]
        have hsc := scan_of hsp lo.toList hi.toList m r (by rw [← hN, ← hTd, pdat_len, hTl]; exact hr) (fun t x ht hx => ?_) (fun x hx => ?_)
        · rw [← hN, ← hTd] at hsc
          have e9 : pdat (T.take r) = (pdat T).take r := by simp [pdat, List.map_take]
          rw [e9]
          simpa using hsc
        · rw [← hN, ← hTd] at hx
          have := h1 t ht
          rw [hx] at this
          simpa using this
        · rw [← hN, ← hTd] at hx
          have := h2 (by have := (List.getElem?_eq_some_iff.1 hx).1; rw [pdat_len, hTl] at this; exact this)
          rw [hx] at this
          simpa using this
      have HCP := hide (fun W v' r' (hE' : EL 2 prC W v' (T.take r')) => copied_any v' (T.take r') W hE' (by rw [List.length_take, hTl]; omega) (fun x hx => hv x (hTm x (List.mem_of_mem_take hx))))
      have HTL := hide hTl
      have HW5 := hide hW5
      clear hW5 hN hRe hMe hl hsp hRt hv hroom hle hT hTc hTd hTm hET hb5 hET5 hB25 c7 hse hall hTl c5 c6
      rw [← unhide HW5]
      refine Calls.mono (unhide HSE) ?_
      rintro e w6 ⟨r, rfl, c8, HQ⟩
      go_wp2_with (refine wpList_kslice_h rfl 22 37 _ _ rfl 2 Try.underlying22 (by kernel_rfl) q2 M c3 (elC prC T) r rfl rfl (by have h9 := (unhide HQ).2.2.2.1; rw [unhide HTL] at h9; exact h9) (unhide HQ).1 ?_; intro q3 c4 hk3; have HK3 := hide hk3; clear hk3)
      have hE9 : EL 2 prC w6 (.slice q3 r c4) (T.take r) := by
        have h7 := (unhide HQ).1
        have h8 := (unhide HQ).2.2.2
        have h6 := unhide HTL
        refine ⟨?_, fun x hx => h8.2 x (List.mem_of_mem_take hx)⟩
        have h5 := unhide HK3
        rw [elC_take prC_len T r (by omega)] at h5
        rw [List.length_take, h6, Nat.min_eq_left h7]
        exact h5
      have HC6 := hide (unhide HCP w6 _ r hE9)
      clear hE9
      refine Calls.mono (unhide HC6) ?_
      rintro e w7 ⟨v', L', rfl, hd7, ho7, hb7⟩
      obtain ⟨vp, vc, rfl⟩ := ho7.1.shape
      have hqb := (unhide HQ).2.2.1
      have HZ := hide (And.intro (hd7.trans (unhide HQ).2.1) (And.intro (ho7.base hqb.size) (hqb.trans (hb7.mono hqb.size))))
      clear hd7 ho7 hb7 hqb
      go_wp2
      go_ret
      exact ⟨_, rfl, L', (unhide HZ).1, (unhide HZ).2.1, (unhide HZ).2.2⟩
end Go.Proofs.Ytehafkbndjifaaa
