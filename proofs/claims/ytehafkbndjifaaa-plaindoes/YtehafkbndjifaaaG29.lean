/- Texts of ours, one behind the other: PlRef1, PlRef2, PlRef3, PlCopy. -/
import Derived.Test.YtehafkbndjifaaaG13
import Derived.Test.YtehafkbndjifaaaG14
import Derived.Test.YtehafkbndjifaaaG16
import Derived.Test.YtehafkbndjifaaaG24
/- The document's own answer: Right. -/
namespace Go.Proofs.Ytehafkbndjifaaa
open Go.RowKit

set_option maxRecDepth 20000 in
set_option maxHeartbeats 4000000 in
theorem rright_any (v : Value) (L : List El) (w : World) (h : EL 2 prC w v L) (hks : ∀ x ∈ L, x.1.key.size ≤ 140737488351232) :
    Calls Try.prog 10 #[v] w fun e w' => e = .returned (.bool (rightD (pdat L))) ∧ Below w.heap.size w w' := by
  by_cases h0 : L.length = 0
  · obtain ⟨p1, c1, rfl, _⟩ := h.shape
    obtain rfl : L = [] := List.eq_nil_of_length_eq_zero h0
    go_enter Try.func10, Try.ntmps10
    go_wp2
    refine wp_loop_rounds 1 ?_
    rw [rounds_succ]
    go_wp2
    go_ret
    exact ⟨rfl, Below.refl _ _⟩
  obtain ⟨b1, o1, c1, rfl, k1, k2, hsn⟩ := h.seenP (by omega)
  obtain ⟨l, hl⟩ : ∃ l, l = L.length := ⟨_, rfl⟩
  rw [← hl] at k1 ⊢
  unfold maxLen at k2
  have hl0 : (l : Int) ≤ 9223372036854775807 := by omega
  have HSN := hide hsn
  have HLN := hide hl
  have HKS := hide hks
  obtain ⟨R, hR⟩ : ∃ R, R = rightD (pdat L) := ⟨_, rfl⟩
  rw [← hR]
  have HR := hide hR
  clear h hsn k1 k2 hl h0 hR hks
  go_enter Try.func10, Try.ntmps10
  go_wp2
  go_loopw [3] (fun i wr => ∃ k : Nat, k ≤ l ∧ i = .int .i64 k ∧ Hid ((∀ j (h : j < (pdat L).length), j < k → okP (pdat L)[j] j ((pdat L)[j - 1]'(by omega)) = true) ∧ Below w.heap.size w wr)) (fun i _ => l - (intOf i).toNat)
  case atStart => exact ⟨0, Nat.zero_le _, rfl, fun j _ hj => by omega, Below.refl _ _⟩
  case round =>
    obtain ⟨k, hk, rfl, hst⟩ := hrel
    obtain ⟨hn, hb⟩ := unhide hst
    by_cases hlt : (k : Int) < (l : Int)
    · have hl := unhide HLN
      have i1 : k < L.length := by omega
      have i0 : k - 1 < L.length := by omega
      have e1 : (pdat L)[k]'(by rw [pdat_len]; exact i1) = (L[k].1.key, L[k].2) := pdat_get L k i1
      have e0 : (pdat L)[k - 1]'(by rw [pdat_len]; exact i0) = (L[k - 1].1.key, L[k - 1].2) := pdat_get L (k - 1) i0
      have hyes : okP (L[k].1.key, L[k].2) k (L[k - 1].1.key, L[k - 1].2) = true → ∀ j (h : j < (pdat L).length), j < k + 1 → okP (pdat L)[j] j ((pdat L)[j - 1]'(by omega)) = true := by
        intro ho j hj hjk
        by_cases g : j = k
        · subst g
          rw [e1, e0]
          exact ho
        · exact hn j hj (by omega)
      have hno : okP (L[k].1.key, L[k].2) k (L[k - 1].1.key, L[k - 1].2) = false → R = false := by
        intro ho
        rw [unhide HR]
        refine right_no (pdat L) k (by rw [pdat_len]; exact i1) ?_
        rw [e1, e0]
        exact ho
      have HS := hide (fun W hW => And.intro (unhide HSN k i1 W hW) (unhide HSN (k - 1) i0 W hW))
      obtain ⟨⟨a1, a2, ar⟩, a3, a4, ar0⟩ := unhide HS wr hb
      obtain ⟨rn, rl⟩ := row_n ar
      have HLS := hide (fun W => rless_any L[k - 1].1.key L[k].1.key W (unhide HKS _ (List.getElem_mem i0)))
      have HOK : Hid (okP (L[k].1.key, L[k].2) k (L[k - 1].1.key, L[k - 1].2) = ((kmay L[k].1.key && decide (L[k].2.length ≤ 4096)) && (decide (k = 0) || tl L[k - 1].1.key.toList L[k].1.key.toList))) := rfl
      generalize okP (L[k].1.key, L[k].2) k (L[k - 1].1.key, L[k - 1].2) = OK at *
      generalize L[k] = x at *
      generalize L[k - 1] = y at *
      obtain ⟨⟨ak, ap, an, ac, ad⟩, av⟩ := x
      obtain ⟨⟨bk, bp, bn, bc, bd⟩, bv⟩ := y
      unfold vof at *
      simp only at *
      subst rn
      have HMY : Hid (∀ W, Calls Try.prog 31 #[.string ak] W fun e w' => e = .returned (.bool (kmay ak)) ∧ w' = W) := fun W => rmay_any ak W
      have hl1 : (av.length : Int) ≤ 9223372036854775807 := by omega
      generalize tl bk.toList ak.toList = TL at *
      generalize kmay ak = KM at *
      generalize av.length = n at *
      have HYN := hide (And.intro hyes hno)
      obtain ⟨CC, hCC⟩ : ∃ CC : World → Prop, CC = fun w' => Below w.heap.size w w' := ⟨_, rfl⟩
      have HC0 : Hid (CC { wr with drawn := wr.drawn + 1 }) := by unfold Hid; rw [hCC]; exact hb.drew
      have HCW : Hid (∀ w', CC w' → Below w.heap.size w w') := by unfold Hid; rw [hCC]; exact fun w' hw => hw
      have HCC0 : Hid (∀ w', CC w' → w'.cell? ⟨b1, o1 + k * 2, none⟩ = some (.string ak) ∧ w'.cell? ⟨b1, o1 + k * 2 + 1, none⟩ = some (.slice ap n ac) ∧ w'.cell? ⟨b1, o1 + (k - 1) * 2, none⟩ = some (.string bk)) := by
        unfold Hid
        rw [hCC]
        exact fun w' hw => ⟨(unhide HS w' hw).1.1, (unhide HS w' hw).1.2.1, (unhide HS w' hw).2.1⟩
      have HML : Hid (∀ w', CC w' → Calls Try.prog 32 #[.string bk, .string ak] w' fun e w'' => e = .returned (.bool TL) ∧ CC w'') := by
        unfold Hid
        rw [hCC]
        exact fun w' hw => (unhide HLS w').mono fun e w'' hx => ⟨hx.1, hw.trans (hx.2.mono hw.size)⟩
      clear hn hb hl i1 i0 e1 e0 hyes hno ar ar0 hst hCC HLS a1 a2 a3 a4 HS rl
      cases KM with
      | false =>
        have HCC := HCC0
        go_wp2_with fail
        refine region_calm CC (by kernel_rfl) (by kernel_rfl) (unhide HC0) ?_
        repeat (first
          | go_big_quiet_skip
          | (go_big_quiet_want
             apply Exists.intro
             refine ⟨fun w' hw' => ?_, ?_⟩
             · obtain ⟨c0, c1, c2⟩ := unhide HCC w' hw'
               go_simp
               first | done | rfl | exact Calls.mono (unhide HMY w') (fun e w'' hx => ⟨hx.1, hx.2 ▸ hw'⟩) | exact unhide HML w' hw'
             simp only [Act.put, List.setIfInBounds_toArray, List.set_cons_zero, List.set_cons_succ]
             go_big_quiet_on))
        refine wpQuiet_nil ?_
        intro w' hw'
        have HBW := hide (unhide HCW w' hw')
        go_wp2
        go_ret
        exact ⟨by rw [(unhide HYN).2 (by rw [unhide HOK]; rfl)]; rfl, unhide HBW⟩
      | true =>
        by_cases hn4 : (4096 : Int) < (n : Int)
        · have HCC := HCC0
          have g1 : decide ((4096 : Int) < (n : Int)) = true := decide_eq_true hn4
          have g2 : decide (4096 < n) = true := decide_eq_true (by omega)
          have HD : Hid (decide (n ≤ 4096) = false) := decide_eq_false (by omega)
          go_wp2_with fail
          refine region_calm CC (by kernel_rfl) (by kernel_rfl) (unhide HC0) ?_
          repeat (first
            | go_big_quiet_skip
            | (go_big_quiet_want
               apply Exists.intro
               refine ⟨fun w' hw' => ?_, ?_⟩
               · obtain ⟨c0, c1, c2⟩ := unhide HCC w' hw'
                 go_simp
                 first | done | rfl | exact Calls.mono (unhide HMY w') (fun e w'' hx => ⟨hx.1, hx.2 ▸ hw'⟩) | exact unhide HML w' hw'
               simp only [Act.put, List.setIfInBounds_toArray, List.set_cons_zero, List.set_cons_succ]
               go_big_quiet_on))
          refine wpQuiet_nil ?_
          intro w' hw'
          have HBW := hide (unhide HCW w' hw')
          go_wp2
          go_ret
          exact ⟨by rw [(unhide HYN).2 (by rw [unhide HOK, unhide HD]; rfl)]; rfl, unhide HBW⟩
        · have g1 : decide ((4096 : Int) < (n : Int)) = false := decide_eq_false hn4
          have g2 : decide (4096 < n) = false := decide_eq_false (by omega)
          have g3 : n ≤ 4096 := by omega
          have HD : Hid (decide (n ≤ 4096) = true) := decide_eq_true (by omega)
          by_cases hk0 : k = 0
          · subst hk0
            have HCC := HCC0
            simp only [Nat.zero_mul, Nat.add_zero] at HCC
            go_wp2_with fail
            refine region_calm CC (by kernel_rfl) (by kernel_rfl) (unhide HC0) ?_
            repeat (first
              | go_big_quiet_skip
              | (go_big_quiet_want
                 apply Exists.intro
                 refine ⟨fun w' hw' => ?_, ?_⟩
                 · obtain ⟨c0, c1, c2⟩ := unhide HCC w' hw'
                   go_simp
                   first | done | rfl | exact Calls.mono (unhide HMY w') (fun e w'' hx => ⟨hx.1, hx.2 ▸ hw'⟩) | exact unhide HML w' hw'
                 simp only [Act.put, List.setIfInBounds_toArray, List.set_cons_zero, List.set_cons_succ]
                 go_big_quiet_on))
            refine wpQuiet_nil ?_
            intro w' hw'
            have HBW := hide (unhide HCW w' hw')
            go_wp2
            go_roundw
            case rel => exact ⟨0 + 1, by omega, by go_num, (unhide HYN).1 (by rw [unhide HOK, unhide HD]; rfl), unhide HBW⟩
            case measure => simp [intOf]; omega
          · obtain ⟨m, rfl⟩ : ∃ m, k = m + 1 := ⟨k - 1, by omega⟩
            have HCC := HCC0
            simp only [Nat.add_sub_cancel] at HCC
            have HK0 : Hid (decide (m + 1 = 0) = false) := by simp [Hid]
            have hm1 : (m : Int) < l := by omega
            have hm2 : (m : Int) + 1 < l := by omega
            have hm3 : (0 : Int) ≤ (m : Int) + 1 := by omega
            have hm4 : ((m : Int) + 1).toNat = m + 1 := by omega
            have hwm : IntKind.i64.wrap (m : Int) = m := by rw [IntKind.wrap_i64]; omega
            clear hk0
            cases TL with
            | false =>
              go_wp2_with fail
              refine region_calm CC (by kernel_rfl) (by kernel_rfl) (unhide HC0) ?_
              repeat (first
                | go_big_quiet_skip
                | (go_big_quiet_want
                   apply Exists.intro
                   refine ⟨fun w' hw' => ?_, ?_⟩
                   · obtain ⟨c0, c1, c2⟩ := unhide HCC w' hw'
                     go_simp
                     first | done | rfl | exact Calls.mono (unhide HMY w') (fun e w'' hx => ⟨hx.1, hx.2 ▸ hw'⟩) | exact unhide HML w' hw'
                   simp only [Act.put, List.setIfInBounds_toArray, List.set_cons_zero, List.set_cons_succ]
                   go_big_quiet_on))
              refine wpQuiet_nil ?_
              intro w' hw'
              have HBW := hide (unhide HCW w' hw')
              go_wp2
              go_ret
              exact ⟨by rw [(unhide HYN).2 (by rw [unhide HOK, unhide HK0, unhide HD]; rfl)]; rfl, unhide HBW⟩
            | true =>
              go_wp2_with fail
              refine region_calm CC (by kernel_rfl) (by kernel_rfl) (unhide HC0) ?_
              repeat (first
                | go_big_quiet_skip
                | (go_big_quiet_want
                   apply Exists.intro
                   refine ⟨fun w' hw' => ?_, ?_⟩
                   · obtain ⟨c0, c1, c2⟩ := unhide HCC w' hw'
                     go_simp
                     first | done | rfl | exact Calls.mono (unhide HMY w') (fun e w'' hx => ⟨hx.1, hx.2 ▸ hw'⟩) | exact unhide HML w' hw'
                   simp only [Act.put, List.setIfInBounds_toArray, List.set_cons_zero, List.set_cons_succ]
                   go_big_quiet_on))
              refine wpQuiet_nil ?_
              intro w' hw'
              have HBW := hide (unhide HCW w' hw')
              go_wp2
              go_roundw
              case rel => exact ⟨m + 1 + 1, by omega, by go_num, (unhide HYN).1 (by rw [unhide HOK, unhide HK0, unhide HD]; rfl), unhide HBW⟩
              case measure => simp [intOf]; omega
    · have HA := hide (And.intro hn hb)
      clear hn hb hst
      go_wp2
      go_ret
      obtain ⟨hn, hb⟩ := unhide HA
      refine ⟨?_, hb⟩
      have hT : R = true := by
        rw [unhide HR, right_all]
        intro j hj
        exact hn j hj (by have := unhide HLN; rw [pdat_len] at hj; omega)
      rw [hT]
      rfl
end Go.Proofs.Ytehafkbndjifaaa

/- The document's own answers: Get, Bytes. -/
namespace Go.Proofs.Ytehafkbndjifaaa
open Go.RowKit

theorem look_first (l : List Pd) (key : List UInt8) (k : Nat) (hk : k < l.length) (h : ∀ j (hj : j < l.length), j < k → kP l[j] ≠ key) (he : kP l[k] = key) : look l key = some l[k].2 := by
  have e : l = l.take k ++ l[k] :: l.drop (k + 1) := by
    rw [← List.drop_eq_getElem_cons hk, List.take_append_drop]
  have hn : look (l.take k) key = none := look_none fun x hx => by
    obtain ⟨j, hj, rfl⟩ := List.mem_iff_getElem.1 hx
    rw [List.getElem_take]
    rw [List.length_take] at hj
    exact h j (by omega) (by omega)
  conv => lhs; rw [e]
  rw [look_app, hn, look_cons, if_pos he]
  rfl
set_option maxRecDepth 20000 in
set_option maxHeartbeats 4000000 in
theorem rget_any (v : Value) (L : List El) (key : ByteArray) (w : World) (h : EL 2 prC w v L) (hks : ∀ x ∈ L, x.1.key.size ≤ 140737488351232) (hv : ∀ x ∈ L, x.2.length ≤ 140737488351232) :
    Calls Try.prog 12 #[v, .string key] w fun e w' => ∃ t, e = .returned (.tuple #[t, .bool (getR (pdat L) key.toList).isSome]) ∧ Mine w' w.heap.size t ((getR (pdat L) key.toList).getD []) ∧ Below w.heap.size w w' := by
  have HRT := hide (rright_any v L w h hks)
  cases hR : rightD (pdat L) with
  | false =>
    have hG : getR (pdat L) key.toList = none := by unfold getR; rw [hR]; rfl
    rw [hG]
    rw [hR] at HRT
    obtain ⟨p1, c1, rfl, _⟩ := h.shape
    clear h hG
    go_enter Try.func12, Try.ntmps12
    go_wp2_with (go_at_call 10; refine Calls.mono (unhide HRT) ?_; rintro e w2 ⟨rfl, hb2⟩; have HB2 := hide hb2; clear hb2)
    go_ret2
    exact ⟨_, rfl, mine_nil _ _, unhide HB2⟩
  | true =>
    rw [hR] at HRT
    have hG : getR (pdat L) key.toList = look (pdat L) key.toList := by unfold getR; rw [hR]; rfl
    rw [hG]
    by_cases h0 : L.length = 0
    · obtain ⟨p1, c1, rfl, _⟩ := h.shape
      obtain rfl : L = [] := List.eq_nil_of_length_eq_zero h0
      clear h hG hR
      go_enter Try.func12, Try.ntmps12
      go_wp2_with (go_at_call 10; refine Calls.mono (unhide HRT) ?_; rintro e w2 ⟨rfl, hb2⟩; have HB2 := hide hb2; clear hb2)
      refine wp_loop_rounds 1 ?_
      rw [rounds_succ]
      go_wp2
      go_ret2
      exact ⟨_, rfl, mine_nil _ _, unhide HB2⟩
    obtain ⟨b1, o1, c1, rfl, k1, k2, hsn⟩ := h.seenP (by omega)
    obtain ⟨l, hl⟩ : ∃ l, l = L.length := ⟨_, rfl⟩
    rw [← hl] at k1 HRT ⊢
    unfold maxLen at k2
    have hl0 : (l : Int) ≤ 9223372036854775807 := by omega
    have HSN := hide hsn
    have HLN := hide hl
    have HV := hide hv
    obtain ⟨G, hGe⟩ : ∃ G, G = look (pdat L) key.toList := ⟨_, rfl⟩
    rw [← hGe]
    have HG := hide hGe
    clear h hsn k1 k2 hl h0 hG hR hks hv hGe
    go_enter Try.func12, Try.ntmps12
    go_wp2_with (go_at_call 10; refine Calls.mono (unhide HRT) ?_; rintro e w2 ⟨rfl, hb2⟩; have HB2 := hide hb2; clear hb2)
    go_loopw [6] (fun i wr => ∃ k : Nat, k ≤ l ∧ i = .int .i64 k ∧ wr = w2 ∧ Hid (∀ j (hj : j < (pdat L).length), j < k → kP (pdat L)[j] ≠ key.toList)) (fun i _ => l - (intOf i).toNat)
    case atStart => exact ⟨0, Nat.zero_le _, rfl, rfl, fun j _ hj => by omega⟩
    case round =>
      obtain ⟨k, hk, rfl, rfl, hst⟩ := hrel
      by_cases hlt : (k : Int) < (l : Int)
      · have hkL : k < L.length := by have := unhide HLN; omega
        obtain ⟨a1, a2, ar⟩ := unhide HSN k hkL _ (unhide HB2)
        have hdl := unhide HV _ (List.getElem_mem hkL)
        have e1 : (pdat L)[k]'(by rw [pdat_len]; exact hkL) = (L[k].1.key, L[k].2) := pdat_get L k hkL
        by_cases hke : L[k].1.key = key
        · have hgv : G = some L[k].2 := by
            rw [unhide HG, look_first (pdat L) key.toList k (by rw [pdat_len]; exact hkL) (unhide hst) (by rw [e1, ← hke]), e1]
          have HCB := hide (copyBytes_any _ _ _ ar hdl)
          generalize L[k] = x at *
          obtain ⟨⟨ak, ap, an, ac, ad⟩, av⟩ := x
          unfold vof at *
          simp only at *
          subst hke
          subst hgv
          clear hst hkL hdl e1 ar
          go_wp2_with fail
          refine Calls.mono (unhide HCB) ?_
          rintro e w5 ⟨t, rfl, ho5, hb5⟩
          have hm := mine_of_owns ho5
          obtain ⟨tp, tn, tc, rfl⟩ := mine_opv hm
          have HZ := hide (And.intro (hm.base (unhide HB2).size) ((unhide HB2).trans (hb5.mono (unhide HB2).size)))
          clear ho5 hb5 hm
          go_wp2
          go_ret2
          exact ⟨_, rfl, (unhide HZ).1, (unhide HZ).2⟩
        · have HNX : Hid (∀ j (hj : j < (pdat L).length), j < k + 1 → kP (pdat L)[j] ≠ key.toList) := by
            intro j hj hjk
            by_cases g : j = k
            · subst g
              rw [e1]
              exact fun e => hke (bl_inj e)
            · exact unhide hst j hj (by omega)
          have hk2 : (L[k].1.key.toList == key.toList) = false := by
            simp only [beq_eq_false_iff_ne]
            exact fun e => hke (bl_inj e)
          clear ar hdl a2 e1
          generalize L[k].1.key = kk at *
          clear hst hke hkL
          go_wp2
          go_roundw
          case rel => exact ⟨k + 1, by omega, by go_num, by first | rfl | trivial, unhide HNX⟩
          case measure => simp [intOf]; omega
      · have hgn : G = none := by
          rw [unhide HG]
          refine look_none fun x hx => ?_
          obtain ⟨j, hj, rfl⟩ := List.mem_iff_getElem.1 hx
          exact unhide hst j hj (by have := unhide HLN; rw [pdat_len] at hj; omega)
        subst hgn
        clear hst
        go_wp2
        go_ret2
        exact ⟨_, rfl, mine_nil _ _, unhide HB2⟩

set_option maxRecDepth 20000 in
set_option maxHeartbeats 4000000 in
theorem rbytes_any (v : Value) (L : List El) (w : World) (h : EL 2 prC w v L) (hks : ∀ x ∈ L, x.1.key.size ≤ 140737488351232) (hroom : L.length * 40 ≤ 140737488355328) :
    Calls Try.prog 20 #[v] w fun e w' => e = .returned (.int .i64 (if rightD (pdat L) then (bytesP (pdat L) : Int) else 0)) ∧ Below w.heap.size w w' := by
  have HRT := hide (fun W hW => rright_any v L W (h.below hW) hks)
  cases hR : rightD (pdat L) with
  | false =>
    rw [hR] at HRT
    obtain ⟨p1, c1, rfl, _⟩ := h.shape
    clear h
    go_enter Try.func20, Try.ntmps20
    go_wp2
    refine wp_loop_rounds 1 ?_
    rw [rounds_succ]
    go_wp2_with fail
    refine Calls.mono (unhide HRT _ (Below.refl _ _)) ?_
    rintro e w2 ⟨rfl, hb2⟩
    have HB2 := hide hb2
    clear hb2
    go_wp2
    go_ret
    exact ⟨rfl, unhide HB2⟩
  | true =>
    rw [hR] at HRT
    have hmy := ((right_iff _).1 hR).2
    have hbd : ∀ x ∈ L, x.1.key.size + x.2.length ≤ 4160 := by
      intro x hx
      have := hmy (x.1.key, x.2) (List.mem_map.2 ⟨x, hx, rfl⟩)
      unfold pmay kmay at this
      simp only [Bool.and_eq_true, decide_eq_true_eq] at this
      omega
    have hsum : ∀ k, k ≤ L.length → bytesP ((pdat L).take k) ≤ k * 4160 := by
      intro k
      induction k with
      | zero => intro _; simp [bytesP]
      | succ k ih =>
        intro hk
        rw [bytesP_take _ k (by rw [pdat_len]; omega), pdat_get L k (by omega)]
        have a := ih (by omega)
        have b := hbd _ (List.getElem_mem (show k < L.length by omega))
        simp only
        omega
    by_cases h0 : L.length = 0
    · obtain ⟨p1, c1, rfl, _⟩ := h.shape
      obtain rfl : L = [] := List.eq_nil_of_length_eq_zero h0
      clear h
      go_enter Try.func20, Try.ntmps20
      go_wp2
      refine wp_loop_rounds 1 ?_
      rw [rounds_succ]
      go_wp2_with fail
      refine Calls.mono (unhide HRT _ (Below.refl _ _)) ?_
      rintro e w2 ⟨rfl, hb2⟩
      have HB2 := hide hb2
      clear hb2
      go_wp2
      go_ret
      exact ⟨rfl, unhide HB2⟩
    obtain ⟨b1, o1, c1, rfl, k1, k2, hsn⟩ := h.seenP (by omega)
    obtain ⟨l, hl⟩ : ∃ l, l = L.length := ⟨_, rfl⟩
    rw [← hl] at k1 HRT ⊢
    unfold maxLen at k2
    have hl0 : (l : Int) ≤ 9223372036854775807 := by omega
    have HSN := hide hsn
    have HLN := hide (And.intro hl hroom)
    have HBD := hide (And.intro hbd hsum)
    obtain ⟨N, hN⟩ : ∃ N, N = bytesP (pdat L) := ⟨_, rfl⟩
    rw [← hN]
    have HN := hide hN
    simp only [if_true] at ⊢
    clear h hsn k1 k2 hl h0 hN hR hmy hbd hsum hroom hks
    go_enter Try.func20, Try.ntmps20
    go_wp2
    go_loopw [3, 4] (fun s i wr => ∃ k n : Nat, k ≤ l ∧ i = .int .i64 k ∧ s = .int .i64 n ∧ Hid (n = bytesP ((pdat L).take k) ∧ Below w.heap.size w wr)) (fun _ i _ => l - (intOf i).toNat)
    case atStart => exact ⟨0, 0, Nat.zero_le _, rfl, rfl, by simp [bytesP], Below.refl _ _⟩
    case round =>
      obtain ⟨k, n, hk, rfl, rfl, hst⟩ := hrel
      obtain ⟨hn, hb⟩ := unhide hst
      by_cases hlt : (k : Int) < (l : Int)
      · obtain ⟨hl, hroom⟩ := unhide HLN
        have hkL : k < L.length := by omega
        have HSK := hide (fun W hW => unhide HSN k hkL W hW)
        obtain ⟨a1, a2, ar⟩ := unhide HSN k hkL wr hb
        have hkz := (unhide HBD).1 _ (List.getElem_mem hkL)
        have hs0 := (unhide HBD).2 k (by omega)
        have hst' := bytesP_take (pdat L) k (by rw [pdat_len]; exact hkL)
        rw [pdat_get L k hkL] at hst'
        obtain ⟨rn, rl⟩ := row_n ar
        generalize L[k] = x at *
        obtain ⟨⟨ak, ap, an, ac, ad⟩, av⟩ := x
        unfold vof at *
        simp only at *
        subst rn
        have hl1 : (av.length : Int) ≤ 9223372036854775807 := by omega
        have w1' : IntKind.i64.wrap ((n : Int) + (ak.size : Int)) = ((n + ak.size : Nat) : Int) := by rw [IntKind.wrap_i64]; omega
        have w2' : IntKind.i64.wrap (((n + ak.size : Nat) : Int) + (av.length : Int)) = ((n + ak.size + av.length : Nat) : Int) := by rw [IntKind.wrap_i64]; omega
        have w3' : IntKind.i64.wrap ((n : Int) + (ak.size : Int) + (av.length : Int)) = ((n + ak.size + av.length : Nat) : Int) := by rw [IntKind.wrap_i64]; omega
        have HRK := hide (unhide HRT wr hb)
        have HA := hide (And.intro hn (And.intro hst' hb))
        clear hn hb hkL ar hkz hst' rl hst hl hroom hs0 a1 a2
        go_wp2_with fail
        refine Calls.mono (unhide HRK) ?_
        rintro e w5 ⟨rfl, hb5⟩
        obtain ⟨CC, hCC⟩ : ∃ CC : World → Prop, CC = fun w' => Below w.heap.size w w' := ⟨_, rfl⟩
        have HC0 : Hid (CC { w5 with drawn := w5.drawn + 1 }) := by unfold Hid; rw [hCC]; exact ((unhide HA).2.2.trans (hb5.mono (unhide HA).2.2.size)).drew
        have HCC : Hid (∀ w', CC w' → w'.cell? ⟨b1, o1 + k * 2, none⟩ = some (.string ak) ∧ w'.cell? ⟨b1, o1 + k * 2 + 1, none⟩ = some (.slice ap av.length ac)) := by
          unfold Hid
          rw [hCC]
          exact fun w' hw => ⟨(unhide HSK w' hw).1, (unhide HSK w' hw).2.1⟩
        have HCW : Hid (∀ w', CC w' → Below w.heap.size w w') := by unfold Hid; rw [hCC]; exact fun w' hw => hw
        clear hCC hb5
        go_wp2_with fail
        refine region_calm CC (by kernel_rfl) (by kernel_rfl) (unhide HC0) ?_
        repeat (first
          | go_big_quiet_skip
          | (go_big_quiet_want
             apply Exists.intro
             refine ⟨fun w' hw' => ?_, ?_⟩
             · obtain ⟨c0, c1⟩ := unhide HCC w' hw'
               go_simp
               first | done | rfl
             simp only [Act.put, List.setIfInBounds_toArray, List.set_cons_zero, List.set_cons_succ]
             go_big_quiet_on))
        refine wpQuiet_nil ?_
        intro w' hw'
        have HBW := hide (unhide HCW w' hw')
        clear hw' HC0 HCC HCW
        go_wp2
        obtain ⟨hn, hst', hb⟩ := unhide HA
        go_roundw
        case rel => exact ⟨k + 1, n + ak.size + av.length, by omega, by go_num, by first | rfl | (congr 1; omega), by rw [hst']; omega, unhide HBW⟩
        case measure => simp [intOf]; omega
      · have HA := hide (And.intro hn hb)
        have HRK := hide (unhide HRT wr hb)
        clear hn hb hst
        go_wp2_with fail
        refine Calls.mono (unhide HRK) ?_
        rintro e w5 ⟨rfl, hb5⟩
        have HB5 := hide ((unhide HA).2.trans (hb5.mono (unhide HA).2.size))
        clear hb5
        go_wp2
        go_ret
        obtain ⟨hn, _⟩ := unhide HA
        refine ⟨?_, unhide HB5⟩
        have e : n = N := by
          rw [unhide HN, hn]
          have hkl : k = L.length := by have := (unhide HLN).1; omega
          rw [hkl, ← pdat_len, List.take_length]
        subst e
        rfl
end Go.Proofs.Ytehafkbndjifaaa

/- The document's own answer: Scan. -/
namespace Go.Proofs.Ytehafkbndjifaaa
open Go.RowKit

theorem filter_take_pre (l : List Pd) (p : Pd → Bool) (k : Nat) : (l.filter p).take ((l.take k).filter p).length = (l.take k).filter p := by
  conv => lhs; arg 2; rw [← List.take_append_drop k l, List.filter_append]
  rw [List.take_left' rfl]
set_option maxRecDepth 20000 in
set_option maxHeartbeats 4000000 in
theorem rscan_any (v : Value) (L : List El) (lo hi : ByteArray) (most : Int) (w : World) (h : EL 2 prC w v L) (hks : ∀ x ∈ L, x.1.key.size ≤ 140737488351232) (hv : ∀ x ∈ L, x.2.length ≤ 140737488351232) (hroom : L.length * 40 ≤ 140737488355328) :
    Calls Try.prog 18 #[v, .string lo, .string hi, .int .i64 most] w fun e w' => ∃ v' L', e = .returned v' ∧ pdat L' = (if rightD (pdat L) then scanD (pdat L) lo.toList hi.toList most.toNat else []) ∧ OO 37 2 prC w' w.heap.size v' L' ∧ Below w.heap.size w w' := by
  have HRT := hide (fun W hW => rright_any v L W (h.below hW) hks)
  cases hR : rightD (pdat L) with
  | false =>
    rw [hR] at HRT
    simp only [Bool.false_eq_true, if_false]
    obtain ⟨p1, c1, rfl, _⟩ := h.shape
    clear h hR
    go_enter Try.func18, Try.ntmps18
    go_wp2
    refine wp_loop_rounds 1 ?_
    rw [rounds_succ]
    go_wp2_with fail
    refine Calls.mono (unhide HRT _ (Below.refl _ _)) ?_
    rintro e w2 ⟨rfl, hb2⟩
    have HB2 := hide hb2
    clear hb2
    go_wp2
    go_ret
    exact ⟨_, [], rfl, rfl, OO.nil _ _ _ _ _, unhide HB2⟩
  | true =>
    rw [hR] at HRT
    simp only [if_true]
    by_cases h0 : L.length = 0
    · obtain ⟨p1, c1, rfl, _⟩ := h.shape
      obtain rfl : L = [] := List.eq_nil_of_length_eq_zero h0
      clear h hR
      go_enter Try.func18, Try.ntmps18
      go_wp2
      refine wp_loop_rounds 1 ?_
      rw [rounds_succ]
      go_wp2_with fail
      refine Calls.mono (unhide HRT _ (Below.refl _ _)) ?_
      rintro e w2 ⟨rfl, hb2⟩
      have HB2 := hide hb2
      clear hb2
      go_wp2
      go_ret
      exact ⟨_, [], rfl, by simp [pdat, scanD], OO.nil _ _ _ _ _, unhide HB2⟩
    obtain ⟨b1, o1, c1, rfl, k1, k2, hsn⟩ := h.seenP (by omega)
    obtain ⟨l, hl⟩ : ∃ l, l = L.length := ⟨_, rfl⟩
    rw [← hl] at k1 HRT ⊢
    unfold maxLen at k2
    have hl0 : (l : Int) ≤ 9223372036854775807 := by omega
    obtain ⟨i0, hi0, hz0, hz1, hz2⟩ := info_parts Try.info37
    have HSN := hide hsn
    have HLN := hide (And.intro hl hroom)
    have HV := hide (And.intro hv hks)
    obtain ⟨X, hX⟩ : ∃ X, X = scanD (pdat L) lo.toList hi.toList most.toNat := ⟨_, rfl⟩
    rw [← hX]
    have HX := hide hX
    clear h hsn k1 k2 hl h0 hX hR hks hv hroom
    go_enter Try.func18, Try.ntmps18
    go_wp2
    go_loopw [9, 10] (fun ov i wr => ∃ (k m : Nat) (vp : Option Addr) (vc : Nat) (L' : List El), k ≤ l ∧ i = .int .i64 k ∧ ov = .slice vp m vc ∧ Hid (m = L'.length ∧ m ≤ k ∧ m ≤ most.toNat ∧ pdat L' = ((pdat L).take k).filter (fun x => wi lo.toList hi.toList (kP x)) ∧ OO 37 2 prC wr w.heap.size ov L' ∧ Below w.heap.size w wr)) (fun _ i _ => l - (intOf i).toNat)
    case atStart => exact ⟨0, 0, none, 0, [], Nat.zero_le _, rfl, rfl, rfl, Nat.le_refl _, Nat.zero_le _, rfl, OO.nil _ _ _ _ _, Below.refl _ _⟩
    case round =>
      obtain ⟨k, m, vp, vc, L', hk, rfl, rfl, hst⟩ := hrel
      obtain ⟨hm, hmk, hmm, hd, hoo, hb⟩ := unhide hst
      have HRK := hide (unhide HRT wr hb)
      have hm0 : (m : Int) ≤ 9223372036854775807 := by omega
      by_cases hlt : (k : Int) < (l : Int)
      · by_cases hmo : (m : Int) < most
        · obtain ⟨hl, hroom⟩ := unhide HLN
          have hkL : k < L.length := by omega
          have HSK := hide (fun W hW => unhide HSN k hkL W hW)
          have hdl := (unhide HV).1 _ (List.getElem_mem hkL)
          have hkz := (unhide HV).2 _ (List.getElem_mem hkL)
          have htk : ((pdat L).take (k + 1)).filter (fun x => wi lo.toList hi.toList (kP x)) = ((pdat L).take k).filter (fun x => wi lo.toList hi.toList (kP x)) ++ (if wi lo.toList hi.toList L[k].1.key.toList then [(L[k].1.key, L[k].2)] else []) := by
            rw [List.take_succ_eq_append_getElem (by rw [pdat_len]; exact hkL), List.filter_append, pdat_get L k hkL, List.filter_cons, List.filter_nil]
          have HWI := hide (fun W => rwithin_any lo hi L[k].1.key W hkz)
          have HSI := hide (And.intro hm (And.intro hmk (And.intro hl hroom)))
          generalize wi lo.toList hi.toList L[k].1.key.toList = WI at *
          generalize L[k] = x at *
          obtain ⟨⟨ak, ap, an, ac, ad⟩, av⟩ := x
          unfold vof at *
          simp only at *
          have HA := hide (And.intro hd (And.intro hoo (And.intro hb (And.intro htk hmm))))
          have hmo2 : decide ((m : Int) < most) = true := decide_eq_true hmo
          clear hm hmk hmm hd hoo hb hl hroom hkL htk hst hkz
          go_wp2_with fail
          refine Calls.mono (unhide HRK) ?_
          rintro e w5 ⟨rfl, hb5⟩
          have hb5w := (unhide HA).2.2.1.trans (hb5.mono (unhide HA).2.2.1.size)
          have HB5 := hide (And.intro hb5 hb5w)
          obtain ⟨a1, a2, ar⟩ := unhide HSK w5 hb5w
          clear hb5 hb5w ar
          go_wp2_with fail
          refine Calls.mono (unhide HWI w5) ?_
          rintro e w6 ⟨rfl, hb6⟩
          have hb56 := (unhide HB5).1.trans (hb6.mono (unhide HB5).1.size)
          have hb6w := (unhide HB5).2.trans (hb6.mono (unhide HB5).2.size)
          have HB6 := hide (And.intro hb56 hb6w)
          have hoo6 := (unhide HA).2.1.below hb56
          obtain ⟨hd, _, _, htk, hmm⟩ := unhide HA
          clear a1 a2 hb6
          cases WI with
          | false =>
            simp only [Bool.false_eq_true, if_false, List.append_nil] at htk
            have HZ := hide (And.intro hoo6 (And.intro hd (And.intro htk hmm)))
            clear hb56 hb6w hoo6 hd htk hmm
            go_wp2
            go_roundw
            case rel =>
              obtain ⟨hoo6, hd, htk, hmm⟩ := unhide HZ
              exact ⟨k + 1, m, vp, vc, L', by omega, by go_num, rfl, (unhide HSI).1, by have := (unhide HSI).2.1; omega, hmm, by rw [hd, htk], hoo6, (unhide HB6).2⟩
            case measure => simp [intOf]; omega
          | true =>
            simp only [if_true] at htk
            have hdw : Below w6.heap.size w6 w6.drew := (Below.refl _ _).drew
            have hbd := hb6w.trans (hdw.mono hb6w.size)
            obtain ⟨a1, a2, _⟩ := unhide HSK w6 hb6w
            obtain ⟨d1, d2, dr⟩ := unhide HSK w6.drew hbd
            have hcb := copyBytes_any _ _ w6.drew dr hdl
            have HCH : Hid (Calls Try.prog 30 #[.slice ap an ac] w6.drew fun e w7 => ∃ tp tn tc, e = .returned (.slice tp tn tc) ∧ w7.cell? ⟨b1, o1 + k * 2, none⟩ = some (.string ak) ∧ Hid (Mine w7 w6.heap.size (.slice tp tn tc) av ∧ Below w6.heap.size w6 w7)) := by
              refine hcb.mono ?_
              rintro e w7 ⟨t, rfl, ho7, hb7⟩
              have hmi := mine_of_owns ho7
              obtain ⟨tp, tn, tc, rfl⟩ := mine_opv hmi
              have hb7' := hdw.trans (hb7.mono hdw.size)
              obtain ⟨y1, _, _⟩ := unhide HSK w7 (hb6w.trans (hb7'.mono hb6w.size))
              exact ⟨tp, tn, tc, rfl, y1, hmi.base hdw.size, hb7'⟩
            have HOW := hide hoo6.1.1
            have hmL := (unhide HSI).1
            rw [← hmL] at HOW
            have HZ := hide (And.intro hoo6 (And.intro hd (And.intro htk (And.intro hmm hb6w))))
            have hsz : w.heap.size ≤ w6.heap.size := hb6w.size
            have HKL := hide hmL.symm
            clear hb56 hb6w hoo6 hd htk hmm hdw hbd dr hcb hmL
            go_wp2_with fail
            go_region_law (first
              | (go_simp; go_at_call 30; refine Calls.mono (unhide HCH) ?_; rintro x w7 ⟨tp, tn, tc, rfl, y0, HB7⟩; dsimp only)
              | (refine step_append_gen rfl _ _ 22 rfl w.heap.size 37 i0 (.agg #[.string ⟨#[]⟩, .slice none 0 0]) Try.underlying22 hi0 hz0 2 40 (by omega) hz1 hz2 rfl (.slice vp m vc) m (elC prC L') (by simp [Act.eval]) (World.ownsRow.alloc (owns_below4 (unhide HOW) (unhide HB7).2) _) ⟨w7.heap.size, 0, none⟩ 1 (prC ⟨ak, tp, tn, tc, false⟩) (by simp [Act.eval]) rfl (by intro j u hj; match j, hj with | 0, hj => (simp [prC] at hj; subst hj; simp [Addr.add]) | 1, hj => (simp [prC] at hj; subst hj; simp [Addr.add])) (prC_one _) (by have h9 := unhide HSI; unfold maxLen; omega) (by have h9 := unhide HSI; omega) (by have h9 := (unhide HB7).2.size; simp; omega) ?_; intro v2 w8 hown6 hgrow6 hob6; have hmr := OO.push (x := (⟨ak, tp, tn, tc, false⟩, av)) (unhide HZ).1 ((unhide HB7).2.alloc (by have h9 := (unhide HB7).2.size; omega) _) ((unhide HB7).1.below ((Below.refl _ _).alloc (Nat.le_refl _) _)) hsz (by rw [unhide HKL]; exact hown6) hgrow6 hob6; have hbw := ((unhide HZ).2.2.2.2.trans (((unhide HB7).2.alloc (by have h9 := (unhide HB7).2.size; omega) _).mono hsz)).grown hgrow6 (by have h9 := (unhide HB7).2.size; simp; omega) (fun q hq => ((unhide HZ).1.1.1.lt q hq).1); have HJ := hide (And.intro hmr hbw); clear hmr hbw; rcases hown6.2 with ⟨_, hz9⟩ | ⟨g2, cap2, cur2, e2, _⟩; (exact absurd hz9 (by omega)); subst e2; clear hown6 hgrow6 hob6))
            all_goals
              go_wp2
              go_roundw
              case rel =>
                obtain ⟨_, hd, htk, _, _⟩ := unhide HZ
                refine ⟨k + 1, m + 1, _, _, L' ++ [(⟨ak, tp, tn, tc, false⟩, av)], by omega, by go_num, rfl, by rw [List.length_append, unhide HKL]; rfl, by have := (unhide HSI).2.1; omega, by omega, ?_, (unhide HJ).1, (unhide HJ).2⟩
                rw [htk, pdat_app, hd]
                rfl
              case measure => simp [intOf]; omega
        · have hmo2 : decide ((m : Int) < most) = false := decide_eq_false hmo
          have hXe : pdat L' = X := by
            rw [unhide HX]
            unfold scanD
            have e9 := filter_take_pre (pdat L) (fun x => wi lo.toList hi.toList (kP x)) k
            rw [← hd, pdat_len, ← hm, show m = most.toNat by omega] at e9
            rw [e9]
          have HA := hide (And.intro hXe (And.intro hoo hb))
          clear hm hmk hmm hd hoo hb hst hXe
          go_wp2_with fail
          refine Calls.mono (unhide HRK) ?_
          rintro e w5 ⟨rfl, hb5⟩
          have HB5 := hide hb5
          clear hb5
          go_wp2
          go_ret
          obtain ⟨hXe, hoo, hb⟩ := unhide HA
          exact ⟨_, L', rfl, hXe, hoo.below (unhide HB5), hb.trans ((unhide HB5).mono hb.size)⟩
      · have hXe : pdat L' = X := by
          rw [unhide HX]
          unfold scanD
          have hkl : k = L.length := by have := (unhide HLN).1; omega
          rw [hkl, ← pdat_len, List.take_length] at hd
          rw [hd, List.take_of_length_le (by rw [← hd, pdat_len]; omega)]
        have HA := hide (And.intro hXe (And.intro hoo hb))
        clear hm hmk hmm hd hoo hb hst hXe
        go_wp2_with fail
        refine Calls.mono (unhide HRK) ?_
        rintro e w5 ⟨rfl, hb5⟩
        have HB5 := hide hb5
        clear hb5
        go_wp2
        go_ret
        obtain ⟨hXe, hoo, hb⟩ := unhide HA
        exact ⟨_, L', rfl, hXe, hoo.below (unhide HB5), hb.trans ((unhide HB5).mono hb.size)⟩
end Go.Proofs.Ytehafkbndjifaaa

/- The helper CopyPairs. -/
namespace Go.Proofs.Ytehafkbndjifaaa
open Go.RowKit

set_option maxRecDepth 20000 in
set_option maxHeartbeats 4000000 in
theorem copypairs_any (v : Value) (L : List El) (w : World) (h : EL 2 prC w v L) (hroom : L.length * 40 ≤ 140737488355328) (hv : ∀ x ∈ L, x.2.length ≤ 140737488351232) :
    Calls Try.prog 9 #[v] w fun e w' => ∃ v' L', e = .returned v' ∧ pdat L' = pdat L ∧ OO 37 2 prC w' w.heap.size v' L' ∧ Below w.heap.size w w' := by
  by_cases h0 : L.length = 0
  · obtain ⟨p1, c1, rfl, _⟩ := h.shape
    obtain rfl : L = [] := List.eq_nil_of_length_eq_zero h0
    go_enter Try.func9, Try.ntmps9
    go_wp2
    refine wp_loop_rounds 1 ?_
    rw [rounds_succ]
    go_wp2
    go_ret
    exact ⟨_, [], rfl, rfl, OO.nil _ _ _ _ _, Below.refl _ _⟩
  obtain ⟨b1, o1, c1, rfl, k1, k2, hsn⟩ := h.seenP (by omega)
  obtain ⟨l, hl⟩ : ∃ l, l = L.length := ⟨_, rfl⟩
  rw [← hl] at k1 ⊢
  unfold maxLen at k2
  have hl0 : (l : Int) ≤ 9223372036854775807 := by omega
  obtain ⟨i0, hi, hz0, hz1, hz2⟩ := info_parts Try.info37
  have HST : Hid (∀ (k : Nat) (hk : k < L.length) (W : World), Below w.heap.size w W → W.cell? ⟨b1, o1 + k * 2, none⟩ = some (.string L[k].1.key) ∧ W.cell? ⟨b1, o1 + k * 2 + 1, none⟩ = some (vof L[k].1) ∧ Row W (vof L[k].1) L[k].2 ∧ L[k].2.length ≤ 140737488351232) := by
    intro k hk W hw
    obtain ⟨a1, a2, a3⟩ := hsn k hk W hw
    exact ⟨a1, a2, a3, hv _ (List.getElem_mem hk)⟩
  have HLN := hide hl
  have HRM := hide hroom
  clear h hsn k1 k2 hl h0 hv hroom
  go_enter Try.func9, Try.ntmps9
  go_wp2
  go_loopw [3, 4] (fun ov i wr => ∃ (k : Nat) (L' : List El), k ≤ l ∧ i = .int .i64 k ∧ L'.length = k ∧ Hid (pdat L' = (pdat L).take k ∧ OO 37 2 prC wr w.heap.size ov L' ∧ Below w.heap.size w wr)) (fun _ i _ => l - (intOf i).toNat)
  case atStart => exact ⟨0, [], Nat.zero_le _, rfl, rfl, rfl, OO.nil _ _ _ _ _, Below.refl _ _⟩
  case round =>
    obtain ⟨k, L', hk, rfl, hkl, hst⟩ := hrel
    obtain ⟨hd, hoo, hb⟩ := unhide hst
    obtain ⟨vp, vc, hve⟩ := hoo.1.shape
    rw [hkl] at hve
    subst hve
    have HKL := hide hkl
    have HOW := hide hoo.1.1
    rw [hkl] at HOW
    clear hkl
    by_cases hlt : (k : Int) < (l : Int)
    · have hl := unhide HLN
      have hrm := unhide HRM
      have hkL : k < L.length := by omega
      have hdw : Below wr.heap.size wr wr.drew := (Below.refl _ _).drew
      have hbd := hb.trans (hdw.mono hb.size)
      obtain ⟨a1, a2, _, _⟩ := unhide HST k hkL wr hb
      obtain ⟨d1, d2, dr, dl⟩ := unhide HST k hkL wr.drew hbd
      have hcb := copyBytes_any _ _ wr.drew dr dl
      have hdk : (pdat L).take (k + 1) = (pdat L).take k ++ [(L[k].1.key, L[k].2)] := by
        rw [List.take_succ_eq_append_getElem (by rw [pdat_len]; exact hkL), pdat_get L k hkL]
      have HSW := hide (fun W hW => unhide HST k hkL W hW)
      generalize L[k] = x at *
      obtain ⟨⟨ak, ap, an, ac, ad⟩, av⟩ := x
      unfold vof at *
      simp only at *
      have HCH : Hid (Calls Try.prog 30 #[.slice ap an ac] wr.drew fun e w5 => ∃ tp tn tc, e = .returned (.slice tp tn tc) ∧ w5.cell? ⟨b1, o1 + k * 2, none⟩ = some (.string ak) ∧ Hid (Mine w5 wr.heap.size (.slice tp tn tc) av ∧ Below wr.heap.size wr w5)) := by
        refine hcb.mono ?_
        rintro e w5 ⟨t, rfl, ho5, hb5⟩
        have hm := mine_of_owns ho5
        obtain ⟨tp, tn, tc, rfl⟩ := mine_opv hm
        have hb5' := hdw.trans (hb5.mono hdw.size)
        obtain ⟨y1, y2, _⟩ := unhide HSW w5 (hb.trans (hb5'.mono hb.size))
        exact ⟨tp, tn, tc, rfl, y1, hm.base hdw.size, hb5'⟩
      have HA := hide (And.intro hd (And.intro hoo (And.intro hb hdk)))
      have hsz : w.heap.size ≤ wr.heap.size := hb.size
      clear hd hoo hb hl hrm hkL hdw hbd dr dl hcb hdk hst
      go_wp2_with fail
      go_region_law (first
        | (go_simp; go_at_call 30; refine Calls.mono (unhide HCH) ?_; rintro x w5 ⟨tp, tn, tc, rfl, y0, HB6⟩; dsimp only)
        | (refine step_append_gen rfl _ _ 22 rfl w.heap.size 37 i0 (.agg #[.string ⟨#[]⟩, .slice none 0 0]) Try.underlying22 hi hz0 2 40 (by omega) hz1 hz2 rfl (.slice vp k vc) k (elC prC L') (by simp [Act.eval]) (World.ownsRow.alloc (owns_below4 (unhide HOW) (unhide HB6).2) _) ⟨w5.heap.size, 0, none⟩ 1 (prC ⟨ak, tp, tn, tc, false⟩) (by simp [Act.eval]) rfl (by intro j u hj; match j, hj with | 0, hj => (simp [prC] at hj; subst hj; simp [Addr.add]) | 1, hj => (simp [prC] at hj; subst hj; simp [Addr.add])) (prC_one _) (by have h9 := unhide HLN; have h8 := unhide HRM; unfold maxLen; omega) (by have h9 := unhide HLN; have h8 := unhide HRM; omega) (by have h9 := (unhide HB6).2.size; simp; omega) ?_; intro v2 w6 hown6 hgrow6 hob6; have hmr := OO.push (x := (⟨ak, tp, tn, tc, false⟩, av)) (unhide HA).2.1 ((unhide HB6).2.alloc (by have h9 := (unhide HB6).2.size; omega) _) ((unhide HB6).1.below ((Below.refl _ _).alloc (Nat.le_refl _) _)) hsz (by rw [unhide HKL]; exact hown6) hgrow6 hob6; have hbw := ((unhide HA).2.2.1.trans (((unhide HB6).2.alloc (by have h9 := (unhide HB6).2.size; omega) _).mono hsz)).grown hgrow6 (by have h9 := (unhide HB6).2.size; simp; omega) (fun q hq => ((unhide HA).2.1.1.1.lt q hq).1); have HJ := hide (And.intro hmr hbw); clear hmr hbw; rcases hown6.2 with ⟨_, hz9⟩ | ⟨g2, cap2, cur2, e2, _⟩; (exact absurd hz9 (by omega)); subst e2; clear hown6 hgrow6 hob6))
      all_goals
        go_wp2
        go_roundw
        case rel =>
          obtain ⟨hd, _, _, hdk⟩ := unhide HA
          refine ⟨k + 1, L' ++ [(⟨ak, tp, tn, tc, false⟩, av)], by omega, by go_num, by rw [List.length_append, unhide HKL]; rfl, ?_, (unhide HJ).1, (unhide HJ).2⟩
          rw [hdk, pdat_app, hd]
          rfl
        case measure => simp [intOf]; omega
    · have hlk : k = l := by omega
      have HA := hide (And.intro hd (And.intro hoo (And.intro hb hlk)))
      clear hd hoo hb hlk hst
      go_wp2
      go_ret
      obtain ⟨hd, hoo, hb, hlk⟩ := unhide HA
      refine ⟨_, rfl, L', ?_, hoo, hb⟩
      rw [hd, hlk, unhide HLN, ← pdat_len, List.take_length]
end Go.Proofs.Ytehafkbndjifaaa
