/- Texts of ours, one behind the other: OpRCheck. -/
import Derived.Test.YtehafkbndjifaaaG12
/- The document's own answers: Size, Check of operations. -/
namespace Go.Proofs.Ytehafkbndjifaaa
open Go.RowKit

theorem sat3 (n a b : Nat) (hn : n ≤ 2147483647) (_ : a ≤ 9223372036854775807) (_ : b ≤ 9223372036854775807) :
    (if IntKind.i64.wrap (IntKind.i64.wrap ((n : Int) + if (a : Int) < 2147483647 then (a : Int) else 2147483647) + if (b : Int) < 2147483647 then (b : Int) else 2147483647) < 2147483647 then
      IntKind.i64.wrap (IntKind.i64.wrap ((n : Int) + if (a : Int) < 2147483647 then (a : Int) else 2147483647) + if (b : Int) < 2147483647 then (b : Int) else 2147483647) else 2147483647) = ((min 2147483647 (n + a + b) : Nat) : Int) := by
  simp only [IntKind.wrap_i64]
  (repeat' split) <;> omega

set_option maxRecDepth 20000 in
set_option maxHeartbeats 2000000 in
theorem rsize_any (v : Value) (L : List El) (w : World) (h : EL 3 opC w v L) (hks : ∀ x ∈ L, x.1.key.size ≤ 140737488351232) :
    Calls Try.prog 69 #[v] w fun e w' => e = .returned (.int .i64 (sizeN (dat L) : Int)) ∧ Below w.heap.size w w' := by
  by_cases h0 : L.length = 0
  · obtain ⟨p1, c1, rfl, _⟩ := h.shape
    obtain rfl : L = [] := List.eq_nil_of_length_eq_zero h0
    go_enter Try.func69, Try.ntmps69
    go_wp2
    refine wp_loop_rounds 1 ?_
    rw [rounds_succ]
    go_wp2
    go_ret
    exact ⟨rfl, Below.refl _ _⟩
  obtain ⟨b1, o1, c1, rfl, k1, k2, hsn⟩ := h.seen (by omega)
  obtain ⟨l, hl⟩ : ∃ l, l = L.length := ⟨_, rfl⟩
  rw [← hl] at k1 ⊢
  unfold maxLen at k2
  have hl0 : (l : Int) ≤ 9223372036854775807 := by omega
  have HSN := hide hsn
  have HLN := hide hl
  have HKS := hide hks
  obtain ⟨N, hN⟩ : ∃ N, N = sizeN (dat L) := ⟨_, rfl⟩
  rw [← hN]
  have HN := hide hN
  clear h hsn k1 k2 hl h0 hks hN
  go_enter Try.func69, Try.ntmps69
  go_wp2
  go_loopw [3, 4] (fun s i wr => ∃ k n : Nat, k ≤ l ∧ i = .int .i64 k ∧ s = .int .i64 n ∧ Hid (n = min 2147483647 (sumD ((dat L).take k)) ∧ Below w.heap.size w wr)) (fun _ i _ => l - (intOf i).toNat)
  case atStart => exact ⟨0, 0, Nat.zero_le _, rfl, rfl, by simp [sumD], Below.refl _ _⟩
  case round =>
    obtain ⟨k, n, hk, rfl, rfl, hst⟩ := hrel
    obtain ⟨hn, hb⟩ := unhide hst
    by_cases hlt : (k : Int) < (l : Int)
    · have hkL : k < L.length := by have := unhide HLN; omega
      have hkz := unhide HKS _ (List.getElem_mem hkL)
      have hst' := sumD_take (dat L) k (by rw [dat_len]; exact hkL)
      rw [dat_at L k hkL] at hst'
      have hrn := row_n (unhide HSN k hkL wr hb).2.2.2
      have HCC : Hid (∀ w', Below w.heap.size w w' → w'.cell? ⟨b1, o1 + k * 3, none⟩ = some (.string L[k].1.key) ∧ w'.cell? ⟨b1, o1 + k * 3 + 1, none⟩ = some (vof L[k].1)) := fun w' hw => ⟨(unhide HSN k hkL w' hw).1, (unhide HSN k hkL w' hw).2.1⟩
      generalize L[k] = x at *
      obtain ⟨⟨ak, ap, an, ac, ad⟩, av⟩ := x
      unfold vof at HCC
      unfold datOf at hst'
      simp only at HCC hst' hkz hrn
      obtain ⟨rn, rl⟩ := hrn
      subst rn
      obtain ⟨CC, hCC⟩ : ∃ CC : World → Prop, CC = fun w' => Below w.heap.size w w' := ⟨_, rfl⟩
      have HC0 : Hid (CC { wr with drawn := wr.drawn + 1 }) := by rw [hCC]; exact hb.drew
      have HCW : Hid (∀ w', CC w' → Below w.heap.size w w') := by rw [hCC]; exact fun w' hw => hw
      have HC2 : Hid (∀ w', CC w' → w'.cell? ⟨b1, o1 + k * 3, none⟩ = some (.string ak) ∧ w'.cell? ⟨b1, o1 + k * 3 + 1, none⟩ = some (.slice ap av.length ac)) := by rw [hCC]; exact unhide HCC
      obtain ⟨n3, hn3⟩ : ∃ n3 : Nat, n3 = min 2147483647 (n + min 2147483647 ak.size + min 2147483647 av.length) := ⟨_, rfl⟩
      have hn0 : n ≤ 2147483647 := by omega
      have HA := hide (And.intro hn (And.intro hst' hn3))
      have hak : (ak.size : Int) ≤ 140737488351232 := by omega
      have hav : (av.length : Int) ≤ 9223372036854775807 := by omega
      have hnI : (n : Int) ≤ 2147483647 := by omega
      clear hn hb hkL hkz hst' rl hst hCC HCC hn3 hn0
      go_wp2_with fail
      refine region_stay CC (by kernel_rfl) (by kernel_rfl) (unhide HC0) ?_
      repeat (first
        | go_big_quiet_skip
        | (go_big_quiet_want
           apply Exists.intro
           refine ⟨fun w' hw' => ?_, ?_⟩
           · obtain ⟨c0, c1⟩ := unhide HC2 w' hw'
             go_simp
             first | done | rfl
           simp only [Act.put, List.setIfInBounds_toArray, List.set_cons_zero, List.set_cons_succ]
           go_big_quiet_on))
      refine wpQuiet_nil ?_
      intro w' hw'
      have HBW := hide (unhide HCW w' hw')
      clear hw' HC2 HC0
      go_wp2
      obtain ⟨hn, hst', hn3⟩ := unhide HA
      go_roundw
      case rel => exact ⟨k + 1, min 2147483647 (n + ak.size + av.length), by omega, by go_num, by rw [sat3 n ak.size av.length (by omega) (by omega) (by omega)], by rw [hst']; omega, unhide HBW⟩
      case measure => simp [intOf]; omega
    · have HA := hide (And.intro hn hb)
      clear hn hb hst
      go_wp2
      go_ret
      obtain ⟨hn, hb⟩ := unhide HA
      refine ⟨?_, hb⟩
      have e : n = N := by
        rw [unhide HN, hn]
        have hkl : k = L.length := by have := unhide HLN; omega
        unfold sizeN
        rw [hkl, ← dat_len, List.take_length]
      subst e
      rfl

set_option maxRecDepth 20000 in
set_option maxHeartbeats 4000000 in
theorem rcheck_any (v : Value) (L : List El) (w : World) (h : EL 3 opC w v L) (hks : ∀ x ∈ L, x.1.key.size ≤ 140737488351232) :
    Calls Try.prog 48 #[v] w fun e w' => e = .returned (.int .i64 (chkE (dat L))) ∧ Below w.heap.size w w' := by
  have HS := hide (fun W hb => rsize_any v L W (h.below hb) hks)
  have hE : chkE (dat L) = if L.length = 0 then 1 else if L.any (fun x => wrongD (datOf x)) then 1 else if 32 < L.length then 4 else if L.any (fun x => largeD (datOf x)) then 4 else if 32768 < sizeN (dat L) then 4 else 0 := by
    unfold chkE
    rw [dat_len, dat_any, dat_any]
  by_cases h0 : L.length = 0
  · obtain ⟨p1, c1, rfl, _⟩ := h.shape
    rw [hE, if_pos h0, h0]
    go_enter Try.func48, Try.ntmps48
    go_wp2
    go_ret
    exact ⟨rfl, Below.refl _ _⟩
  rw [if_neg h0] at hE
  obtain ⟨b1, o1, c1, rfl, k1, k2, hsn⟩ := h.seen (by omega)
  have hsz : sizeN (dat L) ≤ 2147483647 := by unfold sizeN; omega
  generalize chkE (dat L) = R at *
  generalize sizeN (dat L) = Z at *
  obtain ⟨l, hl⟩ : ∃ l, l = L.length := ⟨_, rfl⟩
  rw [← hl] at k1 hE HS ⊢
  unfold maxLen at k2
  have hl0 : (l : Int) ≤ 9223372036854775807 := by omega
  have hl1 : ((l : Int) == 0) = false := by simp; omega
  have HSN := hide hsn
  have HLN := hide hl
  have HE := hide hE
  clear h hks hE k1 k2 hsn hl h0
  go_enter Try.func48, Try.ntmps48
  go_wp2
  go_loopw [3] (fun i wr => ∃ k : Nat, k ≤ l ∧ i = .int .i64 k ∧ Hid ((L.take k).any (fun x => wrongD (datOf x)) = false ∧ Below w.heap.size w wr)) (fun i _ => l - (intOf i).toNat)
  case atStart => exact ⟨0, Nat.zero_le _, rfl, rfl, Below.refl _ _⟩
  case round =>
    obtain ⟨k, hk, rfl, hst⟩ := hrel
    obtain ⟨hn, hb⟩ := unhide hst
    by_cases hlt : (k : Int) < (l : Int)
    · have hkL : k < L.length := by have := unhide HLN; omega
      obtain ⟨a1, a2, a3, ar⟩ := unhide HSN k hkL wr hb
      obtain ⟨rn, rl⟩ := row_n ar
      have htk : (L.take (k + 1)).any (fun x => wrongD (datOf x)) = ((L.take k).any (fun x => wrongD (datOf x)) || wrongD (datOf L[k])) := by rw [List.take_succ_eq_append_getElem hkL, List.any_append]; simp
      have hyes : wrongD (datOf L[k]) = true → L.any (fun x => wrongD (datOf x)) = true := fun hp => List.any_eq_true.2 ⟨_, List.getElem_mem hkL, hp⟩
      have hdef : wrongD (datOf L[k]) = (!kmayB L[k].1.key || (L[k].1.del && decide (0 < L[k].2.length))) := rfl
      generalize wrongD (datOf L[k]) = PX at *
      generalize L[k] = x at *
      obtain ⟨⟨ak, ap, an, ac, ad⟩, av⟩ := x
      unfold vof at *
      simp only at *
      subst rn
      have HK : Hid (∀ W, Calls Try.prog 31 #[.string ak] W fun e w' => e = .returned (.bool (kmayB ak)) ∧ w' = W) := fun W => rmay_any ak W
      have HA := hide (And.intro hn (And.intro htk (And.intro hyes (And.intro hb hdef))))
      have hav : (av.length : Int) ≤ 9223372036854775807 := by omega
      have w3 : IntKind.i64.wrap ((k : Int) + 1) = (k : Int) + 1 := by rw [IntKind.wrap_i64]; omega
      generalize kmayB ak = KB at *
      generalize av.length = n at *
      clear hn hb hkL ar htk hyes hst rl hdef
      cases KB with
      | false =>
        go_wp2_with (go_at_call 31; refine Calls.mono (unhide HK _) ?_; rintro e w' ⟨rfl, rfl⟩)
        go_ret
        obtain ⟨hn, htk, hyes, hb, hdef⟩ := unhide HA
        refine ⟨?_, hb⟩
        rw [unhide HE, if_pos (hyes (by rw [hdef]; rfl))]
        rfl
      | true =>
        cases ad with
        | false =>
          go_wp2_with (go_at_call 31; refine Calls.mono (unhide HK _) ?_; rintro e w' ⟨rfl, rfl⟩)
          obtain ⟨hn, htk, hyes, hb, hdef⟩ := unhide HA
          go_roundw
          case rel => exact ⟨k + 1, by omega, by go_num, by rw [htk, hn, hdef]; rfl, hb⟩
          case measure => simp [intOf]; omega
        | true =>
          by_cases hn0 : (0 : Nat) < n
          · have hn1 : decide ((0 : Int) < (n : Int)) = true := decide_eq_true (by omega)
            go_wp2_with (go_at_call 31; refine Calls.mono (unhide HK _) ?_; rintro e w' ⟨rfl, rfl⟩)
            go_ret
            obtain ⟨hn, htk, hyes, hb, hdef⟩ := unhide HA
            refine ⟨?_, hb⟩
            rw [unhide HE, if_pos (hyes (by rw [hdef]; simp [hn0]))]
            rfl
          · have hz : n = 0 := by omega
            subst hz
            go_wp2_with (go_at_call 31; refine Calls.mono (unhide HK _) ?_; rintro e w' ⟨rfl, rfl⟩)
            obtain ⟨hn, htk, hyes, hb, hdef⟩ := unhide HA
            go_roundw
            case rel => exact ⟨k + 1, by omega, by go_num, by rw [htk, hn, hdef]; rfl, hb⟩
            case measure => simp [intOf]; omega
    · have hkl : k = l := by omega
      subst hkl
      have HNW : Hid (L.any (fun x => wrongD (datOf x)) = false) := by
        have := hn
        rw [unhide HLN, List.take_length] at this
        exact this
      have HBQ : Hid (Below w.heap.size w wr) := hb
      clear hn hb hst hlt
      go_wp2
      go_loopw [4] (fun i wr => ∃ q : Nat, q ≤ k ∧ i = .int .i64 q ∧ Hid ((L.take q).any (fun x => largeD (datOf x)) = false ∧ Below w.heap.size w wr)) (fun i _ => k - (intOf i).toNat)
      case atStart => exact ⟨0, Nat.zero_le _, rfl, rfl, unhide HBQ⟩
      case round =>
        obtain ⟨q, hq, rfl, hst⟩ := hrel
        obtain ⟨hn, hb⟩ := unhide hst
        clear HBQ
        by_cases hlt : (q : Int) < (k : Int)
        · have hkL : q < L.length := by have := unhide HLN; omega
          obtain ⟨a1, a2, a3, ar⟩ := unhide HSN q hkL wr hb
          obtain ⟨rn, rl⟩ := row_n ar
          have htk : (L.take (q + 1)).any (fun x => largeD (datOf x)) = ((L.take q).any (fun x => largeD (datOf x)) || largeD (datOf L[q])) := by rw [List.take_succ_eq_append_getElem hkL, List.any_append]; simp
          have hyes : largeD (datOf L[q]) = true → L.any (fun x => largeD (datOf x)) = true := fun hp => List.any_eq_true.2 ⟨_, List.getElem_mem hkL, hp⟩
          have hdef : largeD (datOf L[q]) = decide (4096 < L[q].2.length) := rfl
          generalize largeD (datOf L[q]) = PX at *
          generalize L[q] = x at *
          obtain ⟨⟨ak, ap, an, ac, ad⟩, av⟩ := x
          unfold vof at *
          simp only at *
          subst rn
          have HA := hide (And.intro hn (And.intro htk (And.intro hyes (And.intro hb hdef))))
          have hav : (av.length : Int) ≤ 9223372036854775807 := by omega
          have w3 : IntKind.i64.wrap ((q : Int) + 1) = (q : Int) + 1 := by rw [IntKind.wrap_i64]; omega
          generalize av.length = n at *
          clear hn hb hkL ar htk hyes hst rl hdef
          by_cases hn0 : (4096 : Int) < (n : Int)
          · go_wp2
            go_ret
            obtain ⟨hn, htk, hyes, hb, hdef⟩ := unhide HA
            refine ⟨?_, hb⟩
            rw [unhide HE, if_neg (by rw [unhide HNW]; simp)]
            split
            · rfl
            · rw [if_pos (hyes (by rw [hdef]; exact decide_eq_true (by omega)))]
              rfl
          · go_wp2
            obtain ⟨hn, htk, hyes, hb, hdef⟩ := unhide HA
            go_roundw
            case rel => exact ⟨q + 1, by omega, by go_num, by rw [htk, hn, hdef]; simp; omega, hb⟩
            case measure => simp [intOf]; omega
        · have hkl : q = k := by omega
          subst hkl
          have HNL : Hid (L.any (fun x => largeD (datOf x)) = false) := by
            have := hn
            rw [unhide HLN, List.take_length] at this
            exact this
          have HBQ : Hid (Below w.heap.size w wr) := hb
          clear hn hb hst hlt
          by_cases h32 : (32 : Int) < (q : Int)
          · go_wp2
            go_ret
            refine ⟨?_, unhide HBQ⟩
            rw [unhide HE, if_neg (by rw [unhide HNW]; simp), if_pos (by omega)]
            rfl
          · have hN32 : Hid (¬ 32 < q) := by unfold Hid; omega
            have HS2 := hide (unhide HS wr (unhide HBQ))
            by_cases hz : (32768 : Int) < (Z : Int)
            · go_wp2_with (go_at_call 69; refine Calls.mono (unhide HS2) ?_; rintro e w2 ⟨rfl, hb2⟩; have HB2 := hide ((unhide HBQ).trans (hb2.mono (unhide HBQ).size)); clear hb2)
              go_ret
              refine ⟨?_, unhide HB2⟩
              rw [unhide HE, if_neg (by rw [unhide HNW]; simp), if_neg (unhide hN32), if_neg (by rw [unhide HNL]; simp), if_pos (by omega)]
              rfl
            · have hNZ : Hid (¬ 32768 < Z) := by unfold Hid; omega
              go_wp2_with (go_at_call 69; refine Calls.mono (unhide HS2) ?_; rintro e w2 ⟨rfl, hb2⟩; have HB2 := hide ((unhide HBQ).trans (hb2.mono (unhide HBQ).size)); clear hb2)
              go_ret
              refine ⟨?_, unhide HB2⟩
              rw [unhide HE, if_neg (by rw [unhide HNW]; simp), if_neg (unhide hN32), if_neg (by rw [unhide HNL]; simp), if_neg (unhide hNZ)]
              rfl
end Go.Proofs.Ytehafkbndjifaaa
