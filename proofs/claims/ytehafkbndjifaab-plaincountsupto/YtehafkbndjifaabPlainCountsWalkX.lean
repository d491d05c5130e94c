/- The walk of the law PlainCounts, of the landed package plain. -/
import Derived.Test.YtehafkbndjifaabG16
import Derived.Test.YtehafkbndjifaabG24
namespace Go.Proofs.Ytehafkbndjifaab
open Go.RowKit

theorem wi_nil (k : List UInt8) : wi [] [] k = true := by simp [wi, tl_nil]
theorem scan_all (l : List Pd) (m : Nat) (h : l.length ≤ m) : scanD l [] [] m = l := by
  unfold scanD
  rw [List.filter_eq_self.2 (fun x _ => wi_nil _), List.take_of_length_le h]
theorem get_mem {l : List Pd} (h : rightD l = true) (i : Nat) (hi : i < l.length) : getR l (kP l[i]) = some l[i].2 := by
  unfold getR
  rw [h]
  simp only [if_true]
  exact (look_mem (SP.of h) l[i]).1 (List.getElem_mem hi)
theorem right_bound {L : List El} (h : rightD (pdat L) = true) : (∀ x ∈ L, x.1.key.size + x.2.length ≤ 4160) ∧ ∀ k, k ≤ L.length → bytesP ((pdat L).take k) ≤ k * 4160 := by
  have hmy := ((right_iff _).1 h).2
  have hbd : ∀ x ∈ L, x.1.key.size + x.2.length ≤ 4160 := by
    intro x hx
    have := hmy (x.1.key, x.2) (List.mem_map.2 ⟨x, hx, rfl⟩)
    unfold pmay kmay at this
    simp only [Bool.and_eq_true, decide_eq_true_eq] at this
    omega
  refine ⟨hbd, fun k => ?_⟩
  induction k with
  | zero => intro _; simp [bytesP]
  | succ k ih =>
    intro hk
    rw [bytesP_take _ k (by rw [pdat_len]; omega), pdat_get L k (by omega)]
    have a := ih (by omega)
    have b := hbd _ (List.getElem_mem (show k < L.length by omega))
    simp only
    omega

set_option maxRecDepth 20000 in
set_option maxHeartbeats 4000000 in
theorem pcounts_any (v : Value) (L : List El) (w : World) (h : EL 2 prC w v L) (hv : ∀ x ∈ L, x.2.length ≤ 140737488351232) (hl : L.length ≤ 1048576) :
    Calls Try.prog 6 #[v] w fun e w' => e = .returned (.bool true) ∧ Below w.heap.size w w' := by
  have HAW := hide pawake_any
  have HSC := hide (pscan_any v L ⟨#[]⟩ ⟨#[]⟩ 2147483647 (by omega) w h (by omega) hv)
  rw [bl_nil] at HSC
  have HCK := hide (fun W hW => pcheck_any v L W (h.below hW))
  have HBY := hide (fun W hW => pbytes_any v L W (h.below hW) (by omega))
  cases hR : rightD (pdat L) with
  | false =>
    rw [hR] at HSC HCK HBY
    simp only [Bool.false_eq_true, if_false] at HSC HCK HBY
    obtain ⟨p, c, rfl, _⟩ := h.shape
    clear h hv hl hR
    go_enter Try.func6, Try.ntmps6
    go_wp2_with fail
    refine Calls.mono (unhide HSC) ?_
    rintro e w1 ⟨vs, Ls, rfl, hds, hos, hb1⟩
    have hs0 : Ls.length = 0 := by rw [← pdat_len, hds]; rfl
    obtain ⟨ps, cs, rfl⟩ := hos.1.shape
    rw [hs0]
    have HB1 := hide hb1
    clear hds hos hb1 hs0
    go_wp2_with fail
    refine Calls.mono (unhide HAW _) ?_
    rintro e w2 ⟨rfl, hb2⟩
    have HB2 := hide ((unhide HB1).trans (hb2.mono (unhide HB1).size))
    clear hb2
    go_wp2_with fail
    refine Calls.mono (unhide HCK _ (unhide HB2)) ?_
    rintro e w3 ⟨rfl, hb3⟩
    have HB3 := hide ((unhide HB2).trans (hb3.mono (unhide HB2).size))
    clear hb3
    go_wp2_with fail
    refine Calls.mono (unhide HAW _) ?_
    rintro e w4 ⟨rfl, hb4⟩
    have HB4 := hide ((unhide HB3).trans (hb4.mono (unhide HB3).size))
    clear hb4
    go_wp2_with fail
    refine Calls.mono (unhide HBY _ (unhide HB4)) ?_
    rintro e w5 ⟨rfl, hb5⟩
    have HB5 := hide ((unhide HB4).trans (hb5.mono (unhide HB4).size))
    clear hb5
    go_wp2
    go_ret
    exact ⟨rfl, unhide HB5⟩
  | true =>
    rw [hR] at HSC HCK HBY
    simp only [if_true] at HSC HCK HBY
    have hsa : scanD (pdat L) [] [] (2147483647 : Int).toNat = pdat L := scan_all _ _ (by rw [pdat_len]; simp; omega)
    rw [hsa] at HSC
    have HGT := hide (fun W hW key => pget_any v L key W (h.below hW) (by omega) hv)
    have HEL := hide (fun W (hW : Below w.heap.size w W) => h.below hW)
    obtain ⟨p, c, rfl, _⟩ := h.shape
    obtain ⟨hbd, hsum⟩ := right_bound hR
    have HF := hide (And.intro hR (And.intro hl (And.intro hbd hsum)))
    obtain ⟨N, hN⟩ : ∃ N, N = bytesP (pdat L) := ⟨_, rfl⟩
    rw [← hN] at HBY
    have HN := hide hN
    clear h hv hl hR hsa hbd hsum hN
    go_enter Try.func6, Try.ntmps6
    go_wp2_with fail
    refine Calls.mono (unhide HSC) ?_
    rintro e w1 ⟨vs, Ls, rfl, hds, hos, hb1⟩
    have hlen : Ls.length = L.length := by rw [← pdat_len, hds, pdat_len]
    obtain ⟨ps, cs, rfl⟩ := hos.1.shape
    have hels := hos.1.el prC_len
    rw [hlen] at hels ⊢
    obtain ⟨l, hll⟩ : ∃ l, l = L.length := ⟨_, rfl⟩
    rw [← hll] at hels HSC HCK HBY HGT HEL ⊢
    have HE1 := hide (And.intro hds (And.intro hels (And.intro hlen (And.intro hll hb1))))
    have hl0 : (l : Int) ≤ 1048576 := by have := (unhide HF).2.1; omega
    clear hds hos hb1 hels hlen hll
    go_wp2_with fail
    refine Calls.mono (unhide HAW _) ?_
    rintro e w2 ⟨rfl, hb2⟩
    have HB2 := hide (And.intro hb2 ((unhide HE1).2.2.2.2.trans (hb2.mono (unhide HE1).2.2.2.2.size)))
    clear hb2
    go_wp2_with fail
    refine Calls.mono (unhide HCK _ (unhide HB2).2) ?_
    rintro e w3 ⟨rfl, hb3⟩
    have HB3 := hide (And.intro ((unhide HB2).1.trans (hb3.mono (unhide HB2).1.size)) ((unhide HB2).2.trans (hb3.mono (unhide HB2).2.size)))
    clear hb3
    go_wp2
    go_loopw [4, 5] (fun s i wr => ∃ k n : Nat, k ≤ l ∧ i = .int .i64 k ∧ s = .int .i64 n ∧ Hid (n = bytesP ((pdat L).take k) ∧ Below w1.heap.size w1 wr ∧ Below w.heap.size w wr)) (fun _ i _ => l - (intOf i).toNat)
    case atStart => exact ⟨0, 0, Nat.zero_le _, rfl, rfl, by simp [bytesP], (unhide HB3).1, (unhide HB3).2⟩
    case round =>
      obtain ⟨k, n, hk, rfl, rfl, hst⟩ := hrel
      obtain ⟨hn, hb1, hb⟩ := unhide hst
      obtain ⟨hds, hels, hlen, hll, _⟩ := unhide HE1
      by_cases hlt : (k : Int) < (l : Int)
      · have hkS : k < Ls.length := by omega
        have hkL : k < L.length := by omega
        obtain ⟨b, o, cc, e9, y1, y2, hsn⟩ := hels.seenP (by omega)
        simp only [Value.slice.injEq] at e9
        obtain ⟨rfl, y3, rfl⟩ := e9
        clear y1 y2 y3
        have HSN := hide (fun W hW => hsn k hkS W hW)
        have hdk : (pdat L)[k]'(by rw [pdat_len]; exact hkL) = (Ls[k].1.key, Ls[k].2) := by
          rw [← pdat_get Ls k hkS]
          simp only [hds]
        have hgm := get_mem (unhide HF).1 k (by rw [pdat_len]; exact hkL)
        have hst' := bytesP_take (pdat L) k (by rw [pdat_len]; exact hkL)
        rw [hdk] at hgm hst'
        have hs0 := (unhide HF).2.2.2 k (by omega)
        have hkz : Ls[k].1.key.size + Ls[k].2.length ≤ 4160 := by
          have h9 := (unhide HF).2.2.1 _ (List.getElem_mem hkL)
          have e9 := pdat_get L k hkL
          rw [hdk] at e9
          simp only [Prod.mk.injEq] at e9
          rw [e9.1, e9.2]
          exact h9
        obtain ⟨a1, a2, ar⟩ := unhide HSN wr hb1
        have HGK := hide (unhide HGT wr hb Ls[k].1.key)
        unfold kP at hgm
        simp only at hgm
        rw [hgm] at HGK
        obtain ⟨rn, rl⟩ := row_n ar
        generalize Ls[k] = x at *
        obtain ⟨⟨ak, ap, an, ac, ad⟩, av⟩ := x
        unfold vof at *
        simp only at *
        subst rn
        have hl1 : (av.length : Int) ≤ 9223372036854775807 := by omega
        have w1' : IntKind.i64.wrap ((n : Int) + (ak.size : Int)) = ((n + ak.size : Nat) : Int) := by rw [IntKind.wrap_i64]; omega
        have w2' : IntKind.i64.wrap (((n + ak.size : Nat) : Int) + (av.length : Int)) = ((n + ak.size + av.length : Nat) : Int) := by rw [IntKind.wrap_i64]; omega
        have w3' : IntKind.i64.wrap ((n : Int) + (ak.size : Int) + (av.length : Int)) = ((n + ak.size + av.length : Nat) : Int) := by rw [IntKind.wrap_i64]; omega
        have HA := hide (And.intro hn (And.intro hst' (And.intro hb1 hb)))
        clear hn hb hb1 hkL hkS hdk ar hkz hst' rl hst hs0 hgm hds hels hlen hll hsn
        go_wp2_with fail
        refine Calls.mono (unhide HGK) ?_
        rintro e w4 ⟨t, rfl, hm4, hb4⟩
        obtain ⟨tp, tn, tc, rfl⟩ := mine_opv hm4
        have hb14 := (unhide HA).2.2.1.trans (hb4.mono (unhide HA).2.2.1.size)
        obtain ⟨c0, c1, cr⟩ := unhide HSN w4 hb14
        have HY := hide (bytes_any _ _ _ _ w4 hm4.1 cr)
        have HB4 := hide (And.intro hb14 ((unhide HA).2.2.2.trans (hb4.mono (unhide HA).2.2.2.size)))
        have e9 : ((some av).getD [] == av) = true := by simp
        rw [e9] at HY
        clear hm4 hb4 hb14 cr e9
        go_wp2_with fail
        refine Calls.mono (unhide HY) ?_
        rintro e w5 ⟨rfl, rfl⟩
        obtain ⟨CC, hCC⟩ : ∃ CC : World → Prop, CC = fun w' => Below w1.heap.size w1 w' ∧ Below w.heap.size w w' := ⟨_, rfl⟩
        have HC0 : Hid (CC { w5 with drawn := w5.drawn + 1 }) := by unfold Hid; rw [hCC]; exact ⟨(unhide HB4).1.drew, (unhide HB4).2.drew⟩
        have HCC : Hid (∀ w', CC w' → w'.cell? ⟨b, o + k * 2, none⟩ = some (.string ak) ∧ w'.cell? ⟨b, o + k * 2 + 1, none⟩ = some (.slice ap av.length ac)) := by
          unfold Hid
          rw [hCC]
          exact fun w' hw => ⟨(unhide HSN w' hw.1).1, (unhide HSN w' hw.1).2.1⟩
        have HCW : Hid (∀ w', CC w' → Below w1.heap.size w1 w' ∧ Below w.heap.size w w') := by unfold Hid; rw [hCC]; exact fun w' hw => hw
        clear hCC c0 c1
        go_wp2_with fail
        refine region_calm CC (by kernel_rfl) (by kernel_rfl) (unhide HC0) ?_
        repeat (first
          | go_big_quiet_skip
          | (go_big_quiet_want
             apply Exists.intro
             refine ⟨fun w' hw' => ?_, ?_⟩
             · obtain ⟨c0, c1⟩ := unhide HCC w' hw'
               go_simp
               first | done | rfl
             simp only [Act.put, List.setIfInBounds_toArray, List.set_cons_zero, List.set_cons_succ]
             go_big_quiet_on))
        refine wpQuiet_nil ?_
        intro w' hw'
        have HBW := hide (unhide HCW w' hw')
        clear hw' HC0 HCC HCW
        go_wp2
        obtain ⟨hn, hst', hb1, hb⟩ := unhide HA
        go_roundw
        case rel => exact ⟨k + 1, n + ak.size + av.length, by omega, by go_num, by first | rfl | (congr 1; omega), by rw [hst']; omega, (unhide HBW).1, (unhide HBW).2⟩
        case measure => simp [intOf]; omega
      · have hkl : k = L.length := by omega
        have hnN : n = N := by rw [unhide HN, hn, hkl, ← pdat_len, List.take_length]
        subst hnN
        have HBY2 := hide (unhide HBY wr hb)
        have HPR := hide (fun W (hW : Below wr.heap.size wr W) => hpairs_any _ _ Ls L W (hels.below (hb1.trans (hW.mono hb1.size))) (unhide HEL W (hb.trans (hW.mono hb.size))))
        have hT : decide (pdat Ls = pdat L) = true := decide_eq_true hds
        rw [hT] at HPR
        have HB := hide hb
        clear hst hn hb1 hb hds hels hlen hll hkl hT
        go_wp2_with fail
        refine Calls.mono (unhide HBY2) ?_
        rintro e w4 ⟨rfl, hb4⟩
        have HP4 := hide (unhide HPR w4 hb4)
        have HB4 := hide ((unhide HB).trans (hb4.mono (unhide HB).size))
        clear hb4
        go_wp2_with fail
        refine Calls.mono (unhide HP4) ?_
        rintro e w5 ⟨rfl, hb5⟩
        have HB5 := hide ((unhide HB4).trans (hb5.mono (unhide HB4).size))
        clear hb5
        go_wp2
        go_ret
        exact ⟨rfl, unhide HB5⟩

theorem walk_PlainCounts (s0 : Value) (d0 : Dt) (w : World) (h0 : Reads limUpto w (.row 40 prSh) [s0] d0) :
    Calls Try.prog 6 #[s0] w fun e w' => e = .returned (.bool true) ∧ Below w.heap.size w w' := by
  obtain ⟨L, e0, o0, l0⟩ := prs_of_reads lim_upto h0
  unfold limUpto at l0
  exact pcounts_any s0 L w e0 (fun x hx => (o0 x hx).2.1) l0
end Go.Proofs.Ytehafkbndjifaab
