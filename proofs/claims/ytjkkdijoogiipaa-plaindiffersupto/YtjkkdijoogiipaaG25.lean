/- Texts of ours, one behind the other: PlLaw1, PlLaw2, PlRef1, PlCopy. -/
import Derived.Test.YtjkkdijoogiipaaG13
import Derived.Test.YtjkkdijoogiipaaG14
import Derived.Test.YtjkkdijoogiipaaG16
import Derived.Test.YtjkkdijoogiipaaG23
import Derived.Test.YtjkkdijoogiipaaG24
import Derived.Lib.SlBytesConst
/- The statements of layer 11: awake; pairs that came in, by shapes. -/
namespace Go.Proofs.Ytjkkdijoogiipaa
open Go.RowKit

def prSh : Sh := .struct (.cons .str (.cons (.row 1 (.int .u8)) .nil))
theorem pr_reads {lim : Nat → Nat → Prop} (hlim : LimOk lim) {w : World} (cs : List Value) (d : Dt) (h : Reads lim w prSh cs d) : ∃ x : El, cs = prC x.1 ∧ ElOk w x := by
  obtain ⟨c1, r1, d1, dr1, rfl, _, rfl, ⟨s, rfl, _, hs, _⟩, c2, r2, d2, dr2, rfl, hl2, rfl, h2, rfl, _⟩ := h
  have hc2 : ∃ v, c2 = [v] := by
    match c2, hl2 with
    | [v], _ => exact ⟨v, rfl⟩
  obtain ⟨v, rfl⟩ := hc2
  obtain ⟨bs, hr, hb⟩ := row_reads hlim h2
  obtain ⟨p, c, l, rfl, _⟩ := hr.shape
  exact ⟨(⟨s, p, l, c, false⟩, bs), rfl, hr, hb, hlim.one _ hs⟩
theorem prs_of_reads {lim : Nat → Nat → Prop} (hlim : LimOk lim) {w : World} {v : Value} {d : Dt} (h : Reads lim w (.row 40 prSh) [v] d) : ∃ L : List El, EL 2 prC w v L ∧ (∀ x ∈ L, ElOk w x) ∧ lim L.length 40 :=
  el_of_reads (by omega) prC_len rfl (pr_reads hlim) h

set_option maxRecDepth 20000 in
set_option maxHeartbeats 4000000 in
theorem pawake_any (w : World) : Calls Try.prog 6 #[] w fun e w' => e = .returned (.bool true) ∧ Below w.heap.size w w' := by
  have hcv := Lib.run_convert_bytes_const (P := Try.prog) w 29 5 #[.int .u8 49] 1 1 Try.underlying29 Try.underlying5
  obtain ⟨ka, hka⟩ : ∃ ka : ByteArray, ka = ⟨#[97]⟩ := ⟨_, rfl⟩
  obtain ⟨x, hx⟩ : ∃ x : El, x = (⟨ka, some ⟨w.heap.size, 0, none⟩, 1, 1, false⟩, [49]) := ⟨_, rfl⟩
  obtain ⟨W2, hW2⟩ : ∃ W2, W2 = (w.alloc (.cells #[.int .u8 49] 5 (1, 1 + 1))).alloc (.cells #[.string ka, .slice (some ⟨w.heap.size, 0, none⟩) 1 1, .bool false] 45) := ⟨_, rfl⟩
  have hb2 : Below w.heap.size w W2 := by rw [hW2]; exact ((Below.refl _ _).alloc (Nat.le_refl _) _).alloc (by simp) _
  have hrow : Row W2 (vof x.1) x.2 := by
    rw [hx]
    refine ⟨_, 1, rfl, Nat.le_refl _, by unfold maxLen; omega, fun e => (by cases e), Or.inr ⟨w.heap.size, 0, rfl, fun j hj => ?_⟩⟩
    have hj0 : j = 0 := by simp at hj; exact hj
    subst hj0
    have c0 : (w.alloc (.cells #[.int .u8 49] 5 (1, 1 + 1))).cell? ⟨w.heap.size, 0, none⟩ = some (B 49) := by
      rw [cell_of_row _ _ 0 _ _ (1, 1 + 1) (heap_alloc_new _ _)]
      rfl
    rw [hW2]
    exact (((Below.refl _ _).alloc (Nat.le_refl _) _).cell (World.block_lt_of_cell? _ _ c0)).trans c0
  have hel : EL 3 opC W2 (.slice (some ⟨w.heap.size + 1, 0, none⟩) 1 1) [x] := by
    refine ⟨⟨_, 1, rfl, Nat.le_refl _, by unfold maxLen; omega, fun e => (by cases e), rfl, Or.inr ⟨w.heap.size + 1, 0, rfl, fun j u hu => ?_⟩⟩, fun y hy => by rw [List.mem_singleton.1 hy]; exact hrow⟩
    rw [hx, elC_one] at hu
    rw [hW2]
    match j, hu with
    | 0, hu => simp [opC] at hu; subst hu; simp
    | 1, hu => simp [opC] at hu; subst hu; simp
    | 2, hu => simp [opC] at hu; subst hu; simp
  have hdt : dat [x] = [(ka, [49], false)] := by rw [hx]; rfl
  have hks : ka.size = 1 := by rw [hka]; rfl
  have hchk : chkE [(ka, [49], false)] = 0 := by
    unfold chkE
    simp [wrongD, largeD, kmayB, sizeN, sumD, hks]
  have hdo := pdo_any (.slice none 0 0) (.slice (some ⟨w.heap.size + 1, 0, none⟩) 1 1) [] [x] W2 (EL.nil 2 prC W2) hel (by simp) (fun y hy => by cases hy) (fun y hy => by rw [List.mem_singleton.1 hy, hx]; simp) (fun y hy => by rw [List.mem_singleton.1 hy, hx]; simp only; omega)
  have hE : doE (pdat []) (dat [x]) = 0 := by
    rw [hdt]
    unfold doE
    exact hchk
  have hD : doD (pdat []) (dat [x]) = [(ka, [49])] := by
    rw [hdt]
    simp [doD, oneD, pdat, plc]
  rw [hE, hD] at hdo
  have HDO : Hid (Calls Try.prog 17 #[.slice none 0 0, .slice (some ⟨w.heap.size + 1, 0, none⟩) 1 1] W2 fun e w' => ∃ p c, e = .returned (.tuple #[.slice p 1 c, .int .i64 0]) ∧ Hid (Below w.heap.size w w' ∧ ∀ W, Below w'.heap.size w' W → Calls Try.prog 18 #[.slice p 1 c] W fun e w'' => e = .returned (.int .i64 2) ∧ Below W.heap.size W w'')) := by
    refine hdo.mono ?_
    rintro e w' ⟨v', L', rfl, hd', ho', hb'⟩
    simp only [if_true] at hd'
    have hL1 : L'.length = 1 := by rw [← pdat_len, hd']; rfl
    obtain ⟨p, c, rfl⟩ := ho'.1.shape
    rw [hL1]
    refine ⟨p, c, rfl, hb2.trans (hb'.mono hb2.size), fun W hW => ?_⟩
    have hel' := (ho'.1.el prC_len).below hW
    rw [hL1] at hel'
    have := pbytes_any _ L' W hel' (by omega)
    rw [hd'] at this
    have hrt : rightD [(ka, [49])] = true := by
      rw [right_iff]
      refine ⟨by unfold SP; simp, fun y hy => ?_⟩
      rw [List.mem_singleton.1 hy]
      simp [pmay, kmay, hks]
    rw [hrt] at this
    have hby : bytesP [(ka, [49])] = 2 := by simp [bytesP, hks]
    rw [hby] at this
    exact this
  have HW2 := hide hW2
  rw [hka] at HW2
  clear hdo hE hD hchk hdt hel hrow hb2 hW2 hx hks hka x
  go_enter Try.func6, Try.ntmps6
  go_wp2_with fail
  rw [← unhide HW2]
  refine Calls.mono (unhide HDO) ?_
  rintro e w3 ⟨p, c, rfl, HQ⟩
  go_wp2_with fail
  refine Calls.mono ((unhide HQ).2 _ (Below.refl _ _)) ?_
  rintro e w4 ⟨rfl, hb4⟩
  have HZ := hide ((unhide HQ).1.trans (hb4.mono (unhide HQ).1.size))
  clear hb4
  go_wp2
  go_ret
  exact ⟨rfl, unhide HZ⟩
end Go.Proofs.Ytjkkdijoogiipaa

/- What operations make of pairs that may be: bounds. -/
namespace Go.Proofs.Ytjkkdijoogiipaa
open Go.RowKit

/-- The values of what Do answers are no longer than those that came in. -/
theorem do_bound {L M L' : List El} (hsp : SP (pdat L)) (hd : pdat L' = doD (pdat L) (dat M)) (h1 : ∀ x ∈ L, x.2.length ≤ 140737488351232) (h2 : ∀ x ∈ M, x.2.length ≤ 140737488351232) : ∀ x ∈ L', x.2.length ≤ 140737488351232 := by
  intro x hx
  have hm : (x.1.key, x.2) ∈ doD (pdat L) (dat M) := by rw [← hd]; exact List.mem_map.2 ⟨x, hx, rfl⟩
  rcases (doD_all hsp (dat M)).2.2 _ hm with h | ⟨o, ho, e, _⟩
  · obtain ⟨y, hy, e⟩ := List.mem_map.1 h
    simp only [Prod.mk.injEq] at e
    rw [← e.2]
    exact h1 y hy
  · obtain ⟨y, hy, rfl⟩ := List.mem_map.1 ho
    simp only [Prod.mk.injEq] at e
    rw [e.2]
    exact h2 y hy
theorem do_len {L M L' : List El} (hd : pdat L' = doD (pdat L) (dat M)) : L'.length ≤ L.length + M.length := by
  have := doD_len (pdat L) (dat M)
  rw [pdat_len, dat_len, ← hd, pdat_len] at this
  exact this
theorem chk_len {l : List Dat} (h : chkE l = 0) : 0 < l.length ∧ l.length ≤ 32 := by
  unfold chkE at h
  split at h
  · cases h
  · split at h
    · cases h
    · split at h
      · cases h
      · omega
theorem doE_zero {l : List Pd} {ops : List Dat} (h : doE l ops = 0) : rightD l = true ∧ chkE ops = 0 := by
  unfold doE at h
  split at h
  · exact ⟨by assumption, h⟩
  · cases h
end Go.Proofs.Ytjkkdijoogiipaa

/- The document's own answer: Right. -/
namespace Go.Proofs.Ytjkkdijoogiipaa
open Go.RowKit

set_option maxRecDepth 20000 in
set_option maxHeartbeats 4000000 in
theorem rright_any (v : Value) (L : List El) (w : World) (h : EL 2 prC w v L) (hks : ∀ x ∈ L, x.1.key.size ≤ 140737488351232) :
    Calls Try.prog 21 #[v] w fun e w' => e = .returned (.bool (rightD (pdat L))) ∧ Below w.heap.size w w' := by
  by_cases h0 : L.length = 0
  · obtain ⟨p1, c1, rfl, _⟩ := h.shape
    obtain rfl : L = [] := List.eq_nil_of_length_eq_zero h0
    go_enter Try.func21, Try.ntmps21
    go_wp2
    refine wp_loop_rounds 1 ?_
    rw [rounds_succ]
    go_wp2
    go_ret
    exact ⟨rfl, Below.refl _ _⟩
  obtain ⟨b1, o1, c1, rfl, k1, k2, hsn⟩ := h.seenP (by omega)
  obtain ⟨l, hl⟩ : ∃ l, l = L.length := ⟨_, rfl⟩
  rw [← hl] at k1 ⊢
  unfold maxLen at k2
  have hl0 : (l : Int) ≤ 9223372036854775807 := by omega
  have HSN := hide hsn
  have HLN := hide hl
  have HKS := hide hks
  obtain ⟨R, hR⟩ : ∃ R, R = rightD (pdat L) := ⟨_, rfl⟩
  rw [← hR]
  have HR := hide hR
  clear h hsn k1 k2 hl h0 hR hks
  go_enter Try.func21, Try.ntmps21
  go_wp2
  go_loopw [3] (fun i wr => ∃ k : Nat, k ≤ l ∧ i = .int .i64 k ∧ Hid ((∀ j (h : j < (pdat L).length), j < k → okP (pdat L)[j] j ((pdat L)[j - 1]'(by omega)) = true) ∧ Below w.heap.size w wr)) (fun i _ => l - (intOf i).toNat)
  case atStart => exact ⟨0, Nat.zero_le _, rfl, fun j _ hj => by omega, Below.refl _ _⟩
  case round =>
    obtain ⟨k, hk, rfl, hst⟩ := hrel
    obtain ⟨hn, hb⟩ := unhide hst
    by_cases hlt : (k : Int) < (l : Int)
    · have hl := unhide HLN
      have i1 : k < L.length := by omega
      have i0 : k - 1 < L.length := by omega
      have e1 : (pdat L)[k]'(by rw [pdat_len]; exact i1) = (L[k].1.key, L[k].2) := pdat_get L k i1
      have e0 : (pdat L)[k - 1]'(by rw [pdat_len]; exact i0) = (L[k - 1].1.key, L[k - 1].2) := pdat_get L (k - 1) i0
      have hyes : okP (L[k].1.key, L[k].2) k (L[k - 1].1.key, L[k - 1].2) = true → ∀ j (h : j < (pdat L).length), j < k + 1 → okP (pdat L)[j] j ((pdat L)[j - 1]'(by omega)) = true := by
        intro ho j hj hjk
        by_cases g : j = k
        · subst g
          rw [e1, e0]
          exact ho
        · exact hn j hj (by omega)
      have hno : okP (L[k].1.key, L[k].2) k (L[k - 1].1.key, L[k - 1].2) = false → R = false := by
        intro ho
        rw [unhide HR]
        refine right_no (pdat L) k (by rw [pdat_len]; exact i1) ?_
        rw [e1, e0]
        exact ho
      have HS := hide (fun W hW => And.intro (unhide HSN k i1 W hW) (unhide HSN (k - 1) i0 W hW))
      obtain ⟨⟨a1, a2, ar⟩, a3, a4, ar0⟩ := unhide HS wr hb
      obtain ⟨rn, rl⟩ := row_n ar
      have HLS := hide (fun W => rless_any L[k - 1].1.key L[k].1.key W (unhide HKS _ (List.getElem_mem i0)))
      have HOK : Hid (okP (L[k].1.key, L[k].2) k (L[k - 1].1.key, L[k - 1].2) = ((kmay L[k].1.key && decide (L[k].2.length ≤ 4096)) && (decide (k = 0) || tl L[k - 1].1.key.toList L[k].1.key.toList))) := rfl
      generalize okP (L[k].1.key, L[k].2) k (L[k - 1].1.key, L[k - 1].2) = OK at *
      generalize L[k] = x at *
      generalize L[k - 1] = y at *
      obtain ⟨⟨ak, ap, an, ac, ad⟩, av⟩ := x
      obtain ⟨⟨bk, bp, bn, bc, bd⟩, bv⟩ := y
      unfold vof at *
      simp only at *
      subst rn
      have HMY : Hid (∀ W, Calls Try.prog 32 #[.string ak] W fun e w' => e = .returned (.bool (kmay ak)) ∧ w' = W) := fun W => rmay_any ak W
      have hl1 : (av.length : Int) ≤ 9223372036854775807 := by omega
      generalize tl bk.toList ak.toList = TL at *
      generalize kmay ak = KM at *
      generalize av.length = n at *
      have HYN := hide (And.intro hyes hno)
      obtain ⟨CC, hCC⟩ : ∃ CC : World → Prop, CC = fun w' => Below w.heap.size w w' := ⟨_, rfl⟩
      have HC0 : Hid (CC { wr with drawn := wr.drawn + 1 }) := by unfold Hid; rw [hCC]; exact hb.drew
      have HCW : Hid (∀ w', CC w' → Below w.heap.size w w') := by unfold Hid; rw [hCC]; exact fun w' hw => hw
      have HCC0 : Hid (∀ w', CC w' → w'.cell? ⟨b1, o1 + k * 2, none⟩ = some (.string ak) ∧ w'.cell? ⟨b1, o1 + k * 2 + 1, none⟩ = some (.slice ap n ac) ∧ w'.cell? ⟨b1, o1 + (k - 1) * 2, none⟩ = some (.string bk)) := by
        unfold Hid
        rw [hCC]
        exact fun w' hw => ⟨(unhide HS w' hw).1.1, (unhide HS w' hw).1.2.1, (unhide HS w' hw).2.1⟩
      have HML : Hid (∀ w', CC w' → Calls Try.prog 22 #[.string bk, .string ak] w' fun e w'' => e = .returned (.bool TL) ∧ CC w'') := by
        unfold Hid
        rw [hCC]
        exact fun w' hw => (unhide HLS w').mono fun e w'' hx => ⟨hx.1, hw.trans (hx.2.mono hw.size)⟩
      clear hn hb hl i1 i0 e1 e0 hyes hno ar ar0 hst hCC HLS a1 a2 a3 a4 HS rl
      cases KM with
      | false =>
        have HCC := HCC0
        go_wp2_with fail
        refine region_calm CC (by kernel_rfl) (by kernel_rfl) (unhide HC0) ?_
        repeat (first
          | go_big_quiet_skip
          | (go_big_quiet_want
             apply Exists.intro
             refine ⟨fun w' hw' => ?_, ?_⟩
             · obtain ⟨c0, c1, c2⟩ := unhide HCC w' hw'
               go_simp
               first | done | rfl | exact Calls.mono (unhide HMY w') (fun e w'' hx => ⟨hx.1, hx.2 ▸ hw'⟩) | exact unhide HML w' hw'
             simp only [Act.put, List.setIfInBounds_toArray, List.set_cons_zero, List.set_cons_succ]
             go_big_quiet_on))
        refine wpQuiet_nil ?_
        intro w' hw'
        have HBW := hide (unhide HCW w' hw')
        go_wp2
        go_ret
        exact ⟨by rw [(unhide HYN).2 (by rw [unhide HOK]; rfl)]; rfl, unhide HBW⟩
      | true =>
        by_cases hn4 : (4096 : Int) < (n : Int)
        · have HCC := HCC0
          have g1 : decide ((4096 : Int) < (n : Int)) = true := decide_eq_true hn4
          have g2 : decide (4096 < n) = true := decide_eq_true (by omega)
          have HD : Hid (decide (n ≤ 4096) = false) := decide_eq_false (by omega)
          go_wp2_with fail
          refine region_calm CC (by kernel_rfl) (by kernel_rfl) (unhide HC0) ?_
          repeat (first
            | go_big_quiet_skip
            | (go_big_quiet_want
               apply Exists.intro
               refine ⟨fun w' hw' => ?_, ?_⟩
               · obtain ⟨c0, c1, c2⟩ := unhide HCC w' hw'
                 go_simp
                 first | done | rfl | exact Calls.mono (unhide HMY w') (fun e w'' hx => ⟨hx.1, hx.2 ▸ hw'⟩) | exact unhide HML w' hw'
               simp only [Act.put, List.setIfInBounds_toArray, List.set_cons_zero, List.set_cons_succ]
               go_big_quiet_on))
          refine wpQuiet_nil ?_
          intro w' hw'
          have HBW := hide (unhide HCW w' hw')
          go_wp2
          go_ret
          exact ⟨by rw [(unhide HYN).2 (by rw [unhide HOK, unhide HD]; rfl)]; rfl, unhide HBW⟩
        · have g1 : decide ((4096 : Int) < (n : Int)) = false := decide_eq_false hn4
          have g2 : decide (4096 < n) = false := decide_eq_false (by omega)
          have g3 : n ≤ 4096 := by omega
          have HD : Hid (decide (n ≤ 4096) = true) := decide_eq_true (by omega)
          by_cases hk0 : k = 0
          · subst hk0
            have HCC := HCC0
            simp only [Nat.zero_mul, Nat.add_zero] at HCC
            go_wp2_with fail
            refine region_calm CC (by kernel_rfl) (by kernel_rfl) (unhide HC0) ?_
            repeat (first
              | go_big_quiet_skip
              | (go_big_quiet_want
                 apply Exists.intro
                 refine ⟨fun w' hw' => ?_, ?_⟩
                 · obtain ⟨c0, c1, c2⟩ := unhide HCC w' hw'
                   go_simp
                   first | done | rfl | exact Calls.mono (unhide HMY w') (fun e w'' hx => ⟨hx.1, hx.2 ▸ hw'⟩) | exact unhide HML w' hw'
                 simp only [Act.put, List.setIfInBounds_toArray, List.set_cons_zero, List.set_cons_succ]
                 go_big_quiet_on))
            refine wpQuiet_nil ?_
            intro w' hw'
            have HBW := hide (unhide HCW w' hw')
            go_wp2
            go_roundw
            case rel => exact ⟨0 + 1, by omega, by go_num, (unhide HYN).1 (by rw [unhide HOK, unhide HD]; rfl), unhide HBW⟩
            case measure => simp [intOf]; omega
          · obtain ⟨m, rfl⟩ : ∃ m, k = m + 1 := ⟨k - 1, by omega⟩
            have HCC := HCC0
            simp only [Nat.add_sub_cancel] at HCC
            have HK0 : Hid (decide (m + 1 = 0) = false) := by simp [Hid]
            have hm1 : (m : Int) < l := by omega
            have hm2 : (m : Int) + 1 < l := by omega
            have hm3 : (0 : Int) ≤ (m : Int) + 1 := by omega
            have hm4 : ((m : Int) + 1).toNat = m + 1 := by omega
            have hwm : IntKind.i64.wrap (m : Int) = m := by rw [IntKind.wrap_i64]; omega
            clear hk0
            cases TL with
            | false =>
              go_wp2_with fail
              refine region_calm CC (by kernel_rfl) (by kernel_rfl) (unhide HC0) ?_
              repeat (first
                | go_big_quiet_skip
                | (go_big_quiet_want
                   apply Exists.intro
                   refine ⟨fun w' hw' => ?_, ?_⟩
                   · obtain ⟨c0, c1, c2⟩ := unhide HCC w' hw'
                     go_simp
                     first | done | rfl | exact Calls.mono (unhide HMY w') (fun e w'' hx => ⟨hx.1, hx.2 ▸ hw'⟩) | exact unhide HML w' hw'
                   simp only [Act.put, List.setIfInBounds_toArray, List.set_cons_zero, List.set_cons_succ]
                   go_big_quiet_on))
              refine wpQuiet_nil ?_
              intro w' hw'
              have HBW := hide (unhide HCW w' hw')
              go_wp2
              go_ret
              exact ⟨by rw [(unhide HYN).2 (by rw [unhide HOK, unhide HK0, unhide HD]; rfl)]; rfl, unhide HBW⟩
            | true =>
              go_wp2_with fail
              refine region_calm CC (by kernel_rfl) (by kernel_rfl) (unhide HC0) ?_
              repeat (first
                | go_big_quiet_skip
                | (go_big_quiet_want
                   apply Exists.intro
                   refine ⟨fun w' hw' => ?_, ?_⟩
                   · obtain ⟨c0, c1, c2⟩ := unhide HCC w' hw'
                     go_simp
                     first | done | rfl | exact Calls.mono (unhide HMY w') (fun e w'' hx => ⟨hx.1, hx.2 ▸ hw'⟩) | exact unhide HML w' hw'
                   simp only [Act.put, List.setIfInBounds_toArray, List.set_cons_zero, List.set_cons_succ]
                   go_big_quiet_on))
              refine wpQuiet_nil ?_
              intro w' hw'
              have HBW := hide (unhide HCW w' hw')
              go_wp2
              go_roundw
              case rel => exact ⟨m + 1 + 1, by omega, by go_num, (unhide HYN).1 (by rw [unhide HOK, unhide HK0, unhide HD]; rfl), unhide HBW⟩
              case measure => simp [intOf]; omega
    · have HA := hide (And.intro hn hb)
      clear hn hb hst
      go_wp2
      go_ret
      obtain ⟨hn, hb⟩ := unhide HA
      refine ⟨?_, hb⟩
      have hT : R = true := by
        rw [unhide HR, right_all]
        intro j hj
        exact hn j hj (by have := unhide HLN; rw [pdat_len] at hj; omega)
      rw [hT]
      rfl
end Go.Proofs.Ytjkkdijoogiipaa

/- The helper CopyPairs. -/
namespace Go.Proofs.Ytjkkdijoogiipaa
open Go.RowKit

set_option maxRecDepth 20000 in
set_option maxHeartbeats 4000000 in
theorem copypairs_any (v : Value) (L : List El) (w : World) (h : EL 2 prC w v L) (hroom : L.length * 40 ≤ 140737488355328) (hv : ∀ x ∈ L, x.2.length ≤ 140737488351232) :
    Calls Try.prog 4 #[v] w fun e w' => ∃ v' L', e = .returned v' ∧ pdat L' = pdat L ∧ OO 34 2 prC w' w.heap.size v' L' ∧ Below w.heap.size w w' := by
  by_cases h0 : L.length = 0
  · obtain ⟨p1, c1, rfl, _⟩ := h.shape
    obtain rfl : L = [] := List.eq_nil_of_length_eq_zero h0
    go_enter Try.func4, Try.ntmps4
    go_wp2
    refine wp_loop_rounds 1 ?_
    rw [rounds_succ]
    go_wp2
    go_ret
    exact ⟨_, [], rfl, rfl, OO.nil _ _ _ _ _, Below.refl _ _⟩
  obtain ⟨b1, o1, c1, rfl, k1, k2, hsn⟩ := h.seenP (by omega)
  obtain ⟨l, hl⟩ : ∃ l, l = L.length := ⟨_, rfl⟩
  rw [← hl] at k1 ⊢
  unfold maxLen at k2
  have hl0 : (l : Int) ≤ 9223372036854775807 := by omega
  obtain ⟨i0, hi, hz0, hz1, hz2⟩ := info_parts Try.info34
  have HST : Hid (∀ (k : Nat) (hk : k < L.length) (W : World), Below w.heap.size w W → W.cell? ⟨b1, o1 + k * 2, none⟩ = some (.string L[k].1.key) ∧ W.cell? ⟨b1, o1 + k * 2 + 1, none⟩ = some (vof L[k].1) ∧ Row W (vof L[k].1) L[k].2 ∧ L[k].2.length ≤ 140737488351232) := by
    intro k hk W hw
    obtain ⟨a1, a2, a3⟩ := hsn k hk W hw
    exact ⟨a1, a2, a3, hv _ (List.getElem_mem hk)⟩
  have HLN := hide hl
  have HRM := hide hroom
  clear h hsn k1 k2 hl h0 hv hroom
  go_enter Try.func4, Try.ntmps4
  go_wp2
  go_loopw [3, 4] (fun ov i wr => ∃ (k : Nat) (L' : List El), k ≤ l ∧ i = .int .i64 k ∧ L'.length = k ∧ Hid (pdat L' = (pdat L).take k ∧ OO 34 2 prC wr w.heap.size ov L' ∧ Below w.heap.size w wr)) (fun _ i _ => l - (intOf i).toNat)
  case atStart => exact ⟨0, [], Nat.zero_le _, rfl, rfl, rfl, OO.nil _ _ _ _ _, Below.refl _ _⟩
  case round =>
    obtain ⟨k, L', hk, rfl, hkl, hst⟩ := hrel
    obtain ⟨hd, hoo, hb⟩ := unhide hst
    obtain ⟨vp, vc, hve⟩ := hoo.1.shape
    rw [hkl] at hve
    subst hve
    have HKL := hide hkl
    have HOW := hide hoo.1.1
    rw [hkl] at HOW
    clear hkl
    by_cases hlt : (k : Int) < (l : Int)
    · have hl := unhide HLN
      have hrm := unhide HRM
      have hkL : k < L.length := by omega
      have hdw : Below wr.heap.size wr wr.drew := (Below.refl _ _).drew
      have hbd := hb.trans (hdw.mono hb.size)
      obtain ⟨a1, a2, _, _⟩ := unhide HST k hkL wr hb
      obtain ⟨d1, d2, dr, dl⟩ := unhide HST k hkL wr.drew hbd
      have hcb := copyBytes_any _ _ wr.drew dr dl
      have hdk : (pdat L).take (k + 1) = (pdat L).take k ++ [(L[k].1.key, L[k].2)] := by
        rw [List.take_succ_eq_append_getElem (by rw [pdat_len]; exact hkL), pdat_get L k hkL]
      have HSW := hide (fun W hW => unhide HST k hkL W hW)
      generalize L[k] = x at *
      obtain ⟨⟨ak, ap, an, ac, ad⟩, av⟩ := x
      unfold vof at *
      simp only at *
      have HCH : Hid (Calls Try.prog 11 #[.slice ap an ac] wr.drew fun e w5 => ∃ tp tn tc, e = .returned (.slice tp tn tc) ∧ w5.cell? ⟨b1, o1 + k * 2, none⟩ = some (.string ak) ∧ Hid (Mine w5 wr.heap.size (.slice tp tn tc) av ∧ Below wr.heap.size wr w5)) := by
        refine hcb.mono ?_
        rintro e w5 ⟨t, rfl, ho5, hb5⟩
        have hm := mine_of_owns ho5
        obtain ⟨tp, tn, tc, rfl⟩ := mine_opv hm
        have hb5' := hdw.trans (hb5.mono hdw.size)
        obtain ⟨y1, y2, _⟩ := unhide HSW w5 (hb.trans (hb5'.mono hb.size))
        exact ⟨tp, tn, tc, rfl, y1, hm.base hdw.size, hb5'⟩
      have HA := hide (And.intro hd (And.intro hoo (And.intro hb hdk)))
      have hsz : w.heap.size ≤ wr.heap.size := hb.size
      clear hd hoo hb hl hrm hkL hdw hbd dr dl hcb hdk hst
      go_wp2_with fail
      go_region_law (first
        | (go_simp; go_at_call 11; refine Calls.mono (unhide HCH) ?_; rintro x w5 ⟨tp, tn, tc, rfl, y0, HB6⟩; dsimp only)
        | (refine step_append_gen rfl _ _ 22 rfl w.heap.size 34 i0 (.agg #[.string ⟨#[]⟩, .slice none 0 0]) Try.underlying22 hi hz0 2 40 (by omega) hz1 hz2 rfl (.slice vp k vc) k (elC prC L') (by simp [Act.eval]) (World.ownsRow.alloc (owns_below4 (unhide HOW) (unhide HB6).2) _) ⟨w5.heap.size, 0, none⟩ 1 (prC ⟨ak, tp, tn, tc, false⟩) (by simp [Act.eval]) rfl (by intro j u hj; match j, hj with | 0, hj => (simp [prC] at hj; subst hj; simp [Addr.add]) | 1, hj => (simp [prC] at hj; subst hj; simp [Addr.add])) (prC_one _) (by have h9 := unhide HLN; have h8 := unhide HRM; unfold maxLen; omega) (by have h9 := unhide HLN; have h8 := unhide HRM; omega) (by have h9 := (unhide HB6).2.size; simp; omega) ?_; intro v2 w6 hown6 hgrow6 hob6; have hmr := OO.push (x := (⟨ak, tp, tn, tc, false⟩, av)) (unhide HA).2.1 ((unhide HB6).2.alloc (by have h9 := (unhide HB6).2.size; omega) _) ((unhide HB6).1.below ((Below.refl _ _).alloc (Nat.le_refl _) _)) hsz (by rw [unhide HKL]; exact hown6) hgrow6 hob6; have hbw := ((unhide HA).2.2.1.trans (((unhide HB6).2.alloc (by have h9 := (unhide HB6).2.size; omega) _).mono hsz)).grown hgrow6 (by have h9 := (unhide HB6).2.size; simp; omega) (fun q hq => ((unhide HA).2.1.1.1.lt q hq).1); have HJ := hide (And.intro hmr hbw); clear hmr hbw; rcases hown6.2 with ⟨_, hz9⟩ | ⟨g2, cap2, cur2, e2, _⟩; (exact absurd hz9 (by omega)); subst e2; clear hown6 hgrow6 hob6))
      all_goals
        go_wp2
        go_roundw
        case rel =>
          obtain ⟨hd, _, _, hdk⟩ := unhide HA
          refine ⟨k + 1, L' ++ [(⟨ak, tp, tn, tc, false⟩, av)], by omega, by go_num, by rw [List.length_append, unhide HKL]; rfl, ?_, (unhide HJ).1, (unhide HJ).2⟩
          rw [hdk, pdat_app, hd]
          rfl
        case measure => simp [intOf]; omega
    · have hlk : k = l := by omega
      have HA := hide (And.intro hd (And.intro hoo (And.intro hb hlk)))
      clear hd hoo hb hlk hst
      go_wp2
      go_ret
      obtain ⟨hd, hoo, hb, hlk⟩ := unhide HA
      refine ⟨_, rfl, L', ?_, hoo, hb⟩
      rw [hd, hlk, unhide HLN, ← pdat_len, List.take_length]
end Go.Proofs.Ytjkkdijoogiipaa
