/- The walk of the law FrameBack. -/
import Derived.Test.YtpiekbjpnifjlaaFrLawRead
import Derived.Test.YtpiekbjpnifjlaaFrOwn8
import Derived.Test.YtpiekbjpnifjlaaFrAwake
import Derived.Test.YtpiekbjpnifjlaaBytes
namespace Go.Proofs.Ytpiekbjpnifjlaa
open Go.RowKit

set_option maxRecDepth 20000 in
set_option maxHeartbeats 2000000 in
theorem fback_any (A C : Nat) (hA : A < 18446744073709551616) (hC : C < 18446744073709551616) (s : Value) (r : List UInt8) (s3 : Value) (b : List UInt8) (w : World) (hs : Row w s r) (hroom : r.length ≤ 140737488351232) (hs3 : Row w s3 b) (hroom3 : b.length ≤ 140737488351232) :
    Calls Try.prog 6 #[.int .u64 (A : Int), .int .u64 (C : Int), s, s3] w fun e w' => e = .returned (.bool true) ∧ Below w.heap.size w w' := by
  have HA := hide awake_any
  have HS := hide hs
  have HS3 := hide hs3
  have HRD := hide (fun w' (hb : Below w.heap.size w w') => read_any s3 b w' (hs3.below hb) hroom3)
  have HXF : Hid ((readF b).2 = 0 → mayF (readF b).1 = true ∧ bytesF (readF b).1 = b ∧ (readF b).1.ok) := fun h => ⟨(bytes_read b h).1, (bytes_read b h).2.1, readF_ok b h⟩
  generalize readF b = R at *
  obtain ⟨x, E2⟩ := R
  simp only at HRD HXF
  obtain ⟨q3, l3, c3, e3⟩ := slice_of_row hs3
  subst e3
  by_cases h8 : 8192 < r.length
  · have HCU := hide (cut_large A C s r w hs h8)
    obtain ⟨q, c, l, e0, hl⟩ := hs.shape
    subst e0
    have h8' : ¬ (l : Int) ≤ 8192 := by omega
    have h4z : ((4 : Int) == 0) = false := rfl
    clear hs hs3 hl
    go_enter Try.func6, Try.ntmps6
    go_wp2_with fail
    refine Calls.mono (unhide HCU) ?_
    rintro e w1 ⟨rfl, rfl⟩
    go_wp2_with fail
    refine Calls.mono (unhide HA _) ?_
    rintro e w2 ⟨rfl, b2⟩
    have HBX := hide b2
    clear b2
    go_wp2_with fail
    refine Calls.mono (unhide HRD _ (unhide HBX)) ?_
    rintro e w20 ⟨t, rfl, mt, bt⟩
    unfold fv
    obtain ⟨pt, lt, qt, et⟩ := slice_of_row mt.row
    subst et
    obtain ⟨W21, hW21⟩ : ∃ W21, W21 = w20.alloc (.cells #[.int .u64 (x.age : Int), .int .u64 (x.first : Int), .int .i64 x.of, .slice pt lt qt] 25) := ⟨_, rfl⟩
    have hb21 : Below w20.heap.size w20 W21 := by rw [hW21]; exact (Below.refl _ _).alloc (Nat.le_refl _) _
    have h421 : At4 W21 w20.heap.size 0 (.int .u64 (x.age : Int)) (.int .u64 (x.first : Int)) (.int .i64 x.of) (.slice pt lt qt) := by rw [hW21]; exact at4_new _ _ _ _ _ _
    have B20 := (unhide HBX).trans (bt.mono (unhide HBX).size)
    have B21 := B20.trans (hb21.mono B20.size)
    have HB21 := hide B21
    have HM21 := hide (mt.row.below hb21)
    have HW21 := hide hW21
    clear bt hb21 B20 B21 mt hW21
    by_cases hE2 : E2 = 0
    · obtain ⟨hxm, hxb, hxo⟩ := unhide HXF hE2
      have HWR := hide (write_any x (.slice pt lt qt) W21 hxo (unhide HM21))
      have e1 : writeE x = 0 := by unfold writeE; rw [if_pos hxm]
      have e2 : writeB x = b := by unfold writeB; rw [if_pos hxm]; exact hxb
      rw [e1, e2] at HWR
      unfold fv at HWR
      obtain ⟨k0, k1, k2, k3⟩ := h421
      clear e1 e2 hxm hxb hxo HXF HM21
      subst hE2
      go_wp2_with fail
      rw [← unhide HW21]
      go_wp2_with fail
      refine Calls.mono (unhide HWR) ?_
      rintro e w22 ⟨t22, rfl, m22, b22⟩
      have B22 := (unhide HB21).trans (b22.mono (unhide HB21).size)
      have HBY := hide (bytes_any t22 (.slice q3 l3 c3) b b w22 m22.row ((unhide HS3).below B22))
      rw [show (b == b) = true by simp] at HBY
      have HB22 := hide B22
      clear b22 B22 m22 HWR k0 k1 k2 k3
      go_wp2_with fail
      refine Calls.mono (unhide HBY) ?_
      rintro e w23 ⟨rfl, rfl⟩
      go_wp2
      go_ret
      exact ⟨rfl, unhide HB22⟩
    · have hE2' : (E2 == 0) = false := by simp [hE2]
      clear HXF HM21 h421
      go_wp2
      go_ret
      exact ⟨rfl, by have := unhide HB21; rw [unhide HW21] at this; exact this⟩
  · have HCU := hide (cut_ok A C hA hC s r w hs h8)
    obtain ⟨hcr, hcm⟩ := cut_reads A C hA hC r h8
    have hlen := length_cutL A C r h8
    have hc19 := count_le (n := r.length) (by omega)
    have HLR := hide (fun v w' (hr : Rows2 w' v (cutL A C r)) => lread_any v (cutL A C r) w' hr (by omega) (fun j hj => ⟨(hcr j hj).1, by have := (hcr j hj).2; omega⟩))
    rw [hcm] at HLR
    have HCN := hide (fun w' => count_any (r.length : Int) w' (by omega) (by omega))
    rw [← hlen] at HCN
    have HJN := hide (fun v L w' (hF : FL w' v L) (hf : frs L = framesN A C r) => (by
      have h := join_any v L w' hF
      rw [hf] at h
      have e1 : joinE (framesN A C r) = 0 := by unfold joinE; rw [if_pos (isRec_frames A C r (by omega))]
      have e2 : joinB (framesN A C r) = r := by unfold joinB; rw [if_pos (isRec_frames A C r (by omega)), flat_frames]
      rw [e1, e2] at h
      exact h : Calls Try.prog 23 #[v] w' fun e w'' => ∃ t, e = .returned (.tuple #[t, .int .i64 0]) ∧ Mine w'' w'.heap.size t r ∧ Below w'.heap.size w' w''))
    have HPL := hide (fun j (hj : j < (cutL A C r).length) => (hcr j hj).2)
    have HFG := hide (fun j (hj : j < (framesN A C r).length) => frames_get A C r j hj)
    rw [← hlen] at HFG
    have HFN : Hid ((framesN A C r).length = (cutL A C r).length) := by
      have := length_frames A C r
      unfold Hid
      omega
    generalize framesN A C r = fn at *
    obtain ⟨n, hn⟩ : ∃ n, n = (cutL A C r).length := ⟨_, rfl⟩
    have hn19 : (n : Int) ≤ 19 := by omega
    rw [← hn] at HCN HFN HFG
    generalize cutL A C r = ls at *
    obtain ⟨q, c, l, e0, hl⟩ := hs.shape
    subst e0
    subst hl
    have h8' : (r.length : Int) ≤ 8192 := by omega
    have HN := hide hn
    clear hs hs3 hcr hcm hlen hc19 h8 hn
    go_enter Try.func6, Try.ntmps6
    go_wp2_with fail
    refine Calls.mono (unhide HCU) ?_
    rintro e w1 ⟨v1, rfl, hp1, b1⟩
    have HP1 := hide hp1
    have HB1 := hide b1
    clear b1 hp1 HCU
    go_wp2_with fail
    refine Calls.mono (unhide HA _) ?_
    rintro e w2 ⟨rfl, b2⟩
    have HB2 := hide ((unhide HB1).trans (b2.mono (unhide HB1).size))
    have hp2 := (unhide HP1).below b2
    have HLR2 := hide (unhide HLR v1 w2 (hp2.rows (by have := unhide HN; unfold maxLen; omega)))
    have HP2 := hide hp2
    have hv1 : ∃ g, v1 = .slice (some ⟨g, 0, none⟩) n n := by
      obtain ⟨g, _, _, e, _⟩ := hp2
      exact ⟨g, by rw [unhide HN]; exact e⟩
    obtain ⟨g, rfl⟩ := hv1
    clear b2 hp2 HLR HP1 HB1
    go_wp2_with fail
    refine Calls.mono (unhide HLR2) ?_
    rintro e w3 ⟨v3, L, rfl, hF3, hf3, b3⟩
    have HB3 := hide ((unhide HB2).trans (b3.mono (unhide HB2).size))
    have HP3 := hide ((unhide HP2).below b3)
    have hLn : L.length = n := by rw [← length_frs, hf3]; exact unhide HFN
    obtain ⟨p3, cp3, e3, hc3a, hc3b, _⟩ := hF3.fl.shape
    subst e3
    rw [hLn]
    rw [hLn] at hF3
    have HF3 := hide hF3.fl
    have HJ3 := hide (unhide HJN _ L w3 hF3.fl hf3)
    have HF := hide hf3
    have HLN := hide hLn
    have hnn : ((n : Int) != n) = false := by simp
    unfold maxLen at hc3b
    clear b3 hF3 hf3 HLR2 HP2 HB2 HJN hLn
    go_wp2_with fail
    refine Calls.mono (unhide HCN _) ?_
    rintro e w3' ⟨rfl, rfl⟩
    go_wp2_with fail
    refine Calls.mono (unhide HJ3) ?_
    rintro e w4 ⟨t4, rfl, m4, b4⟩
    have B4 := (unhide HB3).trans (b4.mono (unhide HB3).size)
    have HBY := hide (bytes_any t4 (.slice q r.length c) r r w4 m4.row ((unhide HS).below B4))
    rw [show (r == r) = true by simp] at HBY
    have HB4 := hide B4
    have HP4 := hide ((unhide HP3).below b4)
    have HF4 := hide ((unhide HF3).below b4)
    clear b4 m4 B4 HJ3 HP3 HF3 HB3
    go_wp2_with fail
    refine Calls.mono (unhide HBY) ?_
    rintro e w5 ⟨rfl, rfl⟩
    have HCE : Hid (∀ k, k < n → ∃ (p : Nat) (lk ck : Nat), w5.cell? ⟨g, k, none⟩ = some (.slice (some ⟨p, 0, none⟩) lk ck) ∧ (lk : Int) ≤ 496) := by
      intro k hk
      have hn := unhide HN
      obtain ⟨g', cur, blk, e, _, hb, _, hpa⟩ := unhide HP4
      simp only [Value.slice.injEq, Option.some.injEq, Addr.mk.injEq, and_true] at e
      obtain ⟨rfl, _⟩ := e
      obtain ⟨ck, cells, e1, _⟩ := hpa.1 k (by omega) (by omega)
      exact ⟨_, _, ck, by rw [cell_of_row w5 g k cur _ (0, 0) hb]; exact e1, by have := unhide HPL k (by omega); omega⟩
    have HFE : Hid (∀ k, k < n → ∃ b' off', p3 = some ⟨b', off', none⟩ ∧ ∃ t, At4 w5 b' (off' + k * 4) (.int .u64 (A : Int)) (.int .u64 (C : Int)) (.int .i64 (n : Int)) t) := by
      intro k hk
      have hn := unhide HN
      have hLn := unhide HLN
      obtain ⟨b', off', cap', e, _, _, _, hat⟩ := (unhide HF4).open (by intro e; rw [e] at hLn; simp at hLn; omega)
      simp only [Value.slice.injEq] at e
      have h4 := (hat k (by omega)).1
      have hkf : k < (frs L).length := by rw [length_frs]; omega
      have e1 : L[k].1 = ⟨A, C, (n : Int), partN r k⟩ := by
        have e2 : (frs L)[k] = L[k].1 := by simp [frs]
        rw [← e2]
        have e3 : (frs L)[k] = fn[k]'(by rw [unhide HFN]; omega) := by congr 1
        rw [e3]
        exact unhide HFG k _
      rw [e1] at h4
      exact ⟨b', off', e.1, _, h4⟩
    clear HBY HP4 HF4
    go_wp2_with fail
    go_loop [15] (fun i => ∃ k : Nat, k ≤ n ∧ i = .int .i64 k) (fun i => n - (intOf i).toNat)
    case atStart => exact ⟨0, Nat.zero_le _, rfl⟩
    case round =>
      obtain ⟨k, hk, rfl⟩ := hrel
      by_cases hlt : k < n
      · obtain ⟨pk, lk, ck, d0, hlk⟩ := unhide HCE k hlt
        obtain ⟨b', off', rfl, t, d1, d2, d3, d4⟩ := unhide HFE k hlt
        have hkl : (k : Int) < n := by omega
        have hlk' : ¬ (496 : Int) < lk := by omega
        have hAA : ((A : Int) != A) = false := by simp
        have hCC : ((C : Int) != C) = false := by simp
        go_wp2
        go_round
        case rel => exact ⟨k + 1, by omega, by go_num⟩
        case measure => simp [intOf]; omega
      · have hkn : k = n := by omega
        subst hkn
        have HBX := HB4
        go_wp2_with fail
        refine Calls.mono (unhide HRD _ (unhide HBX)) ?_
        rintro e w20 ⟨t, rfl, mt, bt⟩
        unfold fv
        obtain ⟨pt, lt, qt, et⟩ := slice_of_row mt.row
        subst et
        obtain ⟨W21, hW21⟩ : ∃ W21, W21 = w20.alloc (.cells #[.int .u64 (x.age : Int), .int .u64 (x.first : Int), .int .i64 x.of, .slice pt lt qt] 25) := ⟨_, rfl⟩
        have hb21 : Below w20.heap.size w20 W21 := by rw [hW21]; exact (Below.refl _ _).alloc (Nat.le_refl _) _
        have h421 : At4 W21 w20.heap.size 0 (.int .u64 (x.age : Int)) (.int .u64 (x.first : Int)) (.int .i64 x.of) (.slice pt lt qt) := by rw [hW21]; exact at4_new _ _ _ _ _ _
        have B20 := (unhide HBX).trans (bt.mono (unhide HBX).size)
        have B21 := B20.trans (hb21.mono B20.size)
        have HB21 := hide B21
        have HM21 := hide (mt.row.below hb21)
        have HW21 := hide hW21
        clear bt hb21 B20 B21 mt hW21
        by_cases hE2 : E2 = 0
        · obtain ⟨hxm, hxb, hxo⟩ := unhide HXF hE2
          have HWR := hide (write_any x (.slice pt lt qt) W21 hxo (unhide HM21))
          have e1 : writeE x = 0 := by unfold writeE; rw [if_pos hxm]
          have e2 : writeB x = b := by unfold writeB; rw [if_pos hxm]; exact hxb
          rw [e1, e2] at HWR
          unfold fv at HWR
          obtain ⟨k0, k1, k2, k3⟩ := h421
          clear e1 e2 hxm hxb hxo HXF HM21
          subst hE2
          go_wp2_with fail
          rw [← unhide HW21]
          go_wp2_with fail
          refine Calls.mono (unhide HWR) ?_
          rintro e w22 ⟨t22, rfl, m22, b22⟩
          have B22 := (unhide HB21).trans (b22.mono (unhide HB21).size)
          have HBY := hide (bytes_any t22 (.slice q3 l3 c3) b b w22 m22.row ((unhide HS3).below B22))
          rw [show (b == b) = true by simp] at HBY
          have HB22 := hide B22
          clear b22 B22 m22 HWR k0 k1 k2 k3
          go_wp2_with fail
          refine Calls.mono (unhide HBY) ?_
          rintro e w23 ⟨rfl, rfl⟩
          go_wp2
          go_ret
          exact ⟨rfl, unhide HB22⟩
        · have hE2' : (E2 == 0) = false := by simp [hE2]
          clear HXF HM21 h421
          go_wp2
          go_ret
          exact ⟨rfl, by have := unhide HB21; rw [unhide HW21] at this; exact this⟩

theorem walk_FrameBack (a0 : Int) (w0 : (Lit.int .u64 a0).wf = true) (a1 : Int) (w1 : (Lit.int .u64 a1).wf = true) (s2 : Value) (b2 : List UInt8) (s3 : Value) (b3 : List UInt8) (w : World) (h2 : Row w s2 b2) (room2 : b2.length ≤ 140737488351232) (h3 : Row w s3 b3) (room3 : b3.length ≤ 140737488351232) :
    Calls Try.prog 6 #[.int .u64 a0, .int .u64 a1, s2, s3] w fun e w' => e = .returned (.bool true) ∧ Below w.heap.size w w' := by
  have hb0 := bounds_u64 w0
  have hb1 := bounds_u64 w1
  obtain ⟨A, rfl⟩ := Int.eq_ofNat_of_zero_le hb0.1
  obtain ⟨C, rfl⟩ := Int.eq_ofNat_of_zero_le hb1.1
  exact fback_any A C (by omega) (by omega) s2 b2 s3 b3 w h2 room2 h3 room3
end Go.Proofs.Ytpiekbjpnifjlaa
