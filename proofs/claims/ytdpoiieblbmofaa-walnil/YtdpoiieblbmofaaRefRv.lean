/- What the reference's ReadVar and Var do: the same as the program's. -/
import Derived.Test.YtdpoiieblbmofaaRvPlain
import Derived.Test.YtdpoiieblbmofaaPut
namespace Go.Proofs.Ytdpoiieblbmofaa
open Go.RowKit

theorem rrv_neg (s : Value) (a : Int) (w : World) (h : a < 0) :
    Calls Try.prog 87 #[s, .int .i64 a] w fun e w' => e = .returned (.tuple #[.int .u64 0, .int .i64 0, .int .i64 1]) ∧ w' = w := by
  go_enter Try.func87, Try.ntmps87
  go_wp2
  go_ret3
  exact ⟨rfl, rfl⟩

theorem rrv_past (p : Option Addr) (len cap a : Nat) (w : World) (h : len ≤ a) :
    Calls Try.prog 87 #[.slice p len cap, .int .i64 a] w fun e w' => e = .returned (.tuple #[.int .u64 0, .int .i64 0, .int .i64 10]) ∧ w' = w := by
  have h0 : ¬ (a : Int) < 0 := by omega
  have h1 : decide ((len : Int) ≤ a) = true := by simp; omega
  go_enter Try.func87, Try.ntmps87
  go_wp2
  refine wp_loop_rounds 1 ?_
  rw [rounds_succ]
  go_wp2
  go_ret3
  exact ⟨rfl, rfl⟩

set_option maxRecDepth 100000 in
set_option maxHeartbeats 2000000 in
theorem rrv_in (s : Value) (bs : List UInt8) (a : Nat) (w : World) (hs : Row w s bs) (hroom : bs.length ≤ 140737488351232) (h : a < bs.length) :
    Calls Try.prog 87 #[s, .int .i64 a] w fun e w' => e = .returned (.tuple #[.int .u64 (readV bs a : Nat), .int .i64 (readN bs a), .int .i64 (readE bs a)]) ∧ w' = w := by
  obtain ⟨b, off, cap, rfl, hc1, hc2, hc⟩ := hs.open (by intro e; rw [e] at h; simp at h)
  unfold maxLen at hc2
  have h0 : ¬ (a : Int) < 0 := by omega
  have d0 : decide ((bs.length : Int) ≤ a) = false := by simp; omega
  have HF := hide (fun R hR => read_of bs a R hR)
  have hcx : ∀ k (hk : k < (bs.drop a).length), w.cell? ⟨b, off + (a + k), none⟩ = some (.int .u8 ((bs.drop a)[k].toNat : Int)) := fun k hk => by
    have : a + k < bs.length := by simp at hk; omega
    rw [hc (a + k) this]; simp [B]
  have HCX := hide hcx
  have hdl : (bs.drop a).length = bs.length - a := by simp
  clear hc hcx
  go_enter Try.func87, Try.ntmps87
  go_wp2
  go_loop [7, 8] (fun t i => ∃ k v : Nat, k ≤ 9 ∧ i = .int .i64 k ∧ t = .int .u64 v ∧ Hid (v < 128 ^ k) ∧ Hid (rvF 0 0 (bs.drop a) = rvF k v ((bs.drop a).drop k))) (fun _ i => 10 - (intOf i).toNat)
  case atStart => exact ⟨0, 0, by omega, rfl, rfl, by unfold Hid; simp, by unfold Hid; simp⟩
  case round =>
    obtain ⟨k, v, hk, rfl, rfl, hv, hrv⟩ := hrel
    by_cases hend : bs.length ≤ a + k
    · have d1 : decide ((bs.length : Int) ≤ (a : Int) + k) = true := by simp; omega
      have hR : rvF 0 0 (bs.drop a) = (10, 0, 0) := by rw [hrv.out, List.drop_of_length_le (by omega)]; rfl
      obtain ⟨e1, e2, e3⟩ := unhide HF _ hR
      simp only [if_neg (show ¬ (10 : Nat) = 0 by omega)] at e2 e3
      have e2' : ((readV bs (a : Nat) : Nat) : Int) = 0 := by rw [e2]; rfl
      have E1 := hide e1
      have E2 := hide e2'
      have E3 := hide e3
      clear e1 e2 e2' e3 hR HF HCX hrv hv
      go_wp2
      go_ret3
      exact ⟨by rw [unhide E1, unhide E2, unhide E3]; rfl, rfl⟩
    · have d1 : decide ((bs.length : Int) ≤ (a : Int) + k) = false := by simp; omega
      have hkl : k < (bs.drop a).length := by omega
      have hcell := unhide HCX k hkl
      have hrv' := hrv.out
      rw [List.drop_eq_getElem_cons hkl] at hrv'
      have hc8 := ((bs.drop a)[k]).toNat_lt
      have hv' := hv.out
      generalize (bs.drop a)[k] = c at *
      obtain ⟨r, hr⟩ : ∃ r, (bs.drop a).drop (k + 1) = r := ⟨_, rfl⟩
      rw [hr] at hrv'
      have HRR := hide hr
      have hand : bits .and .u8 (c.toNat : Int) 127 = (c.toNat : Int) % 128 := by rw [bits_and127]; omega
      have HRV := hide hrv'
      have HV := hide hv'
      clear hrv hrv' hv hv' HCX hr
      by_cases h9 : k = 9
      · subst h9
        by_cases hc1 : 1 < c.toNat
        · have g1 : (1 : Int) < c.toNat := by omega
          have hbad : badB 9 c.toNat = true := by simp [badB]; omega
          have hR : rvF 0 0 (bs.drop a) = (11, 0, 0) := by rw [unhide HRV, rvF_bad _ _ _ _ hbad]
          obtain ⟨e1, e2, e3⟩ := unhide HF _ hR
          simp only [if_neg (show ¬ (11 : Nat) = 0 by omega)] at e2 e3
          have e2' : ((readV bs (a : Nat) : Nat) : Int) = 0 := by rw [e2]; rfl
          have E1 := hide e1
          have E2 := hide e2'
          have E3 := hide e3
          clear e1 e2 e2' e3 hR HF HRV hbad
          go_wp2
          go_ret3
          exact ⟨by rw [unhide E1, unhide E2, unhide E3]; rfl, rfl⟩
        · have g1 : decide ((1 : Int) < c.toNat) = false := by simp; omega
          by_cases hz : c.toNat = 0
          · have g2 : ((c.toNat : Int) == 0) = true := by simp; omega
            have hbad : badB 9 c.toNat = true := by simp [badB]; omega
            have hR : rvF 0 0 (bs.drop a) = (11, 0, 0) := by rw [unhide HRV, rvF_bad _ _ _ _ hbad]
            obtain ⟨e1, e2, e3⟩ := unhide HF _ hR
            simp only [if_neg (show ¬ (11 : Nat) = 0 by omega)] at e2 e3
            have e2' : ((readV bs (a : Nat) : Nat) : Int) = 0 := by rw [e2]; rfl
            have E1 := hide e1
            have E2 := hide e2'
            have E3 := hide e3
            clear e1 e2 e2' e3 hR HF HRV hbad
            go_wp2
            go_ret3
            exact ⟨by rw [unhide E1, unhide E2, unhide E3]; rfl, rfl⟩
          · have g2 : ((c.toNat : Int) == 0) = false := by simp; omega
            have hbad : badB 9 c.toNat = false := by simp [badB]; omega
            have hlt : (c.toNat : Int) < 128 := by omega
            have HB := hide (rv_bits9 v c (unhide HV) hbad)
            have hR : rvF 0 0 (bs.drop a) = (0, v + c.toNat % 128 * 128 ^ 9, 9 + 1) := by rw [unhide HRV, rvF_last _ _ _ _ hbad (by omega)]
            obtain ⟨e1, e2, e3⟩ := unhide HF _ hR
            simp only [if_true] at e2 e3
            have E1 := hide e1
            have E2 := hide e2
            have E3 := hide e3
            clear e1 e2 e3 hR HF HRV hbad HV
            go_wp2
            go_ret3
            refine ⟨?_, rfl⟩
            rw [unhide E1, unhide E2, unhide E3]
            refine ret3 ?_ ?_
            · exact unhide HB
            · omega
      · have g9 : ((k : Int) == 9) = false := by simp; omega
        by_cases hk0 : 0 < k
        · have g0 : (0 : Int) < k := by omega
          by_cases hz : c.toNat = 0
          · have g2 : ((c.toNat : Int) == 0) = true := by simp; omega
            have hbad : badB k c.toNat = true := by simp [badB]; omega
            have hR : rvF 0 0 (bs.drop a) = (11, 0, 0) := by rw [unhide HRV, rvF_bad _ _ _ _ hbad]
            obtain ⟨e1, e2, e3⟩ := unhide HF _ hR
            simp only [if_neg (show ¬ (11 : Nat) = 0 by omega)] at e2 e3
            have e2' : ((readV bs (a : Nat) : Nat) : Int) = 0 := by rw [e2]; rfl
            have E1 := hide e1
            have E2 := hide e2'
            have E3 := hide e3
            clear e1 e2 e2' e3 hR HF HRV hbad
            go_wp2
            go_ret3
            exact ⟨by rw [unhide E1, unhide E2, unhide E3]; rfl, rfl⟩
          · have g2 : ((c.toNat : Int) == 0) = false := by simp; omega
            by_cases hm : 128 ≤ c.toNat
            · have hbad : badB k c.toNat = false := by simp [badB]; omega
              have hge : ¬ (c.toNat : Int) < 128 := by omega
              have HB := hide (rv_bits k v c (by omega) (unhide HV) hbad)
              have HR := hide ((unhide HRV).trans (rvF_more _ _ _ _ hbad (by omega)))
              have HN := hide (pow_next k v c (unhide HV))
              clear hbad HF HRV HV
              go_wp2
              go_round
              case rel => exact ⟨k + 1, v + c.toNat % 128 * 128 ^ k, by omega, by go_num, by rw [← unhide HB], unhide HN, by unfold Hid; rw [unhide HR, ← unhide HRR]⟩
              case measure => simp [intOf]; omega
            · have hbad : badB k c.toNat = false := by simp [badB]; omega
              have hlt : (c.toNat : Int) < 128 := by omega
              have HB := hide (rv_bits k v c (by omega) (unhide HV) hbad)
              have hR : rvF 0 0 (bs.drop a) = (0, v + c.toNat % 128 * 128 ^ k, k + 1) := by rw [unhide HRV, rvF_last _ _ _ _ hbad (by omega)]
              obtain ⟨e1, e2, e3⟩ := unhide HF _ hR
              simp only [if_true] at e2 e3
              have E1 := hide e1
              have E2 := hide e2
              have E3 := hide e3
              clear e1 e2 e3 hR HF HRV hbad HV
              go_wp2
              go_ret3
              refine ⟨?_, rfl⟩
              rw [unhide E1, unhide E2, unhide E3]
              refine ret3 ?_ ?_
              · exact unhide HB
              · omega
        · obtain rfl : k = 0 := by omega
          rw [Nat.add_zero] at hcell
          by_cases hm : 128 ≤ c.toNat
          · have hbad : badB 0 c.toNat = false := by simp [badB]
            have hge : ¬ (c.toNat : Int) < 128 := by omega
            have HB := hide (rv_bits0 v c (unhide HV) hbad)
            have HR := hide ((unhide HRV).trans (rvF_more _ _ _ _ hbad (by omega)))
            have HN := hide (pow_next 0 v c (unhide HV))
            clear hbad HF HRV HV
            go_wp2
            go_round
            case rel => exact ⟨0 + 1, v + c.toNat % 128 * 128 ^ 0, by omega, by go_num, by rw [← unhide HB], unhide HN, by unfold Hid; rw [unhide HR, ← unhide HRR]⟩
            case measure => simp [intOf]
          · have hbad : badB 0 c.toNat = false := by simp [badB]
            have hlt : (c.toNat : Int) < 128 := by omega
            have HB := hide (rv_bits0 v c (unhide HV) hbad)
            have hR : rvF 0 0 (bs.drop a) = (0, v + c.toNat % 128 * 128 ^ 0, 0 + 1) := by rw [unhide HRV, rvF_last _ _ _ _ hbad (by omega)]
            obtain ⟨e1, e2, e3⟩ := unhide HF _ hR
            simp only [if_true] at e2 e3
            have E1 := hide e1
            have E2 := hide e2
            have E3 := hide e3
            clear e1 e2 e3 hR HF HRV hbad HV
            go_wp2
            go_ret3
            refine ⟨?_, rfl⟩
            rw [unhide E1, unhide E2, unhide E3]
            refine ret3 ?_ ?_
            · exact unhide HB
            · omega

theorem rrv_any (s : Value) (bs : List UInt8) (a : Int) (w : World) (hs : Row w s bs) (hroom : bs.length ≤ 140737488351232) :
    Calls Try.prog 87 #[s, .int .i64 a] w fun e w' => e = .returned (.tuple #[.int .u64 (readV bs a : Nat), .int .i64 (readN bs a), .int .i64 (readE bs a)]) ∧ w' = w := by
  by_cases h0 : a < 0
  · refine (rrv_neg s a w h0).mono ?_
    rintro e w' ⟨rfl, rfl⟩
    refine ⟨?_, rfl⟩
    unfold readV readN readE
    rw [if_pos h0, if_pos h0, if_pos h0]
    rfl
  · obtain ⟨k, rfl⟩ := Int.eq_ofNat_of_zero_le (show 0 ≤ a by omega)
    by_cases h1 : k < bs.length
    · exact rrv_in s bs k w hs hroom h1
    · have hd : rvF 0 0 (bs.drop k) = (10, 0, 0) := by rw [List.drop_of_length_le (by omega)]; rfl
      obtain ⟨e1, e2, e3⟩ := read_of bs k _ hd
      rw [e1, e2, e3]
      obtain ⟨p, cap, rfl, hc1, hc2, hc3, _⟩ := hs
      refine (rrv_past p bs.length cap k w (by omega)).mono ?_
      rintro e w' ⟨rfl, rfl⟩
      exact ⟨rfl, rfl⟩

end Go.Proofs.Ytdpoiieblbmofaa
