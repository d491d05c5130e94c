/- Texts of ours, one behind the other: Word2, Put, RefRv, BatWr1, RefZero. -/
import Derived.Test.YtpampknbbpjkiaaG1
import Derived.Test.YtpampknbbpjkiaaG4
import Derived.Test.YtpampknbbpjkiaaG10
import Derived.Test.YtpampknbbpjkiaaG11
import Derived.Laws.EntriesVeiled
/- What Zero of package word does, out of the contracts of what it calls. -/
namespace Go.Proofs.Ytpampknbbpjkiaa
open Go.RowKit

theorem all_zero (bs : List UInt8) (h : ∀ j (h : j < bs.length), bs[j] = 0) : bs.all (· == 0) = true := by
  rw [List.all_eq_true]
  intro x hx
  obtain ⟨j, hj, rfl⟩ := List.getElem_of_mem hx
  simp [h j hj]
theorem not_all_zero (bs : List UInt8) (j : Nat) (hj : j < bs.length) (h : bs[j] ≠ 0) : bs.all (· == 0) = false := by
  rw [Bool.eq_false_iff]
  intro ha
  rw [List.all_eq_true] at ha
  exact h (by simpa using ha _ (List.getElem_mem hj))
theorem beq_byte (u : UInt8) : ((u.toNat : Int) == 0) = (u == 0) := by
  rw [Bool.eq_iff_iff]
  simp only [beq_iff_eq]
  constructor
  · intro h; exact UInt8.toNat_inj.1 (by simpa using h)
  · intro h; simp [h]

end Go.Proofs.Ytpampknbbpjkiaa

/- What Put of package word does. -/
namespace Go.Proofs.Ytpampknbbpjkiaa
open Go.RowKit

/-- The row while v is being put behind bs: i of its n bytes are there. -/
def fill (bs : List UInt8) (n v i : Nat) : List UInt8 := bs ++ le i v ++ List.replicate (n - i) 0
theorem length_fill (bs : List UInt8) (n v i : Nat) (h : i ≤ n) : (fill bs n v i).length = bs.length + n := by simp [fill, length_le]; omega
theorem fill_zero (bs : List UInt8) (n v : Nat) : fill bs n v 0 = bs ++ List.replicate n 0 := by simp [fill, le]
theorem fill_all (bs : List UInt8) (n v : Nat) : fill bs n v n = bs ++ le n v := by simp [fill]
theorem fill_step (bs : List UInt8) (n v i : Nat) (h : i < n) : (fill bs n v i).set (bs.length + i) (UInt8.ofNat (v / 256 ^ i)) = fill bs n v (i + 1) := by
  have e : n - i = (n - (i + 1)) + 1 := by omega
  unfold fill
  rw [e, List.replicate_succ, List.set_append, if_neg (by simp [length_le]), le_succ]
  simp [length_le]

end Go.Proofs.Ytpampknbbpjkiaa

/- What the reference's ReadVar and Var do: the same as the program's. -/
namespace Go.Proofs.Ytpampknbbpjkiaa
open Go.RowKit

theorem rrv_neg (s : Value) (a : Int) (w : World) (h : a < 0) :
    Calls Try.prog 74 #[s, .int .i64 a] w fun e w' => e = .returned (.tuple #[.int .u64 0, .int .i64 0, .int .i64 1]) ∧ w' = w := by
  go_enter Try.func74, Try.ntmps74
  go_wp2
  go_ret3
  exact ⟨rfl, rfl⟩

theorem rrv_past (p : Option Addr) (len cap a : Nat) (w : World) (h : len ≤ a) :
    Calls Try.prog 74 #[.slice p len cap, .int .i64 a] w fun e w' => e = .returned (.tuple #[.int .u64 0, .int .i64 0, .int .i64 10]) ∧ w' = w := by
  have h0 : ¬ (a : Int) < 0 := by omega
  have h1 : decide ((len : Int) ≤ a) = true := by simp; omega
  go_enter Try.func74, Try.ntmps74
  go_wp2
  refine wp_loop_rounds 1 ?_
  rw [rounds_succ]
  go_wp2
  go_ret3
  exact ⟨rfl, rfl⟩

set_option maxRecDepth 100000 in
set_option maxHeartbeats 2000000 in
theorem rrv_in (s : Value) (bs : List UInt8) (a : Nat) (w : World) (hs : Row w s bs) (hroom : bs.length ≤ 140737488351232) (h : a < bs.length) :
    Calls Try.prog 74 #[s, .int .i64 a] w fun e w' => e = .returned (.tuple #[.int .u64 (readV bs a : Nat), .int .i64 (readN bs a), .int .i64 (readE bs a)]) ∧ w' = w := by
  obtain ⟨b, off, cap, rfl, hc1, hc2, hc⟩ := hs.open (by intro e; rw [e] at h; simp at h)
  unfold maxLen at hc2
  have h0 : ¬ (a : Int) < 0 := by omega
  have d0 : decide ((bs.length : Int) ≤ a) = false := by simp; omega
  have HF := hide (fun R hR => read_of bs a R hR)
  have hcx : ∀ k (hk : k < (bs.drop a).length), w.cell? ⟨b, off + (a + k), none⟩ = some (.int .u8 ((bs.drop a)[k].toNat : Int)) := fun k hk => by
    have : a + k < bs.length := by simp at hk; omega
    rw [hc (a + k) this]; simp [B]
  have HCX := hide hcx
  have hdl : (bs.drop a).length = bs.length - a := by simp
  clear hc hcx
  go_enter Try.func74, Try.ntmps74
  go_wp2
  go_loop [7, 8] (fun t i => ∃ k v : Nat, k ≤ 9 ∧ i = .int .i64 k ∧ t = .int .u64 v ∧ Hid (v < 128 ^ k) ∧ Hid (rvF 0 0 (bs.drop a) = rvF k v ((bs.drop a).drop k))) (fun _ i => 10 - (intOf i).toNat)
  case atStart => exact ⟨0, 0, by omega, rfl, rfl, by unfold Hid; simp, by unfold Hid; simp⟩
  case round =>
    obtain ⟨k, v, hk, rfl, rfl, hv, hrv⟩ := hrel
    by_cases hend : bs.length ≤ a + k
    · have d1 : decide ((bs.length : Int) ≤ (a : Int) + k) = true := by simp; omega
      have hR : rvF 0 0 (bs.drop a) = (10, 0, 0) := by rw [hrv.out, List.drop_of_length_le (by omega)]; rfl
      obtain ⟨e1, e2, e3⟩ := unhide HF _ hR
      simp only [if_neg (show ¬ (10 : Nat) = 0 by omega)] at e2 e3
      have e2' : ((readV bs (a : Nat) : Nat) : Int) = 0 := by rw [e2]; rfl
      have E1 := hide e1
      have E2 := hide e2'
      have E3 := hide e3
      clear e1 e2 e2' e3 hR HF HCX hrv hv
      go_wp2
      go_ret3
      exact ⟨by rw [unhide E1, unhide E2, unhide E3]; rfl, rfl⟩
    · have d1 : decide ((bs.length : Int) ≤ (a : Int) + k) = false := by simp; omega
      have hkl : k < (bs.drop a).length := by omega
      have hcell := unhide HCX k hkl
      have hrv' := hrv.out
      rw [List.drop_eq_getElem_cons hkl] at hrv'
      have hc8 := ((bs.drop a)[k]).toNat_lt
      have hv' := hv.out
      generalize (bs.drop a)[k] = c at *
      obtain ⟨r, hr⟩ : ∃ r, (bs.drop a).drop (k + 1) = r := ⟨_, rfl⟩
      rw [hr] at hrv'
      have HRR := hide hr
      have hand : bits .and .u8 (c.toNat : Int) 127 = (c.toNat : Int) % 128 := by rw [bits_and127]; omega
      have HRV := hide hrv'
      have HV := hide hv'
      clear hrv hrv' hv hv' HCX hr
      by_cases h9 : k = 9
      · subst h9
        by_cases hc1 : 1 < c.toNat
        · have g1 : (1 : Int) < c.toNat := by omega
          have hbad : badB 9 c.toNat = true := by simp [badB]; omega
          have hR : rvF 0 0 (bs.drop a) = (11, 0, 0) := by rw [unhide HRV, rvF_bad _ _ _ _ hbad]
          obtain ⟨e1, e2, e3⟩ := unhide HF _ hR
          simp only [if_neg (show ¬ (11 : Nat) = 0 by omega)] at e2 e3
          have e2' : ((readV bs (a : Nat) : Nat) : Int) = 0 := by rw [e2]; rfl
          have E1 := hide e1
          have E2 := hide e2'
          have E3 := hide e3
          clear e1 e2 e2' e3 hR HF HRV hbad
          go_wp2
          go_ret3
          exact ⟨by rw [unhide E1, unhide E2, unhide E3]; rfl, rfl⟩
        · have g1 : decide ((1 : Int) < c.toNat) = false := by simp; omega
          by_cases hz : c.toNat = 0
          · have g2 : ((c.toNat : Int) == 0) = true := by simp; omega
            have hbad : badB 9 c.toNat = true := by simp [badB]; omega
            have hR : rvF 0 0 (bs.drop a) = (11, 0, 0) := by rw [unhide HRV, rvF_bad _ _ _ _ hbad]
            obtain ⟨e1, e2, e3⟩ := unhide HF _ hR
            simp only [if_neg (show ¬ (11 : Nat) = 0 by omega)] at e2 e3
            have e2' : ((readV bs (a : Nat) : Nat) : Int) = 0 := by rw [e2]; rfl
            have E1 := hide e1
            have E2 := hide e2'
            have E3 := hide e3
            clear e1 e2 e2' e3 hR HF HRV hbad
            go_wp2
            go_ret3
            exact ⟨by rw [unhide E1, unhide E2, unhide E3]; rfl, rfl⟩
          · have g2 : ((c.toNat : Int) == 0) = false := by simp; omega
            have hbad : badB 9 c.toNat = false := by simp [badB]; omega
            have hlt : (c.toNat : Int) < 128 := by omega
            have HB := hide (rv_bits9 v c (unhide HV) hbad)
            have hR : rvF 0 0 (bs.drop a) = (0, v + c.toNat % 128 * 128 ^ 9, 9 + 1) := by rw [unhide HRV, rvF_last _ _ _ _ hbad (by omega)]
            obtain ⟨e1, e2, e3⟩ := unhide HF _ hR
            simp only [if_true] at e2 e3
            have E1 := hide e1
            have E2 := hide e2
            have E3 := hide e3
            clear e1 e2 e3 hR HF HRV hbad HV
            go_wp2
            go_ret3
            refine ⟨?_, rfl⟩
            rw [unhide E1, unhide E2, unhide E3]
            refine ret3 ?_ ?_
            · exact unhide HB
            · omega
      · have g9 : ((k : Int) == 9) = false := by simp; omega
        by_cases hk0 : 0 < k
        · have g0 : (0 : Int) < k := by omega
          by_cases hz : c.toNat = 0
          · have g2 : ((c.toNat : Int) == 0) = true := by simp; omega
            have hbad : badB k c.toNat = true := by simp [badB]; omega
            have hR : rvF 0 0 (bs.drop a) = (11, 0, 0) := by rw [unhide HRV, rvF_bad _ _ _ _ hbad]
            obtain ⟨e1, e2, e3⟩ := unhide HF _ hR
            simp only [if_neg (show ¬ (11 : Nat) = 0 by omega)] at e2 e3
            have e2' : ((readV bs (a : Nat) : Nat) : Int) = 0 := by rw [e2]; rfl
            have E1 := hide e1
            have E2 := hide e2'
            have E3 := hide e3
            clear e1 e2 e2' e3 hR HF HRV hbad
            go_wp2
            go_ret3
            exact ⟨by rw [unhide E1, unhide E2, unhide E3]; rfl, rfl⟩
          · have g2 : ((c.toNat : Int) == 0) = false := by simp; omega
            by_cases hm : 128 ≤ c.toNat
            · have hbad : badB k c.toNat = false := by simp [badB]; omega
              have hge : ¬ (c.toNat : Int) < 128 := by omega
              have HB := hide (rv_bits k v c (by omega) (unhide HV) hbad)
              have HR := hide ((unhide HRV).trans (rvF_more _ _ _ _ hbad (by omega)))
              have HN := hide (pow_next k v c (unhide HV))
              clear hbad HF HRV HV
              go_wp2
              go_round
              case rel => exact ⟨k + 1, v + c.toNat % 128 * 128 ^ k, by omega, by go_num, by rw [← unhide HB], unhide HN, by unfold Hid; rw [unhide HR, ← unhide HRR]⟩
              case measure => simp [intOf]; omega
            · have hbad : badB k c.toNat = false := by simp [badB]; omega
              have hlt : (c.toNat : Int) < 128 := by omega
              have HB := hide (rv_bits k v c (by omega) (unhide HV) hbad)
              have hR : rvF 0 0 (bs.drop a) = (0, v + c.toNat % 128 * 128 ^ k, k + 1) := by rw [unhide HRV, rvF_last _ _ _ _ hbad (by omega)]
              obtain ⟨e1, e2, e3⟩ := unhide HF _ hR
              simp only [if_true] at e2 e3
              have E1 := hide e1
              have E2 := hide e2
              have E3 := hide e3
              clear e1 e2 e3 hR HF HRV hbad HV
              go_wp2
              go_ret3
              refine ⟨?_, rfl⟩
              rw [unhide E1, unhide E2, unhide E3]
              refine ret3 ?_ ?_
              · exact unhide HB
              · omega
        · obtain rfl : k = 0 := by omega
          rw [Nat.add_zero] at hcell
          by_cases hm : 128 ≤ c.toNat
          · have hbad : badB 0 c.toNat = false := by simp [badB]
            have hge : ¬ (c.toNat : Int) < 128 := by omega
            have HB := hide (rv_bits0 v c (unhide HV) hbad)
            have HR := hide ((unhide HRV).trans (rvF_more _ _ _ _ hbad (by omega)))
            have HN := hide (pow_next 0 v c (unhide HV))
            clear hbad HF HRV HV
            go_wp2
            go_round
            case rel => exact ⟨0 + 1, v + c.toNat % 128 * 128 ^ 0, by omega, by go_num, by rw [← unhide HB], unhide HN, by unfold Hid; rw [unhide HR, ← unhide HRR]⟩
            case measure => simp [intOf]
          · have hbad : badB 0 c.toNat = false := by simp [badB]
            have hlt : (c.toNat : Int) < 128 := by omega
            have HB := hide (rv_bits0 v c (unhide HV) hbad)
            have hR : rvF 0 0 (bs.drop a) = (0, v + c.toNat % 128 * 128 ^ 0, 0 + 1) := by rw [unhide HRV, rvF_last _ _ _ _ hbad (by omega)]
            obtain ⟨e1, e2, e3⟩ := unhide HF _ hR
            simp only [if_true] at e2 e3
            have E1 := hide e1
            have E2 := hide e2
            have E3 := hide e3
            clear e1 e2 e3 hR HF HRV hbad HV
            go_wp2
            go_ret3
            refine ⟨?_, rfl⟩
            rw [unhide E1, unhide E2, unhide E3]
            refine ret3 ?_ ?_
            · exact unhide HB
            · omega

theorem rrv_any (s : Value) (bs : List UInt8) (a : Int) (w : World) (hs : Row w s bs) (hroom : bs.length ≤ 140737488351232) :
    Calls Try.prog 74 #[s, .int .i64 a] w fun e w' => e = .returned (.tuple #[.int .u64 (readV bs a : Nat), .int .i64 (readN bs a), .int .i64 (readE bs a)]) ∧ w' = w := by
  by_cases h0 : a < 0
  · refine (rrv_neg s a w h0).mono ?_
    rintro e w' ⟨rfl, rfl⟩
    refine ⟨?_, rfl⟩
    unfold readV readN readE
    rw [if_pos h0, if_pos h0, if_pos h0]
    rfl
  · obtain ⟨k, rfl⟩ := Int.eq_ofNat_of_zero_le (show 0 ≤ a by omega)
    by_cases h1 : k < bs.length
    · exact rrv_in s bs k w hs hroom h1
    · have hd : rvF 0 0 (bs.drop k) = (10, 0, 0) := by rw [List.drop_of_length_le (by omega)]; rfl
      obtain ⟨e1, e2, e3⟩ := read_of bs k _ hd
      rw [e1, e2, e3]
      obtain ⟨p, cap, rfl, hc1, hc2, hc3, _⟩ := hs
      refine (rrv_past p bs.length cap k w (by omega)).mono ?_
      rintro e w' ⟨rfl, rfl⟩
      exact ⟨rfl, rfl⟩

set_option maxHeartbeats 800000 in
theorem rvar_any (v : Nat) (hv : v < 18446744073709551616) (w : World) :
    Calls Try.prog 70 #[.int .u64 v] w fun e w' => ∃ s, e = .returned s ∧ w'.ownsRow w.heap.size 5 1 s (varF 9 v).length ((varF 9 v).map B) ∧ Below w.heap.size w w' := by
  obtain ⟨i0, hi, hz0, hz1, hz2⟩ := info_parts Try.info5
  go_enter Try.func70, Try.ntmps70
  go_wp2
  go_loopw [0, 3] (fun t s wr => ∃ (f x : Nat) (pre : List UInt8), t = .int .u64 x ∧ Hid (pre ++ varF f x = varF 9 v) ∧ pre.length + f = 9 ∧ Hid (x < 128 ^ (f + 1)) ∧ x < 18446744073709551616 ∧ wr.ownsRow w.heap.size 5 1 s pre.length (pre.map B) ∧ Below w.heap.size w wr)
     (fun t _ _ => (intOf t).toNat)
  case atStart => exact ⟨9, v, [], rfl, rfl, rfl, by unfold Hid; omega, hv, World.ownsRow_nil _ _ _ _, Below.refl _ _⟩
  case round =>
    obtain ⟨f, x, pre, rfl, hpre, hlen, hx, hx64, hown, hnx⟩ := hrel
    have hsz := hnx.size
    by_cases h : 127 < x
    · have hge : (128 : Int) ≤ x := by omega
      go_wp2_with (at_builtin; refine wpList_append_own _ rfl _ _ 30 rfl w.heap.size 5 i0 (.int .u8 0) 1 1 Try.underlying30 hi hz0 hz1 hz2 rfl (by decide) _ _ _ rfl (hown.alloc _) ⟨wr.heap.size, 0, none⟩ 1 1 [.int .u8 (bits BinOp.or .u8 ((x : Int) % 256) 128)] rfl rfl ?c1 ?c2 ?c3 ?c4 ?c5 ?_)
      case c1 =>
        intro j u hj
        match j, hj with
        | 0, hj => simp at hj; subst hj; simp [Addr.add]
      case c2 => intro u hu; simp at hu; subst hu; rfl
      case c3 => unfold maxLen; omega
      case c4 => omega
      case c5 => simp; omega
      intro v' w1 hown' hgrow _
      have hb' : Below w.heap.size w w1 := (hnx.alloc (by omega) _).grown hgrow (by simp; omega) (fun k hk => (hown.lt k hk).1)
      clear hown hgrow hnx
      go_wp2
      go_roundw
      case rel =>
        match f, hx with
        | 0, hx => have := hx.out; omega
        | f + 1, hx =>
          refine ⟨f, x / 128, pre ++ [UInt8.ofNat (x % 128 + 128)], by go_num, ?_, by simp; omega, pow_step f x hx.out, by omega, ?_, hb'⟩
          · unfold Hid; rw [← hpre.out, varF_go f x (by omega)]; simp
          · rw [List.length_append, List.map_append, List.map_singleton, B_or128]; exact hown'
      case measure => simp [intOf]; omega
    · have hle : ¬ (128 : Int) ≤ x := by omega
      go_wp2_with (at_builtin; refine wpList_append_own _ rfl _ _ 30 rfl w.heap.size 5 i0 (.int .u8 0) 1 1 Try.underlying30 hi hz0 hz1 hz2 rfl (by decide) _ _ _ rfl (hown.alloc _) ⟨wr.heap.size, 0, none⟩ 1 1 [.int .u8 ((x : Int))] rfl rfl ?d1 ?d2 ?d3 ?d4 ?d5 ?_)
      case d2 => first | rfl | (intro u hu; simp at hu; subst hu; rfl)
      case d3 => unfold maxLen; omega
      case d4 => omega
      case d5 => first | omega | (simp; omega)
      intro v' w1 hown' hgrow _
      have hb' : Below w.heap.size w w1 := (hnx.alloc (by omega) _).grown hgrow (by simp; omega) (fun k hk => (hown.lt k hk).1)
      clear hown hgrow hnx
      go_wp2
      go_ret
      refine ⟨_, rfl, ?_, hb'⟩
      have e : varF 9 v = pre ++ [UInt8.ofNat x] := by rw [← hpre.out, varF_stop f x (by omega)]
      rw [e]
      simpa [B, Nat.mod_eq_of_lt (show x < 256 by omega)] using hown'
end Go.Proofs.Ytpampknbbpjkiaa

/- The landed package batch: numbers as bytes. -/
namespace Go.Proofs.Ytpampknbbpjkiaa
open Go.RowKit

/-- A slice value that reads as these numbers. -/
def UL (w : World) (v : Value) (l : List Nat) : Prop := KRow 1 w v l.length (l.map fun (n : Nat) => Value.int .u64 (n : Int))
def numsB (l : List Nat) : List UInt8 := l.flatMap (varF 9)
theorem numsB_len (l : List Nat) : (numsB l).length ≤ l.length * 10 := by
  induction l with
  | nil => simp [numsB]
  | cons x l ih =>
    have := (varF_len 9 x).2
    simp only [numsB, List.flatMap_cons, List.length_append, List.length_cons] at *
    omega
theorem numsB_take (l : List Nat) (k : Nat) (h : k < l.length) : numsB (l.take (k + 1)) = numsB (l.take k) ++ varF 9 l[k] := by
  rw [List.take_succ_eq_append_getElem h]
  simp only [numsB, List.flatMap_append, List.flatMap_cons, List.flatMap_nil, List.append_nil]

set_option maxRecDepth 20000 in
set_option maxHeartbeats 1000000 in
theorem numbers_any (v : Value) (l : List Nat) (w : World) (hl : UL w v l) (h64 : ∀ x ∈ l, x < 18446744073709551616) (hlen : l.length ≤ 1000) :
    Calls Try.prog 82 #[v] w fun e w' => ∃ s, e = .returned s ∧ w'.ownsRow w.heap.size 5 1 s (numsB l).length ((numsB l).map B) ∧ Below w.heap.size w w' := by
  obtain ⟨i0, hi, hz0, hz1, hz2⟩ := info_parts Try.info5
  obtain ⟨p, c, rfl, hc1, hc2, hc3⟩ := KRow.shape hl
  have HC : Hid (∀ w', Below w.heap.size w w' → ∀ k (hk : k < l.length), ∃ ad, p = some ad ∧ w'.cell? (ad.add k) = some (.int .u64 (l[k] : Int))) := by
    intro w' hb k hk
    obtain ⟨ad, rfl, hc⟩ := KRow.pos (hl.below hb) (by omega)
    exact ⟨ad, rfl, hc k _ (by simp [hk])⟩
  have H64 := hide h64
  have hlen' : (l.length : Int) ≤ 1000 := by omega
  clear hl h64
  go_enter Try.func82, Try.ntmps82
  go_wp2
  go_loopw [3, 8] (fun s i wr => ∃ k : Nat, k ≤ l.length ∧ i = .int .i64 k ∧ Hid (wr.ownsRow w.heap.size 5 1 s (numsB (l.take k)).length ((numsB (l.take k)).map B)) ∧ Hid (Below w.heap.size w wr)) (fun _ i _ => l.length - (intOf i).toNat)
  case atStart => exact ⟨0, Nat.zero_le _, rfl, World.ownsRow_nil _ _ _ _, Below.refl _ _⟩
  case round =>
    obtain ⟨k, hk, rfl, hown, hbel⟩ := hrel
    by_cases hlt : k < l.length
    · obtain ⟨ad, rfl, hcell⟩ := unhide HC wr (unhide hbel) k hlt
      have hkl : (k : Int) < l.length := by omega
      have HV := hide (var_any l[k] (unhide H64 _ (List.getElem_mem hlt)) wr)
      have HT := hide (numsB_take l k hlt)
      have hnl := numsB_len (l.take k)
      rw [List.length_take] at hnl
      have hvl := (varF_len 9 l[k]).2
      generalize l[k] = x at *
      obtain ⟨bl, hbl⟩ : ∃ bl, bl = numsB (l.take k) := ⟨_, rfl⟩
      rw [← hbl] at hown HT hnl
      clear hbl
      go_wp2_with fail
      refine Calls.mono (unhide HV) ?_
      rintro e w1 ⟨s1, rfl, hown1, hb1⟩
      have hrow := row_of_owns hown1
      obtain ⟨q1, c1, l1, rfl, rfl⟩ := hrow.shape
      have hB1 := (unhide hbel).trans (hb1.mono (unhide hbel).size)
      have hown0 := owns_below (unhide hown) hb1
      have hsz := hB1.size
      clear HV hcell hown1 hown hbel hb1
      go_wp2_with (at_builtin; refine wpList_append_row rfl _ _ 30 rfl w.heap.size 5 i0 (.int .u8 0) Try.underlying30 hi hz0 hz1 hz2 rfl _ _ _ rfl hown0 _ (varF 9 x) rfl hrow (by omega) hsz ?_)
      intro v2 w2 hown2 hgrow2
      have HB2 : Hid (Below w.heap.size w w2) := hB1.grown hgrow2 hsz (fun k hk => (hown0.lt k hk).1)
      have HO2 := hide hown2
      clear hown2 hgrow2 hown0 hB1 hrow
      go_wp2
      go_roundw
      case rel =>
        refine ⟨k + 1, by omega, by go_num, ?_, HB2⟩
        unfold Hid
        rw [unhide HT, List.length_append, List.map_append]
        exact unhide HO2
      case measure => simp [intOf]; omega
    · obtain rfl : k = l.length := by omega
      rw [List.take_length] at hown
      go_wp2
      go_ret
      exact ⟨_, rfl, unhide hown, unhide hbel⟩
set_option maxRecDepth 20000 in
set_option maxHeartbeats 1000000 in
theorem rnums_any (v : Value) (l : List Nat) (w : World) (hl : UL w v l) (h64 : ∀ x ∈ l, x < 18446744073709551616) (hlen : l.length ≤ 1000) :
    Calls Try.prog 47 #[v] w fun e w' => ∃ s, e = .returned s ∧ w'.ownsRow w.heap.size 5 1 s (numsB l).length ((numsB l).map B) ∧ Below w.heap.size w w' := by
  obtain ⟨i0, hi, hz0, hz1, hz2⟩ := info_parts Try.info5
  obtain ⟨p, c, rfl, hc1, hc2, hc3⟩ := KRow.shape hl
  have HC : Hid (∀ w', Below w.heap.size w w' → ∀ k (hk : k < l.length), ∃ ad, p = some ad ∧ w'.cell? (ad.add k) = some (.int .u64 (l[k] : Int))) := by
    intro w' hb k hk
    obtain ⟨ad, rfl, hc⟩ := KRow.pos (hl.below hb) (by omega)
    exact ⟨ad, rfl, hc k _ (by simp [hk])⟩
  have H64 := hide h64
  have hlen' : (l.length : Int) ≤ 1000 := by omega
  clear hl h64
  go_enter Try.func47, Try.ntmps47
  go_wp2
  go_loopw [3, 4] (fun s i wr => ∃ k : Nat, k ≤ l.length ∧ i = .int .i64 k ∧ Hid (wr.ownsRow w.heap.size 5 1 s (numsB (l.take k)).length ((numsB (l.take k)).map B)) ∧ Hid (Below w.heap.size w wr)) (fun _ i _ => l.length - (intOf i).toNat)
  case atStart => exact ⟨0, Nat.zero_le _, rfl, World.ownsRow_nil _ _ _ _, Below.refl _ _⟩
  case round =>
    obtain ⟨k, hk, rfl, hown, hbel⟩ := hrel
    by_cases hlt : k < l.length
    · obtain ⟨ad, rfl, hcell⟩ := unhide HC wr (unhide hbel) k hlt
      have hkl : (k : Int) < l.length := by omega
      have HV := hide (rvar_any l[k] (unhide H64 _ (List.getElem_mem hlt)) wr)
      have HT := hide (numsB_take l k hlt)
      have hnl := numsB_len (l.take k)
      rw [List.length_take] at hnl
      have hvl := (varF_len 9 l[k]).2
      generalize l[k] = x at *
      obtain ⟨bl, hbl⟩ : ∃ bl, bl = numsB (l.take k) := ⟨_, rfl⟩
      rw [← hbl] at hown HT hnl
      clear hbl
      go_wp2_with fail
      refine Calls.mono (unhide HV) ?_
      rintro e w1 ⟨s1, rfl, hown1, hb1⟩
      have hrow := row_of_owns hown1
      obtain ⟨q1, c1, l1, rfl, rfl⟩ := hrow.shape
      have hB1 := (unhide hbel).trans (hb1.mono (unhide hbel).size)
      have hown0 := owns_below (unhide hown) hb1
      have hsz := hB1.size
      clear HV hcell hown1 hown hbel hb1
      go_wp2_with (at_builtin; refine wpList_append_row rfl _ _ 30 rfl w.heap.size 5 i0 (.int .u8 0) Try.underlying30 hi hz0 hz1 hz2 rfl _ _ _ rfl hown0 _ (varF 9 x) rfl hrow (by omega) hsz ?_)
      intro v2 w2 hown2 hgrow2
      have HB2 : Hid (Below w.heap.size w w2) := hB1.grown hgrow2 hsz (fun k hk => (hown0.lt k hk).1)
      have HO2 := hide hown2
      clear hown2 hgrow2 hown0 hB1 hrow
      go_wp2
      go_roundw
      case rel =>
        refine ⟨k + 1, by omega, by go_num, ?_, HB2⟩
        unfold Hid
        rw [unhide HT, List.length_append, List.map_append]
        exact unhide HO2
      case measure => simp [intOf]; omega
    · obtain rfl : k = l.length := by omega
      rw [List.take_length] at hown
      go_wp2
      go_ret
      exact ⟨_, rfl, unhide hown, unhide hbel⟩
end Go.Proofs.Ytpampknbbpjkiaa

/- What the reference's Zero does: the same as the program's. -/
namespace Go.Proofs.Ytpampknbbpjkiaa
open Go.RowKit

end Go.Proofs.Ytpampknbbpjkiaa
