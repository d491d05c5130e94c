/- What the reference's Put and Get do: the same as the program's. -/
import Derived.Test.YtjcemodfpcohgaaAll
namespace Go.Proofs.Ytjcemodfpcohgaa
open Go.RowKit

theorem rfits_any (v n : Nat) (w : World) (hv : v < 18446744073709551616) (_h1 : 1 ≤ n) (h2 : n ≤ 8) :
    Calls Try.prog 32 #[.int .u64 v, .int .i64 n] w fun e w' => e = .returned (.bool (decide (v < 256 ^ n))) ∧ w' = w := by
  by_cases h8 : n = 8
  · subst h8
    have hd : decide (v < 256 ^ 8) = true := by simp; omega
    rw [hd]
    clear hd
    go_enter Try.func32, Try.ntmps32
    go_wp2
    go_ret
    exact ⟨rfl, rfl⟩
  · have hn : decide ((8 : Int) ≤ n) = false := by simp; omega
    have hr := room_div v n
    generalize decide (v < 256 ^ n) = d at hr
    go_enter Try.func32, Try.ntmps32
    go_wp2
    go_ret
    exact ⟨rfl, rfl⟩

theorem rput_arg (s : Value) (v n : Int) (w : World) (h : n < 1 ∨ 8 < n) :
    Calls Try.prog 11 #[s, .int .u64 v, .int .i64 n] w fun e w' => e = .returned (.tuple #[.slice none 0 0, .int .i64 1]) ∧ w' = w := by
  rcases h with h | h
  · go_enter Try.func11, Try.ntmps11
    go_wp2
    go_ret2
    exact ⟨rfl, rfl⟩
  · have h1 : decide (n < 1) = false := by simp; omega
    go_enter Try.func11, Try.ntmps11
    go_wp2
    go_ret2
    exact ⟨rfl, rfl⟩

theorem rput_over (s : Value) (v n : Nat) (w : World) (hv : v < 18446744073709551616) (h1 : 1 ≤ n) (h2 : n ≤ 8) (h : 256 ^ n ≤ v) :
    Calls Try.prog 11 #[s, .int .u64 v, .int .i64 n] w fun e w' => e = .returned (.tuple #[.slice none 0 0, .int .i64 12]) ∧ w' = w := by
  have H : Hid (decide (v < 256 ^ n) = false) := by unfold Hid; simp; omega
  have d1 : decide ((n : Int) < 1) = false := by simp; omega
  have d2 : decide ((8 : Int) < n) = false := by simp; omega
  clear h
  go_enter Try.func11, Try.ntmps11
  go_wp2_with fail
  refine (rfits_any v n _ hv h1 h2).mono ?_
  rintro e w1 ⟨rfl, rfl⟩
  rw [H.out]
  go_wp2
  go_ret2
  exact ⟨rfl, rfl⟩

set_option maxHeartbeats 1000000 in
theorem rput_ok (s : Value) (bs : List UInt8) (v n : Nat) (w : World) (hs : Row w s bs) (hroom : bs.length ≤ 140737488351232) (hv : v < 18446744073709551616) (h1 : 1 ≤ n) (h2 : n ≤ 8) (h : v < 256 ^ n) :
    Calls Try.prog 11 #[s, .int .u64 v, .int .i64 n] w fun e w' => ∃ t, e = .returned (.tuple #[t, .int .i64 0]) ∧ w'.ownsRow w.heap.size 5 1 t (bs ++ le n v).length ((bs ++ le n v).map B) ∧ Below w.heap.size w w' := by
  have H : Hid (decide (v < 256 ^ n) = true) := by unfold Hid; simp; omega
  have d1 : decide ((n : Int) < 1) = false := by simp; omega
  have d2 : decide ((8 : Int) < n) = false := by simp; omega
  clear h
  obtain ⟨i0, hi, hz0, hz1, hz2⟩ := info_parts Try.info5
  obtain ⟨p, c, l, rfl, hl⟩ := hs.shape
  subst hl
  go_enter Try.func11, Try.ntmps11
  go_wp2_with fail
  refine (rfits_any v n _ hv h1 h2).mono ?_
  rintro e w ⟨rfl, rfl⟩
  rw [H.out]
  go_wp2_with (at_builtin; refine wpList_append_row rfl _ _ 22 rfl w.heap.size 5 i0 (.int .u8 0) Try.underlying22 hi hz0 hz1 hz2 rfl _ 0 [] rfl (World.ownsRow_nil _ _ _ _) _ bs rfl hs ?b1 ?b2 ?_)
  case b1 => omega
  case b2 => exact Nat.le_refl _
  intro v1 w1 hown1 hgrow1
  have hb1 : Below w.heap.size w w1 := (Below.refl _ _).grown hgrow1 (Nat.le_refl _) (fun k hk => by cases hk)
  clear hgrow1 hs
  go_wp2_with fail
  go_loopw [8, 9] (fun t i wr => ∃ k : Nat, k ≤ n ∧ i = .int .i64 k ∧ wr.ownsRow w.heap.size 5 1 t (bs ++ le k v).length ((bs ++ le k v).map B) ∧ Below w.heap.size w wr)
    (fun _ i _ => n - (intOf i).toNat)
  case atStart => exact ⟨0, Nat.zero_le _, rfl, by simpa [le] using hown1, hb1⟩
  case round =>
    obtain ⟨k, hk, rfl, hown, hnx⟩ := hrel
    have hsz := hnx.size
    by_cases hlt : k < n
    · go_wp2_with (at_builtin; refine wpList_append_own _ rfl _ _ 22 rfl w.heap.size 5 i0 (.int .u8 0) 1 1 Try.underlying22 hi hz0 hz1 hz2 rfl (by decide) _ _ _ rfl (hown.alloc _) ⟨wr.heap.size, 0, none⟩ 1 1 [.int .u8 ((v : Int) / 2 ^ (8 * k) % 256)] rfl rfl ?c1 ?c2 ?c3 ?c4 ?c5 ?_)
      case c1 =>
        intro j u hj
        match j, hj with
        | 0, hj => simp at hj; subst hj; simp [Addr.add]
      case c2 => intro u hu; simp at hu; subst hu; rfl
      case c3 => unfold maxLen; simp [length_le]; omega
      case c4 => simp [length_le]; omega
      case c5 => simp; omega
      intro v' w2 hown' hgrow _
      have hb' : Below w.heap.size w w2 := (hnx.alloc (by omega) _).grown hgrow (by simp; omega) (fun k hk => (hown.lt k hk).1)
      have HO : Hid (w2.ownsRow w.heap.size 5 1 v' (bs ++ le (k + 1) v).length ((bs ++ le (k + 1) v).map B)) := by
        unfold Hid
        rw [le_succ, ← List.append_assoc, List.length_append, List.map_append, List.map_singleton, B, ← put_byte, List.length_append, List.map_append, List.append_assoc]
        exact hown'
      clear hown hgrow hnx hown'
      go_wp2
      go_roundw
      case rel => exact ⟨k + 1, by omega, by go_num, HO.out, hb'⟩
      case measure => simp [intOf]; omega
    · have hkn : k = n := by omega
      subst hkn
      go_wp2
      go_ret2
      exact ⟨_, rfl, hown, hnx⟩

theorem rput_any (s : Value) (bs : List UInt8) (v : Nat) (n : Int) (w : World) (hs : Row w s bs) (hroom : bs.length ≤ 140737488351232) (hv : v < 18446744073709551616) :
    Calls Try.prog 11 #[s, .int .u64 v, .int .i64 n] w fun e w' => ∃ t, e = .returned (.tuple #[t, .int .i64 (putE v n)]) ∧
      w'.ownsRow w.heap.size 5 1 t (putB bs v n).length ((putB bs v n).map B) ∧ Below w.heap.size w w' := by
  unfold putE putB
  by_cases h : n < 1 ∨ 8 < n
  · rw [if_pos h, if_pos h]
    refine (rput_arg s v n w h).mono ?_
    rintro e w' ⟨rfl, rfl⟩
    exact ⟨_, rfl, World.ownsRow_nil _ _ _ _, Below.refl _ _⟩
  · rw [if_neg h, if_neg h]
    obtain ⟨m, rfl⟩ := Int.eq_ofNat_of_zero_le (show 0 ≤ n by omega)
    rw [Int.toNat_natCast]
    by_cases h2 : 256 ^ m ≤ v
    · rw [if_pos h2, if_pos h2]
      refine (rput_over s v m w hv (by omega) (by omega) h2).mono ?_
      rintro e w' ⟨rfl, rfl⟩
      exact ⟨_, rfl, World.ownsRow_nil _ _ _ _, Below.refl _ _⟩
    · rw [if_neg h2, if_neg h2]
      exact rput_ok s bs v m w hs hroom hv (by omega) (by omega) (by omega)

theorem rget_arg (s : Value) (a n : Int) (w : World) (h : (n < 1 ∨ 8 < n) ∨ a < 0) :
    Calls Try.prog 13 #[s, .int .i64 a, .int .i64 n] w fun e w' => e = .returned (.tuple #[.int .u64 0, .int .i64 1]) ∧ w' = w := by
  by_cases h1 : n < 1
  · go_enter Try.func13, Try.ntmps13
    go_wp2
    go_ret2
    exact ⟨rfl, rfl⟩
  · have d1 : decide (n < 1) = false := by simp; omega
    by_cases h8 : 8 < n
    · clear h
      go_enter Try.func13, Try.ntmps13
      go_wp2
      go_ret2
      exact ⟨rfl, rfl⟩
    · have d8 : decide (8 < n) = false := by simp; omega
      have ha : a < 0 := by omega
      clear h
      go_enter Try.func13, Try.ntmps13
      go_wp2
      go_ret2
      exact ⟨rfl, rfl⟩

theorem rget_short (p : Option Addr) (len cap : Nat) (a n : Nat) (w : World) (h1 : 1 ≤ n) (h2 : n ≤ 8) (h : len < a + n) :
    Calls Try.prog 13 #[.slice p len cap, .int .i64 a, .int .i64 n] w fun e w' => e = .returned (.tuple #[.int .u64 0, .int .i64 10]) ∧ w' = w := by
  have d1 : decide ((n : Int) < 1) = false := by simp; omega
  have d8 : decide ((8 : Int) < n) = false := by simp; omega
  have da : decide ((a : Int) < 0) = false := by simp
  by_cases hal : len < a
  · have dl : decide ((len : Int) < a) = true := by simp; omega
    go_enter Try.func13, Try.ntmps13
    go_wp2
    go_ret2
    exact ⟨rfl, rfl⟩
  · have dl : decide ((len : Int) < a) = false := by simp; omega
    have hlt : (len : Int) - a < n := by omega
    go_enter Try.func13, Try.ntmps13
    go_wp2
    go_ret2
    exact ⟨rfl, rfl⟩

theorem or_shift (N c : Nat) (hN : N < 72057594037927936) (hc : c < 2 ^ 8) : bits .or .u64 ((N : Int) * 256) (c : Int) = ((c + 256 * N : Nat) : Int) := by
  rw [show (N : Int) * 256 = ((N * 256 : Nat) : Int) by omega, u64_or_nat _ _ (by omega) (by omega)]
  congr 1
  rw [show N * 256 = 2 ^ 8 * N by omega, ← Nat.two_pow_add_eq_or_of_lt hc]
  omega

theorem num_drop (xs : List UInt8) (k : Nat) (h : k < xs.length) : num (xs.drop k) = xs[k].toNat + 256 * num (xs.drop (k + 1)) := by
  rw [List.drop_eq_getElem_cons h, num]

set_option maxHeartbeats 1000000 in
theorem rget_ok (s : Value) (bs : List UInt8) (a n : Nat) (w : World) (hs : Row w s bs) (h1 : 1 ≤ n) (h2 : n ≤ 8) (h : a + n ≤ bs.length) :
    Calls Try.prog 13 #[s, .int .i64 a, .int .i64 n] w fun e w' => e = .returned (.tuple #[.int .u64 (num ((bs.drop a).take n) : Nat), .int .i64 0]) ∧ w' = w := by
  obtain ⟨b, off, cap, rfl, hc1, hc2, hc⟩ := hs.open (by intro e; rw [e] at h; simp at h; omega)
  unfold maxLen at hc2
  have d1 : decide ((n : Int) < 1) = false := by simp; omega
  have d8 : decide ((8 : Int) < n) = false := by simp; omega
  have da : decide ((a : Int) < 0) = false := by simp
  have dl : decide ((bs.length : Int) < a) = false := by simp; omega
  have hge : ¬ (bs.length : Int) - a < n := by omega
  have hlen : ((bs.drop a).take n).length = n := by simp; omega
  have hcx : ∀ k (hk : k < ((bs.drop a).take n).length), w.cell? ⟨b, off + (a + k), none⟩ = some (.int .u8 (((bs.drop a).take n)[k].toNat : Int)) := fun k hk => by
    rw [hc (a + k) (by omega)]; simp [B]
  clear hc
  go_enter Try.func13, Try.ntmps13
  go_wp2_with fail
  go_loop [8, 9] (fun t i => ∃ k : Nat, k ≤ n ∧ i = .int .i64 ((k : Int) - 1) ∧ t = .int .u64 (num (((bs.drop a).take n).drop k) : Nat)) (fun _ i => (intOf i + 1).toNat)
  case atStart => exact ⟨n, Nat.le_refl _, rfl, by rw [List.drop_of_length_le (by omega)]; rfl⟩
  case round =>
    obtain ⟨k, hk, rfl, rfl⟩ := hrel
    by_cases h0 : k = 0
    · subst h0
      go_wp2
      go_ret2
      exact ⟨by simp, rfl⟩
    · obtain ⟨m, rfl⟩ : ∃ m, k = m + 1 := ⟨k - 1, by omega⟩
      have hm : m < ((bs.drop a).take n).length := by omega
      have hce := hcx m hm
      have hnd := num_drop ((bs.drop a).take n) m hm
      have hnl : num (((bs.drop a).take n).drop (m + 1)) < 256 ^ (n - (m + 1)) := by
        have := num_lt (((bs.drop a).take n).drop (m + 1)); rwa [List.length_drop, hlen] at this
      have hp : 256 ^ (n - (m + 1)) ≤ 256 ^ 7 := Nat.pow_le_pow_right (by omega) (by omega)
      have hb := (((bs.drop a).take n)[m]).toNat_lt
      have HN := hide hnd
      have hN64 : num (((bs.drop a).take n).drop (m + 1)) < 72057594037927936 := by omega
      clear hcx hnd hnl hp
      generalize num (((bs.drop a).take n).drop (m + 1)) = N at *
      generalize ((bs.drop a).take n)[m].toNat = c at *
      go_wp2
      go_round
      case rel => exact ⟨m, by omega, rfl, by rw [or_shift N c hN64 hb, ← unhide HN]⟩
      case measure => simp [intOf]

theorem rget_any (s : Value) (bs : List UInt8) (a n : Int) (w : World) (hs : Row w s bs) :
    Calls Try.prog 13 #[s, .int .i64 a, .int .i64 n] w fun e w' => e = .returned (.tuple #[.int .u64 (getV bs a n : Nat), .int .i64 (getE bs a n)]) ∧ w' = w := by
  unfold getE getV
  by_cases h : (n < 1 ∨ 8 < n) ∨ a < 0
  · rw [if_pos h, if_pos h]
    exact rget_arg s a n w h
  · rw [if_neg h, if_neg h]
    obtain ⟨m, rfl⟩ := Int.eq_ofNat_of_zero_le (show 0 ≤ n by omega)
    obtain ⟨k, rfl⟩ := Int.eq_ofNat_of_zero_le (show 0 ≤ a by omega)
    rw [Int.toNat_natCast, Int.toNat_natCast]
    by_cases h2 : (bs.length : Int) < k + m
    · rw [if_pos h2, if_pos h2]
      obtain ⟨p, cap, rfl, hc1, hc2, _⟩ := hs
      exact rget_short p bs.length cap k m w (by omega) (by omega) (by omega)
    · rw [if_neg h2, if_neg h2]
      exact rget_ok s bs k m w hs (by omega) (by omega) (by omega)
end Go.Proofs.Ytjcemodfpcohgaa
