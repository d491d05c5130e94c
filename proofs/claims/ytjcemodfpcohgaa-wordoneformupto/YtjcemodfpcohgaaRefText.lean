/- What the reference's Text, ReadText and Zero do: the same as the program's. -/
import Derived.Test.YtjcemodfpcohgaaText
import Derived.Test.YtjcemodfpcohgaaRefRv
namespace Go.Proofs.Ytjcemodfpcohgaa
open Go.RowKit

theorem rtext_any (s : Value) (bs : List UInt8) (w : World) (hs : Row w s bs) (hroom : bs.length ≤ 140737488351232) :
    Calls Try.prog 25 #[s] w fun e w' => ∃ t, e = .returned t ∧ w'.ownsRow w.heap.size 5 1 t (varF 9 bs.length ++ bs).length ((varF 9 bs.length ++ bs).map B) ∧ Below w.heap.size w w' := by
  obtain ⟨i0, hi, hz0, hz1, hz2⟩ := info_parts Try.info5
  have hs0 := hs
  obtain ⟨p, c, l, rfl, hl⟩ := hs.shape
  subst hl
  clear hs
  have hlen := (varF_len 9 bs.length).2
  go_enter Try.func25, Try.ntmps25
  go_wp2_with fail
  refine (rvar_any bs.length (by omega) w).mono ?_
  rintro e w1 ⟨v1, rfl, hown1, hb1⟩
  have hs1 := hs0.below hb1
  have hsz := hb1.size
  clear hs0
  go_wp2_with (at_builtin; refine wpList_append_row rfl _ _ 22 rfl w.heap.size 5 i0 (.int .u8 0) Try.underlying22 hi hz0 hz1 hz2 rfl _ _ _ rfl hown1 _ bs rfl hs1 ?b1 ?b2 ?_)
  case b1 => omega
  case b2 => exact hsz
  intro v2 w2 hown2 hgrow2
  have hb2 : Below w.heap.size w w2 := hb1.grown hgrow2 hsz (fun k hk => (hown1.lt k hk).1)
  have HO := hide hown2
  clear hown2 hown1 hgrow2 hs1
  go_wp2
  go_ret
  refine ⟨_, rfl, ?_, hb2⟩
  rw [List.length_append, List.map_append]
  exact unhide HO


theorem rreadtext_err (s : Value) (bs : List UInt8) (a m : Int) (w : World) (hs : Row w s bs) (hroom : bs.length ≤ 140737488351232) (h : ¬ readE bs a = 0) :
    Calls Try.prog 24 #[s, .int .i64 a, .int .i64 m] w fun e w' => e = .returned (.tuple #[.slice none 0 0, .int .i64 0, .int .i64 (readE bs a)]) ∧ w' = w := by
  have hne : (readE bs a != 0) = true := by simpa using h
  go_enter Try.func24, Try.ntmps24
  go_wp2_with fail
  refine (rrv_any s bs a w hs hroom).mono ?_
  rintro e w1 ⟨rfl, rfl⟩
  go_wp2
  go_ret3
  exact ⟨rfl, rfl⟩

theorem rreadtext_large (s : Value) (bs : List UInt8) (a m : Int) (w : World) (hs : Row w s bs) (hroom : bs.length ≤ 140737488351232) (h : readE bs a = 0) (hl : max m 0 < (readV bs a : Nat)) :
    Calls Try.prog 24 #[s, .int .i64 a, .int .i64 m] w fun e w' => e = .returned (.tuple #[.slice none 0 0, .int .i64 0, .int .i64 4]) ∧ w' = w := by
  have HE := hide h
  have hv64 := (read_ok bs a h).2.2.2
  have h0 : (0 : Int) < (readV bs a : Nat) := by omega
  have h1 : m < (readV bs a : Nat) := by omega
  clear h hl
  rcases Int.lt_or_le 0 m with hm0 | hm0
  all_goals
    go_enter Try.func24, Try.ntmps24
    go_wp2_with fail
    refine (rrv_any s bs a w hs hroom).mono ?_
    rintro e w1 ⟨rfl, rfl⟩
    rw [unhide HE]
    go_wp2
    go_ret3
    exact ⟨rfl, rfl⟩

theorem rreadtext_short (s : Value) (bs : List UInt8) (a m : Int) (w : World) (hs : Row w s bs) (hroom : bs.length ≤ 140737488351232) (hm : m ≤ 9223372036854775807) (h : readE bs a = 0) (hl : (readV bs a : Nat) ≤ max m 0) (hsh : (bs.length : Int) - readN bs a < (readV bs a : Nat)) :
    Calls Try.prog 24 #[s, .int .i64 a, .int .i64 m] w fun e w' => e = .returned (.tuple #[.slice none 0 0, .int .i64 0, .int .i64 10]) ∧ w' = w := by
  have HE := hide h
  obtain ⟨_, hn1, hn2, hv64⟩ := read_ok bs a h
  have hn0 : 0 ≤ readN bs a := by omega
  have HRV := hide (rrv_any s bs a w hs hroom)
  obtain ⟨p, c, l, rfl, hl0⟩ := hs.shape
  subst hl0
  clear hs
  rcases Int.lt_or_le 0 m with hm0 | hm0
  all_goals
    have hle : ((readV bs a : Nat) : Int) ≤ if 0 < m then m else 0 := by split <;> omega
    clear h
    first
      | rw [if_pos hm0] at hle
      | rw [if_neg (by omega)] at hle
    clear hl
    generalize readN bs a = F at *
    generalize readV bs a = V at *
    generalize readE bs a = E at *
    obtain rfl : E = 0 := unhide HE
    go_enter Try.func24, Try.ntmps24
    go_wp2_with fail
    refine Calls.mono (unhide HRV) ?_
    rintro e w1 ⟨rfl, rfl⟩
    go_wp2
    first
      | done
      | (go_ret3; exact ⟨rfl, rfl⟩)

theorem rowcut_end {w : World} {p : Option Addr} {f V X Y : Nat} {bs : List UInt8} (h : Row w (.slice p bs.length f) bs) (hfV : f + V ≤ bs.length) (hX : X = V) (hY : Y = 0) :
    Row w (.slice p X Y) ((bs.drop f).take V) := by
  obtain ⟨a', c', e, h1, h2, h3, _⟩ := h
  simp only [Value.slice.injEq, true_and] at e
  obtain ⟨rfl, rfl⟩ := e
  have hl : ((bs.drop f).take V) = [] := List.eq_nil_of_length_eq_zero (by simp; omega)
  have hV : V = 0 := by omega
  subst hX hY
  rw [hl, hV]
  exact ⟨p, 0, rfl, by simp, by unfold maxLen; omega, fun _ => rfl, Or.inl rfl⟩

theorem rowcut_in {w : World} {ad : Addr} {c f V X Y : Nat} {bs : List UInt8} (h : Row w (.slice (some ad) bs.length c) bs) (hfV : f + V ≤ bs.length) (hX : X = V) (hY : Y = c - f) :
    Row w (.slice (some (ad.add f)) X Y) ((bs.drop f).take V) := by
  have h0 := h
  obtain ⟨a', c', e, h1, h2, h3, _⟩ := h
  simp only [Value.slice.injEq, true_and] at e
  obtain ⟨rfl, rfl⟩ := e
  subst hX hY
  by_cases hV : X = 0
  · subst hV
    exact ⟨some (ad.add f), c - f, by simp, by simp, by omega, by simp, Or.inl (by simp)⟩
  · obtain ⟨b, off, e, hc⟩ := row_from h0 f (by omega)
    cases e
    have hl : ((bs.drop f).take X).length = X := by simp; omega
    refine ⟨_, c - f, by rw [hl, Addr.add_lit], by rw [hl]; omega, by omega, by simp, Or.inr ⟨b, off + f, rfl, fun j hj => ?_⟩⟩
    have hx : (bs.drop f)[j]? = some ((bs.drop f).take X)[j] := by
      rw [List.getElem_take, List.getElem?_eq_getElem]
    exact hc j _ hx

set_option maxHeartbeats 1000000 in
theorem rreadtext_ok (s : Value) (bs : List UInt8) (a m : Int) (w : World) (hs : Row w s bs) (hroom : bs.length ≤ 140737488351232) (hm : m ≤ 9223372036854775807) (h : readE bs a = 0) (hl : (readV bs a : Nat) ≤ max m 0) (hsh : ¬ (bs.length : Int) - readN bs a < (readV bs a : Nat)) :
    Calls Try.prog 24 #[s, .int .i64 a, .int .i64 m] w fun e w' => ∃ t, e = .returned (.tuple #[t, .int .i64 (readN bs a + (readV bs a : Nat)), .int .i64 0]) ∧
      w'.ownsRow w.heap.size 5 1 t ((bs.drop (readN bs a).toNat).take (readV bs a)).length (((bs.drop (readN bs a).toNat).take (readV bs a)).map B) ∧ Below w.heap.size w w' := by
  obtain ⟨i0, hi, hz0, hz1, hz2⟩ := info_parts Try.info5
  have HE := hide h
  obtain ⟨_, hn1, hn2, hv64⟩ := read_ok bs a h
  have hn0 : 0 ≤ readN bs a := by omega
  have HRV := hide (rrv_any s bs a w hs hroom)
  have hs0 := hs
  obtain ⟨p, c, l, rfl, hl0⟩ := hs.shape
  subst hl0
  clear hs
  rcases Int.lt_or_le 0 m with hm0 | hm0
  all_goals
    have hle : ((readV bs a : Nat) : Int) ≤ if 0 < m then m else 0 := by split <;> omega
    clear h
    first
      | rw [if_pos hm0] at hle
      | rw [if_neg (by omega)] at hle
    clear hl
    generalize readN bs a = F at *
    generalize readV bs a = V at *
    generalize readE bs a = E at *
    obtain rfl : E = 0 := unhide HE
    obtain ⟨f, rfl⟩ := Int.eq_ofNat_of_zero_le hn0
    rw [Int.toNat_natCast]
    have hlx : ((bs.drop f).take V).length = V := by simp; omega
    clear HE hn0
    obtain ⟨hbc, hcm, hpn⟩ : bs.length ≤ c ∧ c ≤ 9223372036854775807 ∧ (p = none → c = 0) := by
      obtain ⟨_, _, hse, h1, h3, h2, _⟩ := hs0
      unfold maxLen at h3
      simp only [Value.slice.injEq, true_and] at hse
      obtain ⟨rfl, rfl⟩ := hse
      exact ⟨h1, by omega, h2⟩
    have hi1 : (f : Int) + V ≤ c := by omega
    have hi3 : (f : Int) ≤ f + V := by omega
    have hln : ((f : Int) + V).toNat - f = V := by omega
    have HS := hide hs0
    clear hs0
    by_cases hcf : c = f
    · obtain rfl : f = c := hcf.symm
      go_enter Try.func24, Try.ntmps24
      go_wp2_with fail
      refine Calls.mono (unhide HRV) ?_
      rintro e w ⟨rfl, rfl⟩
      clear HRV
      go_wp2_with (at_builtin; refine wpList_append_row rfl _ _ 22 rfl w.heap.size 5 i0 (.int .u8 0) Try.underlying22 hi hz0 hz1 hz2 rfl _ 0 [] rfl (World.ownsRow_nil _ _ _ _) _ ((bs.drop f).take V) rfl (by first | exact rowcut_end (unhide HS) (by omega) (by omega) (by omega)) (by rw [hlx]; omega) (Nat.le_refl _) ?_)
      intro v2 w2 hown2 hgrow2
      have hb2 : Below w.heap.size w w2 := (Below.refl _ _).grown hgrow2 (Nat.le_refl _) (fun k hk => by cases hk)
      have HO := hide hown2
      clear hown2 hgrow2
      go_wp2
      go_ret3
      refine ⟨_, rfl, ?_, hb2⟩
      have h := unhide HO
      rw [hlx]
      simpa [List.map_drop, List.map_take] using h
    · obtain ⟨ad, rfl⟩ : ∃ ad, p = some ad := by
        cases p with
        | none => exact absurd (hpn rfl) (by have := hpn rfl; omega)
        | some ad => exact ⟨ad, rfl⟩
      go_enter Try.func24, Try.ntmps24
      go_wp2_with fail
      refine Calls.mono (unhide HRV) ?_
      rintro e w ⟨rfl, rfl⟩
      clear HRV
      go_wp2_with (at_builtin; refine wpList_append_row rfl _ _ 22 rfl w.heap.size 5 i0 (.int .u8 0) Try.underlying22 hi hz0 hz1 hz2 rfl _ 0 [] rfl (World.ownsRow_nil _ _ _ _) _ ((bs.drop f).take V) rfl (by first | exact rowcut_in (unhide HS) (by omega) (by omega) (by omega)) (by rw [hlx]; omega) (Nat.le_refl _) ?_)
      intro v2 w2 hown2 hgrow2
      have hb2 : Below w.heap.size w w2 := (Below.refl _ _).grown hgrow2 (Nat.le_refl _) (fun k hk => by cases hk)
      have HO := hide hown2
      clear hown2 hgrow2
      go_wp2
      go_ret3
      refine ⟨_, rfl, ?_, hb2⟩
      have h := unhide HO
      rw [hlx]
      simpa [List.map_drop, List.map_take] using h

theorem rreadtext_any (s : Value) (bs : List UInt8) (a m : Int) (w : World) (hs : Row w s bs) (hroom : bs.length ≤ 140737488351232) (hm : m ≤ 9223372036854775807) :
    Calls Try.prog 24 #[s, .int .i64 a, .int .i64 m] w fun e w' => ∃ t, e = .returned (.tuple #[t, .int .i64 (textN bs a m), .int .i64 (textE bs a m)]) ∧
      w'.ownsRow w.heap.size 5 1 t (textB bs a m).length ((textB bs a m).map B) ∧ Below w.heap.size w w' := by
  by_cases h : readE bs a = 0
  · by_cases hl : max m 0 < (readV bs a : Nat)
    · have e1 : textE bs a m = 4 := by unfold textE; rw [if_pos h, if_pos hl]
      have e2 : textB bs a m = [] := by unfold textB; rw [e1, if_neg (by omega)]
      have e3 : textN bs a m = 0 := by unfold textN; rw [e1, if_neg (by omega)]
      rw [e1, e2, e3]
      refine (rreadtext_large s bs a m w hs hroom h hl).mono ?_
      rintro e w' ⟨rfl, rfl⟩
      exact ⟨_, rfl, World.ownsRow_nil _ _ _ _, Below.refl _ _⟩
    · by_cases hsh : (bs.length : Int) - readN bs a < (readV bs a : Nat)
      · have e1 : textE bs a m = 10 := by unfold textE; rw [if_pos h, if_neg hl, if_pos hsh]
        have e2 : textB bs a m = [] := by unfold textB; rw [e1, if_neg (by omega)]
        have e3 : textN bs a m = 0 := by unfold textN; rw [e1, if_neg (by omega)]
        rw [e1, e2, e3]
        refine (rreadtext_short s bs a m w hs hroom hm h (by omega) hsh).mono ?_
        rintro e w' ⟨rfl, rfl⟩
        exact ⟨_, rfl, World.ownsRow_nil _ _ _ _, Below.refl _ _⟩
      · have e1 : textE bs a m = 0 := by unfold textE; rw [if_pos h, if_neg hl, if_neg hsh]
        have e2 : textB bs a m = (bs.drop (readN bs a).toNat).take (readV bs a) := by unfold textB; rw [e1, if_pos rfl]
        have e3 : textN bs a m = readN bs a + (readV bs a : Nat) := by unfold textN; rw [e1, if_pos rfl]
        rw [e1, e2, e3]
        exact rreadtext_ok s bs a m w hs hroom hm h (by omega) hsh
  · have e1 : textE bs a m = readE bs a := by unfold textE; rw [if_neg h]
    have e2 : textB bs a m = [] := by unfold textB; rw [e1, if_neg h]
    have e3 : textN bs a m = 0 := by unfold textN; rw [e1, if_neg h]
    rw [e1, e2, e3]
    refine (rreadtext_err s bs a m w hs hroom h).mono ?_
    rintro e w' ⟨rfl, rfl⟩
    exact ⟨_, rfl, World.ownsRow_nil _ _ _ _, Below.refl _ _⟩

theorem rzero_any (s : Value) (bs : List UInt8) (w : World) (h : Row w s bs) :
    Calls Try.prog 27 #[s] w fun e w' => e = .returned (.bool (bs.all (· == 0))) ∧ w' = w := by
  by_cases h0 : bs = []
  · subst h0
    obtain ⟨p, c, l, rfl, hl⟩ := h.shape
    simp only [List.length_nil] at hl
    subst hl
    clear h
    go_enter Try.func27, Try.ntmps27
    go_wp2
    refine wp_loop_rounds 1 ?_
    rw [rounds_succ]
    go_wp2
    go_ret
    exact ⟨rfl, rfl⟩
  · obtain ⟨b, off, c, rfl, hc1, hm1, hcell⟩ := h.open h0
    unfold maxLen at hm1
    have HC := hide hcell
    clear h hcell
    go_enter Try.func27, Try.ntmps27
    go_wp2
    go_loop [3] (fun i => ∃ k : Nat, k ≤ bs.length ∧ i = .int .i64 k ∧ Hid (∀ j (h : j < bs.length), j < k → bs[j] = 0)) (fun i => bs.length - (intOf i).toNat)
    case atStart => exact ⟨0, Nat.zero_le _, rfl, fun j _ hj => absurd hj (by omega)⟩
    case round =>
      obtain ⟨k, hk, rfl, hz⟩ := hrel
      by_cases hlt : k < bs.length
      · have hck : w.cell? ⟨b, off + k, none⟩ = some (.int .u8 (bs[k].toNat : Int)) := unhide HC k hlt
        by_cases hb0 : bs[k] = 0
        · have hd : ((bs[k].toNat : Int) != 0) = false := by rw [hb0]; rfl
          have HB := hide hb0
          clear hb0
          go_wp2
          go_round
          case rel =>
            refine ⟨k + 1, by omega, by go_num, fun j hj hjk => ?_⟩
            by_cases hje : j = k
            · subst hje; exact unhide HB
            · exact hz.out j hj (by omega)
          case measure => simp [intOf]; omega
        · have hd : ((bs[k].toNat : Int) != 0) = true := by
            rw [bne, beq_byte]; simp [hb0]
          have HB := hide (not_all_zero bs k hlt hb0)
          clear hb0
          go_wp2
          go_ret
          exact ⟨by rw [unhide HB]; rfl, rfl⟩
      · have HB := hide (all_zero bs (fun j hj => hz.out j hj (by omega)))
        have hkn : k = bs.length := by omega
        subst hkn
        go_wp2
        go_ret
        exact ⟨by rw [unhide HB]; rfl, rfl⟩
end Go.Proofs.Ytjcemodfpcohgaa
