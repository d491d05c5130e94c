/- What Text and ReadText of package word do. -/
import Derived.Test.YtjcemodfpcohgaaTextPlain
import Derived.Test.YtjcemodfpcohgaaRv
namespace Go.Proofs.Ytjcemodfpcohgaa
open Go.RowKit

theorem text_any (s : Value) (bs : List UInt8) (w : World) (hs : Row w s bs) (hroom : bs.length ≤ 140737488351232) :
    Calls Try.prog 22 #[s] w fun e w' => ∃ t, e = .returned t ∧ w'.ownsRow w.heap.size 5 1 t (varF 9 bs.length ++ bs).length ((varF 9 bs.length ++ bs).map B) ∧ Below w.heap.size w w' := by
  obtain ⟨i0, hi, hz0, hz1, hz2⟩ := info_parts Try.info5
  have hs0 := hs
  obtain ⟨p, c, l, rfl, hl⟩ := hs.shape
  subst hl
  clear hs
  have hlen := (varF_len 9 bs.length).2
  go_enter Try.func22, Try.ntmps22
  go_wp2_with fail
  refine (var_any bs.length (by omega) w).mono ?_
  rintro e w1 ⟨v1, rfl, hown1, hb1⟩
  have hs1 := hs0.below hb1
  have hsz := hb1.size
  clear hs0
  go_wp2_with (at_builtin; refine wpList_append_row rfl _ _ 22 rfl w.heap.size 5 i0 (.int .u8 0) Try.underlying22 hi hz0 hz1 hz2 rfl _ _ _ rfl hown1 _ bs rfl hs1 ?b1 ?b2 ?_)
  case b1 => omega
  case b2 => exact hsz
  intro v2 w2 hown2 hgrow2
  have hb2 : Below w.heap.size w w2 := hb1.grown hgrow2 hsz (fun k hk => (hown1.lt k hk).1)
  have HO := hide hown2
  clear hown2 hown1 hgrow2 hs1
  go_wp2
  go_ret
  refine ⟨_, rfl, ?_, hb2⟩
  rw [List.length_append, List.map_append]
  exact unhide HO

theorem readtext_err (s : Value) (bs : List UInt8) (a m : Int) (w : World) (hs : Row w s bs) (hroom : bs.length ≤ 140737488351232) (h : ¬ readE bs a = 0) :
    Calls Try.prog 23 #[s, .int .i64 a, .int .i64 m] w fun e w' => e = .returned (.tuple #[.slice none 0 0, .int .i64 0, .int .i64 (readE bs a)]) ∧ Below w.heap.size w w' := by
  have hne : (readE bs a != 0) = true := by simpa using h
  go_enter Try.func23, Try.ntmps23
  go_wp2_with fail
  refine (readvar_any s bs a w hs hroom).mono ?_
  rintro e w1 ⟨rfl, hb1⟩
  go_wp2
  go_ret3
  exact ⟨rfl, hb1⟩

theorem readtext_large (s : Value) (bs : List UInt8) (a m : Int) (w : World) (hs : Row w s bs) (hroom : bs.length ≤ 140737488351232) (h : readE bs a = 0) (hl : max m 0 < (readV bs a : Nat)) :
    Calls Try.prog 23 #[s, .int .i64 a, .int .i64 m] w fun e w' => e = .returned (.tuple #[.slice none 0 0, .int .i64 0, .int .i64 4]) ∧ Below w.heap.size w w' := by
  have HE := hide h
  have hv64 := (read_ok bs a h).2.2.2
  have h0 : (0 : Int) < (readV bs a : Nat) := by omega
  have h1 : m < (readV bs a : Nat) := by omega
  clear h hl
  rcases Int.lt_or_le m 0 with hm0 | hm0
  all_goals
    go_enter Try.func23, Try.ntmps23
    go_wp2_with fail
    refine (readvar_any s bs a w hs hroom).mono ?_
    rintro e w1 ⟨rfl, hb1⟩
    rw [unhide HE]
    go_wp2
    go_ret3
    exact ⟨rfl, hb1⟩

theorem readtext_short (s : Value) (bs : List UInt8) (a m : Int) (w : World) (hs : Row w s bs) (hroom : bs.length ≤ 140737488351232) (hm : m ≤ 9223372036854775807) (h : readE bs a = 0) (hl : (readV bs a : Nat) ≤ max m 0) (hsh : (bs.length : Int) - readN bs a < (readV bs a : Nat)) :
    Calls Try.prog 23 #[s, .int .i64 a, .int .i64 m] w fun e w' => e = .returned (.tuple #[.slice none 0 0, .int .i64 0, .int .i64 10]) ∧ Below w.heap.size w w' := by
  have HE := hide h
  obtain ⟨_, hn1, hn2, hv64⟩ := read_ok bs a h
  have hn0 : 0 ≤ readN bs a := by omega
  have HRV := hide (readvar_any s bs a w hs hroom)
  obtain ⟨p, c, l, rfl, hl0⟩ := hs.shape
  subst hl0
  clear hs
  rcases Int.lt_or_le m 0 with hm0 | hm0
  all_goals
    have hle : ((readV bs a : Nat) : Int) ≤ if m < 0 then 0 else m := by split <;> omega
    clear h
    first
      | rw [if_pos hm0] at hle
      | rw [if_neg (by omega)] at hle
    clear hl
    generalize readN bs a = F at *
    generalize readV bs a = V at *
    generalize readE bs a = E at *
    obtain rfl : E = 0 := unhide HE
    go_enter Try.func23, Try.ntmps23
    go_wp2_with fail
    refine Calls.mono (unhide HRV) ?_
    rintro e w1 ⟨rfl, hb1⟩
    go_wp2
    first
      | done
      | (go_ret3; exact ⟨rfl, hb1⟩)

theorem splice_all (V : Nat) (xs : List UInt8) (h : xs.length = V) : splice (List.replicate V (B 0)) 0 (xs.map B) = xs.map B := by
  subst h; simp [splice]

theorem copy_src {w : World} {ad : Addr} {cap f V : Nat} {bs : List UInt8} (h : Row w (.slice (some ad) bs.length cap) bs) :
    0 < (((bs.drop f).take V).map B).length → ∀ j v, (((bs.drop f).take V).map B)[j]? = some v → w.cell? ((ad.add f).add j) = some v := by
  intro hp j v hv
  have hf : f < bs.length := by simp at hp; omega
  obtain ⟨b, off, e, hc⟩ := row_from h f hf
  cases e
  obtain ⟨hj, rfl⟩ := List.getElem?_eq_some_iff.1 hv
  have hj' : j < ((bs.drop f).take V).length := by simpa using hj
  have hx : (bs.drop f)[j]? = some ((bs.drop f).take V)[j] := by
    rw [List.getElem_take, List.getElem?_eq_getElem]
  rw [Addr.add_lit, Addr.add_lit, hc j _ hx]
  simp

set_option maxHeartbeats 1000000 in
theorem readtext_ok (s : Value) (bs : List UInt8) (a m : Int) (w : World) (hs : Row w s bs) (hroom : bs.length ≤ 140737488351232) (hm : m ≤ 9223372036854775807) (h : readE bs a = 0) (hl : (readV bs a : Nat) ≤ max m 0) (hsh : ¬ (bs.length : Int) - readN bs a < (readV bs a : Nat)) :
    Calls Try.prog 23 #[s, .int .i64 a, .int .i64 m] w fun e w' => ∃ t, e = .returned (.tuple #[t, .int .i64 (readN bs a + (readV bs a : Nat)), .int .i64 0]) ∧
      w'.ownsRow w.heap.size 5 1 t ((bs.drop (readN bs a).toNat).take (readV bs a)).length (((bs.drop (readN bs a).toNat).take (readV bs a)).map B) ∧ Below w.heap.size w w' := by
  obtain ⟨i0, hi, hz0, hz1, hz2⟩ := info_parts Try.info5
  have HE := hide h
  obtain ⟨_, hn1, hn2, hv64⟩ := read_ok bs a h
  have hn0 : 0 ≤ readN bs a := by omega
  have HRV := hide (readvar_any s bs a w hs hroom)
  have hs0 := hs
  obtain ⟨p, c, l, rfl, hl0⟩ := hs.shape
  subst hl0
  clear hs
  rcases Int.lt_or_le m 0 with hm0 | hm0
  all_goals
    have hle : ((readV bs a : Nat) : Int) ≤ if m < 0 then 0 else m := by split <;> omega
    clear h
    first
      | rw [if_pos hm0] at hle
      | rw [if_neg (by omega)] at hle
    clear hl
    generalize readN bs a = F at *
    generalize readV bs a = V at *
    generalize readE bs a = E at *
    obtain rfl : E = 0 := unhide HE
    obtain ⟨f, rfl⟩ := Int.eq_ofNat_of_zero_le hn0
    rw [Int.toNat_natCast]
    have hlx : ((bs.drop f).take V).length = V := by simp; omega
    clear HE hn0
    obtain ⟨hbc, hpn⟩ : bs.length ≤ c ∧ (p = none → c = 0) := by
      obtain ⟨_, _, hse, h1, _, h2, _⟩ := hs0
      simp only [Value.slice.injEq, true_and] at hse
      obtain ⟨rfl, rfl⟩ := hse
      exact ⟨h1, h2⟩
    by_cases hcf : c = f
    · obtain rfl : f = c := hcf.symm
      have hV0 : V ≤ 0 := by omega
      go_enter Try.func23, Try.ntmps23
      go_wp2_with fail
      refine Calls.mono (unhide HRV) ?_
      rintro e w1 ⟨rfl, hb1⟩
      have hz1' := hb1.size
      clear HRV
      go_wp2_with (at_make; refine wpList_make_full _ rfl _ _ 22 rfl w.heap.size 5 i0 (.int .u8 0) 1 Try.underlying22 hi hz0 hz1 .i64 .i64 (V : Int) (V : Int) V rfl rfl rfl rfl (by rw [hz2]; omega) (by unfold maxLen; omega) hz1' ?_)
      intro w2 hown2 hgrow2
      have hblk := made_block hown2
      have hb2 : Below w.heap.size w w2 := hb1.grown hgrow2 hz1' (fun k hk => by cases hk)
      have HS2 := hide (hs0.below hb2)
      clear hown2 hgrow2
      go_wp2_with (refine wpList_copy_splice rfl (.tmp 38) (.tmp 41) 22 22 rfl 5 Try.underlying22 Try.size5 _ _ _ _ _ _ rfl rfl w1.heap.size 0 _ 5 hblk (((bs.drop f).take V).map B) (by simp; try omega) (fun hp => absurd hp (by simp; try omega)) (by simp; try omega) (oneCell_B _) w.heap.size w hb2 hz1' ?_)
      intro w3 hblk3 hb3
      have hblk3' := hblk3.out
      rw [← List.map_drop, ← List.map_take, splice_all _ _ hlx] at hblk3'
      have HO := hide (owns_of_block (base := w.heap.size) hblk3' hz1' (by rw [hlx]; unfold maxLen; omega))
      rw [hlx] at HO
      clear hblk3 hblk3' hblk HS2 hb2
      go_wp2
      go_ret3
      exact ⟨_, rfl, by rw [hlx]; exact unhide HO, hb3⟩
    · obtain ⟨ad, rfl⟩ : ∃ ad, p = some ad := by
        cases p with
        | none => exact absurd (hpn rfl) (by have := hpn rfl; omega)
        | some ad => exact ⟨ad, rfl⟩
      go_enter Try.func23, Try.ntmps23
      go_wp2_with fail
      refine Calls.mono (unhide HRV) ?_
      rintro e w1 ⟨rfl, hb1⟩
      have hz1' := hb1.size
      clear HRV
      go_wp2_with (at_make; refine wpList_make_full _ rfl _ _ 22 rfl w.heap.size 5 i0 (.int .u8 0) 1 Try.underlying22 hi hz0 hz1 .i64 .i64 (V : Int) (V : Int) V rfl rfl rfl rfl (by rw [hz2]; omega) (by unfold maxLen; omega) hz1' ?_)
      intro w2 hown2 hgrow2
      have hblk := made_block hown2
      have hb2 : Below w.heap.size w w2 := hb1.grown hgrow2 hz1' (fun k hk => by cases hk)
      have HS2 := hide (hs0.below hb2)
      clear hown2 hgrow2
      go_wp2_with (refine wpList_copy_splice rfl (.tmp 38) (.tmp 41) 22 22 rfl 5 Try.underlying22 Try.size5 _ _ _ _ _ _ rfl rfl w1.heap.size 0 _ 5 hblk (((bs.drop f).take V).map B) (by rw [List.length_map, hlx]; exact (Nat.min_eq_right (by omega)).symm) (fun hp => ⟨rfl, _, rfl, copy_src (unhide HS2) hp⟩) (by simp; try omega) (oneCell_B _) w.heap.size w hb2 hz1' ?_)
      intro w3 hblk3 hb3
      have hblk3' := hblk3.out
      rw [← List.map_drop, ← List.map_take, splice_all _ _ hlx] at hblk3'
      have HO := hide (owns_of_block (base := w.heap.size) hblk3' hz1' (by rw [hlx]; unfold maxLen; omega))
      rw [hlx] at HO
      clear hblk3 hblk3' hblk HS2 hb2
      go_wp2
      go_ret3
      exact ⟨_, rfl, by rw [hlx]; exact unhide HO, hb3⟩

theorem readtext_any (s : Value) (bs : List UInt8) (a m : Int) (w : World) (hs : Row w s bs) (hroom : bs.length ≤ 140737488351232) (hm : m ≤ 9223372036854775807) :
    Calls Try.prog 23 #[s, .int .i64 a, .int .i64 m] w fun e w' => ∃ t, e = .returned (.tuple #[t, .int .i64 (textN bs a m), .int .i64 (textE bs a m)]) ∧
      w'.ownsRow w.heap.size 5 1 t (textB bs a m).length ((textB bs a m).map B) ∧ Below w.heap.size w w' := by
  by_cases h : readE bs a = 0
  · by_cases hl : max m 0 < (readV bs a : Nat)
    · have e1 : textE bs a m = 4 := by unfold textE; rw [if_pos h, if_pos hl]
      have e2 : textB bs a m = [] := by unfold textB; rw [e1, if_neg (by omega)]
      have e3 : textN bs a m = 0 := by unfold textN; rw [e1, if_neg (by omega)]
      rw [e1, e2, e3]
      refine (readtext_large s bs a m w hs hroom h hl).mono ?_
      rintro e w' ⟨rfl, hb⟩
      exact ⟨_, rfl, World.ownsRow_nil _ _ _ _, hb⟩
    · by_cases hsh : (bs.length : Int) - readN bs a < (readV bs a : Nat)
      · have e1 : textE bs a m = 10 := by unfold textE; rw [if_pos h, if_neg hl, if_pos hsh]
        have e2 : textB bs a m = [] := by unfold textB; rw [e1, if_neg (by omega)]
        have e3 : textN bs a m = 0 := by unfold textN; rw [e1, if_neg (by omega)]
        rw [e1, e2, e3]
        refine (readtext_short s bs a m w hs hroom hm h (by omega) hsh).mono ?_
        rintro e w' ⟨rfl, hb⟩
        exact ⟨_, rfl, World.ownsRow_nil _ _ _ _, hb⟩
      · have e1 : textE bs a m = 0 := by unfold textE; rw [if_pos h, if_neg hl, if_neg hsh]
        have e2 : textB bs a m = (bs.drop (readN bs a).toNat).take (readV bs a) := by unfold textB; rw [e1, if_pos rfl]
        have e3 : textN bs a m = readN bs a + (readV bs a : Nat) := by unfold textN; rw [e1, if_pos rfl]
        rw [e1, e2, e3]
        exact readtext_ok s bs a m w hs hroom hm h (by omega) hsh
  · have e1 : textE bs a m = readE bs a := by unfold textE; rw [if_neg h]
    have e2 : textB bs a m = [] := by unfold textB; rw [e1, if_neg h]
    have e3 : textN bs a m = 0 := by unfold textN; rw [e1, if_neg h]
    rw [e1, e2, e3]
    refine (readtext_err s bs a m w hs hroom h).mono ?_
    rintro e w' ⟨rfl, hb⟩
    exact ⟨_, rfl, World.ownsRow_nil _ _ _ _, hb⟩
end Go.Proofs.Ytjcemodfpcohgaa
