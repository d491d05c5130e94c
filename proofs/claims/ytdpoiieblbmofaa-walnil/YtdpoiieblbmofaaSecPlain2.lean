/- The plain half of the proofs about package sector, more: what is sealed is opened, and back; turned bits. Nothing here speaks of the program. -/
import Derived.Test.YtdpoiieblbmofaaSecPlain
namespace Go.Proofs.Ytdpoiieblbmofaa
open Go.RowKit

theorem mid (A M C : List UInt8) : ((A ++ M ++ C).drop A.length).take M.length = M := by simp
theorem mid' (A M C : List UInt8) (a m : Nat) (ha : A.length = a) (hm : M.length = m) : ((A ++ M ++ C).drop a).take m = M := by
  subst ha hm; exact mid A M C

theorem num_le' (n v : Nat) (h : v < 256 ^ n) : num (le n v) = v := by rw [num_le, Nat.mod_eq_of_lt h]

theorem more_lt0' (bs : List UInt8) : more 0 bs < 4294967296 := Nat.xor_lt_two_pow (n := 32) (raw_lt _ bs (by decide)) (by omega)

theorem known_ne (k : UInt8) (h : knownB k = true) : k ≠ 0 := by
  intro e
  subst e
  revert h
  decide

theorem open_sealed (k : UInt8) (turn : Nat) (p : List UInt8) (hk : knownB k = true) (ht : turn < 18446744073709551616) (hp : p.length ≤ 496) : openR (sealed k turn p) = (k, turn, p, 0) := by
  have hl := length_sealed k turn p hp
  have hb := length_body k turn p hp
  have hk0 := known_ne k hk
  have g0 : (sealed k turn p).getD 0 0 = k := rfl
  have g1 : (sealed k turn p).getD 1 0 = 0 := rfl
  have hz : (sealed k turn p).all (· == 0) = false := by
    rw [List.all_eq_false]
    refine ⟨k, ?_, by simpa using hk0⟩
    simp [sealed, body]
  have ht508 : (sealed k turn p).take 508 = body k turn p := by
    unfold sealed
    rw [← hb, List.take_left']
    rfl
  have hsum : numAt (sealed k turn p) 508 4 = more 0 (body k turn p) := by
    have e := mid' (body k turn p) (le 4 (more 0 (body k turn p))) [] 508 4 hb (length_le _ _)
    rw [List.append_nil] at e
    unfold numAt sealed
    rw [e, num_le' 4 _ (more_lt0' _)]
  have shape : sealed k turn p = [k, 0] ++ le 2 p.length ++ (le 8 turn ++ p ++ List.replicate (496 - p.length) 0 ++ le 4 (more 0 (body k turn p))) := by
    simp [sealed, body, List.append_assoc]
  have hn : numAt (sealed k turn p) 2 2 = p.length := by
    unfold numAt
    rw [shape, mid' _ _ _ 2 2 rfl (length_le _ _), num_le' 2 _ (by omega)]
  have shape2 : sealed k turn p = ([k, 0] ++ le 2 p.length) ++ le 8 turn ++ (p ++ List.replicate (496 - p.length) 0 ++ le 4 (more 0 (body k turn p))) := by
    simp [sealed, body, List.append_assoc]
  have htn : numAt (sealed k turn p) 4 8 = turn := by
    unfold numAt
    rw [shape2, mid' _ _ _ 4 8 (by simp [length_le]) (length_le _ _), num_le' 8 _ ht]
  have shape3 : sealed k turn p = ([k, 0] ++ le 2 p.length ++ le 8 turn) ++ p ++ (List.replicate (496 - p.length) 0 ++ le 4 (more 0 (body k turn p))) := by
    simp [sealed, body, List.append_assoc]
  have hpay : ((sealed k turn p).drop 12).take p.length = p := by
    rw [shape3, mid' _ _ _ 12 p.length (by simp [length_le]) rfl]
  have shape4 : sealed k turn p = ([k, 0] ++ le 2 p.length ++ le 8 turn ++ p) ++ List.replicate (496 - p.length) 0 ++ le 4 (more 0 (body k turn p)) := by
    simp [sealed, body, List.append_assoc]
  have hrest : ((sealed k turn p).drop (12 + p.length)).take (496 - p.length) = List.replicate (496 - p.length) 0 := by
    rw [shape4, mid' _ _ _ (12 + p.length) (496 - p.length) (by simp [length_le]; omega) (by simp)]
  unfold openR
  rw [if_neg (by omega), hz, if_neg (by decide), hsum, ht508, if_neg (by simp), g0, g1, hn, htn, hpay, hrest]
  rw [if_neg (by rw [hk]; simp; omega), if_neg (by simp)]

theorem take_all (b : List UInt8) (n : Nat) (h : b.length = n) : b.take n = b := List.take_of_length_le (by omega)
theorem cut_at (b : List UInt8) (a m : Nat) : b.drop a = (b.drop a).take m ++ b.drop (a + m) := by
  rw [← List.drop_drop]
  exact (List.take_append_drop m (b.drop a)).symm
theorem zeros_of (l : List UInt8) (h : l.all (· == 0) = true) : l = List.replicate l.length 0 := by
  rw [List.eq_replicate_iff]
  exact ⟨rfl, fun x hx => by have := List.all_eq_true.1 h x hx; simpa using this⟩
theorem le_numAt (b : List UInt8) (a n : Nat) (h : a + n ≤ b.length) : le n (numAt b a n) = (b.drop a).take n := by
  have hl : ((b.drop a).take n).length = n := by simp; omega
  have e := le_num ((b.drop a).take n)
  rw [hl] at e
  exact e

theorem sealed_open (b : List UInt8) (h0 : (openR b).2.2.2 = 0) (hk : (openR b).1 ≠ 0) : sealed (openR b).1 (openR b).2.1 (openR b).2.2.1 = b ∧ knownB (openR b).1 = true ∧ (openR b).2.2.1.length ≤ 496 := by
  unfold openR at h0 hk ⊢
  by_cases hl : b.length ≠ 512
  · rw [if_pos hl] at h0; cases h0
  rw [if_neg hl] at h0 hk ⊢
  by_cases hz : b.all (· == 0) = true
  · rw [if_pos hz] at hk; exact absurd rfl hk
  rw [if_neg hz] at h0 hk ⊢
  by_cases hs : numAt b 508 4 ≠ more 0 (b.take 508)
  · rw [if_pos hs] at h0; cases h0
  rw [if_neg hs] at h0 hk ⊢
  by_cases hf : knownB (b.getD 0 0) = false ∨ b.getD 1 0 ≠ 0 ∨ 496 < numAt b 2 2
  · rw [if_pos hf] at h0; cases h0
  rw [if_neg hf] at h0 hk ⊢
  by_cases hr : ((b.drop (12 + numAt b 2 2)).take (496 - numAt b 2 2)).all (· == 0) = false
  · rw [if_pos hr] at h0; cases h0
  rw [if_neg hr]
  have hl' : b.length = 512 := by omega
  have hs' : numAt b 508 4 = more 0 (b.take 508) := Decidable.byContradiction hs
  have hk1 : knownB (b.getD 0 0) = true := by cases h : knownB (b.getD 0 0) <;> simp_all
  have hb1 : b.getD 1 0 = 0 := Decidable.byContradiction fun h => hf (Or.inr (Or.inl h))
  have hn : numAt b 2 2 ≤ 496 := by omega
  have hr' : ((b.drop (12 + numAt b 2 2)).take (496 - numAt b 2 2)).all (· == 0) = true := by simpa using hr
  have l2 := le_numAt b 2 2 (by omega)
  have l8 := le_numAt b 4 8 (by omega)
  have l4 := le_numAt b 508 4 (by omega)
  have hz2 := zeros_of _ hr'
  have hzl : ((b.drop (12 + numAt b 2 2)).take (496 - numAt b 2 2)).length = 496 - numAt b 2 2 := by simp; omega
  rw [hzl] at hz2
  have hpl : ((b.drop 12).take (numAt b 2 2)).length = numAt b 2 2 := by simp; omega
  have h2 : b.take 2 = [b.getD 0 0, 0] := by
    match b, hl', hb1 with
    | x :: y :: r, _, hb1 =>
      have : y = 0 := hb1
      subst this
      rfl
  have hbody : body (b.getD 0 0) (numAt b 4 8) ((b.drop 12).take (numAt b 2 2)) = b.take 508 := by
    unfold body
    rw [hpl, l2, l8, ← hz2, ← h2]
    generalize numAt b 2 2 = n at *
    have e1 : b.take 508 = b.take 2 ++ (b.drop 2).take 2 ++ (b.drop 4).take 8 ++ (b.drop 12).take n ++ (b.drop (12 + n)).take (496 - n) := by
      have a1 : b.take (2 + 2) = b.take 2 ++ (b.drop 2).take 2 := List.take_add
      have a2 : b.take (2 + 2 + 8) = b.take (2 + 2) ++ (b.drop (2 + 2)).take 8 := List.take_add
      have a3 : b.take (2 + 2 + 8 + n) = b.take (2 + 2 + 8) ++ (b.drop (2 + 2 + 8)).take n := List.take_add
      have a4 : b.take (2 + 2 + 8 + n + (496 - n)) = b.take (2 + 2 + 8 + n) ++ (b.drop (2 + 2 + 8 + n)).take (496 - n) := List.take_add
      rw [a3, a2, a1, show 2 + 2 + 8 + n + (496 - n) = 508 by omega] at a4
      exact a4
    exact e1.symm
  refine ⟨?_, hk1, by show ((b.drop 12).take (numAt b 2 2)).length ≤ 496; omega⟩
  show body (b.getD 0 0) (numAt b 4 8) ((b.drop 12).take (numAt b 2 2)) ++ le 4 (more 0 (body (b.getD 0 0) (numAt b 4 8) ((b.drop 12).take (numAt b 2 2)))) = b
  rw [hbody, ← hs', l4]
  have e2 : (b.drop 508).take 4 = b.drop 508 := List.take_of_length_le (by simp; omega)
  rw [e2, List.take_append_drop]

theorem sealed_inj (k k' : UInt8) (t t' : Nat) (a b : List UInt8) (hk : knownB k = true) (hk' : knownB k' = true) (ht : t < 18446744073709551616) (ht' : t' < 18446744073709551616) (ha : a.length ≤ 496) (hb : b.length ≤ 496) (h : sealed k t a = sealed k' t' b) : k = k' ∧ t = t' ∧ a = b := by
  have e1 := open_sealed k t a hk ht ha
  have e2 := open_sealed k' t' b hk' ht' hb
  rw [h, e2] at e1
  simp only [Prod.mk.injEq, and_true] at e1
  exact ⟨e1.1.symm, e1.2.1.symm, e1.2.2.symm⟩

/-! ### Turned bits -/
theorem le_four (v : Nat) : le 4 v = four v := by
  simp [le, four, List.range_succ]

/-- A right sum: the register comes to its end. -/
theorem raw_of_right (b : List UInt8) (hl : b.length = 512) (h : numAt b 508 4 = more 0 (b.take 508)) : raw 4294967295 b = stps 32 4294967295 := by
  have l4 := le_numAt b 508 4 (by omega)
  have e2 : (b.drop 508).take 4 = b.drop 508 := List.take_of_length_le (by simp; omega)
  rw [e2, h, le_four] at l4
  have e : b = b.take 508 ++ four (more 0 (b.take 508)) := by rw [l4, List.take_append_drop]
  rw [e]
  exact (right_iff _ _ (more_lt0' _)).2 rfl
theorem raw_sealed (k : UInt8) (turn : Nat) (p : List UInt8) : raw 4294967295 (sealed k turn p) = stps 32 4294967295 := by
  unfold sealed
  rw [le_four]
  exact (right_iff _ _ (more_lt0' _)).2 rfl

/-- What a turned bit makes of the first byte. -/
def bit0 (p : Nat) : UInt8 := if p < 8 then UInt8.ofNat (2 ^ p) else 0
theorem turn_first (b : List UInt8) (p : Nat) (hb : 0 < b.length) : (turn b p).getD 0 0 = b.getD 0 0 ^^^ bit0 p := by
  unfold turn bit0
  by_cases h : p < 8
  · rw [if_pos h, show p / 8 = 0 by omega, show p % 8 = p by omega]
    match b, hb with
    | x :: r, _ => rfl
  · rw [if_neg h]
    obtain ⟨q, hq⟩ : ∃ q, p / 8 = q + 1 := ⟨p / 8 - 1, by omega⟩
    rw [hq]
    match b, hb with
    | x :: r, _ =>
      show x = x ^^^ 0
      simp
theorem few_bits : ∀ i j k : Fin 9, knownB (bit0 i.val ^^^ bit0 j.val ^^^ bit0 k.val) = false := by decide +kernel
theorem bit0_cap (p : Nat) : ∃ i : Fin 9, bit0 p = bit0 i.val := by
  by_cases h : p < 8
  · exact ⟨⟨p, by omega⟩, rfl⟩
  · exact ⟨⟨8, by omega⟩, by show bit0 p = bit0 8; rw [bit0, if_neg h]; rfl⟩
theorem few_known (i j k : Nat) : knownB (bit0 i ^^^ bit0 j ^^^ bit0 k) = false := by
  obtain ⟨a, ha⟩ := bit0_cap i
  obtain ⟨b, hb⟩ := bit0_cap j
  obtain ⟨c, hc⟩ := bit0_cap k
  rw [ha, hb, hc]
  exact few_bits a b c
theorem bit0_eight : bit0 8 = 0 := rfl
theorem xor_u8_cancel (a b : UInt8) (h : a ^^^ b = 0) : a = b := by
  apply UInt8.toNat_inj.1
  apply xor_eq_zero
  rw [← UInt8.toNat_xor, h]
  rfl

theorem zeros_all (b : List UInt8) (h : b.all (· == 0) = true) (hl : 0 < b.length) : b.getD 0 0 = 0 := by
  match b, hl with
  | x :: r, _ =>
    have := List.all_eq_true.1 h x (by simp)
    simpa using this

/-- One or three places that differ: how the bytes behind them fare. -/
def Places (n : Nat) (ps : List Nat) : Prop := (∃ i, ps = [i] ∧ i < n) ∨ ∃ i j k, ps = [i, j, k] ∧ i ≠ j ∧ j ≠ k ∧ i ≠ k ∧ i < n ∧ j < n ∧ k < n

theorem turnAll_one (L : List UInt8) (i : Nat) (hi : i < 8 * L.length) : turnAll L [i] = turn L i := by
  rw [turnAll, if_pos hi, turnAll]
theorem turnAll_three (L : List UInt8) (i j k : Nat) (hi : i < 8 * L.length) (hj : j < 8 * L.length) (hk : k < 8 * L.length) : turnAll L [i, j, k] = turn (turn (turn L i) j) k := by
  rw [turnAll, if_pos hi, turnAll, if_pos (by rw [length_turn]; exact hj), turnAll_one _ _ (by rw [length_turn, length_turn]; exact hk)]

theorem places_raw (s : Nat) (L : List UInt8) (ps : List Nat) (hl : L.length = 512) (hp : Places 4096 ps) : raw s (turnAll L ps) ≠ raw s L := by
  rcases hp with ⟨i, rfl, hi⟩ | ⟨i, j, k, rfl, hij, hjk, hik, hi, hj, hk⟩
  · rw [turnAll_one _ _ (by omega)]
    exact raw_one s L i (by omega)
  · rw [turnAll_three _ _ _ _ (by omega) (by omega) (by omega)]
    exact raw_three s L i j k (by omega) hij hjk hik (by omega) (by omega) (by omega)
theorem places_first (L : List UInt8) (ps : List Nat) (hl : L.length = 512) (hp : Places 4096 ps) : ∃ i j k, (turnAll L ps).getD 0 0 = L.getD 0 0 ^^^ (bit0 i ^^^ bit0 j ^^^ bit0 k) := by
  rcases hp with ⟨i, rfl, hi⟩ | ⟨i, j, k, rfl, _, _, _, hi, hj, hk⟩
  · refine ⟨i, 8, 8, ?_⟩
    rw [turnAll_one _ _ (by omega), turn_first _ _ (by omega), bit0_eight]
    simp
  · refine ⟨i, j, k, ?_⟩
    rw [turnAll_three _ _ _ _ (by omega) (by omega) (by omega), turn_first _ _ (by simp [length_turn]; omega), turn_first _ _ (by simp [length_turn]; omega), turn_first _ _ (by omega)]
    rw [UInt8.xor_assoc, UInt8.xor_assoc, UInt8.xor_assoc]
theorem places_length (L : List UInt8) (ps : List Nat) (hl : L.length = 512) (hp : Places 4096 ps) : (turnAll L ps).length = 512 := by
  rcases hp with ⟨i, rfl, hi⟩ | ⟨i, j, k, rfl, _, _, _, hi, hj, hk⟩
  · rw [turnAll_one _ _ (by omega), length_turn, hl]
  · rw [turnAll_three _ _ _ _ (by omega) (by omega) (by omega), length_turn, length_turn, length_turn, hl]

/-- A sealed sector with one or three turned bits is refused by its sum. -/
theorem open_turned (k : UInt8) (turn : Nat) (p : List UInt8) (ps : List Nat) (hk : knownB k = true) (hpl : p.length ≤ 496) (hp : Places 4096 ps) : openR (turnAll (sealed k turn p) ps) = (0, 0, [], 30) := by
  have hl := length_sealed k turn p hpl
  have hl' := places_length _ ps hl hp
  have hr := places_raw 4294967295 _ ps hl hp
  obtain ⟨i, j, m, hf⟩ := places_first _ ps hl hp
  have g0 : (sealed k turn p).getD 0 0 = k := rfl
  rw [g0] at hf
  rw [raw_sealed] at hr
  generalize turnAll (sealed k turn p) ps = L at *
  have hz : ¬ L.all (· == 0) = true := by
    intro h
    rw [zeros_all L h (by omega)] at hf
    have e := xor_u8_cancel _ _ hf.symm
    rw [e, few_known] at hk
    cases hk
  unfold openR
  rw [if_neg (by omega), if_neg hz, if_pos (fun h => hr (raw_of_right L hl' h))]

/-- A blank sector with one or three turned bits is refused, too. -/
theorem open_blank_turned (ps : List Nat) (hp : Places 4096 ps) : openR (turnAll (List.replicate 512 0) ps) = (0, 0, [], 30) ∨ openR (turnAll (List.replicate 512 0) ps) = (0, 0, [], 11) := by
  have hl : (List.replicate 512 (0 : UInt8)).length = 512 := List.length_replicate
  have hl' := places_length _ ps hl hp
  have hr := places_raw 0 _ ps hl hp
  obtain ⟨i, j, m, hf⟩ := places_first _ ps hl hp
  have g0 : (List.replicate 512 (0 : UInt8)).getD 0 0 = 0 := rfl
  rw [g0, UInt8.zero_xor] at hf
  have hz : ¬ (turnAll (List.replicate 512 (0 : UInt8)) ps).all (· == 0) = true := by
    intro h
    have e := zeros_of _ h
    rw [hl'] at e
    rw [e] at hr
    exact hr rfl
  generalize turnAll (List.replicate 512 (0 : UInt8)) ps = L at *
  unfold openR
  rw [if_neg (by omega), if_neg hz]
  by_cases hs : numAt L 508 4 ≠ more 0 (L.take 508)
  · rw [if_pos hs]
    exact Or.inl rfl
  · rw [if_neg hs, if_pos (Or.inl (by rw [hf]; exact few_known i j m))]
    exact Or.inr rfl
end Go.Proofs.Ytdpoiieblbmofaa
