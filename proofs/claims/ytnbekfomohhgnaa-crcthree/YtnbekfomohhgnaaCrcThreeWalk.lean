/- The walk of the law CrcThree. -/
import Derived.Test.YtnbekfomohhgnaaCrcTurn
import Derived.OpenShut
import Derived.Deep.RegionHeld3
namespace Go.Proofs.Ytnbekfomohhgnaa
open Go.RowKit

theorem more_lt0 (bs : List UInt8) : more 0 bs < 4294967296 := Nat.xor_lt_two_pow (n := 32) (raw_lt _ bs (by decide)) (by omega)

theorem right_raw (L : List UInt8) (h : rightB L = true) : raw 4294967295 L = stps 32 4294967295 := by
  unfold rightB at h
  by_cases h4 : L.length < 4
  · rw [if_pos h4] at h
    cases h
  · rw [if_neg h4] at h
    have e := eq_of_beq h
    rw [← e]
    exact (right_iff _ _ (more_lt0 _)).2 rfl
theorem right_behind (bs : List UInt8) : rightB (bs ++ four (more 0 bs)) = true := by
  have hl : (bs ++ four (more 0 bs)).length - 4 = bs.length := by simp [four]
  have ht : (bs ++ four (more 0 bs)).take bs.length = bs := by simp
  unfold rightB
  rw [if_neg (by simp [four]), hl, ht]
  simp
theorem right_turned (bs L : List UInt8) (h : raw 4294967295 L ≠ raw 4294967295 (bs ++ four (more 0 bs))) : rightB L = false := by
  cases hr : rightB L with
  | false => rfl
  | true => exact absurd ((right_raw L hr).trans (right_raw _ (right_behind bs)).symm) h
theorem turn1 (L : List UInt8) (i : Nat) (hi : i < 8 * L.length) : turnAll L [i] = turn L i := by
  rw [turnAll, if_pos hi, turnAll]
theorem turn2 (L : List UInt8) (i j : Nat) (hi : i < 8 * L.length) (hj : j < 8 * L.length) : turnAll L [i, j] = turn (turn L i) j := by
  rw [turnAll, if_pos hi, turn1 _ _ (by rw [length_turn]; exact hj)]
theorem turn3 (L : List UInt8) (i j k : Nat) (hi : i < 8 * L.length) (hj : j < 8 * L.length) (hk : k < 8 * L.length) : turnAll L [i, j, k] = turn (turn (turn L i) j) k := by
  rw [turnAll, if_pos hi, turn2 _ _ _ (by rw [length_turn]; exact hj) (by rw [length_turn]; exact hk)]

theorem place_of (x : Int) (n : Nat) (h0 : 0 < n) (h1 : n ≤ 65536) : ∃ I : Nat, wrap64 ((IntKind.u64.wrap x).tmod (8 * (n : Int))) = (I : Int) ∧ I < 8 * n := by
  have hw : 0 ≤ IntKind.u64.wrap x := by rw [IntKind.wrap_u64]; omega
  rw [Int.tmod_eq_emod_of_nonneg hw]
  have h2 := Int.emod_nonneg (IntKind.u64.wrap x) (show (8 * (n : Int)) ≠ 0 by omega)
  have h3 := Int.emod_lt_of_pos (IntKind.u64.wrap x) (show 0 < 8 * (n : Int) by omega)
  generalize IntKind.u64.wrap x % (8 * (n : Int)) = q at *
  refine ⟨q.toNat, ?_, by omega⟩
  unfold wrap64
  omega

theorem ints1 (w : World) (a : Nat) : IRow (w.alloc (.cells #[.int .i64 (a : Int)] 3)) (.slice (some ⟨w.heap.size, 0, none⟩) 1 1) [a] := by
  refine ⟨_, 1, rfl, by simp, fun j hj => ?_⟩
  have hj' : j < 1 := by simpa using hj
  rw [cell_of_row _ _ j _ _ (0, 0) (heap_alloc_new _ _)]
  match j, hj' with
  | 0, _ => rfl
theorem ints2 (w : World) (a b : Nat) : IRow (w.alloc (.cells #[.int .i64 (a : Int), .int .i64 (b : Int)] 3)) (.slice (some ⟨w.heap.size, 0, none⟩) 2 2) [a, b] := by
  refine ⟨_, 2, rfl, by simp, fun j hj => ?_⟩
  have hj' : j < 2 := by simpa using hj
  rw [cell_of_row _ _ j _ _ (0, 0) (heap_alloc_new _ _)]
  match j, hj' with
  | 0, _ | 1, _ => rfl
theorem ints3 (w : World) (a b c : Nat) : IRow (w.alloc (.cells #[.int .i64 (a : Int), .int .i64 (b : Int), .int .i64 (c : Int)] 3)) (.slice (some ⟨w.heap.size, 0, none⟩) 3 3) [a, b, c] := by
  refine ⟨_, 3, rfl, by simp, fun j hj => ?_⟩
  have hj' : j < 3 := by simpa using hj
  rw [cell_of_row _ _ j _ _ (0, 0) (heap_alloc_new _ _)]
  match j, hj' with
  | 0, _ | 1, _ | 2, _ => rfl

set_option maxHeartbeats 2000000 in
theorem three_any (s : Value) (bs : List UInt8) (x y z : Int) (w : World) (hs : Row w s bs) (hroom : bs.length ≤ 508) :
    Calls Try.prog 6 #[s, .int .i64 x, .int .i64 y, .int .i64 z] w fun e w' => e = .returned (.bool true) ∧ Below w.heap.size w w' := by
  obtain ⟨p, c, l, rfl, hl⟩ := hs.shape
  subst hl
  go_enter Try.func6, Try.ntmps6
  go_wp2_with fail
  refine (awake_any w).mono ?_
  rintro e w1 ⟨rfl, hb1⟩
  have hs1 := hs.below hb1
  clear hs
  go_wp2_with fail
  refine (behind_any _ bs w1 hs1 (by omega)).mono ?_
  rintro e w2 ⟨t, rfl, hown, hb2⟩
  have B2 : Below w.heap.size w w2 := hb1.trans (hb2.mono hb1.size)
  have R2 := row_of_owns hown
  have HL : (bs ++ four (more 0 bs)).length ≤ 512 := by simp [four]; omega
  have HL4 : 4 ≤ (bs ++ four (more 0 bs)).length := by simp [four]
  clear hown hs1 hb1 hb2
  have F1 := hide (fun i hi => right_turned bs (turnAll (bs ++ four (more 0 bs)) [i]) (by rw [turn1 _ _ hi]; exact raw_one _ _ i hi))
  have F2 := hide (fun i j (hij : i ≠ j) hi hj => right_turned bs (turnAll (bs ++ four (more 0 bs)) [i, j]) (by rw [turn2 _ _ _ hi hj]; exact raw_two _ _ i j HL hij hi hj))
  have F3 := hide (fun i j k (hij : i ≠ j) (hjk : j ≠ k) (hik : i ≠ k) hi hj hk => right_turned bs (turnAll (bs ++ four (more 0 bs)) [i, j, k]) (by rw [turn3 _ _ _ _ hi hj hk]; exact raw_three _ _ i j k HL hij hjk hik hi hj hk))
  have F0 := hide (right_behind bs)
  generalize bs ++ four (more 0 bs) = L at *
  obtain ⟨p2, c2, l2, rfl, hl2⟩ := R2.shape
  subst hl2
  have hn0 : 0 < L.length := by omega
  have hn1 : L.length ≤ 65536 := by omega
  obtain ⟨I, hI, hI8⟩ := place_of x L.length hn0 hn1
  obtain ⟨J, hJ, hJ8⟩ := place_of y L.length hn0 hn1
  obtain ⟨M, hM, hM8⟩ := place_of z L.length hn0 hn1
  have HIJM := hide (And.intro hI (And.intro hJ hM))
  clear hI hJ hM
  have H2 := hide R2
  clear R2
  go_wp2_with fail
  go_region
  rw [(unhide HIJM).1, (unhide HIJM).2.1, (unhide HIJM).2.2]
  clear HIJM
  obtain ⟨K, K0, Kd, Kb, CR, CT⟩ : ∃ K : World → Prop, K w2.drew ∧ Hid ((∀ w', K w' → K w'.drew) ∧ (∀ w' o, K w' → K (w'.alloc o))) ∧ Hid (∀ w', K w' → Below w.heap.size w w')
      ∧ Hid (∀ w', K w' → Calls Try.prog 19 #[.slice p2 L.length c2] w' fun e w'' => e = .returned (.bool true) ∧ K w'')
      ∧ Hid (∀ w' t ps, K w' → IRow w' t ps → (∀ p ∈ ps, p < 8 * L.length) → ps.length ≤ 8 → rightB (turnAll L ps) = false → Calls Try.prog 20 #[.slice p2 L.length c2, t] w' fun e w'' => ∃ u, e = .returned u ∧ K w'' ∧ Hid (Calls Try.prog 19 #[u] w'' fun e w3 => e = .returned (.bool false) ∧ K w3)) := by
    have hd : Below w2.heap.size w2 w2.drew := (Below.refl _ _).drew
    refine ⟨fun w' => Below w.heap.size w w' ∧ Row w' (.slice p2 L.length c2) L, ⟨B2.drew, (unhide H2).below hd⟩, ⟨?_, ?_⟩, fun w' h => h.1, ?_, ?_⟩
    · rintro w' ⟨h0, h1⟩
      exact ⟨h0.drew, h1.below ((Below.refl _ _).drew)⟩
    · rintro w' o ⟨h0, h1⟩
      exact ⟨h0.alloc h0.size _, h1.below ((Below.refl _ _).alloc (Nat.le_refl _) _)⟩
    · rintro w' ⟨h0, h1⟩
      refine (right_any _ _ w' h1 (by omega)).mono ?_
      rintro e w'' ⟨rfl, hd⟩
      exact ⟨by rw [unhide F0], h0.trans (hd.mono h0.size), h1.below hd⟩
    · rintro w' t ps ⟨h0, h1⟩ ht hps hpl hfa
      refine (turn_any _ t L ps w' h1 ht (by omega) (fun p hp => by have := hps p hp; omega) (by omega)).mono ?_
      rintro e w'' ⟨u, rfl, hown, hd⟩
      have hl := length_turnAll L ps
      rw [← hl] at hown
      have hu := row_of_owns hown
      have b2 := h0.trans (hd.mono h0.size)
      have r2 := h1.below hd
      refine ⟨u, rfl, ⟨b2, r2⟩, ?_⟩
      refine (right_any u _ w'' hu (by omega)).mono ?_
      rintro e w3 ⟨rfl, hd3⟩
      exact ⟨by rw [hfa], b2.trans (hd3.mono b2.size), r2.below hd3⟩
  clear B2 H2
  go_wp2_with fail
  refine Calls.mono (unhide CR _ (by assumption)) ?_
  rintro e w3 ⟨rfl, k3⟩
  go_wp2_with fail
  refine Calls.mono (unhide CT _ _ [I] ((unhide Kd).2 _ _ k3) (ints1 w3 I) (by simpa using hI8) (by simp) (unhide F1 I hI8)) ?_
  rintro e w4 ⟨u4, rfl, k4, r4⟩
  go_wp2_with fail
  refine Calls.mono (unhide r4) ?_
  rintro e w5 ⟨rfl, k5⟩
  clear r4 F1
  by_cases hij : I = J
  · subst hij
    have d1 : ((I : Int) != (I : Int)) = false := by simp
    have d2 : ((I : Int) == (I : Int)) = true := by simp
    go_wp2
    go_ret
    exact ⟨rfl, unhide Kb _ k5⟩
  · have d1 : ((I : Int) != (J : Int)) = true := by simp; omega
    have d2 : ((I : Int) == (J : Int)) = false := by simp; omega
    go_wp2_with fail
    refine Calls.mono (unhide CT _ _ [I, J] ((unhide Kd).2 _ _ k5) (ints2 w5 I J) (by simp; omega) (by simp) (unhide F2 I J hij hI8 hJ8)) ?_
    rintro e w6 ⟨u6, rfl, k6, r6⟩
    go_wp2_with fail
    refine Calls.mono (unhide r6) ?_
    rintro e w7 ⟨rfl, k7⟩
    clear r6 F2
    by_cases hjm : J = M
    · subst hjm
      have d3 : ((J : Int) == (J : Int)) = true := by simp
      go_wp2
      go_ret
      exact ⟨rfl, unhide Kb _ k7⟩
    · have d3 : ((J : Int) == (M : Int)) = false := by simp; omega
      by_cases him : I = M
      · subst him
        have d4 : ((I : Int) == (I : Int)) = true := by simp
        go_wp2
        go_ret
        exact ⟨rfl, unhide Kb _ k7⟩
      · have d4 : ((I : Int) == (M : Int)) = false := by simp; omega
        go_wp2_with fail
        refine Calls.mono (unhide CT _ _ [I, J, M] ((unhide Kd).2 _ _ k7) (ints3 w7 I J M) (by simp; omega) (by simp) (unhide F3 I J M hij hjm him hI8 hJ8 hM8)) ?_
        rintro e w8 ⟨u8, rfl, k8, r8⟩
        go_wp2_with fail
        refine Calls.mono (unhide r8) ?_
        rintro e w9 ⟨rfl, k9⟩
        clear r8 F3
        go_wp2
        go_ret
        exact ⟨rfl, unhide Kb _ k9⟩

theorem three_long (s : Value) (bs : List UInt8) (x y z : Int) (w : World) (hs : Row w s bs) (hroom : 508 < bs.length) :
    Calls Try.prog 6 #[s, .int .i64 x, .int .i64 y, .int .i64 z] w fun e w' => e = .returned (.bool true) ∧ Below w.heap.size w w' := by
  obtain ⟨p, c, l, rfl, hl⟩ := hs.shape
  subst hl
  clear hs
  go_enter Try.func6, Try.ntmps6
  go_wp2_with fail
  refine (awake_any w).mono ?_
  rintro e w1 ⟨rfl, hb1⟩
  go_wp2_with fail
  refine (awake_any w1).mono ?_
  rintro e w2 ⟨rfl, hb2⟩
  go_wp2
  go_ret
  exact ⟨rfl, hb1.trans (hb2.mono hb1.size)⟩

theorem walk_CrcThree (s : Value) (bs : List UInt8) (a1 : Int) (_w1 : (Lit.int .i64 a1).wf = true) (a2 : Int) (_w2 : (Lit.int .i64 a2).wf = true) (a3 : Int) (_w3 : (Lit.int .i64 a3).wf = true) (w : World) (hs : Row w s bs) (_hroom : bs.length ≤ 140737488351232) :
    Calls Try.prog 6 #[s, .int .i64 a1, .int .i64 a2, .int .i64 a3] w fun e w' => e = .returned (.bool true) ∧ Below w.heap.size w w' := by
  by_cases h : bs.length ≤ 508
  · exact three_any s bs a1 a2 a3 w hs h
  · exact three_long s bs a1 a2 a3 w hs (by omega)
end Go.Proofs.Ytnbekfomohhgnaa
