/- What package layout's 'regions', 'has' and 'Region' do. -/
import Derived.Test.YtpjgkdegkodpmaaLayMin
import Derived.Great.Walk
namespace Go.Proofs.Ytpjgkdegkodpmaa
open Go.RowKit

/-- The seven regions of a layout: name, first, size. -/
def rgName (j : Nat) : Int := (j : Int) + 1
def rgF (z : Int) (j : Nat) : Int := match j with | 0 => 0 | 1 => 2 | 2 => 3 | 3 => 13 | 4 => 13 + z | 5 => 13 + 2 * z | _ => 13 + 3 * z
def rgS (z m : Int) (j : Nat) : Int := match j with | 0 => 2 | 1 => 1 | 2 => 10 | 3 => z | 4 => z | 5 => z | _ => m * 32
def rgFirst (n : Int) (j : Nat) : Int := rgF (lz n) j
def rgSize (n : Int) (j : Nat) : Int := rgS (lz n) (lseg n) j
def rgHas (n : Int) (j : Nat) (a : Int) : Prop := rgFirst n j ≤ a ∧ a < rgFirst n j + rgSize n j
instance (n : Int) (j : Nat) (a : Int) : Decidable (rgHas n j a) := inferInstanceAs (Decidable (_ ∧ _))

theorem rg_bounds (n : Int) (h : Fits n) (j : Nat) (hj : j < 7) : 0 ≤ rgFirst n j ∧ rgFirst n j ≤ 65536 ∧ 0 ≤ rgSize n j ∧ rgSize n j ≤ 65536 := by
  obtain ⟨z1, z2, z3, z4⟩ := lz_le n h
  obtain ⟨s1, s2, s3, s4⟩ := lseg_le n h
  obtain ⟨n1, n2⟩ := h
  match j, hj with
  | 0, _ => simp only [rgFirst, rgSize, rgF, rgS]; omega
  | 1, _ => simp only [rgFirst, rgSize, rgF, rgS]; omega
  | 2, _ => simp only [rgFirst, rgSize, rgF, rgS]; omega
  | 3, _ => simp only [rgFirst, rgSize, rgF, rgS]; omega
  | 4, _ => simp only [rgFirst, rgSize, rgF, rgS]; omega
  | 5, _ => simp only [rgFirst, rgSize, rgF, rgS]; omega
  | 6, _ => simp only [rgFirst, rgSize, rgF, rgS]; omega

theorem reg_first (n a : Int) (k : Nat) (hk : k < 7) (hno : ∀ j, j < k → ¬ rgHas n j a) (hy : rgHas n k a) : regN n a = rgName k := by
  have g0 : 0 < k → ¬ (0 ≤ a ∧ a < 0 + 2) := fun h => hno 0 h
  have g1 : 1 < k → ¬ (2 ≤ a ∧ a < 2 + 1) := fun h => hno 1 h
  have g2 : 2 < k → ¬ (3 ≤ a ∧ a < 3 + 10) := fun h => hno 2 h
  have g3 : 3 < k → ¬ (13 ≤ a ∧ a < 13 + lz n) := fun h => hno 3 h
  have g4 : 4 < k → ¬ (13 + lz n ≤ a ∧ a < 13 + lz n + lz n) := fun h => hno 4 h
  have g5 : 5 < k → ¬ (13 + 2 * lz n ≤ a ∧ a < 13 + 2 * lz n + lz n) := fun h => hno 5 h
  unfold regN rgName
  clear hno
  match k, hk with
  | 0, _ =>
    have y : 0 ≤ a ∧ a < 0 + 2 := hy
    rw [if_pos (by omega)]; rfl
  | 1, _ =>
    have y : 2 ≤ a ∧ a < 2 + 1 := hy
    rw [if_neg (by omega), if_pos (by omega)]; rfl
  | 2, _ =>
    have y : 3 ≤ a ∧ a < 3 + 10 := hy
    rw [if_neg (by omega), if_neg (by omega), if_pos (by omega)]; rfl
  | 3, _ =>
    have y : 13 ≤ a ∧ a < 13 + lz n := hy
    rw [if_neg (by omega), if_neg (by omega), if_neg (by omega), if_pos (by omega)]; rfl
  | 4, _ =>
    have y : 13 + lz n ≤ a ∧ a < 13 + lz n + lz n := hy
    rw [if_neg (by omega), if_neg (by omega), if_neg (by omega), if_neg (by omega), if_pos (by omega)]; rfl
  | 5, _ =>
    have y : 13 + 2 * lz n ≤ a ∧ a < 13 + 2 * lz n + lz n := hy
    rw [if_neg (by omega), if_neg (by omega), if_neg (by omega), if_neg (by omega), if_neg (by omega), if_pos (by omega)]; rfl
  | 6, _ =>
    have y : 13 + 3 * lz n ≤ a ∧ a < 13 + 3 * lz n + lseg n * 32 := hy
    rw [if_neg (by omega), if_neg (by omega), if_neg (by omega), if_neg (by omega), if_neg (by omega), if_neg (by omega), if_pos (by omega)]; rfl

theorem reg_none (n a : Int) (hno : ∀ j, j < 7 → ¬ rgHas n j a) : regN n a = 0 := by
  have g0 : ¬ (0 ≤ a ∧ a < 0 + 2) := hno 0 (by omega)
  have g1 : ¬ (2 ≤ a ∧ a < 2 + 1) := hno 1 (by omega)
  have g2 : ¬ (3 ≤ a ∧ a < 3 + 10) := hno 2 (by omega)
  have g3 : ¬ (13 ≤ a ∧ a < 13 + lz n) := hno 3 (by omega)
  have g4 : ¬ (13 + lz n ≤ a ∧ a < 13 + lz n + lz n) := hno 4 (by omega)
  have g5 : ¬ (13 + 2 * lz n ≤ a ∧ a < 13 + 2 * lz n + lz n) := hno 5 (by omega)
  have g6 : ¬ (13 + 3 * lz n ≤ a ∧ a < 13 + 3 * lz n + lseg n * 32) := hno 6 (by omega)
  unfold regN
  rw [if_neg (by omega), if_neg (by omega), if_neg (by omega), if_neg (by omega), if_neg (by omega), if_neg (by omega), if_neg (by omega)]

theorem has_any (q f m a : Int) (w : World) (h1 : 0 ≤ f) (h2 : f ≤ 65536) (h3 : 0 ≤ m) (h4 : m ≤ 65536) (ha : I64 a) :
    Calls Try.prog 23 #[.agg #[.int .i64 q, .int .i64 f, .int .i64 m], .int .i64 a] w fun e w' => e = .returned (.bool (decide (f ≤ a ∧ a < f + m))) ∧ Below w.heap.size w w' := by
  obtain ⟨a1, a2⟩ := ha
  obtain ⟨r, hr⟩ : ∃ r, r = decide (f ≤ a ∧ a < f + m) := ⟨_, rfl⟩
  rw [← hr]
  have HD := hide hr
  clear hr
  by_cases hfa : f ≤ a
  · by_cases hlt : a - f < m
    · have HR := hide (decide_eq_true (show f ≤ a ∧ a < f + m by omega))
      go_enter Try.func23, Try.ntmps23
      go_wp2
      go_ret
      exact ⟨by rw [unhide HD, unhide HR]; rfl, (Below.refl _ _).alloc (Nat.le_refl _) _⟩
    · have HR := hide (decide_eq_false (show ¬ (f ≤ a ∧ a < f + m) by omega))
      go_enter Try.func23, Try.ntmps23
      go_wp2
      go_ret
      exact ⟨by rw [unhide HD, unhide HR]; rfl, (Below.refl _ _).alloc (Nat.le_refl _) _⟩
  · have HR := hide (decide_eq_false (show ¬ (f ≤ a ∧ a < f + m) by omega))
    go_enter Try.func23, Try.ntmps23
    go_wp2
    go_ret
    exact ⟨by rw [unhide HD, unhide HR]; rfl, (Below.refl _ _).alloc (Nat.le_refl _) _⟩

set_option maxHeartbeats 2000000 in
theorem regions_any (n : Int) (w : World) (h : Fits n) :
    Calls Try.prog 22 #[layV n] w fun e w' => ∃ g, e = .returned (.slice (some ⟨g, 0, none⟩) 7 7) ∧ Below w.heap.size w w' ∧
      ∀ j, j < 7 → w'.cell? ⟨g, j * 3, none⟩ = some (.int .i64 (rgName j)) ∧ w'.cell? ⟨g, j * 3 + 1, none⟩ = some (.int .i64 (rgFirst n j)) ∧ w'.cell? ⟨g, j * 3 + 2, none⟩ = some (.int .i64 (rgSize n j)) := by
  obtain ⟨z1, z2, z3, z4⟩ := lz_le n h
  obtain ⟨s1, s2, s3, s4⟩ := lseg_le n h
  have HB := hide (bounded_any n (w.alloc (layO n)) h)
  have HL := hide (lay_below n w)
  unfold layO at HB HL
  unfold layV at HB ⊢
  unfold rgFirst rgSize
  generalize lz n = z at *
  generalize lseg n = m at *
  clear h
  go_enter Try.func22, Try.ntmps22
  go_wp2_with fail
  refine Calls.mono (unhide HB) ?_
  rintro e w1 ⟨rfl, hb⟩
  have S1 := hb.size
  obtain ⟨c0, c1, c2, c3, c4, c5, c6, c7, c8⟩ := nine_cells ((hb.block w.heap.size (by simp)).trans (heap_alloc_new _ _))
  have HB2 := hide ((unhide HL).trans (hb.mono (by simp)))
  clear hb HB HL
  go_wp2_with (with_reducible show wpList _ _ _ (Oper.mk _ (Op.buildSlice _ _ _) _ _ _ _ :: _) _ _; refine wpList_buildSliceTo rfl _ _ 7 _ rfl w1.heap.size rfl _ rfl Try.underlying40 #[.int .i64 1, .int .i64 0, .int .i64 2, .int .i64 2, .int .i64 2, .int .i64 1, .int .i64 3, .int .i64 3, .int .i64 10, .int .i64 4, .int .i64 13, .int .i64 z, .int .i64 5, .int .i64 (13 + z), .int .i64 z, .int .i64 6, .int .i64 (13 + 2 * z), .int .i64 z, .int .i64 7, .int .i64 (13 + 3 * z), .int .i64 (m * 32)] (by kernel_rfl) ?_)
  go_ret
  refine ⟨w1.heap.size, rfl, (unhide HB2).alloc (unhide HB2).size _, fun j hj => ?_⟩
  have hn := heap_alloc_new w1 (.cells #[.int .i64 1, .int .i64 0, .int .i64 2, .int .i64 2, .int .i64 2, .int .i64 1, .int .i64 3, .int .i64 3, .int .i64 10, .int .i64 4, .int .i64 13, .int .i64 z, .int .i64 5, .int .i64 (13 + z), .int .i64 z, .int .i64 6, .int .i64 (13 + 2 * z), .int .i64 z, .int .i64 7, .int .i64 (13 + 3 * z), .int .i64 (m * 32)] 43)
  match j, hj with
  | 0, _ | 1, _ | 2, _ | 3, _ | 4, _ | 5, _ | 6, _ =>
    refine ⟨?_, ?_, ?_⟩
    all_goals (rw [cell_of_row _ w1.heap.size _ _ _ (0, 0) hn]; rfl)

set_option maxHeartbeats 2000000 in
theorem oregion_any (n a : Int) (w : World) (h : Fits n) (ha : I64 a) :
    Calls Try.prog 14 #[layV n, .int .i64 a] w fun e w' => e = .returned (.int .i64 (regN n a)) ∧ Below w.heap.size w w' := by
  have HB := hide (regions_any n (w.alloc (layO n)) h)
  have HL := hide (lay_below n w)
  have HBd := hide (rg_bounds n h)
  have HY := hide (reg_first n a)
  have HN := hide (reg_none n a)
  have HA := hide ha
  generalize regN n a = R at *
  unfold layO at HB HL
  unfold layV at HB ⊢
  unfold rgHas at HY HN
  generalize rgFirst n = F at *
  generalize rgSize n = S at *
  generalize rgName = Q at *
  generalize lz n = z at *
  generalize lseg n = m at *
  clear h ha
  go_enter Try.func14, Try.ntmps14
  go_wp2_with fail
  refine Calls.mono (unhide HB) ?_
  rintro e w1 ⟨g, rfl, hb, hc⟩
  have HB2 := hide ((unhide HL).trans (hb.mono (by simp)))
  have HC := hide hc
  clear hb HB HL hc
  go_wp2_with fail
  go_loopw [11] (fun i wr => ∃ k : Nat, k ≤ 7 ∧ i = .int .i64 k ∧ Hid (∀ j, j < k → ¬ (F j ≤ a ∧ a < F j + S j)) ∧ Hid (Below w1.heap.size w1 wr)) (fun i _ => 7 - (intOf i).toNat)
  case atStart => exact ⟨0, by omega, rfl, fun j hj => by omega, Below.refl _ _⟩
  case round =>
    obtain ⟨k, hk, rfl, hno, hbw⟩ := hrel
    by_cases hlt : k < 7
    · obtain ⟨d1, d2, d3⟩ := unhide HC k hlt
      have l1 := World.block_lt_of_cell? w1 _ d1
      have e1 := ((unhide hbw).cell (p := ⟨g, k * 3, none⟩) l1).trans d1
      have e2 := ((unhide hbw).cell (p := ⟨g, k * 3 + 1, none⟩) l1).trans d2
      have e3 := ((unhide hbw).cell (p := ⟨g, k * 3 + 2, none⟩) l1).trans d3
      obtain ⟨b1, b2, b3, b4⟩ := unhide HBd k hlt
      have hk0 : (k : Int) < 7 := by omega
      have HH := hide (has_any (Q k) (F k) (S k) a wr b1 b2 b3 b4 (unhide HA))
      by_cases hy : F k ≤ a ∧ a < F k + S k
      · have HE := hide (unhide HY k hlt (unhide hno) hy)
        rw [decide_eq_true hy] at HH
        generalize Q k = q at *
        generalize F k = f at *
        generalize S k = s at *
        clear d1 d2 d3 hy
        go_wp2_with fail
        refine Calls.mono (unhide HH) ?_
        rintro e w2 ⟨rfl, hb3⟩
        have l2 := Nat.lt_of_lt_of_le l1 (unhide hbw).size
        have f1 := (hb3.cell (p := ⟨g, k * 3, none⟩) l2).trans e1
        have HB3 := hide ((unhide HB2).trans (((unhide hbw).trans (hb3.mono (unhide hbw).size)).mono (unhide HB2).size))
        clear hb3 HH
        go_wp2
        go_ret
        exact ⟨by rw [unhide HE]; rfl, unhide HB3⟩
      · rw [decide_eq_false hy] at HH
        have HNO : Hid (∀ j, j < k + 1 → ¬ (F j ≤ a ∧ a < F j + S j)) := by
          intro j hj
          rcases Nat.lt_succ_iff_lt_or_eq.mp hj with h | h
          · exact unhide hno j h
          · subst h; exact hy
        generalize Q k = q at *
        generalize F k = f at *
        generalize S k = s at *
        clear d1 d2 d3 hy
        go_wp2_with fail
        refine Calls.mono (unhide HH) ?_
        rintro e w2 ⟨rfl, hb3⟩
        have HB3 := hide ((unhide hbw).trans (hb3.mono (unhide hbw).size))
        clear hb3 HH
        go_wp2
        go_roundw
        case rel => exact ⟨k + 1, by omega, by go_num, HNO, HB3⟩
        case measure => simp [intOf]; omega
    · obtain rfl : k = 7 := by omega
      have HE := hide (unhide HN (unhide hno))
      go_wp2
      go_ret
      exact ⟨by rw [unhide HE]; rfl, (unhide HB2).trans ((unhide hbw).mono (unhide HB2).size)⟩
end Go.Proofs.Ytpjgkdegkodpmaa
