/- Texts of ours, one behind the other: LayReg, LayOwn. -/
import Derived.Test.YtpkpjmebkikgdaaG5
import Derived.Great.Walk
/- What package layout's 'regions', 'has' and 'Region' do. -/
namespace Go.Proofs.Ytpkpjmebkikgdaa
open Go.RowKit

/-- The seven regions of a layout: name, first, size. -/
def rgName (j : Nat) : Int := (j : Int) + 1
def rgF (z : Int) (j : Nat) : Int := match j with | 0 => 0 | 1 => 2 | 2 => 3 | 3 => 13 | 4 => 13 + z | 5 => 13 + 2 * z | _ => 13 + 3 * z
def rgS (z m : Int) (j : Nat) : Int := match j with | 0 => 2 | 1 => 1 | 2 => 10 | 3 => z | 4 => z | 5 => z | _ => m * 32
def rgFirst (n : Int) (j : Nat) : Int := rgF (lz n) j
def rgSize (n : Int) (j : Nat) : Int := rgS (lz n) (lseg n) j
def rgHas (n : Int) (j : Nat) (a : Int) : Prop := rgFirst n j ≤ a ∧ a < rgFirst n j + rgSize n j
instance (n : Int) (j : Nat) (a : Int) : Decidable (rgHas n j a) := inferInstanceAs (Decidable (_ ∧ _))

theorem rg_bounds (n : Int) (h : Fits n) (j : Nat) (hj : j < 7) : 0 ≤ rgFirst n j ∧ rgFirst n j ≤ 65536 ∧ 0 ≤ rgSize n j ∧ rgSize n j ≤ 65536 := by
  obtain ⟨z1, z2, z3, z4⟩ := lz_le n h
  obtain ⟨s1, s2, s3, s4⟩ := lseg_le n h
  obtain ⟨n1, n2⟩ := h
  match j, hj with
  | 0, _ => simp only [rgFirst, rgSize, rgF, rgS]; omega
  | 1, _ => simp only [rgFirst, rgSize, rgF, rgS]; omega
  | 2, _ => simp only [rgFirst, rgSize, rgF, rgS]; omega
  | 3, _ => simp only [rgFirst, rgSize, rgF, rgS]; omega
  | 4, _ => simp only [rgFirst, rgSize, rgF, rgS]; omega
  | 5, _ => simp only [rgFirst, rgSize, rgF, rgS]; omega
  | 6, _ => simp only [rgFirst, rgSize, rgF, rgS]; omega

theorem reg_first (n a : Int) (k : Nat) (hk : k < 7) (hno : ∀ j, j < k → ¬ rgHas n j a) (hy : rgHas n k a) : regN n a = rgName k := by
  have g0 : 0 < k → ¬ (0 ≤ a ∧ a < 0 + 2) := fun h => hno 0 h
  have g1 : 1 < k → ¬ (2 ≤ a ∧ a < 2 + 1) := fun h => hno 1 h
  have g2 : 2 < k → ¬ (3 ≤ a ∧ a < 3 + 10) := fun h => hno 2 h
  have g3 : 3 < k → ¬ (13 ≤ a ∧ a < 13 + lz n) := fun h => hno 3 h
  have g4 : 4 < k → ¬ (13 + lz n ≤ a ∧ a < 13 + lz n + lz n) := fun h => hno 4 h
  have g5 : 5 < k → ¬ (13 + 2 * lz n ≤ a ∧ a < 13 + 2 * lz n + lz n) := fun h => hno 5 h
  unfold regN rgName
  clear hno
  match k, hk with
  | 0, _ =>
    have y : 0 ≤ a ∧ a < 0 + 2 := hy
    rw [if_pos (by omega)]; rfl
  | 1, _ =>
    have y : 2 ≤ a ∧ a < 2 + 1 := hy
    rw [if_neg (by omega), if_pos (by omega)]; rfl
  | 2, _ =>
    have y : 3 ≤ a ∧ a < 3 + 10 := hy
    rw [if_neg (by omega), if_neg (by omega), if_pos (by omega)]; rfl
  | 3, _ =>
    have y : 13 ≤ a ∧ a < 13 + lz n := hy
    rw [if_neg (by omega), if_neg (by omega), if_neg (by omega), if_pos (by omega)]; rfl
  | 4, _ =>
    have y : 13 + lz n ≤ a ∧ a < 13 + lz n + lz n := hy
    rw [if_neg (by omega), if_neg (by omega), if_neg (by omega), if_neg (by omega), if_pos (by omega)]; rfl
  | 5, _ =>
    have y : 13 + 2 * lz n ≤ a ∧ a < 13 + 2 * lz n + lz n := hy
    rw [if_neg (by omega), if_neg (by omega), if_neg (by omega), if_neg (by omega), if_neg (by omega), if_pos (by omega)]; rfl
  | 6, _ =>
    have y : 13 + 3 * lz n ≤ a ∧ a < 13 + 3 * lz n + lseg n * 32 := hy
    rw [if_neg (by omega), if_neg (by omega), if_neg (by omega), if_neg (by omega), if_neg (by omega), if_neg (by omega), if_pos (by omega)]; rfl

theorem reg_none (n a : Int) (hno : ∀ j, j < 7 → ¬ rgHas n j a) : regN n a = 0 := by
  have g0 : ¬ (0 ≤ a ∧ a < 0 + 2) := hno 0 (by omega)
  have g1 : ¬ (2 ≤ a ∧ a < 2 + 1) := hno 1 (by omega)
  have g2 : ¬ (3 ≤ a ∧ a < 3 + 10) := hno 2 (by omega)
  have g3 : ¬ (13 ≤ a ∧ a < 13 + lz n) := hno 3 (by omega)
  have g4 : ¬ (13 + lz n ≤ a ∧ a < 13 + lz n + lz n) := hno 4 (by omega)
  have g5 : ¬ (13 + 2 * lz n ≤ a ∧ a < 13 + 2 * lz n + lz n) := hno 5 (by omega)
  have g6 : ¬ (13 + 3 * lz n ≤ a ∧ a < 13 + 3 * lz n + lseg n * 32) := hno 6 (by omega)
  unfold regN
  rw [if_neg (by omega), if_neg (by omega), if_neg (by omega), if_neg (by omega), if_neg (by omega), if_neg (by omega), if_neg (by omega)]

end Go.Proofs.Ytpkpjmebkikgdaa

/- What the package layout does. -/
namespace Go.Proofs.Ytpkpjmebkikgdaa
open Go.RowKit


theorem oplan_any (n : Int) (w : World) :
    Calls Try.prog 20 #[.int .i64 n] w fun e w' => e = .returned (.tuple #[planV n, .int .i64 (planE n)]) ∧ Below w.heap.size w w' := by
  by_cases h : Fits n
  · have HE := hide (show planV n = layV n ∧ planE n = 0 by unfold planV planE; rw [if_pos h, if_pos h]; exact ⟨rfl, rfl⟩)
    obtain ⟨d1, d2⟩ := h
    go_enter Try.func20, Try.ntmps20
    go_wp2
    refine bodyPost_ret (v := .tuple #[layV n, .int .i64 0]) (by simp [results, Try.results20, go_sem, layV, lz, lseg]) rfl ⟨by rw [(unhide HE).1, (unhide HE).2], (Below.refl _ _).alloc (Nat.le_refl _) _⟩
  · have HE := hide (show planV n = layZ ∧ planE n = 1 by unfold planV planE; rw [if_neg h, if_neg h]; exact ⟨rfl, rfl⟩)
    by_cases h1 : n < 256
    · clear h
      go_enter Try.func20, Try.ntmps20
      go_wp2
      refine bodyPost_ret (v := .tuple #[layZ, .int .i64 1]) (by simp [results, Try.results20, go_sem, layZ]) rfl ⟨by rw [(unhide HE).1, (unhide HE).2], (Below.refl _ _).alloc (Nat.le_refl _) _⟩
    · have h2 : 65536 < n := by unfold Fits at h; omega
      clear h
      go_enter Try.func20, Try.ntmps20
      go_wp2
      refine bodyPost_ret (v := .tuple #[layZ, .int .i64 1]) (by simp [results, Try.results20, go_sem, layZ]) rfl ⟨by rw [(unhide HE).1, (unhide HE).2], (Below.refl _ _).alloc (Nat.le_refl _) _⟩

theorem ologat_any (n : Int) (t : Nat) (w : World) (h : Fits n) (ht : t < 18446744073709551616) :
    Calls Try.prog 52 #[layV n, .int .u64 t] w fun e w' => e = .returned (.int .i64 (logN n t)) ∧ Below w.heap.size w w' := by
  obtain ⟨z1, z2, _, _⟩ := lz_le n h
  have HL := hide (lay_below n w)
  have HB := hide (bounded_any n (w.alloc (layO n)) h)
  unfold layO at HB HL
  unfold layV at HB ⊢
  obtain ⟨r, hr⟩ : ∃ r, r = logN n t := ⟨_, rfl⟩
  rw [← hr]
  unfold logN at hr
  generalize lz n = z at *
  generalize lseg n = m at *
  obtain ⟨q, rfl⟩ := Int.eq_ofNat_of_zero_le (show 0 ≤ z by omega)
  rw [Int.toNat_natCast] at hr
  have hq : t % q < q := Nat.mod_lt _ (by omega)
  have HM : Hid (((t : Int)).tmod (q : Int) = ((t % q : Nat) : Int)) := by unfold Hid; rw [Int.tmod_eq_emod_of_nonneg (by omega)]; rfl
  have HR := hide hr
  clear hr h
  have hq0 : (q : Int) ≠ 0 := by omega
  go_enter Try.func52, Try.ntmps52
  go_wp2_with fail
  refine Calls.mono (unhide HB) ?_
  rintro e w1 ⟨rfl, hb⟩
  obtain ⟨c0, c1, c2, c3, c4, c5, c6, c7, c8⟩ := nine_cells ((hb.block w.heap.size (by simp)).trans (heap_alloc_new _ _))
  have HB2 := hide ((unhide HL).trans (hb.mono (by simp)))
  clear hb HB HL
  go_wp2
  have hw1 : IntKind.u64.wrap (q : Int) = (q : Int) := by rw [IntKind.wrap_u64]; omega
  have HM' := unhide HM
  have hw2 : IntKind.i64.wrap ((t % q : Nat) : Int) = ((t % q : Nat) : Int) := by rw [IntKind.wrap_i64]; omega
  have hw3 : IntKind.i64.wrap (13 + ((t % q : Nat) : Int)) = 13 + ((t % q : Nat) : Int) := by rw [IntKind.wrap_i64]; omega
  generalize t % q = u at *
  go_region
  go_wp2
  go_ret
  exact ⟨by rw [unhide HR]; rfl, (unhide HB2).drew⟩

end Go.Proofs.Ytpkpjmebkikgdaa
