/- Texts of ours, one behind the other: ThRing. -/
import Derived.Test.YtegefnchkgkmgaaG3
/- Rings of objects of one size, as plain data; nothing here speaks of the program. -/
namespace Go.Proofs.Ytegefnchkgkmgaa
open Go.RowKit

/-- The k-th step of a ring of n objects, whatever number it is. -/
def stpN (n : Nat) (s : Int) : Nat := (IntKind.u64.wrap s % (n : Int)).toNat
theorem stpN_lt {n : Nat} (h : 0 < n) (s : Int) : stpN n s < n := by
  unfold stpN
  have h1 := Int.emod_nonneg (IntKind.u64.wrap s) (show (n : Int) ≠ 0 by omega)
  have h2 := Int.emod_lt_of_pos (IntKind.u64.wrap s) (show (0 : Int) < (n : Int) by omega)
  omega
/-- The pointers of object i. -/
def rgP (n : Nat) (st : List Int) (i : Nat) : List Int := st.map fun s => ((1 + ((i + stpN n s) % n) * (2 + st.length) : Nat) : Int)
def rgO (n : Nat) (st : List Int) (i : Nat) : Ob := (((n % 16 : Nat) : Int), rgP n st i, [(i : Int)])
def rgW (n : Nat) (st : List Int) : List Int := layW ((List.range n).map (rgO n st))
def rgH (n : Nat) (st : List Int) : Int := (2 + (st.length : Int)) * 4096 + (st.length : Int) * 16 + ((n % 16 : Nat) : Int)
theorem rgO_good {n i : Nat} {st : List Int} (hs : st.length ≤ 3) : goodO (rgO n st i) ∧ hdO (rgO n st i) = rgH n st ∧ (wrdO (rgO n st i)).length = 2 + st.length := by
  have hg : goodO (rgO n st i) := by
    refine ⟨?_, ?_, ?_, ?_⟩
    · show (rgP n st i).length ≤ 255
      unfold rgP; rw [List.length_map]; omega
    · show (0 : Int) ≤ ((n % 16 : Nat) : Int)
      omega
    · show ((n % 16 : Nat) : Int) ≤ 15
      omega
    · show 1 + (rgP n st i).length + [(i : Int)].length < 1048576
      unfold rgP; rw [List.length_map]; simp only [List.length_singleton]; omega
  refine ⟨hg, ?_, ?_⟩
  · show (1 + ((rgP n st i).length : Int) + ([(i : Int)].length : Int)) * 4096 + ((rgP n st i).length : Int) * 16 + ((n % 16 : Nat) : Int) = rgH n st
    unfold rgP rgH
    rw [List.length_map]
    simp only [List.length_singleton]
    omega
  · rw [wrdO_good hg, List.length_cons, List.length_append, w32_len]
    show (rgP n st i).length + [(i : Int)].length + 1 = 2 + st.length
    unfold rgP
    rw [List.length_map]
    simp only [List.length_singleton]
    omega
theorem rg_pre {n : Nat} {st : List Int} (hs : st.length ≤ 3) : ∀ m : Nat, (layW ((List.range m).map (rgO n st))).length = 1 + m * (2 + st.length)
  | 0 => by simp [layW]
  | m + 1 => by
    rw [List.range_succ, List.map_append, List.map_cons, List.map_nil, layW_snoc, List.length_append, rg_pre hs m, (rgO_good hs).2.2, Nat.succ_mul]
    omega
theorem rg_len {n : Nat} {st : List Int} (hs : st.length ≤ 3) : (rgW n st).length = 1 + n * (2 + st.length) := rg_pre hs n
theorem range_split {n i : Nat} (h : i < n) : List.range n = List.range i ++ i :: (List.range (n - i - 1)).map (fun j => i + 1 + j) := by
  apply List.ext_getElem
  · simp; omega
  · intro k h1 h2
    rw [List.getElem_range, List.getElem_append]
    split
    · simp
    · rename_i h3
      rw [List.length_range] at h3
      obtain ⟨d, hd⟩ : ∃ d, k = i + d := ⟨k - i, by omega⟩
      subst hd
      simp only [List.length_range, Nat.add_sub_cancel_left]
      cases d with
      | zero => simp
      | succ d => simp; omega
theorem rgP_bound {n i : Nat} {st : List Int} (hn : 0 < n) (hn2 : n ≤ 40) (hs : st.length ≤ 3) : ∀ p ∈ rgP n st i, ∃ j : Nat, j < n ∧ p = ((1 + j * (2 + st.length) : Nat) : Int) ∧ 0 < p ∧ p < 4294967296 := by
  intro p hp
  obtain ⟨s, hs', rfl⟩ := List.mem_map.1 hp
  have h1 := Nat.mod_lt (i + stpN n s) hn
  refine ⟨(i + stpN n s) % n, h1, rfl, by omega, ?_⟩
  have h2 : (i + stpN n s) % n * (2 + st.length) ≤ 40 * 5 := Nat.mul_le_mul (by omega) (by omega)
  omega
theorem rgP_w32 {n i : Nat} {st : List Int} (hn : 0 < n) (hn2 : n ≤ 40) (hs : st.length ≤ 3) : w32 (rgP n st i) = rgP n st i := by
  unfold w32
  conv => rhs; rw [← List.map_id (rgP n st i)]
  refine List.map_congr_left fun p hp => ?_
  obtain ⟨j, _, _, h1, h2⟩ := rgP_bound hn hn2 hs p hp
  rw [IntKind.wrap_u32]
  show p % 4294967296 = p
  omega
/-- What stands at the place of object i. -/
theorem rg_at {n i : Nat} {st : List Int} (hi : i < n) (hn2 : n ≤ 40) (hs : st.length ≤ 3) :
    okH (rgW n st) (1 + i * (2 + st.length)) ∧ wd (rgW n st) (1 + i * (2 + st.length)) = rgH n st ∧ ptsA (rgW n st) ((1 + i * (2 + st.length) : Nat) : Int) = rgP n st i ∧ dtA (rgW n st) ((1 + i * (2 + st.length) : Nat) : Int) = [(i : Int)] := by
  obtain ⟨g1, g2, g3⟩ := rgO_good (n := n) (i := i) hs
  obtain ⟨k1, k2, k3, k4⟩ := lay_at ((List.range i).map (rgO n st)) (((List.range (n - i - 1)).map (fun j => i + 1 + j)).map (rgO n st)) g1
  have hc : rgW n st = layW ((List.range i).map (rgO n st) ++ rgO n st i :: ((List.range (n - i - 1)).map (fun j => i + 1 + j)).map (rgO n st)) := by
    unfold rgW
    conv => lhs; rw [range_split hi]
    simp only [List.map_append, List.map_cons]
  rw [← hc, rg_pre hs i] at k1 k2 k3 k4
  rw [g2] at k2 k3 k4
  refine ⟨k1, k2, ?_, ?_⟩
  · unfold ptsA
    rw [Int.toNat_natCast, k2, k3]
    exact rgP_w32 (by omega) hn2 hs
  · unfold dtA
    rw [Int.toNat_natCast, k2, k4]
    rfl
theorem rgH_parts {n : Nat} {st : List Int} (hs : st.length ≤ 3) : 0 ≤ rgH n st ∧ rgH n st < 4294967296 ∧ szN (rgH n st) = 2 + st.length ∧ ptN (rgH n st) = st.length := by
  unfold rgH szN ptN
  omega
theorem rg_obs {n : Nat} {st : List Int} (hn2 : n ≤ 40) (hs : st.length ≤ 3) : ∀ (d m : Nat), m + d = n → obs (rgW n st) (1 + m * (2 + st.length)) = (List.range d).map fun j => (1 + (m + j) * (2 + st.length), rgH n st)
  | 0, m, h => by
    refine obs_stop fun hk => ?_
    have h1 := hk.1
    rw [rg_len hs] at h1
    have e : m = n := by omega
    rw [e] at h1
    omega
  | d + 1, m, h => by
    obtain ⟨k1, k2, _, _⟩ := rg_at (n := n) (i := m) (st := st) (by omega) hn2 hs
    have ih := rg_obs hn2 hs d (m + 1) (by omega)
    rw [obs_step k1, k2, (rgH_parts hs).2.2.1, List.range_succ_eq_map, List.map_cons, List.map_map]
    rw [show 1 + m * (2 + st.length) + (2 + st.length) = 1 + (m + 1) * (2 + st.length) by rw [Nat.succ_mul]; omega, ih]
    congr 1
    refine List.map_congr_left fun j _ => ?_
    show (1 + (m + 1 + j) * (2 + st.length), rgH n st) = (1 + (m + (j + 1)) * (2 + st.length), rgH n st)
    rw [show m + 1 + j = m + (j + 1) by omega]
theorem rg_obs1 {n : Nat} {st : List Int} (hn2 : n ≤ 40) (hs : st.length ≤ 3) : obs (rgW n st) 1 = (List.range n).map fun j => (1 + j * (2 + st.length), rgH n st) := by
  have := rg_obs hn2 hs n 0 (by omega)
  simpa using this
theorem rg_ob {n : Nat} {st : List Int} (hn2 : n ≤ 40) (hs : st.length ≤ 3) {a : Int} : isOb (rgW n st) a ↔ ∃ i : Nat, i < n ∧ a = ((1 + i * (2 + st.length) : Nat) : Int) := by
  constructor
  · rintro ⟨h1, h2, h3⟩
    rw [rg_obs1 hn2 hs] at h3
    obtain ⟨j, hj, e⟩ := List.mem_map.1 h3
    have := congrArg Prod.fst e
    dsimp only at this
    exact ⟨j, List.mem_range.1 hj, by omega⟩
  · rintro ⟨i, hi, rfl⟩
    obtain ⟨k1, k2, _, _⟩ := rg_at (n := n) (i := i) (st := st) hi hn2 hs
    refine ⟨by omega, by have := k1.1; omega, ?_⟩
    rw [Int.toNat_natCast, k2, rg_obs1 hn2 hs]
    exact List.mem_map.2 ⟨i, List.mem_range.2 hi, rfl⟩
theorem rg_u32 {n : Nat} {st : List Int} (hn2 : n ≤ 40) : U32 (rgW n st) := layW_u32 fun x hx => by
  obtain ⟨i, hi, rfl⟩ := List.mem_map.1 hx
  intro z hz
  have := List.mem_range.1 hi
  have hz' : z ∈ [(i : Int)] := hz
  rw [List.mem_singleton.1 hz']
  omega
theorem rg_right {n : Nat} {st rs : List Int} (hn : 0 < n) (hn2 : n ≤ 40) (hs : st.length ≤ 3) (hl : rs.length ≤ 16) (hr : ∀ r ∈ rs, r = 0 ∨ isOb (rgW n st) r) : rightB (rgW n st) rs = true := by
  have h1 := rg_len (n := n) hs
  have h2 : n * (2 + st.length) ≤ 40 * 5 := Nat.mul_le_mul hn2 (by omega)
  unfold rightB heapB
  simp only [Bool.and_eq_true, decide_eq_true_eq, List.all_eq_true]
  refine ⟨⟨⟨⟨by omega, by omega⟩, rfl⟩, hl⟩, ⟨?_, fun x hx p hp => ?_⟩, fun r hr' => ?_⟩
  · rw [rg_obs1 hn2 hs]
    obtain ⟨m, rfl⟩ : ∃ m, n = m + 1 := ⟨n - 1, by omega⟩
    rw [List.range_succ, List.map_append, List.map_cons, List.map_nil, endO_snoc, (rgH_parts hs).2.2.1, h1, Nat.succ_mul]
    omega
  · rw [rg_obs1 hn2 hs] at hx
    obtain ⟨i, hi, rfl⟩ := List.mem_map.1 hx
    obtain ⟨k1, k2, k3, _⟩ := rg_at (n := n) (i := i) (st := st) (List.mem_range.1 hi) hn2 hs
    have : ptrsO (rgW n st) (1 + i * (2 + st.length), rgH n st) = rgP n st i := by
      rw [← k3]; unfold ptsA; rw [Int.toNat_natCast, k2]
    rw [this] at hp
    obtain ⟨j, hj, e, _, _⟩ := rgP_bound hn hn2 hs p hp
    exact isPl_iff14.2 (Or.inr ((rg_ob hn2 hs).2 ⟨j, hj, e⟩))
  · exact isPl_iff14.2 (hr r hr')
end Go.Proofs.Ytegefnchkgkmgaa
