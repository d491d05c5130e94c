/- Texts of ours, one behind the other: Word2, Put, RefRv, BatWr1. -/
import Derived.Test.YtehnjanllemnlaaG1
import Derived.Test.YtehnjanllemnlaaG5
import Derived.Test.YtehnjanllemnlaaG11
import Derived.Test.YtehnjanllemnlaaG12
import Derived.Laws.EntriesVeiled
/- What Zero of package word does, out of the contracts of what it calls. -/
namespace Go.Proofs.Ytehnjanllemnlaa
open Go.RowKit

theorem all_zero (bs : List UInt8) (h : ∀ j (h : j < bs.length), bs[j] = 0) : bs.all (· == 0) = true := by
  rw [List.all_eq_true]
  intro x hx
  obtain ⟨j, hj, rfl⟩ := List.getElem_of_mem hx
  simp [h j hj]
theorem not_all_zero (bs : List UInt8) (j : Nat) (hj : j < bs.length) (h : bs[j] ≠ 0) : bs.all (· == 0) = false := by
  rw [Bool.eq_false_iff]
  intro ha
  rw [List.all_eq_true] at ha
  exact h (by simpa using ha _ (List.getElem_mem hj))
theorem beq_byte (u : UInt8) : ((u.toNat : Int) == 0) = (u == 0) := by
  rw [Bool.eq_iff_iff]
  simp only [beq_iff_eq]
  constructor
  · intro h; exact UInt8.toNat_inj.1 (by simpa using h)
  · intro h; simp [h]

end Go.Proofs.Ytehnjanllemnlaa

/- What Put of package word does. -/
namespace Go.Proofs.Ytehnjanllemnlaa
open Go.RowKit

/-- The row while v is being put behind bs: i of its n bytes are there. -/
def fill (bs : List UInt8) (n v i : Nat) : List UInt8 := bs ++ le i v ++ List.replicate (n - i) 0
theorem length_fill (bs : List UInt8) (n v i : Nat) (h : i ≤ n) : (fill bs n v i).length = bs.length + n := by simp [fill, length_le]; omega
theorem fill_zero (bs : List UInt8) (n v : Nat) : fill bs n v 0 = bs ++ List.replicate n 0 := by simp [fill, le]
theorem fill_all (bs : List UInt8) (n v : Nat) : fill bs n v n = bs ++ le n v := by simp [fill]
theorem fill_step (bs : List UInt8) (n v i : Nat) (h : i < n) : (fill bs n v i).set (bs.length + i) (UInt8.ofNat (v / 256 ^ i)) = fill bs n v (i + 1) := by
  have e : n - i = (n - (i + 1)) + 1 := by omega
  unfold fill
  rw [e, List.replicate_succ, List.set_append, if_neg (by simp [length_le]), le_succ]
  simp [length_le]

end Go.Proofs.Ytehnjanllemnlaa

/- What the reference's ReadVar and Var do: the same as the program's. -/
namespace Go.Proofs.Ytehnjanllemnlaa
open Go.RowKit

end Go.Proofs.Ytehnjanllemnlaa

/- The landed package batch: numbers as bytes. -/
namespace Go.Proofs.Ytehnjanllemnlaa
open Go.RowKit

/-- A slice value that reads as these numbers. -/
def UL (w : World) (v : Value) (l : List Nat) : Prop := KRow 1 w v l.length (l.map fun (n : Nat) => Value.int .u64 (n : Int))
def numsB (l : List Nat) : List UInt8 := l.flatMap (varF 9)
theorem numsB_len (l : List Nat) : (numsB l).length ≤ l.length * 10 := by
  induction l with
  | nil => simp [numsB]
  | cons x l ih =>
    have := (varF_len 9 x).2
    simp only [numsB, List.flatMap_cons, List.length_append, List.length_cons] at *
    omega
theorem numsB_take (l : List Nat) (k : Nat) (h : k < l.length) : numsB (l.take (k + 1)) = numsB (l.take k) ++ varF 9 l[k] := by
  rw [List.take_succ_eq_append_getElem h]
  simp only [numsB, List.flatMap_append, List.flatMap_cons, List.flatMap_nil, List.append_nil]

set_option maxRecDepth 20000 in
set_option maxHeartbeats 1000000 in
theorem numbers_any (v : Value) (l : List Nat) (w : World) (hl : UL w v l) (h64 : ∀ x ∈ l, x < 18446744073709551616) (hlen : l.length ≤ 1000) :
    Calls Try.prog 59 #[v] w fun e w' => ∃ s, e = .returned s ∧ w'.ownsRow w.heap.size 5 1 s (numsB l).length ((numsB l).map B) ∧ Below w.heap.size w w' := by
  obtain ⟨i0, hi, hz0, hz1, hz2⟩ := info_parts Try.info5
  obtain ⟨p, c, rfl, hc1, hc2, hc3⟩ := KRow.shape hl
  have HC : Hid (∀ w', Below w.heap.size w w' → ∀ k (hk : k < l.length), ∃ ad, p = some ad ∧ w'.cell? (ad.add k) = some (.int .u64 (l[k] : Int))) := by
    intro w' hb k hk
    obtain ⟨ad, rfl, hc⟩ := KRow.pos (hl.below hb) (by omega)
    exact ⟨ad, rfl, hc k _ (by simp [hk])⟩
  have H64 := hide h64
  have hlen' : (l.length : Int) ≤ 1000 := by omega
  clear hl h64
  go_enter Try.func59, Try.ntmps59
  go_wp2
  go_loopw [3, 8] (fun s i wr => ∃ k : Nat, k ≤ l.length ∧ i = .int .i64 k ∧ Hid (wr.ownsRow w.heap.size 5 1 s (numsB (l.take k)).length ((numsB (l.take k)).map B)) ∧ Hid (Below w.heap.size w wr)) (fun _ i _ => l.length - (intOf i).toNat)
  case atStart => exact ⟨0, Nat.zero_le _, rfl, World.ownsRow_nil _ _ _ _, Below.refl _ _⟩
  case round =>
    obtain ⟨k, hk, rfl, hown, hbel⟩ := hrel
    by_cases hlt : k < l.length
    · obtain ⟨ad, rfl, hcell⟩ := unhide HC wr (unhide hbel) k hlt
      have hkl : (k : Int) < l.length := by omega
      have HV := hide (var_any l[k] (unhide H64 _ (List.getElem_mem hlt)) wr)
      have HT := hide (numsB_take l k hlt)
      have hnl := numsB_len (l.take k)
      rw [List.length_take] at hnl
      have hvl := (varF_len 9 l[k]).2
      generalize l[k] = x at *
      obtain ⟨bl, hbl⟩ : ∃ bl, bl = numsB (l.take k) := ⟨_, rfl⟩
      rw [← hbl] at hown HT hnl
      clear hbl
      go_wp2_with fail
      refine Calls.mono (unhide HV) ?_
      rintro e w1 ⟨s1, rfl, hown1, hb1⟩
      have hrow := row_of_owns hown1
      obtain ⟨q1, c1, l1, rfl, rfl⟩ := hrow.shape
      have hB1 := (unhide hbel).trans (hb1.mono (unhide hbel).size)
      have hown0 := owns_below (unhide hown) hb1
      have hsz := hB1.size
      clear HV hcell hown1 hown hbel hb1
      go_wp2_with (at_builtin; refine wpList_append_row rfl _ _ 30 rfl w.heap.size 5 i0 (.int .u8 0) Try.underlying30 hi hz0 hz1 hz2 rfl _ _ _ rfl hown0 _ (varF 9 x) rfl hrow (by omega) hsz ?_)
      intro v2 w2 hown2 hgrow2
      have HB2 : Hid (Below w.heap.size w w2) := hB1.grown hgrow2 hsz (fun k hk => (hown0.lt k hk).1)
      have HO2 := hide hown2
      clear hown2 hgrow2 hown0 hB1 hrow
      go_wp2
      go_roundw
      case rel =>
        refine ⟨k + 1, by omega, by go_num, ?_, HB2⟩
        unfold Hid
        rw [unhide HT, List.length_append, List.map_append]
        exact unhide HO2
      case measure => simp [intOf]; omega
    · obtain rfl : k = l.length := by omega
      rw [List.take_length] at hown
      go_wp2
      go_ret
      exact ⟨_, rfl, unhide hown, unhide hbel⟩
end Go.Proofs.Ytehnjanllemnlaa
