/- Plain facts on texts one behind the other. -/
import Derived.Test.YtjcemodfpcohgaaOnePlain
namespace Go.Proofs.Ytjcemodfpcohgaa

/-- A text as bytes. -/
def txt (t : List UInt8) : List UInt8 := varF 9 t.length ++ t
/-- Texts one behind the other. -/
def join (ls : List (List UInt8)) : List UInt8 := ls.flatMap txt

theorem join_append (a b : List (List UInt8)) : join (a ++ b) = join a ++ join b := by simp [join]
theorem join_succ (ls : List (List UInt8)) (k : Nat) (h : k < ls.length) : join (ls.take (k + 1)) = join (ls.take k) ++ txt ls[k] := by
  rw [List.take_succ_eq_append_getElem h, join_append]
  simp [join]
theorem join_split (ls : List (List UInt8)) (k : Nat) (h : k < ls.length) : join ls = join (ls.take k) ++ txt ls[k] ++ join (ls.drop (k + 1)) := by
  rw [← join_succ ls k h, ← join_append, List.take_append_drop]
theorem txt_len (t : List UInt8) : t.length + 1 ≤ (txt t).length ∧ (txt t).length ≤ t.length + 10 := by
  have h := varF_len 9 t.length
  simp only [txt, List.length_append]
  omega

/-- A text that stands in bytes is read there. -/
theorem text_read (pre t post : List UInt8) (m : Int) (ht : t.length < 18446744073709551616) (hm : (t.length : Int) ≤ m) :
    textE (pre ++ txt t ++ post) (pre.length : Nat) m = 0 ∧ textB (pre ++ txt t ++ post) (pre.length : Nat) m = t ∧ textN (pre ++ txt t ++ post) (pre.length : Nat) m = ((pre.length + (txt t).length : Nat) : Int) := by
  have e : pre ++ txt t ++ post = pre ++ varF 9 t.length ++ (t ++ post) := by simp [txt]
  obtain ⟨e1, e2, e3⟩ := read_written pre (t ++ post) t.length ht
  rw [← e] at e1 e2 e3
  have hl : (pre ++ txt t ++ post).length = pre.length + (varF 9 t.length).length + t.length + post.length := by simp [txt]; omega
  have hE : textE (pre ++ txt t ++ post) (pre.length : Nat) m = 0 := by
    unfold textE
    rw [if_pos e1, e2, e3, if_neg (by omega), if_neg (by rw [hl]; omega)]
  refine ⟨hE, ?_, ?_⟩
  · unfold textB
    rw [if_pos hE, e2, e3, Int.toNat_natCast, e, ← List.length_append, List.drop_left, List.take_left]
  · unfold textN
    rw [if_pos hE, e2, e3]
    simp only [txt, List.length_append]
    omega

/-- Of a number as bytes fewer bytes are too short. -/
theorem rv_cut (f i a y q : Nat) (hf : i + f = 9) (hy : 0 < i → 0 < y) (h64 : y * 128 ^ i < 18446744073709551616) (hq : q < (varF f y).length) :
    rvF i a ((varF f y).take q) = (10, 0, 0) := by
  induction f generalizing i a y q with
  | zero =>
    simp [varF] at hq
    subst hq
    rfl
  | succ f ih =>
    by_cases h : y < 128
    · rw [varF_stop _ _ h] at hq ⊢
      simp at hq
      subst hq
      rfl
    · rw [varF_go _ _ (by omega)] at hq ⊢
      cases q with
      | zero => rfl
      | succ q =>
        have hn : (UInt8.ofNat (y % 128 + 128)).toNat = y % 128 + 128 := by simp; omega
        have hb : badB i (UInt8.ofNat (y % 128 + 128)).toNat = false := by rw [hn]; unfold badB; simp; omega
        have hs : y / 128 * 128 ^ (i + 1) + y % 128 * 128 ^ i = y * 128 ^ i := by
          have hd : y = 128 * (y / 128) + y % 128 := by omega
          rw [Nat.pow_succ]
          conv => rhs; rw [hd, Nat.add_mul]
          rw [Nat.mul_comm (128 ^ i) 128, ← Nat.mul_assoc, Nat.mul_comm (y / 128) 128]
        rw [List.take_succ_cons, rvF_more i a _ _ hb (by omega)]
        exact ih (i + 1) _ (y / 128) q (by omega) (fun _ => by omega) (by omega) (by simpa using hq)

/-- Of a text as bytes fewer bytes are too short. -/
theorem text_cut (pre t : List UInt8) (q : Nat) (m : Int) (ht : t.length < 18446744073709551616) (hm : (t.length : Int) ≤ m) (hq : q < (txt t).length) :
    textE (pre ++ (txt t).take q) (pre.length : Nat) m = 10 := by
  by_cases hv : q < (varF 9 t.length).length
  · have hd : (pre ++ (txt t).take q).drop pre.length = (varF 9 t.length).take q := by
      rw [List.drop_left, txt, List.take_append_of_le_length (by omega)]
    have hR : rvF 0 0 ((pre ++ (txt t).take q).drop pre.length) = (10, 0, 0) := by rw [hd]; exact rv_cut 9 0 0 t.length q rfl (by omega) (by omega) hv
    obtain ⟨e1, _, _⟩ := read_of _ _ _ hR
    unfold textE
    rw [if_neg (by rw [e1]; decide), e1]
    rfl
  · have e : pre ++ (txt t).take q = pre ++ varF 9 t.length ++ t.take (q - (varF 9 t.length).length) := by
      rw [txt, List.take_append, List.take_of_length_le (by omega), List.append_assoc]
    obtain ⟨e1, e2, e3⟩ := read_written pre (t.take (q - (varF 9 t.length).length)) t.length ht
    rw [← e] at e1 e2 e3
    have hl : (pre ++ (txt t).take q).length = pre.length + q := by simp only [List.length_append, List.length_take]; omega
    have hq' : q < (varF 9 t.length).length + t.length := by simpa [txt] using hq
    unfold textE
    rw [if_pos e1, e2, e3, if_neg (by omega), if_pos (by rw [hl]; omega)]
end Go.Proofs.Ytjcemodfpcohgaa
