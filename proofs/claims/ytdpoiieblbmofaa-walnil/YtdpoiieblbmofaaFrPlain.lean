/- Frames as plain data: what a frame is as bytes, what bytes are as a frame, how a record is cut, which frames are a record. Nothing here speaks of the program. -/
import Derived.Test.YtdpoiieblbmofaaOnePlain
namespace Go.Proofs.Ytdpoiieblbmofaa
open Go.RowKit

structure Fr where
  age : Nat
  first : Nat
  of : Int
  data : List UInt8
deriving DecidableEq

def zeroF : Fr := ⟨0, 0, 0, []⟩
def Fr.ok (f : Fr) : Prop := f.age < 18446744073709551616 ∧ f.first < 18446744073709551616 ∧ -9223372036854775808 ≤ f.of ∧ f.of ≤ 9223372036854775807 ∧ f.data.length ≤ 140737488351232

def mayF (f : Fr) : Bool := decide (1 ≤ f.of ∧ f.of ≤ 32 ∧ (f.data.length : Int) ≤ 440)
theorem may_iff (f : Fr) : mayF f = true ↔ 1 ≤ f.of ∧ f.of ≤ 32 ∧ (f.data.length : Int) ≤ 440 := by unfold mayF; simp
def bytesF (f : Fr) : List UInt8 := varF 9 f.age ++ varF 9 f.first ++ varF 9 f.of.toNat ++ f.data
def writeB (f : Fr) : List UInt8 := if mayF f = true then bytesF f else []
def writeE (f : Fr) : Int := if mayF f = true then 0 else 11

/-- What bytes are as a frame, and the error. -/
def readF (b : List UInt8) : Fr × Int :=
  if readE b 0 ≠ 0 then (zeroF, readE b 0)
  else if readE b (readN b 0) ≠ 0 then (zeroF, readE b (readN b 0))
  else if readE b (readN b (readN b 0)) ≠ 0 then (zeroF, readE b (readN b (readN b 0)))
  else if 32 < readV b (readN b (readN b 0)) then (zeroF, 11)
  else if mayF ⟨readV b 0, readV b (readN b 0), (readV b (readN b (readN b 0)) : Nat), b.drop (readN b (readN b (readN b 0))).toNat⟩ = true then
    (⟨readV b 0, readV b (readN b 0), (readV b (readN b (readN b 0)) : Nat), b.drop (readN b (readN b (readN b 0))).toNat⟩, 0)
  else (zeroF, 11)

def countN (n : Int) : Int := if n < 0 then 0 else if n = 0 then 1 else (n - 1) / 440 + 1
theorem count_pos {n : Int} (h : 0 ≤ n) : 1 ≤ countN n := by unfold countN; repeat' split
                                                             all_goals omega
theorem count_le {n : Int} (h : n ≤ 8192) : countN n ≤ 19 := by unfold countN; repeat' split
                                                                all_goals omega
/-- The part i of a record. -/
def partN (r : List UInt8) (i : Nat) : List UInt8 := (r.drop (i * 440)).take 440
def framesN (age first : Nat) (r : List UInt8) : List Fr := (List.range (countN r.length).toNat).map fun i => ⟨age, first, countN r.length, partN r i⟩
theorem length_frames (age first : Nat) (r : List UInt8) : ((framesN age first r).length : Int) = countN r.length := by
  have := count_pos (n := r.length) (by omega)
  unfold framesN
  simp
  omega
theorem frames_get (age first : Nat) (r : List UInt8) (i : Nat) (h : i < (framesN age first r).length) : (framesN age first r)[i] = ⟨age, first, countN r.length, partN r i⟩ := by
  simp [framesN]
theorem length_part (r : List UInt8) (i : Nat) : (partN r i).length = min 440 (r.length - i * 440) := by simp [partN]

def cutL (age first : Nat) (r : List UInt8) : List (List UInt8) := if 8192 < r.length then [] else (framesN age first r).map bytesF
def cutE (r : List UInt8) : Int := if 8192 < r.length then 4 else 0

/-- All that the frames bear. -/
def flatF (l : List Fr) : List UInt8 := (l.map Fr.data).flatten
def IsRec (l : List Fr) : Prop := l ≠ [] ∧ (flatF l).length ≤ 8192 ∧ l = framesN (l.headD zeroF).age (l.headD zeroF).first (flatF l)
instance (l : List Fr) : Decidable (IsRec l) := by unfold IsRec; infer_instance
def joinB (l : List Fr) : List UInt8 := if IsRec l then flatF l else []
def joinE (l : List Fr) : Int := if IsRec l then 0 else 11

theorem parts_flat (r : List UInt8) (k : Nat) : ((List.range k).map (partN r)).flatten = r.take (k * 440) := by
  induction k with
  | zero => simp
  | succ k ih =>
    rw [List.range_succ, List.map_append, List.flatten_append, ih, show (k + 1) * 440 = k * 440 + 440 by omega, List.take_add]
    simp [partN]
theorem flat_frames (age first : Nat) (r : List UInt8) : flatF (framesN age first r) = r := by
  unfold flatF framesN
  rw [List.map_map, show (Fr.data ∘ fun i => (⟨age, first, countN r.length, partN r i⟩ : Fr)) = partN r from rfl, parts_flat]
  apply List.take_of_length_le
  unfold countN
  repeat' split
  all_goals omega
theorem head_frames (age first : Nat) (r : List UInt8) : ((framesN age first r).headD zeroF).age = age ∧ ((framesN age first r).headD zeroF).first = first ∧ framesN age first r ≠ [] := by
  have h := length_frames age first r
  have hp := count_pos (n := r.length) (by omega)
  have h0 : 0 < (framesN age first r).length := by omega
  have hg := frames_get age first r 0 h0
  cases hl : framesN age first r with
  | nil => rw [hl] at h0; simp at h0
  | cons x xs =>
    have : x = ⟨age, first, countN r.length, partN r 0⟩ := by
      rw [← hg]; simp only [hl, List.getElem_cons_zero]
    rw [this]
    exact ⟨rfl, rfl, by simp⟩
/-- What is cut is a record, and that one. -/
theorem isRec_frames (age first : Nat) (r : List UInt8) (h : r.length ≤ 8192) : IsRec (framesN age first r) := by
  obtain ⟨h1, h2, h3⟩ := head_frames age first r
  refine ⟨h3, by rw [flat_frames]; exact h, ?_⟩
  rw [h1, h2, flat_frames]
theorem isRec_len {l : List Fr} (h : IsRec l) {j : Nat} (hj : j < l.length) : (l.length : Int) = l[j].of ∧ l[j].age = (l.headD zeroF).age ∧ l[j].first = (l.headD zeroF).first := by
  obtain ⟨_, _, e⟩ := h
  generalize (l.headD zeroF).age = a at *
  generalize (l.headD zeroF).first = b at *
  generalize flatF l = r at *
  subst e
  rw [frames_get, length_frames]
  exact ⟨rfl, rfl, rfl⟩

/-- Whether frame i of a record bears as much as it must. -/
def filledB (f : Fr) (i : Nat) : Bool := if (i : Int) < f.of - 1 then decide ((f.data.length : Int) = 440) else decide (f.of = 1 ∨ 0 < (f.data.length : Int))
def alikeB (a b : Fr) : Bool := decide (a.age = b.age ∧ a.first = b.first ∧ a.of = b.of)
def goodB (f f0 : Fr) (i : Nat) : Bool := alikeB f f0 && mayF f && filledB f i
def Whole (l : List Fr) : Prop := l ≠ [] ∧ (l.length : Int) = (l.headD zeroF).of ∧ (∀ i (h : i < l.length), goodB l[i] (l.headD zeroF) i = true) ∧ (flatF l).length ≤ 8192

theorem flat_cons (f : Fr) (l : List Fr) : flatF (f :: l) = f.data ++ flatF l := by simp [flatF]
/-- Parts of 440 bytes, but the last one, lie where they should. -/
theorem chunk : ∀ (l : List Fr), (∀ i (h : i < l.length), (i + 1 < l.length → l[i].data.length = 440) ∧ l[i].data.length ≤ 440) →
    (∀ i (h : i < l.length), partN (flatF l) i = l[i].data) ∧ (l ≠ [] → ∃ m, m = ((l.getLast?).getD zeroF).data.length ∧ (flatF l).length = (l.length - 1) * 440 + m)
  | [], _ => ⟨fun i h => by simp at h, fun h => absurd rfl h⟩
  | [f], h => by
    refine ⟨fun i hi => ?_, fun _ => ⟨_, rfl, ?_⟩⟩
    · have hi0 : i = 0 := by simpa using hi
      subst hi0
      have := (h 0 (by simp)).2
      simp only [List.getElem_cons_zero] at this ⊢
      rw [flat_cons]
      simp only [flatF, partN, List.map_nil, List.flatten_nil, List.append_nil, Nat.zero_mul, List.drop_zero]
      exact List.take_of_length_le this
    · simp [flatF]
  | f :: g :: l, h => by
    have hf := (h 0 (by simp)).1 (by simp)
    simp only [List.getElem_cons_zero] at hf
    obtain ⟨h1, h2⟩ := chunk (g :: l) (fun i hi => by have := h (i + 1) (by simpa using hi); simpa using this)
    refine ⟨fun i hi => ?_, fun _ => ?_⟩
    · rw [flat_cons]
      cases i with
      | zero =>
        simp only [List.getElem_cons_zero, partN, Nat.zero_mul, List.drop_zero]
        rw [List.take_append_of_le_length (by omega), List.take_of_length_le (by omega)]
      | succ i =>
        rw [List.getElem_cons_succ, ← h1 i (by simpa using hi)]
        unfold partN
        rw [show (i + 1) * 440 = f.data.length + i * 440 by omega, ← List.drop_drop, List.drop_left]
    · obtain ⟨m, hm, hl⟩ := h2 (by simp)
      refine ⟨m, by rw [hm, List.getLast?_cons_cons], ?_⟩
      rw [flat_cons, List.length_append, hl, hf]
      simp only [List.length_cons]
      omega
theorem good_iff (f f0 : Fr) (i : Nat) : goodB f f0 i = true ↔ (f.age = f0.age ∧ f.first = f0.first ∧ f.of = f0.of) ∧ (1 ≤ f.of ∧ f.of ≤ 32 ∧ (f.data.length : Int) ≤ 440) ∧ (((i : Int) < f.of - 1 → (f.data.length : Int) = 440) ∧ (¬ (i : Int) < f.of - 1 → f.of = 1 ∨ 0 < (f.data.length : Int))) := by
  unfold goodB alikeB filledB mayF
  by_cases h : (i : Int) < f.of - 1
  · simp [h, and_assoc]
  · simp [h, and_assoc]
theorem whole_isRec {l : List Fr} (h : Whole l) : IsRec l := by
  obtain ⟨h0, hof, hg, hl⟩ := h
  refine ⟨h0, hl, ?_⟩
  have hpos : 0 < l.length := List.length_pos_iff.2 h0
  obtain ⟨c1, c2⟩ := chunk l (fun i hi => by
    obtain ⟨⟨_, _, e⟩, ⟨_, _, e2⟩, e3, _⟩ := (good_iff _ _ _).1 (hg i hi)
    exact ⟨fun hi2 => by have := e3 (by omega); omega, by omega⟩)
  obtain ⟨m, hm, hlen⟩ := c2 h0
  have hlast : m ≤ 440 ∧ (l.length = 1 ∨ 0 < m) := by
    obtain ⟨⟨_, _, e⟩, ⟨_, _, e2⟩, _, e4⟩ := (good_iff _ _ _).1 (hg (l.length - 1) (by omega))
    have : m = l[l.length - 1].data.length := by
      rw [hm, List.getLast?_eq_getElem?, List.getElem?_eq_getElem (by omega)]
      rfl
    have h4 := e4 (by omega)
    omega
  have hc : countN ((flatF l).length : Int) = l.length := by
    rw [hlen]
    unfold countN
    repeat' split
    all_goals omega
  apply List.ext_getElem
  · have := length_frames (l.headD zeroF).age (l.headD zeroF).first (flatF l)
    omega
  · intro i h1 h2
    rw [frames_get, hc, c1 i h1]
    obtain ⟨⟨a1, a2, a3⟩, _⟩ := (good_iff _ _ _).1 (hg i h1)
    rw [← a1, ← a2, hof, ← a3]
theorem isRec_whole {l : List Fr} (h : IsRec l) : Whole l := by
  have hl := h.2.1
  have h0 := h.1
  have hpos : 0 < l.length := List.length_pos_iff.2 h0
  have hhd : l.headD zeroF = l[0] := by cases l with | nil => simp at hpos | cons x xs => rfl
  have hof := (isRec_len h hpos).1
  refine ⟨h0, by rw [hhd]; exact hof, fun i hi => ?_, hl⟩
  obtain ⟨e1, e2, e3⟩ := isRec_len h hi
  have hd : l[i].data = partN (flatF l) i := by
    have hd := congrArg (fun x : Option Fr => x.map Fr.data) (congrArg (fun x : List Fr => x[i]?) h.2.2)
    have hi2 : i < (framesN (l.headD zeroF).age (l.headD zeroF).first (flatF l)).length := by rw [← h.2.2]; exact hi
    simp only [List.getElem?_eq_getElem hi, List.getElem?_eq_getElem hi2, frames_get, Option.map_some, Option.some.injEq] at hd
    exact hd
  have hc : (l.length : Int) = countN ((flatF l).length : Int) := by
    have := congrArg List.length h.2.2
    have h2 := length_frames (l.headD zeroF).age (l.headD zeroF).first (flatF l)
    omega
  have hlen := length_part (flatF l) i
  rw [← hd] at hlen
  rw [good_iff]
  have hcp : countN ((flatF l).length : Int) ≤ 19 := count_le (by omega)
  unfold countN at hc hcp
  refine ⟨⟨e2, e3, by rw [← e1, hhd, hof]⟩, ⟨by omega, ?_, by omega⟩, ?_, ?_⟩
  · rw [← e1, hc]; repeat' split at hcp
    all_goals (repeat' split)
    all_goals omega
  · rw [← e1]
    repeat' split at hc
    all_goals omega
  · rw [← e1]
    repeat' split at hc
    all_goals omega
theorem whole_iff (l : List Fr) : Whole l ↔ IsRec l := ⟨whole_isRec, isRec_whole⟩

/-- What is written is read. -/
theorem read_bytes (f : Fr) (hok : f.ok) (h : mayF f = true) : readF (bytesF f) = (f, 0) := by
  obtain ⟨m1, m2, m3⟩ := (may_iff f).1 h
  obtain ⟨o1, o2, o3, o4, o5⟩ := hok
  obtain ⟨a1, a2, a3⟩ := read_written [] (varF 9 f.first ++ varF 9 f.of.toNat ++ f.data) f.age o1
  obtain ⟨b1, b2, b3⟩ := read_written (varF 9 f.age) (varF 9 f.of.toNat ++ f.data) f.first o2
  obtain ⟨c1, c2, c3⟩ := read_written (varF 9 f.age ++ varF 9 f.first) f.data f.of.toNat (by omega)
  have eb : [] ++ varF 9 f.age ++ (varF 9 f.first ++ varF 9 f.of.toNat ++ f.data) = bytesF f := by simp [bytesF]
  have ec : varF 9 f.age ++ varF 9 f.first ++ (varF 9 f.of.toNat ++ f.data) = bytesF f := by simp [bytesF]
  have ed : varF 9 f.age ++ varF 9 f.first ++ varF 9 f.of.toNat ++ f.data = bytesF f := rfl
  rw [eb] at a1 a2 a3
  rw [ec] at b1 b2 b3
  rw [ed] at c1 c2 c3
  have n1 : readN (bytesF f) 0 = ((varF 9 f.age).length : Nat) := by simpa using a3
  have n2 : readN (bytesF f) (readN (bytesF f) 0) = ((varF 9 f.age ++ varF 9 f.first).length : Nat) := by rw [n1, b3]; simp
  have z1 : readE (bytesF f) 0 = 0 := a1
  have z2 : readE (bytesF f) (readN (bytesF f) 0) = 0 := by rw [n1]; exact b1
  have z3 : readE (bytesF f) (readN (bytesF f) (readN (bytesF f) 0)) = 0 := by rw [n2]; exact c1
  have w1 : readV (bytesF f) 0 = f.age := a2
  have w2 : readV (bytesF f) (readN (bytesF f) 0) = f.first := by rw [n1]; exact b2
  have w3 : readV (bytesF f) (readN (bytesF f) (readN (bytesF f) 0)) = f.of.toNat := by rw [n2]; exact c2
  have w4 : (bytesF f).drop (readN (bytesF f) (readN (bytesF f) (readN (bytesF f) 0))).toNat = f.data := by
    rw [n2, c3, Int.toNat_natCast]
    unfold bytesF
    rw [← List.length_append, List.drop_left]
  unfold readF
  rw [w1, w2, w3, w4, if_neg (by simp [z1]), if_neg (by simp [z2]), if_neg (by simp [z3]), if_neg (by omega)]
  have e : (⟨f.age, f.first, (f.of.toNat : Int), f.data⟩ : Fr) = f := by
    have : (f.of.toNat : Int) = f.of := by omega
    rw [this]
  rw [e, if_pos h]
/-- What is read, written again, is the same bytes. -/
theorem bytes_read (b : List UInt8) (h : (readF b).2 = 0) : mayF (readF b).1 = true ∧ bytesF (readF b).1 = b ∧ ((readF b).1.age < 18446744073709551616 ∧ (readF b).1.first < 18446744073709551616) := by
  unfold readF at h ⊢
  by_cases h1 : readE b 0 = 0
  · rw [if_neg (by simp [h1])] at h ⊢
    by_cases h2 : readE b (readN b 0) = 0
    · rw [if_neg (by simp [h2])] at h ⊢
      by_cases h3 : readE b (readN b (readN b 0)) = 0
      · rw [if_neg (by simp [h3])] at h ⊢
        by_cases h4 : 32 < readV b (readN b (readN b 0))
        · rw [if_pos h4] at h; cases h
        · rw [if_neg h4] at h ⊢
          split at h
          · rename_i hm
            rw [if_pos hm]
            obtain ⟨a0, a1, a2, a3⟩ := read_ok b 0 h1
            obtain ⟨b0, b1, b2, b3⟩ := read_ok b _ h2
            obtain ⟨c0, c1, c2, c3⟩ := read_ok b _ h3
            refine ⟨hm, ?_, a3, b3⟩
            unfold bytesF
            simp only [Int.toNat_natCast]
            rw [read_back b 0 h1, read_back b _ h2, read_back b _ h3]
            generalize readN b 0 = p at *
            generalize readN b p = q at *
            generalize readN b q = r at *
            obtain ⟨p, rfl⟩ := Int.eq_ofNat_of_zero_le b0
            obtain ⟨q, rfl⟩ := Int.eq_ofNat_of_zero_le c0
            obtain ⟨r, rfl⟩ := Int.eq_ofNat_of_zero_le (show 0 ≤ r by omega)
            simp only [Int.toNat_natCast, Int.toNat_zero, List.drop_zero, Nat.sub_zero]
            have e1 : b.take p ++ (b.drop p).take (q - p) = b.take q := by rw [← List.take_add]; congr 1; omega
            have e2 : b.take q ++ (b.drop q).take (r - q) = b.take r := by rw [← List.take_add]; congr 1; omega
            rw [e1, e2, List.take_append_drop]
          · cases h
      · rw [if_pos h3] at h; exact absurd h h3
    · rw [if_pos h2] at h; exact absurd h h2
  · rw [if_pos h1] at h; exact absurd h h1
theorem part_may (age first : Nat) (r : List UInt8) (i : Nat) (h : r.length ≤ 8192) : mayF ⟨age, first, countN r.length, partN r i⟩ = true := by
  rw [may_iff]
  have := count_pos (n := r.length) (by omega)
  have := count_le (n := r.length) (by omega)
  have := length_part r i
  simp only
  omega
theorem length_bytesF (f : Fr) : (bytesF f).length ≤ 30 + f.data.length := by
  unfold bytesF
  have h1 := (varF_len 9 f.age).2
  have h2 := (varF_len 9 f.first).2
  have h3 := (varF_len 9 f.of.toNat).2
  simp only [List.length_append]
  omega
end Go.Proofs.Ytdpoiieblbmofaa
