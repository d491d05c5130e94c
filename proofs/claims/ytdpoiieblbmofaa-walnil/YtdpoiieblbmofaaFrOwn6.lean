/- What package frame does: alike, filled. -/
import Derived.Test.YtdpoiieblbmofaaFrList
namespace Go.Proofs.Ytdpoiieblbmofaa
open Go.RowKit

theorem beq_int (a b : Nat) : (((a : Int)) == (b : Int)) = decide (a = b) := by
  by_cases h : a = b
  · subst h; simp
  · rw [decide_eq_false h, beq_eq_false_iff_ne]; omega

set_option maxRecDepth 20000 in
theorem alike_any (a b : Fr) (s t : Value) (hs : ∃ p l c, s = .slice p l c) (ht : ∃ p l c, t = .slice p l c) (w : World) :
    Calls Try.prog 97 #[fv a s, fv b t] w fun e w' => e = .returned (.bool (alikeB a b)) ∧ Below w.heap.size w w' := by
  obtain ⟨p1, l1, c1, rfl⟩ := hs
  obtain ⟨p2, l2, c2, rfl⟩ := ht
  unfold fv alikeB
  obtain ⟨a1, a2, a3, _⟩ := a
  obtain ⟨b1, b2, b3, _⟩ := b
  simp only
  have hb : Below w.heap.size w ((w.alloc (.cells #[.int .u64 (a1 : Int), .int .u64 (a2 : Int), .int .i64 a3, .slice p1 l1 c1] 91)).alloc (.cells #[.int .u64 (b1 : Int), .int .u64 (b2 : Int), .int .i64 b3, .slice p2 l2 c2] 91)) := ((Below.refl _ _).alloc (Nat.le_refl _) _).alloc (by simp) _
  have HB := hide hb
  clear hb
  by_cases h1 : a1 = b1
  · subst h1
    have e1 : ((a1 : Int) == a1) = true := by simp
    by_cases h2 : a2 = b2
    · subst h2
      have e2 : ((a2 : Int) == a2) = true := by simp
      have e : decide (a1 = a1 ∧ a2 = a2 ∧ a3 = b3) = (a3 == b3) := by simp [Bool.beq_eq_decide_eq]
      rw [e]
      go_enter Try.func97, Try.ntmps97
      go_wp2
      go_ret
      exact ⟨rfl, unhide HB⟩
    · have e : decide (a1 = a1 ∧ a2 = b2 ∧ a3 = b3) = false := by simp [h2]
      rw [e]
      have e2 : ((a2 : Int) == b2) = false := by rw [beq_int, decide_eq_false h2]
      go_enter Try.func97, Try.ntmps97
      go_wp2
      go_ret
      exact ⟨rfl, unhide HB⟩
  · have e : decide (a1 = b1 ∧ a2 = b2 ∧ a3 = b3) = false := by simp [h1]
    rw [e]
    have e1 : ((a1 : Int) == b1) = false := by rw [beq_int, decide_eq_false h1]
    go_enter Try.func97, Try.ntmps97
    go_wp2
    go_ret
    exact ⟨rfl, unhide HB⟩

set_option maxRecDepth 20000 in
theorem filled_any (f : Fr) (s : Value) (i : Nat) (w : World) (hs : Row w s f.data) (h1 : -9223372036854775807 ≤ f.of) (hmx : f.of ≤ 9223372036854775807) :
    Calls Try.prog 99 #[fv f s, .int .i64 i] w fun e w' => e = .returned (.bool (filledB f i)) ∧ Below w.heap.size w w' := by
  obtain ⟨q, c, l, rfl, hl⟩ := hs.shape
  unfold fv filledB
  rw [hl]
  clear hs hl
  generalize f.of = m at *
  have hb : Below w.heap.size w (w.alloc (.cells #[.int .u64 (f.age : Int), .int .u64 (f.first : Int), .int .i64 m, .slice q l c] 91)) := (Below.refl _ _).alloc (Nat.le_refl _) _
  have HB := hide hb
  clear hb
  by_cases hi : (i : Int) < m - 1
  · rw [if_pos hi]
    have e : decide ((l : Int) = 440) = ((l : Int) == 440) := by simp [Bool.beq_eq_decide_eq]
    rw [e]
    go_enter Try.func99, Try.ntmps99
    go_wp2
    go_ret
    exact ⟨rfl, unhide HB⟩
  · rw [if_neg hi]
    by_cases h2 : m = 1
    · subst h2
      have e : decide ((1 : Int) = 1 ∨ 0 < (l : Int)) = true := by simp
      rw [e]
      go_enter Try.func99, Try.ntmps99
      go_wp2
      go_ret
      exact ⟨rfl, unhide HB⟩
    · have e : decide (m = 1 ∨ 0 < (l : Int)) = decide (0 < (l : Int)) := by simp [h2]
      have e2 : (m == 1) = false := by simp [h2]
      rw [e]
      go_enter Try.func99, Try.ntmps99
      go_wp2
      go_ret
      exact ⟨rfl, unhide HB⟩

theorem flat_take (l : List Fr) (k : Nat) (h : k < l.length) : flatF (l.take (k + 1)) = flatF (l.take k) ++ l[k].data := by
  unfold flatF
  rw [List.take_succ_eq_append_getElem h, List.map_append, List.flatten_append]
  simp
theorem headD_get (l : List Fr) (h : 0 < l.length) : l.headD zeroF = l[0] := by cases l with | nil => simp at h | cons x xs => rfl
theorem not_rec {l : List Fr} {k : Nat} (h : k < l.length) (hb : goodB l[k] (l.headD zeroF) k = false) : ¬ IsRec l := fun hr => by
  have := ((whole_iff l).2 hr).2.2.1 k h
  rw [hb] at this
  cases this

set_option maxRecDepth 20000 in
theorem whole_nil (w : World) (p : Option Addr) (c : Nat) : Calls Try.prog 85 #[.slice p 0 c] w fun e w' => e = .returned (.bool false) ∧ Below w.heap.size w w' := by
  go_enter Try.func85, Try.ntmps85
  go_wp2
  go_ret
  exact ⟨rfl, Below.refl _ _⟩

set_option maxRecDepth 20000 in
theorem whole_of (w : World) (b off n c : Nat) (A C m D : Value) (M : Int) (hm : m = .int .i64 M) (h4 : At4 w b off A C m D) (h0 : (0 : Int) < n) (hne : (n : Int) ≠ M) :
    Calls Try.prog 85 #[.slice (some ⟨b, off, none⟩) n c] w fun e w' => e = .returned (.bool false) ∧ Below w.heap.size w w' := by
  subst hm
  obtain ⟨c0, c1, c2, c3⟩ := h4
  have hz : ((n : Int) == 0) = false := by rw [beq_eq_false_iff_ne]; omega
  have hz1 : ((n : Int) == M) = false := by rw [beq_eq_false_iff_ne]; exact hne
  go_enter Try.func85, Try.ntmps85
  go_wp2
  go_ret
  exact ⟨rfl, Below.refl _ _⟩
end Go.Proofs.Ytdpoiieblbmofaa
