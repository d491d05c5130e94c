/- Texts of ours, one behind the other: OwnPlain. -/
import Derived.Test.YtpkpjmebkikgdaaG1
import Derived.Test.YtpkpjmebkikgdaaG4
import Derived.Deep.MidRow
/- The plain half of the proofs about the landed package disk: which write was the last one to a sector; writes that are kept by a choice; rows of sectors as cells. -/
namespace Go.Proofs.Ytpkpjmebkikgdaa
open Go.RowKit

/-- r is the number of the last write to the sector a, if there is one. -/
def LastOf (l : List (Nat × List UInt8)) (a : Nat) : Option Nat → Prop
  | none => ∀ x ∈ l, x.1 ≠ a
  | some i => ∃ h : i < l.length, l[i].1 = a ∧ ∀ j (hj : j < l.length), i < j → l[j].1 ≠ a

theorem LastOf.nil (a : Nat) : LastOf [] a none := fun x hx => by cases hx
theorem LastOf.snoc {l : List (Nat × List UInt8)} {a : Nat} {r : Option Nat} (h : LastOf l a r) (x : Nat) (b : List UInt8) : LastOf (l ++ [(x, b)]) a (if a = x then some l.length else r) := by
  by_cases hx : a = x
  · rw [if_pos hx]
    refine ⟨by simp, by simp [hx], fun j hj hlt => ?_⟩
    simp at hj
    omega
  · rw [if_neg hx]
    cases r with
    | none =>
      intro y hy
      rcases List.mem_append.1 hy with hy | hy
      · exact h y hy
      · simp only [List.mem_singleton] at hy
        subst hy
        exact fun e => hx e.symm
    | some i =>
      obtain ⟨hi, h1, h2⟩ := h
      refine ⟨by simp; omega, by rw [List.getElem_append_left hi]; exact h1, fun j hj hlt => ?_⟩
      by_cases hjl : j < l.length
      · rw [List.getElem_append_left hjl]
        exact h2 j hjl hlt
      · have : j = l.length := by simp at hj; omega
        subst this
        simp
        exact fun e => hx e.symm
theorem shown_not {l : List (Nat × List UInt8)} {a : Nat} (h : ∀ x ∈ l, x.1 ≠ a) (b : List UInt8) : shownB a b l = b := by
  unfold shownB
  induction l generalizing b with
  | nil => rfl
  | cons x l ih =>
    rw [List.foldl_cons, if_neg (h x (by simp))]
    exact ih (fun y hy => h y (by simp [hy])) b
theorem shown_some {l : List (Nat × List UInt8)} {a i : Nat} (hi : i < l.length) (h1 : l[i].1 = a) (h2 : ∀ j (hj : j < l.length), i < j → l[j].1 ≠ a) (b : List UInt8) : shownB a b l = l[i].2 := by
  have e : l = l.take i ++ l[i] :: l.drop (i + 1) := by rw [List.getElem_cons_drop, List.take_append_drop]
  have h3 : shownB a b l = shownB a l[i].2 (l.drop (i + 1)) := by
    unfold shownB
    conv => lhs; rw [e]
    rw [List.foldl_append, List.foldl_cons, if_pos h1]
  rw [h3]
  refine shown_not (fun x hx => ?_) _
  obtain ⟨k, hk, rfl⟩ := List.getElem_of_mem hx
  rw [List.getElem_drop]
  exact h2 _ (by simp at hk; omega) (by omega)

/-- Those writes are kept that are chosen by their number, in order. -/
def settled (ch : Nat → Bool) (f : Nat → List UInt8) : Nat → List (Nat × List UInt8) → Nat → List UInt8
  | _, [] => f
  | i, a :: l => settled ch (if ch i = true then keep1 f a else f) (i + 1) l
theorem settled_some (ks : List Bool) : ∀ (l : List (Nat × List UInt8)) (f : Nat → List UInt8) (i : Nat), settled (fun i => ks.getD i false) f i l = keepSome ks f i l
  | [], _, _ => rfl
  | a :: l, f, i => by
    unfold settled keepSome
    exact settled_some ks l _ (i + 1)
theorem settled_all : ∀ (l : List (Nat × List UInt8)) (f : Nat → List UInt8) (i : Nat), settled (fun _ => true) f i l = keepAll f l
  | [], _, _ => rfl
  | a :: l, f, i => by
    unfold settled keepAll
    rw [if_pos rfl, settled_all l _ (i + 1)]
    rfl
theorem settled_take (ch : Nat → Bool) : ∀ (l : List (Nat × List UInt8)) (f : Nat → List UInt8) (i k : Nat) (h : k < l.length),
    settled ch f i (l.take (k + 1)) = if ch (i + k) = true then keep1 (settled ch f i (l.take k)) l[k] else settled ch f i (l.take k)
  | [], _, _, _, h => by cases h
  | a :: l, f, i, 0, _ => by
    simp [settled]
  | a :: l, f, i, k + 1, h => by
    have h' : k < l.length := by simpa using h
    have := settled_take ch l (if ch i = true then keep1 f a else f) (i + 1) k h'
    rw [show i + 1 + k = i + (k + 1) by omega] at this
    simpa [settled] using this
theorem length_settled {ch : Nat → Bool} {f : Nat → List UInt8} {l : List (Nat × List UInt8)} {i : Nat} (h : ∀ k, (f k).length = 512) (hl : ∀ a ∈ l, a.2.length = 512) : ∀ k, (settled ch f i l k).length = 512 := by
  induction l generalizing f i with
  | nil => exact h
  | cons a l ih =>
    unfold settled
    refine ih ?_ (fun x hx => hl x (by simp [hx]))
    split
    · exact length_keep1 h (hl a (by simp))
    · exact h

/-- Rows of one length, one behind the other. -/
theorem flat_get {α β : Type} (f : α → List β) (L : Nat) : ∀ (l : List α) (_ : ∀ x ∈ l, (f x).length = L) (a j : Nat) (ha : a < l.length) (_ : j < L), (l.flatMap f)[a * L + j]? = (f l[a])[j]?
  | [], _, _, _, ha, _ => by cases ha
  | x :: l, h, 0, j, _, hj => by
    rw [List.flatMap_cons, Nat.zero_mul, Nat.zero_add, List.getElem?_append_left (by rw [h x (by simp)]; exact hj)]
    rfl
  | x :: l, h, a + 1, j, ha, hj => by
    have hx := h x (by simp)
    rw [List.flatMap_cons, List.getElem?_append_right (by rw [hx, Nat.add_mul]; omega), hx, show (a + 1) * L + j - L = a * L + j by rw [Nat.add_mul]; omega,
      flat_get f L l (fun y hy => h y (by simp [hy])) a j (by simpa using ha) hj]
    rfl
theorem flat_length {α β : Type} (f : α → List β) (L : Nat) : ∀ (l : List α) (_ : ∀ x ∈ l, (f x).length = L), (l.flatMap f).length = l.length * L
  | [], _ => by simp
  | x :: l, h => by
    rw [List.flatMap_cons, List.length_append, h x (by simp), flat_length f L l (fun y hy => h y (by simp [hy])), List.length_cons, Nat.add_mul]
    omega

/-- A write that waits, as cells; all of them. -/
def wr1 (x : Nat × List UInt8) : List Value := .int .i64 (x.1 : Int) :: x.2.map B
def wrs (l : List (Nat × List UInt8)) : List Value := l.flatMap wr1
theorem length_wr1 {x : Nat × List UInt8} (h : x.2.length = 512) : (wr1 x).length = 513 := by simp [wr1, h]
theorem wrs_snoc (l : List (Nat × List UInt8)) (x : Nat × List UInt8) : wrs (l ++ [x]) = wrs l ++ wr1 x := by simp [wrs]
theorem length_wrs {l : List (Nat × List UInt8)} (h : ∀ x ∈ l, x.2.length = 512) : (wrs l).length = l.length * 513 := flat_length wr1 513 l (fun x hx => length_wr1 (h x hx))
theorem wrs_get {l : List (Nat × List UInt8)} (h : ∀ x ∈ l, x.2.length = 512) (a j : Nat) (ha : a < l.length) (hj : j < 513) : (wrs l)[a * 513 + j]? = (wr1 l[a])[j]? := flat_get wr1 513 l (fun x hx => length_wr1 (h x hx)) a j ha hj
/-- Sectors as cells. -/
def ims (f : Nat → List UInt8) (n : Nat) : List Value := (List.range n).flatMap fun a => (f a).map B
theorem length_ims {f : Nat → List UInt8} (h : ∀ k, (f k).length = 512) (n : Nat) : (ims f n).length = n * 512 := by
  unfold ims
  rw [flat_length (fun a => (f a).map B) 512 (List.range n) (fun x _ => by rw [List.length_map]; exact h x), List.length_range]
theorem ims_get {f : Nat → List UInt8} (h : ∀ k, (f k).length = 512) (n a j : Nat) (ha : a < n) (hj : j < 512) : (ims f n)[a * 512 + j]? = ((f a).map B)[j]? := by
  unfold ims
  rw [flat_get (fun a => (f a).map B) 512 (List.range n) (fun x _ => by rw [List.length_map]; exact h x) a j (by simpa using ha) hj, List.getElem_range]

theorem keep_setCells (b : Nat) : ∀ (vs : List Value) (o : Nat) (w : World), Keep (fun k => k = b) w (w.setCells b o vs)
  | [], _, w => Keep.refl _ w
  | v :: r, o, w => by
    have h1 : Keep (fun k => k = b) w (w.setCell ⟨b, o, none⟩ v) := ⟨rfl, rfl, rfl, by simp, fun k _ hn => Below.heap_setCell _ _ _ _ hn⟩
    exact h1.trans (keep_setCells b r (o + 1) _) (fun _ hx => Or.inl hx)
theorem keep_set (w : World) (b o : Nat) (v : Value) : Keep (fun k => k = b) w (w.setCell ⟨b, o, none⟩ v) := ⟨rfl, rfl, rfl, by simp, fun k _ hn => Below.heap_setCell _ _ _ _ hn⟩
theorem Keep.also {w w1 : World} {b : Nat} (h : Keep (fun k => k = b) w w1) (o : Nat) (v : Value) : Keep (fun k => k = b) w (w1.setCell ⟨b, o, none⟩ v) := h.trans (keep_set w1 b o v) (fun _ hx => Or.inl hx)
theorem size_setCells (b : Nat) : ∀ (vs : List Value) (o : Nat) (w : World), (w.setCells b o vs).heap.size = w.heap.size
  | [], _, w => rfl
  | v :: r, o, w => by
    show ((w.setCell ⟨b, o, none⟩ v).setCells b (o + 1) r).heap.size = _
    rw [size_setCells b r (o + 1), World.size_setCell]
theorem block_setCells (b : Nat) (t : TypeId) : ∀ (vs : List Value) (o : Nat) (w : World) (C : Array Value) (_ : w.heap[b]? = some (.cells C t (0, 0))), ∃ C', (w.setCells b o vs).heap[b]? = some (.cells C' t (0, 0)) ∧ C'.size = C.size
  | [], _, w, C, h => ⟨C, h, rfl⟩
  | v :: r, o, w, C, h => by
    obtain ⟨C', h1, h2⟩ := block_setCells b t r (o + 1) _ _ (heap_setCell_same w b o C _ v h)
    exact ⟨C', h1, by rw [h2, Array.size_setIfInBounds]⟩
theorem range_stays {w w' : World} {b o : Nat} {cs : List Value} (h : w.rangeAt b o cs) (hb : w'.heap[b]? = w.heap[b]?) : w'.rangeAt b o cs := fun j v hv => (World.cell?_of_block (w := w) (a := ⟨b, o + j, none⟩) hb).trans (h j v hv)
theorem there_of_block {w : World} {b o n : Nat} {C : Array Value} {t : TypeId} (h : w.heap[b]? = some (.cells C t (0, 0))) (hn : o + n ≤ C.size) : w.there b o n := fun j hj => by
  refine ⟨?_, frozen_of_block h⟩
  rw [cell_of_row w b (o + j) C t (0, 0) h, Array.getElem?_eq_getElem (by omega)]
  rfl
end Go.Proofs.Ytpkpjmebkikgdaa
