/- The landed package wal: a log in memory; what is asked of it without a change; what a nil log answers. -/
import Derived.Test.YtdpoiieblbmofaaWalPlain
import Derived.Test.YtdpoiieblbmofaaDiskOwn2
import Derived.Test.YtdpoiieblbmofaaLayNine
namespace Go.Proofs.Ytdpoiieblbmofaa
open Go.RowKit

/-- The cells of a log's variable. -/
def logC (dp : Value) (n : Int) (L : LG) (sv : Value) : Array Value :=
  #[dp, .int .i64 n, .int .i64 3, .int .i64 13, .int .i64 (lz n), .int .i64 (13 + lz n), .int .i64 (13 + 2 * lz n), .int .i64 (lz n), .int .i64 (13 + 3 * lz n), .int .i64 (lseg n),
    .int .u64 (L.age : Int), .int .u64 (L.first : Int), .int .u64 (L.next : Int), sv, .bool L.fallen]
def startC (p : Nat × Nat) : List Value := [.int .u64 (p.1 : Int), .int .u64 (p.2 : Int)]
def startsC (l : List (Nat × Nat)) : List Value := l.flatMap startC
theorem startsC_append (a b : List (Nat × Nat)) : startsC (a ++ b) = startsC a ++ startsC b := by simp [startsC]
theorem length_startsC (l : List (Nat × Nat)) : (startsC l).length = l.length * 2 := by
  induction l with
  | nil => rfl
  | cons p l ih => simp only [startsC, List.flatMap_cons, List.length_append, List.length_cons] at *; rw [ih]; simp [startC]; omega
theorem startsC_get : ∀ (l : List (Nat × Nat)) (j : Nat) (h : j < l.length) (i : Nat), i < 2 → (startsC l)[j * 2 + i]? = (startC l[j])[i]?
  | p :: l, 0, h, i, hi => by
    simp only [startsC, List.flatMap_cons, List.getElem_cons_zero, Nat.zero_mul, Nat.zero_add]
    rw [List.getElem?_append_left (by simp [startC]; omega)]
  | p :: l, j + 1, h, i, hi => by
    have := startsC_get l j (by simpa using h) i hi
    simp only [startsC, List.flatMap_cons, List.getElem_cons_succ] at *
    rw [List.getElem?_append_right (by simp [startC]; omega), ← this]
    congr 1
    simp [startC]
    omega

/-- A log in memory: its variable g, the slice of its records' beginnings; G is all of it. -/
structure LAt (G : Nat → Prop) (w : World) (g : Nat) (dp : Value) (n : Int) (sv : Value) (L : LG) : Prop where
  blk : w.heap[g]? = some (.cells (logC dp n L sv) 68 (0, 0))
  own : w.ownsRow 0 105 2 sv L.starts.length (startsC L.starts)
  fits : Fits n
  ok : L.Ok (lz n).toNat
  fg : G g
  fs : ∀ k, sv.ownBlock = some k → G k
  lt : ∀ k, G k → k < w.heap.size
def LRep (G : Nat → Prop) (w : World) (lp dp : Value) (n : Int) (L : LG) : Prop := ∃ g sv, lp = .pointer (some ⟨g, 0, none⟩) ∧ LAt G w g dp n sv L

theorem fifteen_cells {w : World} {g e : Nat} {a0 a1 a2 a3 a4 a5 a6 a7 a8 a9 a10 a11 a12 a13 a14 : Value} (h : w.heap[g]? = some (.cells #[a0, a1, a2, a3, a4, a5, a6, a7, a8, a9, a10, a11, a12, a13, a14] e (0, 0))) :
    (w.cell? ⟨g, 0, none⟩ = some a0 ∧ w.cell? ⟨g, 1, none⟩ = some a1 ∧ w.cell? ⟨g, 2, none⟩ = some a2 ∧ w.cell? ⟨g, 3, none⟩ = some a3 ∧ w.cell? ⟨g, 4, none⟩ = some a4 ∧ w.cell? ⟨g, 5, none⟩ = some a5 ∧ w.cell? ⟨g, 6, none⟩ = some a6 ∧ w.cell? ⟨g, 7, none⟩ = some a7 ∧ w.cell? ⟨g, 8, none⟩ = some a8 ∧ w.cell? ⟨g, 9, none⟩ = some a9) ∧
    w.cell? ⟨g, 10, none⟩ = some a10 ∧ w.cell? ⟨g, 11, none⟩ = some a11 ∧ w.cell? ⟨g, 12, none⟩ = some a12 ∧ w.cell? ⟨g, 13, none⟩ = some a13 ∧ w.cell? ⟨g, 14, none⟩ = some a14 ∧ ∀ j, w.frozen? ⟨g, j, none⟩ = false := by
  refine ⟨⟨?_, ?_, ?_, ?_, ?_, ?_, ?_, ?_, ?_, ?_⟩, ?_, ?_, ?_, ?_, ?_, fun j => by simp [World.frozen?, h]⟩
  all_goals (rw [cell_of_row w g _ _ e (0, 0) h]; rfl)

section
variable {G : Nat → Prop} {w w' : World} {g : Nat} {dp sv : Value} {n : Int} {L L' : LG}
theorem LAt.stays (h : LAt G w g dp n sv L) (hs : w.heap.size ≤ w'.heap.size) (hk : ∀ k, G k → w'.heap[k]? = w.heap[k]?) : LAt G w' g dp n sv L where
  blk := (hk g h.fg).trans h.blk
  own := row_stays h.own fun k e => hk k (h.fs k e)
  fits := h.fits
  ok := h.ok
  fg := h.fg
  fs := h.fs
  lt := fun k hG => Nat.lt_of_lt_of_le (h.lt k hG) hs
theorem LAt.below (h : LAt G w g dp n sv L) (hb : Below w.heap.size w w') : LAt G w' g dp n sv L := h.stays hb.size fun k hG => hb.block k (h.lt k hG)
theorem LAt.keep {F : Nat → Prop} (h : LAt G w g dp n sv L) (hk : Keep F w w') (ha : ∀ k, F k → ¬ G k) : LAt G w' g dp n sv L := h.stays hk.size fun k hG => hk.block k (h.lt k hG) (fun hF => ha k hF hG)
theorem LAt.sg (h : LAt G w g dp n sv L) : sv.ownBlock ≠ some g := fun e => by
  obtain ⟨cur, hh⟩ := row_kind h.own g e
  rw [h.blk] at hh
  cases hh
theorem LAt.shape (h : LAt G w g dp n sv L) : ∃ q c, sv = .slice q L.starts.length c ∧ L.starts.length ≤ c ∧ c ≤ maxLen := by
  rcases h.own.2 with ⟨h1, h2⟩ | ⟨k, cap, cur, h1, _, _, h2, h3, _⟩
  · exact ⟨none, 0, by rw [h1, h2], by omega, by unfold maxLen; omega⟩
  · exact ⟨_, cap, h1, h2, h3⟩
/-- The variable gets other cells; the slice stands. -/
theorem LAt.set (h : LAt G w g dp n sv L) (hb : w'.heap[g]? = some (.cells (logC dp n L' sv) 68 (0, 0))) (hs : w.heap.size ≤ w'.heap.size) (hk : ∀ k, k ≠ g → k < w.heap.size → w'.heap[k]? = w.heap[k]?) (hst : L'.starts = L.starts) (hok : L'.Ok (lz n).toNat) : LAt G w' g dp n sv L' where
  blk := hb
  own := by
    rw [hst]
    exact row_stays h.own fun k e => hk k (fun ek => h.sg (ek ▸ e)) (h.lt k (h.fs k e))
  fits := h.fits
  ok := hok
  fg := h.fg
  fs := h.fs
  lt := fun k hG => Nat.lt_of_lt_of_le (h.lt k hG) hs
end
theorem LRep.stays {G : Nat → Prop} {w w' : World} {lp dp : Value} {n : Int} {L : LG} (h : LRep G w lp dp n L) (hs : w.heap.size ≤ w'.heap.size) (hk : ∀ k, G k → w'.heap[k]? = w.heap[k]?) : LRep G w' lp dp n L := by
  obtain ⟨g, sv, hp, h⟩ := h
  exact ⟨g, sv, hp, h.stays hs hk⟩
theorem LRep.below {G : Nat → Prop} {w w' : World} {lp dp : Value} {n : Int} {L : LG} (h : LRep G w lp dp n L) (hb : Below w.heap.size w w') : LRep G w' lp dp n L := by
  obtain ⟨g, sv, hp, h⟩ := h
  exact ⟨g, sv, hp, h.below hb⟩
theorem LRep.keep {F G : Nat → Prop} {w w' : World} {lp dp : Value} {n : Int} {L : LG} (h : LRep G w lp dp n L) (hk : Keep F w w') (ha : ∀ k, F k → ¬ G k) : LRep G w' lp dp n L := by
  obtain ⟨g, sv, hp, h⟩ := h
  exact ⟨g, sv, hp, h.keep hk ha⟩
theorem LRep.lt {G : Nat → Prop} {w : World} {lp dp : Value} {n : Int} {L : LG} (h : LRep G w lp dp n L) : ∀ k, G k → k < w.heap.size := by
  obtain ⟨g, sv, hp, h⟩ := h
  exact h.lt

theorem wfirst_any (G : Nat → Prop) (lp dp : Value) (n : Int) (L : LG) (w : World) (h : LRep G w lp dp n L) :
    Calls Try.prog 17 #[lp] w fun e w' => e = .returned (.int .u64 (L.first : Int)) ∧ Below w.heap.size w w' := by
  obtain ⟨g, sv, rfl, R⟩ := h
  obtain ⟨_, _, c, _⟩ := fifteen_cells R.blk
  clear R
  go_enter Try.func17, Try.ntmps17
  go_wp2
  go_ret
  exact ⟨rfl, Below.refl _ _⟩
theorem wnext_any (G : Nat → Prop) (lp dp : Value) (n : Int) (L : LG) (w : World) (h : LRep G w lp dp n L) :
    Calls Try.prog 18 #[lp] w fun e w' => e = .returned (.int .u64 (L.next : Int)) ∧ Below w.heap.size w w' := by
  obtain ⟨g, sv, rfl, R⟩ := h
  obtain ⟨_, _, _, c, _⟩ := fifteen_cells R.blk
  clear R
  go_enter Try.func18, Try.ntmps18
  go_wp2
  go_ret
  exact ⟨rfl, Below.refl _ _⟩
theorem wleft_any (G : Nat → Prop) (lp dp : Value) (n : Int) (L : LG) (w : World) (h : LRep G w lp dp n L) :
    Calls Try.prog 11 #[lp] w fun e w' => e = .returned (.int .i64 (lz n - ((L.next - L.first : Nat) : Int))) ∧ Below w.heap.size w w' := by
  obtain ⟨g, sv, rfl, R⟩ := h
  obtain ⟨⟨_, _, _, _, c4, _⟩, _, c11, c12, _⟩ := fifteen_cells R.blk
  obtain ⟨z1, z2, _⟩ := lz_le n R.fits
  have h1 := R.ok.le
  have h2 := R.ok.ring
  have h3 := R.ok.next
  clear R
  generalize lz n = z at *
  have hw1 : IntKind.u64.wrap ((L.next : Int) - (L.first : Int)) = ((L.next - L.first : Nat) : Int) := by rw [IntKind.wrap_u64]; omega
  have hw2 : IntKind.i64.wrap (((L.next - L.first : Nat) : Int)) = ((L.next - L.first : Nat) : Int) := by rw [IntKind.wrap_i64]; omega
  have hw3 : IntKind.i64.wrap (z - ((L.next - L.first : Nat) : Int)) = z - ((L.next - L.first : Nat) : Int) := by rw [IntKind.wrap_i64]; omega
  generalize L.next - L.first = m at *
  go_enter Try.func11, Try.ntmps11
  go_wp2
  go_region
  go_wp2
  go_ret
  exact ⟨rfl, (Below.refl _ _).drew⟩
theorem wleast_any (G : Nat → Prop) (lp dp : Value) (n : Int) (L : LG) (w : World) (h : LRep G w lp dp n L) :
    Calls Try.prog 23 #[lp] w fun e w' => e = .returned (.int .u64 (L.least : Int)) ∧ Below w.heap.size w w' := by
  obtain ⟨g, sv, rfl, R⟩ := h
  obtain ⟨q, c, rfl, hc1, hc2⟩ := R.shape
  obtain ⟨_, c10, c11, c12, c13, _⟩ := fifteen_cells R.blk
  cases hs : L.starts with
  | nil =>
    have e : L.least = L.age := by unfold LG.least; rw [hs]
    rw [e]
    rw [hs] at c13
    clear R hs e hc1 hc2 c11 c12
    go_enter Try.func23, Try.ntmps23
    go_wp2
    go_ret
    exact ⟨rfl, Below.refl _ _⟩
  | cons p l =>
    have e : L.least = p.2 := by unfold LG.least; rw [hs]
    rw [e]
    have hown := R.own
    rw [hs] at c13 hc1 hown
    rcases hown.2 with ⟨_, h5⟩ | ⟨k, cap, cur, hv, _, hh, hnc, _⟩
    · simp at h5
    · cases hv
      have hcell := hown.cells (g := k) rfl 1 _ (startsC_get (p :: l) 0 (by simp) 1 (by omega))
      rw [Addr.add_lit, Nat.zero_add] at hcell
      simp only [List.getElem_cons_zero] at hcell
      have h0 : (0 : Int) < ((l.length + 1 : Nat) : Int) := by omega
      have h0' : ((((l.length + 1 : Nat) : Int)) == 0) = false := by rw [beq_eq_false_iff_ne]; omega
      simp only [List.length_cons] at c13
      generalize l.length + 1 = m at *
      clear R hs e hc1 hc2 hh hnc hown c10 c11 c12
      go_enter Try.func23, Try.ntmps23
      go_wp2
      go_ret
      exact ⟨rfl, Below.refl _ _⟩

/-- What a nil log answers. -/
theorem wfirst_nil (w : World) : Calls Try.prog 17 #[.pointer none] w fun e w' => e = .returned (.int .u64 0) ∧ Below w.heap.size w w' := by
  go_enter Try.func17, Try.ntmps17
  go_wp2
  go_ret
  exact ⟨rfl, Below.refl _ _⟩
theorem wnext_nil (w : World) : Calls Try.prog 18 #[.pointer none] w fun e w' => e = .returned (.int .u64 0) ∧ Below w.heap.size w w' := by
  go_enter Try.func18, Try.ntmps18
  go_wp2
  go_ret
  exact ⟨rfl, Below.refl _ _⟩
theorem wleast_nil (w : World) : Calls Try.prog 23 #[.pointer none] w fun e w' => e = .returned (.int .u64 0) ∧ Below w.heap.size w w' := by
  go_enter Try.func23, Try.ntmps23
  go_wp2
  go_ret
  exact ⟨rfl, Below.refl _ _⟩
theorem wleft_nil (w : World) : Calls Try.prog 11 #[.pointer none] w fun e w' => e = .returned (.int .i64 0) ∧ Below w.heap.size w w' := by
  go_enter Try.func11, Try.ntmps11
  go_wp2
  go_ret
  exact ⟨rfl, Below.refl _ _⟩
theorem wsync_nil (w : World) : Calls Try.prog 22 #[.pointer none] w fun e w' => e = .returned (.int .i64 2) ∧ Below w.heap.size w w' := by
  go_enter Try.func22, Try.ntmps22
  go_wp2
  go_ret
  exact ⟨rfl, Below.refl _ _⟩
theorem wfree_nil (t : Int) (w : World) : Calls Try.prog 19 #[.pointer none, .int .u64 t] w fun e w' => e = .returned (.int .i64 2) ∧ Below w.heap.size w w' := by
  go_enter Try.func19, Try.ntmps19
  go_wp2
  go_ret
  exact ⟨rfl, Below.refl _ _⟩
theorem wappend_nil (q : Option Addr) (l c : Nat) (w : World) : Calls Try.prog 21 #[.pointer none, .slice q l c] w fun e w' => e = .returned (.int .i64 2) ∧ Below w.heap.size w w' := by
  go_enter Try.func21, Try.ntmps21
  go_wp2
  go_ret
  exact ⟨rfl, Below.refl _ _⟩

/-- The log minds an ErrDown. -/
theorem wanswer_any (G : Nat → Prop) (lp dp : Value) (n : Int) (L : LG) (e0 : Int) (w : World) (h : LRep G w lp dp n L) :
    Calls Try.prog 56 #[lp, .int .i64 e0] w fun e w' => e = .returned (.int .i64 e0) ∧ LRep G w' lp dp n (if e0 = 40 then L.down else L) ∧ Keep G w w' := by
  have h0 := h
  obtain ⟨g, sv, rfl, R⟩ := h
  obtain ⟨_, _, _, _, _, c14, fz⟩ := fifteen_cells R.blk
  have f14 := fz 14
  by_cases he : e0 = 40
  · rw [if_pos he]
    subst he
    have HR : Hid (LAt G (w.setCell ⟨g, 14, none⟩ (.bool true)) g dp n sv L.down ∧ Keep G w (w.setCell ⟨g, 14, none⟩ (.bool true))) := by
      have b1 := heap_setCell_same w g 14 _ _ (.bool true) R.blk
      have hK := keep_set w g 14 (.bool true)
      exact ⟨R.set b1 hK.size (fun k h1 h2 => hK.block k h2 h1) rfl ⟨R.ok.age, R.ok.le, R.ok.ring, R.ok.next, R.ok.count, R.ok.turns, R.ok.sorted⟩, hK.weak (fun k e => e ▸ R.fg)⟩
    clear R fz h0
    go_enter Try.func56, Try.ntmps56
    go_wp2
    go_ret
    exact ⟨rfl, ⟨g, sv, rfl, (unhide HR).1⟩, (unhide HR).2⟩
  · rw [if_neg he]
    have he' : (e0 == 40) = false := by rw [beq_eq_false_iff_ne]; exact he
    have H0 := hide h0
    clear R fz h0 c14 f14
    go_enter Try.func56, Try.ntmps56
    go_wp2
    go_ret
    exact ⟨rfl, unhide H0, Keep.refl _ _⟩
end Go.Proofs.Ytdpoiieblbmofaa
