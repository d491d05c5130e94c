/- Texts of ours, one behind the other: FrOwn, FrList, FrOwnL, FrOwn5, FrOwn6, FrOwn7, FrOwn8. -/
import Derived.Test.YtpkpjmebkikgdaaG1
import Derived.Test.YtpkpjmebkikgdaaG4
import Derived.Test.YtpkpjmebkikgdaaG5
import Derived.Test.YtpkpjmebkikgdaaG6
import Derived.Test.YtpkpjmebkikgdaaG10
import Derived.Deep.RegionHeld3
import Derived.BigQuiet
/- What package frame does: mayBe, asBytes, Write, Count, part. -/
namespace Go.Proofs.Ytpkpjmebkikgdaa
open Go.RowKit

/-- A frame as a value: its numbers, and the slice of its data. -/
def fv (f : Fr) (s : Value) : Value := .agg #[.int .u64 (f.age : Int), .int .u64 (f.first : Int), .int .i64 f.of, s]

set_option maxRecDepth 20000 in
theorem mayBe_any (f : Fr) (s : Value) (w : World) (hs : Row w s f.data) :
    Calls Try.prog 68 #[fv f s] w fun e w' => e = .returned (.bool (mayF f)) ∧ Below w.heap.size w w' := by
  obtain ⟨q, c, l, rfl, hl⟩ := hs.shape
  unfold fv mayF
  rw [hl]
  clear hs hl
  generalize f.of = m
  by_cases h1 : 1 ≤ m
  · by_cases h2 : m ≤ 32
    · have e : (decide (1 ≤ m ∧ m ≤ 32 ∧ (l : Int) ≤ 440)) = decide ((l : Int) ≤ 440) := by simp [h1, h2]
      rw [e]
      go_enter Try.func68, Try.ntmps68
      go_wp2
      go_ret
      exact ⟨rfl, (Below.refl _ _).alloc (Nat.le_refl _) _⟩
    · have e : (decide (1 ≤ m ∧ m ≤ 32 ∧ (l : Int) ≤ 440)) = false := by simp [h2]
      rw [e]
      go_enter Try.func68, Try.ntmps68
      go_wp2
      go_ret
      exact ⟨rfl, (Below.refl _ _).alloc (Nat.le_refl _) _⟩
  · have e : (decide (1 ≤ m ∧ m ≤ 32 ∧ (l : Int) ≤ 440)) = false := by simp [h1]
    rw [e]
    go_enter Try.func68, Try.ntmps68
    go_wp2
    go_ret
    exact ⟨rfl, (Below.refl _ _).alloc (Nat.le_refl _) _⟩

/-- Four cells of a block. -/
def At4 (w : World) (g off : Nat) (a b c d : Value) : Prop := w.cell? ⟨g, off, none⟩ = some a ∧ w.cell? ⟨g, off + 1, none⟩ = some b ∧ w.cell? ⟨g, off + 2, none⟩ = some c ∧ w.cell? ⟨g, off + 3, none⟩ = some d
theorem At4.below {w w' : World} {g off : Nat} {a b c d : Value} (h : At4 w g off a b c d) (hb : Below w.heap.size w w') : At4 w' g off a b c d := by
  obtain ⟨h1, h2, h3, h4⟩ := h
  have hl := World.block_lt_of_cell? w _ h1
  exact ⟨(hb.cell (p := ⟨g, off, none⟩) hl).trans h1, (hb.cell (p := ⟨g, off + 1, none⟩) hl).trans h2, (hb.cell (p := ⟨g, off + 2, none⟩) hl).trans h3, (hb.cell (p := ⟨g, off + 3, none⟩) hl).trans h4⟩
theorem at4_new (w : World) (a b c d : Value) (t : TypeId) : At4 (w.alloc (.cells #[a, b, c, d] t)) w.heap.size 0 a b c d := by
  have h := heap_alloc_new w (.cells #[a, b, c, d] t)
  refine ⟨?_, ?_, ?_, ?_⟩ <;> (rw [cell_of_row _ _ _ _ _ (0, 0) h]; rfl)

theorem owns_base {w : World} {base base' e sz : Nat} {v : Value} {n : Nat} {xs : List Value} (h : w.ownsRow base' e sz v n xs) (hb : base ≤ base') : w.ownsRow base e sz v n xs :=
  ⟨h.1, h.2.elim Or.inl fun ⟨g, cap, cur, hv, hg, r⟩ => Or.inr ⟨g, cap, cur, hv, Nat.le_trans hb hg, r⟩⟩

/-- Four texts in a block. -/
theorem rows2_four (w : World) (t : TypeId) (a b c d : Value) (la lb lc ld : List UInt8) (ha : Row w a la) (hb : Row w b lb) (hc : Row w c lc) (hd : Row w d ld) :
    Rows2 (w.alloc (.cells #[a, b, c, d] t)) (.slice (some ⟨w.heap.size, 0, none⟩) 4 4) [la, lb, lc, ld] := by
  have hbel : Below w.heap.size w (w.alloc (.cells #[a, b, c, d] t)) := (Below.refl _ _).alloc (Nat.le_refl _) _
  obtain ⟨h1, h2, h3, h4⟩ := at4_new w a b c d t
  refine ⟨_, 4, rfl, by simp, by unfold maxLen; omega, by simp, Or.inr ⟨_, 0, rfl, fun j hj => ?_⟩⟩
  have hj' : j < 4 := by simpa using hj
  rw [Nat.zero_add]
  match j, hj' with
  | 0, _ => exact ⟨a, h1, ha.below hbel⟩
  | 1, _ => exact ⟨b, h2, hb.below hbel⟩
  | 2, _ => exact ⟨c, h3, hc.below hbel⟩
  | 3, _ => exact ⟨d, h4, hd.below hbel⟩

set_option maxRecDepth 20000 in
set_option maxHeartbeats 1000000 in
theorem asBytes_any (f : Fr) (s : Value) (w : World) (hok : f.ok) (hof : 0 ≤ f.of) (hs : Row w s f.data) (hroom : f.data.length ≤ 140737488350000) :
    Calls Try.prog 49 #[fv f s] w fun e w' => ∃ t, e = .returned t ∧ w'.ownsRow w.heap.size 5 1 t (bytesF f).length ((bytesF f).map B) ∧ Below w.heap.size w w' := by
  obtain ⟨o1, o2, o3, o4, o5⟩ := hok
  obtain ⟨p0, q0, l0, rfl, hl0⟩ := hs.shape
  clear hl0
  obtain ⟨m, hm⟩ := Int.eq_ofNat_of_zero_le hof
  have HV1 := hide (fun w => var_any f.age o1 w)
  have HV2 := hide (fun w => var_any f.first o2 w)
  have HV3 := hide (fun (x : Int) (hx : x = (m : Int)) w => (by rw [hx]; exact var_any m (by omega) w : Calls Try.prog 59 #[.int .u64 x] w fun e w' => ∃ s, e = .returned s ∧ w'.ownsRow w.heap.size 5 1 s (varF 9 m).length ((varF 9 m).map B) ∧ Below w.heap.size w w'))
  have hlb := length_bytesF f
  have hfl : [varF 9 f.age, varF 9 f.first, varF 9 m, f.data].flatten = bytesF f := by simp [bytesF, hm]
  unfold fv
  rw [hm]
  have hm63 : (m : Int) ≤ 9223372036854775807 := by omega
  obtain ⟨W0, hW0⟩ : ∃ W0, W0 = w.alloc (.cells #[.int .u64 (f.age : Int), .int .u64 (f.first : Int), .int .i64 (m : Int), .slice p0 l0 q0] 72) := ⟨_, rfl⟩
  have hb0 : Below w.heap.size w W0 := by rw [hW0]; exact (Below.refl _ _).alloc (Nat.le_refl _) _
  have hr0 := hs.below hb0
  have hc0 : At4 W0 w.heap.size 0 (.int .u64 (f.age : Int)) (.int .u64 (f.first : Int)) (.int .i64 (m : Int)) (.slice p0 l0 q0) := by rw [hW0]; exact at4_new _ _ _ _ _ _
  obtain ⟨c1, c2, c3, c4⟩ := hc0.below ((Below.refl _ W0).drew)
  have HR0 := hide (hr0.below ((Below.refl _ W0).drew))
  have HB0 := hide (hb0.trans (((Below.refl _ W0).drew).mono hb0.size))
  have HW0 := hide hW0
  have HC := hide (fun (wx : World) (t1 t2 t3 : Value) (r1 : Row wx t1 (varF 9 f.age)) (r2 : Row wx t2 (varF 9 f.first)) (r3 : Row wx t3 (varF 9 m)) (r4 : Row wx (.slice p0 l0 q0) f.data) => concat_any _ _ _ (rows2_four wx 31 t1 t2 t3 (.slice p0 l0 q0) _ _ _ _ r1 r2 r3 r4) (by rw [hfl]; omega))
  rw [hfl] at HC
  clear hs hb0 hr0 hc0 hW0 hlb hfl o1 o2 o5 hof hm hroom
  generalize f.age = A at *
  generalize f.first = C at *
  go_enter Try.func49, Try.ntmps49
  go_wp2_with fail
  rw [← unhide HW0]
  go_region_held3 (fun w' => w'.cell? ⟨w.heap.size, 0, none⟩ = some (.int .u64 (A : Int)) ∧ w'.cell? ⟨w.heap.size, 0 + 1, none⟩ = some (.int .u64 (C : Int)) ∧ w'.cell? ⟨w.heap.size, 0 + 2, none⟩ = some (.int .i64 (m : Int)) ∧ w'.cell? ⟨w.heap.size, 0 + 3, none⟩ = some (.slice p0 l0 q0)) (first | assumption | go_keep)
    (first
      | (go_at_call_of 59 (Value.int .u64 (A : Int)); refine Calls.mono (unhide HV1 _) ?_; rintro e w1 ⟨t1, rfl, x1, b1⟩; have r1 := row_of_owns x1; obtain ⟨p1, q1, l1, rfl, hl1⟩ := r1.shape; clear hl1 x1; have hk1 : At4 w1 w.heap.size 0 _ _ _ _ := At4.below ⟨c1, c2, c3, c4⟩ b1)
      | (go_at_call_of 59 (Value.int .u64 (C : Int)); refine Calls.mono (unhide HV2 _) ?_; rintro e w2 ⟨t2, rfl, x2, b2⟩; have r2 := row_of_owns x2; obtain ⟨p2, q2, l2, rfl, hl2⟩ := r2.shape; clear hl2 x2; have hk2 := hk1.below b2)
      | (go_at_call 59; refine Calls.mono (unhide HV3 _ (by rw [IntKind.wrap_u64]; omega) _) ?_; rintro e w3 ⟨t3, rfl, x3, b3⟩; have r3 := row_of_owns x3; obtain ⟨p3, q3, l3, rfl, hl3⟩ := r3.shape; clear hl3 x3; have hk3 := hk2.below b3)
      | (go_at_call 58; refine Calls.mono (unhide HC w3 _ _ _ ((r1.below b2).below b3) (r2.below b3) r3 ((((unhide HR0).below b1).below b2).below b3)) ?_; rintro e w4 ⟨t4, rfl, x4, b4⟩; have hk4 := (hk3.below ((Below.refl w3.heap.size w3).alloc (Nat.le_refl _) _)).below b4))
  go_wp2
  go_ret
  have B1 := (unhide HB0).trans (b1.mono (unhide HB0).size)
  have B2 := B1.trans (b2.mono B1.size)
  have B3 := B2.trans (b3.mono B2.size)
  have B4 := B3.alloc B3.size (.cells #[.slice p1 l1 q1, .slice p2 l2 q2, .slice p3 l3 q3, .slice p0 l0 q0] 31)
  refine ⟨t4, rfl, owns_base x4 B4.size, B4.trans (b4.mono B4.size)⟩

set_option maxRecDepth 20000 in
theorem count_any (n : Int) (w : World) (h1 : -9223372036854775808 ≤ n) (h2 : n ≤ 9223372036854775807) :
    Calls Try.prog 48 #[.int .i64 n] w fun e w' => e = .returned (.int .i64 (countN n)) ∧ w' = w := by
  unfold countN
  by_cases h0 : n < 0
  · rw [if_pos h0]
    go_enter Try.func48, Try.ntmps48
    go_wp2
    go_ret
    exact ⟨rfl, rfl⟩
  · rw [if_neg h0]
    by_cases h3 : n = 0
    · subst h3
      rw [if_pos rfl]
      go_enter Try.func48, Try.ntmps48
      go_wp2
      go_ret
      exact ⟨rfl, rfl⟩
    · rw [if_neg h3]
      go_enter Try.func48, Try.ntmps48
      go_wp2
      go_ret
      exact ⟨rfl, rfl⟩

theorem part_cells {w : World} {bs : List UInt8} {b off cap : Nat} (h : Row w (.slice (some ⟨b, off, none⟩) bs.length cap) bs) (i to : Nat) (hi : i * 440 ≤ bs.length) (hto : to = min (i * 440 + 440) bs.length) :
    Row w (.slice (some ⟨b, off + i * 440, none⟩) (to - i * 440) (to - i * 440)) (partN bs i) := by
  have hl := length_part bs i
  have hll : (partN bs i).length = to - i * 440 := by omega
  obtain ⟨a, c, e, h1, h2, h3, h4⟩ := h
  simp only [Value.slice.injEq, true_and] at e
  obtain ⟨rfl, rfl⟩ := e
  refine ⟨_, _, by rw [hll], by omega, by omega, by simp, ?_⟩
  rcases h4 with h4 | ⟨b', off', e, hc⟩
  · subst h4
    left
    simp [partN]
  · simp only [Option.some.injEq, Addr.mk.injEq, and_true] at e
    obtain ⟨rfl, rfl⟩ := e
    refine Or.inr ⟨b, off + i * 440, rfl, fun j hj => ?_⟩
    rw [Nat.add_assoc, hc _ (by omega)]
    simp [partN]
set_option maxRecDepth 20000 in
theorem part_any (s : Value) (bs : List UInt8) (i : Nat) (w : World) (hs : Row w s bs) (hi : i * 440 ≤ bs.length) (hroom : bs.length ≤ 140737488351232) :
    Calls Try.prog 50 #[s, .int .i64 i] w fun e w' => ∃ t, e = .returned t ∧ Row w t (partN bs i) ∧ w' = w := by
  obtain ⟨q, c, rfl, c1, c2, c3, _⟩ := id hs
  unfold maxLen at c2
  cases q with
  | none =>
    have hc := c3 rfl
    subst hc
    have hb : bs = [] := List.eq_nil_of_length_eq_zero (by omega)
    subst hb
    have hi0 : i = 0 := by simp at hi; omega
    subst hi0
    clear hs
    go_enter Try.func50, Try.ntmps50
    go_wp2
    go_ret
    exact ⟨_, rfl, by simpa [partN] using Row.nil w, rfl⟩
  | some ad =>
    obtain ⟨b, off, spot⟩ := ad
    by_cases h0 : bs = []
    · subst h0
      have hi0 : i = 0 := by simp at hi; omega
      subst hi0
      clear hs
      go_enter Try.func50, Try.ntmps50
      go_wp2
      go_ret
      exact ⟨_, rfl, ⟨_, 0, rfl, by simp [partN], by unfold maxLen; omega, by simp, Or.inl (by simp [partN])⟩, rfl⟩
    · obtain ⟨b', off', cap', e, _, _, _⟩ := hs.open h0
      simp only [Value.slice.injEq, Option.some.injEq, Addr.mk.injEq, true_and] at e
      obtain ⟨⟨rfl, rfl, rfl⟩, rfl⟩ := e
      have hl0 : (i : Int) * 440 ≤ bs.length := by omega
      have hl1 : (bs.length : Int) ≤ 9223372036854775807 := by omega
      have hl2 : (i : Int) ≤ 319857928070 := by omega
      by_cases hto : i * 440 + 440 ≤ bs.length
      · have HP := hide (part_cells hs i (i * 440 + 440) hi (by omega))
        have hto' : (i : Int) * 440 + 440 ≤ bs.length := by omega
        clear hs
        go_enter Try.func50, Try.ntmps50
        go_wp2
        go_ret
        refine ⟨_, rfl, ?_, rfl⟩
        exact unhide HP
      · have HP := hide (part_cells hs i bs.length hi (by omega))
        have hto' : ¬ (i : Int) * 440 + 440 ≤ bs.length := by omega
        clear hs
        go_enter Try.func50, Try.ntmps50
        go_wp2
        · rename_i h
          go_ret
          have e0 : partN bs i = [] := List.eq_nil_of_length_eq_zero (by rw [length_part]; omega)
          rw [e0]
          exact ⟨_, rfl, ⟨some ⟨b, off, none⟩, 0, rfl, Nat.le_refl _, by unfold maxLen; omega, fun _ => rfl, Or.inl rfl⟩, rfl⟩
        · go_ret
          exact ⟨_, rfl, unhide HP, rfl⟩
end Go.Proofs.Ytpkpjmebkikgdaa

/- A slice of frames: its cells, its parts. Nothing here speaks of what the program does. -/
namespace Go.Proofs.Ytpkpjmebkikgdaa
open Go.RowKit

theorem slice_of_row {w : World} {s : Value} {bs : List UInt8} (h : Row w s bs) : ∃ p l c, s = .slice p l c := by
  obtain ⟨p, c, l, e, _⟩ := h.shape
  exact ⟨p, l, c, e⟩

/-- The four cells of a frame whose data is the slice p.2. -/
def frC (p : Fr × Value) : List Value := [.int .u64 (p.1.age : Int), .int .u64 (p.1.first : Int), .int .i64 p.1.of, p.2]
def cellsL (l : List (Fr × Value)) : List Value := l.flatMap frC
theorem cellsL_append (a b : List (Fr × Value)) : cellsL (a ++ b) = cellsL a ++ cellsL b := by simp [cellsL]
theorem length_cellsL (l : List (Fr × Value)) : (cellsL l).length = l.length * 4 := by
  induction l with
  | nil => rfl
  | cons p l ih => simp only [cellsL, List.flatMap_cons, List.length_append, List.length_cons] at *; rw [ih]; simp [frC]; omega
theorem cellsL_get : ∀ (l : List (Fr × Value)) (j : Nat) (h : j < l.length) (i : Nat), i < 4 → (cellsL l)[j * 4 + i]? = (frC l[j])[i]?
  | p :: l, 0, h, i, hi => by
    simp only [cellsL, List.flatMap_cons, List.getElem_cons_zero, Nat.zero_mul, Nat.zero_add]
    rw [List.getElem?_append_left (by simp [frC]; omega)]
  | p :: l, j + 1, h, i, hi => by
    have := cellsL_get l j (by simpa using h) i hi
    simp only [cellsL, List.flatMap_cons, List.getElem_cons_succ] at *
    rw [List.getElem?_append_right (by simp [frC]; omega), ← this]
    congr 1
    simp [frC]
    omega

/-- A slice value that reads as these frames, each with the slice of its data. -/
def FL (w : World) (v : Value) (l : List (Fr × Value)) : Prop :=
  (∃ (a : Option Addr) (cap : Nat), v = .slice a l.length cap ∧ l.length ≤ cap ∧ cap ≤ maxLen ∧ (a = none → cap = 0) ∧
    (l = [] ∨ ∃ b off, a = some ⟨b, off, none⟩ ∧ ∀ j u, (cellsL l)[j]? = some u → w.cell? ⟨b, off + j, none⟩ = some u)) ∧
  ∀ p ∈ l, Row w p.2 p.1.data ∧ p.1.ok
/-- The frames. -/
def frs (l : List (Fr × Value)) : List Fr := l.map Prod.fst

theorem FL.nil (w : World) : FL w (.slice none 0 0) [] := ⟨⟨none, 0, rfl, Nat.le_refl _, by unfold maxLen; omega, fun _ => rfl, Or.inl rfl⟩, by simp⟩
theorem FL.below {w w' : World} {v : Value} {l : List (Fr × Value)} (h : FL w v l) (hb : Below w.heap.size w w') : FL w' v l := by
  obtain ⟨⟨a, cap, e, h1, h2, h3, h4⟩, h5⟩ := h
  refine ⟨⟨a, cap, e, h1, h2, h3, ?_⟩, fun p hp => ⟨(h5 p hp).1.below hb, (h5 p hp).2⟩⟩
  rcases h4 with h4 | ⟨b, off, ha, hc⟩
  · exact Or.inl h4
  · exact Or.inr ⟨b, off, ha, fun j u hu => (hb.cell (World.block_lt_of_cell? w _ (hc j u hu))).trans (hc j u hu)⟩
theorem FL.shape {w : World} {v : Value} {l : List (Fr × Value)} (h : FL w v l) : ∃ (a : Option Addr) (cap : Nat), v = .slice a l.length cap ∧ l.length ≤ cap ∧ cap ≤ maxLen ∧ (a = none → cap = 0) := by
  obtain ⟨⟨a, cap, e, h1, h2, h3, h4⟩, h5⟩ := h
  exact ⟨a, cap, e, h1, h2, h3⟩
theorem at4_of {w : World} {b off : Nat} {l : List (Fr × Value)} (hc : ∀ j u, (cellsL l)[j]? = some u → w.cell? ⟨b, off + j, none⟩ = some u) (j : Nat) (hj : j < l.length) :
    At4 w b (off + j * 4) (.int .u64 (l[j].1.age : Int)) (.int .u64 (l[j].1.first : Int)) (.int .i64 l[j].1.of) l[j].2 := by
  have h0 := hc (j * 4 + 0) _ (cellsL_get l j hj 0 (by omega))
  have h1 := hc (j * 4 + 1) _ (cellsL_get l j hj 1 (by omega))
  have h2 := hc (j * 4 + 2) _ (cellsL_get l j hj 2 (by omega))
  have h3 := hc (j * 4 + 3) _ (cellsL_get l j hj 3 (by omega))
  exact ⟨h0, h1, h2, h3⟩
theorem FL.open {w : World} {v : Value} {l : List (Fr × Value)} (h : FL w v l) (hne : l ≠ []) :
    ∃ b off cap, v = .slice (some ⟨b, off, none⟩) l.length cap ∧ l.length ≤ cap ∧ cap ≤ maxLen ∧ (∀ j u, (cellsL l)[j]? = some u → w.cell? ⟨b, off + j, none⟩ = some u) ∧
      ∀ j (h : j < l.length), At4 w b (off + j * 4) (.int .u64 (l[j].1.age : Int)) (.int .u64 (l[j].1.first : Int)) (.int .i64 l[j].1.of) l[j].2 ∧ Row w l[j].2 l[j].1.data := by
  obtain ⟨⟨a, cap, e, h1, h2, h3, h4⟩, h5⟩ := h
  rcases h4 with h4 | ⟨b, off, rfl, hc⟩
  · exact absurd h4 hne
  · exact ⟨b, off, cap, e, h1, h2, hc, fun j hj => ⟨at4_of hc j hj, (h5 _ (List.getElem_mem hj)).1⟩⟩
theorem FL.of_owns {w : World} {base e : Nat} {v : Value} {l : List (Fr × Value)} (h : w.ownsRow base e 4 v l.length (cellsL l)) (hr : ∀ p ∈ l, Row w p.2 p.1.data ∧ p.1.ok) : FL w v l := by
  refine ⟨?_, hr⟩
  rcases h.2 with ⟨rfl, h2⟩ | ⟨g, cap, cur, rfl, hg, hh, h1, h2, h3, h4⟩
  · have : l = [] := List.eq_nil_of_length_eq_zero h2
    subst this
    exact (FL.nil w).1
  · refine ⟨_, cap, rfl, h1, h2, by simp, Or.inr ⟨g, 0, rfl, fun j u hu => ?_⟩⟩
    rw [Nat.zero_add, cell_of_row w g j cur _ (0, 0) hh]
    rw [← h4] at hu
    obtain ⟨hj, rfl⟩ := List.getElem?_eq_some_iff.1 hu
    simp only [List.length_take, Array.length_toList] at hj
    rw [List.getElem_take, Array.getElem_toList]
    exact Array.getElem?_eq_getElem (by omega)
end Go.Proofs.Ytpkpjmebkikgdaa

/- A slice of frames in memory of the call's own, to which frames are appended. -/
namespace Go.Proofs.Ytpkpjmebkikgdaa
open Go.RowKit

def FOwn (w : World) (base : Nat) (v : Value) (l : List (Fr × Value)) : Prop :=
  w.ownsRow base 72 4 v l.length (cellsL l) ∧ ∀ p ∈ l, p.1.ok ∧ Row w p.2 p.1.data ∧ ∀ b off n c, p.2 = .slice (some ⟨b, off, none⟩) n c → p.1.data ≠ [] → v.ownBlock ≠ some b
theorem FOwn.nil (w : World) (base : Nat) : FOwn w base (.slice none 0 0) [] := ⟨World.ownsRow_nil _ _ _ _, fun p hp => by cases hp⟩
theorem owns_below4 {w w' : World} {base e sz : Nat} {v : Value} {n : Nat} {xs : List Value} (h : w.ownsRow base e sz v n xs) (hb : Below w.heap.size w w') : w'.ownsRow base e sz v n xs := by
  refine ⟨h.1, ?_⟩
  rcases h.2 with h2 | ⟨g, cap, cur, hv, hg, hh, r⟩
  · exact Or.inl h2
  · exact Or.inr ⟨g, cap, cur, hv, hg, (hb.block g (Array.getElem?_eq_some_iff.1 hh).1).trans hh, r⟩
theorem FOwn.below {w w' : World} {base : Nat} {v : Value} {l : List (Fr × Value)} (h : FOwn w base v l) (hb : Below w.heap.size w w') : FOwn w' base v l :=
  ⟨owns_below4 h.1 hb, fun p hp => ⟨(h.2 p hp).1, (h.2 p hp).2.1.below hb, (h.2 p hp).2.2⟩⟩
theorem FOwn.base {w : World} {base base' : Nat} {v : Value} {l : List (Fr × Value)} (h : FOwn w base v l) (hb : base' ≤ base) : FOwn w base' v l := ⟨owns_base h.1 hb, h.2⟩
theorem FOwn.fl {w : World} {base : Nat} {v : Value} {l : List (Fr × Value)} (h : FOwn w base v l) : FL w v l := FL.of_owns h.1 fun p hp => ⟨(h.2 p hp).2.1, (h.2 p hp).1⟩
theorem row_block_lt {w : World} {t : Value} {bs : List UInt8} {b off n c : Nat} (h : Row w t bs) (e : t = .slice (some ⟨b, off, none⟩) n c) (hne : bs ≠ []) : b < w.heap.size := by
  obtain ⟨b', off', c', e', _, _, hc⟩ := h.open hne
  rw [e] at e'
  simp only [Value.slice.injEq, Option.some.injEq, Addr.mk.injEq, and_true] at e'
  obtain ⟨⟨rfl, rfl⟩, _, _⟩ := e'
  exact World.block_lt_of_cell? w _ (hc 0 (List.length_pos_iff.2 hne))
/-- More frames behind. -/
theorem FOwn.more {w1 W w2 : World} {base : Nat} {v v' : Value} {l m : List (Fr × Value)} (h : FOwn w1 base v l) (hW : Below w1.heap.size w1 W)
    (hm : ∀ p ∈ m, p.1.ok ∧ Row w1 p.2 p.1.data ∧ ∀ b off n c, p.2 = .slice (some ⟨b, off, none⟩) n c → p.1.data ≠ [] → v.ownBlock ≠ some b)
    (hown : w2.ownsRow base 72 4 v' (l.length + m.length) (cellsL l ++ cellsL m)) (hg : W.grownBy w2 v.ownBlock) (hv : v'.ownBlock = v.ownBlock ∨ v'.ownBlock = some W.heap.size) : FOwn w2 base v' (l ++ m) := by
  refine ⟨by rw [List.length_append, cellsL_append]; exact hown, fun p hp => ?_⟩
  obtain ⟨h1, h2, h3⟩ : p.1.ok ∧ Row w1 p.2 p.1.data ∧ ∀ b off n c, p.2 = .slice (some ⟨b, off, none⟩) n c → p.1.data ≠ [] → v.ownBlock ≠ some b := by
    rcases List.mem_append.1 hp with hp | hp
    · exact h.2 p hp
    · exact hm p hp
  refine ⟨h1, (h2.below hW).grown hg h3, fun b off n c e hne => ?_⟩
  rcases hv with hv | hv
  · rw [hv]; exact h3 b off n c e hne
  · rw [hv]
    have := row_block_lt h2 e hne
    have := hW.size
    intro e
    simp only [Option.some.injEq] at e
    omega
theorem oneCell_L (l : List (Fr × Value)) (h : ∀ p ∈ l, ∃ q n c, p.2 = .slice q n c) : ∀ u ∈ cellsL l, u.oneCell' = true := by
  intro u hu
  simp only [cellsL, List.mem_flatMap] at hu
  obtain ⟨p, hp, hu⟩ := hu
  obtain ⟨q, n, c, e⟩ := h p hp
  simp only [frC, List.mem_cons, List.not_mem_nil, or_false, e] at hu
  rcases hu with rfl | rfl | rfl | rfl <;> rfl
theorem length_frs (l : List (Fr × Value)) : (frs l).length = l.length := by simp [frs]
theorem frs_append (a b : List (Fr × Value)) : frs (a ++ b) = frs a ++ frs b := by simp [frs]
end Go.Proofs.Ytpkpjmebkikgdaa

/- What package frame does: Cut. -/
namespace Go.Proofs.Ytpkpjmebkikgdaa
open Go.RowKit

theorem Try.info31 : (Try.prog.info? 31).map (fun i => (i.zero, i.size, i.bytes)) = some (some (.slice none 0 0), 1, 24) := by kernel_rfl

/-- The first k parts lie in a block's cells, each in a block of its own, one behind the other. -/
def PartsAt (w : World) (g : Nat) (cur : Array Value) (blk : Nat → Nat) (ls : List (List UInt8)) (k : Nat) : Prop :=
  (∀ j (h : j < ls.length), j < k → ∃ c cells, cur[j]? = some (.slice (some ⟨blk j, 0, none⟩) ls[j].length c) ∧ Row w (.slice (some ⟨blk j, 0, none⟩) ls[j].length c) ls[j] ∧ w.heap[blk j]? = some (.cells cells 5 (0, 0)) ∧ g < blk j) ∧
  ∀ i j, i < j → j < k → blk i < blk j
def Parts (w : World) (lo : Nat) (v : Value) (ls : List (List UInt8)) : Prop :=
  ∃ (g : Nat) (cur : Array Value) (blk : Nat → Nat), v = .slice (some ⟨g, 0, none⟩) ls.length ls.length ∧ lo ≤ g ∧ w.heap[g]? = some (.cells cur 31 (0, 0)) ∧ cur.size = ls.length ∧ PartsAt w g cur blk ls ls.length

theorem PartsAt.stays {w w' : World} {g : Nat} {cur : Array Value} {blk : Nat → Nat} {ls : List (List UInt8)} {k : Nat} (h : PartsAt w g cur blk ls k) (hb : ∀ b, b < w.heap.size → g < b → w'.heap[b]? = w.heap[b]?) : PartsAt w' g cur blk ls k := by
  refine ⟨fun j hj hjk => ?_, h.2⟩
  obtain ⟨c, cells, h1, h2, h3, h4⟩ := h.1 j hj hjk
  have hlt : blk j < w.heap.size := (Array.getElem?_eq_some_iff.1 h3).1
  have he := hb _ hlt h4
  refine ⟨c, cells, h1, ?_, he.trans h3, h4⟩
  obtain ⟨a, cap, e, r1, r2, r3, r4⟩ := h2
  refine ⟨a, cap, e, r1, r2, r3, ?_⟩
  simp only [Value.slice.injEq, true_and] at e
  obtain ⟨rfl, rfl⟩ := e
  rcases r4 with r4 | ⟨b, off, e, hc⟩
  · exact Or.inl r4
  · simp only [Option.some.injEq, Addr.mk.injEq, and_true] at e
    obtain ⟨rfl, rfl⟩ := e
    exact Or.inr ⟨_, 0, rfl, fun i hi => (World.cell?_of_block (w := w) he).trans (hc i hi)⟩
theorem PartsAt.below {w w' : World} {g : Nat} {cur : Array Value} {blk : Nat → Nat} {ls : List (List UInt8)} {k : Nat} (h : PartsAt w g cur blk ls k) (hb : Below w.heap.size w w') : PartsAt w' g cur blk ls k := h.stays fun b hl _ => hb.block b hl
theorem Parts.below {w w' : World} {lo : Nat} {v : Value} {ls : List (List UInt8)} (h : Parts w lo v ls) (hb : Below w.heap.size w w') : Parts w' lo v ls := by
  obtain ⟨g, cur, blk, h1, h2, h3, h4, h5⟩ := h
  exact ⟨g, cur, blk, h1, h2, (hb.block g (Array.getElem?_eq_some_iff.1 h3).1).trans h3, h4, h5.below hb⟩
theorem Parts.base {w : World} {lo lo' : Nat} {v : Value} {ls : List (List UInt8)} (h : Parts w lo v ls) (hb : lo' ≤ lo) : Parts w lo' v ls := by
  obtain ⟨g, cur, blk, h1, h2, h⟩ := h
  exact ⟨g, cur, blk, h1, by omega, h⟩
theorem Parts.rows {w : World} {lo : Nat} {v : Value} {ls : List (List UInt8)} (h : Parts w lo v ls) (hl : ls.length ≤ maxLen) : Rows2 w v ls := by
  obtain ⟨g, cur, blk, rfl, h2, h3, h4, h5⟩ := h
  refine ⟨_, _, rfl, Nat.le_refl _, hl, by simp, Or.inr ⟨g, 0, rfl, fun j hj => ?_⟩⟩
  obtain ⟨c, cells, e1, e2, _, _⟩ := h5.1 j hj hj
  exact ⟨_, by rw [cell_of_row w g (0 + j) cur _ (0, 0) h3, Nat.zero_add]; exact e1, e2⟩

/-- One part more. -/
theorem PartsAt.more {w w' : World} {g : Nat} {cur : Array Value} {blk : Nat → Nat} {ls : List (List UInt8)} {k : Nat} (h : PartsAt w g cur blk ls k) (hk : k < ls.length) (hsz : k < cur.size) (hgw : g < w.heap.size) (hb : Below w.heap.size w w') {t : Value}
    (ho : w'.ownsRow w.heap.size 5 1 t ls[k].length (ls[k].map B)) (hne : 0 < ls[k].length) : ∃ blk', PartsAt w' g (cur.setIfInBounds k t) blk' ls (k + 1) := by
  have hrow := row_of_owns ho
  rcases ho.2 with ⟨_, e0⟩ | ⟨b, cap, cells, rfl, hb0, hh, _⟩
  · omega
  · obtain ⟨F, hFk, hFn⟩ : ∃ F : Nat → Nat, F k = b ∧ ∀ j, j ≠ k → F j = blk j := ⟨fun j => if j = k then b else blk j, by simp, fun j hj => by simp [hj]⟩
    refine ⟨F, fun j hj hjk => ?_, fun i j hij hjk => ?_⟩
    · by_cases hjk' : j = k
      · subst hjk'
        rw [hFk]
        exact ⟨cap, cells, Array.getElem?_setIfInBounds_self_of_lt hsz, hrow, hh, by omega⟩
      · obtain ⟨c, cells', e1, e2, e3, e4⟩ := (h.below hb).1 j hj (by omega)
        rw [hFn j hjk']
        exact ⟨c, cells', by rw [Array.getElem?_setIfInBounds_ne (by omega)]; exact e1, e2, e3, e4⟩
    · by_cases hjk' : j = k
      · subst hjk'
        rw [hFk, hFn i (by omega)]
        obtain ⟨c, cells', e1, e2, e3, e4⟩ := h.1 i (by omega) hij
        have := (Array.getElem?_eq_some_iff.1 e3).1
        omega
      · rw [hFn j hjk', hFn i (by omega)]
        exact h.2 i j hij (by omega)

theorem length_cutL (age first : Nat) (r : List UInt8) (h : ¬ 8192 < r.length) : ((cutL age first r).length : Int) = countN r.length := by
  unfold cutL
  rw [if_neg h, List.length_map, length_frames]
theorem cutL_get (age first : Nat) (r : List UInt8) (h : ¬ 8192 < r.length) (j : Nat) (hj : j < (cutL age first r).length) : (cutL age first r)[j] = bytesF ⟨age, first, countN r.length, partN r j⟩ := by
  unfold cutL at hj ⊢
  simp only [if_neg h, List.getElem_map, frames_get]
theorem bytesF_pos (f : Fr) : 0 < (bytesF f).length := by
  unfold bytesF
  have h1 := (varF_len 9 f.age).1
  simp only [List.length_append]
  omega

set_option maxRecDepth 20000 in
theorem cut_large (A C : Nat) (s : Value) (r : List UInt8) (w : World) (hs : Row w s r) (h : 8192 < r.length) :
    Calls Try.prog 30 #[.int .u64 (A : Int), .int .u64 (C : Int), s] w fun e w' => e = .returned (.tuple #[.slice none 0 0, .int .i64 4]) ∧ w' = w := by
  obtain ⟨q, c, l, rfl, hl⟩ := hs.shape
  have h' : (8192 : Int) < l := by omega
  clear hs
  go_enter Try.func30, Try.ntmps30
  go_wp2
  go_ret2
  exact ⟨rfl, rfl⟩

set_option maxRecDepth 20000 in
set_option maxHeartbeats 1000000 in
theorem cut_ok (A C : Nat) (hA : A < 18446744073709551616) (hC : C < 18446744073709551616) (s : Value) (r : List UInt8) (w : World) (hs : Row w s r) (h : ¬ 8192 < r.length) :
    Calls Try.prog 30 #[.int .u64 (A : Int), .int .u64 (C : Int), s] w fun e w' => ∃ v, e = .returned (.tuple #[v, .int .i64 0]) ∧ Parts w' w.heap.size v (cutL A C r) ∧ Below w.heap.size w w' := by
  obtain ⟨i0, hi, hz0, hz1, hz2⟩ := info_parts Try.info31
  have hn := length_cutL A C r h
  have hn1 := count_pos (n := r.length) (by omega)
  have hn2 := count_le (n := r.length) (by omega)
  obtain ⟨N, hN⟩ : ∃ N, N = (cutL A C r).length := ⟨_, rfl⟩
  rw [← hN] at hn
  have hcd : ∀ k, k < N → k * 440 ≤ r.length := by
    intro k hk
    have h1 : (k : Int) < countN r.length := by omega
    unfold countN at h1
    repeat' split at h1
    all_goals omega
  have HPT := hide (fun (k : Nat) (hk : k < N) w' (hb : Below w.heap.size w w') => part_any s r k w' (hs.below hb) (hcd k hk) (by omega))
  have HAS := hide (fun (k : Nat) (hk : k < N) (t : Value) w' (hr : Row w' t (partN r k)) => asBytes_any ⟨A, C, (N : Int), partN r k⟩ t w' ⟨hA, hC, by simp only; omega, by simp only; omega, by simp only [length_part]; omega⟩ (by simp only; omega) hr (by simp only [length_part]; omega))
  have HG := hide (fun (k : Nat) (hk : k < (cutL A C r).length) => cutL_get A C r h k hk)
  rw [← hn] at HG
  have HCN := hide (count_any (r.length : Int) w (by omega) (by omega))
  rw [← hn] at HCN
  unfold fv at HAS
  obtain ⟨q, c, l, rfl, hl⟩ := hs.shape
  rw [hl] at h HCN
  have h' : ¬ (8192 : Int) < l := by omega
  have hN1 : (1 : Int) ≤ N := by omega
  have hN2 : (N : Int) ≤ 19 := by omega
  have HN := hide hN
  clear hs hl hcd hn hn1 hn2 hN
  go_enter Try.func30, Try.ntmps30
  go_wp2_with fail
  refine Calls.mono (unhide HCN) ?_
  rintro e w0 ⟨rfl, rfl⟩
  go_wp2_with (at_make; refine wpList_make_full _ rfl _ _ 22 rfl w0.heap.size 31 i0 (.slice none 0 0) 1 Try.underlying22 hi hz0 hz1 .i64 .i64 (N : Int) (N : Int) N rfl rfl rfl rfl ?b2 ?b3 ?b4 ?_)
  case b2 => rw [hz2]; omega
  case b3 => unfold maxLen; omega
  case b4 => exact Nat.le_refl _
  intro w1 hown1 hgrow1
  have hb1 : Below w0.heap.size w0 w1 := (Below.refl _ _).grown hgrow1 (Nat.le_refl _) (fun k hk => by cases hk)
  obtain ⟨cur, hblk, hcs⟩ : ∃ cur : Array Value, w1.heap[w0.heap.size]? = some (.cells cur 31 (0, 0)) ∧ cur.size = N := by
    rcases hown1.2 with ⟨h', _⟩ | ⟨g', cap', cur, h', _, hh, _, _, hcs, htake⟩
    · simp at h'
    · simp only [Value.slice.injEq, Option.some.injEq, Addr.mk.injEq, and_true, true_and] at h'
      obtain ⟨rfl, rfl⟩ := h'
      exact ⟨cur, hh, by simpa using hcs⟩
  clear hown1 hgrow1
  go_wp2_with fail
  go_loopw [19] (fun i wr => ∃ (k : Nat) (cur : Array Value) (blk : Nat → Nat), k ≤ N ∧ i = .int .i64 k ∧ wr.heap[w0.heap.size]? = some (.cells cur 31 (0, 0)) ∧ cur.size = N ∧ Hid (PartsAt wr w0.heap.size cur blk (cutL A C r) k) ∧ Hid (Below w0.heap.size w0 wr)) (fun i _ => N - (intOf i).toNat)
  case atStart => exact ⟨0, cur, fun _ => 0, Nat.zero_le _, rfl, hblk, hcs, ⟨fun j hj hjk => absurd hjk (by omega), fun i j hij hjk => absurd hjk (by omega)⟩, hb1⟩
  case round =>
    obtain ⟨k, cur, blk, hk, rfl, hblk, hcs, hpa, hbel⟩ := hrel
    by_cases hlt : k < N
    · have hcell : wr.cell? ⟨w0.heap.size, k, none⟩ = some (cur[k]'(by omega)) := by
        rw [cell_of_row wr w0.heap.size k cur _ (0, 0) hblk]; exact Array.getElem?_eq_getElem (by omega)
      have hgw : w0.heap.size < wr.heap.size := World.block_lt_of_cell? wr _ hcell
      have HP1 := hide (unhide HPT k hlt wr (unhide hbel))
      have hkl : (k : Int) < N := by omega
      clear hcell
      go_wp2_with fail
      refine Calls.mono (unhide HP1) ?_
      rintro e w2 ⟨t, rfl, hr, rfl⟩
      have HA1 := hide (unhide HAS k hlt t w2 hr)
      obtain ⟨p2, q2, l2, rfl, _⟩ := hr.shape
      clear hr HP1
      go_wp2_with fail
      refine Calls.mono (unhide HA1) ?_
      rintro e w3 ⟨t3, rfl, x3, b3⟩
      have hblk3 := (b3.block _ hgw).trans hblk
      have hcell : w3.cell? ⟨w0.heap.size, k, none⟩ = some (cur[k]'(by omega)) := by
        rw [cell_of_row w3 w0.heap.size k cur _ (0, 0) hblk3]; exact Array.getElem?_eq_getElem (by omega)
      have hfz : w3.frozen? ⟨w0.heap.size, k, none⟩ = false := frozen_of_block hblk3
      have HX : Hid (w3.ownsRow w2.heap.size 5 1 t3 (bytesF ⟨A, C, (N : Int), partN r k⟩).length ((bytesF ⟨A, C, (N : Int), partN r k⟩).map B) ∧ Below w2.heap.size w2 w3) := ⟨x3, b3⟩
      have HB3 := hide ((unhide hbel).trans (b3.mono (unhide hbel).size))
      have HBK := hide hblk3
      obtain ⟨p3, q3, l3, rfl, _⟩ := (row_of_owns x3).shape
      clear x3 b3 HA1 hblk hblk3
      go_wp2
      go_roundw
      case rel =>
        obtain ⟨x3, b3⟩ := unhide HX
        have hkk : k < (cutL A C r).length := by rw [← unhide HN]; exact hlt
        have hg := unhide HG k hkk
        rw [← hg] at x3
        obtain ⟨blk', hp⟩ := (unhide hpa).more hkk (by omega) hgw b3 x3 (by rw [hg]; exact bytesF_pos _)
        refine ⟨k + 1, cur.setIfInBounds k _, blk', by omega, by go_num, heap_setCell_same w3 _ k cur _ _ (unhide HBK), by simpa using hcs, ?_, (unhide HB3).setCell (Nat.le_refl _) _⟩
        refine hp.stays fun b hl hgb => Below.heap_setCell _ _ _ _ (by show b ≠ w0.heap.size; omega)
      case measure => simp [intOf]; omega
    · have hkn : k = N := by omega
      subst hkn
      go_wp2
      go_ret2
      refine ⟨_, rfl, ⟨w0.heap.size, cur, blk, by rw [← unhide HN]; rfl, Nat.le_refl _, hblk, by rw [← unhide HN]; exact hcs, by rw [← unhide HN]; exact unhide hpa⟩, unhide hbel⟩
theorem cut_any (A C : Nat) (hA : A < 18446744073709551616) (hC : C < 18446744073709551616) (s : Value) (r : List UInt8) (w : World) (hs : Row w s r) :
    Calls Try.prog 30 #[.int .u64 (A : Int), .int .u64 (C : Int), s] w fun e w' => ∃ v, e = .returned (.tuple #[v, .int .i64 (cutE r)]) ∧ ((cutE r = 4 ∧ v = .slice none 0 0 ∧ cutL A C r = []) ∨ (cutE r = 0 ∧ Parts w' w.heap.size v (cutL A C r))) ∧ Below w.heap.size w w' := by
  by_cases h : 8192 < r.length
  · refine (cut_large A C s r w hs h).mono ?_
    rintro e w1 ⟨rfl, rfl⟩
    have e4 : cutE r = 4 := by unfold cutE; rw [if_pos h]
    exact ⟨_, by rw [e4], Or.inl ⟨e4, rfl, by unfold cutL; rw [if_pos h]⟩, Below.refl _ _⟩
  · refine (cut_ok A C hA hC s r w hs h).mono ?_
    rintro e w1 ⟨v, rfl, hp, hb⟩
    have e0 : cutE r = 0 := by unfold cutE; rw [if_neg h]
    exact ⟨_, by rw [e0], Or.inr ⟨e0, hp⟩, hb⟩
end Go.Proofs.Ytpkpjmebkikgdaa

/- What package frame does: alike, filled. -/
namespace Go.Proofs.Ytpkpjmebkikgdaa
open Go.RowKit

theorem beq_int (a b : Nat) : (((a : Int)) == (b : Int)) = decide (a = b) := by
  by_cases h : a = b
  · subst h; simp
  · rw [decide_eq_false h, beq_eq_false_iff_ne]; omega

set_option maxRecDepth 20000 in
theorem alike_any (a b : Fr) (s t : Value) (hs : ∃ p l c, s = .slice p l c) (ht : ∃ p l c, t = .slice p l c) (w : World) :
    Calls Try.prog 67 #[fv a s, fv b t] w fun e w' => e = .returned (.bool (alikeB a b)) ∧ Below w.heap.size w w' := by
  obtain ⟨p1, l1, c1, rfl⟩ := hs
  obtain ⟨p2, l2, c2, rfl⟩ := ht
  unfold fv alikeB
  obtain ⟨a1, a2, a3, _⟩ := a
  obtain ⟨b1, b2, b3, _⟩ := b
  simp only
  have hb : Below w.heap.size w ((w.alloc (.cells #[.int .u64 (a1 : Int), .int .u64 (a2 : Int), .int .i64 a3, .slice p1 l1 c1] 72)).alloc (.cells #[.int .u64 (b1 : Int), .int .u64 (b2 : Int), .int .i64 b3, .slice p2 l2 c2] 72)) := ((Below.refl _ _).alloc (Nat.le_refl _) _).alloc (by simp) _
  have HB := hide hb
  clear hb
  by_cases h1 : a1 = b1
  · subst h1
    have e1 : ((a1 : Int) == a1) = true := by simp
    by_cases h2 : a2 = b2
    · subst h2
      have e2 : ((a2 : Int) == a2) = true := by simp
      have e : decide (a1 = a1 ∧ a2 = a2 ∧ a3 = b3) = (a3 == b3) := by simp [Bool.beq_eq_decide_eq]
      rw [e]
      go_enter Try.func67, Try.ntmps67
      go_wp2
      go_ret
      exact ⟨rfl, unhide HB⟩
    · have e : decide (a1 = a1 ∧ a2 = b2 ∧ a3 = b3) = false := by simp [h2]
      rw [e]
      have e2 : ((a2 : Int) == b2) = false := by rw [beq_int, decide_eq_false h2]
      go_enter Try.func67, Try.ntmps67
      go_wp2
      go_ret
      exact ⟨rfl, unhide HB⟩
  · have e : decide (a1 = b1 ∧ a2 = b2 ∧ a3 = b3) = false := by simp [h1]
    rw [e]
    have e1 : ((a1 : Int) == b1) = false := by rw [beq_int, decide_eq_false h1]
    go_enter Try.func67, Try.ntmps67
    go_wp2
    go_ret
    exact ⟨rfl, unhide HB⟩

set_option maxRecDepth 20000 in
theorem filled_any (f : Fr) (s : Value) (i : Nat) (w : World) (hs : Row w s f.data) (h1 : -9223372036854775807 ≤ f.of) (hmx : f.of ≤ 9223372036854775807) :
    Calls Try.prog 69 #[fv f s, .int .i64 i] w fun e w' => e = .returned (.bool (filledB f i)) ∧ Below w.heap.size w w' := by
  obtain ⟨q, c, l, rfl, hl⟩ := hs.shape
  unfold fv filledB
  rw [hl]
  clear hs hl
  generalize f.of = m at *
  have hb : Below w.heap.size w (w.alloc (.cells #[.int .u64 (f.age : Int), .int .u64 (f.first : Int), .int .i64 m, .slice q l c] 72)) := (Below.refl _ _).alloc (Nat.le_refl _) _
  have HB := hide hb
  clear hb
  by_cases hi : (i : Int) < m - 1
  · rw [if_pos hi]
    have e : decide ((l : Int) = 440) = ((l : Int) == 440) := by simp [Bool.beq_eq_decide_eq]
    rw [e]
    go_enter Try.func69, Try.ntmps69
    go_wp2
    go_ret
    exact ⟨rfl, unhide HB⟩
  · rw [if_neg hi]
    by_cases h2 : m = 1
    · subst h2
      have e : decide ((1 : Int) = 1 ∨ 0 < (l : Int)) = true := by simp
      rw [e]
      go_enter Try.func69, Try.ntmps69
      go_wp2
      go_ret
      exact ⟨rfl, unhide HB⟩
    · have e : decide (m = 1 ∨ 0 < (l : Int)) = decide (0 < (l : Int)) := by simp [h2]
      have e2 : (m == 1) = false := by simp [h2]
      rw [e]
      go_enter Try.func69, Try.ntmps69
      go_wp2
      go_ret
      exact ⟨rfl, unhide HB⟩

theorem flat_take (l : List Fr) (k : Nat) (h : k < l.length) : flatF (l.take (k + 1)) = flatF (l.take k) ++ l[k].data := by
  unfold flatF
  rw [List.take_succ_eq_append_getElem h, List.map_append, List.flatten_append]
  simp
theorem headD_get (l : List Fr) (h : 0 < l.length) : l.headD zeroF = l[0] := by cases l with | nil => simp at h | cons x xs => rfl
theorem not_rec {l : List Fr} {k : Nat} (h : k < l.length) (hb : goodB l[k] (l.headD zeroF) k = false) : ¬ IsRec l := fun hr => by
  have := ((whole_iff l).2 hr).2.2.1 k h
  rw [hb] at this
  cases this

set_option maxRecDepth 20000 in
theorem whole_nil (w : World) (p : Option Addr) (c : Nat) : Calls Try.prog 54 #[.slice p 0 c] w fun e w' => e = .returned (.bool false) ∧ Below w.heap.size w w' := by
  go_enter Try.func54, Try.ntmps54
  go_wp2
  go_ret
  exact ⟨rfl, Below.refl _ _⟩

set_option maxRecDepth 20000 in
theorem whole_of (w : World) (b off n c : Nat) (A C m D : Value) (M : Int) (hm : m = .int .i64 M) (h4 : At4 w b off A C m D) (h0 : (0 : Int) < n) (hne : (n : Int) ≠ M) :
    Calls Try.prog 54 #[.slice (some ⟨b, off, none⟩) n c] w fun e w' => e = .returned (.bool false) ∧ Below w.heap.size w w' := by
  subst hm
  obtain ⟨c0, c1, c2, c3⟩ := h4
  have hz : ((n : Int) == 0) = false := by rw [beq_eq_false_iff_ne]; omega
  have hz1 : ((n : Int) == M) = false := by rw [beq_eq_false_iff_ne]; exact hne
  go_enter Try.func54, Try.ntmps54
  go_wp2
  go_ret
  exact ⟨rfl, Below.refl _ _⟩
end Go.Proofs.Ytpkpjmebkikgdaa

/- What package frame does: whole. -/
namespace Go.Proofs.Ytpkpjmebkikgdaa
open Go.RowKit

/-- Two times four cells. -/
def At8 (w : World) (g off g' off' : Nat) (a b c d a' b' c' d' : Value) : Prop := w.cell? ⟨g, off, none⟩ = some a ∧ w.cell? ⟨g, off + 1, none⟩ = some b ∧ w.cell? ⟨g, off + 2, none⟩ = some c ∧ w.cell? ⟨g, off + 3, none⟩ = some d ∧ w.cell? ⟨g', off', none⟩ = some a' ∧ w.cell? ⟨g', off' + 1, none⟩ = some b' ∧ w.cell? ⟨g', off' + 2, none⟩ = some c' ∧ w.cell? ⟨g', off' + 3, none⟩ = some d'
theorem At8.of {w : World} {g off g' off' : Nat} {a b c d a' b' c' d' : Value} (h : At4 w g off a b c d) (h' : At4 w g' off' a' b' c' d') : At8 w g off g' off' a b c d a' b' c' d' :=
  ⟨h.1, h.2.1, h.2.2.1, h.2.2.2, h'.1, h'.2.1, h'.2.2.1, h'.2.2.2⟩
theorem At8.below {w w' : World} {g off g' off' : Nat} {a b c d a' b' c' d' : Value} (h : At8 w g off g' off' a b c d a' b' c' d') (hb : Below w.heap.size w w') : At8 w' g off g' off' a b c d a' b' c' d' := by
  obtain ⟨h1, h2, h3, h4, k1, k2, k3, k4⟩ := h
  exact At8.of (At4.below ⟨h1, h2, h3, h4⟩ hb) (At4.below ⟨k1, k2, k3, k4⟩ hb)








/-- A region that draws its order, by a class of worlds that all its operations keep: one walk, in the order of the text. -/
theorem region_quiet {P : Program} {id : Nat} {Q : Exit → Act → World → Prop} {a : Act} {w : World} {l : List Oper} (C : World → Prop) (hm : P.follows .mixedOrders = true) (hB : Region.lexB .any l.toArray = true) (hC : C { w with drawn := w.drawn + 1 })
    (h : wpQuiet P l.toArray C (fun a' => ∀ w', C w' → Q .normal a' w') l a) : (Code.region id l.toArray true).wp P Q a w :=
  wp_region_quiet hm hB hC (by simpa using h)

set_option maxRecDepth 20000 in
set_option maxHeartbeats 4000000 in
theorem whole_any (v : Value) (l : List (Fr × Value)) (w : World) (hl : FL w v l) :
    Calls Try.prog 54 #[v] w fun e w' => e = .returned (.bool (decide (IsRec (frs l)))) ∧ Below w.heap.size w w' := by
  by_cases h0 : l = []
  · subst h0
    obtain ⟨a, cap, rfl, _⟩ := hl.shape
    rw [decide_eq_false (by intro h; exact h.1 rfl)]
    exact whole_nil w a cap
  have hpos : 0 < l.length := List.length_pos_iff.2 h0
  have hok : ∀ p ∈ l, p.1.ok := fun p hp => (hl.2 p hp).2
  obtain ⟨b, off, cap, rfl, hc1, hc2, _, hat⟩ := hl.open h0
  have hlen : (frs l).length = l.length := by simp [frs]
  have hget : ∀ j (h : j < l.length) (h' : j < (frs l).length), (frs l)[j] = l[j].1 := fun j h h' => by simp [frs]
  have hhd : (frs l).headD zeroF = l[0].1 := by rw [headD_get _ (by omega), hget 0 hpos]
  by_cases hof : (l.length : Int) = l[0].1.of
  · have hat0 := (hat 0 hpos).1
    rw [Nat.zero_mul, Nat.add_zero] at hat0
    obtain ⟨p0, l0, q0, hs0⟩ := slice_of_row (hat 0 hpos).2
    rw [hs0] at hat0
    have HAT := hide (fun w' (hb : Below w.heap.size w w') j (hj : j < l.length) => And.intro ((hat j hj).1.below hb) ((hat j hj).2.below hb))
    have HOK := hide hok
    have HGET := hide hget
    have HLEN := hide hlen
    clear hat hs0 hok hget
    obtain ⟨f0, hf0⟩ : ∃ f0 : Fr, f0 = l[0].1 := ⟨_, rfl⟩
    rw [← hf0] at hat0 hhd hof
    have HHD := hide hhd
    have HAT0 := hide (fun w' (hb : Below w.heap.size w w') => hat0.below hb)
    obtain ⟨d0, d1, d2, d3⟩ := hat0
    have HOF := hide hof
    rw [← hof] at d2
    have hz : ((l.length : Int) == 0) = false := by rw [beq_eq_false_iff_ne]; omega
    have hzz : ((l.length : Int) == l.length) = true := by simp
    have HGD : Hid (∀ k (h : k < (frs l).length), goodB (frs l)[k] f0 k = false → ¬ IsRec (frs l)) := fun k h hb => not_rec h (by rw [unhide HHD]; exact hb)
    unfold maxLen at hc2
    clear hhd hof hl hf0 hlen
    go_enter Try.func54, Try.ntmps54
    go_wp2_with fail
    clear d0 d1 d2 d3
    go_loopw [3, 20] (fun z i wr => ∃ k : Nat, k ≤ l.length ∧ i = .int .i64 k ∧ z = .int .i64 ((flatF ((frs l).take k)).length : Nat) ∧ Hid ((flatF ((frs l).take k)).length ≤ k * 440) ∧ Hid (∀ j (h : j < (frs l).length), j < k → goodB (frs l)[j] f0 j = true) ∧ Hid (k = 0 ∨ l.length ≤ 32) ∧ Hid (Below w.heap.size w wr)) (fun _ i _ => l.length - (intOf i).toNat)
    case atStart => exact ⟨0, Nat.zero_le _, rfl, by simp [flatF], by simp [flatF, Hid], fun j hj hj0 => absurd hj0 (by omega), Or.inl rfl, Below.refl _ _⟩
    case round =>
      obtain ⟨k, hk, rfl, rfl, hz440, hgood, h32, hbel⟩ := hrel
      by_cases hlt : k < l.length
      · obtain ⟨hatk, hrk⟩ := unhide HAT wr (unhide hbel) k hlt
        obtain ⟨pk, lk, qk, hsk⟩ := slice_of_row hrk
        obtain ⟨o1, o2, o3, o4, o5⟩ := unhide HOK l[k] (List.getElem_mem hlt)
        have hkf : k < (frs l).length := by rw [unhide HLEN]; exact hlt
        have hgk := unhide HGET k hlt hkf
        have hft := flat_take (frs l) k hkf
        have hgd := unhide HGD k hkf
        rw [hgk] at hft hgd
        rw [hsk] at hatk hrk
        have hlk : l[k].1.data.length = lk := by obtain ⟨a, c, e, _⟩ := hrk; simp only [Value.slice.injEq] at e; omega
        have hg1 : goodB l[k].1 f0 k = true → ∀ j (h : j < (frs l).length), j < k + 1 → goodB (frs l)[j] f0 j = true := fun hg j h hj => by
          by_cases hjk : j = k
          · subst hjk; rw [hgk]; exact hg
          · exact unhide hgood j h (by omega)
        generalize l[k].1 = f at *
        have hat8 := unhide HAT0 wr (unhide hbel)
        obtain ⟨W1, hW1⟩ : ∃ W1, W1 = wr.alloc (.cells #[.int .u64 (f.age : Int), .int .u64 (f.first : Int), .int .i64 f.of, .slice pk lk qk] 72) := ⟨_, rfl⟩
        have hb1 : Below wr.heap.size wr W1 := by rw [hW1]; exact (Below.refl _ _).alloc (Nat.le_refl _) _
        have hn4 : At4 W1 wr.heap.size 0 (.int .u64 (f.age : Int)) (.int .u64 (f.first : Int)) (.int .i64 f.of) (.slice pk lk qk) := by rw [hW1]; exact at4_new _ _ _ _ _ _
        have hbd : Below W1.heap.size W1 W1.drew := (Below.refl _ _).drew
        obtain ⟨CC, hCC⟩ : ∃ CC : World → Prop, CC = fun w' => At8 w' wr.heap.size 0 b off (.int .u64 (f.age : Int)) (.int .u64 (f.first : Int)) (.int .i64 f.of) (.slice pk lk qk) (.int .u64 (f0.age : Int)) (.int .u64 (f0.first : Int)) (.int .i64 f0.of) (.slice p0 l0 q0) ∧ Below w.heap.size w w' ∧ Row w' (.slice pk lk qk) f.data := ⟨_, rfl⟩
        have HC0 : Hid (CC { W1 with drawn := W1.drawn + 1 }) := by
          unfold Hid
          rw [hCC]
          exact ⟨At8.below (At8.of hn4 (hat8.below hb1)) hbd, ((unhide hbel).trans (hb1.mono (unhide hbel).size)).drew, (hrk.below hb1).below hbd⟩
        have HCC : Hid (∀ w', CC w' → At8 w' wr.heap.size 0 b off (.int .u64 (f.age : Int)) (.int .u64 (f.first : Int)) (.int .i64 f.of) (.slice pk lk qk) (.int .u64 (f0.age : Int)) (.int .u64 (f0.first : Int)) (.int .i64 f0.of) (.slice p0 l0 q0) ∧ Below w.heap.size w w' ∧ Row w' (.slice pk lk qk) f.data) := by unfold Hid; rw [hCC]; exact fun w' h => h
        have HUP : Hid (∀ w' w'', CC w' → Below w'.heap.size w' w'' → CC w'') := by
          unfold Hid
          rw [hCC]
          exact fun w' w'' h hb => ⟨h.1.below hb, h.2.1.trans (hb.mono h.2.1.size), h.2.2.below hb⟩
        clear hCC
        have HW1 := hide hW1
        have HAL := hide (fun w' (h : CC w') => (alike_any f f0 (.slice pk lk qk) (.slice p0 l0 q0) ⟨_, _, _, rfl⟩ ⟨_, _, _, rfl⟩ w').mono (fun e w'' (hx : e = .returned (.bool (alikeB f f0)) ∧ Below w'.heap.size w' w'') => And.intro hx.1 (unhide HUP w' w'' h hx.2)))
        have HMB := hide (fun w' (h : CC w') => (mayBe_any f (.slice pk lk qk) w' (unhide HCC w' h).2.2).mono (fun e w'' (hx : e = .returned (.bool (mayF f)) ∧ Below w'.heap.size w' w'') => And.intro hx.1 (unhide HUP w' w'' h hx.2)))
        obtain ⟨e0, e1, e2, e3⟩ := hatk
        have hkl : (k : Int) < l.length := by omega
        clear hat8 hb1 hn4 hbd hrk hsk hgk hW1
        have hz440' := unhide hz440
        clear hz440
        generalize hZ : (flatF ((frs l).take k)).length = Z at *
        unfold fv at HAL HMB
        cases ha : alikeB f f0 with
        | false =>
          have HNO := hide (hgd (by unfold goodB; rw [ha]; rfl))
          rw [ha] at HAL
          clear hgd hg1 hft hgood hZ hlk ha
          go_wp2_with fail
          rw [← unhide HW1]
          refine region_quiet CC (by kernel_rfl) (by kernel_rfl) (unhide HC0) ?_
          go_big_quiet_want
          refine ⟨.agg #[.int .u64 (f.age : Int), .int .u64 (f.first : Int), .int .i64 f.of, .slice pk lk qk], fun w' hw' => ?_, ?_⟩
          · obtain ⟨⟨c0, c1, c2, c3, c4, c5, c6, c7⟩, _⟩ := unhide HCC w' hw'
            go_simp
          simp only [Act.put, List.setIfInBounds_toArray, List.set_cons_zero, List.set_cons_succ]
          go_big_quiet_on
          go_big_quiet_want
          refine ⟨.slice (some ⟨b, off, none⟩) l.length cap, fun w' _ => ?_, ?_⟩
          · go_simp
          simp only [Act.put, List.setIfInBounds_toArray, List.set_cons_zero, List.set_cons_succ]
          go_big_quiet_on
          go_big_quiet_want
          refine ⟨.pointer (some ⟨b, off, none⟩), fun w' _ => ?_, ?_⟩
          · go_simp
          simp only [Act.put, List.setIfInBounds_toArray, List.set_cons_zero, List.set_cons_succ]
          go_big_quiet_on
          go_big_quiet_want
          refine ⟨.agg #[.int .u64 (f0.age : Int), .int .u64 (f0.first : Int), .int .i64 f0.of, .slice p0 l0 q0], fun w' hw' => ?_, ?_⟩
          · obtain ⟨⟨c0, c1, c2, c3, c4, c5, c6, c7⟩, _⟩ := unhide HCC w' hw'
            go_simp
          simp only [Act.put, List.setIfInBounds_toArray, List.set_cons_zero, List.set_cons_succ]
          go_big_quiet_on
          go_big_quiet_want
          refine ⟨.bool false, fun w' hw' => ?_, ?_⟩
          · go_simp
            exact unhide HAL w' hw'
          simp only [Act.put, List.setIfInBounds_toArray, List.set_cons_zero, List.set_cons_succ]
          go_big_quiet_on
          go_big_quiet_want
          refine ⟨.bool true, fun w' _ => ?_, ?_⟩
          · go_simp
          simp only [Act.put, List.setIfInBounds_toArray, List.set_cons_zero, List.set_cons_succ]
          go_big_quiet_on
          go_big_quiet_want
          refine ⟨.bool true, fun w' _ => ?_, ?_⟩
          · go_simp
          simp only [Act.put, List.setIfInBounds_toArray, List.set_cons_zero, List.set_cons_succ]
          go_big_quiet_on
          go_big_quiet_skip
          go_big_quiet_skip
          go_big_quiet_skip
          go_big_quiet_want
          refine ⟨.bool true, fun w' _ => ?_, ?_⟩
          · go_simp
          simp only [Act.put, List.setIfInBounds_toArray, List.set_cons_zero, List.set_cons_succ]
          go_big_quiet_on
          go_big_quiet_want
          refine ⟨.bool true, fun w' _ => ?_, ?_⟩
          · go_simp
          simp only [Act.put, List.setIfInBounds_toArray, List.set_cons_zero, List.set_cons_succ]
          go_big_quiet_on
          go_big_quiet_skip
          go_big_quiet_skip
          go_big_quiet_skip
          go_big_quiet_skip
          go_big_quiet_want
          refine ⟨.bool true, fun w' _ => ?_, ?_⟩
          · go_simp
          simp only [Act.put, List.setIfInBounds_toArray, List.set_cons_zero, List.set_cons_succ]
          go_big_quiet_on
          refine wpQuiet_nil ?_
          intro w2 hw2
          go_wp2
          go_ret
          exact ⟨by rw [decide_eq_false (unhide HNO)]; rfl, (unhide HCC w2 hw2).2.1⟩
        | true =>
          rw [ha] at HAL
          cases hm : mayF f with
          | false =>
            have HNO := hide (hgd (by unfold goodB; rw [ha, hm]; rfl))
            rw [hm] at HMB
            clear hgd hg1 hft hgood hZ hlk ha hm
            go_wp2_with fail
            rw [← unhide HW1]
            refine region_quiet CC (by kernel_rfl) (by kernel_rfl) (unhide HC0) ?_
            go_big_quiet_want
            refine ⟨.agg #[.int .u64 (f.age : Int), .int .u64 (f.first : Int), .int .i64 f.of, .slice pk lk qk], fun w' hw' => ?_, ?_⟩
            · obtain ⟨⟨c0, c1, c2, c3, c4, c5, c6, c7⟩, _⟩ := unhide HCC w' hw'
              go_simp
            simp only [Act.put, List.setIfInBounds_toArray, List.set_cons_zero, List.set_cons_succ]
            go_big_quiet_on
            go_big_quiet_want
            refine ⟨.slice (some ⟨b, off, none⟩) l.length cap, fun w' _ => ?_, ?_⟩
            · go_simp
            simp only [Act.put, List.setIfInBounds_toArray, List.set_cons_zero, List.set_cons_succ]
            go_big_quiet_on
            go_big_quiet_want
            refine ⟨.pointer (some ⟨b, off, none⟩), fun w' _ => ?_, ?_⟩
            · go_simp
            simp only [Act.put, List.setIfInBounds_toArray, List.set_cons_zero, List.set_cons_succ]
            go_big_quiet_on
            go_big_quiet_want
            refine ⟨.agg #[.int .u64 (f0.age : Int), .int .u64 (f0.first : Int), .int .i64 f0.of, .slice p0 l0 q0], fun w' hw' => ?_, ?_⟩
            · obtain ⟨⟨c0, c1, c2, c3, c4, c5, c6, c7⟩, _⟩ := unhide HCC w' hw'
              go_simp
            simp only [Act.put, List.setIfInBounds_toArray, List.set_cons_zero, List.set_cons_succ]
            go_big_quiet_on
            go_big_quiet_want
            refine ⟨.bool true, fun w' hw' => ?_, ?_⟩
            · go_simp
              exact unhide HAL w' hw'
            simp only [Act.put, List.setIfInBounds_toArray, List.set_cons_zero, List.set_cons_succ]
            go_big_quiet_on
            go_big_quiet_want
            refine ⟨.bool false, fun w' _ => ?_, ?_⟩
            · go_simp
            simp only [Act.put, List.setIfInBounds_toArray, List.set_cons_zero, List.set_cons_succ]
            go_big_quiet_on
            go_big_quiet_want
            refine ⟨.bool false, fun w' _ => ?_, ?_⟩
            · go_simp
            simp only [Act.put, List.setIfInBounds_toArray, List.set_cons_zero, List.set_cons_succ]
            go_big_quiet_on
            go_big_quiet_want
            refine ⟨.agg #[.int .u64 (f.age : Int), .int .u64 (f.first : Int), .int .i64 f.of, .slice pk lk qk], fun w' hw' => ?_, ?_⟩
            · obtain ⟨⟨c0, c1, c2, c3, c4, c5, c6, c7⟩, _⟩ := unhide HCC w' hw'
              go_simp
            simp only [Act.put, List.setIfInBounds_toArray, List.set_cons_zero, List.set_cons_succ]
            go_big_quiet_on
            go_big_quiet_want
            refine ⟨.bool false, fun w' hw' => ?_, ?_⟩
            · go_simp
              exact unhide HMB w' hw'
            simp only [Act.put, List.setIfInBounds_toArray, List.set_cons_zero, List.set_cons_succ]
            go_big_quiet_on
            go_big_quiet_want
            refine ⟨.bool true, fun w' _ => ?_, ?_⟩
            · go_simp
            simp only [Act.put, List.setIfInBounds_toArray, List.set_cons_zero, List.set_cons_succ]
            go_big_quiet_on
            go_big_quiet_want
            refine ⟨.bool true, fun w' _ => ?_, ?_⟩
            · go_simp
            simp only [Act.put, List.setIfInBounds_toArray, List.set_cons_zero, List.set_cons_succ]
            go_big_quiet_on
            go_big_quiet_want
            refine ⟨.bool true, fun w' _ => ?_, ?_⟩
            · go_simp
            simp only [Act.put, List.setIfInBounds_toArray, List.set_cons_zero, List.set_cons_succ]
            go_big_quiet_on
            go_big_quiet_skip
            go_big_quiet_skip
            go_big_quiet_skip
            go_big_quiet_skip
            go_big_quiet_want
            refine ⟨.bool true, fun w' _ => ?_, ?_⟩
            · go_simp
            simp only [Act.put, List.setIfInBounds_toArray, List.set_cons_zero, List.set_cons_succ]
            go_big_quiet_on
            refine wpQuiet_nil ?_
            intro w2 hw2
            go_wp2
            go_ret
            exact ⟨by rw [decide_eq_false (unhide HNO)]; rfl, (unhide HCC w2 hw2).2.1⟩
          | true =>
            rw [hm] at HMB
            obtain ⟨m1, m2, m3⟩ := (may_iff f).1 hm
            have HFI := hide (fun w' (h : CC w') => (filled_any f (.slice pk lk qk) k w' (unhide HCC w' h).2.2 (by omega) o4).mono (fun e w'' (hx : e = .returned (.bool (filledB f k)) ∧ Below w'.heap.size w' w'') => And.intro hx.1 (unhide HUP w' w'' h hx.2)))
            unfold fv at HFI
            cases hfi : filledB f k with
            | false =>
              have HNO := hide (hgd (by unfold goodB; rw [ha, hm, hfi]; rfl))
              rw [hfi] at HFI
              clear hgd hg1 hft hgood hZ hlk ha hm hfi
              go_wp2_with fail
              rw [← unhide HW1]
              refine region_quiet CC (by kernel_rfl) (by kernel_rfl) (unhide HC0) ?_
              go_big_quiet_want
              refine ⟨.agg #[.int .u64 (f.age : Int), .int .u64 (f.first : Int), .int .i64 f.of, .slice pk lk qk], fun w' hw' => ?_, ?_⟩
              · obtain ⟨⟨c0, c1, c2, c3, c4, c5, c6, c7⟩, _⟩ := unhide HCC w' hw'
                go_simp
              simp only [Act.put, List.setIfInBounds_toArray, List.set_cons_zero, List.set_cons_succ]
              go_big_quiet_on
              go_big_quiet_want
              refine ⟨.slice (some ⟨b, off, none⟩) l.length cap, fun w' _ => ?_, ?_⟩
              · go_simp
              simp only [Act.put, List.setIfInBounds_toArray, List.set_cons_zero, List.set_cons_succ]
              go_big_quiet_on
              go_big_quiet_want
              refine ⟨.pointer (some ⟨b, off, none⟩), fun w' _ => ?_, ?_⟩
              · go_simp
              simp only [Act.put, List.setIfInBounds_toArray, List.set_cons_zero, List.set_cons_succ]
              go_big_quiet_on
              go_big_quiet_want
              refine ⟨.agg #[.int .u64 (f0.age : Int), .int .u64 (f0.first : Int), .int .i64 f0.of, .slice p0 l0 q0], fun w' hw' => ?_, ?_⟩
              · obtain ⟨⟨c0, c1, c2, c3, c4, c5, c6, c7⟩, _⟩ := unhide HCC w' hw'
                go_simp
              simp only [Act.put, List.setIfInBounds_toArray, List.set_cons_zero, List.set_cons_succ]
              go_big_quiet_on
              go_big_quiet_want
              refine ⟨.bool true, fun w' hw' => ?_, ?_⟩
              · go_simp
                exact unhide HAL w' hw'
              simp only [Act.put, List.setIfInBounds_toArray, List.set_cons_zero, List.set_cons_succ]
              go_big_quiet_on
              go_big_quiet_want
              refine ⟨.bool false, fun w' _ => ?_, ?_⟩
              · go_simp
              simp only [Act.put, List.setIfInBounds_toArray, List.set_cons_zero, List.set_cons_succ]
              go_big_quiet_on
              go_big_quiet_want
              refine ⟨.bool false, fun w' _ => ?_, ?_⟩
              · go_simp
              simp only [Act.put, List.setIfInBounds_toArray, List.set_cons_zero, List.set_cons_succ]
              go_big_quiet_on
              go_big_quiet_want
              refine ⟨.agg #[.int .u64 (f.age : Int), .int .u64 (f.first : Int), .int .i64 f.of, .slice pk lk qk], fun w' hw' => ?_, ?_⟩
              · obtain ⟨⟨c0, c1, c2, c3, c4, c5, c6, c7⟩, _⟩ := unhide HCC w' hw'
                go_simp
              simp only [Act.put, List.setIfInBounds_toArray, List.set_cons_zero, List.set_cons_succ]
              go_big_quiet_on
              go_big_quiet_want
              refine ⟨.bool true, fun w' hw' => ?_, ?_⟩
              · go_simp
                exact unhide HMB w' hw'
              simp only [Act.put, List.setIfInBounds_toArray, List.set_cons_zero, List.set_cons_succ]
              go_big_quiet_on
              go_big_quiet_want
              refine ⟨.bool false, fun w' _ => ?_, ?_⟩
              · go_simp
              simp only [Act.put, List.setIfInBounds_toArray, List.set_cons_zero, List.set_cons_succ]
              go_big_quiet_on
              go_big_quiet_want
              refine ⟨.bool false, fun w' _ => ?_, ?_⟩
              · go_simp
              simp only [Act.put, List.setIfInBounds_toArray, List.set_cons_zero, List.set_cons_succ]
              go_big_quiet_on
              go_big_quiet_want
              refine ⟨.bool false, fun w' _ => ?_, ?_⟩
              · go_simp
              simp only [Act.put, List.setIfInBounds_toArray, List.set_cons_zero, List.set_cons_succ]
              go_big_quiet_on
              go_big_quiet_want
              refine ⟨.agg #[.int .u64 (f.age : Int), .int .u64 (f.first : Int), .int .i64 f.of, .slice pk lk qk], fun w' hw' => ?_, ?_⟩
              · obtain ⟨⟨c0, c1, c2, c3, c4, c5, c6, c7⟩, _⟩ := unhide HCC w' hw'
                go_simp
              simp only [Act.put, List.setIfInBounds_toArray, List.set_cons_zero, List.set_cons_succ]
              go_big_quiet_on
              go_big_quiet_want
              refine ⟨.int .i64 (k : Int), fun w' _ => ?_, ?_⟩
              · go_simp
              simp only [Act.put, List.setIfInBounds_toArray, List.set_cons_zero, List.set_cons_succ]
              go_big_quiet_on
              go_big_quiet_want
              refine ⟨.bool false, fun w' hw' => ?_, ?_⟩
              · go_simp
                exact unhide HFI w' hw'
              simp only [Act.put, List.setIfInBounds_toArray, List.set_cons_zero, List.set_cons_succ]
              go_big_quiet_on
              go_big_quiet_want
              refine ⟨.bool true, fun w' _ => ?_, ?_⟩
              · go_simp
              simp only [Act.put, List.setIfInBounds_toArray, List.set_cons_zero, List.set_cons_succ]
              go_big_quiet_on
              go_big_quiet_want
              refine ⟨.bool true, fun w' _ => ?_, ?_⟩
              · go_simp
              simp only [Act.put, List.setIfInBounds_toArray, List.set_cons_zero, List.set_cons_succ]
              go_big_quiet_on
              refine wpQuiet_nil ?_
              intro w2 hw2
              go_wp2
              go_ret
              exact ⟨by rw [decide_eq_false (unhide HNO)]; rfl, (unhide HCC w2 hw2).2.1⟩
            | true =>
              have HGOOD := hide (hg1 (by unfold goodB; rw [ha, hm, hfi]; rfl))
              rw [hfi] at HFI
              rw [hlk] at m3
              have HFT' : Hid ((flatF ((frs l).take (k + 1))).length = Z + lk) := by unfold Hid; rw [hft, List.length_append, hZ, hlk]
              have H32 : Hid (k + 1 = 0 ∨ l.length ≤ 32) := by
                refine Or.inr ?_
                have e : f.of = f0.of := (of_decide_eq_true ha).2.2
                have := unhide HOF
                omega
              have hzk : (Z : Int) ≤ 14080 := by
                rcases unhide h32 with h | h
                · omega
                · omega
              have hlk4 : (lk : Int) ≤ 440 := by omega
              clear hgd hg1 hft hgood hZ hlk ha hm hfi m1 m2 m3 h32
              go_wp2_with fail
              rw [← unhide HW1]
              refine region_quiet CC (by kernel_rfl) (by kernel_rfl) (unhide HC0) ?_
              go_big_quiet_want
              refine ⟨.agg #[.int .u64 (f.age : Int), .int .u64 (f.first : Int), .int .i64 f.of, .slice pk lk qk], fun w' hw' => ?_, ?_⟩
              · obtain ⟨⟨c0, c1, c2, c3, c4, c5, c6, c7⟩, _⟩ := unhide HCC w' hw'
                go_simp
              simp only [Act.put, List.setIfInBounds_toArray, List.set_cons_zero, List.set_cons_succ]
              go_big_quiet_on
              go_big_quiet_want
              refine ⟨.slice (some ⟨b, off, none⟩) l.length cap, fun w' _ => ?_, ?_⟩
              · go_simp
              simp only [Act.put, List.setIfInBounds_toArray, List.set_cons_zero, List.set_cons_succ]
              go_big_quiet_on
              go_big_quiet_want
              refine ⟨.pointer (some ⟨b, off, none⟩), fun w' _ => ?_, ?_⟩
              · go_simp
              simp only [Act.put, List.setIfInBounds_toArray, List.set_cons_zero, List.set_cons_succ]
              go_big_quiet_on
              go_big_quiet_want
              refine ⟨.agg #[.int .u64 (f0.age : Int), .int .u64 (f0.first : Int), .int .i64 f0.of, .slice p0 l0 q0], fun w' hw' => ?_, ?_⟩
              · obtain ⟨⟨c0, c1, c2, c3, c4, c5, c6, c7⟩, _⟩ := unhide HCC w' hw'
                go_simp
              simp only [Act.put, List.setIfInBounds_toArray, List.set_cons_zero, List.set_cons_succ]
              go_big_quiet_on
              go_big_quiet_want
              refine ⟨.bool true, fun w' hw' => ?_, ?_⟩
              · go_simp
                exact unhide HAL w' hw'
              simp only [Act.put, List.setIfInBounds_toArray, List.set_cons_zero, List.set_cons_succ]
              go_big_quiet_on
              go_big_quiet_want
              refine ⟨.bool false, fun w' _ => ?_, ?_⟩
              · go_simp
              simp only [Act.put, List.setIfInBounds_toArray, List.set_cons_zero, List.set_cons_succ]
              go_big_quiet_on
              go_big_quiet_want
              refine ⟨.bool false, fun w' _ => ?_, ?_⟩
              · go_simp
              simp only [Act.put, List.setIfInBounds_toArray, List.set_cons_zero, List.set_cons_succ]
              go_big_quiet_on
              go_big_quiet_want
              refine ⟨.agg #[.int .u64 (f.age : Int), .int .u64 (f.first : Int), .int .i64 f.of, .slice pk lk qk], fun w' hw' => ?_, ?_⟩
              · obtain ⟨⟨c0, c1, c2, c3, c4, c5, c6, c7⟩, _⟩ := unhide HCC w' hw'
                go_simp
              simp only [Act.put, List.setIfInBounds_toArray, List.set_cons_zero, List.set_cons_succ]
              go_big_quiet_on
              go_big_quiet_want
              refine ⟨.bool true, fun w' hw' => ?_, ?_⟩
              · go_simp
                exact unhide HMB w' hw'
              simp only [Act.put, List.setIfInBounds_toArray, List.set_cons_zero, List.set_cons_succ]
              go_big_quiet_on
              go_big_quiet_want
              refine ⟨.bool false, fun w' _ => ?_, ?_⟩
              · go_simp
              simp only [Act.put, List.setIfInBounds_toArray, List.set_cons_zero, List.set_cons_succ]
              go_big_quiet_on
              go_big_quiet_want
              refine ⟨.bool false, fun w' _ => ?_, ?_⟩
              · go_simp
              simp only [Act.put, List.setIfInBounds_toArray, List.set_cons_zero, List.set_cons_succ]
              go_big_quiet_on
              go_big_quiet_want
              refine ⟨.bool false, fun w' _ => ?_, ?_⟩
              · go_simp
              simp only [Act.put, List.setIfInBounds_toArray, List.set_cons_zero, List.set_cons_succ]
              go_big_quiet_on
              go_big_quiet_want
              refine ⟨.agg #[.int .u64 (f.age : Int), .int .u64 (f.first : Int), .int .i64 f.of, .slice pk lk qk], fun w' hw' => ?_, ?_⟩
              · obtain ⟨⟨c0, c1, c2, c3, c4, c5, c6, c7⟩, _⟩ := unhide HCC w' hw'
                go_simp
              simp only [Act.put, List.setIfInBounds_toArray, List.set_cons_zero, List.set_cons_succ]
              go_big_quiet_on
              go_big_quiet_want
              refine ⟨.int .i64 (k : Int), fun w' _ => ?_, ?_⟩
              · go_simp
              simp only [Act.put, List.setIfInBounds_toArray, List.set_cons_zero, List.set_cons_succ]
              go_big_quiet_on
              go_big_quiet_want
              refine ⟨.bool true, fun w' hw' => ?_, ?_⟩
              · go_simp
                exact unhide HFI w' hw'
              simp only [Act.put, List.setIfInBounds_toArray, List.set_cons_zero, List.set_cons_succ]
              go_big_quiet_on
              go_big_quiet_want
              refine ⟨.bool false, fun w' _ => ?_, ?_⟩
              · go_simp
              simp only [Act.put, List.setIfInBounds_toArray, List.set_cons_zero, List.set_cons_succ]
              go_big_quiet_on
              go_big_quiet_want
              refine ⟨.bool false, fun w' _ => ?_, ?_⟩
              · go_simp
              simp only [Act.put, List.setIfInBounds_toArray, List.set_cons_zero, List.set_cons_succ]
              go_big_quiet_on
              refine wpQuiet_nil ?_
              intro w2 hw2
              obtain ⟨⟨c0, c1, c2, c3, _⟩, B2, _⟩ := unhide HCC w2 hw2
              have HB2 := hide B2
              clear B2
              go_wp2
              go_roundw
              case rel => exact ⟨k + 1, by omega, by go_num, by rw [unhide HFT']; go_num, by unfold Hid; rw [unhide HFT']; omega, unhide HGOOD, unhide H32, unhide HB2⟩
              case measure => simp [intOf]; omega
      · have hkn : k = l.length := by omega
        subst hkn
        have hfl : (frs l).take l.length = frs l := List.take_of_length_le (by rw [unhide HLEN]; exact Nat.le_refl _)
        rw [hfl] at *
        have HEND : Hid (decide (IsRec (frs l)) = decide (((flatF (frs l)).length : Int) ≤ 8192)) := by
          unfold Hid
          refine decide_eq_decide.2 ⟨fun h => by have := h.2.1; omega, fun h => (whole_iff _).1 ⟨?_, ?_, ?_, by omega⟩⟩
          · intro e; have := unhide HLEN; rw [e] at this; simp at this; omega
          · rw [unhide HLEN, unhide HHD]; exact unhide HOF
          · intro i hi; rw [unhide HHD]; exact unhide hgood i hi (by rw [← unhide HLEN]; exact hi)
        generalize (flatF (frs l)).length = Z at *
        clear hgood hfl
        go_wp2
        go_ret
        exact ⟨by rw [unhide HEND]; rfl, unhide hbel⟩
  · have hat0 := (hat 0 hpos).1
    rw [Nat.zero_mul, Nat.add_zero] at hat0
    rw [decide_eq_false (by
      intro h
      have h2 := ((whole_iff _).2 h).2.1
      rw [hlen, hhd] at h2
      exact hof h2)]
    exact whole_of w b off l.length cap _ _ _ _ _ rfl hat0 (by omega) hof
end Go.Proofs.Ytpkpjmebkikgdaa

/- What package frame does: Join. -/
namespace Go.Proofs.Ytpkpjmebkikgdaa
open Go.RowKit

set_option maxRecDepth 20000 in
set_option maxHeartbeats 1000000 in
theorem join_any (v : Value) (l : List (Fr × Value)) (w : World) (hl : FL w v l) :
    Calls Try.prog 36 #[v] w fun e w' => ∃ t, e = .returned (.tuple #[t, .int .i64 (joinE (frs l))]) ∧ Mine w' w.heap.size t (joinB (frs l)) ∧ Below w.heap.size w w' := by
  obtain ⟨i0, hi, hz0, hz1, hz2⟩ := info_parts Try.info5
  have HWH := hide (whole_any v l w hl)
  unfold joinE joinB
  by_cases hr : IsRec (frs l)
  · rw [if_pos hr, if_pos hr]
    rw [decide_eq_true hr] at HWH
    have hne : l ≠ [] := by intro e; subst e; exact hr.1 rfl
    have hlen : (frs l).length = l.length := by simp [frs]
    have hle : (flatF (frs l)).length ≤ 8192 := hr.2.1
    have HTK : Hid (∀ k, (flatF ((frs l).take k)).length ≤ 8192) := by
      intro k
      have : flatF (frs l) = flatF ((frs l).take k) ++ flatF ((frs l).drop k) := by
        unfold flatF
        rw [← List.flatten_append, ← List.map_append, List.take_append_drop]
      rw [this, List.length_append] at hle
      omega
    have HFT := hide (fun k (h : k < (frs l).length) => flat_take (frs l) k h)
    have HGET : Hid (∀ j (h : j < l.length) (h' : j < (frs l).length), (frs l)[j] = l[j].1) := fun j h h' => by simp [frs]
    obtain ⟨b, off, cap, rfl, hc1, hc2, _, hat⟩ := hl.open hne
    have HAT := hide (fun w' (hb : Below w.heap.size w w') j (hj : j < l.length) => And.intro ((hat j hj).1.below hb) ((hat j hj).2.below hb))
    have HLEN := hide hlen
    have HALL : Hid (flatF ((frs l).take l.length) = flatF (frs l)) := by unfold Hid; rw [List.take_of_length_le (by omega)]
    unfold maxLen at hc2
    clear hat hl hr hlen hle
    go_enter Try.func36, Try.ntmps36
    go_wp2_with fail
    refine Calls.mono (unhide HWH) ?_
    rintro e w0 ⟨rfl, hb0⟩
    go_wp2_with fail
    go_loopw [4, 12] (fun t i wr => ∃ k : Nat, k ≤ l.length ∧ i = .int .i64 k ∧ wr.ownsRow w.heap.size 5 1 t (flatF ((frs l).take k)).length ((flatF ((frs l).take k)).map B) ∧ Hid (Below w.heap.size w wr)) (fun _ i _ => l.length - (intOf i).toNat)
    case atStart => exact ⟨0, Nat.zero_le _, rfl, by simpa [flatF] using World.ownsRow_nil _ _ _ _, hb0⟩
    case round =>
      obtain ⟨k, hk, rfl, hown, hbel⟩ := hrel
      by_cases hlt : k < l.length
      · obtain ⟨hatk, hrk⟩ := unhide HAT wr (unhide hbel) k hlt
        have hkf : k < (frs l).length := by rw [unhide HLEN]; exact hlt
        have hgk := unhide HGET k hlt hkf
        have hft := unhide HFT k hkf
        have hle := unhide HTK (k + 1)
        rw [hgk] at hft
        rw [hft, List.length_append] at hle
        have HF := hide hft
        obtain ⟨pk, lk, qk, hsk⟩ := slice_of_row hrk
        rw [hsk] at hatk hrk
        generalize l[k].1 = f at *
        obtain ⟨c0, c1, c2, c3⟩ := hatk
        have hkl : (k : Int) < l.length := by omega
        have hbA : Below wr.heap.size wr (wr.alloc (.cells #[.int .u64 (f.age : Int), .int .u64 (f.first : Int), .int .i64 f.of, .slice pk lk qk] 72)) := (Below.refl _ _).alloc (Nat.le_refl _) _
        have HRA := hide (hrk.below hbA)
        have HOA := hide (owns_below hown hbA)
        have hsz := (unhide hbel).size
        have HLT := hide (fun j hj => (hown.lt j hj).1)
        clear hft hgk hrk hbA hsk hown
        generalize flatF ((frs l).take k) = X at *
        go_wp2_with (at_builtin; refine wpList_append_row rfl _ _ 31 rfl w.heap.size 5 i0 (.int .u8 0) Try.underlying31 hi hz0 hz1 hz2 rfl _ _ _ rfl (unhide HOA) _ f.data rfl (unhide HRA) (by omega) (by simp; omega) ?_)
        intro v' w2 hown2 hgrow
        have hb2 : Below w.heap.size w w2 := ((unhide hbel).alloc hsz _).grown hgrow (by simp; omega) (fun j hj => unhide HLT j hj)
        have HB2 := hide hb2
        clear hgrow hb2 HLT HOA HRA c0 c1 c2 c3
        go_wp2
        go_roundw
        case rel => exact ⟨k + 1, by omega, by go_num, by rw [unhide HF, List.length_append, List.map_append]; exact hown2, unhide HB2⟩
        case measure => simp [intOf]; omega
      · have hkn : k = l.length := by omega
        subst hkn
        rw [unhide HALL] at hown
        go_wp2
        go_ret2
        exact ⟨_, rfl, mine_of_owns hown, unhide hbel⟩
  · rw [if_neg hr, if_neg hr]
    rw [decide_eq_false hr] at HWH
    clear hl hr
    go_enter Try.func36, Try.ntmps36
    go_wp2_with fail
    refine Calls.mono (unhide HWH) ?_
    rintro e w0 ⟨rfl, hb0⟩
    go_wp2
    go_ret2
    exact ⟨_, rfl, mine_nil _ _, hb0⟩
end Go.Proofs.Ytpkpjmebkikgdaa
