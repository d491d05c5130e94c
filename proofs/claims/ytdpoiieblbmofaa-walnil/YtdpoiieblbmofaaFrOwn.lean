/- What package frame does: mayBe, asBytes, Write, Count, part. -/
import Derived.Test.YtdpoiieblbmofaaFrPlain
import Derived.Test.YtdpoiieblbmofaaConcat
import Derived.Test.YtdpoiieblbmofaaWord
import Derived.Deep.RegionHeld3
namespace Go.Proofs.Ytdpoiieblbmofaa
open Go.RowKit

/-- A frame as a value: its numbers, and the slice of its data. -/
def fv (f : Fr) (s : Value) : Value := .agg #[.int .u64 (f.age : Int), .int .u64 (f.first : Int), .int .i64 f.of, s]

set_option maxRecDepth 20000 in
theorem mayBe_any (f : Fr) (s : Value) (w : World) (hs : Row w s f.data) :
    Calls Try.prog 98 #[fv f s] w fun e w' => e = .returned (.bool (mayF f)) ∧ Below w.heap.size w w' := by
  obtain ⟨q, c, l, rfl, hl⟩ := hs.shape
  unfold fv mayF
  rw [hl]
  clear hs hl
  generalize f.of = m
  by_cases h1 : 1 ≤ m
  · by_cases h2 : m ≤ 32
    · have e : (decide (1 ≤ m ∧ m ≤ 32 ∧ (l : Int) ≤ 440)) = decide ((l : Int) ≤ 440) := by simp [h1, h2]
      rw [e]
      go_enter Try.func98, Try.ntmps98
      go_wp2
      go_ret
      exact ⟨rfl, (Below.refl _ _).alloc (Nat.le_refl _) _⟩
    · have e : (decide (1 ≤ m ∧ m ≤ 32 ∧ (l : Int) ≤ 440)) = false := by simp [h2]
      rw [e]
      go_enter Try.func98, Try.ntmps98
      go_wp2
      go_ret
      exact ⟨rfl, (Below.refl _ _).alloc (Nat.le_refl _) _⟩
  · have e : (decide (1 ≤ m ∧ m ≤ 32 ∧ (l : Int) ≤ 440)) = false := by simp [h1]
    rw [e]
    go_enter Try.func98, Try.ntmps98
    go_wp2
    go_ret
    exact ⟨rfl, (Below.refl _ _).alloc (Nat.le_refl _) _⟩

/-- Four cells of a block. -/
def At4 (w : World) (g off : Nat) (a b c d : Value) : Prop := w.cell? ⟨g, off, none⟩ = some a ∧ w.cell? ⟨g, off + 1, none⟩ = some b ∧ w.cell? ⟨g, off + 2, none⟩ = some c ∧ w.cell? ⟨g, off + 3, none⟩ = some d
theorem At4.below {w w' : World} {g off : Nat} {a b c d : Value} (h : At4 w g off a b c d) (hb : Below w.heap.size w w') : At4 w' g off a b c d := by
  obtain ⟨h1, h2, h3, h4⟩ := h
  have hl := World.block_lt_of_cell? w _ h1
  exact ⟨(hb.cell (p := ⟨g, off, none⟩) hl).trans h1, (hb.cell (p := ⟨g, off + 1, none⟩) hl).trans h2, (hb.cell (p := ⟨g, off + 2, none⟩) hl).trans h3, (hb.cell (p := ⟨g, off + 3, none⟩) hl).trans h4⟩
theorem at4_new (w : World) (a b c d : Value) (t : TypeId) : At4 (w.alloc (.cells #[a, b, c, d] t)) w.heap.size 0 a b c d := by
  have h := heap_alloc_new w (.cells #[a, b, c, d] t)
  refine ⟨?_, ?_, ?_, ?_⟩ <;> (rw [cell_of_row _ _ _ _ _ (0, 0) h]; rfl)

theorem owns_base {w : World} {base base' e sz : Nat} {v : Value} {n : Nat} {xs : List Value} (h : w.ownsRow base' e sz v n xs) (hb : base ≤ base') : w.ownsRow base e sz v n xs :=
  ⟨h.1, h.2.elim Or.inl fun ⟨g, cap, cur, hv, hg, r⟩ => Or.inr ⟨g, cap, cur, hv, Nat.le_trans hb hg, r⟩⟩

/-- Four texts in a block. -/
theorem rows2_four (w : World) (t : TypeId) (a b c d : Value) (la lb lc ld : List UInt8) (ha : Row w a la) (hb : Row w b lb) (hc : Row w c lc) (hd : Row w d ld) :
    Rows2 (w.alloc (.cells #[a, b, c, d] t)) (.slice (some ⟨w.heap.size, 0, none⟩) 4 4) [la, lb, lc, ld] := by
  have hbel : Below w.heap.size w (w.alloc (.cells #[a, b, c, d] t)) := (Below.refl _ _).alloc (Nat.le_refl _) _
  obtain ⟨h1, h2, h3, h4⟩ := at4_new w a b c d t
  refine ⟨_, 4, rfl, by simp, by unfold maxLen; omega, by simp, Or.inr ⟨_, 0, rfl, fun j hj => ?_⟩⟩
  have hj' : j < 4 := by simpa using hj
  rw [Nat.zero_add]
  match j, hj' with
  | 0, _ => exact ⟨a, h1, ha.below hbel⟩
  | 1, _ => exact ⟨b, h2, hb.below hbel⟩
  | 2, _ => exact ⟨c, h3, hc.below hbel⟩
  | 3, _ => exact ⟨d, h4, hd.below hbel⟩

set_option maxRecDepth 20000 in
set_option maxHeartbeats 1000000 in
theorem asBytes_any (f : Fr) (s : Value) (w : World) (hok : f.ok) (hof : 0 ≤ f.of) (hs : Row w s f.data) (hroom : f.data.length ≤ 140737488350000) :
    Calls Try.prog 77 #[fv f s] w fun e w' => ∃ t, e = .returned t ∧ w'.ownsRow w.heap.size 5 1 t (bytesF f).length ((bytesF f).map B) ∧ Below w.heap.size w w' := by
  obtain ⟨o1, o2, o3, o4, o5⟩ := hok
  obtain ⟨p0, q0, l0, rfl, hl0⟩ := hs.shape
  clear hl0
  obtain ⟨m, hm⟩ := Int.eq_ofNat_of_zero_le hof
  have HV1 := hide (fun w => var_any f.age o1 w)
  have HV2 := hide (fun w => var_any f.first o2 w)
  have HV3 := hide (fun (x : Int) (hx : x = (m : Int)) w => (by rw [hx]; exact var_any m (by omega) w : Calls Try.prog 89 #[.int .u64 x] w fun e w' => ∃ s, e = .returned s ∧ w'.ownsRow w.heap.size 5 1 s (varF 9 m).length ((varF 9 m).map B) ∧ Below w.heap.size w w'))
  have hlb := length_bytesF f
  have hfl : [varF 9 f.age, varF 9 f.first, varF 9 m, f.data].flatten = bytesF f := by simp [bytesF, hm]
  unfold fv
  rw [hm]
  have hm63 : (m : Int) ≤ 9223372036854775807 := by omega
  obtain ⟨W0, hW0⟩ : ∃ W0, W0 = w.alloc (.cells #[.int .u64 (f.age : Int), .int .u64 (f.first : Int), .int .i64 (m : Int), .slice p0 l0 q0] 91) := ⟨_, rfl⟩
  have hb0 : Below w.heap.size w W0 := by rw [hW0]; exact (Below.refl _ _).alloc (Nat.le_refl _) _
  have hr0 := hs.below hb0
  have hc0 : At4 W0 w.heap.size 0 (.int .u64 (f.age : Int)) (.int .u64 (f.first : Int)) (.int .i64 (m : Int)) (.slice p0 l0 q0) := by rw [hW0]; exact at4_new _ _ _ _ _ _
  obtain ⟨c1, c2, c3, c4⟩ := hc0.below ((Below.refl _ W0).drew)
  have HR0 := hide (hr0.below ((Below.refl _ W0).drew))
  have HB0 := hide (hb0.trans (((Below.refl _ W0).drew).mono hb0.size))
  have HW0 := hide hW0
  have HC := hide (fun (wx : World) (t1 t2 t3 : Value) (r1 : Row wx t1 (varF 9 f.age)) (r2 : Row wx t2 (varF 9 f.first)) (r3 : Row wx t3 (varF 9 m)) (r4 : Row wx (.slice p0 l0 q0) f.data) => concat_any _ _ _ (rows2_four wx 27 t1 t2 t3 (.slice p0 l0 q0) _ _ _ _ r1 r2 r3 r4) (by rw [hfl]; omega))
  rw [hfl] at HC
  clear hs hb0 hr0 hc0 hW0 hlb hfl o1 o2 o5 hof hm hroom
  generalize f.age = A at *
  generalize f.first = C at *
  go_enter Try.func77, Try.ntmps77
  go_wp2_with fail
  rw [← unhide HW0]
  go_region_held3 (fun w' => w'.cell? ⟨w.heap.size, 0, none⟩ = some (.int .u64 (A : Int)) ∧ w'.cell? ⟨w.heap.size, 0 + 1, none⟩ = some (.int .u64 (C : Int)) ∧ w'.cell? ⟨w.heap.size, 0 + 2, none⟩ = some (.int .i64 (m : Int)) ∧ w'.cell? ⟨w.heap.size, 0 + 3, none⟩ = some (.slice p0 l0 q0)) (first | assumption | go_keep)
    (first
      | (go_at_call_of 89 (Value.int .u64 (A : Int)); refine Calls.mono (unhide HV1 _) ?_; rintro e w1 ⟨t1, rfl, x1, b1⟩; have r1 := row_of_owns x1; obtain ⟨p1, q1, l1, rfl, hl1⟩ := r1.shape; clear hl1 x1; have hk1 : At4 w1 w.heap.size 0 _ _ _ _ := At4.below ⟨c1, c2, c3, c4⟩ b1)
      | (go_at_call_of 89 (Value.int .u64 (C : Int)); refine Calls.mono (unhide HV2 _) ?_; rintro e w2 ⟨t2, rfl, x2, b2⟩; have r2 := row_of_owns x2; obtain ⟨p2, q2, l2, rfl, hl2⟩ := r2.shape; clear hl2 x2; have hk2 := hk1.below b2)
      | (go_at_call 89; refine Calls.mono (unhide HV3 _ (by rw [IntKind.wrap_u64]; omega) _) ?_; rintro e w3 ⟨t3, rfl, x3, b3⟩; have r3 := row_of_owns x3; obtain ⟨p3, q3, l3, rfl, hl3⟩ := r3.shape; clear hl3 x3; have hk3 := hk2.below b3)
      | (go_at_call 88; refine Calls.mono (unhide HC w3 _ _ _ ((r1.below b2).below b3) (r2.below b3) r3 ((((unhide HR0).below b1).below b2).below b3)) ?_; rintro e w4 ⟨t4, rfl, x4, b4⟩; have hk4 := (hk3.below ((Below.refl w3.heap.size w3).alloc (Nat.le_refl _) _)).below b4))
  go_wp2
  go_ret
  have B1 := (unhide HB0).trans (b1.mono (unhide HB0).size)
  have B2 := B1.trans (b2.mono B1.size)
  have B3 := B2.trans (b3.mono B2.size)
  have B4 := B3.alloc B3.size (.cells #[.slice p1 l1 q1, .slice p2 l2 q2, .slice p3 l3 q3, .slice p0 l0 q0] 27)
  refine ⟨t4, rfl, owns_base x4 B4.size, B4.trans (b4.mono B4.size)⟩

set_option maxRecDepth 20000 in
theorem count_any (n : Int) (w : World) (h1 : -9223372036854775808 ≤ n) (h2 : n ≤ 9223372036854775807) :
    Calls Try.prog 76 #[.int .i64 n] w fun e w' => e = .returned (.int .i64 (countN n)) ∧ w' = w := by
  unfold countN
  by_cases h0 : n < 0
  · rw [if_pos h0]
    go_enter Try.func76, Try.ntmps76
    go_wp2
    go_ret
    exact ⟨rfl, rfl⟩
  · rw [if_neg h0]
    by_cases h3 : n = 0
    · subst h3
      rw [if_pos rfl]
      go_enter Try.func76, Try.ntmps76
      go_wp2
      go_ret
      exact ⟨rfl, rfl⟩
    · rw [if_neg h3]
      go_enter Try.func76, Try.ntmps76
      go_wp2
      go_ret
      exact ⟨rfl, rfl⟩

theorem part_cells {w : World} {bs : List UInt8} {b off cap : Nat} (h : Row w (.slice (some ⟨b, off, none⟩) bs.length cap) bs) (i to : Nat) (hi : i * 440 ≤ bs.length) (hto : to = min (i * 440 + 440) bs.length) :
    Row w (.slice (some ⟨b, off + i * 440, none⟩) (to - i * 440) (to - i * 440)) (partN bs i) := by
  have hl := length_part bs i
  have hll : (partN bs i).length = to - i * 440 := by omega
  obtain ⟨a, c, e, h1, h2, h3, h4⟩ := h
  simp only [Value.slice.injEq, true_and] at e
  obtain ⟨rfl, rfl⟩ := e
  refine ⟨_, _, by rw [hll], by omega, by omega, by simp, ?_⟩
  rcases h4 with h4 | ⟨b', off', e, hc⟩
  · subst h4
    left
    simp [partN]
  · simp only [Option.some.injEq, Addr.mk.injEq, and_true] at e
    obtain ⟨rfl, rfl⟩ := e
    refine Or.inr ⟨b, off + i * 440, rfl, fun j hj => ?_⟩
    rw [Nat.add_assoc, hc _ (by omega)]
    simp [partN]
set_option maxRecDepth 20000 in
theorem part_any (s : Value) (bs : List UInt8) (i : Nat) (w : World) (hs : Row w s bs) (hi : i * 440 ≤ bs.length) (hroom : bs.length ≤ 140737488351232) :
    Calls Try.prog 78 #[s, .int .i64 i] w fun e w' => ∃ t, e = .returned t ∧ Row w t (partN bs i) ∧ w' = w := by
  obtain ⟨q, c, rfl, c1, c2, c3, _⟩ := id hs
  unfold maxLen at c2
  cases q with
  | none =>
    have hc := c3 rfl
    subst hc
    have hb : bs = [] := List.eq_nil_of_length_eq_zero (by omega)
    subst hb
    have hi0 : i = 0 := by simp at hi; omega
    subst hi0
    clear hs
    go_enter Try.func78, Try.ntmps78
    go_wp2
    go_ret
    exact ⟨_, rfl, by simpa [partN] using Row.nil w, rfl⟩
  | some ad =>
    obtain ⟨b, off, spot⟩ := ad
    by_cases h0 : bs = []
    · subst h0
      have hi0 : i = 0 := by simp at hi; omega
      subst hi0
      clear hs
      go_enter Try.func78, Try.ntmps78
      go_wp2
      go_ret
      exact ⟨_, rfl, ⟨_, 0, rfl, by simp [partN], by unfold maxLen; omega, by simp, Or.inl (by simp [partN])⟩, rfl⟩
    · obtain ⟨b', off', cap', e, _, _, _⟩ := hs.open h0
      simp only [Value.slice.injEq, Option.some.injEq, Addr.mk.injEq, true_and] at e
      obtain ⟨⟨rfl, rfl, rfl⟩, rfl⟩ := e
      have hl0 : (i : Int) * 440 ≤ bs.length := by omega
      have hl1 : (bs.length : Int) ≤ 9223372036854775807 := by omega
      have hl2 : (i : Int) ≤ 319857928070 := by omega
      by_cases hto : i * 440 + 440 ≤ bs.length
      · have HP := hide (part_cells hs i (i * 440 + 440) hi (by omega))
        have hto' : (i : Int) * 440 + 440 ≤ bs.length := by omega
        clear hs
        go_enter Try.func78, Try.ntmps78
        go_wp2
        go_ret
        refine ⟨_, rfl, ?_, rfl⟩
        exact unhide HP
      · have HP := hide (part_cells hs i bs.length hi (by omega))
        have hto' : ¬ (i : Int) * 440 + 440 ≤ bs.length := by omega
        clear hs
        go_enter Try.func78, Try.ntmps78
        go_wp2
        · rename_i h
          go_ret
          have e0 : partN bs i = [] := List.eq_nil_of_length_eq_zero (by rw [length_part]; omega)
          rw [e0]
          exact ⟨_, rfl, ⟨some ⟨b, off, none⟩, 0, rfl, Nat.le_refl _, by unfold maxLen; omega, fun _ => rfl, Or.inl rfl⟩, rfl⟩
        · go_ret
          exact ⟨_, rfl, unhide HP, rfl⟩
end Go.Proofs.Ytdpoiieblbmofaa
