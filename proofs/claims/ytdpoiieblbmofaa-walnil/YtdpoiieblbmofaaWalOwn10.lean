/- The landed package wal: Open. -/
import Derived.Test.YtdpoiieblbmofaaWalOwn9
import Derived.Test.YtdpoiieblbmofaaWalOwn4
import Derived.Test.YtdpoiieblbmofaaLayEq
namespace Go.Proofs.Ytdpoiieblbmofaa
open Go.RowKit

theorem eq_ints (d : Nat) (x y : Int) (w : World) : (Op.equalIn (d + 1) 3 (.int .i64 x) (.int .i64 y)).run Try.prog w = .ok (x == y) w := by
  rw [run_equalIn_int w d _ .i64 .i64 x y Try.underlying3]
/-- Two layouts that differ in one number at most. -/
theorem lay_ne7 (a b c d e f g g' h i : Int) (w : World) : (binOp .neq 33 (.agg #[.int .i64 a, .int .i64 b, .int .i64 c, .int .i64 d, .int .i64 e, .int .i64 f, .int .i64 g, .int .i64 h, .int .i64 i]) (.agg #[.int .i64 a, .int .i64 b, .int .i64 c, .int .i64 d, .int .i64 e, .int .i64 f, .int .i64 g', .int .i64 h, .int .i64 i])).run Try.prog w = .ok (.bool (!(g == g'))) w := by
  rw [run_neq_struct]
  have hf : Try.prog.underlying 33 = some (.struct (Try.prog.fieldsOf 33)) := by kernel_rfl
  rw [show (10000 : Nat) = 9999 + 1 from rfl, run_equalIn_agg w 9999 _ _ _ hf Try.layHeld]
  have hfs : (Try.prog.fieldsOf 33) = match Try.prog.underlying 33 with | some (.struct fs) => fs | _ => #[] := by kernel_rfl
  rw [hfs, Try.underlying33]
  have e := fun x y w => eq_ints 9998 x y w
  have e2 := fun x y w => eq_two 9997 x y w
  have s := size_of_info Try.sizeTwo
  simp only [Op.eqFields]
  by_cases hg : g = g'
  · subst hg
    simp [part, e, e2, s]
  · have : (g == g') = false := by rw [beq_eq_false_iff_ne]; exact hg
    simp [part, e, e2, s, this]

theorem wopen_nil (lv : Value) (hlv : ∃ a b c d e f g h i : Int, lv = .agg #[.int .i64 a, .int .i64 b, .int .i64 c, .int .i64 d, .int .i64 e, .int .i64 f, .int .i64 g, .int .i64 h, .int .i64 i]) (o p A : Int) (w : World) :
    Calls Try.prog 14 #[.pointer none, lv, .int .u64 o, .int .u64 p, .int .u64 A] w fun e w' => e = .returned (.tuple #[.pointer none, .slice none 0 0, .int .i64 2]) ∧ Below w.heap.size w w' := by
  obtain ⟨a, b, c, d, e, f, g, h, i, rfl⟩ := hlv
  go_enter Try.func14, Try.ntmps14
  go_wp2
  go_ret3
  exact ⟨rfl, (Below.refl _ _).alloc (Nat.le_refl _) _⟩

/-- The log that an opening begins with. -/
def lg0 (o A : Nat) : LG := ⟨A, o, o, [], false⟩
theorem lg0_ok (o A R : Nat) (ho : o ≤ 4611686018427387904) (hA : A < 18446744073709551616) : (lg0 o A).Ok R :=
  ⟨hA, Nat.le_refl _, Nat.le_add_right _ _, by show o < _; omega, Nat.zero_le _, (fun p hp => by cases hp), List.Pairwise.nil⟩
def layCells (n : Int) : Array Value := #[.int .i64 n, .int .i64 3, .int .i64 13, .int .i64 (lz n), .int .i64 (13 + lz n), .int .i64 (13 + 2 * lz n), .int .i64 (lz n), .int .i64 (13 + 3 * lz n), .int .i64 (lseg n)]
/-- What an opening reads. -/
def opened (s : DK) (n : Int) (o p A : Nat) : List (List UInt8) × LG × Int := recallW (frameW (shW s n) (lz n).toNat o) A ((lz n).toNat + 1) p [] (lg0 o A)

set_option maxRecDepth 20000 in
set_option maxHeartbeats 1000000 in
/-- A layout that is another's. -/
theorem wopen_other (F : Nat → Prop) (dp : Value) (s : DK) (n x : Int) (o p A : Nat) (w : World) (hD : DRep F w dp s) (hn : (s.n : Int) = n) (hfit : Fits n) (hx : x ≠ lz n) :
    Calls Try.prog 14 #[dp, .agg #[.int .i64 n, .int .i64 3, .int .i64 13, .int .i64 (lz n), .int .i64 (13 + lz n), .int .i64 (13 + 2 * lz n), .int .i64 x, .int .i64 (13 + 3 * lz n), .int .i64 (lseg n)], .int .u64 (o : Int), .int .u64 (p : Int), .int .u64 (A : Int)] w fun e w' => e = .returned (.tuple #[.pointer none, .slice none 0 0, .int .i64 1]) ∧ Below w.heap.size w w' := by
  have hne := lay_ne7 n 3 13 (lz n) (13 + lz n) (13 + 2 * lz n) x (lz n) (13 + 3 * lz n) (lseg n)
  rw [show (x == lz n) = false by rw [beq_eq_false_iff_ne]; exact hx] at hne
  obtain ⟨W0, hW0⟩ : ∃ W0, W0 = w.alloc (.cells #[.int .i64 n, .int .i64 3, .int .i64 13, .int .i64 (lz n), .int .i64 (13 + lz n), .int .i64 (13 + 2 * lz n), .int .i64 x, .int .i64 (13 + 3 * lz n), .int .i64 (lseg n)] 33) := ⟨_, rfl⟩
  have hB0 : Below w.heap.size w W0 := by rw [hW0]; exact (Below.refl _ _).alloc (Nat.le_refl _) _
  have hX0 : W0.heap[w.heap.size]? = some (.cells #[.int .i64 n, .int .i64 3, .int .i64 13, .int .i64 (lz n), .int .i64 (13 + lz n), .int .i64 (13 + 2 * lz n), .int .i64 x, .int .i64 (13 + 3 * lz n), .int .i64 (lseg n)] 33 (0, 0)) := by rw [hW0]; exact heap_alloc_new w _
  have HSZ := hide (osize_any F dp s W0 (hD.stays hB0.size (fun k hk => hB0.block k (hD.lt k hk))))
  rw [hn] at HSZ
  have HPN := hide (fun w' => oplan_any n w')
  obtain ⟨dg, hdg⟩ : ∃ dg, dp = .pointer (some dg) := hD.ptr
  subst hdg
  rw [(plan_fits hfit).1, (plan_fits hfit).2] at HPN
  unfold layV at HPN
  have HW0 := hide hW0
  have HX0 := hide hX0
  have HB0 := hide hB0
  have hzb := lz_le n hfit
  generalize lz n = z at *
  generalize lseg n = m at *
  clear hW0 hX0 hB0 hD hn hfit hx hzb
  go_enter Try.func14, Try.ntmps14
  go_wp2_with fail
  rw [← unhide HW0]
  refine Calls.mono (unhide HSZ) ?_
  rintro e w1 ⟨rfl, b1⟩
  have HB1 := hide ((unhide HB0).trans (b1.mono (unhide HB0).size))
  have HX1 := hide ((b1.block w.heap.size (Array.getElem?_eq_some_iff.1 (unhide HX0)).1).trans (unhide HX0))
  clear b1 HB0 HX0 HSZ
  go_wp2_with fail
  refine Calls.mono (unhide HPN _) ?_
  rintro e w2 ⟨rfl, b2⟩
  have HB2 := hide ((unhide HB1).trans (b2.mono (unhide HB1).size))
  have hX2 := (b2.block w.heap.size (Array.getElem?_eq_some_iff.1 (unhide HX1)).1).trans (unhide HX1)
  obtain ⟨c0, c1, c2, c3, c4, c5, c6, c7, c8⟩ := nine_cells hX2
  have hnl : w.heap.size < w2.heap.size := World.block_lt_of_cell? w2 _ c0
  have hnw : ¬ w2.heap.size = w.heap.size := by omega
  have hnw' : ¬ w.heap.size = w2.heap.size := by omega
  clear b2 HB1 HX1 HPN hX2
  go_wp2_with fail
  go_ret3
  exact ⟨rfl, (unhide HB2).alloc (unhide HB2).size _⟩

/-- What Open answers, where the layout and the numbers are right. -/
def OpenR (s : DK) (n : Int) (o p A : Nat) (dp : Value) (w : World) (e : Ending) (w' : World) : Prop :=
  if s.fell = true then e = .returned (.tuple #[.pointer none, .slice none 0 0, .int .i64 40])
  else if (opened s n o p A).2.2 ≠ 0 then e = .returned (.tuple #[.pointer none, .slice none 0 0, .int .i64 (opened s n o p A).2.2])
  else ∃ lp v G H, e = .returned (.tuple #[lp, v, .int .i64 0]) ∧ RecsAt H w' v (opened s n o p A).1 ∧ LRep G w' lp dp n (opened s n o p A).2.1 ∧ (∀ k, H k → w.heap.size ≤ k) ∧ (∀ k, G k → w.heap.size ≤ k) ∧ ∀ k, H k → ¬ G k

theorem lg0_at (w : World) (dp : Value) (n : Int) (o A : Nat) (hfit : Fits n) (ho : o ≤ 4611686018427387904) (hA : A < 18446744073709551616) :
    LRep (fun k => k = w.heap.size) (w.alloc (.cells (logC dp n (lg0 o A) (.slice none 0 0)) 68)) (.pointer (some ⟨w.heap.size, 0, none⟩)) dp n (lg0 o A) :=
  ⟨w.heap.size, .slice none 0 0, rfl, ⟨heap_alloc_new w _, World.ownsRow_nil _ _ _ _, hfit, lg0_ok o A _ ho hA, rfl, (fun k hk => by cases hk), fun k hk => by rw [hk]; simp⟩⟩

set_option maxRecDepth 20000 in
set_option maxHeartbeats 2000000 in
/-- Opened, where the layout and the numbers are right. -/
theorem wopen_any (F : Nat → Prop) (dp : Value) (s : DK) (n : Int) (o p A : Nat) (w : World) (hD : DRep F w dp s) (hn : (s.n : Int) = n) (hfit : Fits n) (hA1 : 1 ≤ A) (hA : A < 18446744073709551616) (hp : p ≤ A) (ho : o ≤ 4611686018427387904) :
    Calls Try.prog 14 #[dp, layV n, .int .u64 (o : Int), .int .u64 (p : Int), .int .u64 (A : Int)] w fun e w' => OpenR s n o p A dp w e w' ∧ Below w.heap.size w w' := by
  have hne := lay_ne7 n 3 13 (lz n) (13 + lz n) (13 + 2 * lz n) (lz n) (lz n) (13 + 3 * lz n) (lseg n)
  rw [show (lz n == lz n) = true by simp] at hne
  obtain ⟨W0, hW0⟩ : ∃ W0, W0 = w.alloc (.cells (layCells n) 33) := ⟨_, rfl⟩
  have hB0 : Below w.heap.size w W0 := by rw [hW0]; exact (Below.refl _ _).alloc (Nat.le_refl _) _
  have hX0 : W0.heap[w.heap.size]? = some (.cells (layCells n) 33 (0, 0)) := by rw [hW0]; exact heap_alloc_new w _
  have hst : ∀ w', Below w.heap.size w w' → DRep F w' dp s := fun w' hb => hD.stays hb.size (fun k hk => hb.block k (hD.lt k hk))
  have HST := hide hst
  have HSZ := hide (osize_any F dp s W0 (hst W0 hB0))
  have HDN := hide (fun w' hb => odown_any F dp s w' (hst w' hb))
  rw [hn] at HSZ
  have HPN := hide (fun w' => oplan_any n w')
  rw [(plan_fits hfit).1, (plan_fits hfit).2] at HPN
  unfold layV at HPN ⊢
  have HLG := hide (fun w' => lg0_at w' dp n o A hfit ho hA)
  have hFlt := hD.lt
  have HRC := hide (fun (hfe : s.fell = false) (w' : World) (hb : Below w.heap.size w w') => wrecall_any F (fun k => k = w'.heap.size) (.pointer (some ⟨w'.heap.size, 0, none⟩)) dp s n o A p (lg0 o A) (w'.alloc (.cells (logC dp n (lg0 o A) (.slice none 0 0)) 68)) (hst _ (hb.alloc hb.size _)) (unhide HLG w') (fun k hk e => by have := hFlt k hk; have := hb.size; omega) hfit hn hfe ho hA rfl (Nat.le_refl _) (Nat.le_add_right _ _))
  obtain ⟨Res, hRes⟩ : ∃ Res, Res = opened s n o p A := ⟨_, rfl⟩
  have HRES := hide hRes
  unfold opened at hRes
  rw [← hRes] at HRC
  obtain ⟨dg, hdg⟩ : ∃ dg, dp = .pointer (some dg) := hD.ptr
  subst hdg
  have HW0 := hide hW0
  have HX0 := hide hX0
  have HB0 := hide hB0
  unfold layCells at HW0 HX0
  unfold logC lg0 rdC at HRC
  simp only at HRC
  have hA1' : ¬ (A : Int) < 1 := by omega
  have hd1 : decide ((A : Int) < 1) = false := decide_eq_false hA1'
  have hd1' : decide (A < 1) = false := decide_eq_false (by omega)
  have hp1 : decide (A < p) = false := decide_eq_false (by omega)
  have hp2 : ¬ (A : Int) < p := by omega
  have ho1 : decide (4611686018427387904 < (o : Int)) = false := decide_eq_false (by omega)
  have ho2 : ¬ 4611686018427387904 < (o : Int) := by omega
  generalize lz n = z at *
  generalize lseg n = m at *
  clear hW0 hX0 hB0 hD hn hfit hRes hst hFlt HLG hA hA1 hp ho
  go_enter Try.func14, Try.ntmps14
  go_wp2_with fail
  rw [← unhide HW0]
  refine Calls.mono (unhide HSZ) ?_
  rintro e w1 ⟨rfl, b1⟩
  have HB1 := hide ((unhide HB0).trans (b1.mono (unhide HB0).size))
  have HX1 := hide ((b1.block w.heap.size (Array.getElem?_eq_some_iff.1 (unhide HX0)).1).trans (unhide HX0))
  clear b1 HB0 HX0 HSZ
  go_wp2_with fail
  refine Calls.mono (unhide HPN _) ?_
  rintro e w2 ⟨rfl, b2⟩
  have HB2 := hide ((unhide HB1).trans (b2.mono (unhide HB1).size))
  have hX2 := (b2.block w.heap.size (Array.getElem?_eq_some_iff.1 (unhide HX1)).1).trans (unhide HX1)
  have HX2 := hide hX2
  obtain ⟨c0, c1, c2, c3, c4, c5, c6, c7, c8⟩ := nine_cells hX2
  have hnl : w.heap.size < w2.heap.size := World.block_lt_of_cell? w2 _ c0
  have hnw : ¬ w2.heap.size = w.heap.size := by omega
  have hnw' : ¬ w.heap.size = w2.heap.size := by omega
  obtain ⟨W3, hW3⟩ : ∃ W3, W3 = w2.alloc (.cells #[.int .i64 n, .int .i64 3, .int .i64 13, .int .i64 z, .int .i64 (13 + z), .int .i64 (13 + 2 * z), .int .i64 z, .int .i64 (13 + 3 * z), .int .i64 m] 33) := ⟨_, rfl⟩
  have hB3 : Below w.heap.size w W3 := by rw [hW3]; exact (unhide HB2).alloc (unhide HB2).size _
  have hX3 : W3.heap[w.heap.size]? = _ := (by rw [hW3]; exact Below.heap_alloc _ _ _ hnl : W3.heap[w.heap.size]? = w2.heap[w.heap.size]?).trans hX2
  have HB3 := hide hB3
  have HX3 := hide hX3
  have HW3 := hide hW3
  have HD3 := hide (unhide HDN W3 hB3)
  clear b2 HB1 HX1 HPN hX2 hB3 hX3 hW3
  go_wp2_with fail
  rw [← unhide HW3]
  refine Calls.mono (unhide HD3) ?_
  rintro e w4 ⟨rfl, b4⟩
  have HB4 := hide ((unhide HB3).trans (b4.mono (unhide HB3).size))
  have hX4 := (b4.block w.heap.size (Array.getElem?_eq_some_iff.1 (unhide HX3)).1).trans (unhide HX3)
  clear c0 c1 c2 c3 c4 c5 c6 c7 c8 HB2 HX2 HD3 hnl hnw hnw'
  obtain ⟨c0, c1, c2, c3, c4, c5, c6, c7, c8⟩ := nine_cells hX4
  have hnl : w.heap.size < w4.heap.size := World.block_lt_of_cell? w4 _ c0
  have hnw : ¬ w4.heap.size = w.heap.size := by omega
  have hnw' : ¬ w.heap.size = w4.heap.size := by omega
  clear b4 HB3 HX3 hX4 HW3 hd1 hd1' hp1 hp2 ho1 ho2 hA1'
  cases hfe : s.fell with
  | true =>
    have HFE := hide hfe
    clear hfe HRC
    go_wp2_with fail
    go_ret3
    exact ⟨by unfold OpenR; rw [if_pos (unhide HFE)]; rfl, unhide HB4⟩
  | false =>
    have HFE := hide hfe
    have HC := hide (unhide HRC hfe w4 (unhide HB4))
    clear hfe HRC
    go_wp2_with fail
    refine Calls.mono (unhide HC) ?_
    rintro e w5 ⟨v5, rfl, G5, H5, r5, l5, hH, hHG, hM⟩
    have hB5 : Below w.heap.size w w5 := by
      have h1 : Below w.heap.size w (w4.alloc (.cells #[.pointer (some dg), .int .i64 n, .int .i64 3, .int .i64 13, .int .i64 z, .int .i64 (13 + z), .int .i64 (13 + 2 * z), .int .i64 z, .int .i64 (13 + 3 * z), .int .i64 m, .int .u64 (A : Int), .int .u64 (o : Int), .int .u64 (o : Int), .slice none 0 0, .bool false] 68)) := (unhide HB4).alloc (unhide HB4).size _
      exact h1.trans (hM.keep.below (Nat.le_trans (unhide HB4).size (by simp)) (fun k hk => by rw [hk]; exact (unhide HB4).size))
    have HB5 := hide hB5
    have HEND : Hid (RecsAt H5 w5 v5 Res.1 ∧ LRep G5 w5 (.pointer (some ⟨w4.heap.size, 0, none⟩)) (.pointer (some dg)) n Res.2.1 ∧ (∀ k, H5 k → w.heap.size ≤ k) ∧ (∀ k, G5 k → w.heap.size ≤ k) ∧ ∀ k, H5 k → ¬ G5 k) := by
      refine ⟨r5, l5, fun k hk => ?_, fun k hk => ?_, hHG⟩
      · have h1 := hH k hk
        have h2 := (unhide HB4).size
        have h3 : w4.heap.size ≤ (w4.alloc (.cells #[.pointer (some dg), .int .i64 n, .int .i64 3, .int .i64 13, .int .i64 z, .int .i64 (13 + z), .int .i64 (13 + 2 * z), .int .i64 z, .int .i64 (13 + 3 * z), .int .i64 m, .int .u64 (A : Int), .int .u64 (o : Int), .int .u64 (o : Int), .slice none 0 0, .bool false] 68)).heap.size := by simp
        omega
      · rcases hM.sub k hk with h | h
        · rw [h]; exact (unhide HB4).size
        · have h2 := (unhide HB4).size
          have h3 : w4.heap.size ≤ (w4.alloc (.cells #[.pointer (some dg), .int .i64 n, .int .i64 3, .int .i64 13, .int .i64 z, .int .i64 (13 + z), .int .i64 (13 + 2 * z), .int .i64 z, .int .i64 (13 + 3 * z), .int .i64 m, .int .u64 (A : Int), .int .u64 (o : Int), .int .u64 (o : Int), .slice none 0 0, .bool false] 68)).heap.size := by simp
          omega
    obtain ⟨vs5, hvs5⟩ := r5.owns
    obtain ⟨q5, n5, c5', hv5⟩ : ∃ q nn cc, v5 = .slice q nn cc := by
      rcases hvs5.2 with ⟨e1, _⟩ | ⟨g6, cap6, cur6, e1, _⟩
      · exact ⟨_, _, _, e1⟩
      · exact ⟨_, _, _, e1⟩
    subst hv5
    generalize hE : Res.2.2 = E at *
    have HE2 := hide hE
    clear hvs5 r5 l5 hH hHG hM hB5 HC c0 c1 c2 c3 c4 c5 c6 c7 c8
    by_cases hE0 : E = 0
    · subst hE0
      clear hE
      go_wp2_with fail
      go_ret3
      exact ⟨by unfold OpenR; rw [if_neg (by rw [unhide HFE]; decide), ← unhide HRES, if_neg (by rw [unhide HE2]; simp)]; exact ⟨_, _, G5, H5, rfl, unhide HEND⟩, unhide HB5⟩
    · have hE' : (E == 0) = false := by rw [beq_eq_false_iff_ne]; exact hE0
      have HE0 := hide hE0
      clear hE hE0
      go_wp2_with fail
      go_ret3
      exact ⟨by unfold OpenR; rw [if_neg (by rw [unhide HFE]; decide), ← unhide HRES, if_pos (by rw [unhide HE2]; exact unhide HE0), unhide HE2]; rfl, unhide HB5⟩
end Go.Proofs.Ytdpoiieblbmofaa
