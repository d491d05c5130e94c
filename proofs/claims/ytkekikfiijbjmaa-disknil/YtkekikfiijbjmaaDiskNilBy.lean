/- The walk of the law DiskNil, by the contracts of package disk. -/
import Derived.Test.YtkekikfiijbjmaaDiskAwake
import Derived.Test.YtkekikfiijbjmaaShape
namespace Go.Proofs.Ytkekikfiijbjmaa
open Go.RowKit

/-- What a nil device answers. -/
structure DiskNilC : Prop where
  size : ∀ w, Calls Try.prog 27 #[.pointer none] w fun e w' => e = .returned (.int .i64 0) ∧ Below w.heap.size w w'
  write : ∀ (a : Int) q n c w, Calls Try.prog 19 #[.pointer none, .int .i64 a, .slice q n c] w fun e w' => e = .returned (.int .i64 2) ∧ Below w.heap.size w w'
  read : ∀ (a : Int) w, Calls Try.prog 18 #[.pointer none, .int .i64 a] w fun e w' => ∃ q c, e = .returned (.tuple #[.slice q 0 c, .int .i64 2]) ∧ Below w.heap.size w w'
  flush : ∀ w, Calls Try.prog 17 #[.pointer none] w fun e w' => e = .returned (.int .i64 2) ∧ Below w.heap.size w w'
  arm : ∀ (n : Int) w, Calls Try.prog 16 #[.pointer none, .int .i64 n] w fun e w' => e = .returned (.int .i64 2) ∧ Below w.heap.size w w'
  crash : ∀ q n c w, Calls Try.prog 21 #[.pointer none, .slice q n c] w fun e w' => e = .returned (.int .i64 2) ∧ Below w.heap.size w w'
  start : ∀ w, Calls Try.prog 15 #[.pointer none] w fun e w' => e = .returned (.int .i64 2) ∧ Below w.heap.size w w'
  flip : ∀ (a b : Int) w, Calls Try.prog 24 #[.pointer none, .int .i64 a, .int .i64 b] w fun e w' => e = .returned (.int .i64 2) ∧ Below w.heap.size w w'
  down : ∀ w, Calls Try.prog 25 #[.pointer none] w fun e w' => e = .returned (.bool false) ∧ Below w.heap.size w w'
  waiting : ∀ w, Calls Try.prog 26 #[.pointer none] w fun e w' => e = .returned (.int .i64 0) ∧ Below w.heap.size w w'
  flips : ∀ w, Calls Try.prog 28 #[.pointer none] w fun e w' => e = .returned (.int .i64 0) ∧ Below w.heap.size w w'
  fork : ∀ w, Calls Try.prog 23 #[.pointer none] w fun e w' => e = .returned (.pointer none) ∧ Below w.heap.size w w'

set_option maxRecDepth 20000 in
set_option maxHeartbeats 4000000 in
theorem nil_any {DR : (Nat → Prop) → World → Value → DK → Prop} (C : DiskC DR) (N : DiskNilC) (a n : Int) (bq kq : Option Addr) (bn bc kn kc : Nat) (w : World) :
    Calls Try.prog 7 #[.int .i64 a, .int .i64 n, .slice bq bn bc, .slice kq kn kc] w fun e w' => e = .returned (.bool true) ∧ Below w.heap.size w w' := by
  go_enter Try.func7, Try.ntmps7
  go_wp2_with fail
  refine (N.read a w).mono ?_
  rintro e w1 ⟨q, c, rfl, B1⟩
  go_wp2_with fail
  refine (awake_any C w1).mono ?_
  rintro e w2 ⟨rfl, hb2⟩
  have B2 := B1.trans (hb2.mono B1.size)
  clear hb2 B1
  go_wp2_with fail
  refine (N.size w2).mono ?_
  rintro e w3 ⟨rfl, hb3⟩
  have B3 := B2.trans (hb3.mono B2.size)
  clear hb3 B2
  go_wp2_with fail
  refine (N.write a bq bn bc w3).mono ?_
  rintro e w4 ⟨rfl, hb4⟩
  have B4 := B3.trans (hb4.mono B3.size)
  clear hb4 B3
  go_wp2_with fail
  refine (N.flush w4).mono ?_
  rintro e w5 ⟨rfl, hb5⟩
  have B5 := B4.trans (hb5.mono B4.size)
  clear hb5 B4
  go_wp2_with fail
  refine (N.arm n w5).mono ?_
  rintro e w6 ⟨rfl, hb6⟩
  have B6 := B5.trans (hb6.mono B5.size)
  clear hb6 B5
  go_wp2_with fail
  refine (N.crash kq kn kc w6).mono ?_
  rintro e w7 ⟨rfl, hb7⟩
  have B7 := B6.trans (hb7.mono B6.size)
  clear hb7 B6
  go_wp2_with fail
  refine (N.start w7).mono ?_
  rintro e w8 ⟨rfl, hb8⟩
  have B8 := B7.trans (hb8.mono B7.size)
  clear hb8 B7
  go_wp2_with fail
  refine (N.flip a n w8).mono ?_
  rintro e w9 ⟨rfl, hb9⟩
  have B9 := B8.trans (hb9.mono B8.size)
  clear hb9 B8
  go_wp2_with fail
  refine (N.down w9).mono ?_
  rintro e w10 ⟨rfl, hb10⟩
  have B10 := B9.trans (hb10.mono B9.size)
  clear hb10 B9
  go_wp2_with fail
  refine (N.waiting w10).mono ?_
  rintro e w11 ⟨rfl, hb11⟩
  have B11 := B10.trans (hb11.mono B10.size)
  clear hb11 B10
  go_wp2_with fail
  refine (N.flips w11).mono ?_
  rintro e w12 ⟨rfl, hb12⟩
  have B12 := B11.trans (hb12.mono B11.size)
  clear hb12 B11
  go_wp2_with fail
  refine (N.fork w12).mono ?_
  rintro e w13 ⟨rfl, hb13⟩
  have B13 := B12.trans (hb13.mono B12.size)
  clear hb13 B12
  go_wp2
  go_ret
  exact ⟨rfl, B13⟩
end Go.Proofs.Ytkekikfiijbjmaa
