/- Both devices show the same, as layer 4's statements look at them, by the contracts of package disk. -/
import Derived.Test.YtkekikfiijbjmaaDiskStep2
namespace Go.Proofs.Ytkekikfiijbjmaa
open Go.RowKit

section
variable {DR : (Nat → Prop) → World → Value → DK → Prop} (C : DiskC DR)
include C

set_option maxRecDepth 20000 in
set_option maxHeartbeats 4000000 in
theorem alike_any (F : Nat → Prop) (w : World) (d r : Value) (s : DK) (cnt : Nat) (hP : Pair DR F w d s r s cnt) (hw : s.waits.length ≤ 1048576) :
    Calls Try.prog 13 #[d, r] w fun e w' => e = .returned (.bool true) ∧ Below w.heap.size w w' := by
  obtain ⟨FD, FR, hd, hr, h3, h4⟩ := hP
  have hD : ∀ w', Below w.heap.size w w' → DR FD w' d s := fun w' hb => C.stays hd hb.size (fun k hk => hb.block k (C.lt hd k hk))
  have hR : ∀ w', Below w.heap.size w w' → RRep FR w' r s cnt := fun w' hb => hr.stays hb.size (fun k hk => hb.block k (hr.lt k hk))
  have CD := hide (fun w' (hb : Below w.heap.size w w') => (C.down FD d s w' (hD w' hb)))
  have CW := hide (fun w' (hb : Below w.heap.size w w') => (C.waiting FD d s w' (hD w' hb)))
  have CF := hide (fun w' (hb : Below w.heap.size w w') => (C.flips FD d s w' (hD w' hb)))
  have CS := hide (fun w' (hb : Below w.heap.size w w') => (C.size FD d s w' (hD w' hb)))
  have CRd := hide (fun (a : Int) w' (hb : Below w.heap.size w w') => (C.read FD d s a w' (hD w' hb) hw))
  have CRr := hide (fun (a : Int) w' (hb : Below w.heap.size w w') => (rread_any FR r s cnt a w' (hR w' hb) hw))
  have hok := C.ok hd
  have hsz := hok.size
  obtain ⟨g, m, wv, f, xs, rfl, R⟩ := hr
  have hgl := R.lt g R.fg
  obtain ⟨q, cw, hwv⟩ := R.shape
  subst hwv
  obtain ⟨c0, c1, c2, c3, c4, c5, _⟩ := six_cells R.blk
  have KB := hide (fun w' (hb : Below w.heap.size w w') => And.intro ((hb.cell (p := ⟨g, 0, none⟩) hgl).trans c0) (And.intro ((hb.cell (p := ⟨g, 2, none⟩) hgl).trans c2) (And.intro ((hb.cell (p := ⟨g, 4, none⟩) hgl).trans c4) ((hb.cell (p := ⟨g, 5, none⟩) hgl).trans c5))))
  have e1 : (s.fell != s.fell) = false := by simp
  have e2 : ((s.waits.length : Int) != s.waits.length) = false := by simp
  have e3 : ((s.turns : Int) != s.turns) = false := by simp
  have e4 : ((s.n : Int) != s.n) = false := by simp
  have B0 := Below.refl w.heap.size w
  clear hd hR hD R h3 h4 c1 c3 hok
  go_enter Try.func13, Try.ntmps13
  go_wp2_with fail
  go_region_held3 (fun w' => w'.cell? ⟨g, 0, none⟩ = some (.int .i64 (s.n : Int)) ∧ w'.cell? ⟨g, 2, none⟩ = some (.slice q s.waits.length cw) ∧ w'.cell? ⟨g, 4, none⟩ = some (.bool s.fell) ∧ w'.cell? ⟨g, 5, none⟩ = some (.int .i64 (s.turns : Int))) (first | assumption | go_keep)
    (first
      | (go_at_call 25; refine Calls.mono (unhide CD _ B0.drew) ?_; rintro e w2 ⟨rfl, hb2⟩; have B2 := B0.drew.trans (hb2.mono B0.drew.size); have hS2 := unhide KB _ B2; clear hb2)
      | (go_at_call 26; refine Calls.mono (unhide CW _ B2) ?_; rintro e w3 ⟨rfl, hb3⟩; have B3 := B2.trans (hb3.mono B2.size); have hS3 := unhide KB _ B3; clear hb3)
      | (go_at_call 28; refine Calls.mono (unhide CF _ B3) ?_; rintro e w4 ⟨rfl, hb4⟩; have B4 := B3.trans (hb4.mono B3.size); have hS4 := unhide KB _ B4; clear hb4)
      | (go_at_call 27; refine Calls.mono (unhide CS _ B4) ?_; rintro e w5 ⟨rfl, hb5⟩; have B5 := B4.trans (hb5.mono B4.size); have hS5 := unhide KB _ B5; clear hb5))
  clear hS2 hS3 hS4 hS5 B2 B3 B4 CD CW CF CS c0 c2 c4 c5 e1 e2 e3 e4 B0
  have hszI : (s.n : Int) ≤ 65536 := by omega
  clear hsz
  go_wp2_with fail
  go_loopw [5] (fun i wr => ∃ k : Nat, k ≤ 8 ∧ i = .int .i64 k ∧ Below w.heap.size w wr) (fun i _ => 8 - (intOf i).toNat)
  case atStart => exact ⟨0, by omega, rfl, B5⟩
  case round =>
    clear B5
    obtain ⟨k, hk, rfl, hbel⟩ := hrel
    obtain ⟨c0, _, _, _⟩ := unhide KB _ hbel
    by_cases hn : (k : Int) < s.n
    · by_cases h8 : (k : Int) < 8
      · have HRd := hide (unhide CRd k wr hbel)
        clear hk
        go_wp2_with fail
        refine Calls.mono (unhide HRd) ?_
        rintro e w2 ⟨t, rfl, hm2, hb2⟩
        have B2 := hbel.trans (hb2.mono hbel.size)
        have HRr := hide (unhide CRr k w2 B2)
        have HM2 := hide hm2
        have HB2 := hide hb2
        clear HRd hm2 hb2 c0
        go_wp2_with fail
        refine Calls.mono (unhide HRr) ?_
        rintro e w3 ⟨u, rfl, hu3, hb3⟩
        have HBY := hide (bytes_any _ _ _ _ w3 ((unhide HM2).below hb3).row (row_of_owns hu3))
        rw [show (s.readB (k : Int) == s.readB (k : Int)) = true by simp] at HBY
        have HM3 := hide ((unhide HM2).below hb3)
        have HB3 := hide (hb3.mono (unhide HB2).size)
        have B3 := B2.trans (hb3.mono B2.size)
        have heq : (s.readE (k : Int) != s.readE (k : Int)) = false := by simp
        clear HRr hu3 hb3 HM2
        go_wp2_with fail
        refine Calls.mono (unhide HBY) ?_
        rintro e w4 ⟨rfl, rfl⟩
        have HSP := hide (spoil_mine t _ wr.heap.size w4 (unhide HM3))
        clear HBY HM3
        go_wp2_with fail
        refine Calls.mono (unhide HSP) ?_
        rintro e w5 ⟨rfl, hb5⟩
        have HB5 := hide (B3.trans (hb5.mono hbel.size))
        clear HSP hb5 heq
        go_wp2
        go_roundw
        case rel => exact ⟨k + 1, by omega, by go_num, unhide HB5⟩
        case measure => simp [intOf]; omega
      · clear hk
        go_wp2
        go_ret
        exact ⟨rfl, hbel⟩
    · clear hk
      go_wp2
      go_ret
      exact ⟨rfl, hbel⟩
end
end Go.Proofs.Ytkekikfiijbjmaa
