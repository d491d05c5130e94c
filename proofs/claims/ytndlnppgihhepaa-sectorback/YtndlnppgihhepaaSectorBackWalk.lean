/- The walk of the law SectorBack, by the contracts of package sector. -/
import Derived.Test.YtndlnppgihhepaaSecLaws
import Derived.Test.YtndlnppgihhepaaSecOpen2
import Derived.Test.YtndlnppgihhepaaSecHelp
import Derived.Test.YtndlnppgihhepaaSectorTwoWalk
import Derived.OpenShut
namespace Go.Proofs.Ytndlnppgihhepaa
open Go.RowKit

theorem open_turn_lt (b : List UInt8) : (openR b).2.1 < 18446744073709551616 := by
  have h := numAt_lt b 4 8
  unfold openR
  repeat' split
  all_goals first | exact h | (show (0 : Nat) < _; omega)

set_option maxHeartbeats 2000000 in
theorem back_any (cs : SealC) (ck : KnownC) (co : OpenC) (k : UInt8) (t : Nat) (s sb : Value) (p b : List UInt8) (w : World) (hs : Row w s p) (hsb : Row w sb b) (ht : t < 18446744073709551616) (hr : p.length ≤ 140737488351232) (hrb : b.length ≤ 140737488351232) :
    Calls Try.prog 5 #[.int .u8 (k.toNat : Int), .int .u64 t, s, sb] w fun e w' => e = .returned (.bool true) ∧ Below w.heap.size w w' := by
  obtain ⟨ps, c1, ls, rfl, hls⟩ := hs.shape
  have HS := hide hs
  have HSB := hide hsb
  have CA := hide (awake_any cs ck)
  have C1 := hide (cs k t _ p w ht hr hs)
  have CS := hide cs
  have CO := hide co
  have CB := hide (fun s w (h : Row w s b) => co s b w hrb h)
  have HSO := hide (sealed_open b)
  have htt := open_turn_lt b
  generalize openR b = R at *
  obtain ⟨kk, tt, pl, ee⟩ := R
  simp only [] at HSO htt
  clear hs hsb cs ck co hls
  go_enter Try.func5, Try.ntmps5
  go_wp2_with fail
  refine Calls.mono (unhide C1) ?_
  rintro e w1 ⟨x, rfl, m1, hb1⟩
  go_wp2_with fail
  refine Calls.mono (unhide CA w1) ?_
  rintro e w2 ⟨rfl, hb2⟩
  have r2 := m1.row.below hb2
  have B2 : Below w.heap.size w w2 := hb1.trans (hb2.mono hb1.size)
  clear m1 C1
  by_cases h1 : sealE k p = 0
  · obtain ⟨hk, hl, hsl⟩ := sealE_ok k p h1
    rw [hsl t] at r2
    have HO := hide (open_sealed k t p hk ht hl)
    rw [h1]
    have CX := hide (unhide CO x (sealed k t p) w2 (by rw [length_sealed k t p hl]; omega) r2)
    rw [unhide HO] at CX
    clear h1 hsl hk HO r2
    go_wp2_with fail
    refine Calls.mono (unhide CX) ?_
    rintro e w3 ⟨u, rfl, m3, hb3⟩
    have B3 : Below w.heap.size w w3 := B2.trans (hb3.mono B2.size)
    obtain ⟨pu, cu, lu, rfl, hlu⟩ := m3.row.shape
    have BA : Below w3.heap.size w3 (w3.alloc (.cells #[.int .u8 (k.toNat : Int), .int .u64 (t : Nat), .slice pu lu cu] 35)) := (Below.refl _ _).alloc (Nat.le_refl _) _
    have BW := B3.trans (BA.mono B3.size)
    have HSE := hide (sector_any (k.toNat : Int) (k.toNat : Int) (t : Nat) (t : Nat) _ _ p p _ (m3.row.below BA) ((unhide HS).below BW))
    have HBW := hide BW
    clear hlu CX m3 BA hb3 B3 B2 BW
    go_wp2_with fail
    refine Calls.mono (unhide HSE) ?_
    rintro e w5 ⟨rfl, hb5⟩
    have B5 : Below w.heap.size w w5 := (unhide HBW).trans (hb5.mono (unhide HBW).size)
    rw [show ((k.toNat : Int) == (k.toNat : Int) && (((t : Nat) : Int) == ((t : Nat) : Int) && p == p)) = true by simp]
    clear HSE HBW hb5
    go_wp2_with fail
    refine Calls.mono (unhide CB _ w5 ((unhide HSB).below B5)) ?_
    rintro e w6 ⟨v, rfl, m6, hb6⟩
    have B6 : Below w.heap.size w w6 := B5.trans (hb6.mono B5.size)
    obtain ⟨pv, cv, lv, rfl, hlv⟩ := m6.row.shape
    have HLV := hide hlv
    have BA : Below w6.heap.size w6 (w6.alloc (.cells #[.int .u8 (kk.toNat : Int), .int .u64 (tt : Nat), .slice pv lv cv] 35)) := (Below.refl _ _).alloc (Nat.le_refl _) _
    have HA := hide (And.intro (m6.row.below BA) (B6.trans (BA.mono B6.size)))
    clear hlv m6 BA hb6
    by_cases he : ee = 0
    · subst he
      by_cases hk0 : kk = 0
      · subst hk0
        clear HSO
        go_wp2
        go_ret
        exact ⟨rfl, (unhide HA).2⟩
      · obtain ⟨q1, q2, q3⟩ := unhide HSO rfl hk0
        have hd : ((kk.toNat : Int) == 0) = false := by rw [beq_byte]; simp [hk0]
        have HQ := hide q1
        have CQ := hide (unhide CS kk tt _ pl _ htt (by omega) (unhide HA).1)
        have e1 : sealE kk pl = 0 := by unfold sealE; rw [q2, if_neg (show ¬ (true = false) by decide), if_neg (by omega)]
        have e2 : sealB kk tt pl = b := by unfold sealB; rw [q2, if_neg (show ¬ (true = false) by decide), if_neg (by omega)]; exact q1
        rw [e1, e2] at CQ
        clear q1 q2 q3 HSO hk0 e1 e2
        go_wp2_with fail
        refine Calls.mono (unhide CQ) ?_
        rintro e w8 ⟨y, rfl, m8, hb8⟩
        have B8 : Below w.heap.size w w8 := (unhide HA).2.trans (hb8.mono (unhide HA).2.size)
        have r8 := m8.row
        clear m8 HA CQ
        go_wp2_with fail
        refine (bytes_any _ _ b b w8 r8 ((unhide HSB).below B8)).mono ?_
        rintro e w8 ⟨rfl, rfl⟩
        rw [show (b == b) = true by simp]
        go_wp2
        go_ret
        exact ⟨rfl, B8⟩
    · have hd : (ee != 0) = true := by rw [bne_iff_ne]; exact he
      clear he HSO
      go_wp2
      go_ret
      exact ⟨rfl, (unhide HA).2⟩
  · have hE : ((sealE k p) == 0) = false := by rw [beq_eq_false_iff_ne]; exact h1
    generalize sealE k p = E at *
    clear h1 r2
    go_wp2_with fail
    refine Calls.mono (unhide CB _ w2 ((unhide HSB).below B2)) ?_
    rintro e w6 ⟨v, rfl, m6, hb6⟩
    have B6 : Below w.heap.size w w6 := B2.trans (hb6.mono B2.size)
    obtain ⟨pv, cv, lv, rfl, hlv⟩ := m6.row.shape
    have HLV := hide hlv
    have BA : Below w6.heap.size w6 (w6.alloc (.cells #[.int .u8 (kk.toNat : Int), .int .u64 (tt : Nat), .slice pv lv cv] 35)) := (Below.refl _ _).alloc (Nat.le_refl _) _
    have HA := hide (And.intro (m6.row.below BA) (B6.trans (BA.mono B6.size)))
    clear hlv m6 BA hb6
    by_cases he : ee = 0
    · subst he
      by_cases hk0 : kk = 0
      · subst hk0
        clear HSO
        go_wp2
        go_ret
        exact ⟨rfl, (unhide HA).2⟩
      · obtain ⟨q1, q2, q3⟩ := unhide HSO rfl hk0
        have hd : ((kk.toNat : Int) == 0) = false := by rw [beq_byte]; simp [hk0]
        have HQ := hide q1
        have CQ := hide (unhide CS kk tt _ pl _ htt (by omega) (unhide HA).1)
        have e1 : sealE kk pl = 0 := by unfold sealE; rw [q2, if_neg (show ¬ (true = false) by decide), if_neg (by omega)]
        have e2 : sealB kk tt pl = b := by unfold sealB; rw [q2, if_neg (show ¬ (true = false) by decide), if_neg (by omega)]; exact q1
        rw [e1, e2] at CQ
        clear q1 q2 q3 HSO hk0 e1 e2
        go_wp2_with fail
        refine Calls.mono (unhide CQ) ?_
        rintro e w8 ⟨y, rfl, m8, hb8⟩
        have B8 : Below w.heap.size w w8 := (unhide HA).2.trans (hb8.mono (unhide HA).2.size)
        have r8 := m8.row
        clear m8 HA CQ
        go_wp2_with fail
        refine (bytes_any _ _ b b w8 r8 ((unhide HSB).below B8)).mono ?_
        rintro e w8 ⟨rfl, rfl⟩
        rw [show (b == b) = true by simp]
        go_wp2
        go_ret
        exact ⟨rfl, B8⟩
    · have hd : (ee != 0) = true := by rw [bne_iff_ne]; exact he
      clear he HSO
      go_wp2
      go_ret
      exact ⟨rfl, (unhide HA).2⟩

theorem walk_SectorBack (a0 : Int) (w0 : (Lit.int .u8 a0).wf = true) (a1 : Int) (w1 : (Lit.int .u64 a1).wf = true) (s : Value) (p : List UInt8) (sb : Value) (b : List UInt8) (w : World) (hs : Row w s p) (hr : p.length ≤ 140737488351232) (hsb : Row w sb b) (hrb : b.length ≤ 140737488351232) :
    Calls Try.prog 5 #[.int .u8 a0, .int .u64 a1, s, sb] w fun e w' => e = .returned (.bool true) ∧ Below w.heap.size w w' := by
  obtain ⟨k0, rfl⟩ := byte_of w0
  have hb1 := bounds_u64 w1
  obtain ⟨t1, rfl⟩ := Int.eq_ofNat_of_zero_le hb1.1
  exact back_any sealC knownC openC k0 t1 s sb p b w hs hsb (by omega) hr hrb
end Go.Proofs.Ytndlnppgihhepaa
