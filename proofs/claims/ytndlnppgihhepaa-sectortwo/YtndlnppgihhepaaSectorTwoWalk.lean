/- The walk of the law SectorTwo, by the contracts of package sector. -/
import Derived.Test.YtndlnppgihhepaaSecLaws
import Derived.Test.YtndlnppgihhepaaSecSeal
import Derived.Test.YtndlnppgihhepaaBytes
import Derived.OpenShut
namespace Go.Proofs.Ytndlnppgihhepaa
open Go.RowKit

theorem sealE_ok (k : UInt8) (p : List UInt8) (h : sealE k p = 0) : knownB k = true ∧ p.length ≤ 496 ∧ ∀ t, sealB k t p = sealed k t p := by
  unfold sealE at h
  cases hk : knownB k with
  | false => rw [hk, if_pos rfl] at h; cases h
  | true =>
    rw [hk, if_neg (show ¬ (true = false) by decide)] at h
    by_cases hl : 496 < p.length
    · rw [if_pos hl] at h; cases h
    · exact ⟨rfl, by omega, fun t => by unfold sealB; rw [hk, if_neg (show ¬ (true = false) by decide), if_neg hl]⟩

theorem two_alike (k k' : UInt8) (t t' : Nat) (a b : List UInt8) (h : sealE k a = 0) (h' : sealE k' b = 0) (ht : t < 18446744073709551616) (ht' : t' < 18446744073709551616) :
    (sealB k t a == sealB k' t' b) = (((k.toNat : Int) == (k'.toNat : Int)) && ((t : Int) == (t' : Int)) && (a == b)) := by
  obtain ⟨hk, hl, e⟩ := sealE_ok k a h
  obtain ⟨hk', hl', e'⟩ := sealE_ok k' b h'
  rw [e t, e' t', Bool.eq_iff_iff]
  simp only [beq_iff_eq, Bool.and_eq_true]
  constructor
  · intro hs
    obtain ⟨rfl, rfl, rfl⟩ := sealed_inj k k' t t' a b hk hk' ht ht' hl hl' hs
    exact ⟨⟨rfl, rfl⟩, rfl⟩
  · rintro ⟨⟨h1, h2⟩, rfl⟩
    obtain rfl : k = k' := UInt8.toNat_inj.1 (by omega)
    obtain rfl : t = t' := by omega
    rfl

set_option maxHeartbeats 1000000 in
theorem two_any (cs : SealC) (ck : KnownC) (k k' : UInt8) (t t' : Nat) (s s' : Value) (a b : List UInt8) (w : World) (hs : Row w s a) (hs' : Row w s' b) (ht : t < 18446744073709551616) (ht' : t' < 18446744073709551616) (hr : a.length ≤ 140737488351232) (hr' : b.length ≤ 140737488351232) :
    Calls Try.prog 7 #[.int .u8 (k.toNat : Int), .int .u64 t, s, .int .u8 (k'.toNat : Int), .int .u64 t', s'] w fun e w' => e = .returned (.bool true) ∧ Below w.heap.size w w' := by
  have HS := hide hs
  have HS' := hide hs'
  have HT := hide (two_alike k k' t t' a b)
  have CA := hide (awake_any cs ck)
  have C1 := hide (cs k t s a w ht hr hs)
  have C2 := hide (fun w h => cs k' t' s' b w ht' hr' h)
  clear hs hs' cs ck
  go_enter Try.func7, Try.ntmps7
  go_wp2_with fail
  refine Calls.mono (unhide C1) ?_
  rintro e w1 ⟨x, rfl, m1, hb1⟩
  go_wp2_with fail
  refine Calls.mono (unhide C2 w1 ((unhide HS').below hb1)) ?_
  rintro e w2 ⟨y, rfl, m2, hb2⟩
  have r1 := m1.row.below hb2
  have r2 := m2.row
  have B2 : Below w.heap.size w w2 := hb1.trans (hb2.mono hb1.size)
  clear m1 m2 C1 C2
  go_wp2_with fail
  refine Calls.mono (unhide CA w2) ?_
  rintro e w3 ⟨rfl, hb3⟩
  have r1 := r1.below hb3
  have r2 := r2.below hb3
  have B3 : Below w.heap.size w w3 := B2.trans (hb3.mono B2.size)
  clear B2
  have RA := hide ((unhide HS).below B3)
  have RB := hide ((unhide HS').below B3)
  generalize sealE k a = E1 at *
  generalize sealE k' b = E2 at *
  generalize sealB k t a = X at *
  generalize sealB k' t' b = Y at *
  by_cases h1 : E1 = 0
  · by_cases h2 : E2 = 0
    · have HX := hide (unhide HT h1 h2 ht ht')
      subst h1 h2
      clear HT
      generalize (k.toNat : Int) = K1 at *
      generalize (k'.toNat : Int) = K2 at *
      by_cases hk : K1 = K2
      · by_cases htt : t = t'
        · have HE : Hid ((X == Y) = (a == b)) := by unfold Hid; rw [unhide HX, hk, htt]; simp
          have d1 : (K1 == K2) = true := by simp [hk]
          have d2 : ((t : Int) == (t' : Int)) = true := by simp [htt]
          clear hk htt HX
          go_wp2_with fail
          refine (bytes_any _ _ a b w3 (unhide RA) (unhide RB)).mono ?_
          rintro e w3 ⟨rfl, rfl⟩
          go_wp2_with fail
          refine (bytes_any _ _ X Y w3 r1 r2).mono ?_
          rintro e w3 ⟨rfl, rfl⟩
          rw [unhide HE]
          have hd : ((a == b) == (a == b)) = true := by simp
          go_wp2
          go_ret
          exact ⟨by simp, B3⟩
        · have HE : Hid ((X == Y) = false) := by unfold Hid; rw [unhide HX]; simp; omega
          have d1 : (K1 == K2) = true := by simp [hk]
          have d2 : ((t : Int) == (t' : Int)) = false := by simp; omega
          clear hk htt HX
          go_wp2_with fail
          refine (bytes_any _ _ X Y w3 r1 r2).mono ?_
          rintro e w3 ⟨rfl, rfl⟩
          rw [unhide HE]
          go_wp2
          go_ret
          exact ⟨rfl, B3⟩
      · have HE : Hid ((X == Y) = false) := by unfold Hid; rw [unhide HX]; simp [hk]
        have d1 : (K1 == K2) = false := by simp [hk]
        clear hk HX
        go_wp2_with fail
        refine (bytes_any _ _ X Y w3 r1 r2).mono ?_
        rintro e w3 ⟨rfl, rfl⟩
        rw [unhide HE]
        go_wp2
        go_ret
        exact ⟨rfl, B3⟩
    · have d2 : (E2 != 0) = true := by rw [bne_iff_ne]; exact h2
      subst h1
      clear h2 HT
      go_wp2_with fail
      refine Calls.mono (unhide CA w3) ?_
      rintro e w4 ⟨rfl, hb4⟩
      go_wp2
      go_ret
      exact ⟨rfl, B3.trans (hb4.mono B3.size)⟩
  · have d1 : (E1 != 0) = true := by rw [bne_iff_ne]; exact h1
    clear h1 HT
    go_wp2_with fail
    refine Calls.mono (unhide CA w3) ?_
    rintro e w4 ⟨rfl, hb4⟩
    go_wp2
    go_ret
    exact ⟨rfl, B3.trans (hb4.mono B3.size)⟩

theorem walk_SectorTwo (a0 : Int) (w0 : (Lit.int .u8 a0).wf = true) (a1 : Int) (w1 : (Lit.int .u64 a1).wf = true) (s : Value) (p : List UInt8) (a3 : Int) (w3 : (Lit.int .u8 a3).wf = true) (a4 : Int) (w4 : (Lit.int .u64 a4).wf = true) (s' : Value) (p' : List UInt8) (w : World) (hs : Row w s p) (hr : p.length ≤ 140737488351232) (hs' : Row w s' p') (hr' : p'.length ≤ 140737488351232) :
    Calls Try.prog 7 #[.int .u8 a0, .int .u64 a1, s, .int .u8 a3, .int .u64 a4, s'] w fun e w' => e = .returned (.bool true) ∧ Below w.heap.size w w' := by
  obtain ⟨k0, rfl⟩ := byte_of w0
  have hb1 := bounds_u64 w1
  obtain ⟨t1, rfl⟩ := Int.eq_ofNat_of_zero_le hb1.1
  obtain ⟨k3, rfl⟩ := byte_of w3
  have hb4 := bounds_u64 w4
  obtain ⟨t4, rfl⟩ := Int.eq_ofNat_of_zero_le hb4.1
  exact two_any sealC knownC k0 k3 t1 t4 s s' p p' w hs hs' (by omega) (by omega) hr hr'
end Go.Proofs.Ytndlnppgihhepaa
