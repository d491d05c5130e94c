/- The walk of ArenaSeen. -/
import Derived.Test.YtlbhhdldeaehkaaG34
import Derived.Test.YtlbhhdldeaehkaaG36
import Derived.Test.YtlbhhdldeaehkaaG37
namespace Go.Proofs.Ytlbhhdldeaehkaa
open Go.RowKit

theorem seenN_len {n : Nat} {ws rs l0 : List Int} (h : AOk n ws rs) (h0 : MetL ws l0) : ∀ i, MetL ws (seenN ws l0 i).1 ∧ (seenN ws l0 i).2.length ≤ i ∧ (seenN ws l0 i).2.length ≤ (seenN ws l0 i).1.length
  | 0 => ⟨h0, Nat.le_refl _, Nat.zero_le _⟩
  | i + 1 => by
    obtain ⟨h1, h2, h3⟩ := seenN_len h h0 i
    simp only [seenN]
    cases hg : (seenN ws l0 i).1[i]? with
    | none => exact ⟨h1, Nat.le_succ_of_le h2, h3⟩
    | some a =>
      have ha := h1.ob a (List.mem_of_getElem? hg)
      obtain ⟨m, hm⟩ := allPtrs_pre (ptsA ws a) (seenN ws l0 i).1
      have hlt : i < (seenN ws l0 i).1.length := (List.getElem?_eq_some_iff.1 hg).1
      refine ⟨h1.all (ptrs_ob h ha), by simp; omega, ?_⟩
      dsimp only
      rw [hm]
      simp
      omega
theorem rootP_pack {ws rs l : List Int} (h : Rts ws rs l) (hs : rs.length = 16) (s : Int) : rootP (cR ws l rs) s = toA ws l (rootP rs s) ∧ (rootP rs s = 0 ∨ rootP rs s ∈ l) := by
  unfold rootP
  split
  · rename_i hc
    have hlt : s.toNat < rs.length := by omega
    unfold cR wd
    rw [List.getElem?_map, List.getElem?_eq_getElem hlt]
    exact ⟨rfl, h.root _ (List.getElem_mem hlt)⟩
  · exact ⟨(toA_nil h.toLiv).symm, Or.inl rfl⟩

set_option maxRecDepth 20000 in
set_option maxHeartbeats 2000000 in
theorem walk_ArenaSeen (a0 : Int) (_ : (Lit.int .i64 a0).wf = true) (s1 : Value) (d1 : Dt) (w : World) (h1 : Reads limSaid w (.row 96 (.struct (.cons (.int .i64) (.cons (.int .i64) (.cons (.int .i64) (.cons (.int .i64) (.cons (.int .i64) (.cons (.int .u32) (.cons (.row 8 (.int .i64)) (.cons (.row 4 (.int .u32)) (.nil))))))))))) [s1] d1) :
    Calls Try.prog 4 #[.int .i64 a0, s1] w fun e w' => e = .returned (.bool true) ∧ Below w.heap.size w w' := by
  obtain ⟨L, hs, hL, hok⟩ := ops_of_reads h1
  have HRAN := hide (fun (W : World) (hb : Below w.heap.size w W) => ran_any a0 s1 L W (hs.below hb) hL hok)
  have HAW := hide (fun W => aawake16_any W)
  obtain ⟨pa, cap, rfl, _⟩ := hs
  clear h1 hL hok
  go_enter Try.func4, Try.ntmps4
  go_wp2_with fail
  refine Calls.mono (unhide HRAN _ (Below.refl _ _)) ?_
  rintro e w1 ⟨g, F, n, ws, rs, rfl, hA, hn, hR, hF, b1⟩
  have HR1 := hide (And.intro hn hR)
  have H1 := hide (And.intro hA (And.intro hF b1))
  clear hn hR hA hF
  go_wp2_with fail
  refine Calls.mono (unhide HRAN _ b1) ?_
  rintro e w2 ⟨g2, F2, n2, ws2, rs2, rfl, hA2, hn2, hR2, hF2, b2⟩
  obtain ⟨hn, hR⟩ := unhide HR1
  obtain rfl : n = n2 := by rw [hn, hn2]
  have heq := hR.unique hR2
  simp only [Prod.mk.injEq] at heq
  obtain ⟨rfl, rfl⟩ := heq
  obtain ⟨hA, hF, _⟩ := unhide H1
  have H2 := hide (And.intro (hA.below b2) (And.intro hA2 (And.intro (show ∀ k, F k → ¬ F2 k from fun k hk h => by have := hA.lt hk; have := hF2 k h; omega) (And.intro (show ∀ k, F2 k → w.heap.size ≤ k from fun k hk => Nat.le_trans b1.size (hF2 k hk)) (b1.trans (b2.mono b1.size))))))
  clear hn hR hA2 hn2 hR2 hF2 b2 hA hF b1 HR1 H1 HRAN
  go_wp2_with fail
  refine Calls.mono (unhide HAW _) ?_
  rintro e w3 ⟨rfl, b3⟩
  obtain ⟨hA, hA2, hd, hF2, hb⟩ := unhide H2
  have H3 := hide (And.intro (hA.below b3) (And.intro (hA2.below b3) (And.intro hd (And.intro hF2 (hb.trans (b3.mono hb.size))))))
  have HPK := hide (apack_any F2 w3 g2 n ws rs (hA2.below b3))
  clear hA hA2 hd hF2 hb b3 H2 HAW
  go_wp2_with fail
  refine Calls.mono (unhide HPK) ?_
  rintro e w4 ⟨l, rfl, hl, F4, hA4, hm4⟩
  obtain ⟨hA, hA2, hd, hF2, hb⟩ := unhide H3
  have hok := hA.ok
  have hR := rts_live hok.u32 hok.right hl
  have HA := hide (And.intro (hA.keep hm4.keep hd) (And.intro hA4 (hb.trans (hm4.keep.below hb.size hF2))))
  have HP := hide (And.intro hok (And.intro hR hA4.ok))
  clear hA hA2 hd hF2 hb hA4 hm4 hl hok hR H3
  go_wp2_with fail
  go_loopw [7] (fun iv wr => ∃ k : Nat, iv = .int .i64 (k : Int) ∧ k ≤ 16 ∧ Below w4.heap.size w4 wr) (fun iv _ => 16 - (intOf iv).toNat)
  case atStart => exact ⟨0, rfl, Nat.zero_le _, Below.refl _ _⟩
  case round =>
    obtain ⟨k, rfl, hk, hb⟩ := hrel
    by_cases hlt : k < 16
    · have hkI : (k : Int) < 16 := by omega
      have hknw : IntKind.i64.wrap ((k : Int) + 1) = (k : Int) + 1 := by rw [IntKind.wrap_i64]; omega
      have HS1 := hide (fun (W : World) (hb2 : Below wr.heap.size wr W) => seen_any F W g n ws rs (k : Int) ((unhide HA).1.below (hb.trans (hb2.mono hb.size))))
      have HS2 := hide (fun (W : World) (hb2 : Below wr.heap.size wr W) => seen_any F4 W g2 n (cW ws l) (cR ws l rs) (k : Int) ((unhide HA).2.1.below (hb.trans (hb2.mono hb.size))))
      have HB := hide (And.intro hlt hb)
      clear hlt hb hk
      go_wp2_with fail
      refine Calls.mono (unhide HS1 _ (Below.refl _ _)) ?_
      rintro e wa ⟨N1, vo1, rfl, ho1, hn1, ba⟩
      have HO1 := hide (And.intro ho1 (And.intro hn1 ba))
      clear ho1 hn1
      go_wp2_with fail
      refine Calls.mono (unhide HS2 _ ba) ?_
      rintro e wb ⟨N2, vo2, rfl, ho2, hn2, bb⟩
      obtain ⟨ho1, hn1, _⟩ := unhide HO1
      obtain ⟨hok, hR, hok2⟩ := unhide HP
      obtain ⟨r1, r2⟩ := rootP_pack hR hok.slots (k : Int)
      rw [r1] at ho2 hn2
      rw [seen_pack hR r2 hn1 hn2] at ho2
      obtain ⟨m1, m2, m3⟩ := seenN_len hok (met_root hok (k : Int)) N1
      have HSM := hide (hsameobj_any vo1 vo2 _ wb (ho1.below bb) ho2 (by have := m1.len; have := hok.len; omega))
      have HB2 := hide (ba.trans (bb.mono ba.size))
      obtain ⟨p1, c1, rfl, _⟩ := ho1
      obtain ⟨p2, c2, rfl, _⟩ := ho2
      clear hn1 hok hR hok2 r1 r2 hn2 m1 m2 m3 ba bb HO1
      go_wp2_with fail
      refine Calls.mono (unhide HSM) ?_
      rintro e wc ⟨rfl, bc⟩
      have HBC := hide bc
      clear bc
      go_wp2_with fail
      have hbk := (unhide HB).2.trans ((unhide HB2).mono (unhide HB).2.size)
      refine ⟨⟨k + 1, by go_num, (unhide HB).1, hbk.trans ((unhide HBC).mono hbk.size)⟩, ?_⟩
      have := (unhide HB).1
      simp [intOf]; omega
    · have hge : ¬ ((k : Int) < 16) := by omega
      clear hk hlt
      go_wp2_with fail
      go_ret
      exact ⟨rfl, (unhide HA).2.2.trans (hb.mono (unhide HA).2.2.size)⟩
end Go.Proofs.Ytlbhhdldeaehkaa
