/- Texts of ours, one behind the other: WalRaw1. -/
import Derived.Test.YtpkpjmebkikgdaaG1
import Derived.Test.YtpkpjmebkikgdaaG4
import Derived.Test.YtpkpjmebkikgdaaG5
import Derived.Test.YtpkpjmebkikgdaaG11
import Derived.Test.YtpkpjmebkikgdaaG13
import Derived.Test.YtpkpjmebkikgdaaG15
import Derived.Test.YtpkpjmebkikgdaaG17
import Derived.Deep.CutBlock
import Derived.BigQuiet
import Derived.BigRegion
/- The statement WalRaw's own 'whole': the record that begins at a turn, by the references. -/
namespace Go.Proofs.Ytpkpjmebkikgdaa
open Go.RowKit

theorem wr_drewN {b : Nat} {w w' : World} (h : Below b w w') (n : Nat) : Below b w (w'.drewN n) := ⟨h.os, h.tape, h.output, h.size, h.block⟩
theorem wr_readF_ok (b : List UInt8) (h : (readF b).2 = 0) : (readF b).1.ok := by
  obtain ⟨h1, h2, h3, h4⟩ := bytes_read b h
  obtain ⟨m1, m2, m3⟩ := (may_iff _).1 h1
  exact ⟨h3, h4, by omega, by omega, by omega⟩
theorem Try.sizeRowR : (Try.prog.info? 31).map (·.size) = some 1 := by kernel_rfl
theorem idx30 (b q : Nat) (hq : q < 30) (W : World) : (Instr.indexAt 32 (.pointer (some ⟨b, 0, none⟩)) (.int .i64 (q : Int))).run Try.prog W = .ok (.pointer (some ⟨b, q, none⟩)) W := by
  have hs := size_of_info Try.sizeRowR
  simp [Instr.indexAt, run_underlying Try.underlying32, Instr.sureAddr, hs, Addr.add, asIntOf]
  rw [if_pos hq]
  by_cases h0 : q = 0
  · subst h0; rfl
  · rw [if_neg h0]
/-- The sectors as an opening from o on sees them. -/
def rawFr (sec : Nat → List UInt8) (o : Nat) : Nat → Fr × Int := frameW (fun t => sec (t % 30)) 30 o
/-- What 'whole' tells. -/
def WholeP (w w' : World) (W : List Fr × Int) (e : Ending) : Prop :=
  ∃ v, e = .returned (.tuple #[v, .int .i64 (whN W : Int), .int .u64 (whA W : Int), .int .i64 W.2]) ∧ Row w' v (whB W) ∧ (∀ b off n c, v = .slice (some ⟨b, off, none⟩) n c → w.heap.size ≤ b) ∧ Below w.heap.size w w'
theorem wholeP_none {w w' : World} {W : List Fr × Int} (h : W = ([], 0)) (hb : Below w.heap.size w w') : WholeP w w' W (.returned (.tuple #[.slice none 0 0, .int .i64 0, .int .u64 0, .int .i64 0])) := by
  subst h
  have hj : joinE [] ≠ 0 := by unfold joinE; decide
  exact ⟨.slice none 0 0, by simp [whN, whA, hj], by simp [whB, hj]; exact Row.nil w', (fun b off n c e => by cases e), hb⟩
theorem wholeP_bad {w w' : World} {W : List Fr × Int} (h : W = ([], 5)) (hb : Below w.heap.size w w') : WholeP w w' W (.returned (.tuple #[.slice none 0 0, .int .i64 0, .int .u64 0, .int .i64 5])) := by
  subst h
  exact ⟨.slice none 0 0, by simp [whN, whA], by simp [whB]; exact Row.nil w', (fun b off n c e => by cases e), hb⟩

set_option maxRecDepth 20000 in
set_option maxHeartbeats 8000000 in
theorem lwhole_any (rs : Array Value) (sec : Nat → List UInt8) (t p A o : Nat) (w : World) (hsz : rs.size = 30) (hrs : ∀ i, i < 30 → ∃ v, rs[i]? = some v ∧ Row w v (sec i) ∧ (sec i).length ≤ 512) (ht : o ≤ t) (ht2 : t ≤ o + 30) (ho : o ≤ 4611686018427387904) (_hA : A < 18446744073709551616) (_hp : p < 18446744073709551616) :
    Calls Try.prog 8 #[.agg rs, .int .i64 30, .int .u64 (t : Int), .int .u64 (p : Int), .int .u64 (A : Int), .int .u64 (o : Int)] w fun e w' => WholeP w w' (partsW (rawFr sec o) A t p) e := by
  obtain ⟨i0, hi, hz0, hz1, hz2⟩ := info_parts Try.info72
  obtain ⟨fr, hfr⟩ : ∃ fr, fr = rawFr sec o := ⟨_, rfl⟩
  rw [← hfr]
  have HFR := hide hfr
  have HRS := hide hrs
  have HSZ := hide hsz
  obtain ⟨W0, hW0⟩ : ∃ W0, W0 = w.alloc (.cells rs 32) := ⟨_, rfl⟩
  have hB0 : Below w.heap.size w W0 := by rw [hW0]; exact (Below.refl _ _).alloc (Nat.le_refl _) _
  have hX0 : W0.heap[w.heap.size]? = some (.cells rs 32 (0, 0)) := by rw [hW0]; exact heap_alloc_new w _
  have HW0 := hide hW0
  have HB0 := hide hB0
  have HX0 := hide hX0
  have htI : (t : Int) ≤ 4611686018427387934 := by omega
  have hoI : (o : Int) ≤ (t : Int) := by omega
  have hto : (t : Int) ≤ (o : Int) + 30 := by omega
  have HTO := hide (And.intro ht ht2)
  clear hfr hrs hsz hW0 hB0 hX0 ht ht2 ho
  go_enter Try.func8, Try.ntmps8
  go_wp2_with fail
  rw [← unhide HW0]
  obtain ⟨bx, hbx⟩ : ∃ bx, bx = Value.pointer (some ⟨w.heap.size, 0, none⟩) := ⟨_, rfl⟩
  have HBX0 := hide hbx
  rw [← hbx]
  clear hbx
  go_loopw [16, 17] (fun lv kv wr => ∃ (k : Nat) (L : List (Fr × Value)), kv = .int .i64 (k : Int) ∧ k ≤ 30 ∧ L.length = k ∧ Hid (FOwn wr (w.heap.size + 1) lv L) ∧ Hid (WhI fr A t p k (frs L)) ∧ Hid (t + k ≤ o + 30) ∧ Hid (Below W0.heap.size W0 wr)) (fun _ kv _ => 31 - (intOf kv).toNat)
  case atStart => exact ⟨0, [], rfl, Nat.zero_le _, rfl, FOwn.nil _ _, Or.inl ⟨rfl, rfl⟩, (unhide HTO).2, Below.refl _ _⟩
  case round =>
    obtain ⟨k, L, rfl, hk30, hLk, hF, hWI, htk, hbel⟩ := hrel
    have hkI : (k : Int) ≤ 30 := by omega
    have HW0S : Hid (W0.heap.size = w.heap.size + 1) := by unfold Hid; rw [unhide HW0]; simp
    obtain ⟨la, lc, hlv, hlc1, hlc2, _⟩ := (unhide hF).fl.shape
    subst hlv
    have HLK := hide hLk
    have HCEL : Hid (0 < k → ∃ b off, la = some ⟨b, off, none⟩ ∧ wr.cell? ⟨b, off, none⟩ = some (.int .u64 ((fr t).1.age : Int)) ∧ wr.cell? ⟨b, off + 2, none⟩ = some (.int .i64 (fr t).1.of)) := fun h0 => by
      obtain ⟨b, off, cap, e, _, _, _, h4⟩ := (unhide hF).fl.open (fun e => by rw [e] at hLk; simp at hLk; omega)
      simp only [Value.slice.injEq] at e
      obtain ⟨rfl, _, rfl⟩ := e
      obtain ⟨⟨a0, a1, a2, a3⟩, _⟩ := h4 0 (by omega)
      have hd : (L[0]'(by omega)).1 = (fr t).1 := by
        rcases unhide hWI with ⟨e, _⟩ | ⟨_, _, _, e, _⟩
        · omega
        · rw [← e]
          cases L with
          | nil => simp at hLk; omega
          | cons x l => rfl
      rw [hd] at a0 a2
      simp only [Nat.zero_mul, Nat.add_zero] at a0 a2
      exact ⟨b, off, rfl, a0, a2⟩
    rw [hLk] at hlc1 ⊢
    clear hLk
    go_upto_region 3 with fail
    go_cut [35] from 25 to 34 (fun c wc => c = .bool (decide (WhM fr t k)) ∧ wc = wr)
    case first =>
      clear hF hWI htk hbel
      by_cases h0 : k = 0
      · subst h0
        clear HCEL
        go_wp2_with fail
        go_meet
        exact ⟨by simp [WhM], rfl⟩
      · obtain ⟨lb, lo, rfl, x0, x2⟩ := unhide HCEL (by omega)
        have hk0 : ¬ (k : Int) = 0 := by omega
        have hk0b : (k == 0) = false := by simp [h0]
        have hk0i : ((k : Int) == 0) = false := by simp; omega
        have hkp : (0 : Int) < (k : Int) := by omega
        by_cases hM : WhM fr t k
        · have hlt : (k : Int) < (fr t).1.of := by rcases hM with e | e; omega; omega
          have HM := hide hM
          clear hM HCEL
          go_wp2_with fail
          go_meet
          exact ⟨by rw [decide_eq_true (unhide HM)], rfl⟩
        · have hlt : ¬ (k : Int) < (fr t).1.of := fun e => hM (Or.inr (by omega))
          have HM := hide hM
          clear hM HCEL
          go_wp2_with fail
          go_meet
          exact ⟨by rw [decide_eq_false (unhide HM)], rfl⟩
    case rest =>
      obtain ⟨rfl, hwc⟩ := hcut
      subst hwc
      have HBW : Hid (Below w.heap.size w wc) := (unhide HB0).trans ((unhide hbel).mono (unhide HB0).size)
      have HBX : Hid (wc.heap[w.heap.size]? = some (.cells rs 32 (0, 0))) := ((unhide hbel).block w.heap.size (Array.getElem?_eq_some_iff.1 (unhide HX0)).1).trans (unhide HX0)
      by_cases hM : WhM fr t k
      · rw [decide_eq_true hM]
        have HM := hide hM
        clear hM
        have hkn : 0 ≤ (k : Int) := by omega
        by_cases hend : o + 30 ≤ t + k
        · have hendI : (30 : Int) ≤ (t : Int) + (k : Int) - (o : Int) := by omega
          have hsw : IntKind.u64.wrap ((t : Int) + (k : Int) - (o : Int)) = (t : Int) + (k : Int) - (o : Int) := by rw [IntKind.wrap_u64]; omega
          have HFZ : Hid (fr (t + k) = (zeroF, 0)) := by unfold Hid; rw [unhide HFR]; unfold rawFr frameW; rw [if_pos (by omega)]
          clear hend
          go_wp2_with fail
          refine bodyPost_ret (v := .tuple #[.slice none 0 0, .int .i64 0, .int .u64 0, .int .i64 0]) (by simp [results, Try.results8, go_sem]) rfl ?_
          exact wholeP_none ((unhide hWI).none (unhide HM) (by rw [unhide HFZ]) (Or.inl (by rw [unhide HFZ]; decide))) (unhide HBW)
        · have hendI : ¬ (30 : Int) ≤ (t : Int) + (k : Int) - (o : Int) := by omega
          have hsw : IntKind.u64.wrap ((t : Int) + (k : Int) - (o : Int)) = (t : Int) + (k : Int) - (o : Int) := by rw [IntKind.wrap_u64]; omega
          have hend2 : t + k < o + 30 := by omega
          have HFQ0 : Hid (fr (t + k) = bearsW (sec ((t + k) % 30)) (t + k)) := by unfold Hid; rw [unhide HFR]; unfold rawFr frameW; rw [if_neg (by omega)]
          obtain ⟨hmod, hq30, hqw, hqI, hq0⟩ := mod30 (t + k)
          rw [Int.natCast_add] at hmod
          generalize (t + k) % 30 = q at *
          obtain ⟨v, hv, hrow, hsl⟩ := unhide HRS q hq30
          have hrw := hrow.below (unhide HBW)
          obtain ⟨vp, vl, vc, rfl⟩ := slice_of_row hrw
          have hcv : wc.cell? ⟨w.heap.size, q, none⟩ = some (.slice vp vl vc) := by rw [cell_of_row wc _ _ _ _ (0, 0) (unhide HBX)]; exact hv
          have HFQ := HFQ0
          have hix : ∀ W, (Instr.indexAt 32 bx (.int .i64 (q : Int))).run Try.prog W = .ok (.pointer (some ⟨w.heap.size, q, none⟩)) W := fun W => by rw [unhide HBX0]; exact idx30 w.heap.size q hq30 W
          have HOP := hide (ropen_any _ (sec q) wc hrw)
          have HOL := hide (open_len (sec q))
          have HOT := hide (open_turn (sec q))
          have HE2 := hide hend2
          generalize sec q = sb at *
          clear hend hend2 hq30 hv hrow hsl hrw HFQ0
          go_upto_region 8 with fail
          have HTK := hide (show (t : Int) + (k : Int) = ((t + k : Nat) : Int) from rfl)
          generalize hTK : (t : Int) + (k : Int) = TK at *
          clear hTK hsw hendI htI hoI hto
          go_wp2_with fail
          refine Calls.mono (unhide HOP) ?_
          rintro e w1 ⟨t2, rfl, ho2, b1⟩
          have hr2 := row_of_owns ho2
          obtain ⟨p2, l2, c2, rfl⟩ := slice_of_row hr2
          obtain ⟨KD, hKD⟩ : ∃ KD, KD = (openR sb).1.toNat := ⟨_, rfl⟩
          obtain ⟨TN, hTN⟩ : ∃ TN, TN = (openR sb).2.1 := ⟨_, rfl⟩
          obtain ⟨ER, hER⟩ : ∃ ER, ER = (openR sb).2.2.2 := ⟨_, rfl⟩
          obtain ⟨PL, hPL⟩ : ∃ PL, PL = (openR sb).2.2.1 := ⟨_, rfl⟩
          rw [← hKD, ← hTN, ← hER]
          rw [← hPL] at hr2
          have hPLl : PL.length ≤ 496 := by rw [hPL]; exact unhide HOL
          have hTNb : TN < 18446744073709551616 := by rw [hTN]; exact unhide HOT
          have HBE : Hid (KD = (openR sb).1.toNat ∧ TN = (openR sb).2.1 ∧ ER = (openR sb).2.2.2 ∧ PL = (openR sb).2.2.1) := ⟨hKD, hTN, hER, hPL⟩
          have HB1 := hide b1
          have HF1 := hide ((unhide hF).below b1)
          have HR2 := hide hr2
          have HPLL := hide hPLl
          clear hKD hTN hER hPL ho2 b1 hr2 hPLl HOP hcv hF HOL HOT
          by_cases herr : ER = 0
          · subst herr
            obtain ⟨W2, hW2⟩ : ∃ W2, W2 = w1.alloc (.cells #[.int .u8 (KD : Int), .int .u64 (TN : Int), .slice p2 l2 c2] 74) := ⟨_, rfl⟩
            have hb2 : Below w1.heap.size w1 W2 := by rw [hW2]; exact (Below.refl _ _).alloc (Nat.le_refl _) _
            have hX2 : W2.heap[w1.heap.size]? = some (.cells #[.int .u8 (KD : Int), .int .u64 (TN : Int), .slice p2 l2 c2] 74 (0, 0)) := by rw [hW2]; exact heap_alloc_new w1 _
            have HRD := hide (rread_own _ PL W2 ((unhide HR2).below hb2) (by have := unhide HPLL; omega))
            have HB2 := hide hb2
            have HX2 := hide hX2
            have HW2 := hide hW2
            clear hb2 hX2 hW2
            go_wp2_with fail
            rw [← unhide HW2]
            refine Calls.mono (unhide HRD) ?_
            rintro e w3 ⟨t3, rfl, m3, b3⟩
            unfold fv
            obtain ⟨p3, l3, c3, e3⟩ := slice_of_row m3.row
            subst e3
            obtain ⟨f, hf⟩ : ∃ f, f = (readF PL).1 := ⟨_, rfl⟩
            obtain ⟨FE, hFE⟩ : ∃ FE, FE = (readF PL).2 := ⟨_, rfl⟩
            rw [← hf] at m3 ⊢
            rw [← hFE]
            have HFF : Hid (f = (readF PL).1 ∧ FE = (readF PL).2) := ⟨hf, hFE⟩
            obtain ⟨W4, hW4⟩ : ∃ W4, W4 = w3.alloc (.cells #[.int .u64 (f.age : Int), .int .u64 (f.first : Int), .int .i64 f.of, .slice p3 l3 c3] 72) := ⟨_, rfl⟩
            have hb4 : Below w3.heap.size w3 W4 := by rw [hW4]; exact (Below.refl _ _).alloc (Nat.le_refl _) _
            have h4 : At4 W4 w3.heap.size 0 (.int .u64 (f.age : Int)) (.int .u64 (f.first : Int)) (.int .i64 f.of) (.slice p3 l3 c3) := by rw [hW4]; exact at4_new _ _ _ _ _ _
            have hb24 : Below W2.heap.size W2 W4 := b3.trans (hb4.mono b3.size)
            have hs0 : W4.cell? ⟨w1.heap.size, 0, none⟩ = some (.int .u8 (KD : Int)) := by
              have h : W2.cell? ⟨w1.heap.size, 0, none⟩ = some (.int .u8 (KD : Int)) := by rw [cell_of_row W2 _ _ _ _ (0, 0) (unhide HX2)]; rfl
              exact (hb24.cell (World.block_lt_of_cell? W2 _ h)).trans h
            have hs1 : W4.cell? ⟨w1.heap.size, 1, none⟩ = some (.int .u64 (TN : Int)) := by
              have h : W2.cell? ⟨w1.heap.size, 1, none⟩ = some (.int .u64 (TN : Int)) := by rw [cell_of_row W2 _ _ _ _ (0, 0) (unhide HX2)]; rfl
              exact (hb24.cell (World.block_lt_of_cell? W2 _ h)).trans h
            have hb14 : Below w1.heap.size w1 W4 := (unhide HB2).trans (hb24.mono (unhide HB2).size)
            have hbc4 : Below wc.heap.size wc W4 := (unhide HB1).trans (hb14.mono (unhide HB1).size)
            have HF4 := hide ((unhide HF1).below hb14)
            have HB4 : Hid (Below w.heap.size w W4) := (unhide HBW).trans (hbc4.mono (unhide HBW).size)
            have HB04 : Hid (Below W0.heap.size W0 W4) := (unhide hbel).trans (hbc4.mono (unhide hbel).size)
            have HM4 : Hid (Row W4 (.slice p3 l3 c3) f.data ∧ ∀ b off n c, (Value.slice p3 l3 c3) = .slice (some ⟨b, off, none⟩) n c → f.data ≠ [] → (Value.slice la L.length lc).ownBlock ≠ some b) := ⟨m3.row.below hb4, by
              intro b off n c e hne hb
              have h1 := ((unhide HF1).1.lt b hb).2
              have h2 := (unhide HB2).size
              rcases m3.2 with h | ⟨g', off', cap', e', cur', he, hg', _⟩
              · exact hne h
              · rw [e] at he
                simp only [Value.slice.injEq, Option.some.injEq, Addr.mk.injEq, and_true] at he
                omega⟩
            have HC4 : Hid (0 < k → ∃ b off, la = some ⟨b, off, none⟩ ∧ W4.cell? ⟨b, off, none⟩ = some (.int .u64 ((fr t).1.age : Int)) ∧ W4.cell? ⟨b, off + 2, none⟩ = some (.int .i64 (fr t).1.of)) := fun h0 => by
              obtain ⟨b, off, e, a0, a2⟩ := unhide HCEL h0
              exact ⟨b, off, e, (hbc4.cell (World.block_lt_of_cell? wc _ a0)).trans a0, (hbc4.cell (World.block_lt_of_cell? wc _ a2)).trans a2⟩
            have HW4 := hide hW4
            have HN : Hid (∀ _ : KD ≠ 77 ∨ (TN : Int) ≠ TK ∨ FE ≠ 0 ∨ (f.first : Int) ≠ (t : Int) ∨ A ≤ f.age ∨ f.age < p, partsW fr A t p = ([], 0)) := by
              intro hb
              obtain ⟨g1, g2, g3, g4⟩ := unhide HBE
              obtain ⟨g5, g6⟩ := unhide HFF
              by_cases hx : (openR sb).1 ≠ 77 ∨ (openR sb).2.1 ≠ t + k ∨ (readF (openR sb).2.2.1).2 ≠ 0
              · have hz : fr (t + k) = (zeroF, 0) := by rw [unhide HFQ]; exact bears_none g3.symm hx
                exact (unhide hWI).none (unhide HM) (by rw [hz]) (Or.inl (by rw [hz]; decide))
              · have hz : fr (t + k) = (f, 0) := by rw [unhide HFQ, g5, g4]; exact bears_frame g3.symm hx
                refine (unhide hWI).none (unhide HM) (by rw [hz]) ?_
                rw [hz]
                have g7 := unhide HTK
                have hx1 : (openR sb).1 = 77 := Decidable.byContradiction fun e => hx (Or.inl e)
                have hx2 : (openR sb).2.1 = t + k := Decidable.byContradiction fun e => hx (Or.inr (Or.inl e))
                have hx3 : (readF (openR sb).2.2.1).2 = 0 := Decidable.byContradiction fun e => hx (Or.inr (Or.inr e))
                rw [hx1] at g1
                rw [← g4, ← g6] at hx3
                rw [hx2] at g2
                rcases hb with h | h | h | h | h | h
                · exact absurd g1 h
                · rw [g2, g7] at h; exact absurd rfl h
                · exact absurd hx3 h
                · exact Or.inr (Or.inl (by simp only; omega))
                · exact Or.inr (Or.inr (Or.inl h))
                · exact Or.inr (Or.inr (Or.inr (Or.inl h)))
            have HY : Hid (∀ _ : ¬ (KD ≠ 77 ∨ (TN : Int) ≠ TK ∨ FE ≠ 0 ∨ (f.first : Int) ≠ (t : Int) ∨ A ≤ f.age ∨ f.age < p), fr (t + k) = (f, 0) ∧ f.ok ∧ 1 ≤ f.of) := by
              intro hb
              obtain ⟨g1, g2, g3, g4⟩ := unhide HBE
              obtain ⟨g5, g6⟩ := unhide HFF
              have g7 := unhide HTK
              have h1 : KD = 77 := Decidable.byContradiction fun e => hb (Or.inl e)
              have h2 : (TN : Int) = TK := Decidable.byContradiction fun e => hb (Or.inr (Or.inl e))
              have h3 : FE = 0 := Decidable.byContradiction fun e => hb (Or.inr (Or.inr (Or.inl e)))
              refine ⟨?_, by rw [g5]; exact wr_readF_ok PL (by rw [← g6]; exact h3), by rw [g5]; exact ((may_iff _).1 (bytes_read PL (by rw [← g6]; exact h3)).1).1⟩
              rw [unhide HFQ, g5, g4]
              refine bears_frame g3.symm ?_
              rintro (h | h | h)
              · apply h; apply UInt8.toNat_inj.1; rw [← g1, h1]; rfl
              · apply h; rw [← g2]; omega
              · apply h; rw [← g4, ← g6]; exact h3
            obtain ⟨a0, a1, a2, a3⟩ := h4
            simp only [Nat.zero_add] at a0 a1 a2 a3
            clear hf hFE hb4 hW4 m3 hb24 hb14 hbc4 b3 HF1 HBE HR2 HPLL HFF HRD HB2 HX2 HW2 HB1 HCEL HFQ
            go_upto_region 12 with fail
            rw [← unhide HW4]
            go_cut [97] from 67 to 96 (fun c wd => c = .bool (decide (KD ≠ 77 ∨ (TN : Int) ≠ TK ∨ FE ≠ 0 ∨ (f.first : Int) ≠ (t : Int) ∨ A ≤ f.age ∨ f.age < p)) ∧ wd = W4)
            case first =>
              clear hWI htk hbel HC4 HF4 HB4 HB04 HM4 HN HY HW4 HBX HBW HM a2 a3
              by_cases h1 : (KD : Int) = 77
              · skip
                have k1a : ((KD : Int) == 77) = true := by simp; omega
                have k1b : ((KD : Int) != 77) = false := by simp; omega
                have k1c : (KD == 77) = true := by simp; omega
                have k1d : decide (KD = 77) = true := by simp; omega
                by_cases h2 : (TN : Int) = TK
                · skip
                  have k2a : ((TN : Int) == TK) = true := by simp; omega
                  have k2b : ((TN : Int) != TK) = false := by simp; omega
                  by_cases h3 : FE = 0
                  · skip
                    have k3a : (FE == 0) = true := by simp; omega
                    have k3b : (FE != 0) = false := by simp; omega
                    by_cases h4 : (f.first : Int) = (t : Int)
                    · skip
                      have k4a : ((f.first : Int) == (t : Int)) = true := by simp; omega
                      have k4b : ((f.first : Int) != (t : Int)) = false := by simp; omega
                      have k4c : (f.first == t) = true := by simp; omega
                      have k4d : decide (f.first = t) = true := by simp; omega
                      by_cases h5 : ¬ (A : Int) ≤ (f.age : Int)
                      · skip
                        have k5a : decide ((A : Int) ≤ (f.age : Int)) = false := by simp; omega
                        have k5b : decide (A ≤ f.age) = false := by simp; omega
                        by_cases h6 : ¬ (f.age : Int) < (p : Int)
                        · skip
                          have k6a : decide ((f.age : Int) < (p : Int)) = false := by simp; omega
                          have k6b : decide (f.age < p) = false := by simp; omega
                          have HDD : Hid (¬ (KD ≠ 77 ∨ (TN : Int) ≠ TK ∨ FE ≠ 0 ∨ (f.first : Int) ≠ (t : Int) ∨ A ≤ f.age ∨ f.age < p)) := by unfold Hid; omega
                          clear h1 h2 h3 h4
                          go_wp2_with fail
                          go_meet
                          exact ⟨by rw [decide_eq_false (unhide HDD)], rfl⟩
                        · skip
                          have k6a : decide ((f.age : Int) < (p : Int)) = true := by simp; omega
                          have k6b : decide (f.age < p) = true := by simp; omega
                          have HDD : Hid (KD ≠ 77 ∨ (TN : Int) ≠ TK ∨ FE ≠ 0 ∨ (f.first : Int) ≠ (t : Int) ∨ A ≤ f.age ∨ f.age < p) := by unfold Hid; omega
                          clear h1 h2 h3 h4
                          go_wp2_with fail
                          go_meet
                          exact ⟨by rw [decide_eq_true (unhide HDD)], rfl⟩
                      · skip
                        have k5a : decide ((A : Int) ≤ (f.age : Int)) = true := by simp; omega
                        have k5b : decide (A ≤ f.age) = true := by simp; omega
                        have HDD : Hid (KD ≠ 77 ∨ (TN : Int) ≠ TK ∨ FE ≠ 0 ∨ (f.first : Int) ≠ (t : Int) ∨ A ≤ f.age ∨ f.age < p) := by unfold Hid; omega
                        clear h1 h2 h3 h4
                        go_wp2_with fail
                        go_meet
                        exact ⟨by rw [decide_eq_true (unhide HDD)], rfl⟩
                    · skip
                      have k4a : ((f.first : Int) == (t : Int)) = false := by simp; omega
                      have k4b : ((f.first : Int) != (t : Int)) = true := by simp; omega
                      have k4c : (f.first == t) = false := by simp; omega
                      have k4d : decide (f.first = t) = false := by simp; omega
                      have HDD : Hid (KD ≠ 77 ∨ (TN : Int) ≠ TK ∨ FE ≠ 0 ∨ (f.first : Int) ≠ (t : Int) ∨ A ≤ f.age ∨ f.age < p) := by unfold Hid; omega
                      clear h1 h2 h3 h4
                      go_wp2_with fail
                      go_meet
                      exact ⟨by rw [decide_eq_true (unhide HDD)], rfl⟩
                  · skip
                    have k3a : (FE == 0) = false := by simp; omega
                    have k3b : (FE != 0) = true := by simp; omega
                    have HDD : Hid (KD ≠ 77 ∨ (TN : Int) ≠ TK ∨ FE ≠ 0 ∨ (f.first : Int) ≠ (t : Int) ∨ A ≤ f.age ∨ f.age < p) := by unfold Hid; omega
                    clear h1 h2 h3
                    go_wp2_with fail
                    go_meet
                    exact ⟨by rw [decide_eq_true (unhide HDD)], rfl⟩
                · skip
                  have k2a : ((TN : Int) == TK) = false := by simp; omega
                  have k2b : ((TN : Int) != TK) = true := by simp; omega
                  have HDD : Hid (KD ≠ 77 ∨ (TN : Int) ≠ TK ∨ FE ≠ 0 ∨ (f.first : Int) ≠ (t : Int) ∨ A ≤ f.age ∨ f.age < p) := by unfold Hid; omega
                  clear h1 h2
                  go_wp2_with fail
                  go_meet
                  exact ⟨by rw [decide_eq_true (unhide HDD)], rfl⟩
              · skip
                have k1a : ((KD : Int) == 77) = false := by simp; omega
                have k1b : ((KD : Int) != 77) = true := by simp; omega
                have k1c : (KD == 77) = false := by simp; omega
                have k1d : decide (KD = 77) = false := by simp; omega
                have HDD : Hid (KD ≠ 77 ∨ (TN : Int) ≠ TK ∨ FE ≠ 0 ∨ (f.first : Int) ≠ (t : Int) ∨ A ≤ f.age ∨ f.age < p) := by unfold Hid; omega
                clear h1
                go_wp2_with fail
                go_meet
                exact ⟨by rw [decide_eq_true (unhide HDD)], rfl⟩
            case rest =>
              obtain ⟨rfl, hwd⟩ := hcut
              rw [hwd]
              clear hwd
              by_cases hbad : KD ≠ 77 ∨ (TN : Int) ≠ TK ∨ FE ≠ 0 ∨ (f.first : Int) ≠ (t : Int) ∨ A ≤ f.age ∨ f.age < p
              · rw [decide_eq_true hbad]
                have HRES := hide (unhide HN hbad)
                clear hbad HN HY a0 a1 a2 a3 hs0 hs1
                go_wp2_with fail
                refine bodyPost_ret (v := .tuple #[.slice none 0 0, .int .i64 0, .int .u64 0, .int .i64 0]) (by simp [results, Try.results8, go_sem]) rfl ?_
                exact wholeP_none (unhide HRES) (unhide HB4)
              · rw [decide_eq_false hbad]
                have HRES := hide (unhide HY hbad)
                have HNB : Hid (f.first = t ∧ ¬ A ≤ f.age ∧ ¬ f.age < p) := by unfold Hid; omega
                clear hbad HN HY hs0 hs1
                go_upto_region 14 with fail
                go_cut [117] from 98 to 116 (fun c wd => c = .bool (decide (0 < k ∧ (f.of ≠ (fr t).1.of ∨ (f.age : Int) ≠ ((fr t).1.age : Int)))) ∧ ∃ n, wd = W4.drewN n)
                case first =>
                  by_cases h0 : k = 0
                  · subst h0
                    clear hWI htk hbel HF4 HB4 HB04 HM4 HRES HNB HW4 HBX HBW HM HC4
                    go_quiet (fail)
                    go_wp2_with fail
                    go_meet
                    exact ⟨by simp, nq, rfl⟩
                  · obtain ⟨lb, lo, rfl, x0, x2⟩ := unhide HC4 (by omega)
                    have hk0 : ¬ (k : Int) = 0 := by omega
                    have hkp : (0 : Int) < (k : Int) := by omega
                    have hkd : decide ((0 : Int) < (k : Int)) = true := decide_eq_true hkp
                    have hkp2 : 0 < k := by omega
                    have hkd2 : decide (0 < k) = true := decide_eq_true hkp2
                    have HKP : Hid (0 < k) := by unfold Hid; omega
                    clear hWI htk hbel HF4 HB4 HB04 HM4 HRES HNB HW4 HBX HBW HM HC4 h0
                    generalize (fr t).1.of = FO at *
                    generalize (fr t).1.age = FA at *
                    by_cases h1 : f.of = FO
                    · have k1a : (f.of == FO) = true := by simp [h1]
                      have k1b : (f.of != FO) = false := by simp [h1]
                      by_cases h2 : (f.age : Int) = (FA : Int)
                      · have k2a : ((f.age : Int) == (FA : Int)) = true := by simp; omega
                        have k2b : ((f.age : Int) != (FA : Int)) = false := by simp; omega
                        have k2c : (f.age == FA) = true := by simp; omega
                        have k2d : decide (f.age = FA) = true := by simp; omega
                        have HDD : Hid (¬ (0 < k ∧ (f.of ≠ FO ∨ (f.age : Int) ≠ (FA : Int)))) := by unfold Hid; omega
                        clear h1 h2
                        go_quiet (fail)
                        go_wp2_with fail
                        go_meet
                        exact ⟨by rw [decide_eq_false (unhide HDD)], nq, rfl⟩
                      · have k2a : ((f.age : Int) == (FA : Int)) = false := by simp; omega
                        have k2b : ((f.age : Int) != (FA : Int)) = true := by simp; omega
                        have k2c : (f.age == FA) = false := by simp; omega
                        have k2d : decide (f.age = FA) = false := by simp; omega
                        have HDD : Hid (0 < k ∧ (f.of ≠ FO ∨ (f.age : Int) ≠ (FA : Int))) := ⟨unhide HKP, Or.inr h2⟩
                        clear h1 h2
                        go_quiet (fail)
                        go_wp2_with fail
                        go_meet
                        exact ⟨by rw [decide_eq_true (unhide HDD)], nq, rfl⟩
                    · have k1a : (f.of == FO) = false := by simp [h1]
                      have k1b : (f.of != FO) = true := by simp [h1]
                      have HDD : Hid (0 < k ∧ (f.of ≠ FO ∨ (f.age : Int) ≠ (FA : Int))) := ⟨unhide HKP, Or.inl h1⟩
                      clear h1
                      go_quiet (fail)
                      go_wp2_with fail
                      go_meet
                      exact ⟨by rw [decide_eq_true (unhide HDD)], nq, rfl⟩
                case rest =>
                  obtain ⟨rfl, n5, hw5⟩ := hcut
                  obtain ⟨W5, hW5⟩ : ∃ W5, W5 = W4.drewN n5 := ⟨_, rfl⟩
                  rw [hw5, ← hW5]
                  clear hw5
                  have hb5 : Below W4.heap.size W4 W5 := by rw [hW5]; exact wr_drewN (Below.refl _ _) _
                  have d0 := (hb5.cell (World.block_lt_of_cell? W4 _ a0)).trans a0
                  have d1 := (hb5.cell (World.block_lt_of_cell? W4 _ a1)).trans a1
                  have d2 := (hb5.cell (World.block_lt_of_cell? W4 _ a2)).trans a2
                  have d3 := (hb5.cell (World.block_lt_of_cell? W4 _ a3)).trans a3
                  have HF5 : Hid (FOwn W5 (w.heap.size + 1) (.slice la k lc) L) := by have h := (unhide HF4).below hb5; rw [unhide HLK] at h; exact h
                  have HB5 := hide ((unhide HB4).trans (hb5.mono (unhide HB4).size))
                  have HB05 := hide ((unhide HB04).trans (hb5.mono (unhide HB04).size))
                  have HM5 : Hid (Row W5 (.slice p3 l3 c3) f.data ∧ ∀ b off n c, (Value.slice p3 l3 c3) = .slice (some ⟨b, off, none⟩) n c → f.data ≠ [] → (Value.slice la k lc).ownBlock ≠ some b) := ⟨(unhide HM4).1.below hb5, by have h := (unhide HM4).2; rw [unhide HLK] at h; exact h⟩
                  clear hb5 hW5 a0 a1 a2 a3 HF4 HB4 HB04 HM4 HC4 HW4
                  by_cases hd : 0 < k ∧ (f.of ≠ (fr t).1.of ∨ (f.age : Int) ≠ ((fr t).1.age : Int))
                  · rw [decide_eq_true hd]
                    have HR2 : Hid (partsW fr A t p = ([], 0)) := (unhide hWI).none (unhide HM) (by rw [(unhide HRES).1]) (by
                      rw [(unhide HRES).1]
                      refine Or.inr (Or.inr (Or.inr (Or.inr ⟨hd.1, ?_⟩)))
                      rcases hd.2 with h | h
                      · exact Or.inl h
                      · exact Or.inr (by simp only; omega))
                    clear hd d0 d1 d2 d3
                    go_wp2_with fail
                    refine bodyPost_ret (v := .tuple #[.slice none 0 0, .int .i64 0, .int .u64 0, .int .i64 0]) (by simp [results, Try.results8, go_sem]) rfl ?_
                    exact wholeP_none (unhide HR2) (unhide HB5)
                  · rw [decide_eq_false hd]
                    have HWN : Hid (WhI fr A t p (k + 1) (frs L ++ [f])) := by
                      have h := (unhide hWI).more (unhide HM) (by rw [(unhide HRES).1]) (by
                        rw [(unhide HRES).1]
                        obtain ⟨n1, n2, n3⟩ := unhide HNB
                        have o1 := (unhide HRES).2.2
                        simp only
                        intro hx
                        rcases hx with h | h | h | h | ⟨h, h'⟩
                        · omega
                        · exact h n1
                        · exact n2 h
                        · exact n3 h
                        · exact hd ⟨h, h'.elim Or.inl (fun e => Or.inr (by omega))⟩)
                      rw [(unhide HRES).1] at h
                      exact h
                    clear hd
                    obtain ⟨W, hW⟩ : ∃ W, W = W5.alloc (.cells #[.int .u64 (f.age : Int), .int .u64 (f.first : Int), .int .i64 f.of, .slice p3 l3 c3] 72) := ⟨_, rfl⟩
                    have hbW : Below W5.heap.size W5 W := by rw [hW]; exact (Below.refl _ _).alloc (Nat.le_refl _) _
                    have h4 : At4 W W5.heap.size 0 (.int .u64 (f.age : Int)) (.int .u64 (f.first : Int)) (.int .i64 f.of) (.slice p3 l3 c3) := by rw [hW]; exact at4_new _ _ _ _ _ _
                    have hFW := (unhide HF5).below hbW
                    have HMORE := hide (fun v' w2 => (unhide HF5).more (v' := v') (w2 := w2) (m := [(f, .slice p3 l3 c3)]) hbW (fun p hp => by
                      simp only [List.mem_singleton] at hp
                      subst hp
                      exact ⟨(unhide HRES).2.1, (unhide HM5).1, (unhide HM5).2⟩))
                    have HBW5 : Hid (Below w.heap.size w W) := (unhide HB5).trans (hbW.mono (unhide HB5).size)
                    have HB0W : Hid (Below W0.heap.size W0 W) := (unhide HB05).trans (hbW.mono (unhide HB05).size)
                    have HWW := hide hW
                    have HOWN : Hid (W.ownsRow (w.heap.size + 1) 72 4 (.slice la k lc) k (cellsL L)) := by have h := hFW.1; rw [unhide HLK] at h; exact h
                    have HLTB := hide (fun j hj => (hFW.1.lt j hj).1)
                    have hszW : w.heap.size + 1 ≤ W.heap.size := by have := (unhide HB0W).size; rw [unhide HW0S] at this; exact this
                    clear hW hbW hFW HF5 HB5 HB05 HM5 HRES HNB hWI hbel HBX HBW
                    go_wp2_with (at_builtin; rw [← unhide HWW]; refine wpList_append_gen rfl _ _ 70 rfl (w.heap.size + 1) 72 i0 _ Try.underlying70 hi hz0 4 48 (by omega) hz1 hz2 rfl (.slice la k lc) k (cellsL L) rfl (unhide HOWN) ⟨W5.heap.size, 0, none⟩ 1 1 (cellsL [(f, .slice p3 l3 c3)]) rfl rfl ?c1 ?c2 ?c3 ?c4 hszW ?_)
                    case c1 =>
                      intro j u hj
                      obtain ⟨a0, a1, a2, a3⟩ := h4
                      match j, hj with
                      | 0, hj => simp [cellsL, frC] at hj; subst hj; simpa [Addr.add] using a0
                      | 1, hj => simp [cellsL, frC] at hj; subst hj; simpa [Addr.add] using a1
                      | 2, hj => simp [cellsL, frC] at hj; subst hj; simpa [Addr.add] using a2
                      | 3, hj => simp [cellsL, frC] at hj; subst hj; simpa [Addr.add] using a3
                      | j + 4, hj => simp [cellsL, frC] at hj
                    case c2 => exact oneCell_L _ (fun p hp => by simp only [List.mem_singleton] at hp; subst hp; exact ⟨_, _, _, rfl⟩)
                    case c3 => unfold maxLen; omega
                    case c4 => omega
                    intro v' w2 hown2 hgrow hvb
                    have hF2 := unhide HMORE v' w2 (by rw [unhide HLK]; exact hown2) hgrow hvb
                    have HF2 := hide hF2
                    have HB2 : Hid (Below W0.heap.size W0 w2) := (unhide HB0W).grown hgrow (unhide HB0W).size (fun j hj => by have := unhide HLTB j hj; rw [unhide HW0S]; exact this)
                    clear hown2 hgrow hvb hF2 HMORE HOWN HBW5 HB0W HLTB h4 d0 d1 d2 d3
                    go_wp2
                    go_roundw
                    case rel => exact ⟨k + 1, _, by go_num, by have := unhide HE2; have := (unhide HTO).1; omega, by simp; exact unhide HLK, unhide HF2, by unfold Hid; rw [frs_append]; exact unhide HWN, by have := unhide HE2; unfold Hid; omega, unhide HB2⟩
                    case measure => simp [intOf]; omega
          · have hee : (ER != 0) = true := by simp [herr]
            have HRES : Hid (partsW fr A t p = ([], 5)) := by
              unfold Hid
              have hb : fr (t + k) = (zeroF, 5) := by rw [unhide HFQ]; exact bears_bad (by rw [← (unhide HBE).2.2.1]; exact herr)
              rw [(unhide hWI).bad (unhide HM) (by rw [hb]; decide), hb]
            have HBZ := hide (((unhide HBW).trans ((unhide HB1).mono (unhide HBW).size)).alloc (Nat.le_trans (unhide HBW).size (unhide HB1).size) (.cells #[.int .u8 (KD : Int), .int .u64 (TN : Int), .slice p2 l2 c2] 74))
            clear herr
            go_wp2_with fail
            refine bodyPost_ret (v := .tuple #[.slice none 0 0, .int .i64 0, .int .u64 0, .int .i64 5]) (by simp [results, Try.results8, go_sem]) rfl ?_
            exact wholeP_bad (unhide HRES) (unhide HBZ)
      · rw [decide_eq_false hM]
        obtain ⟨hP, hk1, hhd⟩ := (unhide hWI).whole hM
        obtain ⟨lb, lo, rfl, x0, x2⟩ := unhide HCEL (by omega)
        have HP := hide hP
        have HHD := hide hhd
        have HFL : Hid (FL wc (.slice (some ⟨lb, lo, none⟩) k lc) L) := by have h := (unhide hF).fl; rw [unhide HLK] at h; exact h
        have HJ := hide (rjoin_own _ L wc (unhide HFL))
        clear hM hP hhd HCEL hWI
        go_wp2_with fail
        refine Calls.mono (unhide HJ) ?_
        rintro e w1 ⟨t1, rfl, r1, lo1, b1⟩
        obtain ⟨p1, l1, c1, e1⟩ := slice_of_row r1
        subst e1
        obtain ⟨JE, hJE⟩ : ∃ JE, JE = joinE (frs L) := ⟨_, rfl⟩
        rw [← hJE]
        have HJE := hide hJE
        have y0 := (b1.cell (World.block_lt_of_cell? wc _ x0)).trans x0
        have HR1 := hide r1
        have HLO : Hid (∀ b off n c, Value.slice p1 l1 c1 = .slice (some ⟨b, off, none⟩) n c → w.heap.size ≤ b) := fun b off n c e => Nat.le_trans (unhide HBW).size (lo1 b off n c e)
        clear lo1
        have HB1 : Hid (Below w.heap.size w w1) := (unhide HBW).trans (b1.mono (unhide HBW).size)
        clear hJE r1 b1 HJ x0 x2
        by_cases hje : JE = 0
        · subst hje
          have hk1I : (1 : Int) ≤ (k : Int) := by omega
          go_wp2_with fail
          go_quiet (fail)
          go_wp2_with fail
          refine bodyPost_ret (v := .tuple #[.slice p1 l1 c1, .int .i64 (k : Int), .int .u64 ((fr t).1.age : Int), .int .i64 0]) (by simp [results, Try.results8, go_sem]) rfl ?_
          have hj : joinE (frs L) = 0 := (unhide HJE).symm
          rw [unhide HP]
          have hd : (Below w.heap.size w (w1.drewN nq)) := wr_drewN (unhide HB1) nq
          refine ⟨.slice p1 l1 c1, ?_, ?_, unhide HLO, hd⟩
          · simp only [whN, whA, hj, length_frs, unhide HLK, unhide HHD]; rfl
          · simp only [whB, hj]
            exact (unhide HR1).below (wr_drewN (Below.refl _ _) nq)
        · have hee : (JE != 0) = true := by simp [hje]
          have HJN := hide hje
          clear hje
          go_wp2_with fail
          refine bodyPost_ret (v := .tuple #[.slice none 0 0, .int .i64 0, .int .u64 0, .int .i64 0]) (by simp [results, Try.results8, go_sem]) rfl ?_
          have hj : joinE (frs L) ≠ 0 := by rw [← unhide HJE]; exact unhide HJN
          rw [unhide HP]
          exact ⟨.slice none 0 0, by simp [whN, whA, hj], by simp [whB, hj]; exact Row.nil _, (fun b off n c e => by cases e), unhide HB1⟩
end Go.Proofs.Ytpkpjmebkikgdaa
