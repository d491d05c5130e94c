/- The walk of the law DiskArmed, by the contracts of package disk. -/
import Derived.Test.YtkekikfiijbjmaaDiskOne
namespace Go.Proofs.Ytkekikfiijbjmaa
open Go.RowKit

/-- A device that is armed for the m-th call, ahead of the i-th. -/
structure Arming (m i : Nat) (s : DK) : Prop where
  n : s.n = 4
  up : i ≤ m → s.fell = false ∧ s.armed = m + 1 - i
  down : m < i → s.fell = true
  waits : s.waits.length ≤ i ∧ s.ticks ≤ i

theorem Arming.flush {m i : Nat} {s : DK} (h : Arming m i s) : Arming m (i + 1) s.flush ∧ (i < m → s.flushE = 0) ∧ (m ≤ i → s.flushE = 40) ∧ s.flush.fell = decide (m ≤ i) := by
  by_cases h1 : i ≤ m
  · obtain ⟨hf, ha⟩ := h.up h1
    by_cases h2 : i = m
    · have ha1 : s.armed = 1 := by omega
      have e : s.flush = s.tick := by unfold DK.flush; rw [if_neg (by rw [hf]; decide), if_pos ha1]
      have e2 : s.flushE = 40 := by unfold DK.flushE; rw [if_neg (by rw [hf]; decide), if_pos ha1]
      have hfl : s.tick.fell = true := by unfold DK.tick; rw [ha1]; rfl
      rw [e, e2]
      refine ⟨⟨h.n, fun hh => by omega, fun _ => hfl, by have := h.waits; simp [DK.tick]; omega⟩, fun hh => by omega, fun _ => rfl, ?_⟩
      rw [hfl]
      simp [h2]
    · have ha1 : ¬ s.armed = 1 := by omega
      have e : s.flush = { s with kept := keepAll s.kept s.waits, waits := [] }.tick := by unfold DK.flush; rw [if_neg (by rw [hf]; decide), if_neg ha1]
      have e2 : s.flushE = 0 := by unfold DK.flushE; rw [if_neg (by rw [hf]; decide), if_neg ha1]
      have hfl : s.flush.fell = false := by rw [e]; unfold DK.tick; simpa using ha1
      refine ⟨⟨by rw [e]; exact h.n, fun hh => ⟨hfl, by rw [e]; simp [DK.tick]; omega⟩, fun hh => by omega, by rw [e]; have := h.waits; simp [DK.tick]; omega⟩, fun _ => e2, fun hh => by omega, ?_⟩
      rw [hfl]
      simp
      omega
  · have hf := h.down (by omega)
    have e : s.flush = s := by unfold DK.flush; rw [if_pos hf]
    have e2 : s.flushE = 40 := by unfold DK.flushE; rw [if_pos hf]
    rw [e, e2, hf]
    exact ⟨⟨h.n, fun hh => by omega, fun _ => hf, by have := h.waits; omega⟩, fun hh => by omega, fun _ => rfl, by simp; omega⟩

theorem Arming.write {m i : Nat} {s : DK} (h : Arming m i s) (a : Int) (b : List UInt8) (ha0 : 0 ≤ a) (ha4 : a < 4) (hb : b.length = 512) :
    Arming m (i + 1) (s.write a b) ∧ (i < m → s.writeE a b = 0) ∧ (m ≤ i → s.writeE a b = 40) ∧ (s.write a b).fell = decide (m ≤ i) := by
  have hno : s.noSuch a = false := by
    unfold DK.noSuch
    rw [h.n]
    simp
    omega
  have hc : ¬ (s.noSuch a = true ∨ b.length ≠ 512) := by rw [hno, hb]; simp
  by_cases h1 : i ≤ m
  · obtain ⟨hf, ha⟩ := h.up h1
    have e : s.write a b = { s with waits := s.waits ++ [(a.toNat, b)] }.tick := by unfold DK.write; rw [if_neg (by rw [hf]; decide), if_neg hc]
    by_cases h2 : i = m
    · have ha1 : s.armed = 1 := by omega
      have e2 : s.writeE a b = 40 := by unfold DK.writeE; rw [if_neg (by rw [hf]; decide), if_neg hc, if_pos ha1]
      have hfl : (s.write a b).fell = true := by rw [e]; unfold DK.tick; simpa using ha1
      refine ⟨⟨by rw [e]; exact h.n, fun hh => by omega, fun _ => hfl, by rw [e]; have := h.waits; simp [DK.tick]; omega⟩, fun hh => by omega, fun _ => e2, ?_⟩
      rw [hfl]
      simp [h2]
    · have ha1 : ¬ s.armed = 1 := by omega
      have e2 : s.writeE a b = 0 := by unfold DK.writeE; rw [if_neg (by rw [hf]; decide), if_neg hc, if_neg ha1]
      have hfl : (s.write a b).fell = false := by rw [e]; unfold DK.tick; simpa using ha1
      refine ⟨⟨by rw [e]; exact h.n, fun hh => ⟨hfl, by rw [e]; simp [DK.tick]; omega⟩, fun hh => by omega, by rw [e]; have := h.waits; simp [DK.tick]; omega⟩, fun _ => e2, fun hh => by omega, ?_⟩
      rw [hfl]
      simp
      omega
  · have hf := h.down (by omega)
    have e : s.write a b = s := by unfold DK.write; rw [if_pos hf]
    have e2 : s.writeE a b = 40 := by unfold DK.writeE; rw [if_pos hf]
    rw [e, e2, hf]
    exact ⟨⟨h.n, fun hh => by omega, fun _ => hf, by have := h.waits; omega⟩, fun hh => by omega, fun _ => rfl, by simp; omega⟩

section
variable {DR : (Nat → Prop) → World → Value → DK → Prop} (C : DiskC DR)
include C

set_option maxRecDepth 20000 in
set_option maxHeartbeats 8000000 in
theorem armed_any (n : Int) (kv : Value) (ks : List Bool) (w : World) (hks : BRow w kv ks) :
    Calls Try.prog 8 #[.int .i64 n, kv] w fun e w' => e = .returned (.bool true) ∧ Below w.heap.size w w' := by
  have HN := hide (C.newOk 4 w (by omega) (by omega))
  have HKS := hide hks
  obtain ⟨kq, kc, rfl, hk1, hk2⟩ := hks.shape
  have hkI : (ks.length : Int) ≤ 9223372036854775807 := by unfold maxLen at hk2; omega
  clear hks hk2
  go_enter Try.func8, Try.ntmps8
  go_wp2_with fail
  refine Calls.mono (unhide HN) ?_
  rintro e w1 ⟨d, rfl, ⟨F, hd, hF⟩, hb1⟩
  obtain ⟨da, rfl⟩ := C.ptr hd
  have HD := hide hd
  have HF := hide hF
  clear HN hd hF
  go_wp2_with fail
  refine (awake_any C w1).mono ?_
  rintro e w2 ⟨rfl, hb2⟩
  have hd2 := C.stays (unhide HD) hb2.size (fun k hk => hb2.block k (C.lt (unhide HD) k hk))
  have HS2 := hide (DS.start_ (DR := DR) hd2)
  have B2 := hb1.trans (hb2.mono hb1.size)
  clear hd2 HD hb2 hb1
  go_wp2_with fail
  obtain ⟨m, hm, hm1, hm2⟩ : ∃ m : Nat, wrap64 (1 + wrap64 ((IntKind.u64.wrap n).tmod 20)) = (m : Int) ∧ 1 ≤ m ∧ m ≤ 20 := by
    have h0 : 0 ≤ IntKind.u64.wrap n := by rw [IntKind.wrap_u64]; omega
    rw [Int.tmod_eq_emod_of_nonneg h0]
    generalize IntKind.u64.wrap n = u at *
    refine ⟨(1 + u % 20).toNat, ?_, by omega, by omega⟩
    have e1 : wrap64 (u % 20) = u % 20 := by unfold wrap64; omega
    rw [e1]
    unfold wrap64
    omega
  rw [hm]
  have HA := hide (DS.arm C (unhide HS2) (m : Int) (by omega))
  have hA0 : Arming m 1 ((DK.new 4).arm (m : Int)) := by
    have e : (DK.new 4).arm (m : Int) = { DK.new 4 with armed := m, ticks := 0 } := by
      unfold DK.arm
      rw [if_neg (by decide), Int.toNat_natCast]
    rw [e]
    exact ⟨rfl, fun _ => ⟨rfl, by show m = m + 1 - 1; omega⟩, fun h => by omega, Nat.zero_le _, Nat.zero_le _⟩
  have HA0 := hide hA0
  have hmI1 : (1 : Int) ≤ m := by omega
  have hmI2 : (m : Int) ≤ 20 := by omega
  have eA : (DK.new 4).armE = 0 := rfl
  rw [eA] at HA
  clear hm hA0 eA
  refine Calls.mono (unhide HA) ?_
  rintro e w3 ⟨rfl, hs3⟩
  have HS3 := hide hs3
  clear HA hs3 HS2
  go_wp2_with fail
  go_loopw [7] (fun i wr => ∃ (k : Nat) (s : DK), 1 ≤ k ∧ k ≤ 31 ∧ i = .int .i64 k ∧ Hid (DS DR F w2 wr (.pointer (some da)) s ∧ Arming m k s)) (fun i _ => 31 - (intOf i).toNat)
  case atStart => exact ⟨1, _, by omega, by omega, rfl, unhide HS3, unhide HA0⟩
  case round =>
    obtain ⟨k, s, hk1', hk2', rfl, hS⟩ := hrel
    have hkI1 : (1 : Int) ≤ k := by omega
    have hbel : Below w.heap.size w wr := by
      obtain ⟨F', _, hm⟩ := hS.out.1
      exact B2.trans (hm.keep.below B2.size (unhide HF))
    by_cases hlt : (k : Int) ≤ 30
    · -- a call
      obtain ⟨hds, har⟩ := hS.out
      clear hS hk2'
      by_cases hin : (k : Int) ≤ ks.length
      · obtain ⟨j, hj⟩ : ∃ j : Nat, k = j + 1 := ⟨k - 1, by omega⟩
        have hjl : j < ks.length := by omega
        have hcell : ∃ b off c, kq = some ⟨b, off, none⟩ ∧ kc = c ∧ wr.cell? ⟨b, off + j, none⟩ = some (.bool ks[j]) := by
          obtain ⟨b, off, c, e1, _, e2⟩ := (unhide HKS).at j hjl
          simp only [Value.slice.injEq, true_and] at e1
          exact ⟨b, off, c, e1.1, e1.2, (hbel.cell (World.block_lt_of_cell? w _ e2)).trans e2⟩
        obtain ⟨kb, ko, _, rfl, rfl, kcell⟩ := hcell
        have hj1 : (k : Int) - 1 = j := by omega
        have hj2 : (j : Int) < ks.length := by omega
        cases hb : ks[j] with
        | true =>
          rw [hb] at kcell
          clear hb hj
          have HC := hide (DS.flush C hds (by have := har.waits; omega) (by have := har.waits; omega))
          obtain ⟨hA', hE0, hE4, hfl⟩ := har.flush
          generalize s.flush = s' at *
          generalize s.flushE = E at *
          clear hds har
          go_wp2_with fail
          refine Calls.mono (unhide HC) ?_
          rintro e w4 ⟨rfl, hs'⟩
          clear HC
          have HA' := hide hA'
          have HS' := hide hs'
          by_cases hkm : (k : Int) < m
          · have hE := hE0 (by omega)
            have hf' : s'.fell = false := by rw [hfl]; simp; omega
            have hkm2 : ¬ (m : Int) ≤ k := by omega
            have HDN := hide (DS.down C hs')
            rw [hf'] at HDN
            rw [hE]
            clear hE hE0 hE4 hfl hf' hs' hA' kcell hj1 hj2 hjl
            go_wp2_with fail
            refine Calls.mono (unhide HDN) ?_
            rintro e w5 ⟨rfl, hs5, _⟩
            have HS5 := hide hs5
            clear HDN hs5 HS'
            go_wp2
            go_roundw
            case rel => exact ⟨k + 1, s', by omega, by omega, by go_num, unhide HS5, unhide HA'⟩
            case measure => simp [intOf]; omega
          · have hE := hE4 (by omega)
            have hf' : s'.fell = true := by rw [hfl]; simp; omega
            have hkm2 : (m : Int) ≤ k := by omega
            have HDN := hide (DS.down C hs')
            rw [hf'] at HDN
            rw [hE]
            clear hE hE0 hE4 hfl hf' hs' hA' kcell hj1 hj2 hjl
            go_wp2_with fail
            refine Calls.mono (unhide HDN) ?_
            rintro e w5 ⟨rfl, hs5, _⟩
            have HS5 := hide hs5
            clear HDN hs5 HS'
            go_wp2
            go_roundw
            case rel => exact ⟨k + 1, s', by omega, by omega, by go_num, unhide HS5, unhide HA'⟩
            case measure => simp [intOf]; omega
        | false =>
          rw [hb] at kcell
          clear hb hj
          have HFU := hide (full_any (UInt8.ofNat k) false wr)
          have hlen : (fullS (UInt8.ofNat k) false).length = 512 := by unfold fullS; rw [if_neg (by decide)]; exact length_fullB _
          have hbyte : ((UInt8.ofNat k).toNat : Int) = (k : Int) := by simp; omega
          rw [hbyte] at HFU
          obtain ⟨hA', hE0, hE4, hfl⟩ := har.write ((k : Int) % 4) (fullS (UInt8.ofNat k) false) (by omega) (by omega) hlen
          have HCW := hide (fun w' t (hb : Below wr.heap.size wr w') (hm : Mine w' wr.heap.size t (fullS (UInt8.ofNat k) false)) => DS.writeNew C (w := w') hds hb ((k : Int) % 4) t _ hm (by have := har.waits; omega) (by have := har.waits; omega))
          generalize s.write ((k : Int) % 4) (fullS (UInt8.ofNat k) false) = s' at *
          generalize s.writeE ((k : Int) % 4) (fullS (UInt8.ofNat k) false) = E at *
          clear hds har hlen hbyte
          have hk256 : (k : Int) < 256 := by omega
          go_wp2_with fail
          refine Calls.mono (unhide HFU) ?_
          rintro e w4 ⟨t, rfl, hm4, hb4⟩
          have HCW4 := hide (unhide HCW w4 t hb4 hm4)
          clear HCW HFU hm4 hb4
          go_wp2_with fail
          refine Calls.mono (unhide HCW4) ?_
          rintro e w5 ⟨rfl, hs'⟩
          clear HCW4
          have HA' := hide hA'
          have HS' := hide hs'
          by_cases hkm : (k : Int) < m
          · have hE := hE0 (by omega)
            have hf' : s'.fell = false := by rw [hfl]; simp; omega
            have hkm2 : ¬ (m : Int) ≤ k := by omega
            have HDN := hide (DS.down C hs')
            rw [hf'] at HDN
            rw [hE]
            clear hE hE0 hE4 hfl hf' hs' hA' kcell hj1 hj2 hjl
            go_wp2_with fail
            refine Calls.mono (unhide HDN) ?_
            rintro e w6 ⟨rfl, hs5, _⟩
            have HS5 := hide hs5
            clear HDN hs5 HS'
            go_wp2
            go_roundw
            case rel => exact ⟨k + 1, s', by omega, by omega, by go_num, unhide HS5, unhide HA'⟩
            case measure => simp [intOf]; omega
          · have hE := hE4 (by omega)
            have hf' : s'.fell = true := by rw [hfl]; simp; omega
            have hkm2 : (m : Int) ≤ k := by omega
            have HDN := hide (DS.down C hs')
            rw [hf'] at HDN
            rw [hE]
            clear hE hE0 hE4 hfl hf' hs' hA' kcell hj1 hj2 hjl
            go_wp2_with fail
            refine Calls.mono (unhide HDN) ?_
            rintro e w6 ⟨rfl, hs5, _⟩
            have HS5 := hide hs5
            clear HDN hs5 HS'
            go_wp2
            go_roundw
            case rel => exact ⟨k + 1, s', by omega, by omega, by go_num, unhide HS5, unhide HA'⟩
            case measure => simp [intOf]; omega
      · have hin' : ¬ (k : Int) ≤ ks.length := hin
        have HFU := hide (full_any (UInt8.ofNat k) false wr)
        have hlen : (fullS (UInt8.ofNat k) false).length = 512 := by unfold fullS; rw [if_neg (by decide)]; exact length_fullB _
        have hbyte : ((UInt8.ofNat k).toNat : Int) = (k : Int) := by simp; omega
        rw [hbyte] at HFU
        obtain ⟨hA', hE0, hE4, hfl⟩ := har.write ((k : Int) % 4) (fullS (UInt8.ofNat k) false) (by omega) (by omega) hlen
        have HCW := hide (fun w' t (hb : Below wr.heap.size wr w') (hm : Mine w' wr.heap.size t (fullS (UInt8.ofNat k) false)) => DS.writeNew C (w := w') hds hb ((k : Int) % 4) t _ hm (by have := har.waits; omega) (by have := har.waits; omega))
        generalize s.write ((k : Int) % 4) (fullS (UInt8.ofNat k) false) = s' at *
        generalize s.writeE ((k : Int) % 4) (fullS (UInt8.ofNat k) false) = E at *
        clear hds har hlen hbyte
        have hk256 : (k : Int) < 256 := by omega
        go_wp2_with fail
        refine Calls.mono (unhide HFU) ?_
        rintro e w4 ⟨t, rfl, hm4, hb4⟩
        have HCW4 := hide (unhide HCW w4 t hb4 hm4)
        clear HCW HFU hm4 hb4
        go_wp2_with fail
        refine Calls.mono (unhide HCW4) ?_
        rintro e w5 ⟨rfl, hs'⟩
        clear HCW4
        have HA' := hide hA'
        have HS' := hide hs'
        by_cases hkm : (k : Int) < m
        · have hE := hE0 (by omega)
          have hf' : s'.fell = false := by rw [hfl]; simp; omega
          have hkm2 : ¬ (m : Int) ≤ k := by omega
          have HDN := hide (DS.down C hs')
          rw [hf'] at HDN
          rw [hE]
          clear hE hE0 hE4 hfl hf' hs' hA' hin
          go_wp2_with fail
          refine Calls.mono (unhide HDN) ?_
          rintro e w6 ⟨rfl, hs5, _⟩
          have HS5 := hide hs5
          clear HDN hs5 HS'
          go_wp2
          go_roundw
          case rel => exact ⟨k + 1, s', by omega, by omega, by go_num, unhide HS5, unhide HA'⟩
          case measure => simp [intOf]; omega
        · have hE := hE4 (by omega)
          have hf' : s'.fell = true := by rw [hfl]; simp; omega
          have hkm2 : (m : Int) ≤ k := by omega
          have HDN := hide (DS.down C hs')
          rw [hf'] at HDN
          rw [hE]
          clear hE hE0 hE4 hfl hf' hs' hA' hin
          go_wp2_with fail
          refine Calls.mono (unhide HDN) ?_
          rintro e w6 ⟨rfl, hs5, _⟩
          have HS5 := hide hs5
          clear HDN hs5 HS'
          go_wp2
          go_roundw
          case rel => exact ⟨k + 1, s', by omega, by omega, by go_num, unhide HS5, unhide HA'⟩
          case measure => simp [intOf]; omega
    · -- behind the calls
      obtain ⟨hds, har⟩ := hS.out
      have hf := har.down (by omega)
      have hwl := har.waits
      have HR := hide (DS.read C hds 0 (by omega))
      have e1 : s.readE 0 = 40 := by unfold DK.readE; rw [if_pos hf]
      have e2 : s.armE = 40 ∧ s.arm 3 = s := by unfold DK.armE DK.arm; rw [if_pos hf, if_pos hf]; exact ⟨rfl, rfl⟩
      have e3 : s.start = { s with fell := false, armed := 0, waits := [], ticks := 0 } := by unfold DK.start; rw [if_pos hf]
      rw [e1] at HR
      have HE2 := hide e2
      have HE3 := hide e3
      have HN4 := hide har.n
      have HWL := hide hwl
      clear hS hds har hf hwl e1 e2 e3 hk2'
      go_wp2_with fail
      refine Calls.mono (unhide HR) ?_
      rintro e w4 ⟨t, rfl, _, hs4, hb4⟩
      have B4 := hbel.trans (hb4.mono hbel.size)
      have HA4 := hide (DS.arm C hs4 3 (by omega))
      rw [(unhide HE2).1, (unhide HE2).2] at HA4
      clear HR hs4 hb4 HE2
      go_wp2_with fail
      refine Calls.mono (unhide HA4) ?_
      rintro e w5 ⟨rfl, hs5⟩
      have HS5 := hide (DS.start C hs5)
      rw [unhide HE3] at HS5
      clear HA4 hs5 HE3
      go_wp2_with fail
      refine Calls.mono (unhide HS5) ?_
      rintro e w6 ⟨rfl, hs6⟩
      have HD6 := hide (DS.down C hs6)
      have en : ({ s with fell := false, armed := 0, waits := [], ticks := 0 } : DK).fell = false := rfl
      rw [en] at HD6
      clear HS5 hs6 en
      go_wp2_with fail
      refine Calls.mono (unhide HD6) ?_
      rintro e w7 ⟨rfl, hs7, _⟩
      have hlen : (fullS 1 false).length = 512 := by unfold fullS; rw [if_neg (by decide)]; exact length_fullB _
      have hno : ({ s with fell := false, armed := 0, waits := [], ticks := 0 } : DK).noSuch 0 = false := by
        show decide ((0 : Int) < 0 ∨ (s.n : Int) ≤ 0) = false
        rw [unhide HN4]
        decide
      have ew : ({ s with fell := false, armed := 0, waits := [], ticks := 0 } : DK).writeE 0 (fullS 1 false) = 0 := by
        unfold DK.writeE
        rw [if_neg (show ¬ (false = true) by decide), hno, hlen, if_neg (by simp), if_neg (show ¬ (0 : Nat) = 1 by decide)]
      have ew2 : ({ s with fell := false, armed := 0, waits := [], ticks := 0 } : DK).write 0 (fullS 1 false) = ({ s with fell := false, armed := 0, waits := [(0, fullS 1 false)], ticks := 1 } : DK) := by
        unfold DK.write
        rw [if_neg (show ¬ (false = true) by decide), hno, hlen, if_neg (by simp)]
        rfl
      have ef : ({ s with fell := false, armed := 0, waits := [(0, fullS 1 false)], ticks := 1 } : DK).flushE = 0 := by
        unfold DK.flushE
        rw [if_neg (show ¬ (false = true) by decide), if_neg (show ¬ (0 : Nat) = 1 by decide)]
      have HFU := hide (full_any 1 false w7)
      have HCW := hide (fun w' t (hb : Below w7.heap.size w7 w') (hm : Mine w' w7.heap.size t (fullS 1 false)) => DS.writeNew C (w := w') hs7 hb 0 t _ hm (by show (0 : Nat) ≤ _; omega) (by show (0 : Nat) ≤ _; omega))
      rw [ew, ew2] at HCW
      have HEF := hide ef
      clear HD6 hs7 hlen hno ew ew2 ef
      go_wp2_with fail
      refine Calls.mono (unhide HFU) ?_
      rintro e w8 ⟨t8, rfl, hm8, hb8⟩
      have HW8 := hide (unhide HCW w8 t8 hb8 hm8)
      clear HFU HCW hm8 hb8
      go_wp2_with fail
      refine Calls.mono (unhide HW8) ?_
      rintro e w9 ⟨rfl, hs9⟩
      have HF9 := hide (DS.flush C hs9 (by show (1 : Nat) ≤ _; omega) (by show (1 : Nat) ≤ _; omega))
      rw [unhide HEF] at HF9
      clear HW8 hs9
      go_wp2_with fail
      refine Calls.mono (unhide HF9) ?_
      rintro e w10 ⟨rfl, hs10⟩
      have B10 : Below w.heap.size w w10 := by
        obtain ⟨F', _, hm⟩ := hs10
        exact B2.trans (hm.keep.below B2.size (unhide HF))
      clear HF9 hs10
      go_wp2
      go_ret
      exact ⟨rfl, B10⟩
end
end Go.Proofs.Ytkekikfiijbjmaa
