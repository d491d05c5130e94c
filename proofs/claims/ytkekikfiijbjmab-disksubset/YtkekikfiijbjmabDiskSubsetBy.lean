/- The walk of the law DiskSubset, by the contracts of package disk. -/
import Derived.Test.YtkekikfiijbjmabDiskOne
import Derived.Test.YtkekikfiijbjmabDiskCalm
import Derived.Test.YtkekikfiijbjmabDiskFalls
import Derived.Test.YtkekikfiijbjmabDiskRan
import Derived.Test.YtkekikfiijbjmabRowHeld
import Derived.Test.YtkekikfiijbjmabBytes
namespace Go.Proofs.Ytkekikfiijbjmab
open Go.RowKit

theorem calm_flushE (s : DK) : (s.start.arm 0).flushE = 0 := by
  have h1 : s.start.fell = false := by unfold DK.start; split; rfl; rename_i hf; simpa using hf
  have h2 : s.start.arm 0 = { s.start with armed := 0, ticks := 0 } := by unfold DK.arm; rw [if_neg (by rw [h1]; decide)]; rfl
  rw [h2]
  unfold DK.flushE
  rw [if_neg (by show ¬ s.start.fell = true; rw [h1]; decide), if_neg (show ¬ (0 : Nat) = 1 by decide)]
theorem calm_ticks (s : DK) : (s.start.arm 0).ticks = 0 := by
  have h1 : s.start.fell = false := by unfold DK.start; split; rfl; rename_i hf; simpa using hf
  unfold DK.arm
  rw [if_neg (by rw [h1]; decide)]
theorem calm_waits (s : DK) : (s.start.arm 0).waits.length ≤ s.waits.length := by
  have h1 : s.start.waits.length ≤ s.waits.length := by unfold DK.start; split <;> simp
  unfold DK.arm
  split <;> exact h1

theorem length_fullS_false (v : UInt8) : (fullS v false).length = 512 := by simp [fullS, length_fullB]

section
variable {DR : (Nat → Prop) → World → Value → DK → Prop} (C : DiskC DR)
include C

set_option maxRecDepth 20000 in
set_option maxHeartbeats 16000000 in
theorem subset_any (sv mv kv : Value) (l m : List OpD) (ks : List Bool) (w : World) (hl : Ops w sv l) (hm : Ops w mv m) (hk : BRow w kv ks) : Calls Try.prog 3 #[sv, mv, kv] w fun e w' => e = .returned (.bool true) ∧ Below w.heap.size w w' := by
  have HM := hide hm
  have HKS := hide hk
  obtain ⟨ma, mc, rfl, hmc, hmm⟩ := hm.shape
  have hmI : (m.length : Int) ≤ 9223372036854775807 := by unfold maxLen at hmm; omega
  obtain ⟨kq, kc, rfl, hkc, hkm⟩ := hk.shape
  have hkI : (ks.length : Int) ≤ 9223372036854775807 := by unfold maxLen at hkm; omega
  have HRAN := hide (ran_any C sv l w hl)
  obtain ⟨s, hs⟩ : ∃ s, s = runK l 100 (DK.new 8) := ⟨_, rfl⟩
  have hle := runK_le l 100 (DK.new 8)
  have hsn := runK_n l 100 (DK.new 8)
  rw [← hs] at HRAN hle hsn
  have HSW : Hid (s.waits.length ≤ 100) := by have := hle.1; have h0 : (DK.new 8).waits.length = 0 := rfl; unfold Hid; omega
  have HSN := hide hsn
  clear hl hm hk hmm hkm hs hle hsn
  go_enter Try.func3, Try.ntmps3
  go_wp2_with fail
  refine Calls.mono (unhide HRAN) ?_
  rintro e w1 ⟨da, rfl, ⟨F, hd, hF⟩, hb1⟩
  have HD := hide hd
  have HF := hide hF
  clear HRAN hd hF
  go_wp2_with fail
  refine (awake_any C w1).mono ?_
  rintro e w2 ⟨rfl, hb2⟩
  have B2 := hb1.trans (hb2.mono hb1.size)
  have hd2 := C.stays (unhide HD) hb2.size (fun k hk => hb2.block k (C.lt (unhide HD) k hk))
  have hok := C.ok hd2
  obtain ⟨K, hK, hKl⟩ := calmed s hok
  rw [unhide HSN] at hK
  have H1 := hide (DS.start C (DS.start_ hd2))
  have HW2 : Hid ((s.start.arm 0).waits.length ≤ 1048576) := by have := unhide HSW; have := calm_waits s; unfold Hid; omega
  have HK := hide hK
  have HKL := hide hKl
  clear HD hd2 hb1 hb2 hok hK hKl HSW HSN
  go_wp2_with fail
  refine Calls.mono (unhide H1) ?_
  rintro e w3 ⟨rfl, hm3⟩
  have H2 := hide (DS.arm C hm3 0 (by omega))
  clear H1 hm3
  go_wp2_with fail
  refine Calls.mono (unhide H2) ?_
  rintro e w4 ⟨rfl, hm4⟩
  have H3 := hide (DS.flush C hm4 (unhide HW2) (by rw [calm_ticks]; omega))
  rw [unhide HK, calm_flushE] at H3
  clear H2 hm4 HW2
  go_wp2_with fail
  refine Calls.mono (unhide H3) ?_
  rintro e w5 ⟨rfl, F5, hd5, hm5⟩
  have HF5 : Hid (∀ k, F5 k → w.heap.size ≤ k) := fun k hk => by
    rcases hm5.sub k hk with h | h
    · exact unhide HF k h
    · have := B2.size; omega
  have B5 : Below w.heap.size w w5 := B2.trans (hm5.keep.below B2.size (unhide HF))
  have hF5l := C.lt hd5
  have HA5 := hide (ArrH.made F5 w5 31 8 hF5l)
  obtain ⟨w6, hw6⟩ : ∃ w6, w6 = w5.alloc (.cells (List.replicate 8 (Value.slice none 0 0)).toArray 31) := ⟨_, rfl⟩
  have hb6 : Below w5.heap.size w5 w6 := by rw [hw6]; exact (Below.refl _ _).alloc (Nat.le_refl _) _
  have HD6 := hide (C.stays hd5 hb6.size (fun k hk => hb6.block k (hF5l k hk)))
  have HB6 := hide (B5.trans (hb6.mono B5.size))
  have HFL := hide hF5l
  have HB5 := hide B5
  rw [← hw6] at HA5
  clear H3 hd5 hm5 HF B2 B5 hb6 hF5l
  go_wp2_with fail
  rw [show w5.alloc (.cells #[.slice none 0 0, .slice none 0 0, .slice none 0 0, .slice none 0 0, .slice none 0 0, .slice none 0 0, .slice none 0 0, .slice none 0 0] 31) = w6 from hw6.symm]
  have HX0 : Hid (w.heap.size ≤ w5.heap.size) := (unhide HB5).size
  generalize w5.heap.size = x at *
  clear hw6 HB5 HFL
  -- what is shown at first
  go_loopw [9] (fun i wr => ∃ k : Nat, k ≤ 8 ∧ i = .int .i64 k ∧ Hid (DR F5 wr (.pointer (some da)) (calm (DK.new 8).n K s.turns) ∧ ArrH F5 wr x 31 8 (fun j => if j < k then K j else []) ∧ Below w.heap.size w wr)) (fun i _ => 8 - (intOf i).toNat)
  case atStart => exact ⟨0, by omega, rfl, unhide HD6, (unhide HA5).congr (fun j _ => by simp), unhide HB6⟩
  case round =>
    obtain ⟨k, hk8, rfl, hS⟩ := hrel
    by_cases hlt : (k : Int) < 8
    · obtain ⟨hdr, har, hbel⟩ := hS.out
      obtain ⟨e1, e2⟩ := calm_read (n := (DK.new 8).n) (K := K) (T := s.turns) (a := k) hlt
      have HRD := hide (C.read F5 _ _ (k : Int) wr hdr (by show (0 : Nat) ≤ _; omega))
      rw [e1, e2] at HRD
      have HDR := hide hdr
      have HAR := hide har
      have HBE := hide hbel
      clear hS hdr har hbel e1 e2
      go_wp2_with fail
      refine Calls.mono (unhide HRD) ?_
      rintro e w7 ⟨t, rfl, hm7, hb7⟩
      have har7 := (unhide HAR).below hb7
      obtain ⟨u, q1, q2, _⟩ := har7.at k (by omega)
      have hh7 := Held.of_mine (x := x) hm7 (fun b hb => C.lt (unhide HDR) b hb) (unhide HAR).lt
      have hst := har7.store k (by omega) t _ hh7
      have hd7 := C.stays (unhide HDR) hb7.size (fun b hb => hb7.block b (C.lt (unhide HDR) b hb))
      have hnx : ¬ F5 x := by obtain ⟨_, _, _, h3, _⟩ := har7; exact h3
      have HN : Hid (DR F5 (w7.setCell ⟨x, k, none⟩ t) (.pointer (some da)) (calm (DK.new 8).n K s.turns) ∧ ArrH F5 (w7.setCell ⟨x, k, none⟩ t) x 31 8 (fun j => if j < k + 1 then K j else []) ∧ Below w.heap.size w (w7.setCell ⟨x, k, none⟩ t)) := by
        refine ⟨C.stays hd7 (by simp) (fun b hb => Below.heap_setCell _ _ _ _ (fun (e : b = x) => hnx (e ▸ hb))), hst.congr (fun j hj => ?_), ((unhide HBE).trans (hb7.mono (unhide HBE).size)).setCell (p := ⟨x, k, none⟩) (unhide HX0) _⟩
        by_cases h1 : j = k
        · subst h1
          rw [if_pos rfl, if_pos (by omega)]
        · rw [if_neg h1]
          by_cases h2 : j < k
          · rw [if_pos h2, if_pos (by omega)]
          · rw [if_neg h2, if_neg (by omega)]
      obtain ⟨tp, tc, tl, rfl, _⟩ := hm7.row.shape
      have hk8' : k < 8 := by omega
      clear har7 hh7 hst hd7 hnx hm7 hb7 HRD HDR HAR HBE hk8
      go_wp2
      go_roundw
      case rel => exact ⟨k + 1, by omega, by go_num, HN⟩
      case measure => simp [intOf]; omega
    · have hk : k = 8 := by omega
      subst hk
      obtain ⟨hdr, har, hbel⟩ := hS.out
      have HAR0 : Hid (ArrH F5 wr x 31 8 (keepSome ks K 0 [])) := har.congr (fun j hj => by rw [if_pos hj]; rfl)
      have HDR0 : Hid (DR F5 wr (.pointer (some da)) (wet (DK.new 8).n K [] s.turns)) := hdr
      have HBE0 := hide hbel
      obtain ⟨w0, hw0⟩ : ∃ w0, w0 = wr := ⟨_, rfl⟩
      rw [← hw0] at HAR0 HDR0 HBE0
      rw [← hw0]
      clear hS hdr har hbel hw0 HA5 HD6 HB6 HK
      go_wp2_with fail
      -- the writes
      go_loopw [10, 11] (fun n i wr => ∃ (k : Nat) (W : List (Nat × List UInt8)) (F6 : Nat → Prop), k ≤ 40 ∧ k ≤ m.length ∧ n = .int .i64 k ∧ i = .int .i64 k ∧ Hid (DR F6 wr (.pointer (some da)) (wet (DK.new 8).n K W s.turns) ∧ ArrH F6 wr x 31 8 (keepSome ks K 0 W) ∧ (∀ b, F6 b → w.heap.size ≤ b) ∧ Below w.heap.size w wr ∧ W.length = k)) (fun _ i _ => 40 - (intOf i).toNat)
      case atStart => exact ⟨0, [], F5, by omega, by omega, rfl, rfl, unhide HDR0, unhide HAR0, unhide HF5, unhide HBE0, rfl⟩
      case round =>
        clear HAR0 HDR0 HBE0
        obtain ⟨k, W, F6, hk40, hkm, rfl, rfl, hS⟩ := hrel
        by_cases hgo : (k : Int) < m.length ∧ (k : Int) < 40
        · obtain ⟨hlt, h40⟩ := hgo
          obtain ⟨hdr, har, hF6, hbel, hWl⟩ := hS.out
          have hkn : k < m.length := by omega
          obtain ⟨b, off, cap, kv', es, hbl, hcap, _, _, _, hcells⟩ := (unhide HM).at k hkn
          simp only [Value.slice.injEq, true_and] at es
          obtain ⟨rfl, rfl⟩ := es
          obtain ⟨_, c1, _, c3, _, _, _⟩ := hcells wr hbel
          obtain ⟨A, hA, hA8⟩ : ∃ A : Nat, wrap64 ((IntKind.u64.wrap m[k].at_).tmod 8) = (A : Int) ∧ A < 8 := by
            have h0 : 0 ≤ IntKind.u64.wrap m[k].at_ := by rw [IntKind.wrap_u64]; omega
            rw [Int.tmod_eq_emod_of_nonneg h0]
            generalize IntKind.u64.wrap m[k].at_ = u at *
            refine ⟨(u % 8).toNat, ?_, by omega⟩
            unfold wrap64
            omega
          have HFU := hide (full_any m[k].v false wr)
          have HDR := hide hdr
          have HAR := hide har
          have HF6 := hide hF6
          have HBE := hide hbel
          have HWL := hide hWl
          clear hS hdr har hF6 hbel hWl hcells
          generalize m[k] = o at *
          go_wp2_with fail
          rw [hA]
          clear hA c1 c3
          refine Calls.mono (unhide HFU) ?_
          rintro e w7 ⟨t, rfl, hm7, hb7⟩
          have hlen : (fullS o.v false).length = 512 := length_fullS_false o.v
          have hd7 := C.stays (unhide HDR) hb7.size (fun b hb => hb7.block b (C.lt (unhide HDR) b hb))
          have hh7 := Held.of_mine (x := x) hm7 (fun b hb => C.lt (unhide HDR) b hb) (unhide HAR).lt
          obtain ⟨e1, e2⟩ := wet_write (n := (DK.new 8).n) (K := K) (W := W) (T := s.turns) (a := A) (b := fullS o.v false) (by show (A : Int) < ((8 : Nat) : Int); omega) hlen
          have HW7 := hide (C.write F6 _ _ (A : Int) t _ w7 hd7 hm7.row (fun b off n c e hn => (hh7.2 b off n c e hn).1) (by show W.length ≤ _; rw [unhide HWL]; omega) (by show W.length + 1 ≤ _; rw [unhide HWL]; omega))
          rw [e1, e2] at HW7
          have HAR7 := hide ((unhide HAR).below hb7)
          have HH7 := hide hh7
          have HB7 := hide ((unhide HBE).trans (hb7.mono (unhide HBE).size))
          obtain ⟨tp, tc, tl, rfl, _⟩ := hm7.row.shape
          clear hd7 hh7 hm7 hb7 e1 e2 HFU HDR HAR HBE
          go_wp2_with fail
          refine Calls.mono (unhide HW7) ?_
          rintro e w8 ⟨rfl, F8, hd8, hmv8⟩
          have har8 := (unhide HAR7).moves hmv8
          have hh8 := (unhide HH7).keep (F' := F8) hmv8.keep (fun b hb => Or.inl hb) hmv8.sub
          have hF8 : ∀ b, F8 b → w.heap.size ≤ b := fun b hb => by
            rcases hmv8.sub b hb with h | h
            · exact unhide HF6 b h
            · have := (unhide HB7).size; omega
          have hb8 : Below w.heap.size w w8 := (unhide HB7).trans (hmv8.keep.below (unhide HB7).size (unhide HF6))
          have hka := keepSome_append ks (A, fullS o.v false) W K 0
          rw [Nat.zero_add, unhide HWL] at hka
          have hwl' : (W ++ [(A, fullS o.v false)]).length = k + 1 := by rw [List.length_append, unhide HWL]; rfl
          have HNo : Hid (ks.getD k false = false → DR F8 w8 (.pointer (some da)) (wet (DK.new 8).n K (W ++ [(A, fullS o.v false)]) s.turns) ∧ ArrH F8 w8 x 31 8 (keepSome ks K 0 (W ++ [(A, fullS o.v false)])) ∧ (∀ b, F8 b → w.heap.size ≤ b) ∧ Below w.heap.size w w8 ∧ (W ++ [(A, fullS o.v false)]).length = k + 1) := by
            intro hg
            rw [hg, if_neg (by decide)] at hka
            refine ⟨hd8, ?_, hF8, hb8, hwl'⟩
            rw [hka]
            exact har8
          have HYes : Hid (ks.getD k false = true → DR F8 (w8.setCell ⟨x, A, none⟩ (.slice tp tl tc)) (.pointer (some da)) (wet (DK.new 8).n K (W ++ [(A, fullS o.v false)]) s.turns) ∧ ArrH F8 (w8.setCell ⟨x, A, none⟩ (.slice tp tl tc)) x 31 8 (keepSome ks K 0 (W ++ [(A, fullS o.v false)])) ∧ (∀ b, F8 b → w.heap.size ≤ b) ∧ Below w.heap.size w (w8.setCell ⟨x, A, none⟩ (.slice tp tl tc)) ∧ (W ++ [(A, fullS o.v false)]).length = k + 1) := by
            intro hg
            rw [hg, if_pos rfl] at hka
            have hnx : ¬ F8 x := by obtain ⟨_, _, _, h3, _⟩ := har8; exact h3
            refine ⟨C.stays hd8 (by simp) (fun b hb => Below.heap_setCell _ _ _ _ (fun (e : b = x) => hnx (e ▸ hb))), ?_, hF8, hb8.setCell (p := ⟨x, A, none⟩) (unhide HX0) _, hwl'⟩
            rw [hka]
            exact har8.store A hA8 _ _ hh8
          obtain ⟨u, q1, q2, _⟩ := har8.at A hA8
          have hks8 := (unhide HKS).below hb8
          have hA8I : (A : Int) < 8 := by omega
          clear HW7 hd8 hmv8 har8 hh8 hF8 hb8 hka hwl' HAR7 HH7 HB7 HF6 HWL hlen hk40
          by_cases hin : k < ks.length
          · obtain ⟨kb, ko, kc', e1, hkc', e2⟩ := hks8.at k hin
            simp only [Value.slice.injEq, true_and] at e1
            obtain ⟨rfl, rfl⟩ := e1
            have hgd : ks.getD k false = ks[k] := by simp [List.getD, List.getElem?_eq_getElem hin]
            have hin' : (k : Int) < ks.length := by omega
            rw [hgd] at HNo HYes
            cases hv : ks[k] with
            | true =>
              have HN := hide (unhide HYes hv)
              rw [hv] at e2
              clear HYes HNo hgd hv hks8
              go_wp2
              go_roundw
              case rel => exact ⟨k + 1, _, F8, by omega, by omega, by go_num, by go_num, HN⟩
              case measure => simp [intOf]; omega
            | false =>
              have HN := hide (unhide HNo hv)
              rw [hv] at e2
              clear HYes HNo hgd hv hks8 q1 q2
              go_wp2
              go_roundw
              case rel => exact ⟨k + 1, _, F8, by omega, by omega, by go_num, by go_num, HN⟩
              case measure => simp [intOf]; omega
          · have hgd : ks.getD k false = false := by simp [List.getD, List.getElem?_eq_none (Nat.le_of_not_lt hin)]
            have hin' : ¬ (k : Int) < ks.length := by omega
            have HN := hide (unhide HNo hgd)
            clear HYes HNo hgd hks8 q1 q2
            go_wp2
            go_roundw
            case rel => exact ⟨k + 1, _, F8, by omega, by omega, by go_num, by go_num, HN⟩
            case measure => simp [intOf]; omega
        · obtain ⟨hdr, har, hF6, hbel, hWl⟩ := hS.out
          have HWT := hide (C.waiting F6 _ _ wr hdr)
          have hwk : ((wet (DK.new 8).n K W s.turns).waits.length : Int) = k := by show ((W.length : Nat) : Int) = k; omega
          rw [hwk] at HWT
          have HDR := hide hdr
          have HAR := hide har
          have HF6 := hide hF6
          have HBE := hide hbel
          have HWL : Hid (W.length ≤ 1048576) := by unfold Hid; omega
          have hout : ¬ ((k : Int) < m.length) ∨ ((k : Int) < m.length ∧ ¬ (k : Int) < 40) := by omega
          clear hS hdr har hF6 hbel hWl hwk hgo hk40
          rcases hout with h1 | ⟨h1, h2⟩
          all_goals
            go_wp2_with fail
            refine Calls.mono (unhide HWT) ?_
            rintro e w7 ⟨rfl, hb7⟩
            have hd7 := C.stays (unhide HDR) hb7.size (fun b hb => hb7.block b (C.lt (unhide HDR) b hb))
            have hbe7 := (unhide HBE).trans (hb7.mono (unhide HBE).size)
            have HCR := hide (C.crash F6 _ _ _ ks w7 hd7 ((unhide HKS).below hbe7) (fun b off n c e hn hf => by
              have := unhide HF6 b hf
              obtain ⟨q, cap, hq⟩ : ∃ q cap, b < w.heap.size ∧ q = cap := by
                obtain ⟨j0, hj0⟩ : ∃ j, j < ks.length := ⟨0, by simp only [Value.slice.injEq] at e; omega⟩
                obtain ⟨kb, ko, kc', e1, _, e2⟩ := (unhide HKS).at j0 hj0
                rw [e1] at e
                simp only [Value.slice.injEq, Option.some.injEq, Addr.mk.injEq] at e
                obtain ⟨⟨rfl, _⟩, _⟩ := e
                exact ⟨0, 0, World.block_lt_of_cell? w _ e2, rfl⟩
              omega) (by exact unhide HWL))
            have HAR7 := hide ((unhide HAR).below hb7)
            have HB7 := hide hbe7
            clear HWT hb7 hd7 hbe7 HDR HAR HBE
            go_wp2_with fail
            refine Calls.mono (unhide HCR) ?_
            rintro e w8 ⟨rfl, F8, hd8, hmv8⟩
            have har8 := (unhide HAR7).moves hmv8
            have hb8 : Below w.heap.size w w8 := (unhide HB7).trans (hmv8.keep.below (unhide HB7).size (unhide HF6))
            have hF8 : ∀ b, F8 b → w.heap.size ≤ b := fun b hb => by
              rcases hmv8.sub b hb with h | h
              · exact unhide HF6 b h
              · have := (unhide HB7).size; omega
            have HDN := hide (C.down F8 _ _ w8 hd8)
            rw [show ((wet (DK.new 8).n K W s.turns).crash ks).fell = true from rfl] at HDN
            have HD8 := hide hd8
            have HA8 := hide har8
            have HB8 := hide hb8
            have HF8 := hide hF8
            clear HCR hd8 hmv8 har8 hb8 hF8 HAR7 HB7 HF6
            go_wp2_with fail
            refine Calls.mono (unhide HDN) ?_
            rintro e w9 ⟨rfl, hb9⟩
            have hd9 := C.stays (unhide HD8) hb9.size (fun b hb => hb9.block b (C.lt (unhide HD8) b hb))
            have HWT := hide (C.waiting F8 _ _ w9 hd9)
            rw [show (((wet (DK.new 8).n K W s.turns).crash ks).waits.length : Int) = 0 from rfl] at HWT
            have HD9 := hide hd9
            have HA9 := hide ((unhide HA8).below hb9)
            have HB9 := hide ((unhide HB8).trans (hb9.mono (unhide HB8).size))
            clear HDN hb9 hd9 HD8 HA8 HB8
            go_wp2_with fail
            refine Calls.mono (unhide HWT) ?_
            rintro e w10 ⟨rfl, hb10⟩
            have hd10 := C.stays (unhide HD9) hb10.size (fun b hb => hb10.block b (C.lt (unhide HD9) b hb))
            have HST := hide (C.start F8 _ _ w10 hd10)
            rw [wet_fell] at HST
            have HA10 := hide ((unhide HA9).below hb10)
            have HB10 := hide ((unhide HB9).trans (hb10.mono (unhide HB9).size))
            clear HWT hb10 hd10 HD9 HA9 HB9
            go_wp2_with fail
            refine Calls.mono (unhide HST) ?_
            rintro e w11 ⟨rfl, F11, hd11, hmv11⟩
            have HA11 := hide ((unhide HA10).moves hmv11)
            have HB11 := hide ((unhide HB10).trans (hmv11.keep.below (unhide HB10).size (unhide HF8)))
            have HD11 := hide hd11
            clear HST hd11 hmv11 HA10 HB10
            go_wp2_with fail
            -- what is shown at last
            go_loopw [14] (fun i wr => ∃ k : Nat, k ≤ 8 ∧ i = .int .i64 k ∧ Hid (DR F11 wr (.pointer (some da)) ⟨(DK.new 8).n, keepSome ks K 0 W, [], 0, false, s.turns, 0⟩ ∧ ArrH F11 wr x 31 8 (keepSome ks K 0 W) ∧ Below w.heap.size w wr)) (fun i _ => 8 - (intOf i).toNat)
            case atStart => exact ⟨0, by omega, rfl, unhide HD11, unhide HA11, unhide HB11⟩
            case round =>
              clear HD11 HA11 HB11
              obtain ⟨j, hj8, rfl, hS⟩ := hrel
              by_cases hlt3 : (j : Int) < 8
              · obtain ⟨hdr, har, hbel⟩ := hS.out
                obtain ⟨e1, e2⟩ := read_up (s := ⟨(DK.new 8).n, keepSome ks K 0 W, [], 0, false, s.turns, 0⟩) rfl rfl (a := j) hlt3
                have HRD := hide (C.read F11 _ _ (j : Int) wr hdr (by show (0 : Nat) ≤ _; omega))
                rw [e1, e2] at HRD
                have HDR := hide hdr
                have HAR := hide har
                have HBE := hide hbel
                clear hS hdr har hbel e1 e2
                go_wp2_with fail
                refine Calls.mono (unhide HRD) ?_
                rintro e w12 ⟨t, rfl, hm12, hb12⟩
                have har12 := (unhide HAR).below hb12
                obtain ⟨u, q1, _, hu⟩ := har12.at j (by omega)
                have HBY := hide (bytes_any t u _ _ w12 hm12.row hu.1)
                rw [show (keepSome ks K 0 W j == keepSome ks K 0 W j) = true by simp] at HBY
                have HN : Hid (DR F11 w12 (.pointer (some da)) ⟨(DK.new 8).n, keepSome ks K 0 W, [], 0, false, s.turns, 0⟩ ∧ ArrH F11 w12 x 31 8 (keepSome ks K 0 W) ∧ Below w.heap.size w w12) :=
                  ⟨C.stays (unhide HDR) hb12.size (fun b hb => hb12.block b (C.lt (unhide HDR) b hb)), har12, (unhide HBE).trans (hb12.mono (unhide HBE).size)⟩
                obtain ⟨tp, tc, tl, rfl, _⟩ := hm12.row.shape
                obtain ⟨up, uc, ul, rfl, _⟩ := hu.1.shape
                clear har12 hu hm12 hb12 HRD HDR HAR HBE
                go_wp2_with fail
                refine Calls.mono (unhide HBY) ?_
                rintro e w13 ⟨rfl, rfl⟩
                clear HBY q1
                go_wp2
                go_roundw
                case rel => exact ⟨j + 1, by omega, by go_num, HN⟩
                case measure => simp [intOf]; omega
              · have HBE := hide hS.out.2.2
                clear hS
                go_wp2
                go_ret
                exact ⟨rfl, unhide HBE⟩
end
end Go.Proofs.Ytkekikfiijbjmab
