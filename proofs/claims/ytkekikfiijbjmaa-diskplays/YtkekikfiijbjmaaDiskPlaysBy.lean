/- The walk of the law DiskPlays, by the contracts of package disk. -/
import Derived.Test.YtkekikfiijbjmaaDiskAlike
import Derived.Test.YtkekikfiijbjmaaDiskOne
namespace Go.Proofs.Ytkekikfiijbjmaa
open Go.RowKit

section
variable {DR : (Nat → Prop) → World → Value → DK → Prop} (C : DiskC DR)
include C

theorem plays_arg (n : Int) (sv : Value) (w : World) (h : n < 1 ∨ 65536 < n) : Calls Try.prog 3 #[.int .i64 n, sv] w fun e w' => e = .returned (.bool true) ∧ Below w.heap.size w w' := by
  have HN := hide (C.newArg n w h)
  have HR := hide (fun w => rnew_arg n w h)
  clear h
  go_enter Try.func3, Try.ntmps3
  go_wp2_with fail
  refine Calls.mono (unhide HN) ?_
  rintro e w1 ⟨rfl, hb1⟩
  go_wp2_with fail
  refine Calls.mono (unhide HR w1) ?_
  rintro e w1 ⟨rfl, rfl⟩
  go_wp2_with fail
  refine (awake_any C w1).mono ?_
  rintro e w2 ⟨rfl, hb2⟩
  go_wp2
  go_ret
  exact ⟨rfl, hb1.trans (hb2.mono hb1.size)⟩

set_option maxRecDepth 20000 in
set_option maxHeartbeats 4000000 in
theorem plays_ok (n : Nat) (sv : Value) (l : List OpD) (w : World) (hl : Ops w sv l) (h1 : 1 ≤ n) (h2 : n ≤ 65536) : Calls Try.prog 3 #[.int .i64 (n : Int), sv] w fun e w' => e = .returned (.bool true) ∧ Below w.heap.size w w' := by
  have HN := hide (C.newOk n w h1 h2)
  have HR := hide (fun w => rnew_ok n w h1 h2)
  have HL := hide hl
  obtain ⟨sa, sc, rfl, hlc, hcm⟩ := hl.shape
  have hlI : (l.length : Int) ≤ 9223372036854775807 := by unfold maxLen at hcm; omega
  clear h1 h2 hl hcm
  go_enter Try.func3, Try.ntmps3
  go_wp2_with fail
  refine Calls.mono (unhide HN) ?_
  rintro e w1 ⟨d, rfl, ⟨FD, hd, hFD⟩, hb1⟩
  obtain ⟨da, rfl⟩ := C.ptr hd
  go_wp2_with fail
  refine Calls.mono (unhide HR w1) ?_
  rintro e w2 ⟨r, rfl, ⟨ra, rfl⟩, ⟨FR, hr, hFR⟩, hb2⟩
  have hP : Pair DR (fun k => FD k ∨ FR k) w2 (.pointer (some da)) (DK.new n) (.pointer (some ra)) (DK.new n) 0 :=
    ⟨FD, FR, C.stays hd hb2.size (fun k hk => hb2.block k (C.lt hd k hk)), hr, fun k h h' => by have := C.lt hd k h; have := hFR k h'; omega, fun k => Iff.rfl⟩
  have hF : ∀ k, (FD k ∨ FR k) → w.heap.size ≤ k := fun k h => h.elim (hFD k) (fun h => Nat.le_trans hb1.size (hFR k h))
  have B2 := hb1.trans (hb2.mono hb1.size)
  generalize hFF : (fun k => FD k ∨ FR k) = F at hP
  have hF' : ∀ k, F k → w.heap.size ≤ k := by rw [← hFF]; exact hF
  have HP := hide hP
  have HF := hide hF'
  clear hd hr hFD hFR hFF hF hF' hP hb1 hb2 HN HR
  go_wp2_with fail
  refine (awake_any C w2).mono ?_
  rintro e w3 ⟨rfl, hb3⟩
  have B3 := B2.trans (hb3.mono B2.size)
  have HS3 := hide (St.start_ (Pair.below C (unhide HP) hb3))
  clear HP hb3 B2
  go_wp2_with fail
  go_loopw [9] (fun i wr => ∃ (k : Nat) (s : DK) (c : Nat), k ≤ 200 ∧ k ≤ l.length ∧ i = .int .i64 k ∧ Hid (St DR F w3 wr (.pointer (some da)) s (.pointer (some ra)) s c ∧ s.waits.length ≤ k ∧ (s.turns ≤ k ∧ s.ticks ≤ k) ∧ c ≤ 201 * k)) (fun i _ => 200 - (intOf i).toNat)
  case atStart => exact ⟨0, DK.new n, 0, by omega, by omega, rfl, unhide HS3, by simp [DK.new], by simp [DK.new], by omega⟩
  case round =>
    obtain ⟨k, s, c, hk, hkl, rfl, hS⟩ := hrel
    have hbel : Below w.heap.size w wr := by
      obtain ⟨F', _, hm⟩ := hS.out.1
      exact B3.trans (hm.keep.below B3.size (unhide HF))
    by_cases hlt : (k : Int) < l.length
    · by_cases h8 : (k : Int) < 200
      · have hkn : k < l.length := by omega
        obtain ⟨b, off, cap, kv, es, hbl, hcap, hkb, hkl2, hn, hcells⟩ := (unhide HL).at k hkn
        simp only [Value.slice.injEq, true_and] at es
        obtain ⟨rfl, rfl⟩ := es
        obtain ⟨c0, c1, c2, c3, c4, c5, hks⟩ := hcells wr hbel
        obtain ⟨hst, hw, ht, hcc⟩ := hS.out
        obtain ⟨F', hP', hM'⟩ := hst
        have hnF : ∀ x, x < w.heap.size → ¬ F' x := fun x hx hf => by
          rcases hM'.sub x hf with h | h
          · have := unhide HF x h; omega
          · have := B3.size; omega
        have HST := hide (step_any C F' wr _ _ s c l[k] kv hP' hks (fun x o' n' c' e hn' => by have := hkb x o' n' c' e hn'; exact ⟨Nat.lt_of_lt_of_le this hbel.size, hnF x this⟩) hkl2 hn (by omega) (by omega) (by omega) (by omega))
        have HM' := hide hM'
        have HW := hide (And.intro hw (And.intro ht hcc))
        obtain ⟨kq, kc, rfl, _, _⟩ := hks.shape
        have HON := hide (And.intro (on_waits l[k] s) (And.intro (on_turns l[k] s) (on_ticks l[k] s)))
        clear hS hks hcells hP' hM' hnF hkb hkl2 hn hw ht hcc hk
        generalize l[k] = o at *
        go_wp2_with fail
        refine Calls.mono (unhide HST) ?_
        rintro e w4 ⟨rfl, c', hc', hs4⟩
        obtain ⟨hw, ht, hcc⟩ := unhide HW
        obtain ⟨ow, ot⟩ := unhide HON
        have HN4 : Hid (St DR F w3 w4 (.pointer (some da)) (o.on s) (.pointer (some ra)) (o.on s) c' ∧ (o.on s).waits.length ≤ k + 1 ∧ ((o.on s).turns ≤ k + 1 ∧ (o.on s).ticks ≤ k + 1) ∧ c' ≤ 201 * (k + 1)) := by
          obtain ⟨F4, hP4, hM4⟩ := hs4
          exact ⟨⟨F4, hP4, (unhide HM').trans hM4⟩, by omega, by omega, by omega⟩
        have HAL : Hid (Calls Try.prog 13 #[.pointer (some da), .pointer (some ra)] w4 fun e w' => e = .returned (.bool true) ∧ Below w4.heap.size w4 w') := by
          obtain ⟨⟨F4, hP4, _⟩, hw4, _⟩ := unhide HN4
          exact alike_any C F4 w4 _ _ _ _ hP4 (by omega)
        clear HST hs4 hw ht hcc ow ot HON HW HM' c0 c1 c2 c3 c4 c5
        go_wp2_with fail
        refine Calls.mono (unhide HAL) ?_
        rintro e w5 ⟨rfl, hb5⟩
        have HN5 : Hid (St DR F w3 w5 (.pointer (some da)) (o.on s) (.pointer (some ra)) (o.on s) c' ∧ (o.on s).waits.length ≤ k + 1 ∧ ((o.on s).turns ≤ k + 1 ∧ (o.on s).ticks ≤ k + 1) ∧ c' ≤ 201 * (k + 1)) :=
          ⟨St.below C (unhide HN4).1 hb5, (unhide HN4).2⟩
        clear HAL HN4 hb5 hc'
        go_wp2
        go_roundw
        case rel => exact ⟨k + 1, o.on s, c', by omega, by omega, by go_num, unhide HN5⟩
        case measure => simp [intOf]; omega
      · clear hk hkl
        go_wp2
        go_ret
        exact ⟨rfl, hbel⟩
    · clear hk
      go_wp2
      go_ret
      exact ⟨rfl, hbel⟩

theorem plays_any (n : Int) (sv : Value) (l : List OpD) (w : World) (hl : Ops w sv l) : Calls Try.prog 3 #[.int .i64 n, sv] w fun e w' => e = .returned (.bool true) ∧ Below w.heap.size w w' := by
  by_cases h : n < 1 ∨ 65536 < n
  · exact plays_arg C n sv w h
  · obtain ⟨k, rfl⟩ := Int.eq_ofNat_of_zero_le (show 0 ≤ n by omega)
    exact plays_ok C k sv l w hl (by omega) (by omega)
end
end Go.Proofs.Ytkekikfiijbjmaa
