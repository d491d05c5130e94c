/- That 'awake' of layer 4's statements answers true, by the contracts of package disk. -/
import Derived.Test.YtkekikfiijbjmaaDiskFull
namespace Go.Proofs.Ytkekikfiijbjmaa
open Go.RowKit

set_option maxRecDepth 20000 in
set_option maxHeartbeats 1000000 in
theorem awake_any {DR : (Nat → Prop) → World → Value → DK → Prop} (C : DiskC DR) (w : World) : Calls Try.prog 11 #[] w fun e w' => e = .returned (.bool true) ∧ Below w.heap.size w w' := by
  have HN := hide (C.newOk 2 w (by omega) (by omega))
  obtain ⟨s1, hs1⟩ : ∃ s1, s1 = (DK.new 2).write 1 (fullB 7) := ⟨_, rfl⟩
  have e1 : (DK.new 2).writeE 1 (fullB 7) = 0 := by
    unfold DK.writeE
    rw [if_neg (by decide), if_neg (by rw [length_fullB]; decide), if_neg (by decide)]
  have e2 : s1.waits = [(1, fullB 7)] ∧ s1.fell = false ∧ s1.n = 2 := by
    rw [hs1]
    unfold DK.write
    rw [if_neg (by decide), if_neg (by rw [length_fullB]; decide)]
    exact ⟨rfl, rfl, rfl⟩
  have e3 : s1.readE 1 = 0 ∧ s1.readB 1 = fullB 7 := by
    have h1 : s1.noSuch 1 = false := by unfold DK.noSuch; rw [e2.2.2]; decide
    refine ⟨?_, ?_⟩
    · unfold DK.readE; rw [e2.2.1, h1]; rfl
    · unfold DK.readB DK.shown
      rw [e2.2.1, h1, e2.1]
      rfl
  have e4 : s1.waits.length = 1 := by rw [e2.1]; rfl
  have H1 := hide e1
  have H3 := hide e3
  have H4 := hide e4
  have HS := hide hs1
  clear e1 e2 e3 e4 hs1
  go_enter Try.func11, Try.ntmps11
  go_wp2_with fail
  refine Calls.mono (unhide HN) ?_
  rintro e w1 ⟨p, rfl, ⟨F, hd, hF⟩, hb1⟩
  obtain ⟨a, rfl⟩ := C.ptr hd
  go_wp2_with fail
  refine (full_any 7 false w1).mono ?_
  rintro e w2 ⟨t, rfl, hm, hb2⟩
  have hd2 := C.stays hd hb2.size (fun k hk => hb2.block k (C.lt hd k hk))
  have hout : Out F t := by
    rintro b off n c rfl hn hFb
    rcases hm.2 with h0 | ⟨g, o, cc, e, cur, h1, h2, _⟩
    · have := congrArg List.length h0
      have hl := length_fullB 7
      unfold fullS at this
      rw [if_neg (by decide), hl] at this
      cases this
    · simp only [Value.slice.injEq, Option.some.injEq, Addr.mk.injEq] at h1
      have := C.lt hd b hFb
      omega
  have HW := hide (C.write F _ _ 1 t _ w2 hd2 hm.row hout (by simp [DK.new]) (by simp [DK.new]))
  unfold fullS at HW
  rw [if_neg (by decide), unhide H1, ← unhide HS] at HW
  have B2 := hb1.trans (hb2.mono hb1.size)
  have hFsz : ∀ k, F k → w.heap.size ≤ k := hF
  clear hm hd hd2 hout hb1 HN
  go_wp2_with fail
  refine Calls.mono (unhide HW) ?_
  rintro e w3 ⟨rfl, F3, hd3, hM⟩
  have B3 := B2.trans (hM.keep.below (b := w.heap.size) B2.size hFsz)
  have HR := hide (C.read F3 _ s1 1 w3 hd3 (by rw [unhide H4]; omega))
  rw [(unhide H3).1, (unhide H3).2] at HR
  clear HW hM B2 hb2
  go_wp2_with fail
  refine Calls.mono (unhide HR) ?_
  rintro e w4 ⟨t4, rfl, hm4, hb4⟩
  have hd4 := C.stays hd3 hb4.size (fun k hk => hb4.block k (C.lt hd3 k hk))
  have HWT := hide (C.waiting F3 _ s1 w4 hd4)
  rw [unhide H4] at HWT
  have B4 := B3.trans (hb4.mono B3.size)
  obtain ⟨g, off, cap, rfl, hc, _, hcell⟩ := hm4.row.open (by intro e; have := congrArg List.length e; rw [length_fullB] at this; cases this)
  have c0 := hcell 0 (by rw [length_fullB]; omega)
  have c0' : w4.cell? ⟨g, off, none⟩ = some (.int .u8 7) := by
    rw [Nat.add_zero] at c0
    rw [c0]
    rfl
  rw [length_fullB] at hc ⊢
  clear hcell c0 hm4 hd4 hd3 HR
  go_wp2_with fail
  refine Calls.mono (unhide HWT) ?_
  rintro e w5 ⟨rfl, hb5⟩
  go_wp2
  go_ret
  exact ⟨rfl, B4.trans (hb5.mono B4.size)⟩
end Go.Proofs.Ytkekikfiijbjmaa
