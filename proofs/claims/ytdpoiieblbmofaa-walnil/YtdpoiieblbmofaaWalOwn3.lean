/- The landed package wal: the sectors of a record are written. -/
import Derived.Test.YtdpoiieblbmofaaWalOwn2
import Derived.Test.YtdpoiieblbmofaaDiskOwn10
import Derived.Test.YtdpoiieblbmofaaSecSeal
import Derived.Test.YtdpoiieblbmofaaLayOwn
import Derived.Test.YtdpoiieblbmofaaConcat
namespace Go.Proofs.Ytdpoiieblbmofaa
open Go.RowKit

/-- The sectors of payloads, from the turn t on, are written, up to the first that the device refuses. -/
def layW (n : Int) : DK → Nat → List (List UInt8) → DK × Int
  | s, _, [] => (s, 0)
  | s, t, x :: l => if s.writeE (logN n t) (sealed 77 t x) ≠ 0 then (s.write (logN n t) (sealed 77 t x), s.writeE (logN n t) (sealed 77 t x)) else layW n (s.write (logN n t) (sealed 77 t x)) (t + 1) l

theorem write_n (s : DK) (a : Int) (b : List UInt8) : (s.write a b).n = s.n := by unfold DK.write DK.tick; repeat' split
                                                                                  all_goals rfl
theorem write_waits (s : DK) (a : Int) (b : List UInt8) : (s.write a b).waits.length ≤ s.waits.length + 1 ∧ (s.write a b).ticks ≤ s.ticks + 1 := by
  unfold DK.write DK.tick
  repeat' split
  all_goals simp
theorem ent_write (args : Array Value) (w : World) : (callFunc 13 args).run Try.prog w = .ok (.enter 13 args) w := by
  first | kernel_rfl | rfl | simp [callFunc, Try.func13]
theorem seal_log (t : Nat) (x : List UInt8) (h : x.length ≤ 496) : sealB 77 t x = sealed 77 t x ∧ sealE 77 x = 0 := by
  unfold sealB sealE
  rw [if_neg (by decide), if_neg (by omega), if_neg (by decide), if_neg (by omega)]
  exact ⟨rfl, rfl⟩

set_option maxRecDepth 20000 in
set_option maxHeartbeats 2000000 in
theorem wlay_any (F G : Nat → Prop) (lp dp : Value) (n : Int) (L : LG) (s : DK) (pv : Value) (ls : List (List UInt8)) (w : World) (hL : LRep G w lp dp n L) (hD : DRep F w dp s) (hap : ∀ k, F k → ¬ G k)
    (hP : ∀ w', Keep F w w' → Rows2 w' pv ls) (hls : ∀ x ∈ ls, x.length ≤ 496) (hlen : ls.length ≤ 32) (hw : s.waits.length + 32 ≤ 1048576) (ht : s.ticks + 32 ≤ 1048576) :
    Calls Try.prog 57 #[lp, pv, .func (.func 13) #[dp] #[]] w fun e w' => e = .returned (.int .i64 (layW n s L.next ls).2) ∧ ∃ F', DRep F' w' dp (layW n s L.next ls).1 ∧ Moves F F' w w' := by
  obtain ⟨g, sv, rfl, R⟩ := hL
  have hFit := R.fits
  have hnx := R.ok.next
  have HR := hide R
  obtain ⟨p, c, rfl, hc1, hc2, hc3⟩ := (hP w (Keep.refl _ _)).shape
  have HP := hide hP
  have HLS := hide hls
  have HSE := hide (fun (t : Nat) (v : Value) (x : List UInt8) w' (h1 : t < 18446744073709551616) (h2 : x.length ≤ 496) (h3 : Row w' v x) => sealC 77 t v x w' h1 (by omega) h3)
  have HLA := hide (fun (t : Nat) w' (h : t < 18446744073709551616) => ologat_any n t w' hFit h)
  have HWR := hide (fun F' (a : Int) bv b s' w' (h : DRep F' w' dp s') (h2 : Row w' bv b) (h3 : s'.waits.length ≤ 1048576) (h4 : s'.ticks ≤ 1048576) => owrite_any F' dp s' a bv b w' h h2 h3 h4)
  have hent := ent_write
  obtain ⟨Res, hRes⟩ : ∃ Res, Res = layW n s L.next ls := ⟨_, rfl⟩
  rw [← hRes]
  unfold layV at HLA
  have HD := hide hD
  have HLEN := hide hlen
  have HW := hide hw
  have HT := hide ht
  have HAP := hide hap
  have HNX := hide hnx
  have HRES := hide hRes
  obtain ⟨dg, hdg⟩ : ∃ dg, dp = .pointer (some dg) := hD.ptr
  subst hdg
  clear hP hls hFit hD R hRes hw ht hlen hap hnx hc1 hc2 hc3
  go_enter Try.func57, Try.ntmps57
  go_wp2_with fail
  go_loopw [15] (fun i wr => ∃ (k : Nat) (s' : DK) (F' : Nat → Prop), k ≤ ls.length ∧ i = .int .i64 k ∧ Hid (DRep F' wr (.pointer (some dg)) s') ∧ Hid (Moves F F' w wr) ∧ Hid (s'.waits.length ≤ s.waits.length + k ∧ s'.ticks ≤ s.ticks + k) ∧ Hid (Res = layW n s' (L.next + k) (ls.drop k))) (fun i _ => ls.length - (intOf i).toNat)
  case atStart => exact ⟨0, s, F, Nat.zero_le _, rfl, unhide HD, Moves.refl _ _, ⟨Nat.le_refl _, Nat.le_refl _⟩, by unfold Hid; rw [unhide HRES]; rfl⟩
  case round =>
    obtain ⟨k, s', F', hk, rfl, hD', hM', hwt, hres⟩ := hrel
    by_cases hlt : k < ls.length
    · have hne : ls ≠ [] := by intro e; rw [e] at hlt; simp at hlt
      obtain ⟨b, off, cap, he, j1, j2, hrows⟩ := (unhide HP wr (unhide hM').keep).open hne
      clear j1 j2
      simp only [Value.slice.injEq] at he
      obtain ⟨rfl, j3, rfl⟩ := he
      clear j3
      obtain ⟨pk, hpk, hrk⟩ := hrows k hlt
      have hx := unhide HLS ls[k] (List.getElem_mem hlt)
      have hdrop : ls.drop k = ls[k] :: ls.drop (k + 1) := List.drop_eq_getElem_cons hlt
      have hres' := unhide hres
      rw [hdrop] at hres'
      unfold layW at hres'
      have d12 := (fifteen_cells ((unhide HR).keep (unhide hM').keep (unhide HAP)).blk).2.2.2.1
      have hnx := unhide HNX
      have hlen := unhide HLEN
      have hkl : (k : Int) < ls.length := by omega
      have hk32 : (k : Int) ≤ 32 := by omega
      have hnI : (L.next : Int) < 9223372036854775808 := by omega
      have hS := unhide HSE (L.next + k) pk ls[k] wr (by omega) hx hrk
      obtain ⟨e1, e2⟩ := seal_log (L.next + k) ls[k] hx
      rw [e1, e2] at hS
      rw [Int.natCast_add] at hS
      have HS := hide hS
      have hsl := length_sealed 77 (L.next + k) ls[k] hx
      generalize sealed 77 (L.next + k) ls[k] = SB at *
      have HRS := hide hres'
      obtain ⟨p2, q2, l2, rfl, hl2⟩ := hrk.shape
      have HHL := hide hlt
      have HSL := hide hsl
      clear hl2 hS e1 e2 hres hres' hx hdrop hrows hrk hnx hlen hlt hsl
      go_wp2_with fail
      refine Calls.mono (unhide HS) ?_
      rintro e w2 ⟨t2, rfl, m2, b2⟩
      have HM2 := hide m2
      have HB2 := hide b2
      have hK2 := (unhide hM').keep.trans (Keep.of_below (F := fun _ => False) b2) (fun x hx => hx.elim)
      obtain ⟨x0, x1, x2, x3, x4, x5, x6, x7, x8, x9⟩ := (fifteen_cells ((unhide HR).keep hK2 (unhide HAP)).blk).1
      have hlg := unhide HLA (L.next + k) w2 (by have := unhide HNX; have := unhide HLEN; have := unhide HHL; omega)
      rw [Int.natCast_add] at hlg
      have HLG := hide hlg
      obtain ⟨p3, q3, l3, rfl, hl3⟩ := m2.row.shape
      clear hl3 m2 b2 hK2 d12 hpk hlg HS HSE
      go_wp2_with fail
      refine Calls.mono (unhide HLG) ?_
      rintro e w3 ⟨rfl, b3⟩
      have hD3 : DRep F' w3 (.pointer (some dg)) s' := by
        have h2 := (unhide hD').stays (unhide HB2).size (fun j hj => (unhide HB2).block j ((unhide hD').lt j hj))
        exact h2.stays b3.size (fun j hj => b3.block j (h2.lt j hj))
      have hW3 := unhide HWR F' (logN n (L.next + k)) _ SB s' w3 hD3 ((unhide HM2).row.below b3) (by have := (unhide hwt).1; have := unhide HW; have := unhide HLEN; have := unhide HHL; omega) (by have := (unhide hwt).2; have := unhide HT; have := unhide HLEN; have := unhide HHL; omega)
      have hM3 : Moves F F' w w3 := (unhide hM').trans ((Moves.of_below (unhide HB2)).trans (Moves.of_below b3))
      have HW3 := hide hW3
      have HM3 := hide hM3
      clear b3 hD3 hW3 hM3 HLG HB2 HM2 x0 x1 x2 x3 x4 x5 x6 x7 x8 x9 hD' hM'
      go_wp2_with fail
      refine Calls.mono (unhide HW3) ?_
      rintro e w4 ⟨rfl, F4, hD4, hM4⟩
      have HD4 := hide hD4
      have HM4 := hide ((unhide HM3).trans hM4)
      have hww := write_waits s' (logN n (L.next + k)) SB
      have HWW := hide hww
      clear hD4 hM4 hww HM3 HW3
      generalize s'.write (logN n (L.next + k)) SB = s4 at *
      by_cases hE : s'.writeE (logN n (L.next + k)) SB = 0
      · rw [hE] at HRS ⊢
        have HRS' : Hid (Res = layW n s4 (L.next + k + 1) (List.drop (k + 1) ls)) := by
          have h := unhide HRS
          rw [if_neg (by simp)] at h
          exact h
        clear HRS hE
        go_wp2
        go_roundw
        case rel => exact ⟨k + 1, s4, F4, unhide HHL, by go_num, unhide HD4, unhide HM4, ⟨by have := (unhide HWW).1; have := (unhide hwt).1; omega, by have := (unhide HWW).2; have := (unhide hwt).2; omega⟩, unhide HRS'⟩
        case measure => have := unhide HHL; simp [intOf]; omega
      · have HRS' : Hid (Res = (s4, s'.writeE (logN n (L.next + k)) SB)) := by
          have h := unhide HRS
          rw [if_pos hE] at h
          exact h
        generalize s'.writeE (logN n (L.next + k)) SB = E at *
        have hE' : (E == 0) = false := by rw [beq_eq_false_iff_ne]; exact hE
        clear HRS hE hwt HSL HWW HHL HNX HAP HT HW HLEN HLA HWR HLS HP HR hent hkl hk32 hnI
        go_wp2
        go_ret
        rw [unhide HRS']
        exact ⟨rfl, F4, unhide HD4, unhide HM4⟩
    · have hkn : k = ls.length := by omega
      subst hkn
      have HRS' : Hid (Res = (s', 0)) := by
        have h := unhide hres
        rw [List.drop_length] at h
        exact h
      clear hres
      go_wp2
      go_ret
      rw [unhide HRS']
      exact ⟨rfl, F', unhide hD', unhide hM'⟩
end Go.Proofs.Ytdpoiieblbmofaa
