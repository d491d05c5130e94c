/- The walk of the law WalRaw. -/
import Derived.Test.YtpkpjmebkikgdaaG14
import Derived.Test.YtpkpjmebkikgdaaG18
import Derived.Test.YtpkpjmebkikgdaaG24
import Derived.Test.YtpkpjmebkikgdaaG29
import Derived.Test.YtpkpjmebkikgdaaG34
import Derived.Test.YtpkpjmebkikgdaaG35
import Derived.StillTailTactics
namespace Go.Proofs.Ytpkpjmebkikgdaa
open Go.RowKit
theorem owns_same {w : World} {base e n : Nat} {v : Value} {vs vs' : List Value} (h' : w.ownsRow base e 1 v n vs') (h : w.ownsRow base e 1 v n vs) : vs' = vs := by
  rcases h.2 with ⟨e1, e2⟩ | ⟨g, cp, cur, e1, _, hh, _, _, hcs, htk⟩
  · have a1 := h.1
    have a2 := h'.1
    have b1 : vs = [] := List.eq_nil_of_length_eq_zero (by omega)
    have b2 : vs' = [] := List.eq_nil_of_length_eq_zero (by omega)
    rw [b1, b2]
  · rcases h'.2 with ⟨f1, f2⟩ | ⟨g', cp', cur', f1, _, hh', _, _, hcs', htk'⟩
    · rw [e1] at f1; cases f1
    · rw [e1] at f1
      simp only [Value.slice.injEq, Option.some.injEq, Addr.mk.injEq, and_true, true_and] at f1
      obtain ⟨rfl, rfl⟩ := f1
      rw [hh] at hh'
      simp only [Option.some.injEq, Obj.cells.injEq, and_true] at hh'
      rw [← htk, ← htk', hh']
theorem Try.size30 : (Try.prog.info? 32).map (·.size) = some 30 := by kernel_rfl
set_option maxRecDepth 20000 in
set_option maxHeartbeats 8000000 in
theorem wraw_any (s0 : Value) (w : World) (ls : List (List UInt8)) (h0 : Rows2 w s0 ls) (o p A : Nat) (ho : o < 18446744073709551616) (hp : p < 18446744073709551616) (hA : A < 18446744073709551616) :
    Calls Try.prog 3 #[s0, .int .u64 (o : Int), .int .u64 (p : Int), .int .u64 (A : Int)] w fun e w' => e = .returned (.bool true) ∧ Below w.heap.size w w' := by
  have HOB := hide ho
  have HPB := hide hp
  have HAB := hide hA
  have HROW : Hid (∀ j (h : j < ls.length), ∃ b off v c, s0 = .slice (some ⟨b, off, none⟩) ls.length c ∧ w.cell? ⟨b, off + j, none⟩ = some v ∧ Row w v ls[j]) := by
    intro j hj
    obtain ⟨b, off, cap, e, _, _, hc⟩ := h0.open (by intro e; rw [e] at hj; simp at hj)
    obtain ⟨v, hv, hr⟩ := hc j hj
    exact ⟨b, off, v, cap, e, hv, hr⟩
  obtain ⟨q0, c0, rfl, n0, m0, p0⟩ := h0.shape
  have HDV := hide (device_any w)
  have HAW := hide (fun w' => wawake_any w')
  rw [lay256] at HDV
  clear ho hp hA h0 n0 m0 p0
  go_enter Try.func3, Try.ntmps3
  go_wp2_with fail
  refine Calls.mono (unhide HDV) ?_
  rintro e w1 ⟨dp, rfl, ⟨F, hD, hF⟩, b1⟩
  obtain ⟨da, rfl⟩ := hD.ptr
  obtain ⟨W1, hW1⟩ : ∃ W1, W1 = w1.alloc (.cells layC256 27) := ⟨_, rfl⟩
  obtain ⟨lb, hlb⟩ : ∃ lb, lb = w1.heap.size := ⟨_, rfl⟩
  have hb1 : Below w1.heap.size w1 W1 := by rw [hW1]; exact (Below.refl _ _).alloc (Nat.le_refl _) _
  have hx1 : W1.heap[lb]? = some (.cells layC256 27 (0, 0)) := by rw [hW1, hlb]; exact heap_alloc_new w1 _
  have hD1 : DRep F W1 (.pointer (some da)) (DK.new 256) := hD.stays hb1.size (fun k hk => hb1.block k (hD.lt k hk))
  have HB1 : Hid (Below w.heap.size w W1) := b1.trans (hb1.mono b1.size)
  have HLB : Hid (w.heap.size ≤ lb ∧ ¬ F lb) := ⟨by rw [hlb]; exact b1.size, fun hf => by have := hD.lt _ hf; omega⟩
  have HW1 := hide hW1
  have HX1 := hide hx1
  have HD1 := hide hD1
  have HFL := hide hF
  have HLBE := hide hlb
  unfold layC256 at HW1
  clear hb1 hx1 hD1 hW1 hD hF b1 HDV hlb
  go_wp2_with fail
  rw [← unhide HW1, ← unhide HLBE]
  refine Calls.mono (unhide HAW _) ?_
  rintro e w2 ⟨rfl, b2⟩
  obtain ⟨W3, hW3⟩ : ∃ W3, W3 = w2.alloc (.cells (List.replicate 30 (Value.slice none 0 0)).toArray 32) := ⟨_, rfl⟩
  obtain ⟨x, hx⟩ : ∃ x, x = w2.heap.size := ⟨_, rfl⟩
  have hD2 : DRep F w2 (.pointer (some da)) (DK.new 256) := (unhide HD1).stays b2.size (fun k hk => b2.block k ((unhide HD1).lt k hk))
  have hb3 : Below w2.heap.size w2 W3 := by rw [hW3]; exact (Below.refl _ _).alloc (Nat.le_refl _) _
  have hb13 : Below W1.heap.size W1 W3 := b2.trans (hb3.mono b2.size)
  have hlx : lb < w2.heap.size := Nat.lt_of_lt_of_le (Array.getElem?_eq_some_iff.1 (unhide HX1)).1 b2.size
  have HI0 : Hid (RawI w (.pointer (some da)) lb x ls 0 (ringK ls 0) W3) := by
    have ha := ArrH.made F w2 32 30 hD2.lt
    rw [← hW3, ← hx] at ha
    exact ⟨F, _, hD2.stays hb3.size (fun k hk => hb3.block k (hD2.lt k hk)), RawD.new ls, ha.congr (fun j _ => by unfold ringK; rw [if_neg (by omega)]), (hb13.block lb (Array.getElem?_eq_some_iff.1 (unhide HX1)).1).trans (unhide HX1), (unhide HLB).2, unhide HFL, by rw [hx]; exact Nat.le_trans (unhide HB1).size b2.size, by omega, (unhide HB1).trans (hb13.mono (unhide HB1).size)⟩
  have HW3 : Hid (w2.alloc (.cells #[.slice none 0 0, .slice none 0 0, .slice none 0 0, .slice none 0 0, .slice none 0 0, .slice none 0 0, .slice none 0 0, .slice none 0 0, .slice none 0 0, .slice none 0 0, .slice none 0 0, .slice none 0 0, .slice none 0 0, .slice none 0 0, .slice none 0 0, .slice none 0 0, .slice none 0 0, .slice none 0 0, .slice none 0 0, .slice none 0 0, .slice none 0 0, .slice none 0 0, .slice none 0 0, .slice none 0 0, .slice none 0 0, .slice none 0 0, .slice none 0 0, .slice none 0 0, .slice none 0 0, .slice none 0 0] 32) = W3) := hW3.symm
  have HXE := hide hx
  clear hD2 hb3 hb13 hlx hx hW3 b2 HAW HD1 HB1 HW1 HX1 HLBE
  go_wp2_with fail
  rw [unhide HW3, ← unhide HXE]
  clear HW3 HXE HFL HLB
  obtain ⟨bx, hbx⟩ : ∃ bx, bx = Value.pointer (some ⟨x, 0, none⟩) := ⟨_, rfl⟩
  have HBX := hide hbx
  rw [← hbx]
  clear hbx
  go_loopw [12] (fun i wr => ∃ k : Nat, k ≤ 30 ∧ i = .int .i64 k ∧ Hid (RawI w (.pointer (some da)) lb x ls k (ringK ls k) wr)) (fun i _ => 30 - (intOf i).toNat)
  case atStart => exact ⟨0, Nat.zero_le _, rfl, unhide HI0⟩
  case round =>
    clear HI0
    obtain ⟨k, hk30, rfl, hI⟩ := hrel
    obtain ⟨l2, l3⟩ := (unhide hI).cells
    have hk0 : (0 : Int) ≤ (k : Int) := by omega
    by_cases hlt : k < 30
    · have hltI : (k : Int) < 30 := by omega
      have hix : ∀ W, (Instr.indexAt 32 bx (.int .i64 (k : Int))).run Try.prog W = .ok (.pointer (some ⟨x, k, none⟩)) W := fun W => by rw [unhide HBX]; exact idx30 x k hlt W
      obtain ⟨w8, hrun, hblk8, b8⟩ := make_sec wr 512 (by omega)
      obtain ⟨gx, hgx⟩ : ∃ gx, gx = wr.heap.size := ⟨_, rfl⟩
      have HI9 := hide ((unhide hI).made k hlt b8 hblk8)
      obtain ⟨u0, uc, uf⟩ := ((unhide hI).below b8).at k hlt
      rw [← hgx] at hrun HI9
      rw [show ((512 : Nat) : Int) = 512 from rfl] at hrun
      obtain ⟨W9, hW9⟩ : ∃ W9, W9 = w8.setCell ⟨x, k, none⟩ (.slice (some ⟨gx, 0, none⟩) 512 512) := ⟨_, rfl⟩
      rw [← hW9] at HI9
      have HW9 := hide hW9
      have HLT := hide hlt
      clear hblk8 b8 hgx hI hlt hW9
      go_upto_region 9 with fail
      rw [← unhide HW9]
      clear HW9 uc uf hrun l2 l3
      by_cases hkl : k < ls.length
      · obtain ⟨b, off, v, c, e, hv, hr⟩ := unhide HROW k hkl
        simp only [Value.slice.injEq, true_and] at e
        obtain ⟨rfl, rfl⟩ := e
        have hbw := (unhide HI9).bel
        have hv9 := (hbw.cell (World.block_lt_of_cell? w _ hv)).trans hv
        have hr9 := hr.below hbw
        have hgd : ls.getD k [] = ls[k] := by rw [List.getD_eq_getElem?_getD, List.getElem?_eq_getElem hkl]; rfl
        obtain ⟨vp, vc, vl, rfl, hvl⟩ := hr.shape
        have hklI : (k : Int) < (ls.length : Int) := by omega
        by_cases h512 : vl = 512
        · subst h512
          have hl : (ls.getD k []).length = 512 := by rw [hgd]; exact hvl
          obtain ⟨u1, uc, uf⟩ := (unhide HI9).at k (unhide HLT)
          have HI10 := hide ((unhide HI9).given k (unhide HLT) (.slice vp 512 vc) (ls.getD k []) (by rw [hgd]; exact hr))
          obtain ⟨W10, hW10⟩ : ∃ W10, W10 = W9.setCell ⟨x, k, none⟩ (.slice vp 512 vc) := ⟨_, rfl⟩
          rw [← hW10] at HI10
          have hb10 := (unhide HI10).bel
          have hbd : Below W10.heap.size W10 W10.drew := (Below.refl _ _).drew
          have HI11 := hide ((unhide HI10).below hbd)
          have HWR := hide ((unhide HI11).writes (unhide HLT) hl (.slice vp 512 vc) (by rw [hgd]; exact (hr.below hb10).below hbd))
          have HI12 : Hid (∀ w', RawI w (.pointer (some da)) lb x ls (k + 1) (fun i => if i = k then ls.getD k [] else if i = k then blank else ringK ls k i) w' → RawI w (.pointer (some da)) lb x ls (k + 1) (ringK ls (k + 1)) w') := fun w' h => h.congr (fun j _ => ring_given ls k hl blank j)
          have hv10 := (((unhide HI11).bel).cell (World.block_lt_of_cell? w _ hv)).trans hv
          have hl10 := (unhide HI11).cells.1
          have hS10 := And.intro hl10 hv10
          have HWP : Hid (IntKind.i64.wrap (13 + (k : Int)) = 13 + (k : Int)) := by unfold Hid; rw [IntKind.wrap_i64]; omega
          have HCE : Hid (∀ w', RawI w (.pointer (some da)) lb x ls (k + 1) (fun i => if i = k then ls.getD k [] else if i = k then blank else ringK ls k i) w' → w'.cell? ⟨lb, 2, none⟩ = some (.int .i64 13) ∧ w'.cell? ⟨b, off + k, none⟩ = some (.slice vp 512 vc)) := fun w' h => ⟨h.cells.1, (h.bel.cell (World.block_lt_of_cell? w _ hv)).trans hv⟩
          have HW10 := hide hW10
          clear hr hr9 hbw hv hgd hvl hkl hl hb10 hbd hW10 HI9 HI10 HI11
          go_wp2_with fail
          rw [← unhide HW10]
          clear uc uf hv9
          go_region_held3 (fun w' => w'.cell? ⟨lb, 2, none⟩ = some (.int .i64 13) ∧ w'.cell? ⟨b, off + k, none⟩ = some (.slice vp 512 vc)) (assumption)
            (first | (go_at_call 6; rw [unhide HWP]; refine Calls.mono (unhide HWR) ?_; rintro e w2 ⟨rfl, hI2⟩; have hk2 := unhide HCE w2 hI2))
          go_wp2_with fail
          go_roundw
          case rel => exact ⟨k + 1, by have := unhide HLT; omega, by go_num, unhide HI12 _ hI2⟩
          case measure => have := unhide HLT; simp [intOf]; omega
        · have hl : (ls.getD k []).length ≠ 512 := by rw [hgd]; omega
          have hne : ((vl : Int) == 512) = false := by simp; omega
          have hne2 : (vl == 512) = false := by simp; omega
          have hne3 : decide (vl = 512) = false := by simp; omega
          have HIN : Hid (RawI w (.pointer (some da)) lb x ls (k + 1) (ringK ls (k + 1)) W9) := ((unhide HI9).skip hl).congr (fun j _ => ring_skip ls k hl j)
          clear hr hr9 hbw hv hgd hvl hkl hl HI9 h512
          go_wp2_with fail
          go_roundw
          case rel => exact ⟨k + 1, by have := unhide HLT; omega, by go_num, unhide HIN⟩
          case measure => have := unhide HLT; simp [intOf]; omega
      · have hl : (ls.getD k []).length ≠ 512 := by
          rw [List.getD_eq_getElem?_getD, List.getElem?_eq_none (by omega)]; simp
        have hklI : ¬ (k : Int) < (ls.length : Int) := by omega
        have hklD : decide ((k : Int) < (ls.length : Int)) = false := decide_eq_false hklI
        have hklN : decide (k < ls.length) = false := decide_eq_false hkl
        have HIN : Hid (RawI w (.pointer (some da)) lb x ls (k + 1) (ringK ls (k + 1)) W9) := ((unhide HI9).skip hl).congr (fun j _ => ring_skip ls k hl j)
        clear hl HI9
        go_wp2_with fail
        go_roundw
        case rel => exact ⟨k + 1, by have := unhide HLT; omega, by go_num, unhide HIN⟩
        case measure => have := unhide HLT; simp [intOf]; omega
    · have hk : k = 30 := by omega
      have hbb := unhide HBX
      subst hbb
      clear HBX
      subst hk
      obtain ⟨cur, hcs, hring⟩ := (unhide hI).ring
      have HRING := hide hring
      have HCS := hide hcs
      have HBR := hide (unhide hI).bel
      obtain ⟨c0', c1', c2', c3', c4', c5', c6', c7', c8'⟩ : wr.cell? ⟨lb, 0, none⟩ = some (.int .i64 256) ∧ wr.cell? ⟨lb, 1, none⟩ = some (.int .i64 3) ∧ wr.cell? ⟨lb, 2, none⟩ = some (.int .i64 13) ∧ wr.cell? ⟨lb, 3, none⟩ = some (.int .i64 30) ∧ wr.cell? ⟨lb, 4, none⟩ = some (.int .i64 43) ∧ wr.cell? ⟨lb, 5, none⟩ = some (.int .i64 73) ∧ wr.cell? ⟨lb, 6, none⟩ = some (.int .i64 30) ∧ wr.cell? ⟨lb, 7, none⟩ = some (.int .i64 103) ∧ wr.cell? ⟨lb, 8, none⟩ = some (.int .i64 4) := by
        obtain ⟨F, s, _, _, _, h4, _⟩ := unhide hI
        unfold layC256 at h4
        exact nine_cells h4
      clear hring hcs l2 l3 hlt hk30 hk0
      by_cases b1 : A < 1
      · have HOP := hide ((unhide hI).arg (o := o) (p := p) (A := A) (Or.inl b1))
        have d0 : (A : Int) < 1 := by omega
        have d1 : decide ((A : Int) < 1) = true := decide_eq_true d0
        have d2 : decide (A < 1) = true := decide_eq_true b1
        clear hI b1
        go_wp2_with fail
        refine Calls.mono (unhide HOP) ?_
        rintro e w5 ⟨rfl, b5⟩
        have HB5 := hide ((unhide HBR).trans (b5.mono (unhide HBR).size))
        clear b5 HOP c0' c1' c2' c3' c4' c5' c6' c7' c8'
        go_wp2_with fail
        go_ret
        exact ⟨rfl, unhide HB5⟩
      by_cases b2 : A < p
      · have HOP := hide ((unhide hI).arg (o := o) (p := p) (A := A) (Or.inr (Or.inl b2)))
        have d0 : ¬ (A : Int) < 1 := by omega
        have d1 : decide ((A : Int) < 1) = false := decide_eq_false d0
        have d2 : decide (A < 1) = false := decide_eq_false b1
        have e0 : (A : Int) < (p : Int) := by omega
        have e1 : decide ((A : Int) < (p : Int)) = true := decide_eq_true e0
        have e2 : decide (A < p) = true := decide_eq_true b2
        clear hI b1 b2
        go_wp2_with fail
        refine Calls.mono (unhide HOP) ?_
        rintro e w5 ⟨rfl, b5⟩
        have HB5 := hide ((unhide HBR).trans (b5.mono (unhide HBR).size))
        clear b5 HOP c0' c1' c2' c3' c4' c5' c6' c7' c8'
        go_wp2_with fail
        go_ret
        exact ⟨rfl, unhide HB5⟩
      by_cases b3 : 4611686018427387904 < o
      · have HOP := hide ((unhide hI).arg (o := o) (p := p) (A := A) (Or.inr (Or.inr b3)))
        have d0 : ¬ (A : Int) < 1 := by omega
        have d1 : decide ((A : Int) < 1) = false := decide_eq_false d0
        have d2 : decide (A < 1) = false := decide_eq_false b1
        have e0 : ¬ (A : Int) < (p : Int) := by omega
        have e1 : decide ((A : Int) < (p : Int)) = false := decide_eq_false e0
        have e2 : decide (A < p) = false := decide_eq_false b2
        have g0 : 4611686018427387904 < (o : Int) := by omega
        have g1 : decide (4611686018427387904 < (o : Int)) = true := decide_eq_true g0
        clear hI b1 b2 b3
        go_wp2_with fail
        refine Calls.mono (unhide HOP) ?_
        rintro e w5 ⟨rfl, b5⟩
        have HB5 := hide ((unhide HBR).trans (b5.mono (unhide HBR).size))
        clear b5 HOP c0' c1' c2' c3' c4' c5' c6' c7' c8'
        go_wp2_with fail
        go_ret
        exact ⟨rfl, unhide HB5⟩
      have HOP := hide ((unhide hI).opens (o := o) (p := p) (A := A) (by omega) (unhide HAB) (by omega) (by omega))
      have d0 : ¬ (A : Int) < 1 := by omega
      have d1 : decide ((A : Int) < 1) = false := decide_eq_false d0
      have d2 : decide (A < 1) = false := decide_eq_false b1
      have e0 : ¬ (A : Int) < (p : Int) := by omega
      have e1 : decide ((A : Int) < (p : Int)) = false := decide_eq_false e0
      have e2 : decide (A < p) = false := decide_eq_false b2
      have g0 : ¬ 4611686018427387904 < (o : Int) := by omega
      have g1 : decide (4611686018427387904 < (o : Int)) = false := decide_eq_false g0
      have HO62 : Hid (o ≤ 4611686018427387904) := by unfold Hid; omega
      have HPA : Hid (p ≤ A) := by unfold Hid; omega
      have HRL0 := hide (rawl_start ls o p A)
      clear hI b1 b2 b3
      generalize hRes : resR ls o p A = Res at *
      clear hRes
      go_wp2_with fail
      refine Calls.mono (unhide HOP) ?_
      rintro e w5 ⟨lv, rv, rfl, b5, hcase⟩
      have HB5 := hide ((unhide HBR).trans (b5.mono (unhide HBR).size))
      have HRING5 := hide (fun w' (hb : Below w5.heap.size w5 w') => unhide HRING w' (b5.trans (hb.mono b5.size)))
      have HCASE := hide hcase
      clear b5 HOP c0' c1' c2' c3' c4' c5' c6' c7' c8' HRING hcase HBR
      go_wp2_with fail
      clear d0 d1 d2 e0 e1 e2 g0 g1
      obtain ⟨cs, hcs⟩ : ∃ cs : List Value, cur = cs.toArray := ⟨cur.toList, by simp⟩
      subst hcs
      obtain ⟨i0, hi, hz0, hz1, hz2⟩ := info_parts Try.infoRow
      have HZ30 : Hid ((Try.prog.info? 32).map (·.size) = some cs.length) := by
        have h : cs.length = 30 := by simpa using unhide HCS
        unfold Hid
        rw [h]
        exact Try.size30
      go_loopw [16, 17, 18] (fun v tv pv wr => ∃ (T P : Nat) (recs : List (List UInt8)), tv = .int .u64 (T : Int) ∧ pv = .int .u64 (P : Int) ∧ Hid (RawL (frameW (fun t => secOf ls (t % 30)) 30 o) A o Res P T recs) ∧ Hid (ROwn wr w5.heap.size v recs) ∧ Hid (P ≤ A) ∧ Hid (recs.length + o ≤ T) ∧ Hid (Below w5.heap.size w5 wr)) (fun _ tv _ _ => o + 31 - (intOf tv).toNat)
      case atStart => exact ⟨o, p, [], rfl, rfl, unhide HRL0, ROwn.nil _ _, unhide HPA, by unfold Hid; simp, Below.refl _ _⟩
      case round =>
        obtain ⟨T, P, recs, rfl, rfl, hRL, hRO, hPA, hrl, hbq⟩ := hrel
        obtain ⟨x1, l3, hrs⟩ := unhide HRING5 wr (unhide hbq)
        have hrg : wr.rangeAt x 0 cs := fun j v hv => by
          rw [Nat.zero_add, cell_of_row wr x _ _ _ (0, 0) x1]
          simpa using hv
        obtain ⟨hT1, hT2⟩ : o ≤ T ∧ T ≤ o + 30 := by obtain ⟨_, _, _, _, _, a, b, _⟩ := unhide hRL; exact ⟨a, b⟩
        have HWH := hide (lwhole_any cs.toArray (secOf ls) T P A o wr (unhide HCS) hrs hT1 hT2 (unhide HO62) (unhide HAB) (by have := unhide hPA; have := unhide HAB; omega))
        unfold rawFr at HWH
        have HPE := hide (parts_err (fun t => secOf ls (t % 30)) 30 o A T P)
        have HBAD := hide (fun h => (unhide hRL).bad h)
        have HDONE := hide (fun h h2 => (unhide hRL).done h h2)
        have HMORE0 := hide (fun h h2 => (unhide hRL).more h h2)
        have HT := hide (And.intro hT1 hT2)
        obtain ⟨WW, hWW⟩ : ∃ WW, WW = partsW (frameW (fun t => secOf ls (t % 30)) 30 o) A T P := ⟨_, rfl⟩
        rw [← hWW] at HWH HPE HBAD HDONE HMORE0
        clear x1 hrs hT1 hT2 hWW hRL
        go_wp2_with (with_reducible show wpList _ _ _ (Oper.mk _ (Op.load 32 _) _ _ _ _ :: _) _ _; refine wpList_load_mid rfl 32 _ rfl x 0 rfl cs _ hrg Try.underlying32 rfl (unhide HZ30) ?_)
        refine Calls.mono (unhide HWH) ?_
        rintro e w6 ⟨v, rfl, hr6, hlo6, b6⟩
        obtain ⟨vp, vl, vc, hv⟩ := slice_of_row hr6
        subst hv
        have HB6 := hide ((unhide hbq).trans (b6.mono (unhide hbq).size))
        have HRO6 := hide ((unhide hRO).below b6)
        have HR6 := hide hr6
        have HLO6 := hide hlo6
        have HB66 := hide b6
        clear HWH hr6 hlo6 b6 hrg l3
        by_cases hf : WW.2 = 0
        · by_cases hj : joinE WW.1 = 0
          · -- a record more
            have hN : whN WW = WW.1.length := by unfold whN; rw [if_neg (by rw [hf]; simp), if_neg (by rw [hj]; simp)]
            have hAg : whA WW = (WW.1.headD zeroF).age := by unfold whA; rw [if_neg (by rw [hf]; simp), if_neg (by rw [hj]; simp)]
            have hBy : whB WW = joinB WW.1 := by unfold whB; rw [if_neg (by rw [hf]; simp), if_neg (by rw [hj]; simp)]
            obtain ⟨q1, q2, q3, q4⟩ := unhide HMORE0 hf hj
            rw [hN, hAg, hf]
            rw [hBy] at HR6
            have HQ4 := hide q4
            have hn1 : ((WW.1.length : Int) == 0) = false := by rw [beq_eq_false_iff_ne]; omega
            have hn0 : ¬ (WW.1.length : Int) = 0 := by omega
            have hn2 : (WW.1.length == 0) = false := by rw [beq_eq_false_iff_ne]; omega
            have hn3 : decide (WW.1.length = 0) = false := decide_eq_false (by omega)
            have hn4 : (WW.1.length : Int) ≤ 30 := by have := (unhide HT).1; omega
            have hTl : (T : Int) ≤ 4611686018427387934 := by have := (unhide HT).2; have := unhide HO62; omega
            have HQ := hide (And.intro q1 (And.intro q2 (Nat.le_of_lt q3)))
            generalize (WW.1.headD zeroF).age = AG at *
            generalize WW.1.length = NN at *
            generalize joinB WW.1 = JB at *
            clear hf hj hN hAg hBy q1 q2 q3 q4 HMORE0 HDONE HBAD HPE
            obtain ⟨W, hW⟩ : ∃ W, W = w6.alloc (.cells #[.slice vp vl vc] 31) := ⟨_, rfl⟩
            have hbW : Below w6.heap.size w6 W := by rw [hW]; exact (Below.refl _ _).alloc (Nat.le_refl _) _
            have hcW : W.cell? ⟨w6.heap.size, 0, none⟩ = some (.slice vp vl vc) := by rw [hW]; exact cell_one (heap_alloc_new _ _)
            have hR1 := unhide HRO6
            obtain ⟨vs, hvl, hown, hrows⟩ := id hR1
            have hownW := owns_below4 hown hbW
            have hszW : w5.heap.size ≤ W.heap.size := Nat.le_trans (unhide HB6).size hbW.size
            have hap : ∀ b off n c, Value.slice vp vl vc = .slice (some ⟨b, off, none⟩) n c → JB ≠ [] → u16.ownBlock ≠ some b ∧ w5.heap.size ≤ b := by
              intro b off n c e _
              have h2 := unhide HLO6 b off n c e
              have h3 := (unhide hbq).size
              refine ⟨fun hb => ?_, by omega⟩
              have h1 := (((unhide hRO).choose_spec).2.1.lt b hb).2
              omega
            have HBK : Hid (Below w5.heap.size w5 W) := (unhide HB6).trans (hbW.mono (unhide HB6).size)
            have HMORE := hide (fun v' w2 hg hv ho => hR1.more (t := .slice vp vl vc) (v' := v') (w2 := w2) hbW (unhide HR6) hap hg hv ho)
            have HWW := hide hW
            have HOW := hide hownW
            have HOV := hide hown
            have HLT := hide (fun j hj => (hown.lt j hj))
            have hrl30 : recs.length ≤ 30 := by have := unhide hrl; have := (unhide HT).2; omega
            clear hW hR1 hap hrows hown hownW HR6 HLO6 HB66 HRO6 HB6
            go_wp2_with (at_builtin; rw [← unhide HWW]; refine wpList_append_gen rfl _ _ 22 rfl w5.heap.size 31 i0 (.slice none 0 0) Try.underlying22 hi hz0 1 24 (by omega) hz1 hz2 rfl u16 recs.length vs rfl (unhide HOW) ⟨w6.heap.size, 0, none⟩ 1 1 [.slice vp vl vc] rfl rfl ?c1 ?c2 ?c3 ?c4 hszW ?_)
            case c1 =>
              intro j u hj
              match j, hj with
              | 0, hj => simp at hj; subst hj; simpa [Addr.add] using hcW
              | j + 1, hj => simp at hj
            case c2 => intro u hu; simp at hu; subst hu; rfl
            case c3 => unfold maxLen; omega
            case c4 => omega
            intro v' w2 hown2 hgrow hvb
            have hF2 := unhide HMORE v' w2 hgrow hvb (fun vs' ho' => by
              rw [owns_same ho' (unhide HOV)]
              exact hown2)
            have HF2 := hide hF2
            have HB2 := hide ((unhide HBK).grown hgrow hszW (fun j hj => (unhide HLT j hj).1))
            clear hown2 hgrow hvb hF2 HMORE HOW HOV HBK HLT hcW
            have hTN : IntKind.u64.wrap ((T : Int) + (NN : Int)) = (T : Int) + (NN : Int) := by rw [IntKind.wrap_u64]; omega
            go_wp2_with fail
            go_roundw
            case rel => exact ⟨T + NN, AG, _, by simp, rfl, unhide HQ4, unhide HF2, (unhide HQ).2.2, by have := unhide hrl; have := (unhide HQ).1; unfold Hid; simp; omega, unhide HB2⟩
            case measure => have := (unhide HQ).1; have := (unhide HT); simp [intOf]; omega
          · -- none
            have hN : whN WW = 0 := by unfold whN; rw [if_neg (by rw [hf]; simp), if_pos hj]
            have hAg : whA WW = 0 := by unfold whA; rw [if_neg (by rw [hf]; simp), if_pos hj]
            obtain ⟨r1, r2, r3, r4⟩ := unhide HDONE hf hj
            rw [hN, hAg, hf, r4]
            rcases unhide HCASE with ⟨hne, _⟩ | ⟨_, lg, q, c, G, H, rfl, rfl, hrec, hlog⟩
            · exact absurd r4 hne
            rw [r1] at hrec ⊢
            obtain ⟨pw, cw, hu16, _⟩ := (unhide HRO6).rows.shape
            subst hu16
            have HLI := hide (lists_any _ _ recs w6 (hrec.rows.below (unhide HB6)) (unhide HRO6).rows)
            have HFI := hide (fun w' (hb : Below w5.heap.size w5 w') => wfirst_any G _ _ 256 _ w' (hlog.below hb))
            have HNX := hide (fun w' (hb : Below w5.heap.size w5 w') => wnext_any G _ _ 256 _ w' (hlog.below hb))
            rw [r3] at HFI
            rw [r2] at HNX
            clear hrec hlog hf hj hN hAg r1 r2 r3 r4 HMORE0 HDONE HBAD HPE HCASE
            go_wp2_with fail
            refine Calls.mono (unhide HLI) ?_
            rintro e w7 ⟨rfl, b7⟩
            have HB7 := hide ((unhide HB6).trans (b7.mono (unhide HB6).size))
            clear b7
            go_wp2_with fail
            refine Calls.mono (unhide HFI _ (unhide HB7)) ?_
            rintro e w8 ⟨rfl, b8⟩
            have HB8 := hide ((unhide HB7).trans (b8.mono (unhide HB7).size))
            clear b8
            go_wp2_with fail
            refine Calls.mono (unhide HNX _ (unhide HB8)) ?_
            rintro e w9 ⟨rfl, b9⟩
            have HB9 := hide ((unhide HB8).trans (b9.mono (unhide HB8).size))
            clear b9
            go_wp2_with fail
            go_ret
            exact ⟨rfl, (unhide HB5).trans ((unhide HB9).mono (unhide HB5).size)⟩
        · -- a sector that is not good
          have h5 : WW.2 = 5 := by
            rcases unhide HPE with h | h
            · exact absurd h hf
            · exact h.1
          have hr5 : Res.2.2 = 5 := by rw [unhide HBAD hf, h5]
          rw [hr5, h5]
          rcases unhide HCASE with ⟨_, rfl, rfl⟩ | ⟨he, _⟩
          · generalize whN WW = NN at *
            generalize whA WW = AG at *
            clear hf h5 hr5 HMORE0 HDONE HBAD HPE HCASE
            go_wp2_with fail
            go_ret
            exact ⟨rfl, (unhide HB5).trans ((unhide HB6).mono (unhide HB5).size)⟩
          · rw [he] at hr5; exact absurd hr5 (by decide)

theorem rows2_of_reads {w : World} {v : Value} {d : Dt} (h : Reads limSaid w (.row 24 (.row 1 (.int .u8))) [v] d) : ∃ ls : List (List UInt8), Rows2 w v ls := by
  obtain ⟨a, cap, l, e, rfl, h1, h2, h3, h4, h5⟩ := h
  simp only [List.cons.injEq, and_true] at e
  subst e
  rcases h5 with rfl | ⟨b, off, rfl, hc⟩
  · exact ⟨[], ⟨a, cap, rfl, h1, h2, h3, Or.inl rfl⟩⟩
  · have hx : ∀ j (h : j < l.length), ∃ bs : List UInt8, ∃ u, w.cell? ⟨b, off + j, none⟩ = some u ∧ Row w u bs := by
      intro j hj
      obtain ⟨cs, g1, g2, g3⟩ := hc j hj
      obtain ⟨u, hu⟩ : ∃ u, cs = [u] := by
        match cs, g1 with
        | [u], _ => exact ⟨u, rfl⟩
      subst hu
      have := g2 0 _ rfl
      simp only [Sh.size, Nat.mul_one, Nat.add_zero] at this
      obtain ⟨bs, hr, _⟩ := row_of_reads g3
      exact ⟨bs, u, this, hr⟩
    have hch : ∃ f : Nat → List UInt8, ∀ j, j < l.length → ∃ u, w.cell? ⟨b, off + j, none⟩ = some u ∧ Row w u (f j) := by
      refine ⟨fun j => if h : j < l.length then (hx j h).choose else [], fun j hj => ?_⟩
      simp only [hj, dif_pos]
      exact (hx j hj).choose_spec
    obtain ⟨f, hf⟩ := hch
    refine ⟨(List.range l.length).map f, ⟨_, cap, by simp, by simpa using h1, h2, h3, Or.inr ⟨b, off, rfl, fun j hj => ?_⟩⟩⟩
    have hj' : j < l.length := by simpa using hj
    obtain ⟨u, hu, hr⟩ := hf j hj'
    exact ⟨u, hu, by simpa using hr⟩
theorem walk_WalRaw (v0 : Value) (d0 : Dt) (a1 : Int) (w1 : (Lit.int .u64 a1).wf = true) (a2 : Int) (w2 : (Lit.int .u64 a2).wf = true) (a3 : Int) (w3 : (Lit.int .u64 a3).wf = true) (w : World) (h0 : Reads limSaid w (.row 24 (.row 1 (.int .u8))) [v0] d0) :
    Calls Try.prog 3 #[v0, .int .u64 a1, .int .u64 a2, .int .u64 a3] w fun e w' => e = .returned (.bool true) ∧ Below w.heap.size w w' := by
  obtain ⟨ls, hl⟩ := rows2_of_reads h0
  have b1 := bounds_u64 w1
  have b2 := bounds_u64 w2
  have b3 := bounds_u64 w3
  obtain ⟨n1, rfl⟩ := Int.eq_ofNat_of_zero_le b1.1
  obtain ⟨n2, rfl⟩ := Int.eq_ofNat_of_zero_le b2.1
  obtain ⟨n3, rfl⟩ := Int.eq_ofNat_of_zero_le b3.1
  exact wraw_any v0 w ls hl n1 n2 n3 (by omega) (by omega) (by omega)
end Go.Proofs.Ytpkpjmebkikgdaa
