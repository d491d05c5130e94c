/- Texts of ours, one behind the other: MkLiving, MkRef. -/
import Derived.Test.YtlbhhdldeaehkaaGreatG10
import Derived.Test.YtlbhhdldeaehkaaGreatG14
import Derived.Deep.LoopGhost
/- The landed package mark: what lives (living). -/
namespace Go.Proofs.YtlbhhdldeaehkaaGreat
open Go.RowKit

theorem WInv.count {ws rs S O B : List Int} (h : WInv ws rs S O B) (hh : heapB ws rs = true) : S.length ≤ ws.length := obs_count ws S h.nodup fun a ha => rch_ob hh (h.live a ha)
/-- How far the walk still is from its end. -/
def farW (ws S O : List Int) : Nat := 2 * (ws.length - S.length) + O.length
theorem far_meet {ws rs S O B : List Int} {a : Int} (h : WInv ws rs S O (a :: B)) (hh : heapB ws rs = true) : farW ws (metS S a) (metO S O a) ≤ farW ws S O := by
  have h1 := h.meet.count hh
  unfold farW
  unfold metS metO at *
  split
  · exact Nat.le_refl _
  · rename_i hc
    rw [if_neg hc] at h1
    simp only [List.length_append, List.length_singleton] at *
    omega

set_option maxRecDepth 20000 in
set_option maxHeartbeats 4000000 in
theorem mliving_any (s t : Value) (ws rs : List Int) (w : World) (hs : VRow w s (Uw ws)) (ht : VRow w t (Iw rs)) (hU : U32 ws) (hR : rightB ws rs = true) :
    Calls Tryz.prog 81 #[s, t] w fun e w' => ∃ b S, e = .returned (.map (some b)) ∧ MapIs Tryz.prog 3 w' b S.length (szM ws S) ∧ w.heap.size ≤ b ∧ S.Nodup ∧ S.length ≤ 1048576 ∧ (∀ a, a ∈ S ↔ Rch ws rs a) ∧ Below w.heap.size w w' := by
  obtain ⟨r1, r2, r3, r4, r5⟩ := right_parts hR
  obtain ⟨i0, hi, hz0, hz1, hz2⟩ := info_parts Tryz.infoI64
  have HS := hide hs
  have HT := hide ht
  have HU := hide hU
  have HH := hide r5
  have HL := hide r2
  have HRL := hide r4
  obtain ⟨a, cap, rfl, g1, g2, g3⟩ := hs.shape
  obtain ⟨a', cap', rfl, k1, k2, k3⟩ := ht.shape
  rw [List.length_map] at *
  have hmk : ∀ w, (Instr.makeMap 120 none).run Tryz.prog w = .ok (.map (some w.heap.size)) (w.alloc (.map #[] 0)) := fun _ => rfl
  have hlr : (Iw rs).length = rs.length := by simp
  rw [hlr] at *
  clear hs ht hU r1 r2 r3 r4 r5 hR g1 g2 g3 k1 k2 k3 hlr
  go_enter Tryz.func81, Tryz.ntmps81
  go_wp2_with fail
  have hn0 : ((w.alloc (.map #[] 0)).alloc (.cells #[.slice a ws.length cap, .map (some w.heap.size), .slice none 0 0] 138)).heap[w.heap.size + 1]? = some (.cells #[.slice a ws.length cap, .map (some w.heap.size), .slice none 0 0] 138 (0, 0)) := by
    have := World.alloc_heap_new (w.alloc (.map #[] 0)) (.cells #[.slice a ws.length cap, .map (some w.heap.size), .slice none 0 0] 138)
    rw [World.size_alloc] at this
    exact this
  have hb0 : Below w.heap.size w ((w.alloc (.map #[] 0)).alloc (.cells #[.slice a ws.length cap, .map (some w.heap.size), .slice none 0 0] 138)) := ((Below.refl _ w).alloc (Nat.le_refl _) _).alloc (by rw [World.size_alloc]; omega) _
  have hm0 : MapIs Tryz.prog 3 ((w.alloc (.map #[] 0)).alloc (.cells #[.slice a ws.length cap, .map (some w.heap.size), .slice none 0 0] 138)) w.heap.size 0 (szM ws []) := by
    have h1 := MapIs.made Tryz.prog 3 w
    have h2 : szM ws [] = fun _ => none := by funext x; simp [szM]
    rw [h2]
    exact h1.stays (Below.heap_alloc _ _ _ (by rw [World.size_alloc]; omega))
  have HST := hide (show WAt ((w.alloc (.map #[] 0)).alloc (.cells #[.slice a ws.length cap, .map (some w.heap.size), .slice none 0 0] 138)) w.heap.size (w.heap.size + 1) (.slice a ws.length cap) ws w.heap.size (.slice none 0 0) [] [] from ⟨hn0, hm0, World.ownsRow_nil _ _ _ _, by omega, Nat.le_refl _, by simp [Value.ownBlock]⟩)
  have HB0 := hide hb0
  clear hn0 hm0 hb0
  obtain ⟨g, hg⟩ : ∃ g, g = w.heap.size + 1 := ⟨_, rfl⟩
  rw [← hg] at HST ⊢
  clear hg
  go_loopw [7, 15] (fun _ iv wr => ∃ (k : Nat) (ov : Value) (S O : List Int), iv = .int .i64 (k : Int) ∧ k ≤ rs.length ∧ Hid (WAt wr w.heap.size g (.slice a ws.length cap) ws w.heap.size ov S O ∧ WInv ws rs S O (rs.drop k)) ∧ Hid (Below w.heap.size w wr)) (fun _ iv _ => rs.length - (intOf iv).toNat)
  case atStart => exact ⟨0, _, [], [], rfl, Nat.zero_le _, ⟨unhide HST, by rw [List.drop_zero]; exact WInv.start ws rs⟩, unhide HB0⟩
  case round =>
    clear HST HB0
    obtain ⟨k, ov, S, O, rfl, hk, hI, hbr⟩ := hrel
    by_cases hlt : k < rs.length
    · have hkI : (k : Int) < (rs.length : Int) := by omega
      have hkw : IntKind.i64.wrap ((k : Int) + 1) = (k : Int) + 1 := by have := unhide HRL; rw [IntKind.wrap_i64]; omega
      obtain ⟨bt, ot, ct, e0, _, _, htl⟩ := (unhide HT).open (by intro e; have := congrArg List.length e; simp at this; rw [this] at hlt; simp at hlt)
      simp only [Value.slice.injEq, List.length_map] at e0
      obtain ⟨rfl, e9, rfl⟩ := e0
      have ht0 := htl k (.int .i64 rs[k]) (by rw [List.getElem?_map, List.getElem?_eq_getElem hlt]; rfl)
      have htk := ((unhide hbr).cell (World.block_lt_of_cell? w _ ht0)).trans ht0
      have hdr : rs.drop k = rs[k] :: rs.drop (k + 1) := List.drop_eq_getElem_cons hlt
      have hW := (unhide hI).2
      rw [hdr] at hW
      have hpl := (heap_parts (unhide HH)).2.2 rs[k] (List.getElem_mem hlt)
      have hcnt := hW.count (unhide HH)
      have HME := hide (mmeet_any w wr g w.heap.size (.slice a ws.length cap) ov ws S O rs[k] (unhide hI).1 (unhide HS) (unhide hbr) (unhide HU) (unhide HL) (by
        by_cases h0 : rs[k] = 0
        · exact Or.inl h0
        · exact Or.inr (isOb_of_pl hpl h0)) (Nat.le_trans hcnt (unhide HL)) hW.less)
      have HIN := hide hW.meet
      have HBR := hide hbr
      have HLT := hide hlt
      generalize rs[k] = x at *
      clear hW hpl hcnt hdr ht0 htl hI hbr hlt hk e9
      go_wp2_with fail
      refine Calls.mono (unhide HME) ?_
      rintro e w2 ⟨rfl, ov2, hA2, b2⟩
      have HA2 := hide hA2
      have HB2 := hide ((unhide (unhide HBR)).trans b2)
      clear hA2 b2
      go_wp2_with fail
      go_roundw
      case rel => exact ⟨k + 1, ov2, _, _, by go_num, unhide HLT, ⟨unhide HA2, unhide HIN⟩, unhide HB2⟩
      case measure => (have := unhide HLT; simp [intOf]; omega)
    · have hge : ¬ (k : Int) < (rs.length : Int) := by omega
      have hke : rs.drop k = [] := List.drop_of_length_le (by omega)
      rw [hke] at hI
      obtain ⟨c0, c1, c2, hfz⟩ := three_cells (unhide hI).1.blk
      have hgd : decide (k < rs.length) = false := decide_eq_false hlt
      obtain ⟨po, co, rfl⟩ := ownsV_shape (unhide hI).1.own
      have HI1 := hide (unhide hI)
      have HBR := hide (unhide hbr)
      clear hke hlt hk hI hbr c0 c1 c2 hfz
      go_wp2_with fail
      go_loopg [9] (farW ws S O) (fun n _ wq => ∃ (ov : Value) (S O : List Int), n = farW ws S O ∧ Hid (WAt wq w.heap.size g (.slice a ws.length cap) ws w.heap.size ov S O ∧ WInv ws rs S O []) ∧ Hid (Below w.heap.size w wq))
      case atStart => exact ⟨_, S, O, rfl, unhide HI1, unhide HBR⟩
      case round =>
        clear HI1 HBR
        obtain ⟨ov, S, O, hgk, hI, hbr⟩ := hrel
        obtain ⟨c0, c1, c2, hfz⟩ := three_cells (unhide hI).1.blk
        obtain ⟨po, co, rfl⟩ := ownsV_shape (unhide hI).1.own
        rcases List.eq_nil_or_concat O with rfl | ⟨O', x, rfl⟩
        · have hd := (unhide hI).2
          have hcnt := hd.count (unhide HH)
          have HE := hide (show ∃ b S, (Ending.returned (Value.map (some w.heap.size)) : Ending) = .returned (.map (some b)) ∧ MapIs Tryz.prog 3 wr b S.length (szM ws S) ∧ w.heap.size ≤ b ∧ S.Nodup ∧ S.length ≤ 1048576 ∧ (∀ a, a ∈ S ↔ Rch ws rs a) ∧ Below w.heap.size w wr from
            ⟨w.heap.size, S, rfl, (unhide hI).1.map, Nat.le_refl _, hd.nodup, Nat.le_trans hcnt (unhide HL), fun a => hd.done a, unhide hbr⟩)
          clear hd hcnt hI hbr hgk
          go_wp2_with fail
          go_ret
          exact unhide HE
        · rw [List.concat_eq_append] at *
          have hlen : (O' ++ [x]).length = O'.length + 1 := by simp
          have hd := (unhide hI).2
          have hcnt := Nat.le_trans (hd.count (unhide HH)) (unhide HL)
          have hxr : Rch ws rs x := hd.live x (hd.op x (List.mem_append_right _ (List.mem_singleton.2 rfl)))
          have hxo := rch_ob (unhide HH) hxr
          have HPL := hide (fun p (hp : p ∈ ptsA ws x) => ptsA_pl (unhide HH) hxo hp)
          have HOX := hide hxo
          have HNX := hide (mnext_any wr w.heap.size g w.heap.size (.slice a ws.length cap) _ ws S O' x (unhide hI).1 (by have := hd.less; rw [hlen] at this; omega))
          have HIN := hide hd.next
          have HGK := hide (show gk = farW ws S O' + 1 by rw [hgk]; unfold farW; rw [hlen]; omega)
          have HBR := hide (unhide hbr)
          rw [hlen] at c2
          have hpos : (0 : Int) < ((O'.length + 1 : Nat) : Int) := by omega
          clear hd hcnt hxr hxo hI hbr hgk hlen
          go_wp2_with fail
          refine Calls.mono (unhide HNX) ?_
          rintro e w7 ⟨rfl, ov7, hA7, b7⟩
          have hbb7 := (unhide HBR).trans b7
          have HPT := hide (mpointers_any w w7 g w.heap.size (.slice a ws.length cap) ov7 ws S O' x hA7 (unhide HS) hbb7 (unhide HU) (unhide HL) (unhide HOX))
          have HA7 := hide hA7
          have HB7 := hide hbb7
          clear hA7 b7 hbb7 c0 c1 c2 hfz
          go_wp2_with fail
          refine Calls.mono (unhide HPT) ?_
          rintro e w8 ⟨⟨q, cq, rfl, hrow, _⟩, n8, rfl⟩
          have HROW := hide hrow
          clear hrow
          have HPB := hide (show ∀ p ∈ ptsA ws x, (p = 0 ∨ isOb ws p) ∧ 0 ≤ p ∧ p < 4294967296 from fun p hp => ⟨by
            by_cases h0 : p = 0
            · exact Or.inl h0
            · exact Or.inr (isOb_of_pl (unhide HPL p hp) h0), unhide HU p (List.mem_of_mem_drop (List.mem_of_mem_take hp))⟩)
          have HAD := hide (show WAt (w7.drewN n8) w.heap.size g (.slice a ws.length cap) ws w.heap.size ov7 S O' from ⟨(unhide HA7).blk, (unhide HA7).map.stays rfl, (unhide HA7).own, (unhide HA7).gb, (unhide HA7).bb, (unhide HA7).og⟩)
          have HBD := hide (show Below w.heap.size w (w7.drewN n8) from ⟨(unhide HB7).os, (unhide HB7).tape, (unhide HB7).output, (unhide HB7).size, (unhide HB7).block⟩)
          have HPN := hide (show (ptsA ws x).length ≤ 255 by rw [ptsA_len (unhide HOX)]; have := ptN_lt (wd ws x.toNat); omega)
          generalize ptsA ws x = L at *
          clear HA7 HB7 HPL HOX
          go_wp2_with fail
          go_loopw [9, 29] (fun _ iv wz => ∃ (j : Nat) (ov : Value) (S1 O1 : List Int), iv = .int .i64 (j : Int) ∧ j ≤ L.length ∧ Hid (WAt wz w.heap.size g (.slice a ws.length cap) ws w.heap.size ov S1 O1 ∧ WInv ws rs S1 O1 (L.drop j) ∧ farW ws S1 O1 ≤ farW ws S O') ∧ Hid (Below w.heap.size w wz)) (fun _ iv _ => L.length - (intOf iv).toNat)
          case atStart => exact ⟨0, _, S, O', rfl, Nat.zero_le _, ⟨unhide HAD, by rw [List.drop_zero]; exact unhide HIN, Nat.le_refl _⟩, unhide HBD⟩
          case round =>
            clear HAD HBD HIN
            obtain ⟨j, ov, S1, O1, rfl, hj, hI, hbr⟩ := hrel
            by_cases hlt : j < L.length
            · have hjI : (j : Int) < (L.length : Int) := by omega
              have hjw : IntKind.i64.wrap ((j : Int) + 1) = (j : Int) + 1 := by have := unhide HPN; rw [IntKind.wrap_i64]; omega
              obtain ⟨bt, ot, ct, e0, _, _, htl⟩ := (unhide HROW).open (by intro e; have := congrArg List.length e; simp at this; rw [this] at hlt; simp at hlt)
              simp only [Value.slice.injEq, List.length_map] at e0
              obtain ⟨rfl, e9, rfl⟩ := e0
              have ht0 := htl j (.int .u32 L[j]) (by rw [List.getElem?_map, List.getElem?_eq_getElem hlt]; rfl)
              have htk := ((unhide hbr).cell (World.block_lt_of_cell? w _ ht0)).trans ht0
              have hdr : L.drop j = L[j] :: L.drop (j + 1) := List.drop_eq_getElem_cons hlt
              have hW := (unhide hI).2.1
              rw [hdr] at hW
              obtain ⟨hpo, p0, p1⟩ := unhide HPB L[j] (List.getElem_mem hlt)
              have hcnt := hW.count (unhide HH)
              have HME := hide (mmeet_any w wr g w.heap.size (.slice a ws.length cap) ov ws S1 O1 L[j] (unhide hI).1 (unhide HS) (unhide hbr) (unhide HU) (unhide HL) hpo (Nat.le_trans hcnt (unhide HL)) hW.less)
              have HIN := hide (And.intro hW.meet (Nat.le_trans (far_meet hW (unhide HH)) (unhide hI).2.2))
              have HBR := hide (unhide hbr)
              have HLT := hide hlt
              generalize L[j] = y at *
              clear hW hpo hcnt hdr ht0 htl hI hbr hlt hj e9
              go_wp2_with fail
              refine Calls.mono (unhide HME) ?_
              rintro e w9 ⟨rfl, ov9, hA9, b9⟩
              have HA9 := hide hA9
              have HB9 := hide ((unhide HBR).trans b9)
              clear hA9 b9
              go_wp2_with fail
              go_roundw
              case rel => exact ⟨j + 1, ov9, _, _, by go_num, unhide HLT, ⟨unhide HA9, unhide HIN⟩, unhide HB9⟩
              case measure => (have := unhide HLT; simp [intOf]; omega)
            · have hge : ¬ (j : Int) < (L.length : Int) := by omega
              have hgd : decide (j < L.length) = false := decide_eq_false hlt
              have hke : L.drop j = [] := List.drop_of_length_le (by omega)
              rw [hke] at hI
              have HI2 := hide (unhide hI)
              have HBR := hide (unhide hbr)
              clear hke hlt hj hI hbr
              go_wp2_with fail
              go_roundg (farW ws S1 O1)
              case rel => exact ⟨ov, S1, O1, rfl, ⟨(unhide HI2).1, (unhide HI2).2.1⟩, unhide HBR⟩
              case measure => (have h1 := unhide HGK; have h2 := (unhide HI2).2.2; omega)
end Go.Proofs.YtlbhhdldeaehkaaGreat

/- The reference of layer 14: Marks. -/
namespace Go.Proofs.YtlbhhdldeaehkaaGreat
open Go.RowKit

def cntF : List Bool → Nat
  | [] => 0
  | b :: l => (if b then 0 else 1) + cntF l
theorem cntF_le : ∀ m : List Bool, cntF m ≤ m.length
  | [] => Nat.le_refl _
  | b :: l => by have := cntF_le l; cases b <;> simp [cntF] <;> omega
theorem cntF_set : ∀ {m : List Bool} {k : Nat}, m[k]? = some false → cntF (m.set k true) + 1 = cntF m
  | [], k, h => by simp at h
  | b :: l, 0, h => by simp at h; subst h; simp [cntF]; omega
  | b :: l, k + 1, h => by
    have := cntF_set (m := l) (k := k) (by simpa using h)
    simp only [List.set_cons_succ, cntF]
    omega
/-- How far the reference still is from its end. -/
def farM (m : List Bool) (L : List Int) : Nat := 300 * cntF m + L.length

/-- The marks and the list in memory. -/
structure RMk (w : World) (g : Nat) (lv : Value) (m : List Bool) (L : List Int) : Prop where
  blk : w.heap[g]? = some (.cells (m.map Value.bool).toArray 4 (0, 0))
  own : w.ownsRow (g + 1) 3 1 lv L.length (Iw L)
theorem RMk.mark {w : World} {g : Nat} {lv : Value} {m : List Bool} {L : List Int} (h : RMk w g lv m L) (k : Nat) : RMk (w.setCell ⟨g, k, none⟩ (.bool true)) g lv (m.set k true) L := by
  refine ⟨?_, ownsV_keep h.own (keep_set w g k (.bool true)) (fun b e => by have := (h.own.lt b e).1; omega)⟩
  rw [heap_setCell_same w g k _ _ (.bool true) h.blk]
  simp
theorem RMk.cell {w : World} {g : Nat} {lv : Value} {m : List Bool} {L : List Int} (h : RMk w g lv m L) {k : Nat} {b : Bool} (hk : m[k]? = some b) : w.cell? ⟨g, k, none⟩ = some (.bool b) := by
  rw [cell_of_row w g k _ _ (0, 0) h.blk]
  simp [hk]
theorem RMk.less {w : World} {g n c : Nat} {p : Option Addr} {m : List Bool} {L : List Int} {a : Int} (h : RMk w g (.slice p n c) m (L ++ [a])) : RMk w g (.slice p L.length c) m L := by
  have hn : n = L.length + 1 := by
    rcases ownsV_shape h.own with ⟨p', c', e⟩
    simp only [Value.slice.injEq] at e
    rw [e.2.1]; simp
  subst hn
  have h1 := h.own
  rw [show (L ++ [a]).length = L.length + 1 by simp] at h1
  refine ⟨h.blk, ?_⟩
  have := ownsV_take h1 (k := L.length) (by omega)
  simpa using this

theorem far_mark {m : List Bool} {L' P : List Int} {p : Nat} (hcs : cntF (m.set p true) + 1 = cntF m) (hp : P.length ≤ 255) : farM (m.set p true) (L' ++ P) < 300 * cntF m + L'.length + 1 := by
  unfold farM
  rw [List.length_append]
  omega
theorem wrap_small {n : Nat} (h : n ≤ 314572816) : wrap64 (n : Int) = (n : Int) := by unfold wrap64; omega
theorem RMk.push {w w2 : World} {g : Nat} {lv lv' : Value} {m : List Bool} {L : List Int} {a : Int} (h : RMk w g lv m L) (hown : w2.ownsRow (g + 1) 3 1 lv' (L.length + 1) (Iw L ++ [.int .i64 a])) (hg : (w.alloc (.cells #[.int .i64 a] 3)).grownBy w2 lv.ownBlock) :
    RMk w2 g lv' m (L ++ [a]) ∧ Below (g + 1) w w2 := by
  have hgl : g < w.heap.size := (Array.getElem?_eq_some_iff.1 h.blk).1
  have hne : ∀ k, k < g + 1 → lv.ownBlock ≠ some k := fun k hk e => by have := (h.own.lt k e).1; omega
  have hkeep : ∀ k, k < g + 1 → w2.heap[k]? = w.heap[k]? := fun k hk =>
    (hg.block k (by rw [World.size_alloc]; omega) (fun e => hne k hk e.symm)).trans (Below.heap_alloc _ _ k (by omega))
  refine ⟨⟨(hkeep g (by omega)).trans h.blk, by simpa using hown⟩, hg.os, hg.tape, hg.output, ?_, hkeep⟩
  have := hg.size; rw [World.size_alloc] at this; omega
set_option maxRecDepth 20000 in
set_option maxHeartbeats 4000000 in
theorem rmarks_any (s t : Value) (ws rs : List Int) (w : World) (hs : VRow w s (Uw ws)) (ht : VRow w t (Iw rs)) (hU : U32 ws) (hR : rightB ws rs = true) :
    Calls Tryz.prog 103 #[s, t] w fun e w' => e = .returned (.slice (some ⟨w.heap.size, 0, none⟩) ws.length ws.length) ∧ ∃ m : List Bool, w'.heap[w.heap.size]? = some (.cells (m.map Value.bool).toArray 4 (0, 0)) ∧ m.length = ws.length ∧ (∀ k : Nat, m[k]? = some true ↔ Rch ws rs (k : Int)) ∧ Below w.heap.size w w' := by
  obtain ⟨r1, r2, r3, r4, r5⟩ := right_parts hR
  obtain ⟨i0, hi, hz0, hz1, hz2⟩ := info_parts Tryz.infoI64
  have hmk := run_make_bools 62 Tryz.underlying62 ws.length (by omega)
  have hb0 : Below w.heap.size w (w.alloc (.cells (Array.replicate ws.length (.bool false)) 4)) := (Below.refl _ w).alloc (Nat.le_refl _) _
  have HS := hide hs
  have HU := hide hU
  have HH := hide r5
  have HL := hide r2
  have HRL := hide r4
  have HT0 := hide (ht.below hb0)
  have HB0 := hide hb0
  obtain ⟨a, cap, rfl, g1, g2, g3⟩ := hs.shape
  obtain ⟨a', cap', rfl, k1, k2, k3⟩ := ht.shape
  have hlr : (Iw rs).length = rs.length := by simp
  have hlw : (Uw ws).length = ws.length := by simp
  rw [hlw] at HS
  rw [hlr] at HT0
  rw [hlr, hlw]
  have HON := hide (show ∀ u ∈ Iw rs, u.oneCell' = true from fun u hu => by obtain ⟨x, _, rfl⟩ := List.mem_map.1 hu; rfl)
  clear hs ht hU r1 r2 r3 r4 r5 hR g1 g2 g3 k1 k2 k3 hlr hlw hb0
  go_enter Tryz.func103, Tryz.ntmps103
  go_wp2_with (first
    | (at_builtin; refine wpList_append_vrow rfl _ _ 32 rfl (w.heap.size + 1) 3 i0 (.int .i64 0) Tryz.underlying32 hi hz0 8 hz1 hz2 rfl (.slice none 0 0) 0 [] rfl (World.ownsRow_nil _ _ _ _) a' rs.length cap' (Iw rs) rfl (unhide HT0) (unhide HON) (by have := unhide HRL; unfold maxLen; omega) (by have := unhide HRL; omega) (by rw [World.size_alloc]; omega) ?_))
  intro v2 w2 hown2 hgrow2 hob2
  obtain ⟨p2, c2, rfl⟩ := ownsV_shape hown2
  have HR2 := hide (show RMk w2 w.heap.size (.slice p2 rs.length c2) (List.replicate ws.length false) rs from ⟨by
    rw [hgrow2.block w.heap.size (by rw [World.size_alloc]; omega) (by simp [Value.ownBlock]), List.map_replicate, List.toArray_replicate]
    exact World.alloc_heap_new w _, by simpa using hown2⟩)
  have HB2 := hide ((unhide HB0).grown hgrow2 (unhide HB0).size (fun k e => by simp [Value.ownBlock] at e))
  clear hown2 hgrow2 hob2 HB0 HT0
  go_wp2_with fail
  go_loopg [6, 7, 8] (farM (List.replicate ws.length false) rs) (fun n lv _ _ wr => ∃ (pl : Option Addr) (cl : Nat) (m : List Bool) (L : List Int), lv = .slice pl L.length cl ∧ Hid (RMk wr w.heap.size (.slice pl L.length cl) m L ∧ MInv ws rs m L ∧ n = farM m L ∧ n ≤ farM (List.replicate ws.length false) rs) ∧ Hid (Below w.heap.size w wr))
  case atStart => exact ⟨p2, c2, _, rs, rfl, ⟨unhide HR2, MInv.start ws rs, rfl, Nat.le_refl _⟩, unhide HB2⟩
  case round =>
    clear HR2 HB2
    obtain ⟨pl, cl, m, L, rfl, hI, hbr⟩ := hrel
    rcases List.eq_nil_or_concat L with rfl | ⟨L', x, rfl⟩
    · have HE := hide (show ∃ m : List Bool, wr.heap[w.heap.size]? = some (.cells (m.map Value.bool).toArray 4 (0, 0)) ∧ m.length = ws.length ∧ (∀ k : Nat, m[k]? = some true ↔ Rch ws rs (k : Int)) ∧ Below w.heap.size w wr from
        ⟨m, (unhide hI).1.blk, (unhide hI).2.1.len, (unhide hI).2.1.done (unhide HH), unhide hbr⟩)
      clear hI hbr
      go_wp2_with fail
      go_ret
      exact ⟨rfl, unhide HE⟩
    · rw [List.concat_eq_append] at *
      obtain ⟨hK, hM, hgk, hg0⟩ := unhide hI
      have hlen : (L' ++ [x]).length = L'.length + 1 := by simp
      have hfar0 : farM (List.replicate ws.length false) rs ≤ 314572816 := by
        unfold farM
        have h1 := cntF_le (List.replicate ws.length false)
        have h2 := unhide HL
        have h3 := unhide HRL
        rw [List.length_replicate] at h1
        omega
      have hfar : farM m (L' ++ [x]) = 300 * cntF m + L'.length + 1 := by unfold farM; rw [hlen]; omega
      have hvr := vrow_of_owns (vs := Iw (L' ++ [x])) (s := .slice pl (L' ++ [x]).length cl) (by simpa using hK.own)
      obtain ⟨bo, off, co, e0, _, _, hcl⟩ := hvr.open (by simp)
      have hK2 := hK.less
      rw [hlen] at hK e0 ⊢
      rcases hK.own.2 with ⟨_, h9⟩ | ⟨ob, co', cur, e1, a1, a2, a3, a4, a5, a6⟩
      · simp at h9
      simp only [Value.slice.injEq] at e1
      obtain ⟨rfl, e2, rfl⟩ := e1
      simp only [Value.slice.injEq, Option.some.injEq, Addr.mk.injEq] at e0
      obtain ⟨⟨rfl, rfl, _⟩, e4, rfl⟩ := e0
      have hc0 := hcl L'.length (.int .i64 x) (by simp)
      simp only [Nat.zero_add] at hc0
      rw [hlen] at a3
      have hLb : L'.length ≤ 314572816 := by omega
      have hcl1 : 0 < cl := by omega
      have hsub := wrap_small hLb
      have hcut := fun W => slice_h_own (P := Tryz.prog) (t := 32) Tryz.underlying32 Tryz.sizeI64o ob (L'.length + 1) cl L'.length (Nat.le_succ _) a3 hcl1 W
      have HK2 := hide hK2
      have HGK := hide (show gk = 300 * cntF m + L'.length + 1 ∧ 300 * cntF m + L'.length + 1 ≤ farM (List.replicate ws.length false) rs from ⟨hgk.trans hfar, by rw [← hfar, ← hgk]; exact hg0⟩)
      have HBR := hide (unhide hbr)
      have hpos : (0 : Int) < ((L'.length + 1 : Nat) : Int) := Int.natCast_pos.2 (Nat.succ_pos _)
      by_cases hskip : x = 0 ∨ m[x.toNat]? = some true
      · have HS2 := hide (hM.skip hskip)
        have HME := hide (show farM m L' < gk ∧ farM m L' ≤ farM (List.replicate ws.length false) rs from ⟨by rw [(unhide HGK).1]; exact Nat.lt_succ_self _, Nat.le_trans (Nat.le_succ _) (unhide HGK).2⟩)
        by_cases h0 : x = 0
        · subst h0
          clear hskip hI hK hM hgk hg0 hlen hfar0 hfar hvr hcl hK2 a1 a2 a3 a4 a5 a6 e2 e4 hLb hcl1 hbr
          go_wp2_with fail
          go_roundg (farM m L')
          case rel => exact ⟨_, cl, m, L', rfl, ⟨unhide HK2, unhide HS2, rfl, (unhide HME).2⟩, unhide HBR⟩
          case measure => exact (unhide HME).1
        · have hxz : (x == 0) = false := beq_eq_false_iff_ne.2 h0
          have hmx := hskip.resolve_left h0
          have hcm := hK2.cell hmx
          have hxo := rch_ob (unhide HH) (hM.list x (List.mem_append_right _ (List.mem_singleton.2 rfl)) h0)
          obtain ⟨s1, s2, s3, s4⟩ := isOb_size hxo
          obtain ⟨p, hp⟩ : ∃ p : Nat, (p : Int) = x := ⟨_, s4⟩
          subst hp
          rw [Int.toNat_natCast] at *
          have hpI : (p : Int) < (ws.length : Int) := by omega
          clear hskip hI hK hM hgk hg0 hlen hfar0 hfar hvr hcl hK2 a1 a2 a3 a4 a5 a6 e2 e4 hLb hcl1 hbr hmx hxo s1 s2 s3 s4
          go_wp2_with fail
          go_roundg (farM m L')
          case rel => exact ⟨_, cl, m, L', rfl, ⟨unhide HK2, unhide HS2, rfl, (unhide HME).2⟩, unhide HBR⟩
          case measure => exact (unhide HME).1
      · have h0 : ¬ x = 0 := fun e => hskip (Or.inl e)
        have hxz : (x == 0) = false := beq_eq_false_iff_ne.2 h0
        have hxo := rch_ob (unhide HH) (hM.list x (List.mem_append_right _ (List.mem_singleton.2 rfl)) h0)
        have hpl := ptsA_len hxo
        have hpg := fun k (hk : k < ptN (wd ws x.toNat)) => ptsA_get hxo hk
        have hMK := hM.mark hxo
        obtain ⟨s1, s2, s3, s4⟩ := isOb_size hxo
        obtain ⟨p, hp⟩ : ∃ p : Nat, (p : Int) = x := ⟨_, s4⟩
        subst hp
        rw [Int.toNat_natCast] at *
        have hmf : m[p]? = some false := by
          have h1 : p < m.length := by rw [hM.len]; exact s3
          rw [List.getElem?_eq_getElem h1]
          cases h2 : m[p] with
          | false => rfl
          | true => exact absurd (Or.inr (by rw [List.getElem?_eq_getElem h1, h2])) hskip
        have hcm := hK2.cell hmf
        have hfz : wr.frozen? ⟨w.heap.size, p, none⟩ = false := frozen_of_block hK2.blk
        have hpI : (p : Int) < (ws.length : Int) := by omega
        have HK3 := hide (hK2.mark p)
        have HM3 := hide hMK
        have hcs := cntF_set hmf
        obtain ⟨u0, u1⟩ := (unhide HU).wd p
        have f2 := ptN_int (wd ws p)
        have HPT := hide (fun w => rptrs_t (wd ws p) w u0 u1)
        have HPL := hide hpl
        have HPG := hide hpg
        have HPN := hide (show ptN (wd ws p) ≤ 255 by have := ptN_lt (wd ws p); omega)
        have HF2 := hide f2
        have hfk := far_mark (L' := L') hcs (hpl ▸ unhide HPN)
        have HCS := hide (show farM (m.set p true) (L' ++ ptsA ws (p : Int)) < gk ∧ farM (m.set p true) (L' ++ ptsA ws (p : Int)) ≤ farM (List.replicate ws.length false) rs ∧ L'.length ≤ 314572816 from ⟨by rw [(unhide HGK).1]; exact hfk, Nat.le_trans (Nat.le_of_lt hfk) (unhide HGK).2, hLb⟩)
        have HB3 := hide (show Below w.heap.size w (wr.setCell ⟨w.heap.size, p, none⟩ (.bool true)) from (unhide HBR).trans ⟨rfl, rfl, rfl, by simp [World.setCell], fun k hk => heap_setCell_other wr ⟨w.heap.size, p, none⟩ k _ (fun e => by dsimp only at e; omega)⟩)
        obtain ⟨bk, of2, cz, e7, _, _, hwl⟩ := (unhide HS).open (by intro e; have := congrArg List.length e; simp at this; rw [this] at s3; simp at s3)
        simp only [Value.slice.injEq, List.length_map] at e7
        obtain ⟨rfl, e8, rfl⟩ := e7
        have hw0 := hwl p _ (by rw [List.getElem?_map, wd_get s3]; rfl)
        have HW0 := hide (fun W (hb : Below w.heap.size w W) => (hb.cell (World.block_lt_of_cell? w _ hw0)).trans hw0)
        have HWL := hide hwl
        have HS2 := hide (show p + ptN (wd ws p) < ws.length ∧ ws.length ≤ 1048576 from ⟨by omega, unhide HL⟩)
        clear hskip hI hK hM hgk hg0 hlen hfar0 hfar hvr hcl hK2 a1 a2 a3 a4 a5 a6 e2 e4 hLb hcl1 hbr hxo s1 s2 s3 s4 hpl hpg hMK hcs hfk f2 e8 hw0 hwl hmf HK2
        go_wp2_with fail
        try rw [hsub]
        go_loopw [6, 8] (fun lv kv wz => ∃ (pl : Option Addr) (cl j : Nat), kv = .int .i64 ((j : Int) + 1) ∧ lv = .slice pl (L'.length + j) cl ∧ j ≤ ptN (wd ws p) ∧ Hid (RMk wz w.heap.size (.slice pl (L'.length + j) cl) (m.set p true) (L' ++ (ptsA ws (p : Int)).take j)) ∧ Hid (Below w.heap.size w wz)) (fun _ kv _ => ptN (wd ws p) + 1 - (intOf kv).toNat)
        case atStart => exact ⟨_, cl, 0, by go_num, rfl, Nat.zero_le _, by simpa using HK3, unhide HB3⟩
        case round =>
          clear HK3 HB3
          obtain ⟨pl, cl, j, rfl, rfl, hj, hK, hbr⟩ := hrel
          have hcw := unhide HW0 wr (unhide hbr)
          have hf2 := unhide HF2
          have hpn := unhide HPN
          have hjw : IntKind.i64.wrap ((j : Int) + 1 + 1) = (j : Int) + 1 + 1 := by rw [IntKind.wrap_i64]; omega
          by_cases hlt : j < ptN (wd ws p)
          · have hle : (j : Int) + 1 ≤ wd ws p / 16 % 256 := by omega
            obtain ⟨n1, n2⟩ := unhide HS2
            have hpi : IntKind.i64.wrap ((p : Int) + ((j : Int) + 1)) = ((p + 1 + j : Nat) : Int) := by rw [IntKind.wrap_i64]; omega
            have hpl9 : ((p + 1 + j : Nat) : Int) < (ws.length : Int) := by omega
            have hg9 := unhide HPG j hlt
            have hw9 := unhide HWL (p + 1 + j) _ (by rw [List.getElem?_map, wd_get (by omega)]; rfl)
            have hc9 := ((unhide hbr).cell (World.block_lt_of_cell? w _ hw9)).trans hw9
            obtain ⟨y0, y1⟩ := (unhide HU).wd (p + 1 + j)
            have htk : (ptsA ws (p : Int)).take (j + 1) = (ptsA ws (p : Int)).take j ++ [wd ws (p + 1 + j)] := by
              rw [List.take_add_one, hg9]; rfl
            have hln : (L' ++ (ptsA ws (p : Int)).take j).length = L'.length + j := by
              rw [List.length_append, List.length_take, unhide HPL]; omega
            obtain ⟨q9, hq9⟩ : ∃ q : Nat, q = p + 1 + j := ⟨_, rfl⟩
            rw [← hq9] at hpi hpl9 hw9 hc9 y0 y1 htk
            have hKo := (unhide hK).own
            rw [hln] at hKo
            obtain ⟨Lj, hLj⟩ : ∃ Lj, Lj = L' ++ (ptsA ws (p : Int)).take j := ⟨_, rfl⟩
            have HTK := hide (show L' ++ (ptsA ws (p : Int)).take (j + 1) = Lj ++ [wd ws q9] by rw [htk, hLj, List.append_assoc])
            rw [← hLj] at hKo hK hln
            have HK := hide (unhide hK)
            have HLN := hide hln
            have HBR := hide (unhide hbr)
            have HLT := hide hlt
            have HLB := hide (show L'.length + j + 1 ≤ 314573100 by have := (unhide HCS).2.2; omega)
            have HWS := hide (unhide hbr).size
            generalize hyy : wd ws q9 = y at *
            have hy9 : IntKind.i64.wrap y = y := by rw [IntKind.wrap_i64]; omega
            have HOW := hide (show (wr.alloc (.cells #[.int .i64 y] 3)).ownsRow (w.heap.size + 1) 3 1 (.slice pl (L'.length + j) cl) (L'.length + j) (Iw Lj) from ownsV_keep (F := fun _ => False) hKo (Keep.of_below ((Below.refl _ _).alloc (Nat.le_refl _) _)) (fun _ _ => id))
            have HNW := hide (show ∀ (i : Nat) (u : Value), [Value.int .i64 y][i]? = some u → (wr.alloc (.cells #[.int .i64 y] 3)).cell? ((⟨wr.heap.size, 0, none⟩ : Addr).add i) = some u from fun i u hi => by match i, hi with | 0, hi => (simp at hi; subst hi; simp [Addr.add]))
            have HGL := hide (show w.heap.size + 1 ≤ (wr.alloc (.cells #[.int .i64 y] 3)).heap.size by rw [World.size_alloc]; have := (unhide hbr).size; omega)
            clear hK hbr hj hlt n1 n2 hg9 hw9 htk hln hq9 hKo hLj hyy hpn hf2
            go_wp2_with fail
            refine Calls.mono (unhide HPT _) ?_
            rintro e w5 ⟨rfl, rfl⟩
            go_wp2_with (first
              | (at_builtin; refine wpList_append_gen rfl _ _ 32 rfl (w.heap.size + 1) 3 i0 (.int .i64 0) Tryz.underlying32 hi hz0 1 8 (by omega) hz1 hz2 rfl (.slice pl (L'.length + j) cl) (L'.length + j) (Iw Lj) rfl (unhide HOW) ⟨w5.heap.size, 0, none⟩ 1 1 [.int .i64 y] rfl rfl (unhide HNW) (by intro u hu; simp at hu; subst hu; rfl) (by have := unhide HLB; unfold maxLen; omega) (by have := unhide HLB; omega) (unhide HGL) ?_))
            intro v6 w6 hown6 hgrow6 hob6
            obtain ⟨p6, c6, rfl⟩ := ownsV_shape hown6
            have hps := (show RMk w5 w.heap.size (.slice pl (L'.length + j) cl) (m.set p true) Lj from unhide HK).push (by rw [unhide HLN]; exact hown6) hgrow6
            have HF := hide (show RMk w6 w.heap.size (.slice p6 (L'.length + (j + 1)) c6) (m.set p true) (L' ++ (ptsA ws (p : Int)).take (j + 1)) by rw [unhide HTK]; exact hps.1)
            have HB6 := hide ((unhide HBR).trans (hps.2.mono (Nat.le_succ _)))
            clear hps hown6 hgrow6 hob6
            go_wp2_with fail
            go_roundw
            case rel => exact ⟨p6, c6, j + 1, by go_num, rfl, unhide HLT, unhide HF, unhide HB6⟩
            case measure => (have := unhide HLT; simp [intOf]; omega)
          · have hle : ¬ (j : Int) + 1 ≤ wd ws p / 16 % 256 := by omega
            have htk : (ptsA ws (p : Int)).take j = ptsA ws (p : Int) := List.take_of_length_le (by rw [unhide HPL]; omega)
            rw [htk] at hK
            have hln : (L' ++ ptsA ws (p : Int)).length = L'.length + j := by rw [List.length_append, unhide HPL]; omega
            have HF := hide (show RMk wr w.heap.size (.slice pl (L' ++ ptsA ws (p : Int)).length cl) (m.set p true) (L' ++ ptsA ws (p : Int)) by rw [hln]; exact unhide hK)
            have HBR := hide (unhide hbr)
            have HLL := hide hln
            clear hK hbr hj hlt htk hln hpn hf2 hjw
            go_wp2_with fail
            refine Calls.mono (unhide HPT _) ?_
            rintro e w5 ⟨rfl, rfl⟩
            go_wp2_with fail
            go_roundg (farM (m.set p true) (L' ++ ptsA ws (p : Int)))
            case rel => exact ⟨pl, cl, _, L' ++ ptsA ws (p : Int), by rw [unhide HLL], ⟨unhide HF, unhide HM3, rfl, (unhide HCS).2.1⟩, unhide HBR⟩
            case measure => exact (unhide HCS).1
end Go.Proofs.YtlbhhdldeaehkaaGreat
