/- Texts of ours, one behind the other: MkLiving, MkRef. -/
import Derived.Test.YtlbhhdldeaehkaaG10
import Derived.Test.YtlbhhdldeaehkaaG14
import Derived.Deep.LoopGhost
/- The landed package mark: what lives (living). -/
namespace Go.Proofs.Ytlbhhdldeaehkaa
open Go.RowKit

theorem WInv.count {ws rs S O B : List Int} (h : WInv ws rs S O B) (hh : heapB ws rs = true) : S.length ≤ ws.length := obs_count ws S h.nodup fun a ha => rch_ob hh (h.live a ha)
/-- How far the walk still is from its end. -/
def farW (ws S O : List Int) : Nat := 2 * (ws.length - S.length) + O.length
theorem far_meet {ws rs S O B : List Int} {a : Int} (h : WInv ws rs S O (a :: B)) (hh : heapB ws rs = true) : farW ws (metS S a) (metO S O a) ≤ farW ws S O := by
  have h1 := h.meet.count hh
  unfold farW
  unfold metS metO at *
  split
  · exact Nat.le_refl _
  · rename_i hc
    rw [if_neg hc] at h1
    simp only [List.length_append, List.length_singleton] at *
    omega

set_option maxRecDepth 20000 in
set_option maxHeartbeats 4000000 in
theorem mliving_any (s t : Value) (ws rs : List Int) (w : World) (hs : VRow w s (Uw ws)) (ht : VRow w t (Iw rs)) (hU : U32 ws) (hR : rightB ws rs = true) :
    Calls Try.prog 42 #[s, t] w fun e w' => ∃ b S, e = .returned (.map (some b)) ∧ MapIs Try.prog 3 w' b S.length (szM ws S) ∧ w.heap.size ≤ b ∧ S.Nodup ∧ S.length ≤ 1048576 ∧ (∀ a, a ∈ S ↔ Rch ws rs a) ∧ Below w.heap.size w w' := by
  obtain ⟨r1, r2, r3, r4, r5⟩ := right_parts hR
  obtain ⟨i0, hi, hz0, hz1, hz2⟩ := info_parts Try.infoI64
  have HS := hide hs
  have HT := hide ht
  have HU := hide hU
  have HH := hide r5
  have HL := hide r2
  have HRL := hide r4
  obtain ⟨a, cap, rfl, g1, g2, g3⟩ := hs.shape
  obtain ⟨a', cap', rfl, k1, k2, k3⟩ := ht.shape
  rw [List.length_map] at *
  have hmk : ∀ w, (Instr.makeMap 82 none).run Try.prog w = .ok (.map (some w.heap.size)) (w.alloc (.map #[] 0)) := fun _ => rfl
  have hlr : (Iw rs).length = rs.length := by simp
  rw [hlr] at *
  clear hs ht hU r1 r2 r3 r4 r5 hR g1 g2 g3 k1 k2 k3 hlr
  go_enter Try.func42, Try.ntmps42
  go_wp2_with fail
  have hn0 : ((w.alloc (.map #[] 0)).alloc (.cells #[.slice a ws.length cap, .map (some w.heap.size), .slice none 0 0] 115)).heap[w.heap.size + 1]? = some (.cells #[.slice a ws.length cap, .map (some w.heap.size), .slice none 0 0] 115 (0, 0)) := by
    have := World.alloc_heap_new (w.alloc (.map #[] 0)) (.cells #[.slice a ws.length cap, .map (some w.heap.size), .slice none 0 0] 115)
    rw [World.size_alloc] at this
    exact this
  have hb0 : Below w.heap.size w ((w.alloc (.map #[] 0)).alloc (.cells #[.slice a ws.length cap, .map (some w.heap.size), .slice none 0 0] 115)) := ((Below.refl _ w).alloc (Nat.le_refl _) _).alloc (by rw [World.size_alloc]; omega) _
  have hm0 : MapIs Try.prog 3 ((w.alloc (.map #[] 0)).alloc (.cells #[.slice a ws.length cap, .map (some w.heap.size), .slice none 0 0] 115)) w.heap.size 0 (szM ws []) := by
    have h1 := MapIs.made Try.prog 3 w
    have h2 : szM ws [] = fun _ => none := by funext x; simp [szM]
    rw [h2]
    exact h1.stays (Below.heap_alloc _ _ _ (by rw [World.size_alloc]; omega))
  have HST := hide (show WAt ((w.alloc (.map #[] 0)).alloc (.cells #[.slice a ws.length cap, .map (some w.heap.size), .slice none 0 0] 115)) w.heap.size (w.heap.size + 1) (.slice a ws.length cap) ws w.heap.size (.slice none 0 0) [] [] from ⟨hn0, hm0, World.ownsRow_nil _ _ _ _, by omega, Nat.le_refl _, by simp [Value.ownBlock]⟩)
  have HB0 := hide hb0
  clear hn0 hm0 hb0
  obtain ⟨g, hg⟩ : ∃ g, g = w.heap.size + 1 := ⟨_, rfl⟩
  rw [← hg] at HST ⊢
  clear hg
  go_loopw [7, 15] (fun _ iv wr => ∃ (k : Nat) (ov : Value) (S O : List Int), iv = .int .i64 (k : Int) ∧ k ≤ rs.length ∧ Hid (WAt wr w.heap.size g (.slice a ws.length cap) ws w.heap.size ov S O ∧ WInv ws rs S O (rs.drop k)) ∧ Hid (Below w.heap.size w wr)) (fun _ iv _ => rs.length - (intOf iv).toNat)
  case atStart => exact ⟨0, _, [], [], rfl, Nat.zero_le _, ⟨unhide HST, by rw [List.drop_zero]; exact WInv.start ws rs⟩, unhide HB0⟩
  case round =>
    clear HST HB0
    obtain ⟨k, ov, S, O, rfl, hk, hI, hbr⟩ := hrel
    by_cases hlt : k < rs.length
    · have hkI : (k : Int) < (rs.length : Int) := by omega
      have hkw : IntKind.i64.wrap ((k : Int) + 1) = (k : Int) + 1 := by have := unhide HRL; rw [IntKind.wrap_i64]; omega
      obtain ⟨bt, ot, ct, e0, _, _, htl⟩ := (unhide HT).open (by intro e; have := congrArg List.length e; simp at this; rw [this] at hlt; simp at hlt)
      simp only [Value.slice.injEq, List.length_map] at e0
      obtain ⟨rfl, e9, rfl⟩ := e0
      have ht0 := htl k (.int .i64 rs[k]) (by rw [List.getElem?_map, List.getElem?_eq_getElem hlt]; rfl)
      have htk := ((unhide hbr).cell (World.block_lt_of_cell? w _ ht0)).trans ht0
      have hdr : rs.drop k = rs[k] :: rs.drop (k + 1) := List.drop_eq_getElem_cons hlt
      have hW := (unhide hI).2
      rw [hdr] at hW
      have hpl := (heap_parts (unhide HH)).2.2 rs[k] (List.getElem_mem hlt)
      have hcnt := hW.count (unhide HH)
      have HME := hide (mmeet_any w wr g w.heap.size (.slice a ws.length cap) ov ws S O rs[k] (unhide hI).1 (unhide HS) (unhide hbr) (unhide HU) (unhide HL) (by
        by_cases h0 : rs[k] = 0
        · exact Or.inl h0
        · exact Or.inr (isOb_of_pl hpl h0)) (Nat.le_trans hcnt (unhide HL)) hW.less)
      have HIN := hide hW.meet
      have HBR := hide hbr
      have HLT := hide hlt
      generalize rs[k] = x at *
      clear hW hpl hcnt hdr ht0 htl hI hbr hlt hk e9
      go_wp2_with fail
      refine Calls.mono (unhide HME) ?_
      rintro e w2 ⟨rfl, ov2, hA2, b2⟩
      have HA2 := hide hA2
      have HB2 := hide ((unhide (unhide HBR)).trans b2)
      clear hA2 b2
      go_wp2_with fail
      go_roundw
      case rel => exact ⟨k + 1, ov2, _, _, by go_num, unhide HLT, ⟨unhide HA2, unhide HIN⟩, unhide HB2⟩
      case measure => (have := unhide HLT; simp [intOf]; omega)
    · have hge : ¬ (k : Int) < (rs.length : Int) := by omega
      have hke : rs.drop k = [] := List.drop_of_length_le (by omega)
      rw [hke] at hI
      obtain ⟨c0, c1, c2, hfz⟩ := three_cells (unhide hI).1.blk
      have hgd : decide (k < rs.length) = false := decide_eq_false hlt
      obtain ⟨po, co, rfl⟩ := ownsV_shape (unhide hI).1.own
      have HI1 := hide (unhide hI)
      have HBR := hide (unhide hbr)
      clear hke hlt hk hI hbr c0 c1 c2 hfz
      go_wp2_with fail
      go_loopg [9] (farW ws S O) (fun n _ wq => ∃ (ov : Value) (S O : List Int), n = farW ws S O ∧ Hid (WAt wq w.heap.size g (.slice a ws.length cap) ws w.heap.size ov S O ∧ WInv ws rs S O []) ∧ Hid (Below w.heap.size w wq))
      case atStart => exact ⟨_, S, O, rfl, unhide HI1, unhide HBR⟩
      case round =>
        clear HI1 HBR
        obtain ⟨ov, S, O, hgk, hI, hbr⟩ := hrel
        obtain ⟨c0, c1, c2, hfz⟩ := three_cells (unhide hI).1.blk
        obtain ⟨po, co, rfl⟩ := ownsV_shape (unhide hI).1.own
        rcases List.eq_nil_or_concat O with rfl | ⟨O', x, rfl⟩
        · have hd := (unhide hI).2
          have hcnt := hd.count (unhide HH)
          have HE := hide (show ∃ b S, (Ending.returned (Value.map (some w.heap.size)) : Ending) = .returned (.map (some b)) ∧ MapIs Try.prog 3 wr b S.length (szM ws S) ∧ w.heap.size ≤ b ∧ S.Nodup ∧ S.length ≤ 1048576 ∧ (∀ a, a ∈ S ↔ Rch ws rs a) ∧ Below w.heap.size w wr from
            ⟨w.heap.size, S, rfl, (unhide hI).1.map, Nat.le_refl _, hd.nodup, Nat.le_trans hcnt (unhide HL), fun a => hd.done a, unhide hbr⟩)
          clear hd hcnt hI hbr hgk
          go_wp2_with fail
          go_ret
          exact unhide HE
        · rw [List.concat_eq_append] at *
          have hlen : (O' ++ [x]).length = O'.length + 1 := by simp
          have hd := (unhide hI).2
          have hcnt := Nat.le_trans (hd.count (unhide HH)) (unhide HL)
          have hxr : Rch ws rs x := hd.live x (hd.op x (List.mem_append_right _ (List.mem_singleton.2 rfl)))
          have hxo := rch_ob (unhide HH) hxr
          have HPL := hide (fun p (hp : p ∈ ptsA ws x) => ptsA_pl (unhide HH) hxo hp)
          have HOX := hide hxo
          have HNX := hide (mnext_any wr w.heap.size g w.heap.size (.slice a ws.length cap) _ ws S O' x (unhide hI).1 (by have := hd.less; rw [hlen] at this; omega))
          have HIN := hide hd.next
          have HGK := hide (show gk = farW ws S O' + 1 by rw [hgk]; unfold farW; rw [hlen]; omega)
          have HBR := hide (unhide hbr)
          rw [hlen] at c2
          have hpos : (0 : Int) < ((O'.length + 1 : Nat) : Int) := by omega
          clear hd hcnt hxr hxo hI hbr hgk hlen
          go_wp2_with fail
          refine Calls.mono (unhide HNX) ?_
          rintro e w7 ⟨rfl, ov7, hA7, b7⟩
          have hbb7 := (unhide HBR).trans b7
          have HPT := hide (mpointers_any w w7 g w.heap.size (.slice a ws.length cap) ov7 ws S O' x hA7 (unhide HS) hbb7 (unhide HU) (unhide HL) (unhide HOX))
          have HA7 := hide hA7
          have HB7 := hide hbb7
          clear hA7 b7 hbb7 c0 c1 c2 hfz
          go_wp2_with fail
          refine Calls.mono (unhide HPT) ?_
          rintro e w8 ⟨⟨q, cq, rfl, hrow, _⟩, n8, rfl⟩
          have HROW := hide hrow
          clear hrow
          have HPB := hide (show ∀ p ∈ ptsA ws x, (p = 0 ∨ isOb ws p) ∧ 0 ≤ p ∧ p < 4294967296 from fun p hp => ⟨by
            by_cases h0 : p = 0
            · exact Or.inl h0
            · exact Or.inr (isOb_of_pl (unhide HPL p hp) h0), unhide HU p (List.mem_of_mem_drop (List.mem_of_mem_take hp))⟩)
          have HAD := hide (show WAt (w7.drewN n8) w.heap.size g (.slice a ws.length cap) ws w.heap.size ov7 S O' from ⟨(unhide HA7).blk, (unhide HA7).map.stays rfl, (unhide HA7).own, (unhide HA7).gb, (unhide HA7).bb, (unhide HA7).og⟩)
          have HBD := hide (show Below w.heap.size w (w7.drewN n8) from ⟨(unhide HB7).os, (unhide HB7).tape, (unhide HB7).output, (unhide HB7).size, (unhide HB7).block⟩)
          have HPN := hide (show (ptsA ws x).length ≤ 255 by rw [ptsA_len (unhide HOX)]; have := ptN_lt (wd ws x.toNat); omega)
          generalize ptsA ws x = L at *
          clear HA7 HB7 HPL HOX
          go_wp2_with fail
          go_loopw [9, 29] (fun _ iv wz => ∃ (j : Nat) (ov : Value) (S1 O1 : List Int), iv = .int .i64 (j : Int) ∧ j ≤ L.length ∧ Hid (WAt wz w.heap.size g (.slice a ws.length cap) ws w.heap.size ov S1 O1 ∧ WInv ws rs S1 O1 (L.drop j) ∧ farW ws S1 O1 ≤ farW ws S O') ∧ Hid (Below w.heap.size w wz)) (fun _ iv _ => L.length - (intOf iv).toNat)
          case atStart => exact ⟨0, _, S, O', rfl, Nat.zero_le _, ⟨unhide HAD, by rw [List.drop_zero]; exact unhide HIN, Nat.le_refl _⟩, unhide HBD⟩
          case round =>
            clear HAD HBD HIN
            obtain ⟨j, ov, S1, O1, rfl, hj, hI, hbr⟩ := hrel
            by_cases hlt : j < L.length
            · have hjI : (j : Int) < (L.length : Int) := by omega
              have hjw : IntKind.i64.wrap ((j : Int) + 1) = (j : Int) + 1 := by have := unhide HPN; rw [IntKind.wrap_i64]; omega
              obtain ⟨bt, ot, ct, e0, _, _, htl⟩ := (unhide HROW).open (by intro e; have := congrArg List.length e; simp at this; rw [this] at hlt; simp at hlt)
              simp only [Value.slice.injEq, List.length_map] at e0
              obtain ⟨rfl, e9, rfl⟩ := e0
              have ht0 := htl j (.int .u32 L[j]) (by rw [List.getElem?_map, List.getElem?_eq_getElem hlt]; rfl)
              have htk := ((unhide hbr).cell (World.block_lt_of_cell? w _ ht0)).trans ht0
              have hdr : L.drop j = L[j] :: L.drop (j + 1) := List.drop_eq_getElem_cons hlt
              have hW := (unhide hI).2.1
              rw [hdr] at hW
              obtain ⟨hpo, p0, p1⟩ := unhide HPB L[j] (List.getElem_mem hlt)
              have hcnt := hW.count (unhide HH)
              have HME := hide (mmeet_any w wr g w.heap.size (.slice a ws.length cap) ov ws S1 O1 L[j] (unhide hI).1 (unhide HS) (unhide hbr) (unhide HU) (unhide HL) hpo (Nat.le_trans hcnt (unhide HL)) hW.less)
              have HIN := hide (And.intro hW.meet (Nat.le_trans (far_meet hW (unhide HH)) (unhide hI).2.2))
              have HBR := hide (unhide hbr)
              have HLT := hide hlt
              generalize L[j] = y at *
              clear hW hpo hcnt hdr ht0 htl hI hbr hlt hj e9
              go_wp2_with fail
              refine Calls.mono (unhide HME) ?_
              rintro e w9 ⟨rfl, ov9, hA9, b9⟩
              have HA9 := hide hA9
              have HB9 := hide ((unhide HBR).trans b9)
              clear hA9 b9
              go_wp2_with fail
              go_roundw
              case rel => exact ⟨j + 1, ov9, _, _, by go_num, unhide HLT, ⟨unhide HA9, unhide HIN⟩, unhide HB9⟩
              case measure => (have := unhide HLT; simp [intOf]; omega)
            · have hge : ¬ (j : Int) < (L.length : Int) := by omega
              have hgd : decide (j < L.length) = false := decide_eq_false hlt
              have hke : L.drop j = [] := List.drop_of_length_le (by omega)
              rw [hke] at hI
              have HI2 := hide (unhide hI)
              have HBR := hide (unhide hbr)
              clear hke hlt hj hI hbr
              go_wp2_with fail
              go_roundg (farW ws S1 O1)
              case rel => exact ⟨ov, S1, O1, rfl, ⟨(unhide HI2).1, (unhide HI2).2.1⟩, unhide HBR⟩
              case measure => (have h1 := unhide HGK; have h2 := (unhide HI2).2.2; omega)
end Go.Proofs.Ytlbhhdldeaehkaa

/- The reference of layer 14: Marks. -/
namespace Go.Proofs.Ytlbhhdldeaehkaa
open Go.RowKit

def cntF : List Bool → Nat
  | [] => 0
  | b :: l => (if b then 0 else 1) + cntF l
theorem cntF_le : ∀ m : List Bool, cntF m ≤ m.length
  | [] => Nat.le_refl _
  | b :: l => by have := cntF_le l; cases b <;> simp [cntF] <;> omega
theorem cntF_set : ∀ {m : List Bool} {k : Nat}, m[k]? = some false → cntF (m.set k true) + 1 = cntF m
  | [], k, h => by simp at h
  | b :: l, 0, h => by simp at h; subst h; simp [cntF]; omega
  | b :: l, k + 1, h => by
    have := cntF_set (m := l) (k := k) (by simpa using h)
    simp only [List.set_cons_succ, cntF]
    omega
/-- How far the reference still is from its end. -/
def farM (m : List Bool) (L : List Int) : Nat := 300 * cntF m + L.length

/-- The marks and the list in memory. -/
structure RMk (w : World) (g : Nat) (lv : Value) (m : List Bool) (L : List Int) : Prop where
  blk : w.heap[g]? = some (.cells (m.map Value.bool).toArray 4 (0, 0))
  own : w.ownsRow (g + 1) 3 1 lv L.length (Iw L)
theorem RMk.mark {w : World} {g : Nat} {lv : Value} {m : List Bool} {L : List Int} (h : RMk w g lv m L) (k : Nat) : RMk (w.setCell ⟨g, k, none⟩ (.bool true)) g lv (m.set k true) L := by
  refine ⟨?_, ownsV_keep h.own (keep_set w g k (.bool true)) (fun b e => by have := (h.own.lt b e).1; omega)⟩
  rw [heap_setCell_same w g k _ _ (.bool true) h.blk]
  simp
theorem RMk.cell {w : World} {g : Nat} {lv : Value} {m : List Bool} {L : List Int} (h : RMk w g lv m L) {k : Nat} {b : Bool} (hk : m[k]? = some b) : w.cell? ⟨g, k, none⟩ = some (.bool b) := by
  rw [cell_of_row w g k _ _ (0, 0) h.blk]
  simp [hk]
theorem RMk.less {w : World} {g n c : Nat} {p : Option Addr} {m : List Bool} {L : List Int} {a : Int} (h : RMk w g (.slice p n c) m (L ++ [a])) : RMk w g (.slice p L.length c) m L := by
  have hn : n = L.length + 1 := by
    rcases ownsV_shape h.own with ⟨p', c', e⟩
    simp only [Value.slice.injEq] at e
    rw [e.2.1]; simp
  subst hn
  have h1 := h.own
  rw [show (L ++ [a]).length = L.length + 1 by simp] at h1
  refine ⟨h.blk, ?_⟩
  have := ownsV_take h1 (k := L.length) (by omega)
  simpa using this

theorem far_mark {m : List Bool} {L' P : List Int} {p : Nat} (hcs : cntF (m.set p true) + 1 = cntF m) (hp : P.length ≤ 255) : farM (m.set p true) (L' ++ P) < 300 * cntF m + L'.length + 1 := by
  unfold farM
  rw [List.length_append]
  omega
theorem wrap_small {n : Nat} (h : n ≤ 314572816) : wrap64 (n : Int) = (n : Int) := by unfold wrap64; omega
theorem RMk.push {w w2 : World} {g : Nat} {lv lv' : Value} {m : List Bool} {L : List Int} {a : Int} (h : RMk w g lv m L) (hown : w2.ownsRow (g + 1) 3 1 lv' (L.length + 1) (Iw L ++ [.int .i64 a])) (hg : (w.alloc (.cells #[.int .i64 a] 3)).grownBy w2 lv.ownBlock) :
    RMk w2 g lv' m (L ++ [a]) ∧ Below (g + 1) w w2 := by
  have hgl : g < w.heap.size := (Array.getElem?_eq_some_iff.1 h.blk).1
  have hne : ∀ k, k < g + 1 → lv.ownBlock ≠ some k := fun k hk e => by have := (h.own.lt k e).1; omega
  have hkeep : ∀ k, k < g + 1 → w2.heap[k]? = w.heap[k]? := fun k hk =>
    (hg.block k (by rw [World.size_alloc]; omega) (fun e => hne k hk e.symm)).trans (Below.heap_alloc _ _ k (by omega))
  refine ⟨⟨(hkeep g (by omega)).trans h.blk, by simpa using hown⟩, hg.os, hg.tape, hg.output, ?_, hkeep⟩
  have := hg.size; rw [World.size_alloc] at this; omega
end Go.Proofs.Ytlbhhdldeaehkaa
