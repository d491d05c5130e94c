/- What package frame does: Cut. -/
import Derived.Test.YtdpoiieblbmofaaFrOwn
namespace Go.Proofs.Ytdpoiieblbmofaa
open Go.RowKit

theorem Try.info27 : (Try.prog.info? 27).map (fun i => (i.zero, i.size, i.bytes)) = some (some (.slice none 0 0), 1, 24) := by kernel_rfl

/-- The first k parts lie in a block's cells, each in a block of its own, one behind the other. -/
def PartsAt (w : World) (g : Nat) (cur : Array Value) (blk : Nat → Nat) (ls : List (List UInt8)) (k : Nat) : Prop :=
  (∀ j (h : j < ls.length), j < k → ∃ c cells, cur[j]? = some (.slice (some ⟨blk j, 0, none⟩) ls[j].length c) ∧ Row w (.slice (some ⟨blk j, 0, none⟩) ls[j].length c) ls[j] ∧ w.heap[blk j]? = some (.cells cells 5 (0, 0)) ∧ g < blk j) ∧
  ∀ i j, i < j → j < k → blk i < blk j
def Parts (w : World) (lo : Nat) (v : Value) (ls : List (List UInt8)) : Prop :=
  ∃ (g : Nat) (cur : Array Value) (blk : Nat → Nat), v = .slice (some ⟨g, 0, none⟩) ls.length ls.length ∧ lo ≤ g ∧ w.heap[g]? = some (.cells cur 27 (0, 0)) ∧ cur.size = ls.length ∧ PartsAt w g cur blk ls ls.length

theorem PartsAt.stays {w w' : World} {g : Nat} {cur : Array Value} {blk : Nat → Nat} {ls : List (List UInt8)} {k : Nat} (h : PartsAt w g cur blk ls k) (hb : ∀ b, b < w.heap.size → g < b → w'.heap[b]? = w.heap[b]?) : PartsAt w' g cur blk ls k := by
  refine ⟨fun j hj hjk => ?_, h.2⟩
  obtain ⟨c, cells, h1, h2, h3, h4⟩ := h.1 j hj hjk
  have hlt : blk j < w.heap.size := (Array.getElem?_eq_some_iff.1 h3).1
  have he := hb _ hlt h4
  refine ⟨c, cells, h1, ?_, he.trans h3, h4⟩
  obtain ⟨a, cap, e, r1, r2, r3, r4⟩ := h2
  refine ⟨a, cap, e, r1, r2, r3, ?_⟩
  simp only [Value.slice.injEq, true_and] at e
  obtain ⟨rfl, rfl⟩ := e
  rcases r4 with r4 | ⟨b, off, e, hc⟩
  · exact Or.inl r4
  · simp only [Option.some.injEq, Addr.mk.injEq, and_true] at e
    obtain ⟨rfl, rfl⟩ := e
    exact Or.inr ⟨_, 0, rfl, fun i hi => (World.cell?_of_block (w := w) he).trans (hc i hi)⟩
theorem PartsAt.below {w w' : World} {g : Nat} {cur : Array Value} {blk : Nat → Nat} {ls : List (List UInt8)} {k : Nat} (h : PartsAt w g cur blk ls k) (hb : Below w.heap.size w w') : PartsAt w' g cur blk ls k := h.stays fun b hl _ => hb.block b hl
theorem Parts.below {w w' : World} {lo : Nat} {v : Value} {ls : List (List UInt8)} (h : Parts w lo v ls) (hb : Below w.heap.size w w') : Parts w' lo v ls := by
  obtain ⟨g, cur, blk, h1, h2, h3, h4, h5⟩ := h
  exact ⟨g, cur, blk, h1, h2, (hb.block g (Array.getElem?_eq_some_iff.1 h3).1).trans h3, h4, h5.below hb⟩
theorem Parts.base {w : World} {lo lo' : Nat} {v : Value} {ls : List (List UInt8)} (h : Parts w lo v ls) (hb : lo' ≤ lo) : Parts w lo' v ls := by
  obtain ⟨g, cur, blk, h1, h2, h⟩ := h
  exact ⟨g, cur, blk, h1, by omega, h⟩
theorem Parts.rows {w : World} {lo : Nat} {v : Value} {ls : List (List UInt8)} (h : Parts w lo v ls) (hl : ls.length ≤ maxLen) : Rows2 w v ls := by
  obtain ⟨g, cur, blk, rfl, h2, h3, h4, h5⟩ := h
  refine ⟨_, _, rfl, Nat.le_refl _, hl, by simp, Or.inr ⟨g, 0, rfl, fun j hj => ?_⟩⟩
  obtain ⟨c, cells, e1, e2, _, _⟩ := h5.1 j hj hj
  exact ⟨_, by rw [cell_of_row w g (0 + j) cur _ (0, 0) h3, Nat.zero_add]; exact e1, e2⟩

/-- One part more. -/
theorem PartsAt.more {w w' : World} {g : Nat} {cur : Array Value} {blk : Nat → Nat} {ls : List (List UInt8)} {k : Nat} (h : PartsAt w g cur blk ls k) (hk : k < ls.length) (hsz : k < cur.size) (hgw : g < w.heap.size) (hb : Below w.heap.size w w') {t : Value}
    (ho : w'.ownsRow w.heap.size 5 1 t ls[k].length (ls[k].map B)) (hne : 0 < ls[k].length) : ∃ blk', PartsAt w' g (cur.setIfInBounds k t) blk' ls (k + 1) := by
  have hrow := row_of_owns ho
  rcases ho.2 with ⟨_, e0⟩ | ⟨b, cap, cells, rfl, hb0, hh, _⟩
  · omega
  · obtain ⟨F, hFk, hFn⟩ : ∃ F : Nat → Nat, F k = b ∧ ∀ j, j ≠ k → F j = blk j := ⟨fun j => if j = k then b else blk j, by simp, fun j hj => by simp [hj]⟩
    refine ⟨F, fun j hj hjk => ?_, fun i j hij hjk => ?_⟩
    · by_cases hjk' : j = k
      · subst hjk'
        rw [hFk]
        exact ⟨cap, cells, Array.getElem?_setIfInBounds_self_of_lt hsz, hrow, hh, by omega⟩
      · obtain ⟨c, cells', e1, e2, e3, e4⟩ := (h.below hb).1 j hj (by omega)
        rw [hFn j hjk']
        exact ⟨c, cells', by rw [Array.getElem?_setIfInBounds_ne (by omega)]; exact e1, e2, e3, e4⟩
    · by_cases hjk' : j = k
      · subst hjk'
        rw [hFk, hFn i (by omega)]
        obtain ⟨c, cells', e1, e2, e3, e4⟩ := h.1 i (by omega) hij
        have := (Array.getElem?_eq_some_iff.1 e3).1
        omega
      · rw [hFn j hjk', hFn i (by omega)]
        exact h.2 i j hij (by omega)

theorem length_cutL (age first : Nat) (r : List UInt8) (h : ¬ 8192 < r.length) : ((cutL age first r).length : Int) = countN r.length := by
  unfold cutL
  rw [if_neg h, List.length_map, length_frames]
theorem cutL_get (age first : Nat) (r : List UInt8) (h : ¬ 8192 < r.length) (j : Nat) (hj : j < (cutL age first r).length) : (cutL age first r)[j] = bytesF ⟨age, first, countN r.length, partN r j⟩ := by
  unfold cutL at hj ⊢
  simp only [if_neg h, List.getElem_map, frames_get]
theorem bytesF_pos (f : Fr) : 0 < (bytesF f).length := by
  unfold bytesF
  have h1 := (varF_len 9 f.age).1
  simp only [List.length_append]
  omega

set_option maxRecDepth 20000 in
theorem cut_large (A C : Nat) (s : Value) (r : List UInt8) (w : World) (hs : Row w s r) (h : 8192 < r.length) :
    Calls Try.prog 55 #[.int .u64 (A : Int), .int .u64 (C : Int), s] w fun e w' => e = .returned (.tuple #[.slice none 0 0, .int .i64 4]) ∧ w' = w := by
  obtain ⟨q, c, l, rfl, hl⟩ := hs.shape
  have h' : (8192 : Int) < l := by omega
  clear hs
  go_enter Try.func55, Try.ntmps55
  go_wp2
  go_ret2
  exact ⟨rfl, rfl⟩

set_option maxRecDepth 20000 in
set_option maxHeartbeats 1000000 in
theorem cut_ok (A C : Nat) (hA : A < 18446744073709551616) (hC : C < 18446744073709551616) (s : Value) (r : List UInt8) (w : World) (hs : Row w s r) (h : ¬ 8192 < r.length) :
    Calls Try.prog 55 #[.int .u64 (A : Int), .int .u64 (C : Int), s] w fun e w' => ∃ v, e = .returned (.tuple #[v, .int .i64 0]) ∧ Parts w' w.heap.size v (cutL A C r) ∧ Below w.heap.size w w' := by
  obtain ⟨i0, hi, hz0, hz1, hz2⟩ := info_parts Try.info27
  have hn := length_cutL A C r h
  have hn1 := count_pos (n := r.length) (by omega)
  have hn2 := count_le (n := r.length) (by omega)
  obtain ⟨N, hN⟩ : ∃ N, N = (cutL A C r).length := ⟨_, rfl⟩
  rw [← hN] at hn
  have hcd : ∀ k, k < N → k * 440 ≤ r.length := by
    intro k hk
    have h1 : (k : Int) < countN r.length := by omega
    unfold countN at h1
    repeat' split at h1
    all_goals omega
  have HPT := hide (fun (k : Nat) (hk : k < N) w' (hb : Below w.heap.size w w') => part_any s r k w' (hs.below hb) (hcd k hk) (by omega))
  have HAS := hide (fun (k : Nat) (hk : k < N) (t : Value) w' (hr : Row w' t (partN r k)) => asBytes_any ⟨A, C, (N : Int), partN r k⟩ t w' ⟨hA, hC, by simp only; omega, by simp only; omega, by simp only [length_part]; omega⟩ (by simp only; omega) hr (by simp only [length_part]; omega))
  have HG := hide (fun (k : Nat) (hk : k < (cutL A C r).length) => cutL_get A C r h k hk)
  rw [← hn] at HG
  have HCN := hide (count_any (r.length : Int) w (by omega) (by omega))
  rw [← hn] at HCN
  unfold fv at HAS
  obtain ⟨q, c, l, rfl, hl⟩ := hs.shape
  rw [hl] at h HCN
  have h' : ¬ (8192 : Int) < l := by omega
  have hN1 : (1 : Int) ≤ N := by omega
  have hN2 : (N : Int) ≤ 19 := by omega
  have HN := hide hN
  clear hs hl hcd hn hn1 hn2 hN
  go_enter Try.func55, Try.ntmps55
  go_wp2_with fail
  refine Calls.mono (unhide HCN) ?_
  rintro e w0 ⟨rfl, rfl⟩
  go_wp2_with (at_make; refine wpList_make_full _ rfl _ _ 36 rfl w0.heap.size 27 i0 (.slice none 0 0) 1 Try.underlying36 hi hz0 hz1 .i64 .i64 (N : Int) (N : Int) N rfl rfl rfl rfl ?b2 ?b3 ?b4 ?_)
  case b2 => rw [hz2]; omega
  case b3 => unfold maxLen; omega
  case b4 => exact Nat.le_refl _
  intro w1 hown1 hgrow1
  have hb1 : Below w0.heap.size w0 w1 := (Below.refl _ _).grown hgrow1 (Nat.le_refl _) (fun k hk => by cases hk)
  obtain ⟨cur, hblk, hcs⟩ : ∃ cur : Array Value, w1.heap[w0.heap.size]? = some (.cells cur 27 (0, 0)) ∧ cur.size = N := by
    rcases hown1.2 with ⟨h', _⟩ | ⟨g', cap', cur, h', _, hh, _, _, hcs, htake⟩
    · simp at h'
    · simp only [Value.slice.injEq, Option.some.injEq, Addr.mk.injEq, and_true, true_and] at h'
      obtain ⟨rfl, rfl⟩ := h'
      exact ⟨cur, hh, by simpa using hcs⟩
  clear hown1 hgrow1
  go_wp2_with fail
  go_loopw [19] (fun i wr => ∃ (k : Nat) (cur : Array Value) (blk : Nat → Nat), k ≤ N ∧ i = .int .i64 k ∧ wr.heap[w0.heap.size]? = some (.cells cur 27 (0, 0)) ∧ cur.size = N ∧ Hid (PartsAt wr w0.heap.size cur blk (cutL A C r) k) ∧ Hid (Below w0.heap.size w0 wr)) (fun i _ => N - (intOf i).toNat)
  case atStart => exact ⟨0, cur, fun _ => 0, Nat.zero_le _, rfl, hblk, hcs, ⟨fun j hj hjk => absurd hjk (by omega), fun i j hij hjk => absurd hjk (by omega)⟩, hb1⟩
  case round =>
    obtain ⟨k, cur, blk, hk, rfl, hblk, hcs, hpa, hbel⟩ := hrel
    by_cases hlt : k < N
    · have hcell : wr.cell? ⟨w0.heap.size, k, none⟩ = some (cur[k]'(by omega)) := by
        rw [cell_of_row wr w0.heap.size k cur _ (0, 0) hblk]; exact Array.getElem?_eq_getElem (by omega)
      have hgw : w0.heap.size < wr.heap.size := World.block_lt_of_cell? wr _ hcell
      have HP1 := hide (unhide HPT k hlt wr (unhide hbel))
      have hkl : (k : Int) < N := by omega
      clear hcell
      go_wp2_with fail
      refine Calls.mono (unhide HP1) ?_
      rintro e w2 ⟨t, rfl, hr, rfl⟩
      have HA1 := hide (unhide HAS k hlt t w2 hr)
      obtain ⟨p2, q2, l2, rfl, _⟩ := hr.shape
      clear hr HP1
      go_wp2_with fail
      refine Calls.mono (unhide HA1) ?_
      rintro e w3 ⟨t3, rfl, x3, b3⟩
      have hblk3 := (b3.block _ hgw).trans hblk
      have hcell : w3.cell? ⟨w0.heap.size, k, none⟩ = some (cur[k]'(by omega)) := by
        rw [cell_of_row w3 w0.heap.size k cur _ (0, 0) hblk3]; exact Array.getElem?_eq_getElem (by omega)
      have hfz : w3.frozen? ⟨w0.heap.size, k, none⟩ = false := frozen_of_block hblk3
      have HX : Hid (w3.ownsRow w2.heap.size 5 1 t3 (bytesF ⟨A, C, (N : Int), partN r k⟩).length ((bytesF ⟨A, C, (N : Int), partN r k⟩).map B) ∧ Below w2.heap.size w2 w3) := ⟨x3, b3⟩
      have HB3 := hide ((unhide hbel).trans (b3.mono (unhide hbel).size))
      have HBK := hide hblk3
      obtain ⟨p3, q3, l3, rfl, _⟩ := (row_of_owns x3).shape
      clear x3 b3 HA1 hblk hblk3
      go_wp2
      go_roundw
      case rel =>
        obtain ⟨x3, b3⟩ := unhide HX
        have hkk : k < (cutL A C r).length := by rw [← unhide HN]; exact hlt
        have hg := unhide HG k hkk
        rw [← hg] at x3
        obtain ⟨blk', hp⟩ := (unhide hpa).more hkk (by omega) hgw b3 x3 (by rw [hg]; exact bytesF_pos _)
        refine ⟨k + 1, cur.setIfInBounds k _, blk', by omega, by go_num, heap_setCell_same w3 _ k cur _ _ (unhide HBK), by simpa using hcs, ?_, (unhide HB3).setCell (Nat.le_refl _) _⟩
        refine hp.stays fun b hl hgb => Below.heap_setCell _ _ _ _ (by show b ≠ w0.heap.size; omega)
      case measure => simp [intOf]; omega
    · have hkn : k = N := by omega
      subst hkn
      go_wp2
      go_ret2
      refine ⟨_, rfl, ⟨w0.heap.size, cur, blk, by rw [← unhide HN]; rfl, Nat.le_refl _, hblk, by rw [← unhide HN]; exact hcs, by rw [← unhide HN]; exact unhide hpa⟩, unhide hbel⟩
theorem cut_any (A C : Nat) (hA : A < 18446744073709551616) (hC : C < 18446744073709551616) (s : Value) (r : List UInt8) (w : World) (hs : Row w s r) :
    Calls Try.prog 55 #[.int .u64 (A : Int), .int .u64 (C : Int), s] w fun e w' => ∃ v, e = .returned (.tuple #[v, .int .i64 (cutE r)]) ∧ ((cutE r = 4 ∧ v = .slice none 0 0 ∧ cutL A C r = []) ∨ (cutE r = 0 ∧ Parts w' w.heap.size v (cutL A C r))) ∧ Below w.heap.size w w' := by
  by_cases h : 8192 < r.length
  · refine (cut_large A C s r w hs h).mono ?_
    rintro e w1 ⟨rfl, rfl⟩
    have e4 : cutE r = 4 := by unfold cutE; rw [if_pos h]
    exact ⟨_, by rw [e4], Or.inl ⟨e4, rfl, by unfold cutL; rw [if_pos h]⟩, Below.refl _ _⟩
  · refine (cut_ok A C hA hC s r w hs h).mono ?_
    rintro e w1 ⟨v, rfl, hp, hb⟩
    have e0 : cutE r = 0 := by unfold cutE; rw [if_neg h]
    exact ⟨_, by rw [e0], Or.inr ⟨e0, hp⟩, hb⟩
end Go.Proofs.Ytdpoiieblbmofaa
