/- What Get of package word does. -/
import Derived.Test.YtdpoiieblbmofaaPut
import Derived.Deep.RegionHeld3
namespace Go.Proofs.Ytdpoiieblbmofaa
open Go.RowKit

theorem num_take_succ (bs : List UInt8) (i : Nat) (h : i < bs.length) : num (bs.take (i + 1)) = num (bs.take i) + bs[i].toNat * 256 ^ i := by
  rw [List.take_succ_eq_append_getElem h, num_append]
  have hl : (bs.take i).length = i := by simp; omega
  rw [hl]
  simp [num, Nat.mul_comm]
theorem num_take_lt (bs : List UInt8) (i : Nat) (h : i ≤ bs.length) : num (bs.take i) < 256 ^ i := by
  have hl : (bs.take i).length = i := by simp; omega
  have := num_lt (bs.take i)
  rwa [hl] at this

theorem get_walk (bs : List UInt8) (b off cp bv : Nat) (w : World) (h8 : bs.length ≤ 8) (hne : b ≠ bv)
    (hcell : ∀ j (h : j < bs.length), w.cell? ⟨b, off + j, none⟩ = some (B bs[j]))
    (hblk : w.heap[bv]? = some (.cells #[.int .u64 0] 35 (0, 0))) :
    Calls Try.prog 114 #[.agg #[.func (.func 119) #[] #[.pointer (some ⟨bv, 0, none⟩)]], .slice (some ⟨b, off, none⟩) bs.length cp] w fun e w' =>
      e = .returned (.bool true) ∧ w'.heap[bv]? = some (.cells #[.int .u64 (num bs : Nat)] 35 (0, 0)) ∧ w.grownBy w' (some bv) := by
  have hlv : bv < w.heap.size := (Array.getElem?_eq_some_iff.1 hblk).1
  have hcell' : ∀ j (h : j < bs.length) (o : Obj), (w.alloc o).cell? ⟨b, off + j, none⟩ = some (B bs[j]) := fun j hj o => by
    rw [World.cell?_alloc_past _ _ _ (World.block_lt_of_cell? w _ (hcell j hj))]; exact hcell j hj
  have key := over_any 119 #[.pointer (some ⟨bv, 0, none⟩)] b off bs.length cp w
    (fun i wr => i ≤ bs.length ∧ (w.alloc (.cells #[.func (.func 119) #[] #[.pointer (some ⟨bv, 0, none⟩)]] 169)).grownBy wr (some bv) ∧ wr.heap[bv]? = some (.cells #[.int .u64 (num (bs.take i) : Nat)] 35 (0, 0)))
    (fun _ _ => False) (by omega) ent_get1
    ⟨by omega, World.grownBy.refl _ _, by rw [Below.heap_alloc _ _ _ hlv]; simpa [num] using hblk⟩
    (by
      rintro i wr ⟨_, hgr, _⟩
      exact hgr.cell (by rw [World.cell?_alloc_at _ _ _ _ rfl]; rfl) (fun e => by have := Option.some.inj e; simp at this; omega))
    (by
      rintro i wr hi ⟨_, hgr, hb⟩
      exact ⟨_, hgr.cell (hcell' i hi _) (fun e => hne (Option.some.inj e))⟩)
    (by
      rintro i c wr hi ⟨_, hgr, hb⟩ hcc
      have e : Value.int .u8 c = B bs[i] := Option.some.inj (hcc.symm.trans (hgr.cell (hcell' i hi _) (fun e => hne (Option.some.inj e))))
      have ec : c = (bs[i].toNat : Int) := by unfold B at e; simpa using e
      subst ec
      refine (get1_any i (num (bs.take i)) bv bs[i] wr (by omega) (num_take_lt bs i (by omega)) (cell_one hb) (frozen_of_block hb)).mono ?_
      rintro e w' ⟨rfl, rfl⟩
      refine Or.inl ⟨rfl, by omega, grown_trans hgr (grown_set _ _ _ _), ?_⟩
      rw [num_take_succ bs i hi]
      exact heap_setCell_same wr bv 0 _ _ _ hb)
  refine key.mono ?_
  rintro e w' (⟨rfl, _, hgr, hb⟩ | ⟨_, _, _, hf⟩)
  · rw [List.take_of_length_le (Nat.le_refl _)] at hb
    exact ⟨rfl, hb, ⟨hgr.os, hgr.tape, hgr.output, Nat.le_trans (by simp) hgr.size, fun k hk hne => (hgr.block k (by simp; omega) hne).trans (Below.heap_alloc _ _ _ hk)⟩⟩
  · exact hf.elim

theorem get_walk' (n : Nat) (bs : List UInt8) (b off cp bv : Nat) (w : World) (hn : bs.length = n) (h8 : n ≤ 8) (hne : b ≠ bv)
    (hcell : ∀ j (h : j < bs.length), w.cell? ⟨b, off + j, none⟩ = some (B bs[j]))
    (hblk : w.heap[bv]? = some (.cells #[.int .u64 0] 35 (0, 0))) :
    Calls Try.prog 114 #[.agg #[.func (.func 119) #[] #[.pointer (some ⟨bv, 0, none⟩)]], .slice (some ⟨b, off, none⟩) n cp] w fun e w' =>
      e = .returned (.bool true) ∧ w'.heap[bv]? = some (.cells #[.int .u64 (num bs : Nat)] 35 (0, 0)) ∧ w.grownBy w' (some bv) := by
  subst hn
  exact get_walk bs b off cp bv w h8 hne hcell hblk

theorem cut_cells {w : World} {bs : List UInt8} {b off a n : Nat} (hc : ∀ j (h : j < bs.length), w.cell? ⟨b, off + j, none⟩ = some (B bs[j])) (o1 o2 : Obj) :
    ∀ j (h : j < ((bs.drop a).take n).length), ((w.alloc o1).alloc o2).drew.cell? ⟨b, off + a + j, none⟩ = some (B ((bs.drop a).take n)[j]) := by
  intro j hj
  have hj' : a + j < bs.length := by simp at hj; omega
  have h0 := hc (a + j) hj'
  have hlt : b < w.heap.size := World.block_lt_of_cell? w _ h0
  show ((w.alloc o1).alloc o2).cell? ⟨b, off + a + j, none⟩ = _
  rw [World.cell?_alloc_past _ _ _ (by simp; omega), World.cell?_alloc_past _ _ _ hlt, Nat.add_assoc, h0]
  simp

theorem get_arg (s : Value) (a n : Int) (w : World) (h : (n < 1 ∨ 8 < n) ∨ a < 0) :
    Calls Try.prog 117 #[s, .int .i64 a, .int .i64 n] w fun e w' => e = .returned (.tuple #[.int .u64 0, .int .i64 1]) ∧ w' = w := by
  by_cases hn : n < 1 ∨ 8 < n
  · have H : Hid (n < 1 ∨ 8 < n) := hn
    clear h hn
    go_enter Try.func117, Try.ntmps117
    go_wp2_with fail
    refine (may_no _ _ H.out).mono ?_
    rintro e w1 ⟨rfl, rfl⟩
    go_wp2
    go_ret2
    exact ⟨rfl, rfl⟩
  · have ha : a < 0 := by omega
    clear h
    have H : Hid (1 ≤ n ∧ n ≤ 8) := by unfold Hid; omega
    clear hn
    go_enter Try.func117, Try.ntmps117
    go_wp2_with fail
    refine (may_yes _ _ H.out.1 H.out.2).mono ?_
    rintro e w1 ⟨rfl, rfl⟩
    go_wp2
    go_ret2
    exact ⟨rfl, rfl⟩

theorem get_short (p : Option Addr) (len cap : Nat) (a n : Nat) (w : World) (hl : len ≤ 9223372036854775807) (ha : a ≤ 9223372036854775807) (h1 : 1 ≤ n) (h2 : n ≤ 8) (h : len < a + n) :
    Calls Try.prog 117 #[.slice p len cap, .int .i64 a, .int .i64 n] w fun e w' => e = .returned (.tuple #[.int .u64 0, .int .i64 10]) ∧ w' = w := by
  have hneg : decide ((a : Int) < 0) = false := by simp
  go_enter Try.func117, Try.ntmps117
  go_wp2_with fail
  refine (may_yes _ _ (by omega) (by omega)).mono ?_
  rintro e w1 ⟨rfl, rfl⟩
  go_wp2
  go_ret2
  exact ⟨rfl, rfl⟩

set_option maxHeartbeats 1000000 in
theorem get_ok (s : Value) (bs : List UInt8) (a n : Nat) (w : World) (hs : Row w s bs) (h1 : 1 ≤ n) (h2 : n ≤ 8) (h : a + n ≤ bs.length) :
    Calls Try.prog 117 #[s, .int .i64 a, .int .i64 n] w fun e w' => e = .returned (.tuple #[.int .u64 (num ((bs.drop a).take n) : Nat), .int .i64 0]) ∧ Below w.heap.size w w' := by
  obtain ⟨p, cap, rfl, hc1, hc2, hc3, hc4⟩ := hs
  unfold maxLen at hc2
  rcases hc4 with rfl | ⟨b, off, rfl, hc⟩
  · simp at h; omega
  have hneg : decide ((a : Int) < 0) = false := by simp
  have hi1 : (a : Int) + n ≤ cap := by omega
  have hi2 : ¬ cap = a := by omega
  have hi3 : (a : Int) ≤ a + n := by omega
  have hi4 : (0 : Int) ≤ a := by omega
  have hi5 : a + n ≤ cap := by omega
  have hwr : IntKind.i64.wrap ((a : Int) + n) = a + n := by rw [IntKind.wrap_i64]; omega
  have hln : ((a : Int) + n).toNat - a = n := by omega
  have HC := hide (cut_cells (a := a) (n := n) hc (.cells #[.int .u64 0] 35) (.cells #[.func (.func 119) #[] #[.pointer (some ⟨w.heap.size, 0, none⟩)]] 169))
  have HV := hide (show ((w.alloc (.cells #[.int .u64 0] 35)).alloc (.cells #[.func (.func 119) #[] #[.pointer (some ⟨w.heap.size, 0, none⟩)]] 169)).drew.heap[w.heap.size]? = some (.cells #[.int .u64 0] 35 (0, 0)) from (Below.heap_alloc _ _ _ (by simp)).trans (heap_alloc_new _ _))
  have HF := hide (show ((w.alloc (.cells #[.int .u64 0] 35)).alloc (.cells #[.func (.func 119) #[] #[.pointer (some ⟨w.heap.size, 0, none⟩)]] 169)).drew.cell? ⟨w.heap.size + 1, 0, none⟩ = some (.func (.func 119) #[] #[.pointer (some ⟨w.heap.size, 0, none⟩)]) from by
    show ((w.alloc (.cells #[.int .u64 0] 35)).alloc (.cells #[.func (.func 119) #[] #[.pointer (some ⟨w.heap.size, 0, none⟩)]] 169)).cell? ⟨w.heap.size + 1, 0, none⟩ = _
    rw [World.cell?_alloc_at _ _ _ _ (by simp)]; rfl)
  have hlen : ((bs.drop a).take n).length = n := by simp; omega
  have hbw : b ≠ w.heap.size := by have := World.block_lt_of_cell? w _ (hc 0 (by omega)); simp at this; omega
  go_enter Try.func117, Try.ntmps117
  go_wp2_with fail
  refine (may_yes _ _ (by omega) (by omega)).mono ?_
  rintro e w ⟨rfl, rfl⟩
  go_wp2_with fail
  go_region_held3 (fun w' => w'.cell? ⟨w.heap.size + 1, 0, none⟩ = some (.func (.func 119) #[] #[.pointer (some ⟨w.heap.size, 0, none⟩)])) (go_keep)
    (first | (go_at_call 114; refine (get_walk' n ((bs.drop a).take n) b (off + a) _ w.heap.size _ hlen h2 hbw (unhide HC) (unhide HV)).mono ?_; rintro e w2 ⟨rfl, hb2, hgr2⟩; have hS2 := hgr2.cell (a := ⟨w.heap.size + 1, 0, none⟩) (unhide HF) (by simp)))
  have hcv := cell_one hb2
  have hbel : Below w.heap.size w w2 := ((((Below.refl _ _).alloc (Nat.le_refl _) _).alloc (by simp) _).drew).grown hgr2 (by simp; omega) (fun k hk => by cases hk; exact Nat.le_refl _)
  clear hb2 hgr2 HF HV HC
  go_wp2
  go_ret2
  exact ⟨rfl, hbel⟩
end Go.Proofs.Ytdpoiieblbmofaa
