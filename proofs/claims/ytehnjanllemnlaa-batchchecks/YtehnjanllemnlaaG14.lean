/- Texts of ours, one behind the other: Get, Rv, Text, All. -/
import Derived.Test.YtehnjanllemnlaaG1
import Derived.Test.YtehnjanllemnlaaG13
import Derived.Deep.RegionHeld3
/- What Get of package word does. -/
namespace Go.Proofs.Ytehnjanllemnlaa
open Go.RowKit

theorem num_take_succ (bs : List UInt8) (i : Nat) (h : i < bs.length) : num (bs.take (i + 1)) = num (bs.take i) + bs[i].toNat * 256 ^ i := by
  rw [List.take_succ_eq_append_getElem h, num_append]
  have hl : (bs.take i).length = i := by simp; omega
  rw [hl]
  simp [num, Nat.mul_comm]
theorem num_take_lt (bs : List UInt8) (i : Nat) (h : i ≤ bs.length) : num (bs.take i) < 256 ^ i := by
  have hl : (bs.take i).length = i := by simp; omega
  have := num_lt (bs.take i)
  rwa [hl] at this

theorem get_walk (bs : List UInt8) (b off cp bv : Nat) (w : World) (h8 : bs.length ≤ 8) (hne : b ≠ bv)
    (hcell : ∀ j (h : j < bs.length), w.cell? ⟨b, off + j, none⟩ = some (B bs[j]))
    (hblk : w.heap[bv]? = some (.cells #[.int .u64 0] 34 (0, 0))) :
    Calls Try.prog 74 #[.agg #[.func (.func 73) #[] #[.pointer (some ⟨bv, 0, none⟩)]], .slice (some ⟨b, off, none⟩) bs.length cp] w fun e w' =>
      e = .returned (.bool true) ∧ w'.heap[bv]? = some (.cells #[.int .u64 (num bs : Nat)] 34 (0, 0)) ∧ w.grownBy w' (some bv) := by
  have hlv : bv < w.heap.size := (Array.getElem?_eq_some_iff.1 hblk).1
  have hcell' : ∀ j (h : j < bs.length) (o : Obj), (w.alloc o).cell? ⟨b, off + j, none⟩ = some (B bs[j]) := fun j hj o => by
    rw [World.cell?_alloc_past _ _ _ (World.block_lt_of_cell? w _ (hcell j hj))]; exact hcell j hj
  have key := over_any 73 #[.pointer (some ⟨bv, 0, none⟩)] b off bs.length cp w
    (fun i wr => i ≤ bs.length ∧ (w.alloc (.cells #[.func (.func 73) #[] #[.pointer (some ⟨bv, 0, none⟩)]] 108)).grownBy wr (some bv) ∧ wr.heap[bv]? = some (.cells #[.int .u64 (num (bs.take i) : Nat)] 34 (0, 0)))
    (fun _ _ => False) (by omega) ent_get1
    ⟨by omega, World.grownBy.refl _ _, by rw [Below.heap_alloc _ _ _ hlv]; simpa [num] using hblk⟩
    (by
      rintro i wr ⟨_, hgr, _⟩
      exact hgr.cell (by rw [World.cell?_alloc_at _ _ _ _ rfl]; rfl) (fun e => by have := Option.some.inj e; simp at this; omega))
    (by
      rintro i wr hi ⟨_, hgr, hb⟩
      exact ⟨_, hgr.cell (hcell' i hi _) (fun e => hne (Option.some.inj e))⟩)
    (by
      rintro i c wr hi ⟨_, hgr, hb⟩ hcc
      have e : Value.int .u8 c = B bs[i] := Option.some.inj (hcc.symm.trans (hgr.cell (hcell' i hi _) (fun e => hne (Option.some.inj e))))
      have ec : c = (bs[i].toNat : Int) := by unfold B at e; simpa using e
      subst ec
      refine (get1_any i (num (bs.take i)) bv bs[i] wr (by omega) (num_take_lt bs i (by omega)) (cell_one hb) (frozen_of_block hb)).mono ?_
      rintro e w' ⟨rfl, rfl⟩
      refine Or.inl ⟨rfl, by omega, grown_trans hgr (grown_set _ _ _ _), ?_⟩
      rw [num_take_succ bs i hi]
      exact heap_setCell_same wr bv 0 _ _ _ hb)
  refine key.mono ?_
  rintro e w' (⟨rfl, _, hgr, hb⟩ | ⟨_, _, _, hf⟩)
  · rw [List.take_of_length_le (Nat.le_refl _)] at hb
    exact ⟨rfl, hb, ⟨hgr.os, hgr.tape, hgr.output, Nat.le_trans (by simp) hgr.size, fun k hk hne => (hgr.block k (by simp; omega) hne).trans (Below.heap_alloc _ _ _ hk)⟩⟩
  · exact hf.elim

theorem get_walk' (n : Nat) (bs : List UInt8) (b off cp bv : Nat) (w : World) (hn : bs.length = n) (h8 : n ≤ 8) (hne : b ≠ bv)
    (hcell : ∀ j (h : j < bs.length), w.cell? ⟨b, off + j, none⟩ = some (B bs[j]))
    (hblk : w.heap[bv]? = some (.cells #[.int .u64 0] 34 (0, 0))) :
    Calls Try.prog 74 #[.agg #[.func (.func 73) #[] #[.pointer (some ⟨bv, 0, none⟩)]], .slice (some ⟨b, off, none⟩) n cp] w fun e w' =>
      e = .returned (.bool true) ∧ w'.heap[bv]? = some (.cells #[.int .u64 (num bs : Nat)] 34 (0, 0)) ∧ w.grownBy w' (some bv) := by
  subst hn
  exact get_walk bs b off cp bv w h8 hne hcell hblk

theorem cut_cells {w : World} {bs : List UInt8} {b off a n : Nat} (hc : ∀ j (h : j < bs.length), w.cell? ⟨b, off + j, none⟩ = some (B bs[j])) (o1 o2 : Obj) :
    ∀ j (h : j < ((bs.drop a).take n).length), ((w.alloc o1).alloc o2).drew.cell? ⟨b, off + a + j, none⟩ = some (B ((bs.drop a).take n)[j]) := by
  intro j hj
  have hj' : a + j < bs.length := by simp at hj; omega
  have h0 := hc (a + j) hj'
  have hlt : b < w.heap.size := World.block_lt_of_cell? w _ h0
  show ((w.alloc o1).alloc o2).cell? ⟨b, off + a + j, none⟩ = _
  rw [World.cell?_alloc_past _ _ _ (by simp; omega), World.cell?_alloc_past _ _ _ hlt, Nat.add_assoc, h0]
  simp

theorem get_arg (s : Value) (a n : Int) (w : World) (h : (n < 1 ∨ 8 < n) ∨ a < 0) :
    Calls Try.prog 65 #[s, .int .i64 a, .int .i64 n] w fun e w' => e = .returned (.tuple #[.int .u64 0, .int .i64 1]) ∧ w' = w := by
  by_cases hn : n < 1 ∨ 8 < n
  · have H : Hid (n < 1 ∨ 8 < n) := hn
    clear h hn
    go_enter Try.func65, Try.ntmps65
    go_wp2_with fail
    refine (may_no _ _ H.out).mono ?_
    rintro e w1 ⟨rfl, rfl⟩
    go_wp2
    go_ret2
    exact ⟨rfl, rfl⟩
  · have ha : a < 0 := by omega
    clear h
    have H : Hid (1 ≤ n ∧ n ≤ 8) := by unfold Hid; omega
    clear hn
    go_enter Try.func65, Try.ntmps65
    go_wp2_with fail
    refine (may_yes _ _ H.out.1 H.out.2).mono ?_
    rintro e w1 ⟨rfl, rfl⟩
    go_wp2
    go_ret2
    exact ⟨rfl, rfl⟩

theorem get_short (p : Option Addr) (len cap : Nat) (a n : Nat) (w : World) (hl : len ≤ 9223372036854775807) (ha : a ≤ 9223372036854775807) (h1 : 1 ≤ n) (h2 : n ≤ 8) (h : len < a + n) :
    Calls Try.prog 65 #[.slice p len cap, .int .i64 a, .int .i64 n] w fun e w' => e = .returned (.tuple #[.int .u64 0, .int .i64 10]) ∧ w' = w := by
  have hneg : decide ((a : Int) < 0) = false := by simp
  go_enter Try.func65, Try.ntmps65
  go_wp2_with fail
  refine (may_yes _ _ (by omega) (by omega)).mono ?_
  rintro e w1 ⟨rfl, rfl⟩
  go_wp2
  go_ret2
  exact ⟨rfl, rfl⟩

set_option maxHeartbeats 1000000 in
theorem get_ok (s : Value) (bs : List UInt8) (a n : Nat) (w : World) (hs : Row w s bs) (h1 : 1 ≤ n) (h2 : n ≤ 8) (h : a + n ≤ bs.length) :
    Calls Try.prog 65 #[s, .int .i64 a, .int .i64 n] w fun e w' => e = .returned (.tuple #[.int .u64 (num ((bs.drop a).take n) : Nat), .int .i64 0]) ∧ Below w.heap.size w w' := by
  obtain ⟨p, cap, rfl, hc1, hc2, hc3, hc4⟩ := hs
  unfold maxLen at hc2
  rcases hc4 with rfl | ⟨b, off, rfl, hc⟩
  · simp at h; omega
  have hneg : decide ((a : Int) < 0) = false := by simp
  have hi1 : (a : Int) + n ≤ cap := by omega
  have hi2 : ¬ cap = a := by omega
  have hi3 : (a : Int) ≤ a + n := by omega
  have hi4 : (0 : Int) ≤ a := by omega
  have hi5 : a + n ≤ cap := by omega
  have hwr : IntKind.i64.wrap ((a : Int) + n) = a + n := by rw [IntKind.wrap_i64]; omega
  have hln : ((a : Int) + n).toNat - a = n := by omega
  have HC := hide (cut_cells (a := a) (n := n) hc (.cells #[.int .u64 0] 34) (.cells #[.func (.func 73) #[] #[.pointer (some ⟨w.heap.size, 0, none⟩)]] 108))
  have HV := hide (show ((w.alloc (.cells #[.int .u64 0] 34)).alloc (.cells #[.func (.func 73) #[] #[.pointer (some ⟨w.heap.size, 0, none⟩)]] 108)).drew.heap[w.heap.size]? = some (.cells #[.int .u64 0] 34 (0, 0)) from (Below.heap_alloc _ _ _ (by simp)).trans (heap_alloc_new _ _))
  have HF := hide (show ((w.alloc (.cells #[.int .u64 0] 34)).alloc (.cells #[.func (.func 73) #[] #[.pointer (some ⟨w.heap.size, 0, none⟩)]] 108)).drew.cell? ⟨w.heap.size + 1, 0, none⟩ = some (.func (.func 73) #[] #[.pointer (some ⟨w.heap.size, 0, none⟩)]) from by
    show ((w.alloc (.cells #[.int .u64 0] 34)).alloc (.cells #[.func (.func 73) #[] #[.pointer (some ⟨w.heap.size, 0, none⟩)]] 108)).cell? ⟨w.heap.size + 1, 0, none⟩ = _
    rw [World.cell?_alloc_at _ _ _ _ (by simp)]; rfl)
  have hlen : ((bs.drop a).take n).length = n := by simp; omega
  have hbw : b ≠ w.heap.size := by have := World.block_lt_of_cell? w _ (hc 0 (by omega)); simp at this; omega
  go_enter Try.func65, Try.ntmps65
  go_wp2_with fail
  refine (may_yes _ _ (by omega) (by omega)).mono ?_
  rintro e w ⟨rfl, rfl⟩
  go_wp2_with fail
  go_region_held3 (fun w' => w'.cell? ⟨w.heap.size + 1, 0, none⟩ = some (.func (.func 73) #[] #[.pointer (some ⟨w.heap.size, 0, none⟩)])) (go_keep)
    (first | (go_at_call 74; refine (get_walk' n ((bs.drop a).take n) b (off + a) _ w.heap.size _ hlen h2 hbw (unhide HC) (unhide HV)).mono ?_; rintro e w2 ⟨rfl, hb2, hgr2⟩; have hS2 := hgr2.cell (a := ⟨w.heap.size + 1, 0, none⟩) (unhide HF) (by simp)))
  have hcv := cell_one hb2
  have hbel : Below w.heap.size w w2 := ((((Below.refl _ _).alloc (Nat.le_refl _) _).alloc (by simp) _).drew).grown hgr2 (by simp; omega) (fun k hk => by cases hk; exact Nat.le_refl _)
  clear hb2 hgr2 HF HV HC
  go_wp2
  go_ret2
  exact ⟨rfl, hbel⟩
end Go.Proofs.Ytehnjanllemnlaa

/- What ReadVar of package word does. -/
namespace Go.Proofs.Ytehnjanllemnlaa
open Go.RowKit

theorem fault_any (i : Nat) (c : UInt8) (w : World) :
    Calls Try.prog 77 #[.int .i64 i, .int .u8 (c.toNat : Int)] w fun e w' => e = .returned (.bool (badB i c.toNat)) ∧ w' = w := by
  by_cases h9 : i = 9
  · subst h9
    by_cases h1 : 1 < c.toNat
    · have hb : badB 9 c.toNat = true := by simp [badB]; omega
      have hc1 : (1 : Int) < c.toNat := by omega
      rw [hb]
      clear hb h1
      go_enter Try.func77, Try.ntmps77
      go_wp2
      go_ret
      exact ⟨rfl, rfl⟩
    · have hb : badB 9 c.toNat = ((c.toNat : Int) == 0) := by rw [Bool.eq_iff_iff]; simp [badB]; omega
      have hc1 : decide ((1 : Int) < c.toNat) = false := by simp; omega
      rw [hb]
      clear hb h1
      go_enter Try.func77, Try.ntmps77
      go_wp2
      go_ret
      exact ⟨rfl, rfl⟩
  · have hi9 : ((i : Int) == 9) = false := by simp; omega
    by_cases h0 : 0 < i
    · have hb : badB i c.toNat = ((c.toNat : Int) == 0) := by rw [Bool.eq_iff_iff]; simp [badB]; omega
      have hi0 : (0 : Int) < i := by omega
      rw [hb]
      clear hb h0
      go_enter Try.func77, Try.ntmps77
      go_wp2
      go_ret
      exact ⟨rfl, rfl⟩
    · obtain rfl : i = 0 := by omega
      have hb : badB 0 c.toNat = false := by simp [badB]
      rw [hb]
      clear hb h0 h9 hi9
      go_enter Try.func77, Try.ntmps77
      go_wp2
      go_ret
      exact ⟨rfl, rfl⟩

theorem read1_bad (i be bv bn : Nat) (c : UInt8) (x : Value) (w : World) (h : badB i c.toNat = true) (hce : w.cell? ⟨be, 0, none⟩ = some x) (hfe : w.frozen? ⟨be, 0, none⟩ = false) :
    Calls Try.prog 76 #[.int .i64 i, .int .u8 (c.toNat : Int), .pointer (some ⟨be, 0, none⟩), .pointer (some ⟨bv, 0, none⟩), .pointer (some ⟨bn, 0, none⟩)] w fun e w' =>
      e = .returned (.bool false) ∧ w' = w.setCell ⟨be, 0, none⟩ (.int .i64 11) := by
  have H := hide h
  clear h
  go_enter Try.func76, Try.ntmps76
  go_wp2_with fail
  refine (fault_any i c w).mono ?_
  rintro e w ⟨rfl, rfl⟩
  rw [unhide H]
  go_wp2
  go_ret
  exact ⟨rfl, rfl⟩

theorem read1_more (i be bv bn v n : Nat) (c : UInt8) (w : World) (hi : i ≤ 9) (hv : v < 128 ^ i) (h : badB i c.toNat = false) (hc : 128 ≤ c.toNat) (hn : n < 9223372036854775807) (hne : bn ≠ bv)
    (hcv : w.cell? ⟨bv, 0, none⟩ = some (.int .u64 v)) (hfv : w.frozen? ⟨bv, 0, none⟩ = false)
    (hcn : w.cell? ⟨bn, 0, none⟩ = some (.int .i64 n)) (hfn : w.frozen? ⟨bn, 0, none⟩ = false) :
    Calls Try.prog 76 #[.int .i64 i, .int .u8 (c.toNat : Int), .pointer (some ⟨be, 0, none⟩), .pointer (some ⟨bv, 0, none⟩), .pointer (some ⟨bn, 0, none⟩)] w fun e w' =>
      e = .returned (.bool true) ∧ w' = ((w.setCell ⟨bv, 0, none⟩ (.int .u64 ((v + c.toNat % 128 * 128 ^ i : Nat) : Int))).setCell ⟨bn, 0, none⟩ (.int .i64 ((n : Int) + 1))).drew := by
  have H := hide h
  have HV := hide hv
  have hc8 := c.toNat_lt
  have hand : bits .and .u8 (c.toNat : Int) 127 = (c.toNat : Int) % 128 := by rw [bits_and127]; omega
  have ht : (bits .and .u8 (c.toNat : Int) 128 != 0) = true := by rw [bits_and128, if_pos hc]; rfl
  clear h hv
  go_enter Try.func76, Try.ntmps76
  go_wp2_with fail
  refine (fault_any i c w).mono ?_
  rintro e w ⟨rfl, rfl⟩
  rw [unhide H]
  go_wp2
  go_region
  go_wp2
  go_ret
  exact ⟨rfl, by rw [rv_bits i v c hi HV.out H.out]⟩

theorem read1_last (i be bv bn v n : Nat) (c : UInt8) (x : Value) (w : World) (hi : i ≤ 9) (hv : v < 128 ^ i) (h : badB i c.toNat = false) (hc : c.toNat < 128) (hn : n < 9223372036854775807) (hne : bn ≠ bv) (hne2 : be ≠ bv) (hne3 : be ≠ bn)
    (hcv : w.cell? ⟨bv, 0, none⟩ = some (.int .u64 v)) (hfv : w.frozen? ⟨bv, 0, none⟩ = false)
    (hcn : w.cell? ⟨bn, 0, none⟩ = some (.int .i64 n)) (hfn : w.frozen? ⟨bn, 0, none⟩ = false)
    (hce : w.cell? ⟨be, 0, none⟩ = some x) (hfe : w.frozen? ⟨be, 0, none⟩ = false) :
    Calls Try.prog 76 #[.int .i64 i, .int .u8 (c.toNat : Int), .pointer (some ⟨be, 0, none⟩), .pointer (some ⟨bv, 0, none⟩), .pointer (some ⟨bn, 0, none⟩)] w fun e w' =>
      e = .returned (.bool false) ∧ w' = (((w.setCell ⟨bv, 0, none⟩ (.int .u64 ((v + c.toNat % 128 * 128 ^ i : Nat) : Int))).setCell ⟨bn, 0, none⟩ (.int .i64 ((n : Int) + 1))).setCell ⟨be, 0, none⟩ (.int .i64 0)).drew := by
  have H := hide h
  have HV := hide hv
  have hc8 := c.toNat_lt
  have hand : bits .and .u8 (c.toNat : Int) 127 = (c.toNat : Int) % 128 := by rw [bits_and127]; omega
  have ht : (bits .and .u8 (c.toNat : Int) 128 != 0) = false := by rw [bits_and128, if_neg (by omega)]; rfl
  clear h hv
  go_enter Try.func76, Try.ntmps76
  go_wp2_with fail
  refine (fault_any i c w).mono ?_
  rintro e w ⟨rfl, rfl⟩
  rw [unhide H]
  go_wp2
  go_region
  go_wp2
  go_ret
  exact ⟨rfl, by rw [rv_bits i v c hi HV.out H.out]⟩

theorem ent_read1 (args : Array Value) (w : World) : (callFunc 76 args).run Try.prog w = .ok (.enter 76 args) w := by
  first | kernel_rfl | rfl | simp [callFunc, Try.func76]

theorem one_set {w : World} {g e : Nat} {u : Value} (h : w.heap[g]? = some (.cells #[u] e (0, 0))) (v : Value) : (w.setCell ⟨g, 0, none⟩ v).heap[g]? = some (.cells #[v] e (0, 0)) :=
  heap_setCell_same w g 0 _ _ v h
theorem other_set {w : World} {g k : Nat} {o : Option Obj} (h : w.heap[k]? = o) (v : Value) (hne : k ≠ g) : (w.setCell ⟨g, 0, none⟩ v).heap[k]? = o :=
  (Below.heap_setCell _ _ _ _ hne).trans h

/-- Where the walk of ReadVar has come to the byte at place i. -/
structure RvAt (w : World) (N be bv bn bx a : Nat) (fv : Value) (xs : List UInt8) (i : Nat) (wr : World) : Prop where
  ile : i ≤ 9
  st : ∃ v, v < 128 ^ i ∧ rvF 0 0 xs = rvF i v (xs.drop i) ∧ wr.heap[bv]? = some (.cells #[.int .u64 (v : Nat)] 34 (0, 0))
  ce : wr.heap[be]? = some (.cells #[.int .i64 10] 25 (0, 0))
  cn : wr.heap[bn]? = some (.cells #[.int .i64 ((a + i : Nat) : Int)] 3 (0, 0))
  bx : wr.heap[bx]? = some (.cells #[fv] 108 (0, 0))
  oth : ∀ k, k < w.heap.size → k ≠ be → k ≠ bv → k ≠ bn → wr.heap[k]? = w.heap[k]?
  bel : Below N w wr

/-- Where it ends. -/
structure RvEnd (w : World) (N be bv bn a : Nat) (xs : List UInt8) (wr : World) : Prop where
  ce : wr.heap[be]? = some (.cells #[.int .i64 ((rvF 0 0 xs).1 : Nat)] 25 (0, 0))
  cv : (rvF 0 0 xs).1 = 0 → wr.heap[bv]? = some (.cells #[.int .u64 ((rvF 0 0 xs).2.1 : Nat)] 34 (0, 0))
  cn : (rvF 0 0 xs).1 = 0 → wr.heap[bn]? = some (.cells #[.int .i64 ((a + (rvF 0 0 xs).2.2 : Nat) : Int)] 3 (0, 0))
  oth : ∀ k, k < w.heap.size → k ≠ be → k ≠ bv → k ≠ bn → wr.heap[k]? = w.heap[k]?
  bel : Below N w wr

theorem read_walk (n : Nat) (xs : List UInt8) (b off cp N be bv bn a : Nat) (w : World) (hn : xs.length = n) (hlen : a + xs.length < 9223372036854775807) (hbN : b < N) (hNe : N ≤ be) (hNv : N ≤ bv) (hNn : N ≤ bn) (hN : N ≤ w.heap.size) (h1 : bn ≠ bv) (h2 : be ≠ bv) (h3 : be ≠ bn)
    (hcell : ∀ j (h : j < xs.length), w.cell? ⟨b, off + j, none⟩ = some (B xs[j]))
    (he : w.heap[be]? = some (.cells #[.int .i64 10] 25 (0, 0))) (hv : w.heap[bv]? = some (.cells #[.int .u64 0] 34 (0, 0))) (hnn : w.heap[bn]? = some (.cells #[.int .i64 (a : Nat)] 3 (0, 0))) :
    Calls Try.prog 74 #[.agg #[.func (.func 76) #[] #[.pointer (some ⟨be, 0, none⟩), .pointer (some ⟨bv, 0, none⟩), .pointer (some ⟨bn, 0, none⟩)]], .slice (some ⟨b, off, none⟩) n cp] w fun e w' =>
      (∃ r, e = .returned (.bool r)) ∧ RvEnd w N be bv bn a xs w' := by
  subst hn
  have lte : be < w.heap.size := (Array.getElem?_eq_some_iff.1 he).1
  have ltv : bv < w.heap.size := (Array.getElem?_eq_some_iff.1 hv).1
  have ltn : bn < w.heap.size := (Array.getElem?_eq_some_iff.1 hnn).1
  have key := over_any 76 #[.pointer (some ⟨be, 0, none⟩), .pointer (some ⟨bv, 0, none⟩), .pointer (some ⟨bn, 0, none⟩)] b off xs.length cp w
    (RvAt w N be bv bn w.heap.size a (.func (.func 76) #[] #[.pointer (some ⟨be, 0, none⟩), .pointer (some ⟨bv, 0, none⟩), .pointer (some ⟨bn, 0, none⟩)]) xs)
    (fun _ wr => RvEnd w N be bv bn a xs wr) (by omega) ent_read1
    ⟨by omega, ⟨0, by simp, by simp, by rw [Below.heap_alloc _ _ _ ltv]; exact hv⟩, by rw [Below.heap_alloc _ _ _ lte]; exact he, by rw [Below.heap_alloc _ _ _ ltn]; exact hnn, heap_alloc_new _ _, fun k hk _ _ _ => Below.heap_alloc _ _ _ hk, (Below.refl _ _).alloc hN _⟩
    (fun i wr h => cell_one h.bx)
    (fun i wr hi h => ⟨_, (h.bel.cell hbN).trans (hcell i hi)⟩)
    (by
      intro i c wr hi h hcc
      have e : Value.int .u8 c = B xs[i] := Option.some.inj (hcc.symm.trans ((h.bel.cell hbN).trans (hcell i hi)))
      have ec : c = (xs[i].toNat : Int) := by unfold B at e; simpa using e
      subst ec
      obtain ⟨v, hv128, hrv, hbv⟩ := h.st
      rw [List.drop_eq_getElem_cons hi] at hrv
      cases hbad : badB i xs[i].toNat with
      | true =>
        rw [rvF_bad i v _ _ hbad] at hrv
        refine (read1_bad i be bv bn xs[i] _ wr hbad (cell_one h.ce) (frozen_of_block h.ce)).mono ?_
        rintro e w' ⟨rfl, rfl⟩
        exact Or.inr ⟨rfl, by rw [hrv]; exact one_set h.ce _, (by rw [hrv]; intro h'; cases h'), (by rw [hrv]; intro h'; cases h'), fun k hk k1 k2 k3 => other_set (h.oth k hk k1 k2 k3) _ k1, h.bel.setCell hNe _⟩
      | false =>
        by_cases hc : 128 ≤ xs[i].toNat
        · rw [rvF_more i v _ _ hbad hc] at hrv
          have h9 := bad_of_nine i _ hbad hc
          have hile := h.ile
          refine (read1_more i be bv bn v (a + i) xs[i] wr h.ile hv128 hbad hc (by omega) h1 (cell_one hbv) (frozen_of_block hbv) (cell_one h.cn) (frozen_of_block h.cn)).mono ?_
          rintro e w' ⟨rfl, rfl⟩
          refine Or.inl ⟨rfl, ⟨by omega, ⟨_, pow_next i v _ hv128, hrv, ?_⟩, ?_, ?_, ?_, fun k hk k1 k2 k3 => other_set (other_set (h.oth k hk k1 k2 k3) _ k2) _ k3, ?_⟩⟩
          · exact other_set (one_set hbv _) _ (Ne.symm h1)
          · exact other_set (other_set h.ce _ h2) _ h3
          · exact one_set (other_set h.cn _ h1) _
          · exact other_set (other_set h.bx _ (by omega)) _ (by omega)
          · exact ((h.bel.setCell hNv _).setCell hNn _).drew
        · rw [rvF_last i v _ _ hbad (by omega)] at hrv
          refine (read1_last i be bv bn v (a + i) xs[i] _ wr h.ile hv128 hbad (by omega) (by omega) h1 h2 h3 (cell_one hbv) (frozen_of_block hbv) (cell_one h.cn) (frozen_of_block h.cn) (cell_one h.ce) (frozen_of_block h.ce)).mono ?_
          rintro e w' ⟨rfl, rfl⟩
          refine Or.inr ⟨rfl, ⟨?_, ?_, ?_, fun k hk k1 k2 k3 => other_set (other_set (other_set (h.oth k hk k1 k2 k3) _ k2) _ k3) _ k1, ?_⟩⟩
          · rw [hrv]; exact one_set (other_set (other_set h.ce _ h2) _ h3) _
          · rw [hrv]; intro _; exact other_set (other_set (one_set hbv _) _ (Ne.symm h1)) _ (Ne.symm h2)
          · rw [hrv]; intro _; exact other_set (one_set (other_set h.cn _ h1) _) _ (Ne.symm h3)
          · exact (((h.bel.setCell hNv _).setCell hNn _).setCell hNe _).drew)
  refine key.mono ?_
  rintro e w' (⟨rfl, h⟩ | ⟨rfl, i, _, h⟩)
  · obtain ⟨v, _, hrv, _⟩ := h.st
    rw [List.drop_of_length_le (Nat.le_refl _)] at hrv
    have hrv' : rvF 0 0 xs = (10, 0, 0) := hrv
    exact ⟨⟨_, rfl⟩, by rw [hrv']; exact h.ce, (by rw [hrv']; intro h'; cases h'), (by rw [hrv']; intro h'; cases h'), h.oth, h.bel⟩
  · exact ⟨⟨_, rfl⟩, h⟩

/-- The world in which ReadVar's walk begins. -/
def rvW (w : World) (a : Nat) : World :=
  ((((w.alloc (.cells #[.int .u64 0] 34)).alloc (.cells #[.int .i64 (a : Nat)] 3)).alloc (.cells #[.int .i64 10] 25)).alloc (.cells #[.func (.func 76) #[] #[.pointer (some ⟨w.heap.size + 1 + 1, 0, none⟩), .pointer (some ⟨w.heap.size, 0, none⟩), .pointer (some ⟨w.heap.size + 1, 0, none⟩)]] 108)).drew
theorem rv_world (w : World) (a : Nat) : w.heap.size ≤ (rvW w a).heap.size ∧ (rvW w a).heap[w.heap.size]? = some (.cells #[.int .u64 0] 34 (0, 0)) ∧ (rvW w a).heap[w.heap.size + 1]? = some (.cells #[.int .i64 (a : Nat)] 3 (0, 0)) ∧
    (rvW w a).heap[w.heap.size + 1 + 1]? = some (.cells #[.int .i64 10] 25 (0, 0)) ∧ w.heap.size + 1 + 1 + 1 < (rvW w a).heap.size ∧
    (rvW w a).cell? ⟨w.heap.size + 1 + 1 + 1, 0, none⟩ = some (.func (.func 76) #[] #[.pointer (some ⟨w.heap.size + 1 + 1, 0, none⟩), .pointer (some ⟨w.heap.size, 0, none⟩), .pointer (some ⟨w.heap.size + 1, 0, none⟩)]) := by
  unfold rvW
  refine ⟨by simp; omega, ?_, ?_, ?_, by simp, ?_⟩
  · refine (Below.heap_alloc _ _ _ (by simp; omega)).trans ((Below.heap_alloc _ _ _ (by simp; omega)).trans ((Below.heap_alloc _ _ _ (by simp)).trans (heap_alloc_new _ _)))
  · refine (Below.heap_alloc _ _ _ (by simp)).trans ((Below.heap_alloc _ _ _ (by simp)).trans ?_)
    have := heap_alloc_new (w.alloc (.cells #[.int .u64 0] 34)) (.cells #[.int .i64 (a : Nat)] 3)
    simpa using this
  · refine (Below.heap_alloc _ _ _ (by simp)).trans ?_
    have := heap_alloc_new ((w.alloc (.cells #[.int .u64 0] 34)).alloc (.cells #[.int .i64 (a : Nat)] 3)) (.cells #[.int .i64 10] 25)
    simpa using this
  · show (((((w.alloc (.cells #[.int .u64 0] 34)).alloc (.cells #[.int .i64 (a : Nat)] 3)).alloc (.cells #[.int .i64 10] 25)).alloc _).cell? _) = _
    rw [World.cell?_alloc_at _ _ _ _ (by simp)]; rfl
theorem rv_below (w : World) (a : Nat) : Below w.heap.size w (rvW w a) :=
  (((((Below.refl _ _).alloc (Nat.le_refl _) _).alloc (by simp) _).alloc (by simp; omega) _).alloc (by simp; omega) _).drew
theorem rv_cells {w : World} {bs : List UInt8} {b off : Nat} (hc : ∀ j (h : j < bs.length), w.cell? ⟨b, off + j, none⟩ = some (B bs[j])) (a j : Nat) (hj : j < (bs.drop a).length) :
    (rvW w a).cell? ⟨b, off + a + j, none⟩ = some (B (bs.drop a)[j]) := by
  have hj' : a + j < bs.length := by simp at hj; omega
  have h0 := hc (a + j) hj'
  have hlt : b < w.heap.size := World.block_lt_of_cell? w _ h0
  unfold rvW
  show (((((w.alloc _).alloc _).alloc _).alloc _).cell? _) = _
  rw [World.cell?_alloc_past _ _ _ (by simp; omega), World.cell?_alloc_past _ _ _ (by simp; omega), World.cell?_alloc_past _ _ _ (by simp; omega), World.cell?_alloc_past _ _ _ hlt, Nat.add_assoc, h0]
  simp

theorem rv_end_facts {w w2 : World} {a : Nat} {o : Obj} {F : Value}
    (hW : w.heap.size ≤ (rvW w a).heap.size ∧ (rvW w a).heap[w.heap.size]? = some (.cells #[.int .u64 0] 34 (0, 0)) ∧ (rvW w a).heap[w.heap.size + 1]? = some (.cells #[.int .i64 (a : Nat)] 3 (0, 0)) ∧
      (rvW w a).heap[w.heap.size + 1 + 1]? = some (.cells #[.int .i64 10] 25 (0, 0)) ∧ w.heap.size + 1 + 1 + 1 < (rvW w a).heap.size ∧ (rvW w a).cell? ⟨w.heap.size + 1 + 1 + 1, 0, none⟩ = some F)
    (hB : Below w.heap.size w (rvW w a)) (h : w2 = (rvW w a).alloc o) :
    w2.cell? ⟨w.heap.size + 1 + 1, 0, none⟩ = some (.int .i64 10) ∧ w2.cell? ⟨w.heap.size + 1 + 1 + 1, 0, none⟩ = some F ∧ Below w.heap.size w w2 := by
  subst h
  obtain ⟨h0, _, _, h3, h4, h5⟩ := hW
  refine ⟨?_, ?_, hB.alloc h0 _⟩
  · rw [World.cell?_alloc_past _ _ _ (by show w.heap.size + 1 + 1 < _; omega)]; exact cell_one h3
  · rw [World.cell?_alloc_past _ _ _ h4]; exact h5

theorem readvar_neg (s : Value) (a : Int) (w : World) (h : a < 0) :
    Calls Try.prog 69 #[s, .int .i64 a] w fun e w' => e = .returned (.tuple #[.int .u64 0, .int .i64 0, .int .i64 1]) ∧ w' = w := by
  go_enter Try.func69, Try.ntmps69
  go_wp2
  go_ret3
  exact ⟨rfl, rfl⟩

theorem readvar_past (p : Option Addr) (len cap a : Nat) (w : World) (h : len < a) :
    Calls Try.prog 69 #[.slice p len cap, .int .i64 a] w fun e w' => e = .returned (.tuple #[.int .u64 0, .int .i64 0, .int .i64 10]) ∧ w' = w := by
  have h0 : ¬ (a : Int) < 0 := by omega
  go_enter Try.func69, Try.ntmps69
  go_wp2
  go_ret3
  exact ⟨rfl, rfl⟩

set_option maxHeartbeats 1000000 in
theorem readvar_in (s : Value) (bs : List UInt8) (a : Nat) (w : World) (hs : Row w s bs) (hroom : bs.length ≤ 140737488351232) (h : a < bs.length) :
    Calls Try.prog 69 #[s, .int .i64 a] w fun e w' => e = .returned (.tuple #[.int .u64 (readV bs a : Nat), .int .i64 (readN bs a), .int .i64 (readE bs a)]) ∧ Below w.heap.size w w' := by
  obtain ⟨b, off, cap, rfl, hc1, hc2, hc⟩ := hs.open (by intro e; rw [e] at h; simp at h)
  unfold maxLen at hc2
  have h0 : ¬ (a : Int) < 0 := by omega
  have hi1 : (a : Int) ≤ bs.length := by omega
  have hi2 : ¬ cap = a := by omega
  have HW := hide (rv_world w a)
  have HC := hide (fun j (hj : j < (bs.drop a).length) => rv_cells hc a j hj)
  go_enter Try.func69, Try.ntmps69
  go_wp2_with fail
  have hS0 : ((((w.alloc (.cells #[.int .u64 0] 34)).alloc (.cells #[.int .i64 (a : Nat)] 3)).alloc (.cells #[.int .i64 10] 25)).alloc (.cells #[.func (.func 76) #[] #[.pointer (some ⟨w.heap.size + 1 + 1, 0, none⟩), .pointer (some ⟨w.heap.size, 0, none⟩), .pointer (some ⟨w.heap.size + 1, 0, none⟩)]] 108)).cell? ⟨w.heap.size + 1 + 1 + 1, 0, none⟩ = some (.func (.func 76) #[] #[.pointer (some ⟨w.heap.size + 1 + 1, 0, none⟩), .pointer (some ⟨w.heap.size, 0, none⟩), .pointer (some ⟨w.heap.size + 1, 0, none⟩)]) := (unhide HW).2.2.2.2.2
  go_region_held3 (fun w' => w'.cell? ⟨w.heap.size + 1 + 1 + 1, 0, none⟩ = some (.func (.func 76) #[] #[.pointer (some ⟨w.heap.size + 1 + 1, 0, none⟩), .pointer (some ⟨w.heap.size, 0, none⟩), .pointer (some ⟨w.heap.size + 1, 0, none⟩)])) (go_keep)
    (first | (go_at_call 74; refine (read_walk (bs.length - a) (bs.drop a) b (off + a) (cap - a) w.heap.size (w.heap.size + 1 + 1) w.heap.size (w.heap.size + 1) a _ (by simp) (by simp; omega) (World.block_lt_of_cell? w _ (hc 0 (by omega))) (by omega) (by omega) (by omega) (unhide HW).1 (by omega) (by omega) (by omega) (unhide HC) (unhide HW).2.2.2.1 (unhide HW).2.1 (unhide HW).2.2.1).mono ?_; rintro e w2 ⟨⟨r, rfl⟩, hend⟩; have hS2 := (World.cell?_of_block (hend.oth (w.heap.size + 1 + 1 + 1) (unhide HW).2.2.2.2.1 (by omega) (by omega) (by omega))).trans (unhide HW).2.2.2.2.2))
  have hce := cell_one hend.ce
  have hbel : Below w.heap.size w w2 := (rv_below w a).trans hend.bel
  have e1 : readE bs (a : Nat) = ((rvF 0 0 (bs.drop a)).1 : Nat) := by unfold readE; rw [if_neg (by omega), Int.toNat_natCast]
  have e2 : readV bs (a : Nat) = if (rvF 0 0 (bs.drop a)).1 = 0 then (rvF 0 0 (bs.drop a)).2.1 else 0 := by unfold readV; rw [if_neg (by omega), Int.toNat_natCast]
  have e3 : readN bs (a : Nat) = if (rvF 0 0 (bs.drop a)).1 = 0 then ((a + (rvF 0 0 (bs.drop a)).2.2 : Nat) : Int) else 0 := by unfold readN; rw [if_neg (by omega), Int.toNat_natCast]; split <;> omega
  by_cases hz : (rvF 0 0 (bs.drop a)).1 = 0
  · have hcv := cell_one (hend.cv hz)
    have hcn := cell_one (hend.cn hz)
    rw [if_pos hz] at e2 e3
    rw [hz] at e1 hce
    have E1 := hide e1
    have E2 := hide e2
    have E3 := hide e3
    clear e1 e2 e3 hend HW HC hS2 hS0 hz
    generalize (rvF 0 0 (bs.drop a)).2.1 = V at *
    generalize (rvF 0 0 (bs.drop a)).2.2 = C at *
    go_wp2
    go_region
    all_goals (try go_wp2)
    all_goals go_ret3
    all_goals exact ⟨by rw [unhide E1, unhide E2, unhide E3]; rfl, hbel.drew⟩
  · rw [if_neg hz] at e2 e3
    have hne : (((rvF 0 0 (bs.drop a)).1 : Int) != 0) = true := by simp; omega
    have e2' : ((readV bs (a : Nat) : Nat) : Int) = 0 := by rw [e2]; rfl
    have E1 := hide e1
    have E2 := hide e2'
    have E3 := hide e3
    clear e1 e2 e2' e3 hend HW HC hS2 hS0 hz
    generalize (rvF 0 0 (bs.drop a)).1 = E at *
    go_wp2
    go_region
    all_goals (try go_wp2)
    all_goals go_ret3
    all_goals exact ⟨by rw [unhide E1, unhide E2, unhide E3]; rfl, hbel.drew⟩

set_option maxHeartbeats 1000000 in
theorem readvar_end (p : Option Addr) (len cap : Nat) (w : World) (hlc : len ≤ cap) (hp : p = none → cap = 0) :
    Calls Try.prog 69 #[.slice p len cap, .int .i64 len] w fun e w' => e = .returned (.tuple #[.int .u64 0, .int .i64 0, .int .i64 10]) ∧ Below w.heap.size w w' := by
  have h0 : ¬ (len : Int) < 0 := by omega
  have hi1 : (0 : Int) ≤ len := by omega
  have HW := hide (rv_world w len)
  have HB := hide (rv_below w len)
  by_cases hcl : cap = len
  · subst hcl
    go_enter Try.func69, Try.ntmps69
    go_wp2_with fail
    have hS0 : ((((w.alloc (.cells #[.int .u64 0] 34)).alloc (.cells #[.int .i64 (cap : Nat)] 3)).alloc (.cells #[.int .i64 10] 25)).alloc (.cells #[.func (.func 76) #[] #[.pointer (some ⟨w.heap.size + 1 + 1, 0, none⟩), .pointer (some ⟨w.heap.size, 0, none⟩), .pointer (some ⟨w.heap.size + 1, 0, none⟩)]] 108)).cell? ⟨w.heap.size + 1 + 1 + 1, 0, none⟩ = some (.func (.func 76) #[] #[.pointer (some ⟨w.heap.size + 1 + 1, 0, none⟩), .pointer (some ⟨w.heap.size, 0, none⟩), .pointer (some ⟨w.heap.size + 1, 0, none⟩)]) := (unhide HW).2.2.2.2.2
    go_region_held3 (fun w' => w'.cell? ⟨w.heap.size + 1 + 1 + 1, 0, none⟩ = some (.func (.func 76) #[] #[.pointer (some ⟨w.heap.size + 1 + 1, 0, none⟩), .pointer (some ⟨w.heap.size, 0, none⟩), .pointer (some ⟨w.heap.size + 1, 0, none⟩)])) (go_keep)
      (first | (go_at_call 74; refine (over_empty _ _ _ _).mono ?_; rintro e w2 ⟨rfl, hw2⟩; obtain ⟨hE2, hS2, hB2⟩ := rv_end_facts (unhide HW) (unhide HB) hw2; clear hw2))
    have hbel := hide hB2
    clear hB2 hS0 HW HB
    go_wp2
    go_region
    all_goals (try go_wp2)
    all_goals go_ret3
    all_goals exact ⟨rfl, (unhide hbel).drew⟩
  · obtain ⟨ad, rfl⟩ : ∃ ad, p = some ad := by
      cases p with
      | none => exact absurd (hp rfl) (by have := hp rfl; omega)
      | some ad => exact ⟨ad, rfl⟩
    go_enter Try.func69, Try.ntmps69
    go_wp2_with fail
    have hS0 : ((((w.alloc (.cells #[.int .u64 0] 34)).alloc (.cells #[.int .i64 (len : Nat)] 3)).alloc (.cells #[.int .i64 10] 25)).alloc (.cells #[.func (.func 76) #[] #[.pointer (some ⟨w.heap.size + 1 + 1, 0, none⟩), .pointer (some ⟨w.heap.size, 0, none⟩), .pointer (some ⟨w.heap.size + 1, 0, none⟩)]] 108)).cell? ⟨w.heap.size + 1 + 1 + 1, 0, none⟩ = some (.func (.func 76) #[] #[.pointer (some ⟨w.heap.size + 1 + 1, 0, none⟩), .pointer (some ⟨w.heap.size, 0, none⟩), .pointer (some ⟨w.heap.size + 1, 0, none⟩)]) := (unhide HW).2.2.2.2.2
    go_region_held3 (fun w' => w'.cell? ⟨w.heap.size + 1 + 1 + 1, 0, none⟩ = some (.func (.func 76) #[] #[.pointer (some ⟨w.heap.size + 1 + 1, 0, none⟩), .pointer (some ⟨w.heap.size, 0, none⟩), .pointer (some ⟨w.heap.size + 1, 0, none⟩)])) (go_keep)
      (first | (go_at_call 74; refine (over_empty _ _ _ _).mono ?_; rintro e w2 ⟨rfl, hw2⟩; obtain ⟨hE2, hS2, hB2⟩ := rv_end_facts (unhide HW) (unhide HB) hw2; clear hw2))
    have hbel := hide hB2
    clear hB2 hS0 HW HB
    go_wp2
    go_region
    all_goals (try go_wp2)
    all_goals go_ret3
    all_goals exact ⟨rfl, (unhide hbel).drew⟩

theorem readvar_any (s : Value) (bs : List UInt8) (a : Int) (w : World) (hs : Row w s bs) (hroom : bs.length ≤ 140737488351232) :
    Calls Try.prog 69 #[s, .int .i64 a] w fun e w' => e = .returned (.tuple #[.int .u64 (readV bs a : Nat), .int .i64 (readN bs a), .int .i64 (readE bs a)]) ∧ Below w.heap.size w w' := by
  by_cases h0 : a < 0
  · refine (readvar_neg s a w h0).mono ?_
    rintro e w' ⟨rfl, rfl⟩
    refine ⟨?_, Below.refl _ _⟩
    unfold readV readN readE
    rw [if_pos h0, if_pos h0, if_pos h0]
    rfl
  · obtain ⟨k, rfl⟩ := Int.eq_ofNat_of_zero_le (show 0 ≤ a by omega)
    by_cases h1 : k < bs.length
    · exact readvar_in s bs k w hs hroom h1
    · have hd : bs.drop k = [] := List.drop_of_length_le (by omega)
      have e1 : readE bs (k : Nat) = 10 := by unfold readE; rw [if_neg (by omega), Int.toNat_natCast, hd]; rfl
      have e2 : readV bs (k : Nat) = 0 := by unfold readV; rw [if_neg (by omega), Int.toNat_natCast, hd]; rfl
      have e3 : readN bs (k : Nat) = 0 := by unfold readN; rw [if_neg (by omega), Int.toNat_natCast, hd]; rfl
      rw [e1, e2, e3]
      obtain ⟨p, cap, rfl, hc1, hc2, hc3, _⟩ := hs
      by_cases h2 : k = bs.length
      · subst h2
        refine (readvar_end p bs.length cap w hc1 hc3).mono ?_
        rintro e w' ⟨rfl, hb⟩
        exact ⟨rfl, hb⟩
      · refine (readvar_past p bs.length cap k w (by omega)).mono ?_
        rintro e w' ⟨rfl, rfl⟩
        exact ⟨rfl, Below.refl _ _⟩
end Go.Proofs.Ytehnjanllemnlaa

/- What Text and ReadText of package word do. -/
namespace Go.Proofs.Ytehnjanllemnlaa
open Go.RowKit

theorem text_any (s : Value) (bs : List UInt8) (w : World) (hs : Row w s bs) (hroom : bs.length ≤ 140737488351232) :
    Calls Try.prog 68 #[s] w fun e w' => ∃ t, e = .returned t ∧ w'.ownsRow w.heap.size 5 1 t (varF 9 bs.length ++ bs).length ((varF 9 bs.length ++ bs).map B) ∧ Below w.heap.size w w' := by
  obtain ⟨i0, hi, hz0, hz1, hz2⟩ := info_parts Try.info5
  have hs0 := hs
  obtain ⟨p, c, l, rfl, hl⟩ := hs.shape
  subst hl
  clear hs
  have hlen := (varF_len 9 bs.length).2
  go_enter Try.func68, Try.ntmps68
  go_wp2_with fail
  refine (var_any bs.length (by omega) w).mono ?_
  rintro e w1 ⟨v1, rfl, hown1, hb1⟩
  have hs1 := hs0.below hb1
  have hsz := hb1.size
  clear hs0
  go_wp2_with (at_builtin; refine wpList_append_row rfl _ _ 30 rfl w.heap.size 5 i0 (.int .u8 0) Try.underlying30 hi hz0 hz1 hz2 rfl _ _ _ rfl hown1 _ bs rfl hs1 ?b1 ?b2 ?_)
  case b1 => omega
  case b2 => exact hsz
  intro v2 w2 hown2 hgrow2
  have hb2 : Below w.heap.size w w2 := hb1.grown hgrow2 hsz (fun k hk => (hown1.lt k hk).1)
  have HO := hide hown2
  clear hown2 hown1 hgrow2 hs1
  go_wp2
  go_ret
  refine ⟨_, rfl, ?_, hb2⟩
  rw [List.length_append, List.map_append]
  exact unhide HO

theorem readtext_err (s : Value) (bs : List UInt8) (a m : Int) (w : World) (hs : Row w s bs) (hroom : bs.length ≤ 140737488351232) (h : ¬ readE bs a = 0) :
    Calls Try.prog 78 #[s, .int .i64 a, .int .i64 m] w fun e w' => e = .returned (.tuple #[.slice none 0 0, .int .i64 0, .int .i64 (readE bs a)]) ∧ Below w.heap.size w w' := by
  have hne : (readE bs a != 0) = true := by simpa using h
  go_enter Try.func78, Try.ntmps78
  go_wp2_with fail
  refine (readvar_any s bs a w hs hroom).mono ?_
  rintro e w1 ⟨rfl, hb1⟩
  go_wp2
  go_ret3
  exact ⟨rfl, hb1⟩

theorem readtext_large (s : Value) (bs : List UInt8) (a m : Int) (w : World) (hs : Row w s bs) (hroom : bs.length ≤ 140737488351232) (h : readE bs a = 0) (hl : max m 0 < (readV bs a : Nat)) :
    Calls Try.prog 78 #[s, .int .i64 a, .int .i64 m] w fun e w' => e = .returned (.tuple #[.slice none 0 0, .int .i64 0, .int .i64 4]) ∧ Below w.heap.size w w' := by
  have HE := hide h
  have hv64 := (read_ok bs a h).2.2.2
  have h0 : (0 : Int) < (readV bs a : Nat) := by omega
  have h1 : m < (readV bs a : Nat) := by omega
  clear h hl
  rcases Int.lt_or_le m 0 with hm0 | hm0
  all_goals
    go_enter Try.func78, Try.ntmps78
    go_wp2_with fail
    refine (readvar_any s bs a w hs hroom).mono ?_
    rintro e w1 ⟨rfl, hb1⟩
    rw [unhide HE]
    go_wp2
    go_ret3
    exact ⟨rfl, hb1⟩

theorem readtext_short (s : Value) (bs : List UInt8) (a m : Int) (w : World) (hs : Row w s bs) (hroom : bs.length ≤ 140737488351232) (hm : m ≤ 9223372036854775807) (h : readE bs a = 0) (hl : (readV bs a : Nat) ≤ max m 0) (hsh : (bs.length : Int) - readN bs a < (readV bs a : Nat)) :
    Calls Try.prog 78 #[s, .int .i64 a, .int .i64 m] w fun e w' => e = .returned (.tuple #[.slice none 0 0, .int .i64 0, .int .i64 10]) ∧ Below w.heap.size w w' := by
  have HE := hide h
  obtain ⟨_, hn1, hn2, hv64⟩ := read_ok bs a h
  have hn0 : 0 ≤ readN bs a := by omega
  have HRV := hide (readvar_any s bs a w hs hroom)
  obtain ⟨p, c, l, rfl, hl0⟩ := hs.shape
  subst hl0
  clear hs
  rcases Int.lt_or_le m 0 with hm0 | hm0
  all_goals
    have hle : ((readV bs a : Nat) : Int) ≤ if m < 0 then 0 else m := by split <;> omega
    clear h
    first
      | rw [if_pos hm0] at hle
      | rw [if_neg (by omega)] at hle
    clear hl
    generalize readN bs a = F at *
    generalize readV bs a = V at *
    generalize readE bs a = E at *
    obtain rfl : E = 0 := unhide HE
    go_enter Try.func78, Try.ntmps78
    go_wp2_with fail
    refine Calls.mono (unhide HRV) ?_
    rintro e w1 ⟨rfl, hb1⟩
    go_wp2
    first
      | done
      | (go_ret3; exact ⟨rfl, hb1⟩)

theorem splice_all (V : Nat) (xs : List UInt8) (h : xs.length = V) : splice (List.replicate V (B 0)) 0 (xs.map B) = xs.map B := by
  subst h; simp [splice]

theorem copy_src {w : World} {ad : Addr} {cap f V : Nat} {bs : List UInt8} (h : Row w (.slice (some ad) bs.length cap) bs) :
    0 < (((bs.drop f).take V).map B).length → ∀ j v, (((bs.drop f).take V).map B)[j]? = some v → w.cell? ((ad.add f).add j) = some v := by
  intro hp j v hv
  have hf : f < bs.length := by simp at hp; omega
  obtain ⟨b, off, e, hc⟩ := row_from h f hf
  cases e
  obtain ⟨hj, rfl⟩ := List.getElem?_eq_some_iff.1 hv
  have hj' : j < ((bs.drop f).take V).length := by simpa using hj
  have hx : (bs.drop f)[j]? = some ((bs.drop f).take V)[j] := by
    rw [List.getElem_take, List.getElem?_eq_getElem]
  rw [Addr.add_lit, Addr.add_lit, hc j _ hx]
  simp

set_option maxRecDepth 20000 in
set_option maxHeartbeats 1000000 in
theorem readtext_ok (s : Value) (bs : List UInt8) (a m : Int) (w : World) (hs : Row w s bs) (hroom : bs.length ≤ 140737488351232) (hm : m ≤ 9223372036854775807) (h : readE bs a = 0) (hl : (readV bs a : Nat) ≤ max m 0) (hsh : ¬ (bs.length : Int) - readN bs a < (readV bs a : Nat)) :
    Calls Try.prog 78 #[s, .int .i64 a, .int .i64 m] w fun e w' => ∃ t, e = .returned (.tuple #[t, .int .i64 (readN bs a + (readV bs a : Nat)), .int .i64 0]) ∧
      w'.ownsRow w.heap.size 5 1 t ((bs.drop (readN bs a).toNat).take (readV bs a)).length (((bs.drop (readN bs a).toNat).take (readV bs a)).map B) ∧ Below w.heap.size w w' := by
  obtain ⟨i0, hi, hz0, hz1, hz2⟩ := info_parts Try.info5
  have HE := hide h
  obtain ⟨_, hn1, hn2, hv64⟩ := read_ok bs a h
  have hn0 : 0 ≤ readN bs a := by omega
  have HRV := hide (readvar_any s bs a w hs hroom)
  have hs0 := hs
  obtain ⟨p, c, l, rfl, hl0⟩ := hs.shape
  subst hl0
  clear hs
  rcases Int.lt_or_le m 0 with hm0 | hm0
  all_goals
    have hle : ((readV bs a : Nat) : Int) ≤ if m < 0 then 0 else m := by split <;> omega
    clear h
    first
      | rw [if_pos hm0] at hle
      | rw [if_neg (by omega)] at hle
    clear hl
    generalize readN bs a = F at *
    generalize readV bs a = V at *
    generalize readE bs a = E at *
    obtain rfl : E = 0 := unhide HE
    obtain ⟨f, rfl⟩ := Int.eq_ofNat_of_zero_le hn0
    rw [Int.toNat_natCast]
    have hlx : ((bs.drop f).take V).length = V := by simp; omega
    clear HE hn0
    obtain ⟨hbc, hpn⟩ : bs.length ≤ c ∧ (p = none → c = 0) := by
      obtain ⟨_, _, hse, h1, _, h2, _⟩ := hs0
      simp only [Value.slice.injEq, true_and] at hse
      obtain ⟨rfl, rfl⟩ := hse
      exact ⟨h1, h2⟩
    by_cases hcf : c = f
    · obtain rfl : f = c := hcf.symm
      have hV0 : V ≤ 0 := by omega
      go_enter Try.func78, Try.ntmps78
      go_wp2_with fail
      refine Calls.mono (unhide HRV) ?_
      rintro e w1 ⟨rfl, hb1⟩
      have hz1' := hb1.size
      clear HRV
      go_wp2_with (at_make; refine wpList_make_full _ rfl _ _ 30 rfl w.heap.size 5 i0 (.int .u8 0) 1 Try.underlying30 hi hz0 hz1 .i64 .i64 (V : Int) (V : Int) V rfl rfl rfl rfl (by rw [hz2]; omega) (by unfold maxLen; omega) hz1' ?_)
      intro w2 hown2 hgrow2
      have hblk := made_block hown2
      have hb2 : Below w.heap.size w w2 := hb1.grown hgrow2 hz1' (fun k hk => by cases hk)
      have HS2 := hide (hs0.below hb2)
      clear hown2 hgrow2
      go_wp2_with (refine wpList_copy_splice rfl (.tmp 38) (.tmp 41) 30 30 rfl 5 Try.underlying30 Try.size5 _ _ _ _ _ _ rfl rfl w1.heap.size 0 _ 5 hblk (((bs.drop f).take V).map B) (by simp; try omega) (fun hp => absurd hp (by simp; try omega)) (by simp; try omega) (oneCell_B _) w.heap.size w hb2 hz1' ?_)
      intro w3 hblk3 hb3
      have hblk3' := hblk3.out
      rw [← List.map_drop, ← List.map_take, splice_all _ _ hlx] at hblk3'
      have HO := hide (owns_of_block (base := w.heap.size) hblk3' hz1' (by rw [hlx]; unfold maxLen; omega))
      rw [hlx] at HO
      clear hblk3 hblk3' hblk HS2 hb2
      go_wp2
      go_ret3
      exact ⟨_, rfl, by rw [hlx]; exact unhide HO, hb3⟩
    · obtain ⟨ad, rfl⟩ : ∃ ad, p = some ad := by
        cases p with
        | none => exact absurd (hpn rfl) (by have := hpn rfl; omega)
        | some ad => exact ⟨ad, rfl⟩
      go_enter Try.func78, Try.ntmps78
      go_wp2_with fail
      refine Calls.mono (unhide HRV) ?_
      rintro e w1 ⟨rfl, hb1⟩
      have hz1' := hb1.size
      clear HRV
      go_wp2_with (at_make; refine wpList_make_full _ rfl _ _ 30 rfl w.heap.size 5 i0 (.int .u8 0) 1 Try.underlying30 hi hz0 hz1 .i64 .i64 (V : Int) (V : Int) V rfl rfl rfl rfl (by rw [hz2]; omega) (by unfold maxLen; omega) hz1' ?_)
      intro w2 hown2 hgrow2
      have hblk := made_block hown2
      have hb2 : Below w.heap.size w w2 := hb1.grown hgrow2 hz1' (fun k hk => by cases hk)
      have HS2 := hide (hs0.below hb2)
      clear hown2 hgrow2
      go_wp2_with (refine wpList_copy_splice rfl (.tmp 38) (.tmp 41) 30 30 rfl 5 Try.underlying30 Try.size5 _ _ _ _ _ _ rfl rfl w1.heap.size 0 _ 5 hblk (((bs.drop f).take V).map B) (by rw [List.length_map, hlx]; exact (Nat.min_eq_right (by omega)).symm) (fun hp => ⟨rfl, _, rfl, copy_src (unhide HS2) hp⟩) (by simp; try omega) (oneCell_B _) w.heap.size w hb2 hz1' ?_)
      intro w3 hblk3 hb3
      have hblk3' := hblk3.out
      rw [← List.map_drop, ← List.map_take, splice_all _ _ hlx] at hblk3'
      have HO := hide (owns_of_block (base := w.heap.size) hblk3' hz1' (by rw [hlx]; unfold maxLen; omega))
      rw [hlx] at HO
      clear hblk3 hblk3' hblk HS2 hb2
      go_wp2
      go_ret3
      exact ⟨_, rfl, by rw [hlx]; exact unhide HO, hb3⟩

theorem readtext_any (s : Value) (bs : List UInt8) (a m : Int) (w : World) (hs : Row w s bs) (hroom : bs.length ≤ 140737488351232) (hm : m ≤ 9223372036854775807) :
    Calls Try.prog 78 #[s, .int .i64 a, .int .i64 m] w fun e w' => ∃ t, e = .returned (.tuple #[t, .int .i64 (textN bs a m), .int .i64 (textE bs a m)]) ∧
      w'.ownsRow w.heap.size 5 1 t (textB bs a m).length ((textB bs a m).map B) ∧ Below w.heap.size w w' := by
  by_cases h : readE bs a = 0
  · by_cases hl : max m 0 < (readV bs a : Nat)
    · have e1 : textE bs a m = 4 := by unfold textE; rw [if_pos h, if_pos hl]
      have e2 : textB bs a m = [] := by unfold textB; rw [e1, if_neg (by omega)]
      have e3 : textN bs a m = 0 := by unfold textN; rw [e1, if_neg (by omega)]
      rw [e1, e2, e3]
      refine (readtext_large s bs a m w hs hroom h hl).mono ?_
      rintro e w' ⟨rfl, hb⟩
      exact ⟨_, rfl, World.ownsRow_nil _ _ _ _, hb⟩
    · by_cases hsh : (bs.length : Int) - readN bs a < (readV bs a : Nat)
      · have e1 : textE bs a m = 10 := by unfold textE; rw [if_pos h, if_neg hl, if_pos hsh]
        have e2 : textB bs a m = [] := by unfold textB; rw [e1, if_neg (by omega)]
        have e3 : textN bs a m = 0 := by unfold textN; rw [e1, if_neg (by omega)]
        rw [e1, e2, e3]
        refine (readtext_short s bs a m w hs hroom hm h (by omega) hsh).mono ?_
        rintro e w' ⟨rfl, hb⟩
        exact ⟨_, rfl, World.ownsRow_nil _ _ _ _, hb⟩
      · have e1 : textE bs a m = 0 := by unfold textE; rw [if_pos h, if_neg hl, if_neg hsh]
        have e2 : textB bs a m = (bs.drop (readN bs a).toNat).take (readV bs a) := by unfold textB; rw [e1, if_pos rfl]
        have e3 : textN bs a m = readN bs a + (readV bs a : Nat) := by unfold textN; rw [e1, if_pos rfl]
        rw [e1, e2, e3]
        exact readtext_ok s bs a m w hs hroom hm h (by omega) hsh
  · have e1 : textE bs a m = readE bs a := by unfold textE; rw [if_neg h]
    have e2 : textB bs a m = [] := by unfold textB; rw [e1, if_neg h]
    have e3 : textN bs a m = 0 := by unfold textN; rw [e1, if_neg h]
    rw [e1, e2, e3]
    refine (readtext_err s bs a m w hs hroom h).mono ?_
    rintro e w' ⟨rfl, hb⟩
    exact ⟨_, rfl, World.ownsRow_nil _ _ _ _, hb⟩
end Go.Proofs.Ytehnjanllemnlaa

/- Put and Get of package word, each in one contract for every argument. -/
namespace Go.Proofs.Ytehnjanllemnlaa
open Go.RowKit

/-- What Put answers as an error. -/
def putE (v : Nat) (n : Int) : Int := if n < 1 ∨ 8 < n then 1 else if 256 ^ n.toNat ≤ v then 12 else 0
/-- The bytes that Put answers. -/
def putB (bs : List UInt8) (v : Nat) (n : Int) : List UInt8 := if n < 1 ∨ 8 < n then [] else if 256 ^ n.toNat ≤ v then [] else bs ++ le n.toNat v
/-- What Get answers as an error. -/
def getE (bs : List UInt8) (a n : Int) : Int := if (n < 1 ∨ 8 < n) ∨ a < 0 then 1 else if (bs.length : Int) < a + n then 10 else 0
/-- The number that Get answers. -/
def getV (bs : List UInt8) (a n : Int) : Nat := if (n < 1 ∨ 8 < n) ∨ a < 0 then 0 else if (bs.length : Int) < a + n then 0 else num ((bs.drop a.toNat).take n.toNat)

theorem get_any (s : Value) (bs : List UInt8) (a n : Int) (w : World) (hs : Row w s bs) (ha : a ≤ 9223372036854775807) :
    Calls Try.prog 65 #[s, .int .i64 a, .int .i64 n] w fun e w' => e = .returned (.tuple #[.int .u64 (getV bs a n : Nat), .int .i64 (getE bs a n)]) ∧ Below w.heap.size w w' := by
  unfold getE getV
  by_cases h : (n < 1 ∨ 8 < n) ∨ a < 0
  · rw [if_pos h, if_pos h]
    refine (get_arg s a n w h).mono ?_
    rintro e w' ⟨rfl, rfl⟩
    exact ⟨rfl, Below.refl _ _⟩
  · rw [if_neg h, if_neg h]
    obtain ⟨m, rfl⟩ := Int.eq_ofNat_of_zero_le (show 0 ≤ n by omega)
    obtain ⟨k, rfl⟩ := Int.eq_ofNat_of_zero_le (show 0 ≤ a by omega)
    rw [Int.toNat_natCast, Int.toNat_natCast]
    by_cases h2 : (bs.length : Int) < k + m
    · rw [if_pos h2, if_pos h2]
      obtain ⟨p, cap, rfl, hc1, hc2, _⟩ := hs
      unfold maxLen at hc2
      refine (get_short p bs.length cap k m w (by omega) (by omega) (by omega) (by omega) (by omega)).mono ?_
      rintro e w' ⟨rfl, rfl⟩
      exact ⟨rfl, Below.refl _ _⟩
    · rw [if_neg h2, if_neg h2]
      exact get_ok s bs k m w hs (by omega) (by omega) (by omega)
theorem putE_cases (v : Nat) (n : Int) : (putE v n = 0 ∧ 1 ≤ n ∧ n ≤ 8 ∧ v < 256 ^ n.toNat) ∨ ((putE v n == 0) = false ∧ ∀ bs, putB bs v n = []) := by
  unfold putE putB
  by_cases h : n < 1 ∨ 8 < n
  · rw [if_pos h]
    exact Or.inr ⟨rfl, fun bs => by rw [if_pos h]⟩
  · rw [if_neg h]
    by_cases h2 : 256 ^ n.toNat ≤ v
    · rw [if_pos h2]
      exact Or.inr ⟨rfl, fun bs => by rw [if_neg h, if_pos h2]⟩
    · rw [if_neg h2]
      exact Or.inl ⟨rfl, by omega, by omega, by omega⟩
theorem getE_cases (bs : List UInt8) (a n : Int) : (getE bs a n = 0 ∧ 1 ≤ n ∧ n ≤ 8 ∧ 0 ≤ a ∧ a + n ≤ bs.length ∧ getV bs a n = num ((bs.drop a.toNat).take n.toNat)) ∨ (getE bs a n == 0) = false := by
  unfold getE getV
  by_cases h : (n < 1 ∨ 8 < n) ∨ a < 0
  · rw [if_pos h]
    exact Or.inr rfl
  · rw [if_neg h, if_neg h]
    by_cases h2 : (bs.length : Int) < a + n
    · rw [if_pos h2]
      exact Or.inr rfl
    · rw [if_neg h2, if_neg h2]
      exact Or.inl ⟨rfl, by omega, by omega, by omega, by omega, rfl⟩
theorem putB_ok (bs : List UInt8) (v : Nat) (n : Int) (h1 : 1 ≤ n) (h2 : n ≤ 8) (h : v < 256 ^ n.toNat) : putB bs v n = bs ++ le n.toNat v := by
  unfold putB
  rw [if_neg (by omega), if_neg (by omega)]
theorem putE_ok (v : Nat) (n : Int) (h1 : 1 ≤ n) (h2 : n ≤ 8) (h : v < 256 ^ n.toNat) : putE v n = 0 := by
  unfold putE
  rw [if_neg (by omega), if_neg (by omega)]
theorem getE_ok (bs : List UInt8) (a n : Int) (h1 : 1 ≤ n) (h2 : n ≤ 8) (h3 : 0 ≤ a) (h : a + n ≤ bs.length) : getE bs a n = 0 := by
  unfold getE
  rw [if_neg (by omega), if_neg (by omega)]
theorem getV_ok (bs : List UInt8) (a n : Int) (h1 : 1 ≤ n) (h2 : n ≤ 8) (h3 : 0 ≤ a) (h : a + n ≤ bs.length) : getV bs a n = num ((bs.drop a.toNat).take n.toNat) := by
  unfold getV
  rw [if_neg (by omega), if_neg (by omega)]
end Go.Proofs.Ytehnjanllemnlaa
