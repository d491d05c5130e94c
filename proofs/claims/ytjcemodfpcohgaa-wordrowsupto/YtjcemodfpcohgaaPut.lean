/- What Put of package word does. -/
import Derived.Test.YtjcemodfpcohgaaWord2
import Derived.Laws.AppendOwnNone
namespace Go.Proofs.Ytjcemodfpcohgaa
open Go.RowKit

theorem put_arg (s : Value) (v n : Int) (w : World) (h : n < 1 ∨ 8 < n) :
    Calls Try.prog 10 #[s, .int .u64 v, .int .i64 n] w fun e w' => e = .returned (.tuple #[.slice none 0 0, .int .i64 1]) ∧ Below w.heap.size w w' := by
  have H : Hid (n < 1 ∨ 8 < n) := h
  clear h
  go_enter Try.func10, Try.ntmps10
  go_wp2_with fail
  refine (may_no _ _ H.out).mono ?_
  rintro e w1 ⟨rfl, rfl⟩
  go_wp2
  go_ret2
  exact ⟨rfl, (Below.refl _ _).alloc (Nat.le_refl _) _⟩

theorem put_over (s : Value) (v n : Nat) (w : World) (hv : v < 18446744073709551616) (h1 : 1 ≤ n) (h2 : n ≤ 8) (h : 256 ^ n ≤ v) :
    Calls Try.prog 10 #[s, .int .u64 v, .int .i64 n] w fun e w' => e = .returned (.tuple #[.slice none 0 0, .int .i64 12]) ∧ Below w.heap.size w w' := by
  have H : Hid (decide (v < 256 ^ n) = false) := by unfold Hid; simp; omega
  clear h
  go_enter Try.func10, Try.ntmps10
  go_wp2_with fail
  refine (may_yes _ _ (by omega) (by omega)).mono ?_
  rintro e w1 ⟨rfl, rfl⟩
  go_wp2_with fail
  refine (room_any v n _ hv h1 h2).mono ?_
  rintro e w1 ⟨rfl, rfl⟩
  rw [H.out]
  go_wp2
  go_ret2
  exact ⟨rfl, (Below.refl _ _).alloc (Nat.le_refl _) _⟩

theorem made_block {w : World} {base e g m : Nat} (h : w.ownsRow base e 1 (.slice (some ⟨g, 0, none⟩) m m) m (madeCells #[Value.int .u8 0] m).toList) :
    w.heap[g]? = some (.cells ((List.replicate m (0 : UInt8)).map B).toArray e (0, 0)) := by
  rcases h.2 with ⟨h', _⟩ | ⟨g', cap, cur, h', _, hh, _, _, hcs, htake⟩
  · simp at h'
  · simp only [Value.slice.injEq, Option.some.injEq, Addr.mk.injEq, and_true, true_and] at h'
    obtain ⟨rfl, rfl⟩ := h'
    rw [hh]
    have e1 : (madeCells #[Value.int .u8 0] m).toList = (List.replicate m (0 : UInt8)).map B := by
      rw [toList_madeCells_one, List.map_replicate]
      rfl
    have e2 : cur.toList = (List.replicate m (0 : UInt8)).map B := by
      rw [← e1, ← htake, List.take_of_length_le (by simp [hcs])]
    rw [← e2]

theorem copy_pos {w w2 : World} {a : Option Addr} {bs : List UInt8} (h : bs = [] ∨ ∃ b off, a = some ⟨b, off, none⟩ ∧ ∀ j (h : j < bs.length), w.cell? ⟨b, off + j, none⟩ = some (B bs[j])) (hb : Below w.heap.size w w2) :
    0 < bs.length → ∃ ad, a = some ad ∧ ∀ j (x : UInt8), bs[j]? = some x → w2.cell? (ad.add j) = some (B x) := by
  intro hp
  rcases h with rfl | ⟨b, off, rfl, hc⟩
  · simp at hp
  · refine ⟨_, rfl, fun j x hv => ?_⟩
    obtain ⟨hj', rfl⟩ := List.getElem?_eq_some_iff.1 hv
    rw [Addr.add_lit, hb.cell (World.block_lt_of_cell? w _ (hc j hj')), hc j hj']

theorem copy_pos' {w w2 : World} {a : Option Addr} {cap : Nat} {bs : List UInt8} (h : Row w (.slice a bs.length cap) bs) (hb : Below w.heap.size w w2) :
    0 < bs.length → ∃ ad, a = some ad ∧ ∀ j (x : UInt8), bs[j]? = some x → w2.cell? (ad.add j) = some (B x) := by
  obtain ⟨a', cap', e, _, _, _, h4⟩ := h
  simp only [Value.slice.injEq] at e
  obtain ⟨rfl, _, rfl⟩ := e
  exact copy_pos h4 hb

/-- The cells of 's[q:]', as the laws on copy and append ask for them. -/
theorem row_from {w : World} {a : Option Addr} {cap : Nat} {bs : List UInt8} (h : Row w (.slice a bs.length cap) bs) (q : Nat) :
    q < bs.length → ∃ b off, a = some ⟨b, off, none⟩ ∧ ∀ j (x : UInt8), (bs.drop q)[j]? = some x → w.cell? ⟨b, off + q + j, none⟩ = some (B x) := by
  intro hp
  obtain ⟨a', cap', e, _, _, _, h4⟩ := h
  simp only [Value.slice.injEq] at e
  obtain ⟨rfl, _, rfl⟩ := e
  rcases h4 with rfl | ⟨b, off, rfl, hc⟩
  · simp at hp
  · refine ⟨b, off, rfl, fun j x hv => ?_⟩
    rw [List.getElem?_drop] at hv
    obtain ⟨hj', rfl⟩ := List.getElem?_eq_some_iff.1 hv
    rw [Nat.add_assoc, hc (q + j) hj']

theorem oneCell_B (bs : List UInt8) : ∀ u ∈ bs.map B, u.oneCell' = true := by
  intro u hu
  obtain ⟨_, _, rfl⟩ := List.mem_map.1 hu
  rfl

theorem splice_B (bs : List UInt8) (n : Nat) : splice (List.replicate (bs.length + n) (B 0)) 0 (bs.map B) = (bs ++ List.replicate n 0).map B := by
  simp [splice]

/-- 'append(v, x...)': v the call's own (or nil), x whatever row of bytes. -/
theorem wpList_append_row {P : Program} {w : World} {ops : Array Oper} {rest : List Oper} {o : Oper} {a : Act} {Q : Exit → Act → World → Prop} (hgd : o.guard = none) (s x : Operand) (t : TypeId)
    (ho : o.op = .call { callee := .builtin .append, args := #[s, x], argTypes := #[t, t] })
    (base : Nat) (e : TypeId) (i : TypeInfo) (z : Value) (ht : P.underlying t = some (.slice e)) (hi : P.info? e = some i) (hz : i.zero = some z)
    (hsize : i.size = 1) (hby : i.bytes = 1) (hzs : z.cells.size = 1)
    (v : Value) (n : Nat) (xs : List Value) (hs : a.eval s = v) (hown : w.ownsRow base e 1 v n xs) (sx : Value) (bs : List UInt8) (hx : a.eval x = sx) (hrow : Row w sx bs)
    (hbytes : n + bs.length ≤ 140737488355328) (hbase : base ≤ w.heap.size)
    (h : ∀ v' w', w'.ownsRow base e 1 v' (n + bs.length) (xs ++ bs.map B) → w.grownBy w' v.ownBlock → wpList P ops Q rest (a.put o.dst v') w') : wpList P ops Q (o :: rest) a w := by
  obtain ⟨p, cap, rfl, h1, h2, h3, h4⟩ := hrow
  cases p with
  | none =>
    have hb0 : bs = [] := List.eq_nil_of_length_eq_zero (by have := h3 rfl; omega)
    subst hb0
    have hc0 := h3 rfl
    subst hc0
    exact wpList_append_own_none hgd s x t ho base e i 1 ht hi v n xs hs hown hx (h v w (by simpa using hown) (World.grownBy.refl _ _))
  | some ad =>
    refine wpList_append_own _ hgd s x t ho base e i z 1 1 ht hi hz hsize hby hzs (by decide) v n xs hs hown ad bs.length cap (bs.map B) hx (by simp) ?_ (oneCell_B bs) (by unfold maxLen; omega) (by omega) hbase (fun v' w' g1 g2 _ => h v' w' g1 g2)
    intro j u hu
    rcases h4 with rfl | ⟨b, off, had, hc⟩
    · simp at hu
    · cases had
      obtain ⟨hj, rfl⟩ := List.getElem?_eq_some_iff.1 hu
      have hj' : j < bs.length := by simpa using hj
      rw [Addr.add_lit, hc j hj']
      simp

theorem owns_below {w w' : World} {base e : Nat} {v : Value} {n : Nat} {xs : List Value} (h : w.ownsRow base e 1 v n xs) (hb : Below w.heap.size w w') : w'.ownsRow base e 1 v n xs := by
  refine ⟨h.1, ?_⟩
  rcases h.2 with h2 | ⟨g, cap, cur, hv, hg, hh, r⟩
  · exact Or.inl h2
  · exact Or.inr ⟨g, cap, cur, hv, hg, (hb.block g (Array.getElem?_eq_some_iff.1 hh).1).trans hh, r⟩

theorem owns_below' {w w' : World} {base e b : Nat} {v : Value} {n : Nat} {xs : List Value} (h : w.ownsRow base e 1 v n xs) (hb : Below b w w') (hlt : ∀ k, v.ownBlock = some k → k < b) : w'.ownsRow base e 1 v n xs := by
  refine ⟨h.1, ?_⟩
  rcases h.2 with h2 | ⟨g, cap, cur, hv, hg, hh, r⟩
  · exact Or.inl h2
  · subst hv
    exact Or.inr ⟨g, cap, cur, rfl, hg, (hb.block g (hlt g rfl)).trans hh, r⟩

theorem grown_trans {a b c : World} {g : Option Nat} (h : a.grownBy b g) (k : b.grownBy c g) : a.grownBy c g :=
  ⟨k.os.trans h.os, k.tape.trans h.tape, k.output.trans h.output, Nat.le_trans h.size k.size, fun i hi hg => (k.block i (Nat.lt_of_lt_of_le hi h.size) hg).trans (h.block i hi hg)⟩

theorem grown_set (w : World) (g o : Nat) (u : Value) : w.grownBy (w.setCell ⟨g, o, none⟩ u).drew (some g) :=
  ⟨rfl, rfl, rfl, by simp [World.setCell], fun k _ hk => heap_setCell_other w ⟨g, o, none⟩ k u (fun e => hk (by simp [e]))⟩

/-- The row while v is being put behind bs: i of its n bytes are there. -/
def fill (bs : List UInt8) (n v i : Nat) : List UInt8 := bs ++ le i v ++ List.replicate (n - i) 0
theorem length_fill (bs : List UInt8) (n v i : Nat) (h : i ≤ n) : (fill bs n v i).length = bs.length + n := by simp [fill, length_le]; omega
theorem fill_zero (bs : List UInt8) (n v : Nat) : fill bs n v 0 = bs ++ List.replicate n 0 := by simp [fill, le]
theorem fill_all (bs : List UInt8) (n v : Nat) : fill bs n v n = bs ++ le n v := by simp [fill]
theorem fill_step (bs : List UInt8) (n v i : Nat) (h : i < n) : (fill bs n v i).set (bs.length + i) (UInt8.ofNat (v / 256 ^ i)) = fill bs n v (i + 1) := by
  have e : n - i = (n - (i + 1)) + 1 := by omega
  unfold fill
  rw [e, List.replicate_succ, List.set_append, if_neg (by simp [length_le]), le_succ]
  simp [length_le]
theorem set_map (l : List UInt8) (j : Nat) (u : UInt8) : ((l.map B).toArray.setIfInBounds j (B u)) = ((l.set j u).map B).toArray := by
  simp [List.map_set]

theorem frozen_of_block {w : World} {g e j : Nat} {cur : Array Value} (h : w.heap[g]? = some (.cells cur e (0, 0))) : w.frozen? ⟨g, j, none⟩ = false := by
  simp [World.frozen?, h]

theorem owns_of_block {w : World} {base g e : Nat} {bs : List UInt8} (h : w.heap[g]? = some (.cells (bs.map B).toArray e (0, 0))) (hg : base ≤ g) (hm : bs.length ≤ maxLen) :
    w.ownsRow base e 1 (.slice (some ⟨g, 0, none⟩) bs.length bs.length) bs.length (bs.map B) :=
  ⟨by simp, Or.inr ⟨g, bs.length, _, rfl, hg, h, Nat.le_refl _, hm, by simp, by rw [List.take_of_length_le (by simp)]⟩⟩

theorem Try.size5 : (Try.prog.info? 5).map (·.size) = some 1 := by kernel_rfl

/-- The walk that puts v, byte by byte, into the bytes of block g behind the first ones. -/
theorem put_walk (bs : List UInt8) (v n g bv bn cp : Nat) (w : World) (hv8 : n ≤ 8)
    (hg : g < w.heap.size) (hbv : bv ≠ g) (hbn : bn ≠ g) (hblk : w.heap[g]? = some (.cells ((bs ++ List.replicate n 0).map B).toArray 5 (0, 0)))
    (hcv : w.cell? ⟨bv, 0, none⟩ = some (.int .u64 v)) (hcn : w.cell? ⟨bn, 0, none⟩ = some (.slice (some ⟨g, bs.length, none⟩) n cp)) :
    Calls Try.prog 31 #[.agg #[.func (.func 30) #[] #[.pointer (some ⟨bv, 0, none⟩), .pointer (some ⟨bn, 0, none⟩)]], .slice (some ⟨g, bs.length, none⟩) n cp] w fun e w' =>
      e = .returned (.bool true) ∧ w'.heap[g]? = some (.cells ((bs ++ le n v).map B).toArray 5 (0, 0)) ∧ w.grownBy w' (some g) := by
  have hlv := World.block_lt_of_cell? w _ hcv
  have hln := World.block_lt_of_cell? w _ hcn
  have key := over_any 30 #[.pointer (some ⟨bv, 0, none⟩), .pointer (some ⟨bn, 0, none⟩)] g bs.length n cp w
    (fun i wr => i ≤ n ∧ (w.alloc (.cells #[.func (.func 30) #[] #[.pointer (some ⟨bv, 0, none⟩), .pointer (some ⟨bn, 0, none⟩)]] 53)).grownBy wr (some g) ∧ wr.heap[g]? = some (.cells ((fill bs n v i).map B).toArray 5 (0, 0)))
    (fun _ _ => False) (by omega) ent_put1
    ⟨by omega, World.grownBy.refl _ _, by rw [fill_zero, Below.heap_alloc _ _ _ hg]; exact hblk⟩
    (by
      rintro i wr ⟨_, hgr, _⟩
      exact hgr.cell (by rw [World.cell?_alloc_at _ _ _ _ rfl]; rfl) (fun e => by have := Option.some.inj e; simp at this; omega))
    (by
      rintro i wr hi ⟨_, hgr, hb⟩
      refine ⟨_, by rw [cell_of_row wr g (bs.length + i) _ _ (0, 0) hb]; simp [B]; rw [List.getElem?_eq_getElem (by rw [length_fill _ _ _ _ (by omega)]; omega)]; exact ⟨_, rfl, rfl⟩⟩)
    (by
      rintro i c wr hi ⟨_, hgr, hb⟩ hcc
      have hcv' : wr.cell? ⟨bv, 0, none⟩ = some (.int .u64 v) := hgr.cell (by rw [World.cell?_alloc_past _ _ _ hlv]; exact hcv) (fun e => hbv (Option.some.inj e))
      have hcn' : wr.cell? ⟨bn, 0, none⟩ = some (.slice (some ⟨g, bs.length, none⟩) n cp) := hgr.cell (by rw [World.cell?_alloc_past _ _ _ hln]; exact hcn) (fun e => hbn (Option.some.inj e))
      refine (put1_any i bs.length n cp v bv bn g c wr hi (by omega) hcv' hcn' _ hcc (frozen_of_block hb)).mono ?_
      rintro e w' ⟨rfl, rfl⟩
      refine Or.inl ⟨rfl, by omega, grown_trans hgr (grown_set _ _ _ _), ?_⟩
      have := heap_setCell_same wr g (bs.length + i) _ _ (B (UInt8.ofNat (v / 256 ^ i))) hb
      rw [set_map, fill_step _ _ _ _ hi] at this
      exact this)
  refine key.mono ?_
  rintro e w' (⟨rfl, _, hgr, hb⟩ | ⟨_, _, _, hf⟩)
  · rw [fill_all] at hb
    exact ⟨rfl, hb, ⟨hgr.os, hgr.tape, hgr.output, Nat.le_trans (by simp) hgr.size, fun k hk hne => (hgr.block k (by simp; omega) hne).trans (Below.heap_alloc _ _ _ hk)⟩⟩
  · exact hf.elim

set_option maxHeartbeats 1000000 in
theorem put_ok (s : Value) (bs : List UInt8) (v n : Nat) (w : World) (hs : Row w s bs) (hroom : bs.length ≤ 140737488351232) (hv : v < 18446744073709551616) (h1 : 1 ≤ n) (h2 : n ≤ 8) (h : v < 256 ^ n) :
    Calls Try.prog 10 #[s, .int .u64 v, .int .i64 n] w fun e w' => ∃ t, e = .returned (.tuple #[t, .int .i64 0]) ∧ w'.ownsRow w.heap.size 5 1 t (bs ++ le n v).length ((bs ++ le n v).map B) ∧ Below w.heap.size w w' := by
  have H : Hid (decide (v < 256 ^ n) = true) := by unfold Hid; simp; omega
  clear h
  have hs0 := hs.below (((Below.refl _ w).alloc (Nat.le_refl _) (.cells #[.int .u64 v] 23)))
  obtain ⟨a, cap, rfl, hc1, hc2, hc3, hc4⟩ := hs
  obtain ⟨i0, hi, hz0, hz1, hz2⟩ := info_parts Try.info5
  go_enter Try.func10, Try.ntmps10
  go_wp2_with fail
  refine (may_yes _ _ (by omega) (by omega)).mono ?_
  rintro e w1 ⟨rfl, rfl⟩
  go_wp2_with fail
  refine (room_any v n _ hv h1 h2).mono ?_
  rintro e w1 ⟨rfl, rfl⟩
  rw [H.out]
  go_wp2_with (at_make; refine wpList_make_full _ rfl _ _ 22 rfl w.heap.size 5 i0 (.int .u8 0) 1 Try.underlying22 hi hz0 hz1 .i64 .i64 ((bs.length : Int) + n) ((bs.length : Int) + n) (bs.length + n) rfl rfl (by omega) (by omega) ?b2 ?b3 ?b4 ?_)
  case b2 => rw [hz2]; omega
  case b3 => unfold maxLen; omega
  case b4 => simp
  intro w2 hown hgrow
  have hb2 : Below (w.heap.size + 1) (w.alloc (.cells #[.int .u64 v] 23)) w2 := (Below.refl _ _).grown hgrow (by simp) (fun k hk => by cases hk)
  have hblk := made_block hown
  have hcpos := copy_pos' hs0 (hb2.mono (by simp))
  clear hown hgrow hs0
  go_wp2_with (refine wpList_copy_splice rfl (.tmp 23) (.tmp 24) 22 22 rfl 5 Try.underlying22 Try.size5 _ _ _ _ _ _ rfl rfl (w.heap.size + 1) 0 _ 5 hblk (bs.map B) ?c1 ?c2 ?c3 (oneCell_B bs) (w.heap.size + 1) _ hb2 (by omega) ?_)
  case c1 => simp
  case c2 => exact hcpos
  case c3 => simp
  intro w3 hblk3 hb3
  have hblk3' := hblk3.out
  rw [splice_B] at hblk3'
  have HB : Hid (w3.heap[w.heap.size + 1]? = some (.cells ((bs ++ List.replicate n 0).map B).toArray 5 (0, 0))) := hblk3'
  have hlt3 : w.heap.size + 1 < w3.heap.size := by
    obtain ⟨h', _⟩ := Array.getElem?_eq_some_iff.1 hblk3'
    exact h'
  have hcv3 : w3.cell? ⟨w.heap.size, 0, none⟩ = some (.int .u64 v) := by
    rw [hb3.cell (by show w.heap.size < _; omega), World.cell?_alloc_at _ _ _ _ rfl]; rfl
  clear hblk3 hblk3' hcpos hblk hb2
  go_wp2_with fail
  refine (put_walk bs v n (w.heap.size + 1) w.heap.size w3.heap.size n _ h2 (by simp; omega) (by omega) (by omega) ?_ ?_ ?_).mono ?_
  · rw [Below.heap_alloc _ _ _ (by simp; omega), Below.heap_alloc _ _ _ (by omega)]; exact HB.out
  · rw [World.cell?_alloc_past _ _ _ (by simp; omega), World.cell?_alloc_past _ _ _ (by show w.heap.size < w3.heap.size; omega)]; exact hcv3
  · rw [World.cell?_alloc_past _ _ _ (by simp), World.cell?_alloc_at _ _ _ _ rfl]; rfl
  rintro e w4 ⟨rfl, hb4, hgr4⟩
  have HO : Hid (w4.ownsRow w.heap.size 5 1 (.slice (some ⟨w.heap.size + 1, 0, none⟩) (bs ++ le n v).length (bs ++ le n v).length) (bs ++ le n v).length ((bs ++ le n v).map B)) := owns_of_block hb4 (by omega) (by simp [length_le]; unfold maxLen; omega)
  have hbel : Below w.heap.size w w4 := by
    have e1 : Below w.heap.size w w3 := ((Below.refl _ w).alloc (Nat.le_refl _) _).trans (hb3.mono (by omega))
    exact ((e1.alloc (by omega) _).alloc (by simp; omega) _).grown hgr4 (by simp; omega) (fun k hk => by cases hk; omega)
  clear hb4 hgr4 hb3 HB hcv3
  go_wp2
  go_ret2
  refine ⟨_, rfl, ?_, hbel⟩
  have := HO.out
  simpa [length_le] using this
end Go.Proofs.Ytjcemodfpcohgaa
