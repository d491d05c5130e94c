/- The walk of the law CrcLinear. -/
import Derived.Test.YtnbekfomohhgnaaCrcAwake
import Derived.OpenShut
import Derived.Deep.RegionHeld3
namespace Go.Proofs.Ytnbekfomohhgnaa
open Go.RowKit

theorem Row.take {w : World} {p : Option Addr} {l c : Nat} {bs : List UInt8} (h : Row w (.slice p l c) bs) (n : Nat) (hn : n ≤ bs.length) : Row w (.slice p n c) (bs.take n) := by
  obtain ⟨a, cap, e, h1, h2, h3, h4⟩ := h
  simp only [Value.slice.injEq] at e
  obtain ⟨rfl, rfl, rfl⟩ := e
  have hl : (bs.take n).length = n := by simp; omega
  refine ⟨p, c, by rw [hl], by omega, h2, h3, ?_⟩
  by_cases h0 : bs.take n = []
  · exact Or.inl h0
  · right
    rcases h4 with rfl | ⟨b, off, ha, hc⟩
    · simp at h0
    · exact ⟨b, off, ha, fun j hj => by rw [hl] at hj; rw [hc j (by omega)]; simp⟩

theorem run_min_int3 {P : Program} (w : World) (ts : Array TypeId) (t : TypeId) (x y z : Nat) :
    (Builtin.min_ ts t #[.int .i64 (x : Int), .int .i64 (y : Int), .int .i64 (z : Int)]).run P w = .ok (.int .i64 ((min (min x y) z : Nat) : Int)) w := by
  have e1 : (if (y : Int) < (x : Int) then (y : Int) else (x : Int)) = ((min x y : Nat) : Int) := by split <;> omega
  have e2 : ∀ m : Nat, (if (z : Int) < (m : Int) then (z : Int) else (m : Int)) = ((min m z : Nat) : Int) := by intro m; split <;> omega
  have h : (Builtin.min_ ts t #[.int .i64 (x : Int), .int .i64 (y : Int), .int .i64 (z : Int)]).run P w = .ok (.int .i64 (if (z : Int) < (if (y : Int) < (x : Int) then (y : Int) else (x : Int)) then (z : Int) else (if (y : Int) < (x : Int) then (y : Int) else (x : Int)))) w := by
    simp [Builtin.min_, Builtin.min2]
  rw [h, e1, e2]

theorem xor3_snoc (a b c : List UInt8) (x y z : UInt8) (hb : b.length = a.length) (hc : c.length = a.length) : xor3 (a ++ [x]) (b ++ [y]) (c ++ [z]) = xor3 a b c ++ [x ^^^ y ^^^ z] := by
  induction a generalizing b c with
  | nil =>
    obtain rfl := List.length_eq_zero_iff.1 hb
    obtain rfl := List.length_eq_zero_iff.1 hc
    rfl
  | cons u r ih =>
    match b, hb, c, hc with
    | v :: s, hb, t :: q, hc =>
      simp only [List.cons_append, xor3, List.cons_append]
      rw [ih s q (by simpa using hb) (by simpa using hc)]

theorem xor3_take (a b c : List UInt8) (k : Nat) (ha : k < a.length) (hb : k < b.length) (hc : k < c.length) :
    xor3 (a.take (k + 1)) (b.take (k + 1)) (c.take (k + 1)) = xor3 (a.take k) (b.take k) (c.take k) ++ [a[k] ^^^ b[k] ^^^ c[k]] := by
  rw [List.take_succ_eq_append_getElem ha, List.take_succ_eq_append_getElem hb, List.take_succ_eq_append_getElem hc, xor3_snoc _ _ _ _ _ _ (by simp; omega) (by simp; omega)]

theorem bits_xor8 (x y : UInt8) : bits .xor .u8 (x.toNat : Int) (y.toNat : Int) = ((x ^^^ y).toNat : Int) := by
  have hx := x.toNat_lt
  have hy := y.toNat_lt
  rw [u8_xor_nat _ _ (by omega) (by omega), UInt8.toNat_xor]

theorem set_take (L : List UInt8) (k : Nat) (u : UInt8) (hk : k < L.length) : (L.set k u).take (k + 1) = L.take k ++ [u] := by
  rw [List.take_succ_eq_append_getElem (by simpa using hk), List.take_set, List.set_eq_of_length_le (by simp; omega)]
  simp

theorem Row.cap {w : World} {p : Option Addr} {l c : Nat} {bs : List UInt8} (h : Row w (.slice p l c) bs) : bs.length ≤ c := by
  obtain ⟨a, cap, e, h1, _⟩ := h
  simp only [Value.slice.injEq] at e
  obtain ⟨_, _, rfl⟩ := e
  exact h1
theorem more_lt (bs : List UInt8) : more 0 bs < 4294967296 := Nat.xor_lt_two_pow (n := 32) (raw_lt _ bs (by decide)) (by omega)

set_option maxHeartbeats 2000000 in
theorem linear_any (s1 s2 s3 : Value) (a b c : List UInt8) (w : World) (h1 : Row w s1 a) (h2 : Row w s2 b) (h3 : Row w s3 c) (r1 : a.length ≤ 140737488351232) :
    Calls Try.prog 8 #[s1, s2, s3] w fun e w' => e = .returned (.bool true) ∧ Below w.heap.size w w' := by
  obtain ⟨i0, hi, hz0, hz1, hz2⟩ := info_parts Try.info5
  obtain ⟨p1, c1, l1, rfl, hl1⟩ := h1.shape
  obtain ⟨p2, c2, l2, rfl, hl2⟩ := h2.shape
  obtain ⟨p3, c3, l3, rfl, hl3⟩ := h3.shape
  subst hl1 hl2 hl3
  have hmin := run_min_int3 (P := Try.prog) w #[3, 3, 3] 3 a.length b.length c.length
  have n1 : min (min a.length b.length) c.length ≤ a.length := by omega
  have n2 : min (min a.length b.length) c.length ≤ b.length := by omega
  have n3 : min (min a.length b.length) c.length ≤ c.length := by omega
  generalize min (min a.length b.length) c.length = n at *
  have H1 := hide h1
  have H2 := hide h2
  have H3 := hide h3
  clear h1 h2 h3
  go_enter Try.func8, Try.ntmps8
  go_wp2_with (at_make; refine wpList_make_full _ rfl _ _ 22 rfl w.heap.size 5 i0 (.int .u8 0) 1 Try.underlying22 hi hz0 hz1 .i64 .i64 (n : Int) (n : Int) n rfl rfl rfl rfl (by rw [hz2]; omega) (by unfold maxLen; omega) ?b4 ?_)
  case b4 => exact Nat.le_refl _
  intro w1 hown hgrow
  have hb1 : Below w.heap.size w w1 := (Below.refl _ _).grown hgrow (Nat.le_refl _) (fun k hk => by cases hk)
  have hblk := made_block hown
  have HB := hide hblk
  clear hown hgrow hmin hblk
  go_wp2_with fail
  go_loopw [9] (fun i wr => ∃ (k : Nat) (L : List UInt8), k ≤ n ∧ i = .int .i64 k ∧ wr.heap[w.heap.size]? = some (.cells (L.map B).toArray 5 (0, 0)) ∧ L.length = n ∧ Hid (L.take k = xor3 (a.take k) (b.take k) (c.take k)) ∧ Below w.heap.size w wr)
    (fun i _ => n - (intOf i).toNat)
  case atStart => exact ⟨0, List.replicate n 0, Nat.zero_le _, rfl, unhide HB, by simp, rfl, hb1⟩
  case round =>
    obtain ⟨k, L, hk, rfl, hblk, hL, hrel, hbel⟩ := hrel
    by_cases hlt : k < n
    · have q1 := ((unhide H1).below hbel).open (by intro e; rw [e] at n1; simp at n1; omega)
      have q2 := ((unhide H2).below hbel).open (by intro e; rw [e] at n2; simp at n2; omega)
      have q3 := ((unhide H3).below hbel).open (by intro e; rw [e] at n3; simp at n3; omega)
      obtain ⟨b1, o1, cc1, e1, g1, _, t1⟩ := q1
      obtain ⟨b2, o2, cc2, e2, g2, _, t2⟩ := q2
      obtain ⟨b3, o3, cc3, e3, g3, _, t3⟩ := q3
      simp only [Value.slice.injEq, true_and] at e1 e2 e3
      obtain ⟨rfl, rfl⟩ := e1
      obtain ⟨rfl, rfl⟩ := e2
      obtain ⟨rfl, rfl⟩ := e3
      have v1 := t1 k (by omega)
      have v2 := t2 k (by omega)
      have v3 := t3 k (by omega)
      have HX := hide (xor3_take a b c k (by omega) (by omega) (by omega))
      have hcell : wr.cell? ⟨w.heap.size, k, none⟩ = some (B (L[k]'(by omega))) := by
        rw [cell_of_row wr w.heap.size k _ _ (0, 0) hblk]; simp [hL, hlt]
      have hfz : wr.frozen? ⟨w.heap.size, k, none⟩ = false := frozen_of_block hblk
      have HBK := hide hblk
      unfold B at v1 v2 v3
      have x1 := bits_xor8 (a[k]'(by omega)) (b[k]'(by omega))
      have x2 := bits_xor8 (a[k]'(by omega) ^^^ b[k]'(by omega)) (c[k]'(by omega))
      generalize a[k]'(by omega) = ak at *
      generalize b[k]'(by omega) = bk at *
      generalize c[k]'(by omega) = ck at *
      clear t1 t2 t3 hblk
      have k1 : k < a.length := by omega
      have k2 : k < b.length := by omega
      have k3 : k < c.length := by omega
      have HL := hide hL
      obtain ⟨u0, hu0⟩ : ∃ u0, u0 = B (L[k]'(by omega)) := ⟨_, rfl⟩
      rw [← hu0] at hcell
      clear hu0 hL
      rw [← x1] at x2
      have HV : Hid (((ak ^^^ bk ^^^ ck).toNat : Int) = bits .xor .u8 (bits .xor .u8 (ak.toNat : Int) (bk.toNat : Int)) (ck.toNat : Int)) := x2.symm
      clear x1 x2
      generalize (ak.toNat : Int) = A1 at *
      generalize (bk.toNat : Int) = A2 at *
      generalize (ck.toNat : Int) = A3 at *
      go_wp2
      go_region
      go_wp2
      go_roundw
      case rel =>
        refine ⟨k + 1, L.set k (ak ^^^ bk ^^^ ck), by omega, by go_num, ?_, by simpa using unhide HL, ?_, (hbel.setCell (Nat.le_refl _) _).drew⟩
        · rw [← unhide HV, ← set_map]
          exact heap_setCell_same wr _ k _ _ _ (unhide HBK)
        · unfold Hid
          rw [set_take L k _ (by rw [unhide HL]; exact hlt), unhide HX, hrel.out]
      case measure => simp [intOf]; omega
    · obtain rfl : k = n := by omega
      obtain ⟨K, K0, Kd, Kb, CX, CA, CB, CC, CW⟩ : ∃ K : World → Prop, K wr ∧ (∀ w', K w' → K w'.drew) ∧ Hid (∀ w', K w' → Below w.heap.size w w')
          ∧ Hid (∀ w', K w' → Calls Try.prog 11 #[.slice (some ⟨w.heap.size, 0, none⟩) k k] w' fun e w'' => e = .returned (.int .u32 (more 0 (xor3 (a.take k) (b.take k) (c.take k)) : Nat)) ∧ K w'')
          ∧ Hid (∀ w', K w' → Calls Try.prog 11 #[.slice p1 k c1] w' fun e w'' => e = .returned (.int .u32 (more 0 (a.take k) : Nat)) ∧ K w'')
          ∧ Hid (∀ w', K w' → Calls Try.prog 11 #[.slice p2 k c2] w' fun e w'' => e = .returned (.int .u32 (more 0 (b.take k) : Nat)) ∧ K w'')
          ∧ Hid (∀ w', K w' → Calls Try.prog 11 #[.slice p3 k c3] w' fun e w'' => e = .returned (.int .u32 (more 0 (c.take k) : Nat)) ∧ K w'')
          ∧ Hid (∀ w', K w' → Calls Try.prog 10 #[] w' fun e w'' => e = .returned (.bool true) ∧ K w'') := by
        have hx : Row wr (.slice (some ⟨w.heap.size, 0, none⟩) k k) L := by
          have h := row_of_block hblk 0 k k (by omega) (Nat.le_refl _) (by unfold maxLen; omega)
          rw [List.drop_zero, List.take_of_length_le (by omega)] at h
          exact h
        have eL : L = xor3 (a.take k) (b.take k) (c.take k) := by
          have h := hrel.out
          rw [List.take_of_length_le (by omega)] at h
          exact h
        rw [eL] at hx hL
        have ha := ((unhide H1).take k n1).below hbel
        have hb := ((unhide H2).take k n2).below hbel
        have hc := ((unhide H3).take k n3).below hbel
        refine ⟨fun w' => Below w.heap.size w w' ∧ Row w' (.slice (some ⟨w.heap.size, 0, none⟩) k k) (xor3 (a.take k) (b.take k) (c.take k)) ∧ Row w' (.slice p1 k c1) (a.take k) ∧ Row w' (.slice p2 k c2) (b.take k) ∧ Row w' (.slice p3 k c3) (c.take k), ⟨hbel, hx, ha, hb, hc⟩, ?_, fun w' h => h.1, ?_, ?_, ?_, ?_, ?_⟩
        · rintro w' ⟨h0, h1, h2, h3, h4⟩
          have hd : Below w'.heap.size w' w'.drew := (Below.refl _ _).drew
          exact ⟨h0.drew, h1.below hd, h2.below hd, h3.below hd, h4.below hd⟩
        · rintro w' ⟨h0, h1, h2, h3, h4⟩
          refine (sum_any _ _ w' h1 (by rw [hL]; omega)).mono ?_
          rintro e w'' ⟨rfl, hd⟩
          exact ⟨rfl, h0.trans (hd.mono h0.size), h1.below hd, h2.below hd, h3.below hd, h4.below hd⟩
        · rintro w' ⟨h0, h1, h2, h3, h4⟩
          refine (sum_any _ _ w' h2 (by simp; omega)).mono ?_
          rintro e w'' ⟨rfl, hd⟩
          exact ⟨rfl, h0.trans (hd.mono h0.size), h1.below hd, h2.below hd, h3.below hd, h4.below hd⟩
        · rintro w' ⟨h0, h1, h2, h3, h4⟩
          refine (sum_any _ _ w' h3 (by simp; omega)).mono ?_
          rintro e w'' ⟨rfl, hd⟩
          exact ⟨rfl, h0.trans (hd.mono h0.size), h1.below hd, h2.below hd, h3.below hd, h4.below hd⟩
        · rintro w' ⟨h0, h1, h2, h3, h4⟩
          refine (sum_any _ _ w' h4 (by simp; omega)).mono ?_
          rintro e w'' ⟨rfl, hd⟩
          exact ⟨rfl, h0.trans (hd.mono h0.size), h1.below hd, h2.below hd, h3.below hd, h4.below hd⟩
        · rintro w' ⟨h0, h1, h2, h3, h4⟩
          refine (awake_any w').mono ?_
          rintro e w'' ⟨rfl, hd⟩
          exact ⟨rfl, h0.trans (hd.mono h0.size), h1.below hd, h2.below hd, h3.below hd, h4.below hd⟩
      have hA := more_lt (a.take k)
      have hB := more_lt (b.take k)
      have hC := more_lt (c.take k)
      have h3 := more3 (a.take k) (b.take k) (c.take k) (by simp; omega) (by simp; omega)
      rw [h3] at CX
      clear h3 hrel hblk HB hb1 hL
      generalize more 0 (a.take k) = va at *
      generalize more 0 (b.take k) = vb at *
      generalize more 0 (c.take k) = vc at *
      have hAB : va ^^^ vb < 4294967296 := Nat.xor_lt_two_pow (n := 32) hA hB
      have x1 : bits .xor .u32 (va : Int) (vb : Int) = ((va ^^^ vb : Nat) : Int) := bits_xor32 _ _ hA hB
      have x2 : bits .xor .u32 ((va ^^^ vb : Nat) : Int) (vc : Int) = ((va ^^^ vb ^^^ vc : Nat) : Int) := bits_xor32 _ _ hAB hC
      generalize va ^^^ vb ^^^ vc = vx at *
      generalize va ^^^ vb = vab at *
      have q1 : k ≤ c1 := Nat.le_trans n1 (Row.cap (unhide H1))
      have q2 : k ≤ c2 := Nat.le_trans n2 (Row.cap (unhide H2))
      have q3 : k ≤ c3 := Nat.le_trans n3 (Row.cap (unhide H3))
      have heq : ((vx : Int) == vx) = true := by simp
      clear n1 n2 n3 r1 hbel
      go_wp2_with fail
      go_region_held3 (fun w' => K w') (first | assumption | (refine Kd _ ?_; assumption))
        (first
          | (go_at_call 10; refine Calls.mono (unhide CW _ (by assumption)) ?_; rintro e w2 ⟨rfl, k2⟩)
          | (go_at_call 11; refine Calls.mono (unhide CX _ (by assumption)) ?_; rintro e w3 ⟨rfl, k3⟩)
          | (go_at_call 11; refine Calls.mono (unhide CA _ (by assumption)) ?_; rintro e w4 ⟨rfl, k4⟩)
          | (go_at_call 11; refine Calls.mono (unhide CB _ (by assumption)) ?_; rintro e w5 ⟨rfl, k5⟩)
          | (go_at_call 11; refine Calls.mono (unhide CC _ (by assumption)) ?_; rintro e w6 ⟨rfl, k6⟩))
      go_wp2
      go_ret
      exact ⟨rfl, unhide Kb _ k6⟩

theorem walk_CrcLinear (s1 : Value) (a : List UInt8) (s2 : Value) (b : List UInt8) (s3 : Value) (c : List UInt8) (w : World) (h1 : Row w s1 a) (r1 : a.length ≤ 140737488351232) (h2 : Row w s2 b) (_r2 : b.length ≤ 140737488351232) (h3 : Row w s3 c) (_r3 : c.length ≤ 140737488351232) :
    Calls Try.prog 8 #[s1, s2, s3] w fun e w' => e = .returned (.bool true) ∧ Below w.heap.size w w' := linear_any s1 s2 s3 a b c w h1 h2 h3 r1
end Go.Proofs.Ytnbekfomohhgnaa
