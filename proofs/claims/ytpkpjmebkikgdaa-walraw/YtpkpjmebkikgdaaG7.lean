/- Texts of ours, one behind the other: Word2, Put, RefRv, RefZero. -/
import Derived.Test.YtpkpjmebkikgdaaG1
import Derived.Test.YtpkpjmebkikgdaaG6
import Derived.Laws.EntriesVeiled
/- What Zero of package word does, out of the contracts of what it calls. -/
namespace Go.Proofs.Ytpkpjmebkikgdaa
open Go.RowKit

theorem all_zero (bs : List UInt8) (h : ∀ j (h : j < bs.length), bs[j] = 0) : bs.all (· == 0) = true := by
  rw [List.all_eq_true]
  intro x hx
  obtain ⟨j, hj, rfl⟩ := List.getElem_of_mem hx
  simp [h j hj]
theorem not_all_zero (bs : List UInt8) (j : Nat) (hj : j < bs.length) (h : bs[j] ≠ 0) : bs.all (· == 0) = false := by
  rw [Bool.eq_false_iff]
  intro ha
  rw [List.all_eq_true] at ha
  exact h (by simpa using ha _ (List.getElem_mem hj))
theorem beq_byte (u : UInt8) : ((u.toNat : Int) == 0) = (u == 0) := by
  rw [Bool.eq_iff_iff]
  simp only [beq_iff_eq]
  constructor
  · intro h; exact UInt8.toNat_inj.1 (by simpa using h)
  · intro h; simp [h]

theorem zero_any (s : Value) (bs : List UInt8) (w : World) (h : Row w s bs) :
    Calls Try.prog 76 #[s] w fun e w' => e = .returned (.bool (bs.all (· == 0))) ∧ Below w.heap.size w w' := by
  obtain ⟨a, cap, rfl, h1, h2, h3, h4⟩ := h
  unfold maxLen at h2
  rcases h4 with rfl | ⟨b, off, rfl, hc⟩
  · go_enter Try.func76, Try.ntmps76
    go_wp2_with fail
    refine (over_empty _ _ _ _).mono ?_
    rintro e w' ⟨rfl, rfl⟩
    go_wp2
    go_ret
    exact ⟨rfl, ((Below.refl _ _).alloc (Nat.le_refl _) _).alloc (by simp) _⟩
  · have hcells : ∀ j (h : j < bs.length), ((w.alloc (.cells #[.func (.func 86) #[] #[]] 146)).alloc (.cells #[.func (.func 86) #[] #[]] 146)).cell? ⟨b, off + j, none⟩ = some (B bs[j]) := fun j hj => by
      have hlt := World.block_lt_of_cell? w _ (hc j hj)
      rw [World.cell?_alloc_past _ _ _ (by simp at hlt ⊢; omega), World.cell?_alloc_past _ _ _ hlt]
      exact hc j hj
    have key := over_any 86 #[] b off bs.length cap (w.alloc (.cells #[.func (.func 86) #[] #[]] 146))
      (fun i wr => wr = (w.alloc (.cells #[.func (.func 86) #[] #[]] 146)).alloc (.cells #[.func (.func 86) #[] #[]] 146) ∧ ∀ j (h : j < bs.length), j < i → bs[j] = 0)
      (fun i wr => wr = (w.alloc (.cells #[.func (.func 86) #[] #[]] 146)).alloc (.cells #[.func (.func 86) #[] #[]] 146) ∧ ∃ h : i < bs.length, bs[i] ≠ 0)
      (by omega) ent_zero1 ⟨rfl, fun j _ hj => absurd hj (by omega)⟩
      (by rintro i wr ⟨rfl, _⟩; rw [World.cell?_alloc_at _ _ _ _ rfl]; rfl)
      (by rintro i wr hi ⟨rfl, _⟩; exact ⟨_, hcells i hi⟩)
      (by
        rintro i c wr hi ⟨rfl, hz⟩ hcc
        have e : Value.int .u8 c = B bs[i] := Option.some.inj (hcc.symm.trans (hcells i hi))
        have ec : c = (bs[i].toNat : Int) := by unfold B at e; simpa using e
        subst ec
        refine (zero1_any _ _ _).mono ?_
        rintro e w' ⟨rfl, rfl⟩
        rw [beq_byte]
        by_cases h0 : bs[i] = 0
        · refine Or.inl ⟨by simp [h0], rfl, fun j hj hji => ?_⟩
          by_cases hji' : j = i
          · subst hji'; exact h0
          · exact hz j hj (by omega)
        · exact Or.inr ⟨by simp [h0], rfl, hi, h0⟩)
    have hbel : Below w.heap.size w ((w.alloc (.cells #[.func (.func 86) #[] #[]] 146)).alloc (.cells #[.func (.func 86) #[] #[]] 146)) := ((Below.refl _ _).alloc (Nat.le_refl _) _).alloc (by simp) _
    clear hcells hc
    go_enter Try.func76, Try.ntmps76
    go_wp2_with fail
    refine key.mono ?_
    rintro e w' (⟨rfl, rfl, hz⟩ | ⟨rfl, i, hi, rfl, _, hz⟩)
    · have H : Hid (bs.all (· == 0) = true) := all_zero bs (fun j hj => hz j hj hj)
      clear hz key
      go_wp2
      go_ret
      exact ⟨by rw [H.out]; rfl, hbel⟩
    · have H : Hid (bs.all (· == 0) = false) := not_all_zero bs i hi hz
      clear hz key
      go_wp2
      go_ret
      exact ⟨by rw [H.out]; rfl, hbel⟩
end Go.Proofs.Ytpkpjmebkikgdaa

/- What Put of package word does. -/
namespace Go.Proofs.Ytpkpjmebkikgdaa
open Go.RowKit

theorem put_arg (s : Value) (v n : Int) (w : World) (h : n < 1 ∨ 8 < n) :
    Calls Try.prog 72 #[s, .int .u64 v, .int .i64 n] w fun e w' => e = .returned (.tuple #[.slice none 0 0, .int .i64 1]) ∧ Below w.heap.size w w' := by
  have H : Hid (n < 1 ∨ 8 < n) := h
  clear h
  go_enter Try.func72, Try.ntmps72
  go_wp2_with fail
  refine (may_no _ _ H.out).mono ?_
  rintro e w1 ⟨rfl, rfl⟩
  go_wp2
  go_ret2
  exact ⟨rfl, (Below.refl _ _).alloc (Nat.le_refl _) _⟩

theorem put_over (s : Value) (v n : Nat) (w : World) (hv : v < 18446744073709551616) (h1 : 1 ≤ n) (h2 : n ≤ 8) (h : 256 ^ n ≤ v) :
    Calls Try.prog 72 #[s, .int .u64 v, .int .i64 n] w fun e w' => e = .returned (.tuple #[.slice none 0 0, .int .i64 12]) ∧ Below w.heap.size w w' := by
  have H : Hid (decide (v < 256 ^ n) = false) := by unfold Hid; simp; omega
  clear h
  go_enter Try.func72, Try.ntmps72
  go_wp2_with fail
  refine (may_yes _ _ (by omega) (by omega)).mono ?_
  rintro e w1 ⟨rfl, rfl⟩
  go_wp2_with fail
  refine (room_any v n _ hv h1 h2).mono ?_
  rintro e w1 ⟨rfl, rfl⟩
  rw [H.out]
  go_wp2
  go_ret2
  exact ⟨rfl, (Below.refl _ _).alloc (Nat.le_refl _) _⟩

/-- The row while v is being put behind bs: i of its n bytes are there. -/
def fill (bs : List UInt8) (n v i : Nat) : List UInt8 := bs ++ le i v ++ List.replicate (n - i) 0
theorem length_fill (bs : List UInt8) (n v i : Nat) (h : i ≤ n) : (fill bs n v i).length = bs.length + n := by simp [fill, length_le]; omega
theorem fill_zero (bs : List UInt8) (n v : Nat) : fill bs n v 0 = bs ++ List.replicate n 0 := by simp [fill, le]
theorem fill_all (bs : List UInt8) (n v : Nat) : fill bs n v n = bs ++ le n v := by simp [fill]
theorem fill_step (bs : List UInt8) (n v i : Nat) (h : i < n) : (fill bs n v i).set (bs.length + i) (UInt8.ofNat (v / 256 ^ i)) = fill bs n v (i + 1) := by
  have e : n - i = (n - (i + 1)) + 1 := by omega
  unfold fill
  rw [e, List.replicate_succ, List.set_append, if_neg (by simp [length_le]), le_succ]
  simp [length_le]

/-- The walk that puts v, byte by byte, into the bytes of block g behind the first ones. -/
theorem put_walk (bs : List UInt8) (v n g bv bn cp : Nat) (w : World) (hv8 : n ≤ 8)
    (hg : g < w.heap.size) (hbv : bv ≠ g) (hbn : bn ≠ g) (hblk : w.heap[g]? = some (.cells ((bs ++ List.replicate n 0).map B).toArray 5 (0, 0)))
    (hcv : w.cell? ⟨bv, 0, none⟩ = some (.int .u64 v)) (hcn : w.cell? ⟨bn, 0, none⟩ = some (.slice (some ⟨g, bs.length, none⟩) n cp)) :
    Calls Try.prog 84 #[.agg #[.func (.func 83) #[] #[.pointer (some ⟨bv, 0, none⟩), .pointer (some ⟨bn, 0, none⟩)]], .slice (some ⟨g, bs.length, none⟩) n cp] w fun e w' =>
      e = .returned (.bool true) ∧ w'.heap[g]? = some (.cells ((bs ++ le n v).map B).toArray 5 (0, 0)) ∧ w.grownBy w' (some g) := by
  have hlv := World.block_lt_of_cell? w _ hcv
  have hln := World.block_lt_of_cell? w _ hcn
  have key := over_any 83 #[.pointer (some ⟨bv, 0, none⟩), .pointer (some ⟨bn, 0, none⟩)] g bs.length n cp w
    (fun i wr => i ≤ n ∧ (w.alloc (.cells #[.func (.func 83) #[] #[.pointer (some ⟨bv, 0, none⟩), .pointer (some ⟨bn, 0, none⟩)]] 146)).grownBy wr (some g) ∧ wr.heap[g]? = some (.cells ((fill bs n v i).map B).toArray 5 (0, 0)))
    (fun _ _ => False) (by omega) ent_put1
    ⟨by omega, World.grownBy.refl _ _, by rw [fill_zero, Below.heap_alloc _ _ _ hg]; exact hblk⟩
    (by
      rintro i wr ⟨_, hgr, _⟩
      exact hgr.cell (by rw [World.cell?_alloc_at _ _ _ _ rfl]; rfl) (fun e => by have := Option.some.inj e; simp at this; omega))
    (by
      rintro i wr hi ⟨_, hgr, hb⟩
      refine ⟨_, by rw [cell_of_row wr g (bs.length + i) _ _ (0, 0) hb]; simp [B]; rw [List.getElem?_eq_getElem (by rw [length_fill _ _ _ _ (by omega)]; omega)]; exact ⟨_, rfl, rfl⟩⟩)
    (by
      rintro i c wr hi ⟨_, hgr, hb⟩ hcc
      have hcv' : wr.cell? ⟨bv, 0, none⟩ = some (.int .u64 v) := hgr.cell (by rw [World.cell?_alloc_past _ _ _ hlv]; exact hcv) (fun e => hbv (Option.some.inj e))
      have hcn' : wr.cell? ⟨bn, 0, none⟩ = some (.slice (some ⟨g, bs.length, none⟩) n cp) := hgr.cell (by rw [World.cell?_alloc_past _ _ _ hln]; exact hcn) (fun e => hbn (Option.some.inj e))
      refine (put1_any i bs.length n cp v bv bn g c wr hi (by omega) hcv' hcn' _ hcc (frozen_of_block hb)).mono ?_
      rintro e w' ⟨rfl, rfl⟩
      refine Or.inl ⟨rfl, by omega, grown_trans hgr (grown_set _ _ _ _), ?_⟩
      have := heap_setCell_same wr g (bs.length + i) _ _ (B (UInt8.ofNat (v / 256 ^ i))) hb
      rw [set_map, fill_step _ _ _ _ hi] at this
      exact this)
  refine key.mono ?_
  rintro e w' (⟨rfl, _, hgr, hb⟩ | ⟨_, _, _, hf⟩)
  · rw [fill_all] at hb
    exact ⟨rfl, hb, ⟨hgr.os, hgr.tape, hgr.output, Nat.le_trans (by simp) hgr.size, fun k hk hne => (hgr.block k (by simp; omega) hne).trans (Below.heap_alloc _ _ _ hk)⟩⟩
  · exact hf.elim

set_option maxHeartbeats 1000000 in
theorem put_ok (s : Value) (bs : List UInt8) (v n : Nat) (w : World) (hs : Row w s bs) (hroom : bs.length ≤ 140737488351232) (hv : v < 18446744073709551616) (h1 : 1 ≤ n) (h2 : n ≤ 8) (h : v < 256 ^ n) :
    Calls Try.prog 72 #[s, .int .u64 v, .int .i64 n] w fun e w' => ∃ t, e = .returned (.tuple #[t, .int .i64 0]) ∧ w'.ownsRow w.heap.size 5 1 t (bs ++ le n v).length ((bs ++ le n v).map B) ∧ Below w.heap.size w w' := by
  have H : Hid (decide (v < 256 ^ n) = true) := by unfold Hid; simp; omega
  clear h
  have hs0 := hs.below (((Below.refl _ w).alloc (Nat.le_refl _) (.cells #[.int .u64 v] 23)))
  obtain ⟨a, cap, rfl, hc1, hc2, hc3, hc4⟩ := hs
  obtain ⟨i0, hi, hz0, hz1, hz2⟩ := info_parts Try.info5
  go_enter Try.func72, Try.ntmps72
  go_wp2_with fail
  refine (may_yes _ _ (by omega) (by omega)).mono ?_
  rintro e w1 ⟨rfl, rfl⟩
  go_wp2_with fail
  refine (room_any v n _ hv h1 h2).mono ?_
  rintro e w1 ⟨rfl, rfl⟩
  rw [H.out]
  go_wp2_with (at_make; refine wpList_make_full _ rfl _ _ 31 rfl w.heap.size 5 i0 (.int .u8 0) 1 Try.underlying31 hi hz0 hz1 .i64 .i64 ((bs.length : Int) + n) ((bs.length : Int) + n) (bs.length + n) rfl rfl (by omega) (by omega) ?b2 ?b3 ?b4 ?_)
  case b2 => rw [hz2]; omega
  case b3 => unfold maxLen; omega
  case b4 => simp
  intro w2 hown hgrow
  have hb2 : Below (w.heap.size + 1) (w.alloc (.cells #[.int .u64 v] 23)) w2 := (Below.refl _ _).grown hgrow (by simp) (fun k hk => by cases hk)
  have hblk := made_block hown
  have hcpos := copy_pos' hs0 (hb2.mono (by simp))
  clear hown hgrow hs0
  go_wp2_with (refine wpList_copy_splice rfl (.tmp 23) (.tmp 24) 31 31 rfl 5 Try.underlying31 Try.size5 _ _ _ _ _ _ rfl rfl (w.heap.size + 1) 0 _ 5 hblk (bs.map B) ?c1 ?c2 ?c3 (oneCell_B bs) (w.heap.size + 1) _ hb2 (by omega) ?_)
  case c1 => simp
  case c2 => exact hcpos
  case c3 => simp
  intro w3 hblk3 hb3
  have hblk3' := hblk3.out
  rw [splice_B] at hblk3'
  have HB : Hid (w3.heap[w.heap.size + 1]? = some (.cells ((bs ++ List.replicate n 0).map B).toArray 5 (0, 0))) := hblk3'
  have hlt3 : w.heap.size + 1 < w3.heap.size := by
    obtain ⟨h', _⟩ := Array.getElem?_eq_some_iff.1 hblk3'
    exact h'
  have hcv3 : w3.cell? ⟨w.heap.size, 0, none⟩ = some (.int .u64 v) := by
    rw [hb3.cell (by show w.heap.size < _; omega), World.cell?_alloc_at _ _ _ _ rfl]; rfl
  clear hblk3 hblk3' hcpos hblk hb2
  go_wp2_with fail
  refine (put_walk bs v n (w.heap.size + 1) w.heap.size w3.heap.size n _ h2 (by simp; omega) (by omega) (by omega) ?_ ?_ ?_).mono ?_
  · rw [Below.heap_alloc _ _ _ (by simp; omega), Below.heap_alloc _ _ _ (by omega)]; exact HB.out
  · rw [World.cell?_alloc_past _ _ _ (by simp; omega), World.cell?_alloc_past _ _ _ (by show w.heap.size < w3.heap.size; omega)]; exact hcv3
  · rw [World.cell?_alloc_past _ _ _ (by simp), World.cell?_alloc_at _ _ _ _ rfl]; rfl
  rintro e w4 ⟨rfl, hb4, hgr4⟩
  have HO : Hid (w4.ownsRow w.heap.size 5 1 (.slice (some ⟨w.heap.size + 1, 0, none⟩) (bs ++ le n v).length (bs ++ le n v).length) (bs ++ le n v).length ((bs ++ le n v).map B)) := owns_of_block hb4 (by omega) (by simp [length_le]; unfold maxLen; omega)
  have hbel : Below w.heap.size w w4 := by
    have e1 : Below w.heap.size w w3 := ((Below.refl _ w).alloc (Nat.le_refl _) _).trans (hb3.mono (by omega))
    exact ((e1.alloc (by omega) _).alloc (by simp; omega) _).grown hgr4 (by simp; omega) (fun k hk => by cases hk; omega)
  clear hb4 hgr4 hb3 HB hcv3
  go_wp2
  go_ret2
  refine ⟨_, rfl, ?_, hbel⟩
  have := HO.out
  simpa [length_le] using this
end Go.Proofs.Ytpkpjmebkikgdaa

/- What the reference's ReadVar and Var do: the same as the program's. -/
namespace Go.Proofs.Ytpkpjmebkikgdaa
open Go.RowKit

theorem rrv_neg (s : Value) (a : Int) (w : World) (h : a < 0) :
    Calls Try.prog 56 #[s, .int .i64 a] w fun e w' => e = .returned (.tuple #[.int .u64 0, .int .i64 0, .int .i64 1]) ∧ w' = w := by
  go_enter Try.func56, Try.ntmps56
  go_wp2
  go_ret3
  exact ⟨rfl, rfl⟩

theorem rrv_past (p : Option Addr) (len cap a : Nat) (w : World) (h : len ≤ a) :
    Calls Try.prog 56 #[.slice p len cap, .int .i64 a] w fun e w' => e = .returned (.tuple #[.int .u64 0, .int .i64 0, .int .i64 10]) ∧ w' = w := by
  have h0 : ¬ (a : Int) < 0 := by omega
  have h1 : decide ((len : Int) ≤ a) = true := by simp; omega
  go_enter Try.func56, Try.ntmps56
  go_wp2
  refine wp_loop_rounds 1 ?_
  rw [rounds_succ]
  go_wp2
  go_ret3
  exact ⟨rfl, rfl⟩

set_option maxRecDepth 100000 in
set_option maxHeartbeats 2000000 in
theorem rrv_in (s : Value) (bs : List UInt8) (a : Nat) (w : World) (hs : Row w s bs) (hroom : bs.length ≤ 140737488351232) (h : a < bs.length) :
    Calls Try.prog 56 #[s, .int .i64 a] w fun e w' => e = .returned (.tuple #[.int .u64 (readV bs a : Nat), .int .i64 (readN bs a), .int .i64 (readE bs a)]) ∧ w' = w := by
  obtain ⟨b, off, cap, rfl, hc1, hc2, hc⟩ := hs.open (by intro e; rw [e] at h; simp at h)
  unfold maxLen at hc2
  have h0 : ¬ (a : Int) < 0 := by omega
  have d0 : decide ((bs.length : Int) ≤ a) = false := by simp; omega
  have HF := hide (fun R hR => read_of bs a R hR)
  have hcx : ∀ k (hk : k < (bs.drop a).length), w.cell? ⟨b, off + (a + k), none⟩ = some (.int .u8 ((bs.drop a)[k].toNat : Int)) := fun k hk => by
    have : a + k < bs.length := by simp at hk; omega
    rw [hc (a + k) this]; simp [B]
  have HCX := hide hcx
  have hdl : (bs.drop a).length = bs.length - a := by simp
  clear hc hcx
  go_enter Try.func56, Try.ntmps56
  go_wp2
  go_loop [7, 8] (fun t i => ∃ k v : Nat, k ≤ 9 ∧ i = .int .i64 k ∧ t = .int .u64 v ∧ Hid (v < 128 ^ k) ∧ Hid (rvF 0 0 (bs.drop a) = rvF k v ((bs.drop a).drop k))) (fun _ i => 10 - (intOf i).toNat)
  case atStart => exact ⟨0, 0, by omega, rfl, rfl, by unfold Hid; simp, by unfold Hid; simp⟩
  case round =>
    obtain ⟨k, v, hk, rfl, rfl, hv, hrv⟩ := hrel
    by_cases hend : bs.length ≤ a + k
    · have d1 : decide ((bs.length : Int) ≤ (a : Int) + k) = true := by simp; omega
      have hR : rvF 0 0 (bs.drop a) = (10, 0, 0) := by rw [hrv.out, List.drop_of_length_le (by omega)]; rfl
      obtain ⟨e1, e2, e3⟩ := unhide HF _ hR
      simp only [if_neg (show ¬ (10 : Nat) = 0 by omega)] at e2 e3
      have e2' : ((readV bs (a : Nat) : Nat) : Int) = 0 := by rw [e2]; rfl
      have E1 := hide e1
      have E2 := hide e2'
      have E3 := hide e3
      clear e1 e2 e2' e3 hR HF HCX hrv hv
      go_wp2
      go_ret3
      exact ⟨by rw [unhide E1, unhide E2, unhide E3]; rfl, rfl⟩
    · have d1 : decide ((bs.length : Int) ≤ (a : Int) + k) = false := by simp; omega
      have hkl : k < (bs.drop a).length := by omega
      have hcell := unhide HCX k hkl
      have hrv' := hrv.out
      rw [List.drop_eq_getElem_cons hkl] at hrv'
      have hc8 := ((bs.drop a)[k]).toNat_lt
      have hv' := hv.out
      generalize (bs.drop a)[k] = c at *
      obtain ⟨r, hr⟩ : ∃ r, (bs.drop a).drop (k + 1) = r := ⟨_, rfl⟩
      rw [hr] at hrv'
      have HRR := hide hr
      have hand : bits .and .u8 (c.toNat : Int) 127 = (c.toNat : Int) % 128 := by rw [bits_and127]; omega
      have HRV := hide hrv'
      have HV := hide hv'
      clear hrv hrv' hv hv' HCX hr
      by_cases h9 : k = 9
      · subst h9
        by_cases hc1 : 1 < c.toNat
        · have g1 : (1 : Int) < c.toNat := by omega
          have hbad : badB 9 c.toNat = true := by simp [badB]; omega
          have hR : rvF 0 0 (bs.drop a) = (11, 0, 0) := by rw [unhide HRV, rvF_bad _ _ _ _ hbad]
          obtain ⟨e1, e2, e3⟩ := unhide HF _ hR
          simp only [if_neg (show ¬ (11 : Nat) = 0 by omega)] at e2 e3
          have e2' : ((readV bs (a : Nat) : Nat) : Int) = 0 := by rw [e2]; rfl
          have E1 := hide e1
          have E2 := hide e2'
          have E3 := hide e3
          clear e1 e2 e2' e3 hR HF HRV hbad
          go_wp2
          go_ret3
          exact ⟨by rw [unhide E1, unhide E2, unhide E3]; rfl, rfl⟩
        · have g1 : decide ((1 : Int) < c.toNat) = false := by simp; omega
          by_cases hz : c.toNat = 0
          · have g2 : ((c.toNat : Int) == 0) = true := by simp; omega
            have hbad : badB 9 c.toNat = true := by simp [badB]; omega
            have hR : rvF 0 0 (bs.drop a) = (11, 0, 0) := by rw [unhide HRV, rvF_bad _ _ _ _ hbad]
            obtain ⟨e1, e2, e3⟩ := unhide HF _ hR
            simp only [if_neg (show ¬ (11 : Nat) = 0 by omega)] at e2 e3
            have e2' : ((readV bs (a : Nat) : Nat) : Int) = 0 := by rw [e2]; rfl
            have E1 := hide e1
            have E2 := hide e2'
            have E3 := hide e3
            clear e1 e2 e2' e3 hR HF HRV hbad
            go_wp2
            go_ret3
            exact ⟨by rw [unhide E1, unhide E2, unhide E3]; rfl, rfl⟩
          · have g2 : ((c.toNat : Int) == 0) = false := by simp; omega
            have hbad : badB 9 c.toNat = false := by simp [badB]; omega
            have hlt : (c.toNat : Int) < 128 := by omega
            have HB := hide (rv_bits9 v c (unhide HV) hbad)
            have hR : rvF 0 0 (bs.drop a) = (0, v + c.toNat % 128 * 128 ^ 9, 9 + 1) := by rw [unhide HRV, rvF_last _ _ _ _ hbad (by omega)]
            obtain ⟨e1, e2, e3⟩ := unhide HF _ hR
            simp only [if_true] at e2 e3
            have E1 := hide e1
            have E2 := hide e2
            have E3 := hide e3
            clear e1 e2 e3 hR HF HRV hbad HV
            go_wp2
            go_ret3
            refine ⟨?_, rfl⟩
            rw [unhide E1, unhide E2, unhide E3]
            refine ret3 ?_ ?_
            · exact unhide HB
            · omega
      · have g9 : ((k : Int) == 9) = false := by simp; omega
        by_cases hk0 : 0 < k
        · have g0 : (0 : Int) < k := by omega
          by_cases hz : c.toNat = 0
          · have g2 : ((c.toNat : Int) == 0) = true := by simp; omega
            have hbad : badB k c.toNat = true := by simp [badB]; omega
            have hR : rvF 0 0 (bs.drop a) = (11, 0, 0) := by rw [unhide HRV, rvF_bad _ _ _ _ hbad]
            obtain ⟨e1, e2, e3⟩ := unhide HF _ hR
            simp only [if_neg (show ¬ (11 : Nat) = 0 by omega)] at e2 e3
            have e2' : ((readV bs (a : Nat) : Nat) : Int) = 0 := by rw [e2]; rfl
            have E1 := hide e1
            have E2 := hide e2'
            have E3 := hide e3
            clear e1 e2 e2' e3 hR HF HRV hbad
            go_wp2
            go_ret3
            exact ⟨by rw [unhide E1, unhide E2, unhide E3]; rfl, rfl⟩
          · have g2 : ((c.toNat : Int) == 0) = false := by simp; omega
            by_cases hm : 128 ≤ c.toNat
            · have hbad : badB k c.toNat = false := by simp [badB]; omega
              have hge : ¬ (c.toNat : Int) < 128 := by omega
              have HB := hide (rv_bits k v c (by omega) (unhide HV) hbad)
              have HR := hide ((unhide HRV).trans (rvF_more _ _ _ _ hbad (by omega)))
              have HN := hide (pow_next k v c (unhide HV))
              clear hbad HF HRV HV
              go_wp2
              go_round
              case rel => exact ⟨k + 1, v + c.toNat % 128 * 128 ^ k, by omega, by go_num, by rw [← unhide HB], unhide HN, by unfold Hid; rw [unhide HR, ← unhide HRR]⟩
              case measure => simp [intOf]; omega
            · have hbad : badB k c.toNat = false := by simp [badB]; omega
              have hlt : (c.toNat : Int) < 128 := by omega
              have HB := hide (rv_bits k v c (by omega) (unhide HV) hbad)
              have hR : rvF 0 0 (bs.drop a) = (0, v + c.toNat % 128 * 128 ^ k, k + 1) := by rw [unhide HRV, rvF_last _ _ _ _ hbad (by omega)]
              obtain ⟨e1, e2, e3⟩ := unhide HF _ hR
              simp only [if_true] at e2 e3
              have E1 := hide e1
              have E2 := hide e2
              have E3 := hide e3
              clear e1 e2 e3 hR HF HRV hbad HV
              go_wp2
              go_ret3
              refine ⟨?_, rfl⟩
              rw [unhide E1, unhide E2, unhide E3]
              refine ret3 ?_ ?_
              · exact unhide HB
              · omega
        · obtain rfl : k = 0 := by omega
          rw [Nat.add_zero] at hcell
          by_cases hm : 128 ≤ c.toNat
          · have hbad : badB 0 c.toNat = false := by simp [badB]
            have hge : ¬ (c.toNat : Int) < 128 := by omega
            have HB := hide (rv_bits0 v c (unhide HV) hbad)
            have HR := hide ((unhide HRV).trans (rvF_more _ _ _ _ hbad (by omega)))
            have HN := hide (pow_next 0 v c (unhide HV))
            clear hbad HF HRV HV
            go_wp2
            go_round
            case rel => exact ⟨0 + 1, v + c.toNat % 128 * 128 ^ 0, by omega, by go_num, by rw [← unhide HB], unhide HN, by unfold Hid; rw [unhide HR, ← unhide HRR]⟩
            case measure => simp [intOf]
          · have hbad : badB 0 c.toNat = false := by simp [badB]
            have hlt : (c.toNat : Int) < 128 := by omega
            have HB := hide (rv_bits0 v c (unhide HV) hbad)
            have hR : rvF 0 0 (bs.drop a) = (0, v + c.toNat % 128 * 128 ^ 0, 0 + 1) := by rw [unhide HRV, rvF_last _ _ _ _ hbad (by omega)]
            obtain ⟨e1, e2, e3⟩ := unhide HF _ hR
            simp only [if_true] at e2 e3
            have E1 := hide e1
            have E2 := hide e2
            have E3 := hide e3
            clear e1 e2 e3 hR HF HRV hbad HV
            go_wp2
            go_ret3
            refine ⟨?_, rfl⟩
            rw [unhide E1, unhide E2, unhide E3]
            refine ret3 ?_ ?_
            · exact unhide HB
            · omega

theorem rrv_any (s : Value) (bs : List UInt8) (a : Int) (w : World) (hs : Row w s bs) (hroom : bs.length ≤ 140737488351232) :
    Calls Try.prog 56 #[s, .int .i64 a] w fun e w' => e = .returned (.tuple #[.int .u64 (readV bs a : Nat), .int .i64 (readN bs a), .int .i64 (readE bs a)]) ∧ w' = w := by
  by_cases h0 : a < 0
  · refine (rrv_neg s a w h0).mono ?_
    rintro e w' ⟨rfl, rfl⟩
    refine ⟨?_, rfl⟩
    unfold readV readN readE
    rw [if_pos h0, if_pos h0, if_pos h0]
    rfl
  · obtain ⟨k, rfl⟩ := Int.eq_ofNat_of_zero_le (show 0 ≤ a by omega)
    by_cases h1 : k < bs.length
    · exact rrv_in s bs k w hs hroom h1
    · have hd : rvF 0 0 (bs.drop k) = (10, 0, 0) := by rw [List.drop_of_length_le (by omega)]; rfl
      obtain ⟨e1, e2, e3⟩ := read_of bs k _ hd
      rw [e1, e2, e3]
      obtain ⟨p, cap, rfl, hc1, hc2, hc3, _⟩ := hs
      refine (rrv_past p bs.length cap k w (by omega)).mono ?_
      rintro e w' ⟨rfl, rfl⟩
      exact ⟨rfl, rfl⟩

end Go.Proofs.Ytpkpjmebkikgdaa

/- What the reference's Zero does: the same as the program's. -/
namespace Go.Proofs.Ytpkpjmebkikgdaa
open Go.RowKit

theorem rzero_any (s : Value) (bs : List UInt8) (w : World) (h : Row w s bs) :
    Calls Try.prog 38 #[s] w fun e w' => e = .returned (.bool (bs.all (· == 0))) ∧ w' = w := by
  by_cases h0 : bs = []
  · subst h0
    obtain ⟨p, c, l, rfl, hl⟩ := h.shape
    simp only [List.length_nil] at hl
    subst hl
    clear h
    go_enter Try.func38, Try.ntmps38
    go_wp2
    refine wp_loop_rounds 1 ?_
    rw [rounds_succ]
    go_wp2
    go_ret
    exact ⟨rfl, rfl⟩
  · obtain ⟨b, off, c, rfl, hc1, hm1, hcell⟩ := h.open h0
    unfold maxLen at hm1
    have HC := hide hcell
    clear h hcell
    go_enter Try.func38, Try.ntmps38
    go_wp2
    go_loop [3] (fun i => ∃ k : Nat, k ≤ bs.length ∧ i = .int .i64 k ∧ Hid (∀ j (h : j < bs.length), j < k → bs[j] = 0)) (fun i => bs.length - (intOf i).toNat)
    case atStart => exact ⟨0, Nat.zero_le _, rfl, fun j _ hj => absurd hj (by omega)⟩
    case round =>
      obtain ⟨k, hk, rfl, hz⟩ := hrel
      by_cases hlt : k < bs.length
      · have hck : w.cell? ⟨b, off + k, none⟩ = some (.int .u8 (bs[k].toNat : Int)) := unhide HC k hlt
        by_cases hb0 : bs[k] = 0
        · have hd : ((bs[k].toNat : Int) != 0) = false := by rw [hb0]; rfl
          have HB := hide hb0
          clear hb0
          go_wp2
          go_round
          case rel =>
            refine ⟨k + 1, by omega, by go_num, fun j hj hjk => ?_⟩
            by_cases hje : j = k
            · subst hje; exact unhide HB
            · exact hz.out j hj (by omega)
          case measure => simp [intOf]; omega
        · have hd : ((bs[k].toNat : Int) != 0) = true := by
            rw [bne, beq_byte]; simp [hb0]
          have HB := hide (not_all_zero bs k hlt hb0)
          clear hb0
          go_wp2
          go_ret
          exact ⟨by rw [unhide HB]; rfl, rfl⟩
      · have HB := hide (all_zero bs (fun j hj => hz.out j hj (by omega)))
        have hkn : k = bs.length := by omega
        subst hkn
        go_wp2
        go_ret
        exact ⟨by rw [unhide HB]; rfl, rfl⟩
end Go.Proofs.Ytpkpjmebkikgdaa
