/- Texts of ours, one behind the other: BatWr4, BatLaw1, BatRef4, BatRef5. -/
import Derived.Test.YtpampknbbpjkiaaG9
import Derived.Test.YtpampknbbpjkiaaG13
import Derived.Test.YtpampknbbpjkiaaG14
import Derived.BigQuiet
/- The landed package batch: Write. -/
namespace Go.Proofs.Ytpampknbbpjkiaa
open Go.RowKit

theorem MapIs.lookOne {P : Program} {k t e : TypeId} {w : World} {b n : Nat} {f : Int → Option Value} (h : MapIs P k w b n f) (hk : P.underlying k = some (.int .i64)) (ht : P.underlying t = some (.map k e)) {z : Value} (hz : (zeroValue e).run P w = .ok z w)
    (a : Int) (ha : (Lit.int .i64 a).wf = true) : (Instr.lookup t (.map (some b)) (.int .i64 a) false).run P w = .ok ((f a).getD z) w := by
  obtain ⟨D, h1, h2, h3⟩ := h
  obtain ⟨v, ps, hr, hv⟩ := h1.lookup (Maps.int_keyed hk) ht hz (zd := .held z) (zp := []) rfl (key := .int .i64 a) (kl := .int .i64 a) (by simp [keyOf, mapKey, hk, ha])
  rw [(h3 a).2 z] at hv
  simp only [heldR, Option.some.injEq, Prod.mk.injEq, DataW.held.injEq] at hv
  rw [hr, hv.1]
theorem get_1 {w1 : World} {g : Nat} (hm : MapIs Try.prog 3 w1 g 2 (fun x => if x = 2 then some kindV2 else if x = 1 then some kindV1 else none)) : (Instr.lookup 77 (.map (some g)) (.int .i64 1) false).run Try.prog w1 = .ok (.agg #[.func (.func 64) #[] #[], .func (.func 65) #[] #[], .func (.func 66) #[] #[]]) w1 := by
  rw [hm.lookOne (t := 77) (e := 76) Try.underlying3 Try.underlying77 (zero_kind w1) 1 rfl]
  rfl
theorem get_2 {w1 : World} {g : Nat} (hm : MapIs Try.prog 3 w1 g 2 (fun x => if x = 2 then some kindV2 else if x = 1 then some kindV1 else none)) : (Instr.lookup 77 (.map (some g)) (.int .i64 2) false).run Try.prog w1 = .ok (.agg #[.func (.func 67) #[] #[], .func (.func 68) #[] #[], .func (.func 69) #[] #[]]) w1 := by
  rw [hm.lookOne (t := 77) (e := 76) Try.underlying3 Try.underlying77 (zero_kind w1) 2 rfl]
  rfl

theorem fld_1 (W : World) : (Instr.field 76 (.agg #[.func (.func 64) #[] #[], .func (.func 65) #[] #[], .func (.func 66) #[] #[]]) 1).run Try.prog W = .ok (.func (.func 65) #[] #[]) W := by kernel_rfl
theorem fld_2 (W : World) : (Instr.field 76 (.agg #[.func (.func 67) #[] #[], .func (.func 68) #[] #[], .func (.func 69) #[] #[]]) 1).run Try.prog W = .ok (.func (.func 68) #[] #[]) W := by kernel_rfl

set_option maxRecDepth 20000 in
set_option maxHeartbeats 2000000 in
theorem bwrite_no (r : Rcd) (v : Value) (w : World) (hl : CL w v r.chg) (hk0 : -9223372036854775808 ≤ r.kind) (hk1 : r.kind ≤ 9223372036854775807) (hm : mayRcd r = false) :
    Calls Try.prog 20 #[.agg (rcdA r v)] w fun e w' => e = .returned (.tuple #[.slice none 0 0, .int .i64 11]) ∧ Below w.heap.size w w' := by
  have hb := fun o => (Below.refl w.heap.size w).alloc (Nat.le_refl _) o
  have HM := hide (fun o => bmay_any r v (w.alloc o) (hl.below (hb o)) hk0 hk1)
  rw [hm] at HM
  have HB := hide hb
  obtain ⟨p, c, rfl, _⟩ := KRow.shape hl
  unfold rcdA at *
  clear hb hm hl
  go_enter Try.func20, Try.ntmps20
  go_wp2_with fail
  refine Calls.mono (unhide HM _) ?_
  rintro e w1 ⟨rfl, b1⟩
  have HB1 := hide ((unhide HB _).trans (b1.mono (unhide HB _).size))
  clear b1
  go_wp2
  go_ret2
  exact ⟨rfl, unhide HB1⟩

set_option maxRecDepth 20000 in
set_option maxHeartbeats 4000000 in
theorem bwrite_bat (r : Rcd) (v : Value) (w : World) (hl : CL w v r.chg) (hk : r.kind = 1) (hm : mayRcd r = true) (h64 : ∀ c ∈ r.chg, c.ser < 18446744073709551616) (hs64 : r.seq < 18446744073709551616) :
    Calls Try.prog 20 #[.agg (rcdA r v)] w fun e w' => ∃ t, e = .returned (.tuple #[t, .int .i64 0]) ∧ w'.ownsRow w.heap.size 5 1 t (rcdB r).length ((rcdB r).map B) ∧ Below w.heap.size w w' := by
  obtain ⟨i0, hi, hz0, hz1, hz2⟩ := info_parts Try.info5
  obtain ⟨p, c, rfl, _⟩ := KRow.shape hl
  have hb := fun o => (Below.refl w.heap.size w).alloc (Nat.le_refl _) o
  have HM := hide (fun o => bmay_any r _ (w.alloc o) (hl.below (hb o)) (by omega) (by omega))
  have hmb : mayBat r = true := by simpa [mayRcd, hk] using hm
  have hrb : rcdB r = 1 :: batB r := by simp [rcdB, hk]
  rw [hrb]
  have hmc : (∀ c ∈ r.chg, mayChg c = true) ∧ r.chg.length ≤ 32 := by
    simp only [mayBat, Bool.and_eq_true, decide_eq_true_eq, riseB] at hmb
    refine ⟨fun c hc => ?_, hmb.1.1.2.2⟩
    obtain ⟨i, hi, rfl⟩ := List.getElem_of_mem hc
    exact (hmb.1.2 i hi).1
  have HW := hide (fun w' (hb : Below w.heap.size w w') => batbytes_any r _ w' (hl.below hb) hmc.1 h64 hs64 hmc.2)
  have hbl : (batB r).length ≤ 20 + 32 * 110 := by
    have := flat_chgB_len r.chg (fun c hc => mayChg_key (hmc.1 c hc))
    have h2 := (varF_len 9 r.seq).2
    have h3 := (varF_len 9 r.chg.length).2
    have h4 := hmc.2
    unfold batB
    rw [List.length_append, List.length_append]
    omega
  rw [hm] at HM
  have HB := hide hb
  generalize batB r = BB at *
  unfold rcdA at *
  obtain ⟨kind, seq, l, mser, frm, to, n⟩ := r
  simp only at *
  subst hk
  clear hb hm hl hmb hrb hmc h64 hs64
  have HNB := hide (fun o => alloc_new w o)
  go_enter Try.func20, Try.ntmps20
  go_wp2_with fail
  refine Calls.mono (unhide HM _) ?_
  rintro e w1 ⟨rfl, b1⟩
  have hB1 := (unhide HB _).trans (b1.mono (unhide HB _).size)
  have hblk1 := (b1.block w.heap.size (Array.getElem?_eq_some_iff.1 (unhide HNB _)).1).trans (unhide HNB _)
  clear b1 HM HNB HB
  obtain ⟨d0, d1, d2, d3, d4, d5, d6⟩ := seven_cells (w := w1.drew) hblk1
  have hfd := fld_1
  have HK := hide (kinds_any w1.drew)
  have hsd : w1.drew.heap.size = w1.heap.size := rfl
  rw [hsd] at HK
  have HBS := hide hblk1
  have HB1 := hide (hB1.drew)
  clear hsd hblk1 hB1
  go_wp2_with fail
  go_region_held3 (fun w' => w'.cell? ⟨w.heap.size, 0, none⟩ = some (.int .i64 1) ∧ w'.cell? ⟨w.heap.size, 1, none⟩ = some (.int .u64 (seq : Int)) ∧ w'.cell? ⟨w.heap.size, 2, none⟩ = some (.slice p l.length c) ∧ w'.cell? ⟨w.heap.size, 3, none⟩ = some (.int .u64 (mser : Int)) ∧ w'.cell? ⟨w.heap.size, 4, none⟩ = some (.int .i64 frm) ∧ w'.cell? ⟨w.heap.size, 5, none⟩ = some (.int .i64 to) ∧ w'.cell? ⟨w.heap.size, 6, none⟩ = some (.int .i64 n)) (first | assumption | go_keep)
    (first
      | (go_at_call 46; refine Calls.mono (unhide HK) ?_; rintro x w2 ⟨rfl, hm2, b2⟩; have hblk2 := (b2.block w.heap.size (Array.getElem?_eq_some_iff.1 (unhide HBS)).1).trans (unhide HBS); have hk2 : w2.cell? ⟨w.heap.size, 0, none⟩ = some (.int .i64 1) ∧ w2.cell? ⟨w.heap.size, 1, none⟩ = some (.int .u64 (seq : Int)) ∧ w2.cell? ⟨w.heap.size, 2, none⟩ = some (.slice p l.length c) ∧ w2.cell? ⟨w.heap.size, 3, none⟩ = some (.int .u64 (mser : Int)) ∧ w2.cell? ⟨w.heap.size, 4, none⟩ = some (.int .i64 frm) ∧ w2.cell? ⟨w.heap.size, 5, none⟩ = some (.int .i64 to) ∧ w2.cell? ⟨w.heap.size, 6, none⟩ = some (.int .i64 n) := seven_cells hblk2; have hlk := get_1 hm2; have HB2 := hide ((unhide HB1).trans (b2.mono (unhide HB1).size)); have HBL2 := hide hblk2; clear b2 hm2 hblk2)
      | (go_at_call 65; refine Calls.mono (unhide HW w2 (unhide HB2)) ?_; rintro x w3 ⟨t3, rfl, hown3, b3⟩; have hblk3 := (b3.block w.heap.size (Array.getElem?_eq_some_iff.1 (unhide HBL2)).1).trans (unhide HBL2); have hk3 : w3.cell? ⟨w.heap.size, 0, none⟩ = some (.int .i64 1) ∧ w3.cell? ⟨w.heap.size, 1, none⟩ = some (.int .u64 (seq : Int)) ∧ w3.cell? ⟨w.heap.size, 2, none⟩ = some (.slice p l.length c) ∧ w3.cell? ⟨w.heap.size, 3, none⟩ = some (.int .u64 (mser : Int)) ∧ w3.cell? ⟨w.heap.size, 4, none⟩ = some (.int .i64 frm) ∧ w3.cell? ⟨w.heap.size, 5, none⟩ = some (.int .i64 to) ∧ w3.cell? ⟨w.heap.size, 6, none⟩ = some (.int .i64 n) := seven_cells hblk3; have HB3 := hide ((unhide HB2).trans (b3.mono (unhide HB2).size)); have HO3 := hide hown3; obtain ⟨q3, c3, l3, rfl, rfl⟩ := (row_of_owns hown3).shape; clear b3 hown3 hblk3))
  obtain ⟨e0, _⟩ := hk3
  have hbs : Below w3.heap.size w3 (w3.alloc (.cells #[.int .u8 ((1 : UInt8).toNat : Int)] 5)) := (Below.refl _ _).alloc (Nat.le_refl _) _
  have hB4 := (unhide HB3).trans (hbs.mono (unhide HB3).size)
  have hr4 := (row_of_owns (unhide HO3)).below hbs
  have hown4 := owns_of_block (base := w.heap.size) (bs := [1]) (e := 5) (w := w3.alloc (.cells #[.int .u8 ((1 : UInt8).toNat : Int)] 5)) (g := w3.heap.size) (alloc_new _ _) (unhide HB3).size (by unfold maxLen; simp)
  simp only [show ((1 : UInt8).toNat : Int) = 1 from rfl, List.length_cons, List.length_nil, Nat.zero_add] at hB4 hr4 hown4
  have hsz4 := hB4.size
  clear hbs HB1 HB2 HB3 HO3 HW HK HBS HBL2 hlk hfd d0 d1 d2 d3 d4 d5 d6 hk2
  go_wp2_with (at_builtin; refine wpList_append_row rfl _ _ 30 rfl w.heap.size 5 i0 (.int .u8 0) Try.underlying30 hi hz0 hz1 hz2 rfl _ _ _ rfl hown4 _ BB rfl hr4 (by omega) hsz4 ?_)
  intro v5 w5 hown5 hgrow5
  have HB5 : Hid (Below w.heap.size w w5) := hB4.grown hgrow5 hsz4 (fun k hk => (hown4.lt k hk).1)
  have HO5 := hide hown5
  clear hown5 hgrow5 hown4 hB4 hr4
  go_wp2
  go_ret2
  refine ⟨_, rfl, ?_, unhide HB5⟩
  have h8 := unhide HO5
  rw [Nat.add_comm] at h8
  exact h8
set_option maxRecDepth 20000 in
set_option maxHeartbeats 4000000 in
theorem bwrite_mov (r : Rcd) (v : Value) (w : World) (hl : CL w v r.chg) (hk : r.kind = 2) (hm : mayRcd r = true) (h64 : r.mser < 18446744073709551616) :
    Calls Try.prog 20 #[.agg (rcdA r v)] w fun e w' => ∃ t, e = .returned (.tuple #[t, .int .i64 0]) ∧ w'.ownsRow w.heap.size 5 1 t (rcdB r).length ((rcdB r).map B) ∧ Below w.heap.size w w' := by
  obtain ⟨i0, hi, hz0, hz1, hz2⟩ := info_parts Try.info5
  obtain ⟨p, c, rfl, _⟩ := KRow.shape hl
  have hb := fun o => (Below.refl w.heap.size w).alloc (Nat.le_refl _) o
  have HM := hide (fun o => bmay_any r _ (w.alloc o) (hl.below (hb o)) (by omega) (by omega))
  have hmb : mayMov r = true := by simpa [mayRcd, hk] using hm
  have hrb : rcdB r = 2 :: movB r := by simp [rcdB, hk]
  rw [hrb]
  simp only [mayMov, Bool.and_eq_true, decide_eq_true_eq] at hmb
  obtain ⟨⟨⟨⟨⟨⟨z1, z2⟩, z3⟩, g1, g2⟩, g3, g4⟩, z4⟩, g5, g6⟩ := hmb
  have HW := hide (fun w' (_ : Below w.heap.size w w') => movbytes_any r (.slice p r.chg.length c) w' h64 g1 g2 g3 g4 (by omega) g6)
  have hbl : (movB r).length ≤ 40 := by
    have h1 := (varF_len 9 r.mser).2
    have h2 := (varF_len 9 r.frm.toNat).2
    have h3 := (varF_len 9 r.to.toNat).2
    have h4 := (varF_len 9 r.n.toNat).2
    unfold movB
    rw [List.length_append, List.length_append, List.length_append]
    omega
  clear g1 g2 g3 g4 g5 g6 z1 z2 z3 z4
  rw [hm] at HM
  have HB := hide hb
  generalize movB r = BB at *
  unfold rcdA at *
  obtain ⟨kind, seq, l, mser, frm, to, n⟩ := r
  simp only at *
  subst hk
  clear hb hm hl hrb h64
  have HNB := hide (fun o => alloc_new w o)
  go_enter Try.func20, Try.ntmps20
  go_wp2_with fail
  refine Calls.mono (unhide HM _) ?_
  rintro e w1 ⟨rfl, b1⟩
  have hB1 := (unhide HB _).trans (b1.mono (unhide HB _).size)
  have hblk1 := (b1.block w.heap.size (Array.getElem?_eq_some_iff.1 (unhide HNB _)).1).trans (unhide HNB _)
  clear b1 HM HNB HB
  obtain ⟨d0, d1, d2, d3, d4, d5, d6⟩ := seven_cells (w := w1.drew) hblk1
  have hfd := fld_2
  have HK := hide (kinds_any w1.drew)
  have hsd : w1.drew.heap.size = w1.heap.size := rfl
  rw [hsd] at HK
  have HBS := hide hblk1
  have HB1 := hide (hB1.drew)
  clear hsd hblk1 hB1
  go_wp2_with fail
  go_region_held3 (fun w' => w'.cell? ⟨w.heap.size, 0, none⟩ = some (.int .i64 2) ∧ w'.cell? ⟨w.heap.size, 1, none⟩ = some (.int .u64 (seq : Int)) ∧ w'.cell? ⟨w.heap.size, 2, none⟩ = some (.slice p l.length c) ∧ w'.cell? ⟨w.heap.size, 3, none⟩ = some (.int .u64 (mser : Int)) ∧ w'.cell? ⟨w.heap.size, 4, none⟩ = some (.int .i64 frm) ∧ w'.cell? ⟨w.heap.size, 5, none⟩ = some (.int .i64 to) ∧ w'.cell? ⟨w.heap.size, 6, none⟩ = some (.int .i64 n)) (first | assumption | go_keep)
    (first
      | (go_at_call 46; refine Calls.mono (unhide HK) ?_; rintro x w2 ⟨rfl, hm2, b2⟩; have hblk2 := (b2.block w.heap.size (Array.getElem?_eq_some_iff.1 (unhide HBS)).1).trans (unhide HBS); have hk2 : w2.cell? ⟨w.heap.size, 0, none⟩ = some (.int .i64 2) ∧ w2.cell? ⟨w.heap.size, 1, none⟩ = some (.int .u64 (seq : Int)) ∧ w2.cell? ⟨w.heap.size, 2, none⟩ = some (.slice p l.length c) ∧ w2.cell? ⟨w.heap.size, 3, none⟩ = some (.int .u64 (mser : Int)) ∧ w2.cell? ⟨w.heap.size, 4, none⟩ = some (.int .i64 frm) ∧ w2.cell? ⟨w.heap.size, 5, none⟩ = some (.int .i64 to) ∧ w2.cell? ⟨w.heap.size, 6, none⟩ = some (.int .i64 n) := seven_cells hblk2; have hlk := get_2 hm2; have HB2 := hide ((unhide HB1).trans (b2.mono (unhide HB1).size)); have HBL2 := hide hblk2; clear b2 hm2 hblk2)
      | (go_at_call 68; refine Calls.mono (unhide HW w2 (unhide HB2)) ?_; rintro x w3 ⟨t3, rfl, hown3, b3⟩; have hblk3 := (b3.block w.heap.size (Array.getElem?_eq_some_iff.1 (unhide HBL2)).1).trans (unhide HBL2); have hk3 : w3.cell? ⟨w.heap.size, 0, none⟩ = some (.int .i64 2) ∧ w3.cell? ⟨w.heap.size, 1, none⟩ = some (.int .u64 (seq : Int)) ∧ w3.cell? ⟨w.heap.size, 2, none⟩ = some (.slice p l.length c) ∧ w3.cell? ⟨w.heap.size, 3, none⟩ = some (.int .u64 (mser : Int)) ∧ w3.cell? ⟨w.heap.size, 4, none⟩ = some (.int .i64 frm) ∧ w3.cell? ⟨w.heap.size, 5, none⟩ = some (.int .i64 to) ∧ w3.cell? ⟨w.heap.size, 6, none⟩ = some (.int .i64 n) := seven_cells hblk3; have HB3 := hide ((unhide HB2).trans (b3.mono (unhide HB2).size)); have HO3 := hide hown3; obtain ⟨q3, c3, l3, rfl, rfl⟩ := (row_of_owns hown3).shape; clear b3 hown3 hblk3))
  obtain ⟨e0, _⟩ := hk3
  have hbs : Below w3.heap.size w3 (w3.alloc (.cells #[.int .u8 ((2 : UInt8).toNat : Int)] 5)) := (Below.refl _ _).alloc (Nat.le_refl _) _
  have hB4 := (unhide HB3).trans (hbs.mono (unhide HB3).size)
  have hr4 := (row_of_owns (unhide HO3)).below hbs
  have hown4 := owns_of_block (base := w.heap.size) (bs := [2]) (e := 5) (w := w3.alloc (.cells #[.int .u8 ((2 : UInt8).toNat : Int)] 5)) (g := w3.heap.size) (alloc_new _ _) (unhide HB3).size (by unfold maxLen; simp)
  simp only [show ((2 : UInt8).toNat : Int) = 2 from rfl, List.length_cons, List.length_nil, Nat.zero_add] at hB4 hr4 hown4
  have hsz4 := hB4.size
  clear hbs HB1 HB2 HB3 HO3 HW HK HBS HBL2 hlk hfd d0 d1 d2 d3 d4 d5 d6 hk2
  go_wp2_with (at_builtin; refine wpList_append_row rfl _ _ 30 rfl w.heap.size 5 i0 (.int .u8 0) Try.underlying30 hi hz0 hz1 hz2 rfl _ _ _ rfl hown4 _ BB rfl hr4 (by omega) hsz4 ?_)
  intro v5 w5 hown5 hgrow5
  have HB5 : Hid (Below w.heap.size w w5) := hB4.grown hgrow5 hsz4 (fun k hk => (hown4.lt k hk).1)
  have HO5 := hide hown5
  clear hown5 hgrow5 hown4 hB4 hr4
  go_wp2
  go_ret2
  refine ⟨_, rfl, ?_, unhide HB5⟩
  have h8 := unhide HO5
  rw [Nat.add_comm] at h8
  exact h8

/-- Write. -/
def wrE (b : Bool) : Int := if b then 0 else 11
noncomputable def wrB (r : Rcd) : List UInt8 := if mayRcd r then rcdB r else []
def Rcd.ok (r : Rcd) : Prop := -9223372036854775808 ≤ r.kind ∧ r.kind ≤ 9223372036854775807 ∧ r.seq < 18446744073709551616 ∧ (∀ c ∈ r.chg, c.ok) ∧ r.mser < 18446744073709551616 ∧ -9223372036854775808 ≤ r.frm ∧ r.frm ≤ 9223372036854775807 ∧ -9223372036854775808 ≤ r.to ∧ r.to ≤ 9223372036854775807 ∧ -9223372036854775808 ≤ r.n ∧ r.n ≤ 9223372036854775807
theorem bwrite_any (r : Rcd) (v : Value) (w : World) (hl : CL w v r.chg) (ho : r.ok) :
    Calls Try.prog 20 #[.agg (rcdA r v)] w fun e w' => ∃ t, e = .returned (.tuple #[t, .int .i64 (wrE (mayRcd r))]) ∧ w'.ownsRow w.heap.size 5 1 t (wrB r).length ((wrB r).map B) ∧ Below w.heap.size w w' := by
  obtain ⟨k0, k1, s64, c64, m64, _⟩ := ho
  unfold wrB wrE
  cases hm : mayRcd r with
  | false =>
    refine (bwrite_no r v w hl k0 k1 hm).mono ?_
    rintro e w' ⟨rfl, hb⟩
    exact ⟨_, rfl, World.ownsRow_nil _ _ _ _, hb⟩
  | true =>
    by_cases h1 : r.kind = 1
    · exact bwrite_bat r v w hl h1 hm (fun c hc => (c64 c hc).2.1) s64
    · by_cases h2 : r.kind = 2
      · exact bwrite_mov r v w hl h2 hm m64
      · simp [mayRcd, h1, h2] at hm
end Go.Proofs.Ytpampknbbpjkiaa

/- The statements of layer 10: awake. -/
namespace Go.Proofs.Ytpampknbbpjkiaa
open Go.RowKit

set_option maxRecDepth 20000 in
theorem bcheck_nil (w : World) : Calls Try.prog 12 #[.slice none 0 0] w fun e w' => e = .returned (.int .i64 1) ∧ w' = w := by
  go_enter Try.func12, Try.ntmps12
  go_wp2
  go_ret
  exact ⟨rfl, rfl⟩

def awR : Rcd := ⟨2, 0, [], 5, 9, 2, 3⟩
theorem aw_may : mayRcd awR = true := by simp [mayRcd, awR, mayMov]
theorem aw_len : (wrB awR).length = 5 := by
  unfold wrB
  rw [aw_may]
  decide
set_option maxRecDepth 20000 in
theorem bawake_any (w : World) : Calls Try.prog 11 #[] w fun e w' => e = .returned (.bool true) ∧ Below w.heap.size w w' := by
  have HW := hide (bwrite_any awR (.slice none 0 0) w (CL.nil w) (by unfold Rcd.ok awR; simp))
  rw [aw_may, aw_len] at HW
  unfold rcdA awR wrE at HW
  simp only [if_true, Int.natCast_zero] at HW
  go_enter Try.func11, Try.ntmps11
  go_wp2_with fail
  refine Calls.mono (unhide HW) ?_
  rintro e w1 ⟨t, rfl, hown, hb⟩
  have hsh : ∃ p c, t = .slice p 5 c := by
    rcases hown.2 with ⟨rfl, h⟩ | ⟨g, cap, cur, rfl, _⟩
    · cases h
    · exact ⟨_, _, rfl⟩
  obtain ⟨p, c, rfl⟩ := hsh
  have HB := hide hb
  clear hown hb HW
  go_wp2_with (first | (go_at_call 12; refine Calls.mono (bcheck_nil _) ?_; rintro e w2 ⟨rfl, rfl⟩))
  go_ret
  exact ⟨rfl, unhide HB⟩
end Go.Proofs.Ytpampknbbpjkiaa

/- The reference of layer 10: Write. -/
namespace Go.Proofs.Ytpampknbbpjkiaa
open Go.RowKit

set_option maxRecDepth 20000 in
set_option maxHeartbeats 2000000 in
theorem rwrite_no (r : Rcd) (v : Value) (w : World) (hl : CL w v r.chg) (hm : mayRcd r = false) :
    Calls Try.prog 21 #[.agg (rcdA r v)] w fun e w' => e = .returned (.tuple #[.slice none 0 0, .int .i64 11]) ∧ Below w.heap.size w w' := by
  have hb := fun o => (Below.refl w.heap.size w).alloc (Nat.le_refl _) o
  have HM := hide (fun o => rmay10_any r v (w.alloc o) (hl.below (hb o)))
  rw [hm] at HM
  have HB := hide hb
  obtain ⟨p, c, rfl, _⟩ := KRow.shape hl
  unfold rcdA at *
  clear hb hm hl
  go_enter Try.func21, Try.ntmps21
  go_wp2_with fail
  refine Calls.mono (unhide HM _) ?_
  rintro e w1 ⟨rfl, b1⟩
  have HB1 := hide ((unhide HB _).trans (b1.mono (unhide HB _).size))
  clear b1
  go_wp2
  go_ret2
  exact ⟨rfl, unhide HB1⟩

set_option maxRecDepth 20000 in
set_option maxHeartbeats 4000000 in
theorem rwrite_mov (r : Rcd) (v : Value) (w : World) (hl : CL w v r.chg) (hk : r.kind = 2) (hm : mayRcd r = true) (h64 : r.mser < 18446744073709551616) :
    Calls Try.prog 21 #[.agg (rcdA r v)] w fun e w' => ∃ t, e = .returned (.tuple #[t, .int .i64 0]) ∧ w'.ownsRow w.heap.size 5 1 t (rcdB r).length ((rcdB r).map B) ∧ Below w.heap.size w w' := by
  obtain ⟨i0, hi, hz0, hz1, hz2⟩ := info_parts Try.info5
  obtain ⟨p, c, rfl, _⟩ := KRow.shape hl
  have hb := fun o => (Below.refl w.heap.size w).alloc (Nat.le_refl _) o
  have HM := hide (fun o => rmay10_any r _ (w.alloc o) (hl.below (hb o)))
  have hmb : mayMov r = true := by simpa [mayRcd, hk] using hm
  have hrb : rcdB r = 2 :: movB r := by simp [rcdB, hk]
  rw [hrb]
  rw [hm] at HM
  have HB := hide hb
  unfold rcdA at *
  obtain ⟨kind, seq, l, mser, frm, to, n⟩ := r
  simp only [mayMov, Bool.and_eq_true, decide_eq_true_eq] at *
  obtain ⟨⟨⟨⟨⟨⟨z1, z2⟩, z3⟩, g1, g2⟩, g3, g4⟩, z4⟩, g5, g6⟩ := hmb
  subst hk
  obtain ⟨F, rfl⟩ : ∃ F : Nat, frm = F := ⟨frm.toNat, by omega⟩
  obtain ⟨T, rfl⟩ : ∃ T : Nat, to = T := ⟨to.toNat, by omega⟩
  obtain ⟨M, rfl⟩ : ∃ M : Nat, n = M := ⟨n.toNat, by omega⟩
  have u1 : IntKind.u64.wrap (F : Int) = F := by rw [IntKind.wrap_u64]; omega
  have u2 : IntKind.u64.wrap (T : Int) = T := by rw [IntKind.wrap_u64]; omega
  have u3 : IntKind.u64.wrap (M : Int) = M := by rw [IntKind.wrap_u64]; omega
  have hnb : numsB [mser, F, T, M] = movB ⟨2, seq, l, mser, F, T, M⟩ := by simp [numsB, movB]
  have HNS : Hid (∀ x ∈ [mser, F, T, M], x < 18446744073709551616) := by
    intro x hx
    simp only [List.mem_cons, List.not_mem_nil, or_false] at hx
    rcases hx with rfl | rfl | rfl | rfl
    · exact h64
    · omega
    · omega
    · omega
  have hnl := numsB_len [mser, F, T, M]
  rw [hnb] at hnl
  simp only [List.length_cons, List.length_nil] at hnl
  have HNA := hide (fun v W hul => rnums_any v [mser, F, T, M] W hul (unhide HNS) (by simp))
  rw [hnb] at HNA
  generalize movB ⟨2, seq, l, mser, F, T, M⟩ = BB at *
  have HNB := hide (fun o => alloc_new w o)
  clear hb hm hl hrb h64 z1 z2 z3 z4 g1 g2 g3 g4 g5 g6 hnb HNS
  go_enter Try.func21, Try.ntmps21
  go_wp2_with fail
  refine Calls.mono (unhide HM _) ?_
  rintro e w1 ⟨rfl, b1⟩
  have hB1 := (unhide HB _).trans (b1.mono (unhide HB _).size)
  have hblk1 := (b1.block w.heap.size (Array.getElem?_eq_some_iff.1 (unhide HNB _)).1).trans (unhide HNB _)
  have hlt1 := (Array.getElem?_eq_some_iff.1 hblk1).1
  obtain ⟨d0, d1, d2, d3, d4, d5, d6⟩ := seven_cells hblk1
  have n1 : ¬ w.heap.size = w1.heap.size := by omega
  have n2 : ¬ w1.heap.size = w.heap.size := by omega
  have hs1 := hB1.size
  have hbs : ∀ o o2, Below w1.heap.size w1 ((w1.alloc o).alloc o2) := fun o o2 => ((Below.refl _ _).alloc (Nat.le_refl _) _).alloc (by simp) _
  have hul : ∀ o, UL ((w1.alloc o).alloc (.cells #[.int .u64 (mser : Int), .int .u64 (F : Int), .int .u64 (T : Int), .int .u64 (M : Int)] 34)) (.slice (some ⟨w1.heap.size + 1, 0, none⟩) 4 4) [mser, F, T, M] := fun o => ul_of (l := [mser, F, T, M]) (e := 34) (alloc_new' (by simp) _) (by simp)
  have HN := hide (fun o => unhide HNA _ _ (hul o))
  have HBS := hide hbs
  have HO2 : Hid (∀ o2, ((w1.alloc (.cells #[.int .u8 ((2 : UInt8).toNat : Int)] 5)).alloc o2).ownsRow w.heap.size 5 1 (.slice (some ⟨w1.heap.size, 0, none⟩) 1 1) 1 [B 2]) := fun o2 => owns_of_block (base := w.heap.size) (bs := [2]) (e := 5) (g := w1.heap.size) ((alloc_old (by simp) o2).trans (alloc_new _ _)) hs1 (by unfold maxLen; simp)
  rw [show ((2 : UInt8).toNat : Int) = 2 from rfl] at HO2
  have HB1 := hide hB1
  clear b1 HM HNB HB HNA hblk1 hul hbs hB1
  go_wp2_with fail
  refine Calls.mono (unhide HN _) ?_
  rintro e w2 ⟨t2, rfl, hown2, hb2⟩
  have hr2 := row_of_owns hown2
  obtain ⟨q2, c2, l2, rfl, rfl⟩ := hr2.shape
  have hB2 := (unhide HB1).trans (((unhide HBS _ _).trans (hb2.mono (unhide HBS _ _).size)).mono hs1)
  have hown3 := owns_below (unhide HO2 _) hb2
  have hsz2 := hB2.size
  clear hown2 hb2 HN HBS HO2 HB1
  go_wp2_with (at_builtin; refine wpList_append_row rfl _ _ 30 rfl w.heap.size 5 i0 (.int .u8 0) Try.underlying30 hi hz0 hz1 hz2 rfl _ _ _ rfl hown3 _ BB rfl hr2 (by omega) hsz2 ?_)
  intro v5 w5 hown5 hgrow5
  have HB5 : Hid (Below w.heap.size w w5) := hB2.grown hgrow5 hsz2 (fun k hk => (hown3.lt k hk).1)
  have HO5 := hide hown5
  clear hown5 hgrow5 hown3 hB2 hr2
  go_wp2
  go_ret2
  refine ⟨_, rfl, ?_, unhide HB5⟩
  have h8 := unhide HO5
  rw [Nat.add_comm] at h8
  exact h8
end Go.Proofs.Ytpampknbbpjkiaa

/- The reference of layer 10: Write of a batch. -/
namespace Go.Proofs.Ytpampknbbpjkiaa
open Go.RowKit

theorem own_type {w : World} {base e sz : Nat} {v : Value} {n : Nat} {xs : List Value} (h : w.ownsRow base e sz v n xs) {g e' : Nat} {cs : Array Value} (hg : w.heap[g]? = some (.cells cs e' (0, 0))) (hne : e ≠ e') : v.ownBlock ≠ some g := by
  intro hv
  rcases h.2 with ⟨rfl, _⟩ | ⟨g', cap, cur, rfl, _, hh, _⟩
  · cases hv
  · simp only [Value.ownBlock, Option.some.injEq] at hv
    subst hv
    rw [hh] at hg
    simp only [Option.some.injEq, Obj.cells.injEq] at hg
    exact hne hg.2.1

set_option maxRecDepth 20000 in
set_option maxHeartbeats 8000000 in
theorem rwrite_bat (r : Rcd) (v : Value) (w : World) (hl : CL w v r.chg) (hk : r.kind = 1) (hm : mayRcd r = true) (h64 : ∀ c ∈ r.chg, c.ser < 18446744073709551616) (hs64 : r.seq < 18446744073709551616) :
    Calls Try.prog 21 #[.agg (rcdA r v)] w fun e w' => ∃ t, e = .returned (.tuple #[t, .int .i64 0]) ∧ w'.ownsRow w.heap.size 5 1 t (rcdB r).length ((rcdB r).map B) ∧ Below w.heap.size w w' := by
  obtain ⟨i0, hi, hz0, hz1, hz2⟩ := info_parts Try.info5
  obtain ⟨p, c, rfl, _⟩ := KRow.shape hl
  have hb := fun o => (Below.refl w.heap.size w).alloc (Nat.le_refl _) o
  have HM := hide (fun o => rmay10_any r _ (w.alloc o) (hl.below (hb o)))
  have hmb : mayBat r = true := by simpa [mayRcd, hk] using hm
  have hrb : rcdB r = 1 :: batB r := by simp [rcdB, hk]
  rw [hrb]
  rw [hm] at HM
  have HB := hide hb
  unfold rcdA at *
  obtain ⟨kind, seq, l, mser, frm, to, n⟩ := r
  simp only at *
  subst hk
  have hmc : (∀ c ∈ l, mayChg c = true) ∧ l.length ≤ 32 := by
    simp only [mayBat, Bool.and_eq_true, decide_eq_true_eq, riseB] at hmb
    refine ⟨fun c hc => ?_, hmb.1.1.2.2⟩
    obtain ⟨i, hi, rfl⟩ := List.getElem_of_mem hc
    exact (hmb.1.2 i hi).1
  have HC : Hid (∀ w', Below w.heap.size w w' → ∀ k (hk : k < l.length), ∃ b off, p = some ⟨b, off, none⟩ ∧ w'.cell? ⟨b, off + k * 5, none⟩ = some (.string l[k].key) ∧ w'.cell? ⟨b, off + k * 5 + 1, none⟩ = some (.int .u64 (l[k].ser : Int)) ∧ w'.cell? ⟨b, off + k * 5 + 2, none⟩ = some (.int .i64 l[k].pos) ∧ w'.cell? ⟨b, off + k * 5 + 3, none⟩ = some (.int .i64 l[k].len) ∧ w'.cell? ⟨b, off + k * 5 + 4, none⟩ = some (.bool l[k].del)) := by
    intro w' hb k hk
    obtain ⟨b, off, cap, e, _, _, hc⟩ := (hl.below hb).open (by omega)
    simp only [Value.slice.injEq] at e
    exact ⟨b, off, e.1, hc k hk⟩
  have HFL := hide (fun k => flat_chgB_len (l.take k) (fun x hx => mayChg_key (hmc.1 x (List.mem_of_mem_take hx))))
  have HMC := hide hmc.1
  have H64 := hide h64
  have hwl : IntKind.u64.wrap (l.length : Int) = l.length := by rw [IntKind.wrap_u64]; omega
  have hl32 : (l.length : Int) ≤ 32 := by omega
  have HNS : Hid (∀ x ∈ [seq, l.length], x < 18446744073709551616) := by
    intro x hx
    simp only [List.mem_cons, List.not_mem_nil, or_false] at hx
    rcases hx with rfl | rfl
    · exact hs64
    · omega
  have hnb : numsB [seq, l.length] = varF 9 seq ++ varF 9 l.length := by simp [numsB]
  have hnl := numsB_len [seq, l.length]
  have HNA := hide (fun v W hul => rnums_any v [seq, l.length] W hul (unhide HNS) (by simp))
  have hBB : batB ⟨1, seq, l, mser, frm, to, n⟩ = varF 9 seq ++ varF 9 l.length ++ l.flatMap chgB := rfl
  rw [hBB]
  rw [hnb] at hnl HNA
  simp only [List.length_cons, List.length_nil] at hnl
  generalize varF 9 seq ++ varF 9 l.length = NB at *
  have HNB := hide (fun o => alloc_new w o)
  clear hb hm hl hrb h64 hs64 hmb hmc HNS hnb hBB
  go_enter Try.func21, Try.ntmps21
  go_wp2_with fail
  refine Calls.mono (unhide HM _) ?_
  rintro e w1 ⟨rfl, b1⟩
  have hB1 := (unhide HB _).trans (b1.mono (unhide HB _).size)
  have hblk1 := (b1.block w.heap.size (Array.getElem?_eq_some_iff.1 (unhide HNB _)).1).trans (unhide HNB _)
  have hlt1 := (Array.getElem?_eq_some_iff.1 hblk1).1
  obtain ⟨d0, d1, d2, d3, d4, d5, d6⟩ := seven_cells hblk1
  have n1 : ¬ w.heap.size = w1.heap.size := by omega
  have n2 : ¬ w1.heap.size = w.heap.size := by omega
  have hs1 := hB1.size
  have hbs : ∀ o o2, Below w1.heap.size w1 ((w1.alloc o).alloc o2) := fun o o2 => ((Below.refl _ _).alloc (Nat.le_refl _) _).alloc (by simp) _
  have hul : ∀ o, UL ((w1.alloc o).alloc (.cells #[.int .u64 (seq : Int), .int .u64 (l.length : Int)] 34)) (.slice (some ⟨w1.heap.size + 1, 0, none⟩) 2 2) [seq, l.length] := fun o => ul_of (l := [seq, l.length]) (e := 34) (alloc_new' (by simp) _) (by simp)
  have HN := hide (fun o => unhide HNA _ _ (hul o))
  have HBS := hide hbs
  have HO2 : Hid (∀ o2, ((w1.alloc (.cells #[.int .u8 ((1 : UInt8).toNat : Int)] 5)).alloc o2).ownsRow w1.heap.size 5 1 (.slice (some ⟨w1.heap.size, 0, none⟩) 1 1) 1 [B 1]) := fun o2 => owns_of_block (base := w1.heap.size) (bs := [1]) (e := 5) (g := w1.heap.size) ((alloc_old (by simp) o2).trans (alloc_new _ _)) (Nat.le_refl _) (by unfold maxLen; simp)
  rw [show ((1 : UInt8).toNat : Int) = 1 from rfl] at HO2
  have HB1 := hide hB1
  clear b1 HM HNB HB HNA hul hbs hB1 hblk1
  go_wp2_with fail
  refine Calls.mono (unhide HN _) ?_
  rintro e w2 ⟨t2, rfl, hown2, hb2⟩
  have hr2 := row_of_owns hown2
  obtain ⟨q2, c2, l2, rfl, rfl⟩ := hr2.shape
  have hb2' := (unhide HBS _ _).trans (hb2.mono (unhide HBS _ _).size)
  have hown3 := owns_below (unhide HO2 _) hb2
  have hsz2 := hb2'.size
  clear hown2 hb2 HN HBS HO2
  go_wp2_with (at_builtin; refine wpList_append_row rfl _ _ 30 rfl w1.heap.size 5 i0 (.int .u8 0) Try.underlying30 hi hz0 hz1 hz2 rfl _ _ _ rfl hown3 _ NB rfl hr2 (by omega) hsz2 ?_)
  intro v5 w5 hown5 hgrow5
  have HB5 : Hid (Below w1.heap.size w1 w5) := hb2'.grown hgrow5 hsz2 (fun k hk => (hown3.lt k hk).1)
  have HO5 := hide hown5
  clear hown5 hgrow5 hown3 hb2' hr2 hsz2
  have HD2 := hide d2
  have HLT := hide hlt1
  have HS1 := hide hs1
  clear d0 d1 d2 d3 d4 d5 d6 n1 n2 hlt1 hs1
  go_wp2_with fail
  go_loopw [4, 5] (fun s i wr => ∃ k : Nat, k ≤ l.length ∧ i = .int .i64 k ∧ Hid (wr.ownsRow w1.heap.size 5 1 s ((1 :: NB) ++ (l.take k).flatMap chgB).length (((1 :: NB) ++ (l.take k).flatMap chgB).map B)) ∧ Hid (Below w1.heap.size w1 wr)) (fun _ i _ => l.length - (intOf i).toNat)
  case atStart =>
    refine ⟨0, Nat.zero_le _, rfl, ?_, HB5⟩
    unfold Hid
    have h8 := unhide HO5
    rw [Nat.add_comm] at h8
    simpa using h8
  case round =>
    obtain ⟨k, hk, rfl, hown, hbel⟩ := hrel
    have hd2 : wr.cell? ⟨w.heap.size, 2, none⟩ = some (.slice p l.length c) := ((unhide hbel).cell (p := ⟨w.heap.size, 2, none⟩) (unhide HLT)).trans (unhide HD2)
    have hBW : Below w.heap.size w wr := (unhide HB1).trans ((unhide hbel).mono (unhide HS1))
    by_cases hlt : k < l.length
    · obtain ⟨b, off, rfl, a0, a1, a2, a3, a4⟩ := unhide HC wr hBW k hlt
      have hkl : (k : Int) < l.length := by omega
      have hTK : (1 :: NB) ++ (l.take (k + 1)).flatMap chgB = (1 :: NB) ++ (l.take k).flatMap chgB ++ chgB l[k] := by
        rw [List.take_succ_eq_append_getElem hlt, List.flatMap_append, List.flatMap_cons, List.flatMap_nil, List.append_nil, List.append_assoc]
      have HT := hide hTK
      have hfl := unhide HFL k
      rw [List.length_take] at hfl
      have hmk := unhide HMC _ (List.getElem_mem hlt)
      have hsk := unhide H64 _ (List.getElem_mem hlt)
      generalize l[k] = C at *
      obtain ⟨key, ser, pos, len, del⟩ := C
      obtain ⟨Y, hY⟩ : ∃ Y, Y = (1 :: NB) ++ (l.take k).flatMap chgB := ⟨_, rfl⟩
      have hyl : Y.length ≤ 21 + 32 * 110 := by rw [hY, List.length_append, List.length_cons]; omega
      rw [← hY] at hown HT
      simp only [mayChg, Bool.and_eq_true, kmayB, decide_eq_true_eq, chgB] at hmk hsk HT a0 a1 a2 a3 a4
      obtain ⟨⟨hk1, hk2⟩, hm2⟩ := hmk
      obtain ⟨o, ho⟩ : ∃ o, o = Obj.cells #[.string key, .int .u64 (ser : Int), .int .i64 pos, .int .i64 len, .bool del] 44 := ⟨_, rfl⟩
      have hb0 : Below wr.heap.size wr (wr.alloc o) := (Below.refl _ _).alloc (Nat.le_refl _) _
      obtain ⟨cc, W1, hcv, hrow, hb1⟩ := conv_text (wr.alloc o) key (by omega)
      have hs0 : (wr.alloc o).heap.size = wr.heap.size + 1 := by simp
      have hblkA := (hb1.block wr.heap.size (by omega)).trans (alloc_new wr o)
      have hbW1 := hb0.trans (hb1.mono hb0.size)
      have HTX := hide (rtext_any _ _ W1 hrow (by rw [bl_len]; omega))
      have hlk := bl_len key
      have hvk := (varF_len 9 key.toList.length).2
      have hTL : (varF 9 key.toList.length ++ key.toList).length ≤ 74 := by rw [List.length_append]; omega
      generalize varF 9 key.toList.length ++ key.toList = TX at *
      have hBW1 := (unhide hbel).trans (hbW1.mono (unhide hbel).size)
      have hownW := owns_below (unhide hown) hbW1
      rw [hs0] at hcv HTX
      rw [ho] at hcv
      have hlo := (unhide hown).lt
      have HBA := hide hblkA
      have HOW := hide hownW
      have HBW1 := hide hBW1
      have HWS := hide hbW1.size
      have HLO : Hid (∀ s, wr.ownsRow w1.heap.size 5 1 s Y.length (Y.map B) → ∀ q, s.ownBlock = some q → q ≠ wr.heap.size) := fun s hs q hq e => by have := (hs.lt q hq).2; omega
      have HLO2 := hide (fun q hq => unhide HLO _ (unhide hown) q hq)
      clear hY hTK hfl hown hbel hb0 hb1 hs0 hblkA hbW1 hBW1 hownW hlo hrow hBW HLO hlk hvk
      go_wp2_with fail
      refine Calls.mono (unhide HTX) ?_
      rintro e w2 ⟨t, rfl, hown2, hb2⟩
      have hr2 := row_of_owns hown2
      obtain ⟨q2, c2, l2, rfl, rfl⟩ := hr2.shape
      have hB2 := (unhide HBW1).trans (hb2.mono (unhide HBW1).size)
      have hown3 := owns_below (unhide HOW) hb2
      have hblk2 := (hb2.block wr.heap.size (Array.getElem?_eq_some_iff.1 (unhide HBA)).1).trans (unhide HBA)
      have hsz2 := hB2.size
      have HBK := hide hblk2
      clear hown2 hb2 HTX HOW HBW1 HBA hblk2 hcv a0 a1 a2 a3 a4 hd2
      go_wp2_with (at_builtin; refine wpList_append_row rfl _ _ 30 rfl w1.heap.size 5 i0 (.int .u8 0) Try.underlying30 hi hz0 hz1 hz2 rfl _ _ _ rfl hown3 _ TX rfl hr2 (by omega) hsz2 ?_)
      intro v4 w4 hown4 hgrow4
      have hB4 : Below w1.heap.size w1 w4 := hB2.grown hgrow4 hsz2 (fun k hk => (hown3.lt k hk).1)
      have hblk4 := (hgrow4.block wr.heap.size (Array.getElem?_eq_some_iff.1 (unhide HBK)).1 (fun e => unhide HLO2 wr.heap.size e.symm rfl)).trans (unhide HBK)
      obtain ⟨XS, hXS⟩ : ∃ XS, XS = Y ++ TX := ⟨_, rfl⟩
      replace hown4 : w4.ownsRow w1.heap.size 5 1 v4 XS.length (XS.map B) := by rw [hXS, List.length_append, List.map_append]; exact hown4
      have hxl : XS.length ≤ 100 + 32 * 110 := by rw [hXS, List.length_append]; omega
      rw [← List.append_assoc, ← hXS] at HT
      obtain ⟨q4, c4, l4, rfl, rfl⟩ := (row_of_owns hown4).shape
      clear hXS hown3 hgrow4 hB2 hr2 HBK HLO2
      rw [ho] at hblk4
      have k1 := cell_of_row w4 wr.heap.size 1 _ _ (0, 0) hblk4
      have k2 := cell_of_row w4 wr.heap.size 2 _ _ (0, 0) hblk4
      have k3 := cell_of_row w4 wr.heap.size 3 _ _ (0, 0) hblk4
      have k4 := cell_of_row w4 wr.heap.size 4 _ _ (0, 0) hblk4
      simp only [List.getElem?_toArray, List.getElem?_cons_succ, List.getElem?_cons_zero] at k1 k2 k3 k4
      have hlt4 := (Array.getElem?_eq_some_iff.1 hblk4).1
      cases del with
      | true =>
        simp only [if_true] at HT
        have hbs : Below w4.heap.size w4 (w4.alloc (.cells #[.int .u8 ((1 : UInt8).toNat : Int)] 5)) := (Below.refl _ _).alloc (Nat.le_refl _) _
        have hB5 := hB4.trans (hbs.mono hB4.size)
        have hown5 := owns_below hown4 hbs
        have hr1 := row_one w4 5 1
        rw [show ((1 : UInt8).toNat : Int) = 1 from rfl] at hB5 hown5 hr1
        have hsz5 := hB5.size
        clear hbs hB4 hown4 hblk4 ho hm2 hsk
        go_wp2_with (at_builtin; refine wpList_append_row rfl _ _ 30 rfl w1.heap.size 5 i0 (.int .u8 0) Try.underlying30 hi hz0 hz1 hz2 rfl _ _ _ rfl hown5 _ [1] rfl hr1 (by simp only [List.length_cons, List.length_nil]; omega) hsz5 ?_)
        intro v6 w6 hown6 hgrow6
        have HB6 : Hid (Below w1.heap.size w1 w6) := hB5.grown hgrow6 hsz5 (fun k hk => (hown5.lt k hk).1)
        have HO6 := hide hown6
        clear hown6 hgrow6 hown5 hB5 hr1 k1 k2 k3 k4
        go_wp2
        go_roundw
        case rel =>
          refine ⟨k + 1, by omega, by go_num, ?_, HB6⟩
          unfold Hid
          rw [unhide HT, List.length_append, List.map_append]
          exact unhide HO6
        case measure => simp [intOf]; omega
      | false =>
        simp only [Bool.false_eq_true, if_false, mayRef, Bool.and_eq_true, decide_eq_true_eq] at hm2 HT
        obtain ⟨⟨hs1, hp1, hp2⟩, hl1, hl2⟩ := hm2
        obtain ⟨P, rfl⟩ : ∃ P : Nat, pos = P := ⟨pos.toNat, by omega⟩
        obtain ⟨L, rfl⟩ : ∃ L : Nat, len = L := ⟨len.toNat, by omega⟩
        have hwP : IntKind.u64.wrap (P : Int) = P := by rw [IntKind.wrap_u64]; omega
        have hwL : IntKind.u64.wrap (L : Int) = L := by rw [IntKind.wrap_u64]; omega
        have HNS : Hid (∀ x ∈ [ser, P, L], x < 18446744073709551616) := by
          intro x hx
          simp only [List.mem_cons, List.not_mem_nil, or_false] at hx
          rcases hx with rfl | rfl | rfl
          · exact hsk
          · omega
          · omega
        have hbs : Below w4.heap.size w4 (w4.alloc (.cells #[.int .u8 ((0 : UInt8).toNat : Int)] 5)) := (Below.refl _ _).alloc (Nat.le_refl _) _
        have hB5 := hB4.trans (hbs.mono hB4.size)
        have hown5 := owns_below hown4 hbs
        have hr1 := row_one w4 5 0
        have hblk5 := (hbs.block wr.heap.size hlt4).trans hblk4
        rw [show ((0 : UInt8).toNat : Int) = 0 from rfl] at hB5 hown5 hr1 hblk5
        have hsz5 := hB5.size
        have HNE := hide (own_type hown5 hblk5 (by decide))
        have HK5 := hide hblk5
        clear hbs hB4 hown4 hblk4 ho hsk hs1 hp1 hp2 hl1 hl2 hblk5
        go_wp2_with (at_builtin; refine wpList_append_row rfl _ _ 30 rfl w1.heap.size 5 i0 (.int .u8 0) Try.underlying30 hi hz0 hz1 hz2 rfl _ _ _ rfl hown5 _ [0] rfl hr1 (by simp only [List.length_cons, List.length_nil]; omega) hsz5 ?_)
        intro v6 w6 hown6 hgrow6
        have hB6 : Below w1.heap.size w1 w6 := hB5.grown hgrow6 hsz5 (fun k hk => (hown5.lt k hk).1)
        have hblk6 := (hgrow6.block wr.heap.size (Array.getElem?_eq_some_iff.1 (unhide HK5)).1 (fun e => unhide HNE e.symm)).trans (unhide HK5)
        obtain ⟨ZS, hZS⟩ : ∃ ZS, ZS = XS ++ [0] := ⟨_, rfl⟩
        replace hown6 : w6.ownsRow w1.heap.size 5 1 v6 ZS.length (ZS.map B) := by rw [hZS, List.length_append, List.map_append]; exact hown6
        have hzl : ZS.length ≤ 101 + 32 * 110 := by rw [hZS, List.length_append]; simp only [List.length_cons, List.length_nil]; omega
        have hHT : XS ++ 0 :: (varF 9 ser ++ varF 9 P ++ varF 9 L) = ZS ++ (varF 9 ser ++ varF 9 P ++ varF 9 L) := by rw [hZS]; simp
        simp only [Int.toNat_natCast] at HT
        rw [hHT] at HT
        obtain ⟨q6, c6, l6, rfl, rfl⟩ := (row_of_owns hown6).shape
        have m1 := cell_of_row w6 wr.heap.size 1 _ _ (0, 0) hblk6
        have m2 := cell_of_row w6 wr.heap.size 2 _ _ (0, 0) hblk6
        have m3 := cell_of_row w6 wr.heap.size 3 _ _ (0, 0) hblk6
        simp only [List.getElem?_toArray, List.getElem?_cons_succ, List.getElem?_cons_zero] at m1 m2 m3
        clear hZS hHT hown5 hgrow6 hB5 hr1 HK5 HNE k1 k2 k3 k4 hblk6
        have hbs : Below w6.heap.size w6 (w6.alloc (.cells #[.int .u64 (ser : Int), .int .u64 (P : Int), .int .u64 (L : Int)] 34)) := (Below.refl _ _).alloc (Nat.le_refl _) _
        have hul : UL (w6.alloc (.cells #[.int .u64 (ser : Int), .int .u64 (P : Int), .int .u64 (L : Int)] 34)) (.slice (some ⟨w6.heap.size, 0, none⟩) 3 3) [ser, P, L] := ul_of (l := [ser, P, L]) (e := 34) (alloc_new _ _) (by simp)
        have HN := hide (rnums_any _ [ser, P, L] _ hul (unhide HNS) (by simp))
        have HO7 := hide (owns_below hown6 hbs)
        have HB7 := hide (hB6.trans (hbs.mono hB6.size))
        have hnl := numsB_len [ser, P, L]
        have hnb : numsB [ser, P, L] = varF 9 ser ++ varF 9 P ++ varF 9 L := by simp [numsB]
        rw [hnb] at HN hnl
        clear hbs hul hown6 hB6 hnb
        generalize varF 9 ser ++ varF 9 P ++ varF 9 L = NX at *
        simp only [List.length_cons, List.length_nil] at hnl
        go_wp2_with fail
        refine Calls.mono (unhide HN) ?_
        rintro e w8 ⟨t8, rfl, hown8, hb8⟩
        have hr8 := row_of_owns hown8
        obtain ⟨q8, c8, l8, rfl, rfl⟩ := hr8.shape
        have hB8 := (unhide HB7).trans (hb8.mono (unhide HB7).size)
        have hown9 := owns_below (unhide HO7) hb8
        have hsz8 := hB8.size
        clear hown8 hb8 HN HO7 HB7 m1 m2 m3
        go_wp2_with (at_builtin; refine wpList_append_row rfl _ _ 30 rfl w1.heap.size 5 i0 (.int .u8 0) Try.underlying30 hi hz0 hz1 hz2 rfl _ _ _ rfl hown9 _ NX rfl hr8 (by omega) hsz8 ?_)
        intro v9 w9 hownA hgrowA
        have HBA : Hid (Below w1.heap.size w1 w9) := hB8.grown hgrowA hsz8 (fun k hk => (hown9.lt k hk).1)
        have HOA := hide hownA
        clear hownA hgrowA hown9 hB8 hr8
        go_wp2
        go_roundw
        case rel =>
          refine ⟨k + 1, by omega, by go_num, ?_, HBA⟩
          unfold Hid
          rw [unhide HT, List.length_append, List.map_append]
          exact unhide HOA
        case measure => simp [intOf]; omega
    · obtain rfl : k = l.length := by omega
      rw [List.take_length] at hown
      have HOF := hide (owns_down (unhide hown) (unhide HS1))
      have HBF := hide hBW
      clear hown hBW hbel
      go_wp2
      go_ret2
      refine ⟨_, rfl, ?_, unhide HBF⟩
      simpa using unhide HOF

theorem rwrite_any (r : Rcd) (v : Value) (w : World) (hl : CL w v r.chg) (ho : r.ok) :
    Calls Try.prog 21 #[.agg (rcdA r v)] w fun e w' => ∃ t, e = .returned (.tuple #[t, .int .i64 (wrE (mayRcd r))]) ∧ w'.ownsRow w.heap.size 5 1 t (wrB r).length ((wrB r).map B) ∧ Below w.heap.size w w' := by
  obtain ⟨k0, k1, s64, c64, m64, _⟩ := ho
  unfold wrB wrE
  cases hm : mayRcd r with
  | false =>
    refine (rwrite_no r v w hl hm).mono ?_
    rintro e w' ⟨rfl, hb⟩
    exact ⟨_, rfl, World.ownsRow_nil _ _ _ _, hb⟩
  | true =>
    by_cases h1 : r.kind = 1
    · exact rwrite_bat r v w hl h1 hm (fun c hc => (c64 c hc).2.1) s64
    · by_cases h2 : r.kind = 2
      · exact rwrite_mov r v w hl h2 hm m64
      · simp [mayRcd, h1, h2] at hm
end Go.Proofs.Ytpampknbbpjkiaa
