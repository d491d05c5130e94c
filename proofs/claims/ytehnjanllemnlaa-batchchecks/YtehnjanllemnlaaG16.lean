/- Texts of ours, one behind the other: BatWr4, BatLaw1, BatHelp2. -/
import Derived.Test.YtehnjanllemnlaaG10
import Derived.Test.YtehnjanllemnlaaG15
import Derived.Test.YtehnjanllemnlaaG23
import Derived.BigQuiet
/- The landed package batch: Write. -/
namespace Go.Proofs.Ytehnjanllemnlaa
open Go.RowKit

theorem MapIs.lookOne {P : Program} {k t e : TypeId} {w : World} {b n : Nat} {f : Int → Option Value} (h : MapIs P k w b n f) (hk : P.underlying k = some (.int .i64)) (ht : P.underlying t = some (.map k e)) {z : Value} (hz : (zeroValue e).run P w = .ok z w)
    (a : Int) (ha : (Lit.int .i64 a).wf = true) : (Instr.lookup t (.map (some b)) (.int .i64 a) false).run P w = .ok ((f a).getD z) w := by
  obtain ⟨D, h1, h2, h3⟩ := h
  obtain ⟨v, ps, hr, hv⟩ := h1.lookup (Maps.int_keyed hk) ht hz (zd := .held z) (zp := []) rfl (key := .int .i64 a) (kl := .int .i64 a) (by simp [keyOf, mapKey, hk, ha])
  rw [(h3 a).2 z] at hv
  simp only [heldR, Option.some.injEq, Prod.mk.injEq, DataW.held.injEq] at hv
  rw [hr, hv.1]
theorem get_1 {w1 : World} {g : Nat} (hm : MapIs Try.prog 3 w1 g 2 (fun x => if x = 2 then some kindV2 else if x = 1 then some kindV1 else none)) : (Instr.lookup 72 (.map (some g)) (.int .i64 1) false).run Try.prog w1 = .ok (.agg #[.func (.func 46) #[] #[], .func (.func 47) #[] #[], .func (.func 48) #[] #[]]) w1 := by
  rw [hm.lookOne (t := 72) (e := 71) Try.underlying3 Try.underlying72 (zero_kind w1) 1 rfl]
  rfl
theorem get_2 {w1 : World} {g : Nat} (hm : MapIs Try.prog 3 w1 g 2 (fun x => if x = 2 then some kindV2 else if x = 1 then some kindV1 else none)) : (Instr.lookup 72 (.map (some g)) (.int .i64 2) false).run Try.prog w1 = .ok (.agg #[.func (.func 49) #[] #[], .func (.func 50) #[] #[], .func (.func 51) #[] #[]]) w1 := by
  rw [hm.lookOne (t := 72) (e := 71) Try.underlying3 Try.underlying72 (zero_kind w1) 2 rfl]
  rfl

theorem fld_1 (W : World) : (Instr.field 71 (.agg #[.func (.func 46) #[] #[], .func (.func 47) #[] #[], .func (.func 48) #[] #[]]) 1).run Try.prog W = .ok (.func (.func 47) #[] #[]) W := by kernel_rfl
theorem fld_2 (W : World) : (Instr.field 71 (.agg #[.func (.func 49) #[] #[], .func (.func 50) #[] #[], .func (.func 51) #[] #[]]) 1).run Try.prog W = .ok (.func (.func 50) #[] #[]) W := by kernel_rfl

set_option maxRecDepth 20000 in
set_option maxHeartbeats 2000000 in
theorem bwrite_no (r : Rcd) (v : Value) (w : World) (hl : CL w v r.chg) (hk0 : -9223372036854775808 ≤ r.kind) (hk1 : r.kind ≤ 9223372036854775807) (hm : mayRcd r = false) :
    Calls Try.prog 17 #[.agg (rcdA r v)] w fun e w' => e = .returned (.tuple #[.slice none 0 0, .int .i64 11]) ∧ Below w.heap.size w w' := by
  have hb := fun o => (Below.refl w.heap.size w).alloc (Nat.le_refl _) o
  have HM := hide (fun o => bmay_any r v (w.alloc o) (hl.below (hb o)) hk0 hk1)
  rw [hm] at HM
  have HB := hide hb
  obtain ⟨p, c, rfl, _⟩ := KRow.shape hl
  unfold rcdA at *
  clear hb hm hl
  go_enter Try.func17, Try.ntmps17
  go_wp2_with fail
  refine Calls.mono (unhide HM _) ?_
  rintro e w1 ⟨rfl, b1⟩
  have HB1 := hide ((unhide HB _).trans (b1.mono (unhide HB _).size))
  clear b1
  go_wp2
  go_ret2
  exact ⟨rfl, unhide HB1⟩

set_option maxRecDepth 20000 in
set_option maxHeartbeats 4000000 in
theorem bwrite_bat (r : Rcd) (v : Value) (w : World) (hl : CL w v r.chg) (hk : r.kind = 1) (hm : mayRcd r = true) (h64 : ∀ c ∈ r.chg, c.ser < 18446744073709551616) (hs64 : r.seq < 18446744073709551616) :
    Calls Try.prog 17 #[.agg (rcdA r v)] w fun e w' => ∃ t, e = .returned (.tuple #[t, .int .i64 0]) ∧ w'.ownsRow w.heap.size 5 1 t (rcdB r).length ((rcdB r).map B) ∧ Below w.heap.size w w' := by
  obtain ⟨i0, hi, hz0, hz1, hz2⟩ := info_parts Try.info5
  obtain ⟨p, c, rfl, _⟩ := KRow.shape hl
  have hb := fun o => (Below.refl w.heap.size w).alloc (Nat.le_refl _) o
  have HM := hide (fun o => bmay_any r _ (w.alloc o) (hl.below (hb o)) (by omega) (by omega))
  have hmb : mayBat r = true := by simpa [mayRcd, hk] using hm
  have hrb : rcdB r = 1 :: batB r := by simp [rcdB, hk]
  rw [hrb]
  have hmc : (∀ c ∈ r.chg, mayChg c = true) ∧ r.chg.length ≤ 32 := by
    simp only [mayBat, Bool.and_eq_true, decide_eq_true_eq, riseB] at hmb
    refine ⟨fun c hc => ?_, hmb.1.1.2.2⟩
    obtain ⟨i, hi, rfl⟩ := List.getElem_of_mem hc
    exact (hmb.1.2 i hi).1
  have HW := hide (fun w' (hb : Below w.heap.size w w') => batbytes_any r _ w' (hl.below hb) hmc.1 h64 hs64 hmc.2)
  have hbl : (batB r).length ≤ 20 + 32 * 110 := by
    have := flat_chgB_len r.chg (fun c hc => mayChg_key (hmc.1 c hc))
    have h2 := (varF_len 9 r.seq).2
    have h3 := (varF_len 9 r.chg.length).2
    have h4 := hmc.2
    unfold batB
    rw [List.length_append, List.length_append]
    omega
  rw [hm] at HM
  have HB := hide hb
  generalize batB r = BB at *
  unfold rcdA at *
  obtain ⟨kind, seq, l, mser, frm, to, n⟩ := r
  simp only at *
  subst hk
  clear hb hm hl hmb hrb hmc h64 hs64
  have HNB := hide (fun o => alloc_new w o)
  go_enter Try.func17, Try.ntmps17
  go_wp2_with fail
  refine Calls.mono (unhide HM _) ?_
  rintro e w1 ⟨rfl, b1⟩
  have hB1 := (unhide HB _).trans (b1.mono (unhide HB _).size)
  have hblk1 := (b1.block w.heap.size (Array.getElem?_eq_some_iff.1 (unhide HNB _)).1).trans (unhide HNB _)
  clear b1 HM HNB HB
  obtain ⟨d0, d1, d2, d3, d4, d5, d6⟩ := seven_cells (w := w1.drew) hblk1
  have hfd := fld_1
  have HK := hide (kinds_any w1.drew)
  have hsd : w1.drew.heap.size = w1.heap.size := rfl
  rw [hsd] at HK
  have HBS := hide hblk1
  have HB1 := hide (hB1.drew)
  clear hsd hblk1 hB1
  go_wp2_with fail
  go_region_held3 (fun w' => w'.cell? ⟨w.heap.size, 0, none⟩ = some (.int .i64 1) ∧ w'.cell? ⟨w.heap.size, 1, none⟩ = some (.int .u64 (seq : Int)) ∧ w'.cell? ⟨w.heap.size, 2, none⟩ = some (.slice p l.length c) ∧ w'.cell? ⟨w.heap.size, 3, none⟩ = some (.int .u64 (mser : Int)) ∧ w'.cell? ⟨w.heap.size, 4, none⟩ = some (.int .i64 frm) ∧ w'.cell? ⟨w.heap.size, 5, none⟩ = some (.int .i64 to) ∧ w'.cell? ⟨w.heap.size, 6, none⟩ = some (.int .i64 n)) (first | assumption | go_keep)
    (first
      | (go_at_call 37; refine Calls.mono (unhide HK) ?_; rintro x w2 ⟨rfl, hm2, b2⟩; have hblk2 := (b2.block w.heap.size (Array.getElem?_eq_some_iff.1 (unhide HBS)).1).trans (unhide HBS); have hk2 : w2.cell? ⟨w.heap.size, 0, none⟩ = some (.int .i64 1) ∧ w2.cell? ⟨w.heap.size, 1, none⟩ = some (.int .u64 (seq : Int)) ∧ w2.cell? ⟨w.heap.size, 2, none⟩ = some (.slice p l.length c) ∧ w2.cell? ⟨w.heap.size, 3, none⟩ = some (.int .u64 (mser : Int)) ∧ w2.cell? ⟨w.heap.size, 4, none⟩ = some (.int .i64 frm) ∧ w2.cell? ⟨w.heap.size, 5, none⟩ = some (.int .i64 to) ∧ w2.cell? ⟨w.heap.size, 6, none⟩ = some (.int .i64 n) := seven_cells hblk2; have hlk := get_1 hm2; have HB2 := hide ((unhide HB1).trans (b2.mono (unhide HB1).size)); have HBL2 := hide hblk2; clear b2 hm2 hblk2)
      | (go_at_call 47; refine Calls.mono (unhide HW w2 (unhide HB2)) ?_; rintro x w3 ⟨t3, rfl, hown3, b3⟩; have hblk3 := (b3.block w.heap.size (Array.getElem?_eq_some_iff.1 (unhide HBL2)).1).trans (unhide HBL2); have hk3 : w3.cell? ⟨w.heap.size, 0, none⟩ = some (.int .i64 1) ∧ w3.cell? ⟨w.heap.size, 1, none⟩ = some (.int .u64 (seq : Int)) ∧ w3.cell? ⟨w.heap.size, 2, none⟩ = some (.slice p l.length c) ∧ w3.cell? ⟨w.heap.size, 3, none⟩ = some (.int .u64 (mser : Int)) ∧ w3.cell? ⟨w.heap.size, 4, none⟩ = some (.int .i64 frm) ∧ w3.cell? ⟨w.heap.size, 5, none⟩ = some (.int .i64 to) ∧ w3.cell? ⟨w.heap.size, 6, none⟩ = some (.int .i64 n) := seven_cells hblk3; have HB3 := hide ((unhide HB2).trans (b3.mono (unhide HB2).size)); have HO3 := hide hown3; obtain ⟨q3, c3, l3, rfl, rfl⟩ := (row_of_owns hown3).shape; clear b3 hown3 hblk3))
  obtain ⟨e0, _⟩ := hk3
  have hbs : Below w3.heap.size w3 (w3.alloc (.cells #[.int .u8 ((1 : UInt8).toNat : Int)] 5)) := (Below.refl _ _).alloc (Nat.le_refl _) _
  have hB4 := (unhide HB3).trans (hbs.mono (unhide HB3).size)
  have hr4 := (row_of_owns (unhide HO3)).below hbs
  have hown4 := owns_of_block (base := w.heap.size) (bs := [1]) (e := 5) (w := w3.alloc (.cells #[.int .u8 ((1 : UInt8).toNat : Int)] 5)) (g := w3.heap.size) (alloc_new _ _) (unhide HB3).size (by unfold maxLen; simp)
  simp only [show ((1 : UInt8).toNat : Int) = 1 from rfl, List.length_cons, List.length_nil, Nat.zero_add] at hB4 hr4 hown4
  have hsz4 := hB4.size
  clear hbs HB1 HB2 HB3 HO3 HW HK HBS HBL2 hlk hfd d0 d1 d2 d3 d4 d5 d6 hk2
  go_wp2_with (at_builtin; refine wpList_append_row rfl _ _ 30 rfl w.heap.size 5 i0 (.int .u8 0) Try.underlying30 hi hz0 hz1 hz2 rfl _ _ _ rfl hown4 _ BB rfl hr4 (by omega) hsz4 ?_)
  intro v5 w5 hown5 hgrow5
  have HB5 : Hid (Below w.heap.size w w5) := hB4.grown hgrow5 hsz4 (fun k hk => (hown4.lt k hk).1)
  have HO5 := hide hown5
  clear hown5 hgrow5 hown4 hB4 hr4
  go_wp2
  go_ret2
  refine ⟨_, rfl, ?_, unhide HB5⟩
  have h8 := unhide HO5
  rw [Nat.add_comm] at h8
  exact h8
set_option maxRecDepth 20000 in
set_option maxHeartbeats 4000000 in
theorem bwrite_mov (r : Rcd) (v : Value) (w : World) (hl : CL w v r.chg) (hk : r.kind = 2) (hm : mayRcd r = true) (h64 : r.mser < 18446744073709551616) :
    Calls Try.prog 17 #[.agg (rcdA r v)] w fun e w' => ∃ t, e = .returned (.tuple #[t, .int .i64 0]) ∧ w'.ownsRow w.heap.size 5 1 t (rcdB r).length ((rcdB r).map B) ∧ Below w.heap.size w w' := by
  obtain ⟨i0, hi, hz0, hz1, hz2⟩ := info_parts Try.info5
  obtain ⟨p, c, rfl, _⟩ := KRow.shape hl
  have hb := fun o => (Below.refl w.heap.size w).alloc (Nat.le_refl _) o
  have HM := hide (fun o => bmay_any r _ (w.alloc o) (hl.below (hb o)) (by omega) (by omega))
  have hmb : mayMov r = true := by simpa [mayRcd, hk] using hm
  have hrb : rcdB r = 2 :: movB r := by simp [rcdB, hk]
  rw [hrb]
  simp only [mayMov, Bool.and_eq_true, decide_eq_true_eq] at hmb
  obtain ⟨⟨⟨⟨⟨⟨z1, z2⟩, z3⟩, g1, g2⟩, g3, g4⟩, z4⟩, g5, g6⟩ := hmb
  have HW := hide (fun w' (_ : Below w.heap.size w w') => movbytes_any r (.slice p r.chg.length c) w' h64 g1 g2 g3 g4 (by omega) g6)
  have hbl : (movB r).length ≤ 40 := by
    have h1 := (varF_len 9 r.mser).2
    have h2 := (varF_len 9 r.frm.toNat).2
    have h3 := (varF_len 9 r.to.toNat).2
    have h4 := (varF_len 9 r.n.toNat).2
    unfold movB
    rw [List.length_append, List.length_append, List.length_append]
    omega
  clear g1 g2 g3 g4 g5 g6 z1 z2 z3 z4
  rw [hm] at HM
  have HB := hide hb
  generalize movB r = BB at *
  unfold rcdA at *
  obtain ⟨kind, seq, l, mser, frm, to, n⟩ := r
  simp only at *
  subst hk
  clear hb hm hl hrb h64
  have HNB := hide (fun o => alloc_new w o)
  go_enter Try.func17, Try.ntmps17
  go_wp2_with fail
  refine Calls.mono (unhide HM _) ?_
  rintro e w1 ⟨rfl, b1⟩
  have hB1 := (unhide HB _).trans (b1.mono (unhide HB _).size)
  have hblk1 := (b1.block w.heap.size (Array.getElem?_eq_some_iff.1 (unhide HNB _)).1).trans (unhide HNB _)
  clear b1 HM HNB HB
  obtain ⟨d0, d1, d2, d3, d4, d5, d6⟩ := seven_cells (w := w1.drew) hblk1
  have hfd := fld_2
  have HK := hide (kinds_any w1.drew)
  have hsd : w1.drew.heap.size = w1.heap.size := rfl
  rw [hsd] at HK
  have HBS := hide hblk1
  have HB1 := hide (hB1.drew)
  clear hsd hblk1 hB1
  go_wp2_with fail
  go_region_held3 (fun w' => w'.cell? ⟨w.heap.size, 0, none⟩ = some (.int .i64 2) ∧ w'.cell? ⟨w.heap.size, 1, none⟩ = some (.int .u64 (seq : Int)) ∧ w'.cell? ⟨w.heap.size, 2, none⟩ = some (.slice p l.length c) ∧ w'.cell? ⟨w.heap.size, 3, none⟩ = some (.int .u64 (mser : Int)) ∧ w'.cell? ⟨w.heap.size, 4, none⟩ = some (.int .i64 frm) ∧ w'.cell? ⟨w.heap.size, 5, none⟩ = some (.int .i64 to) ∧ w'.cell? ⟨w.heap.size, 6, none⟩ = some (.int .i64 n)) (first | assumption | go_keep)
    (first
      | (go_at_call 37; refine Calls.mono (unhide HK) ?_; rintro x w2 ⟨rfl, hm2, b2⟩; have hblk2 := (b2.block w.heap.size (Array.getElem?_eq_some_iff.1 (unhide HBS)).1).trans (unhide HBS); have hk2 : w2.cell? ⟨w.heap.size, 0, none⟩ = some (.int .i64 2) ∧ w2.cell? ⟨w.heap.size, 1, none⟩ = some (.int .u64 (seq : Int)) ∧ w2.cell? ⟨w.heap.size, 2, none⟩ = some (.slice p l.length c) ∧ w2.cell? ⟨w.heap.size, 3, none⟩ = some (.int .u64 (mser : Int)) ∧ w2.cell? ⟨w.heap.size, 4, none⟩ = some (.int .i64 frm) ∧ w2.cell? ⟨w.heap.size, 5, none⟩ = some (.int .i64 to) ∧ w2.cell? ⟨w.heap.size, 6, none⟩ = some (.int .i64 n) := seven_cells hblk2; have hlk := get_2 hm2; have HB2 := hide ((unhide HB1).trans (b2.mono (unhide HB1).size)); have HBL2 := hide hblk2; clear b2 hm2 hblk2)
      | (go_at_call 50; refine Calls.mono (unhide HW w2 (unhide HB2)) ?_; rintro x w3 ⟨t3, rfl, hown3, b3⟩; have hblk3 := (b3.block w.heap.size (Array.getElem?_eq_some_iff.1 (unhide HBL2)).1).trans (unhide HBL2); have hk3 : w3.cell? ⟨w.heap.size, 0, none⟩ = some (.int .i64 2) ∧ w3.cell? ⟨w.heap.size, 1, none⟩ = some (.int .u64 (seq : Int)) ∧ w3.cell? ⟨w.heap.size, 2, none⟩ = some (.slice p l.length c) ∧ w3.cell? ⟨w.heap.size, 3, none⟩ = some (.int .u64 (mser : Int)) ∧ w3.cell? ⟨w.heap.size, 4, none⟩ = some (.int .i64 frm) ∧ w3.cell? ⟨w.heap.size, 5, none⟩ = some (.int .i64 to) ∧ w3.cell? ⟨w.heap.size, 6, none⟩ = some (.int .i64 n) := seven_cells hblk3; have HB3 := hide ((unhide HB2).trans (b3.mono (unhide HB2).size)); have HO3 := hide hown3; obtain ⟨q3, c3, l3, rfl, rfl⟩ := (row_of_owns hown3).shape; clear b3 hown3 hblk3))
  obtain ⟨e0, _⟩ := hk3
  have hbs : Below w3.heap.size w3 (w3.alloc (.cells #[.int .u8 ((2 : UInt8).toNat : Int)] 5)) := (Below.refl _ _).alloc (Nat.le_refl _) _
  have hB4 := (unhide HB3).trans (hbs.mono (unhide HB3).size)
  have hr4 := (row_of_owns (unhide HO3)).below hbs
  have hown4 := owns_of_block (base := w.heap.size) (bs := [2]) (e := 5) (w := w3.alloc (.cells #[.int .u8 ((2 : UInt8).toNat : Int)] 5)) (g := w3.heap.size) (alloc_new _ _) (unhide HB3).size (by unfold maxLen; simp)
  simp only [show ((2 : UInt8).toNat : Int) = 2 from rfl, List.length_cons, List.length_nil, Nat.zero_add] at hB4 hr4 hown4
  have hsz4 := hB4.size
  clear hbs HB1 HB2 HB3 HO3 HW HK HBS HBL2 hlk hfd d0 d1 d2 d3 d4 d5 d6 hk2
  go_wp2_with (at_builtin; refine wpList_append_row rfl _ _ 30 rfl w.heap.size 5 i0 (.int .u8 0) Try.underlying30 hi hz0 hz1 hz2 rfl _ _ _ rfl hown4 _ BB rfl hr4 (by omega) hsz4 ?_)
  intro v5 w5 hown5 hgrow5
  have HB5 : Hid (Below w.heap.size w w5) := hB4.grown hgrow5 hsz4 (fun k hk => (hown4.lt k hk).1)
  have HO5 := hide hown5
  clear hown5 hgrow5 hown4 hB4 hr4
  go_wp2
  go_ret2
  refine ⟨_, rfl, ?_, unhide HB5⟩
  have h8 := unhide HO5
  rw [Nat.add_comm] at h8
  exact h8

/-- Write. -/
def wrE (b : Bool) : Int := if b then 0 else 11
noncomputable def wrB (r : Rcd) : List UInt8 := if mayRcd r then rcdB r else []
def Rcd.ok (r : Rcd) : Prop := -9223372036854775808 ≤ r.kind ∧ r.kind ≤ 9223372036854775807 ∧ r.seq < 18446744073709551616 ∧ (∀ c ∈ r.chg, c.ok) ∧ r.mser < 18446744073709551616 ∧ -9223372036854775808 ≤ r.frm ∧ r.frm ≤ 9223372036854775807 ∧ -9223372036854775808 ≤ r.to ∧ r.to ≤ 9223372036854775807 ∧ -9223372036854775808 ≤ r.n ∧ r.n ≤ 9223372036854775807
theorem bwrite_any (r : Rcd) (v : Value) (w : World) (hl : CL w v r.chg) (ho : r.ok) :
    Calls Try.prog 17 #[.agg (rcdA r v)] w fun e w' => ∃ t, e = .returned (.tuple #[t, .int .i64 (wrE (mayRcd r))]) ∧ w'.ownsRow w.heap.size 5 1 t (wrB r).length ((wrB r).map B) ∧ Below w.heap.size w w' := by
  obtain ⟨k0, k1, s64, c64, m64, _⟩ := ho
  unfold wrB wrE
  cases hm : mayRcd r with
  | false =>
    refine (bwrite_no r v w hl k0 k1 hm).mono ?_
    rintro e w' ⟨rfl, hb⟩
    exact ⟨_, rfl, World.ownsRow_nil _ _ _ _, hb⟩
  | true =>
    by_cases h1 : r.kind = 1
    · exact bwrite_bat r v w hl h1 hm (fun c hc => (c64 c hc).2.1) s64
    · by_cases h2 : r.kind = 2
      · exact bwrite_mov r v w hl h2 hm m64
      · simp [mayRcd, h1, h2] at hm
end Go.Proofs.Ytehnjanllemnlaa

/- The statements of layer 10: awake. -/
namespace Go.Proofs.Ytehnjanllemnlaa
open Go.RowKit

set_option maxRecDepth 20000 in
theorem bcheck_nil (w : World) : Calls Try.prog 10 #[.slice none 0 0] w fun e w' => e = .returned (.int .i64 1) ∧ w' = w := by
  go_enter Try.func10, Try.ntmps10
  go_wp2
  go_ret
  exact ⟨rfl, rfl⟩

def awR : Rcd := ⟨2, 0, [], 5, 9, 2, 3⟩
theorem aw_may : mayRcd awR = true := by simp [mayRcd, awR, mayMov]
theorem aw_len : (wrB awR).length = 5 := by
  unfold wrB
  rw [aw_may]
  decide
set_option maxRecDepth 20000 in
theorem bawake_any (w : World) : Calls Try.prog 9 #[] w fun e w' => e = .returned (.bool true) ∧ Below w.heap.size w w' := by
  have HW := hide (bwrite_any awR (.slice none 0 0) w (CL.nil w) (by unfold Rcd.ok awR; simp))
  rw [aw_may, aw_len] at HW
  unfold rcdA awR wrE at HW
  simp only [if_true, Int.natCast_zero] at HW
  go_enter Try.func9, Try.ntmps9
  go_wp2_with fail
  refine Calls.mono (unhide HW) ?_
  rintro e w1 ⟨t, rfl, hown, hb⟩
  have hsh : ∃ p c, t = .slice p 5 c := by
    rcases hown.2 with ⟨rfl, h⟩ | ⟨g, cap, cur, rfl, _⟩
    · cases h
    · exact ⟨_, _, rfl⟩
  obtain ⟨p, c, rfl⟩ := hsh
  have HB := hide hb
  clear hown hb HW
  go_wp2_with (first | (go_at_call 10; refine Calls.mono (bcheck_nil _) ?_; rintro e w2 ⟨rfl, rfl⟩))
  go_ret
  exact ⟨rfl, unhide HB⟩
end Go.Proofs.Ytehnjanllemnlaa

/- What the verifier's helper Record does: two records that are the same. -/
namespace Go.Proofs.Ytehnjanllemnlaa
open Go.RowKit

set_option maxRecDepth 20000 in
set_option maxHeartbeats 2000000 in
theorem hrecord_any (r : Rcd) (v1 v2 : Value) (w : World) (h1 : CL w v1 r.chg) (h2 : CL w v2 r.chg) :
    Calls Try.prog 20 #[.agg (rcdA r v1), .agg (rcdA r v2)] w fun e w' => e = .returned (.bool true) ∧ Below w.heap.size w w' := by
  obtain ⟨p1, c1, rfl, _⟩ := KRow.shape h1
  obtain ⟨p2, c2, rfl, _⟩ := KRow.shape h2
  obtain ⟨kind, seq, l, mser, frm, to, n⟩ := r
  unfold rcdA
  simp only at h1 h2 ⊢
  obtain ⟨W, hW⟩ : ∃ W, W = (w.alloc (.cells #[.int .i64 kind, .int .u64 (seq : Int), .slice p1 l.length c1, .int .u64 (mser : Int), .int .i64 frm, .int .i64 to, .int .i64 n] 39)).alloc (.cells #[.int .i64 kind, .int .u64 (seq : Int), .slice p2 l.length c2, .int .u64 (mser : Int), .int .i64 frm, .int .i64 to, .int .i64 n] 39) := ⟨_, rfl⟩
  have hb : Below w.heap.size w W := by rw [hW]; exact ((Below.refl _ _).alloc (Nat.le_refl _) _).alloc (by simp) _
  have hk1 : W.heap[w.heap.size]? = some (.cells #[.int .i64 kind, .int .u64 (seq : Int), .slice p1 l.length c1, .int .u64 (mser : Int), .int .i64 frm, .int .i64 to, .int .i64 n] 39 (0, 0)) := by rw [hW]; exact (alloc_old (by simp) _).trans (alloc_new w _)
  have hk2 : W.heap[w.heap.size + 1]? = some (.cells #[.int .i64 kind, .int .u64 (seq : Int), .slice p2 l.length c2, .int .u64 (mser : Int), .int .i64 frm, .int .i64 to, .int .i64 n] 39 (0, 0)) := by rw [hW]; exact alloc_new' (by simp) _
  have HP := hide (cplain_any (.slice p1 l.length c1) (.slice p2 l.length c2) l W (CL.below h1 hb) (CL.below h2 hb))
  have HC := hide (fun w1 (b1 : Below W.heap.size W w1) => And.intro (seven_cells ((b1.block _ (Array.getElem?_eq_some_iff.1 hk1).1).trans hk1)) (And.intro (seven_cells ((b1.block _ (Array.getElem?_eq_some_iff.1 hk2).1).trans hk2)) (hb.trans (b1.mono hb.size))))
  rw [hW] at HP HC
  have e1 : (kind == kind) = true := by simp
  have e2 : ((seq : Int) == seq) = true := by simp
  clear hb hk1 hk2 hW h1 h2
  go_enter Try.func20, Try.ntmps20
  go_wp2_with fail
  refine Calls.mono (unhide HP) ?_
  rintro e w1 ⟨rfl, b1⟩
  obtain ⟨⟨a0, a1, a2, a3, a4, a5, a6⟩, ⟨b0, b1', b2, b3, b4, b5, b6⟩, hB⟩ := unhide HC w1 b1
  have HB := hide hB
  clear b1 hB HP HC
  go_wp2
  go_ret
  exact ⟨by simp, unhide HB⟩
end Go.Proofs.Ytehnjanllemnlaa
