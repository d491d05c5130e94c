/- Texts of ours, one behind the other: BatMay3, BatMay4a, BatMay4, BatRef1, BatRef2, BatRef3. -/
import Derived.Test.YtpampknbbpjkiaaG7
import Derived.Test.YtpampknbbpjkiaaG8
import Derived.Deep.RegionHeld3
import Derived.Laws.EntriesVeiled
/- The landed package batch: which records may be. -/
namespace Go.Proofs.Ytpampknbbpjkiaa
open Go.RowKit

set_option maxRecDepth 20000 in
set_option maxHeartbeats 2000000 in
theorem bmaybatch_any (r : Rcd) (v : Value) (w : World) (hl : CL w v r.chg) : Calls Try.prog 64 #[.agg (rcdA r v)] w fun e w' => e = .returned (.bool (mayBat r)) ∧ Below w.heap.size w w' := by
  obtain ⟨kind, seq, chg, mser, frm, to, n⟩ := r
  simp only at hl
  unfold mayBat rcdA zeroMove
  simp only
  obtain ⟨p, c, rfl, hc1, hc2, hc3⟩ := KRow.shape hl
  have HB : Hid (∀ o w', Below (w.alloc o).heap.size (w.alloc o) w' → Below w.heap.size w w') := fun o w' hb => ((Below.refl w.heap.size w).alloc (Nat.le_refl _) o).trans (hb.mono (by simp))
  have HB0 : Hid (∀ o, Below w.heap.size w (w.alloc o)) := fun o => (Below.refl w.heap.size w).alloc (Nat.le_refl _) o
  have HMC := hide (fun o => bmaychanges_any _ chg (w.alloc o) (hl.below ((Below.refl w.heap.size w).alloc (Nat.le_refl _) o)))
  generalize chg.length = L at *
  have hcell : ∀ (x : Value) (w' : World) (i : Nat), i < 7 → ∀ o, o = Obj.cells #[.int .i64 kind, .int .u64 (seq : Int), .slice p L c, .int .u64 (mser : Int), .int .i64 frm, .int .i64 to, .int .i64 n] 79 → Below (w.alloc o).heap.size (w.alloc o) w' → (w.alloc o).cell? ⟨w.heap.size, i, none⟩ = some x → w'.cell? ⟨w.heap.size, i, none⟩ = some x := fun x w' i hi o ho hb h => (hb.cell (World.block_lt_of_cell? _ _ h)).trans h
  have HCL := hide hcell
  clear hl hcell
  generalize riseB chg = R at *
  go_enter Try.func64, Try.ntmps64
  go_wp2_with (first
    | (go_at_call 80; refine Calls.mono (bwithin_any _ _ _ _) ?_; rintro e w1 ⟨rfl, rfl⟩)
    | (go_at_call 81; refine Calls.mono (unhide HMC _) ?_; rintro e w1 ⟨rfl, hb1⟩; have k3 := unhide HCL (.int .u64 (mser : Int)) w1 3 (by omega) _ rfl hb1 (by simp); have k4 := unhide HCL (.int .i64 frm) w1 4 (by omega) _ rfl hb1 (by simp); have k5 := unhide HCL (.int .i64 to) w1 5 (by omega) _ rfl hb1 (by simp); have k6 := unhide HCL (.int .i64 n) w1 6 (by omega) _ rfl hb1 (by simp); have HB1 := hide (unhide HB _ _ hb1); clear hb1; cases R))
  all_goals
    go_ret
    refine ⟨?_, by first | exact unhide HB1 | exact unhide HB0 _⟩
    simp <;> omega

set_option maxRecDepth 20000 in
set_option maxHeartbeats 2000000 in
theorem bmaymove_any (r : Rcd) (v : Value) (w : World) (hl : CL w v r.chg) : Calls Try.prog 67 #[.agg (rcdA r v)] w fun e w' => e = .returned (.bool (mayMov r)) ∧ Below w.heap.size w w' := by
  obtain ⟨kind, seq, chg, mser, frm, to, n⟩ := r
  simp only at hl
  unfold mayMov rcdA
  simp only
  obtain ⟨p, c, rfl, hc1, hc2, hc3⟩ := KRow.shape hl
  have HB0 : Hid (∀ o o', Below w.heap.size w ((w.alloc o).alloc o')) := fun o o' => ((Below.refl w.heap.size w).alloc (Nat.le_refl _) o).alloc (by simp) o'
  generalize chg.length = L at *
  clear hl
  go_enter Try.func67, Try.ntmps67
  go_wp2_with (first
    | (go_at_call 80; refine Calls.mono (bwithin_any _ _ _ _) ?_; rintro e w1 ⟨rfl, rfl⟩)
    | (go_at_call 87; refine Calls.mono (bmayplace_any _ _) ?_; rintro e w1 ⟨rfl, rfl⟩))
  all_goals
    go_ret
    refine ⟨?_, unhide HB0 _ _⟩
    simp
    all_goals first
      | omega
      | (have h2 : (frm != to) = true := by (simp; omega)
         have h1 : 1 ≤ mser := by omega
         rw [h2]
         simp [*])


/-- The table of kinds. -/
def kindV1 : Value := .agg #[.func (.func 64) #[] #[], .func (.func 65) #[] #[], .func (.func 66) #[] #[]]
def kindV2 : Value := .agg #[.func (.func 67) #[] #[], .func (.func 68) #[] #[], .func (.func 69) #[] #[]]
set_option maxRecDepth 20000 in
set_option maxHeartbeats 2000000 in
theorem kinds_any (w : World) : Calls Try.prog 46 #[] w fun e w' => e = .returned (.map (some w.heap.size)) ∧ MapIs Try.prog 3 w' w.heap.size 2 (fun x => if x = 2 then some kindV2 else if x = 1 then some kindV1 else none) ∧ Below w.heap.size w w' := by
  have hmk : ∀ w, (Instr.makeMap 77 none).run Try.prog w = .ok (.map (some w.heap.size)) (w.alloc (.map #[] 0)) := fun _ => rfl
  have m0 := MapIs.made Try.prog 3 w
  obtain ⟨w1, hr1, m1, g1⟩ := m0.put (t := 77) (e := 76) Try.underlying3 Try.underlying77 (by unfold maxLen; omega) 1 rfl kindV1
  obtain ⟨w2, hr2, m2, g2⟩ := m1.put (t := 77) (e := 76) Try.underlying3 Try.underlying77 (by unfold maxLen; omega) 2 rfl kindV2
  have hb : Below w.heap.size w w2 := by
    have h0 : Below w.heap.size w (w.alloc (.map #[] 0)) := (Below.refl _ _).alloc (Nat.le_refl _) _
    have h1 := h0.grown g1 (by simp) (fun k hk => by simp at hk; omega)
    exact h1.grown g2 h1.size (fun k hk => by simp at hk; omega)
  have H := hide (And.intro m2 hb)
  clear m0 m1 m2 g1 g2 hb
  unfold kindV1 at hr1
  unfold kindV2 at hr2
  go_enter Try.func46, Try.ntmps46
  go_wp2
  go_ret
  exact ⟨rfl, unhide H⟩
end Go.Proofs.Ytpampknbbpjkiaa

/- The landed package batch: May. -/
namespace Go.Proofs.Ytpampknbbpjkiaa
open Go.RowKit

theorem wf_of_i64 {a : Int} (h0 : -9223372036854775808 ≤ a) (h1 : a ≤ 9223372036854775807) : (Lit.int .i64 a).wf = true := by
  simp only [Lit.wf, Bool.and_eq_true]
  exact ⟨decide_eq_true h0, decide_eq_true h1⟩
def kindsF (x : Int) : Option Value := if x = 2 then some kindV2 else if x = 1 then some kindV1 else none
theorem zero_of_inf {P : Program} {t : TypeId} {z : Value} (h : (P.info? t).bind (·.zero) = some z) (w : World) : (zeroValue t).run P w = .ok z w := by
  unfold zeroValue typeInfo
  cases hi : P.info? t with
  | none => rw [hi] at h; cases h
  | some i => rw [hi] at h; simp only [Option.bind_some] at h; simp [hi, h]
theorem zero_kind (w : World) : (zeroValue 76).run Try.prog w = .ok (.agg #[.nilFunc, .nilFunc, .nilFunc]) w := zero_of_inf (by kernel_rfl) w
theorem seven_cells {w : World} {g e : Nat} {a b c d x y z : Value} (h : w.heap[g]? = some (.cells #[a, b, c, d, x, y, z] e (0, 0))) :
    w.cell? ⟨g, 0, none⟩ = some a ∧ w.cell? ⟨g, 1, none⟩ = some b ∧ w.cell? ⟨g, 2, none⟩ = some c ∧ w.cell? ⟨g, 3, none⟩ = some d ∧ w.cell? ⟨g, 4, none⟩ = some x ∧ w.cell? ⟨g, 5, none⟩ = some y ∧ w.cell? ⟨g, 6, none⟩ = some z := by
  refine ⟨?_, ?_, ?_, ?_, ?_, ?_, ?_⟩
  all_goals (rw [cell_of_row w g _ _ e (0, 0) h]; rfl)

theorem alloc_keeps {w : World} {k : Nat} (h : k < w.heap.size) (o : Obj) : (w.alloc o).heap[k]? = w.heap[k]? := ((Below.refl w.heap.size w).alloc (Nat.le_refl _) o).block k h
theorem look_1 {w1 : World} {g : Nat} (hm : MapIs Try.prog 3 w1 g 2 (fun x => if x = 2 then some kindV2 else if x = 1 then some kindV1 else none)) : (Instr.lookup 77 (.map (some g)) (.int .i64 1) true).run Try.prog w1 = .ok (.tuple #[.agg #[.func (.func 64) #[] #[], .func (.func 65) #[] #[], .func (.func 66) #[] #[]], .bool true]) w1 := by
  rw [hm.look (t := 77) (e := 76) Try.underlying3 Try.underlying77 (zero_kind w1) 1 rfl]
  rfl
theorem look_2 {w1 : World} {g : Nat} (hm : MapIs Try.prog 3 w1 g 2 (fun x => if x = 2 then some kindV2 else if x = 1 then some kindV1 else none)) : (Instr.lookup 77 (.map (some g)) (.int .i64 2) true).run Try.prog w1 = .ok (.tuple #[.agg #[.func (.func 67) #[] #[], .func (.func 68) #[] #[], .func (.func 69) #[] #[]], .bool true]) w1 := by
  rw [hm.look (t := 77) (e := 76) Try.underlying3 Try.underlying77 (zero_kind w1) 2 rfl]
  rfl
theorem look_0 {w1 : World} {g : Nat} (hm : MapIs Try.prog 3 w1 g 2 (fun x => if x = 2 then some kindV2 else if x = 1 then some kindV1 else none)) (x : Int) (h1 : x ≠ 1) (h2 : x ≠ 2) (hk0 : -9223372036854775808 ≤ x) (hk1 : x ≤ 9223372036854775807) : (Instr.lookup 77 (.map (some g)) (.int .i64 x) true).run Try.prog w1 = .ok (.tuple #[.agg #[.nilFunc, .nilFunc, .nilFunc], .bool false]) w1 := by
  rw [hm.look (t := 77) (e := 76) Try.underlying3 Try.underlying77 (zero_kind w1) x (wf_of_i64 hk0 hk1)]
  simp [h1, h2]

/-- The table of kinds, made where a variable of the caller's is, or a variable more. -/
theorem kinds_in (W : World) {g : Nat} {v : Value} (d0 : W.cell? ⟨g, 0, none⟩ = some v) :
    Calls Try.prog 46 #[] W (fun e w' => e = .returned (.map (some W.heap.size)) ∧ (∀ i u, W.cell? ⟨g, i, none⟩ = some u → w'.cell? ⟨g, i, none⟩ = some u) ∧ (∀ i u, W.cell? ⟨g, i, none⟩ = some u → ∀ o, (w'.alloc o).cell? ⟨g, i, none⟩ = some u) ∧ MapIs Try.prog 3 w' W.heap.size 2 (fun x => if x = 2 then some kindV2 else if x = 1 then some kindV1 else none) ∧ Below W.heap.size W w') ∧
    Calls Try.prog 46 #[] (W.alloc (.cells #[.nilFunc, .nilFunc, .nilFunc] 76)) (fun e w' => e = .returned (.map (some (W.heap.size + 1))) ∧ (∀ i u, W.cell? ⟨g, i, none⟩ = some u → w'.cell? ⟨g, i, none⟩ = some u) ∧ (∀ i u, W.cell? ⟨g, i, none⟩ = some u → ∀ o, (w'.alloc o).cell? ⟨g, i, none⟩ = some u) ∧
      w'.cell? ⟨W.heap.size, 0, none⟩ = some .nilFunc ∧ w'.cell? ⟨W.heap.size, 1, none⟩ = some .nilFunc ∧ w'.cell? ⟨W.heap.size, 2, none⟩ = some .nilFunc ∧ w'.frozen? ⟨W.heap.size, 0, none⟩ = false ∧ w'.frozen? ⟨W.heap.size, 1, none⟩ = false ∧ w'.frozen? ⟨W.heap.size, 2, none⟩ = false ∧
      MapIs Try.prog 3 w' (W.heap.size + 1) 2 (fun x => if x = 2 then some kindV2 else if x = 1 then some kindV1 else none) ∧ Below W.heap.size W w') := by
  have hg := World.block_lt_of_cell? _ _ d0
  refine ⟨(kinds_any W).mono fun e w' ⟨h1, h2, h3⟩ => ⟨h1, fun i u hu => (h3.cell (p := ⟨g, i, none⟩) hg).trans hu, fun i u hu o => (((Below.refl w'.heap.size w').alloc (Nat.le_refl _) o).cell (p := ⟨g, i, none⟩) (by have h9 : g < W.heap.size := hg; have := h2.lt; show g < w'.heap.size; omega)).trans ((h3.cell (p := ⟨g, i, none⟩) hg).trans hu), h2, h3⟩, ?_⟩
  have hb : Below W.heap.size W (W.alloc (.cells #[.nilFunc, .nilFunc, .nilFunc] 76)) := (Below.refl _ _).alloc (Nat.le_refl _) _
  have hs : (W.alloc (.cells #[.nilFunc, .nilFunc, .nilFunc] 76)).heap.size = W.heap.size + 1 := by simp
  have k := kinds_any (W.alloc (.cells #[.nilFunc, .nilFunc, .nilFunc] 76))
  rw [hs] at k
  refine k.mono fun e w' ⟨h1, h2, h3⟩ => ?_
  have hbl : w'.heap[W.heap.size]? = some (.cells #[.nilFunc, .nilFunc, .nilFunc] 76 (0, 0)) := (h3.block W.heap.size (by omega)).trans (by show (W.heap.push _)[W.heap.size]? = _; simp)
  have hc := fun i => cell_of_row w' W.heap.size i _ _ (0, 0) hbl
  have hf : ∀ i, w'.frozen? ⟨W.heap.size, i, none⟩ = false := fun i => frozen_of_block hbl
  have hg' : g < W.heap.size := hg
  exact ⟨h1, fun i u hu => (h3.cell (p := ⟨g, i, none⟩) (by show g < W.heap.size + 1; omega)).trans ((hb.cell (p := ⟨g, i, none⟩) hg).trans hu), fun i u hu o => (((Below.refl w'.heap.size w').alloc (Nat.le_refl _) o).cell (p := ⟨g, i, none⟩) (by have := h2.lt; show g < w'.heap.size; omega)).trans ((h3.cell (p := ⟨g, i, none⟩) (by show g < W.heap.size + 1; omega)).trans ((hb.cell (p := ⟨g, i, none⟩) hg).trans hu)), hc 0, hc 1, hc 2, hf 0, hf 1, hf 2, h2, hb.trans (h3.mono (by omega))⟩

end Go.Proofs.Ytpampknbbpjkiaa

/- The landed package batch: May. -/
namespace Go.Proofs.Ytpampknbbpjkiaa
open Go.RowKit

set_option maxRecDepth 20000 in
set_option maxHeartbeats 4000000 in
theorem bmay_any (r : Rcd) (v : Value) (w : World) (hl : CL w v r.chg) (hk0 : -9223372036854775808 ≤ r.kind) (hk1 : r.kind ≤ 9223372036854775807) : Calls Try.prog 22 #[.agg (rcdA r v)] w fun e w' => e = .returned (.bool (mayRcd r)) ∧ Below w.heap.size w w' := by
  obtain ⟨p, c, rfl, hc1, hc2, hc3⟩ := KRow.shape hl
  have HL := hide (fun w' (hb : Below w.heap.size w w') => hl.below hb)
  have HMB := hide (fun w' (hb : Below w.heap.size w w') => bmaybatch_any r _ w' (hl.below hb))
  have HMM := hide (fun w' (hb : Below w.heap.size w w') => bmaymove_any r _ w' (hl.below hb))
  have e0 : ∀ o, Below w.heap.size w (w.alloc o) := fun o => (Below.refl w.heap.size w).alloc (Nat.le_refl _) o
  obtain ⟨o, ho⟩ : ∃ o, o = Obj.cells (rcdA r (.slice p r.chg.length c)) 39 := ⟨_, rfl⟩
  have hblk : (w.alloc o).heap[w.heap.size]? = some o := by show (w.heap.push o)[w.heap.size]? = some o; simp
  have HBLK := hide hblk
  have HO := hide ho
  have HE0 := hide (e0 o)
  unfold mayRcd
  generalize mayBat r = MB at *
  generalize mayMov r = MM at *
  have HK := hide (fun w => kinds_any w)
  clear e0 hblk
  unfold rcdA at *
  by_cases k1 : r.kind = 1
  · rw [if_pos k1]
    obtain ⟨kind, seq, chg, mser, frm, to, n⟩ := r
    simp only at *
    subst k1
    clear hl
    generalize chg.length = L at *
    subst ho
    go_enter Try.func22, Try.ntmps22
    have HSZ : Hid (∀ o : Obj, (w.alloc o).drew.heap.size = w.heap.size + 1) := fun o => by simp
    obtain ⟨W, hW⟩ : ∃ W, W = (w.alloc (.cells #[.int .i64 1, .int .u64 (seq : Int), .slice p L c, .int .u64 (mser : Int), .int .i64 frm, .int .i64 to, .int .i64 n] 39)).drew := ⟨_, rfl⟩
    obtain ⟨d0, d1, d2, d3, d4, d5, d6⟩ := seven_cells (w := W) (by rw [hW]; exact unhide HBLK)
    have hWs : W.heap.size = w.heap.size + 1 := by rw [hW]; simp
    have HW1 := hide (kinds_in W d0)
    rw [hWs] at HW1
    have HWB : Hid (∀ w1, Below (w.heap.size + 1) W w1 → Below w.heap.size w w1) := fun w1 hb => by rw [hW] at hb; exact ((unhide HE0).drew).trans (hb.mono (by omega))
    rw [hW] at HW1 HWB d0 d1 d2 d3 d4 d5 d6
    clear hW
    go_wp2_with fail
    go_region_held3 (fun w' => w'.cell? ⟨w.heap.size, 0, none⟩ = some (.int .i64 1)) (first | assumption | go_keep)
      (first
        | (go_at_call 46; refine Calls.mono (unhide HW1).1 ?_; rintro x w1 ⟨rfl, hx, hy, hm1, b1⟩; have y0 := hy _ _ d0; have y1 := hy _ _ d1; have y2 := hy _ _ d2; have y3 := hy _ _ d3; have y4 := hy _ _ d4; have y5 := hy _ _ d5; have y6 := hy _ _ d6; have x0 := hx _ _ d0; have x1 := hx _ _ d1; have x2 := hx _ _ d2; have x3 := hx _ _ d3; have x4 := hx _ _ d4; have x5 := hx _ _ d5; have x6 := hx _ _ d6; have hlk := look_1 hm1; have hlk2 := fun o => look_1 (hm1.stays (w' := w1.alloc o) (alloc_keeps hm1.lt o)); have HB1 := hide (unhide HWB _ b1); clear b1 hm1 hx hy)
        | (go_at_call 46; refine Calls.mono (unhide HW1).2 ?_; rintro x w1 ⟨rfl, hx, hy, q0, q1, q2, f0, f1, f2, hm1, b1⟩; have x0 := hx _ _ d0; have x1 := hx _ _ d1; have x2 := hx _ _ d2; have x3 := hx _ _ d3; have x4 := hx _ _ d4; have x5 := hx _ _ d5; have x6 := hx _ _ d6; have hlk := look_1 hm1; have HB1 := hide (unhide HWB _ b1); clear b1 hm1 hx hy))
    all_goals
      go_wp2_with (first | (go_at_call 64; refine Calls.mono (unhide HMB _ (by first | exact (unhide HB1).alloc (unhide HB1).size _ | exact (((unhide HB1).setCell (p := ⟨w.heap.size + 1, 0, none⟩) (by simp) _).setCell (p := ⟨w.heap.size + 1, 1, none⟩) (by simp) _).setCell (p := ⟨w.heap.size + 1, 2, none⟩) (by simp) _)) ?_; rintro x w2 ⟨rfl, b2⟩))
      go_ret
      refine ⟨rfl, ?_⟩
      first | exact ((unhide HB1).alloc (unhide HB1).size _).trans (b2.mono ((unhide HB1).alloc (unhide HB1).size _).size) | exact ((((unhide HB1).setCell (p := ⟨w.heap.size + 1, 0, none⟩) (by simp) _).setCell (p := ⟨w.heap.size + 1, 1, none⟩) (by simp) _).setCell (p := ⟨w.heap.size + 1, 2, none⟩) (by simp) _).trans (b2.mono (by simpa using (unhide HB1).size))
  · rw [if_neg k1]
    by_cases k2 : r.kind = 2
    · rw [if_pos k2]
      obtain ⟨kind, seq, chg, mser, frm, to, n⟩ := r
      simp only at *
      subst k2
      clear hl
      generalize chg.length = L at *
      subst ho
      go_enter Try.func22, Try.ntmps22
      have HSZ : Hid (∀ o : Obj, (w.alloc o).drew.heap.size = w.heap.size + 1) := fun o => by simp
      obtain ⟨W, hW⟩ : ∃ W, W = (w.alloc (.cells #[.int .i64 2, .int .u64 (seq : Int), .slice p L c, .int .u64 (mser : Int), .int .i64 frm, .int .i64 to, .int .i64 n] 39)).drew := ⟨_, rfl⟩
      obtain ⟨d0, d1, d2, d3, d4, d5, d6⟩ := seven_cells (w := W) (by rw [hW]; exact unhide HBLK)
      have hWs : W.heap.size = w.heap.size + 1 := by rw [hW]; simp
      have HW1 := hide (kinds_in W d0)
      rw [hWs] at HW1
      have HWB : Hid (∀ w1, Below (w.heap.size + 1) W w1 → Below w.heap.size w w1) := fun w1 hb => by rw [hW] at hb; exact ((unhide HE0).drew).trans (hb.mono (by omega))
      rw [hW] at HW1 HWB d0 d1 d2 d3 d4 d5 d6
      clear hW
      go_wp2_with fail
      go_region_held3 (fun w' => w'.cell? ⟨w.heap.size, 0, none⟩ = some (.int .i64 2)) (first | assumption | go_keep)
        (first
          | (go_at_call 46; refine Calls.mono (unhide HW1).1 ?_; rintro x w1 ⟨rfl, hx, hy, hm1, b1⟩; have y0 := hy _ _ d0; have y1 := hy _ _ d1; have y2 := hy _ _ d2; have y3 := hy _ _ d3; have y4 := hy _ _ d4; have y5 := hy _ _ d5; have y6 := hy _ _ d6; have x0 := hx _ _ d0; have x1 := hx _ _ d1; have x2 := hx _ _ d2; have x3 := hx _ _ d3; have x4 := hx _ _ d4; have x5 := hx _ _ d5; have x6 := hx _ _ d6; have hlk := look_2 hm1; have hlk2 := fun o => look_2 (hm1.stays (w' := w1.alloc o) (alloc_keeps hm1.lt o)); have HB1 := hide (unhide HWB _ b1); clear b1 hm1 hx hy)
          | (go_at_call 46; refine Calls.mono (unhide HW1).2 ?_; rintro x w1 ⟨rfl, hx, hy, q0, q1, q2, f0, f1, f2, hm1, b1⟩; have x0 := hx _ _ d0; have x1 := hx _ _ d1; have x2 := hx _ _ d2; have x3 := hx _ _ d3; have x4 := hx _ _ d4; have x5 := hx _ _ d5; have x6 := hx _ _ d6; have hlk := look_2 hm1; have HB1 := hide (unhide HWB _ b1); clear b1 hm1 hx hy))
      all_goals
        go_wp2_with (first | (go_at_call 67; refine Calls.mono (unhide HMM _ (by first | exact (unhide HB1).alloc (unhide HB1).size _ | exact (((unhide HB1).setCell (p := ⟨w.heap.size + 1, 0, none⟩) (by simp) _).setCell (p := ⟨w.heap.size + 1, 1, none⟩) (by simp) _).setCell (p := ⟨w.heap.size + 1, 2, none⟩) (by simp) _)) ?_; rintro x w2 ⟨rfl, b2⟩))
        go_ret
        refine ⟨rfl, ?_⟩
        first | exact ((unhide HB1).alloc (unhide HB1).size _).trans (b2.mono ((unhide HB1).alloc (unhide HB1).size _).size) | exact ((((unhide HB1).setCell (p := ⟨w.heap.size + 1, 0, none⟩) (by simp) _).setCell (p := ⟨w.heap.size + 1, 1, none⟩) (by simp) _).setCell (p := ⟨w.heap.size + 1, 2, none⟩) (by simp) _).trans (b2.mono (by simpa using (unhide HB1).size))
    · rw [if_neg k2]
      obtain ⟨kind, seq, chg, mser, frm, to, n⟩ := r
      simp only at *
      clear hl
      generalize chg.length = L at *
      subst ho
      go_enter Try.func22, Try.ntmps22
      have HSZ : Hid (∀ o : Obj, (w.alloc o).drew.heap.size = w.heap.size + 1) := fun o => by simp
      obtain ⟨W, hW⟩ : ∃ W, W = (w.alloc (.cells #[.int .i64 kind, .int .u64 (seq : Int), .slice p L c, .int .u64 (mser : Int), .int .i64 frm, .int .i64 to, .int .i64 n] 39)).drew := ⟨_, rfl⟩
      obtain ⟨d0, d1, d2, d3, d4, d5, d6⟩ := seven_cells (w := W) (by rw [hW]; exact unhide HBLK)
      have hWs : W.heap.size = w.heap.size + 1 := by rw [hW]; simp
      have HW1 := hide (kinds_in W d0)
      rw [hWs] at HW1
      have HWB : Hid (∀ w1, Below (w.heap.size + 1) W w1 → Below w.heap.size w w1) := fun w1 hb => by rw [hW] at hb; exact ((unhide HE0).drew).trans (hb.mono (by omega))
      rw [hW] at HW1 HWB d0 d1 d2 d3 d4 d5 d6
      clear hW
      go_wp2_with fail
      go_region_held3 (fun w' => w'.cell? ⟨w.heap.size, 0, none⟩ = some (.int .i64 kind)) (first | assumption | go_keep)
        (first
          | (go_at_call 46; refine Calls.mono (unhide HW1).1 ?_; rintro x w1 ⟨rfl, hx, hy, hm1, b1⟩; have y0 := hy _ _ d0; have y1 := hy _ _ d1; have y2 := hy _ _ d2; have y3 := hy _ _ d3; have y4 := hy _ _ d4; have y5 := hy _ _ d5; have y6 := hy _ _ d6; have x0 := hx _ _ d0; have x1 := hx _ _ d1; have x2 := hx _ _ d2; have x3 := hx _ _ d3; have x4 := hx _ _ d4; have x5 := hx _ _ d5; have x6 := hx _ _ d6; have hlk := look_0 hm1 kind k1 k2 hk0 hk1; have hlk2 := fun o => look_0 (hm1.stays (w' := w1.alloc o) (alloc_keeps hm1.lt o)) kind k1 k2 hk0 hk1; have HB1 := hide (unhide HWB _ b1); clear b1 hm1 hx hy)
          | (go_at_call 46; refine Calls.mono (unhide HW1).2 ?_; rintro x w1 ⟨rfl, hx, hy, q0, q1, q2, f0, f1, f2, hm1, b1⟩; have x0 := hx _ _ d0; have x1 := hx _ _ d1; have x2 := hx _ _ d2; have x3 := hx _ _ d3; have x4 := hx _ _ d4; have x5 := hx _ _ d5; have x6 := hx _ _ d6; have hlk := look_0 hm1 kind k1 k2 hk0 hk1; have HB1 := hide (unhide HWB _ b1); clear b1 hm1 hx hy))
      all_goals
        go_wp2
        go_ret
        refine ⟨rfl, ?_⟩
        first | exact (unhide HB1).alloc (unhide HB1).size _ | exact ((unhide HB1).setCell (p := ⟨w.heap.size + 1, 0, none⟩) (by simp) _).setCell (p := ⟨w.heap.size + 1, 1, none⟩) (by simp) _ | exact (((unhide HB1).setCell (p := ⟨w.heap.size + 1, 0, none⟩) (by simp) _).setCell (p := ⟨w.heap.size + 1, 1, none⟩) (by simp) _).setCell (p := ⟨w.heap.size + 1, 2, none⟩) (by simp) _
end Go.Proofs.Ytpampknbbpjkiaa

/- The reference of layer 10: which records may be. -/
namespace Go.Proofs.Ytpampknbbpjkiaa
open Go.RowKit

set_option maxRecDepth 20000 in
set_option maxHeartbeats 1000000 in
theorem rmayref_any (s : Nat) (p n : Int) (w : World) : Calls Try.prog 32 #[.agg #[.int .u64 (s : Int), .int .i64 p, .int .i64 n]] w fun e w' => e = .returned (.bool (mayRef s p n)) ∧ Below w.heap.size w w' := by
  have HB := hide (fun o => (Below.refl w.heap.size w).alloc (Nat.le_refl _) o)
  go_enter Try.func32, Try.ntmps32
  go_wp2
  all_goals
    go_ret
    refine ⟨?_, unhide HB _⟩
    simp [mayRef]
    all_goals first
      | omega
      | (have h1 : 1 ≤ s := by omega
         simp [*] <;> omega)

set_option maxRecDepth 20000 in
set_option maxHeartbeats 1000000 in
theorem rmaymove_any (s : Nat) (f t n : Int) (w : World) : Calls Try.prog 49 #[.agg #[.int .u64 (s : Int), .int .i64 f, .int .i64 t, .int .i64 n]] w fun e w' => e = .returned (.bool (decide (1 ≤ s) && (decide (0 ≤ f) && decide (f ≤ 65536)) && (decide (0 ≤ t) && decide (t ≤ 65536)) && decide (f ≠ t) && (decide (1 ≤ n) && decide (n ≤ 9)))) ∧ Below w.heap.size w w' := by
  have HB := hide (fun o => (Below.refl w.heap.size w).alloc (Nat.le_refl _) o)
  go_enter Try.func49, Try.ntmps49
  go_wp2
  all_goals
    go_ret
    refine ⟨?_, unhide HB _⟩
    simp
    all_goals first
      | omega
      | (have h2 : (f != t) = true := by (simp; omega)
         have h1 : 1 ≤ s := by omega
         rw [h2]
         simp [*])
      | (have h2 : ¬ f = t := by omega
         have h1 : 1 ≤ s := by omega
         simp [*] <;> omega)
end Go.Proofs.Ytpampknbbpjkiaa

/- The reference of layer 10: May. -/
namespace Go.Proofs.Ytpampknbbpjkiaa
open Go.RowKit

theorem neq_ref {s : Nat} {p n : Int} (h : zeroRef s p n = false) (W : World) : (binOp .neq 42 (.agg #[.int .u64 (s : Int), .int .i64 p, .int .i64 n]) (.agg #[.int .u64 0, .int .i64 0, .int .i64 0])).run Try.prog W = .ok (.bool true) W := by
  have hs : s ≠ 0 ∨ p ≠ 0 ∨ n ≠ 0 := by
    simp only [zeroRef, Bool.and_eq_false_iff, decide_eq_false_iff_not] at h
    omega
  clear h
  go_simp
  omega

set_option maxRecDepth 20000 in
set_option maxHeartbeats 4000000 in
theorem rmaybat_loop (r : Rcd) (v : Value) (w : World) (hl : CL w v r.chg) (hk : r.kind = 1) (h1 : 1 ≤ r.seq) (h2 : 1 ≤ r.chg.length) (h3 : r.chg.length ≤ 32) (h4 : zeroMove r = true) :
    Calls Try.prog 23 #[.agg (rcdA r v)] w fun e w' => e = .returned (.bool (riseB r.chg)) ∧ Below w.heap.size w w' := by
  obtain ⟨kind, seq, l, mser, frm, to, n⟩ := r
  simp only [zeroMove, Bool.and_eq_true, decide_eq_true_eq] at hl hk h1 h2 h3 h4
  obtain ⟨⟨⟨rfl, rfl⟩, rfl⟩, rfl⟩ := h4
  subst hk
  obtain ⟨b, off, cap, rfl, hc1, hc2, hcell⟩ := hl.open (by omega)
  have HC := hide (fun w' (hb : Below w.heap.size w w') j (hj : j < l.length) => show w'.cell? ⟨b, off + j * 5, none⟩ = some (.string l[j].key) ∧ w'.cell? ⟨b, off + j * 5 + 1, none⟩ = some (.int .u64 (l[j].ser : Int)) ∧
      w'.cell? ⟨b, off + j * 5 + 2, none⟩ = some (.int .i64 l[j].pos) ∧ w'.cell? ⟨b, off + j * 5 + 3, none⟩ = some (.int .i64 l[j].len) ∧ w'.cell? ⟨b, off + j * 5 + 4, none⟩ = some (.bool l[j].del) from by
    obtain ⟨a0, a1, a2, a3, a4⟩ := hcell j hj
    have hlt := World.block_lt_of_cell? w _ a0
    have hc := fun i => hb.cell (p := ⟨b, i, none⟩) hlt
    exact ⟨(hc _).trans a0, (hc _).trans a1, (hc _).trans a2, (hc _).trans a3, (hc _).trans a4⟩)
  have hl0 : (l.length : Int) ≤ 32 := by omega
  have hl1 : (1 : Int) ≤ l.length := by omega
  have hq1 : (1 : Int) ≤ seq := by omega
  unfold rcdA
  simp only
  have HB0 : Hid (Below w.heap.size w (w.alloc (.cells #[.int .i64 1, .int .u64 (seq : Int), .slice (some ⟨b, off, none⟩) l.length cap, .int .u64 ((0 : Nat) : Int), .int .i64 0, .int .i64 0, .int .i64 0] 39))) := (Below.refl _ _).alloc (Nat.le_refl _) _
  have HK0 : Hid ((w.alloc (.cells #[.int .i64 1, .int .u64 (seq : Int), .slice (some ⟨b, off, none⟩) l.length cap, .int .u64 ((0 : Nat) : Int), .int .i64 0, .int .i64 0, .int .i64 0] 39)).cell? ⟨w.heap.size, 2, none⟩ = some (.slice (some ⟨b, off, none⟩) l.length cap)) := by unfold Hid; simp
  rw [show ((0 : Nat) : Int) = 0 from rfl] at HB0 HK0 ⊢
  unfold maxLen at hc2
  clear hcell hl h1 h2 h3
  go_enter Try.func23, Try.ntmps23
  go_wp2_with fail
  go_loopw [3] (fun i wr => ∃ k : Nat, k ≤ l.length ∧ i = .int .i64 k ∧ Hid (∀ i (hi : i < l.length), i < k → mayChg l[i] = true ∧ (0 < i → tl (l[i - 1]'(by omega)).key.toList l[i].key.toList = true)) ∧ Hid (Below w.heap.size w wr) ∧ wr.cell? ⟨w.heap.size, 2, none⟩ = some (.slice (some ⟨b, off, none⟩) l.length cap)) (fun i _ => l.length - (intOf i).toNat)
  case atStart => exact ⟨0, Nat.zero_le _, rfl, fun i _ h => absurd h (by omega), HB0, unhide HK0⟩
  case round =>
    obtain ⟨k, hk, rfl, hp, hbel, hs2⟩ := hrel
    by_cases hlt : k < l.length
    · obtain ⟨a0, a1, a2, a3, a4⟩ := unhide HC wr (unhide hbel) k hlt
      have hkl : (k : Int) < l.length := by omega
      have HST := hide (fun h1 h2 => rise_step hlt (unhide hp) h1 h2)
      have HN1 := hide (fun (h1 : mayChg l[k] = false) => show riseB l = false from riseB_false (fun h => by have := (h k hlt).1; rw [h1] at this; cases this))
      have HN2 := hide (fun (h0 : 0 < k) (h1 : tl (l[k - 1]'(by omega)).key.toList l[k].key.toList = false) => show riseB l = false from riseB_false (fun h => by have := (h k hlt).2 h0; rw [h1] at this; cases this))
      have HPV := hide (fun (h0 : 0 < k) => (unhide HC wr (unhide hbel) (k - 1) (by omega)).1)
      have hM : mayChg l[k] = (kmayB l[k].key && (if l[k].del then zeroRef l[k].ser l[k].pos l[k].len else mayRef l[k].ser l[k].pos l[k].len)) := rfl
      generalize mayChg l[k] = M at *
      generalize hK : l[k] = C at *
      obtain ⟨key, ser, pos, len, del⟩ := C
      simp only at *
      obtain ⟨W1, hW1⟩ : ∃ W1, W1 = wr.alloc (.cells #[.string key, .int .u64 (ser : Int), .int .i64 pos, .int .i64 len, .bool del] 44) := ⟨_, rfl⟩
      have hb1 : Below wr.heap.size wr W1 := by rw [hW1]; exact (Below.refl _ _).alloc (Nat.le_refl _) _
      have hBW : Below w.heap.size w W1 := (unhide hbel).trans (hb1.mono (unhide hbel).size)
      have hn5 : W1.cell? ⟨wr.heap.size, 0, none⟩ = some (.string key) ∧ W1.cell? ⟨wr.heap.size, 1, none⟩ = some (.int .u64 (ser : Int)) ∧ W1.cell? ⟨wr.heap.size, 2, none⟩ = some (.int .i64 pos) ∧ W1.cell? ⟨wr.heap.size, 3, none⟩ = some (.int .i64 len) ∧ W1.cell? ⟨wr.heap.size, 4, none⟩ = some (.bool del) := by
        rw [hW1]; simp
      have hn2 : W1.cell? ⟨w.heap.size, 2, none⟩ = some (.slice (some ⟨b, off, none⟩) l.length cap) := (hb1.cell (World.block_lt_of_cell? wr _ hs2)).trans hs2
      obtain ⟨CC, hCC⟩ : ∃ CC : World → Prop, CC = fun w' => Below W1.heap.size W1 w' := ⟨_, rfl⟩
      have HC0 : Hid (CC { W1 with drawn := W1.drawn + 1 }) := by
        unfold Hid
        rw [hCC]
        exact (Below.refl _ _).drew
      have hW1l : wr.heap.size < W1.heap.size := World.block_lt_of_cell? W1 _ hn5.1
      have HCC : Hid (∀ w', CC w' → w'.cell? ⟨wr.heap.size, 0, none⟩ = some (.string key) ∧ w'.cell? ⟨wr.heap.size, 1, none⟩ = some (.int .u64 (ser : Int)) ∧ w'.cell? ⟨wr.heap.size, 2, none⟩ = some (.int .i64 pos) ∧ w'.cell? ⟨wr.heap.size, 3, none⟩ = some (.int .i64 len) ∧ w'.cell? ⟨wr.heap.size, 4, none⟩ = some (.bool del) ∧ w'.cell? ⟨w.heap.size, 2, none⟩ = some (.slice (some ⟨b, off, none⟩) l.length cap)) := by
        unfold Hid
        rw [hCC]
        intro w' hb
        have hc := fun i => hb.cell (p := ⟨wr.heap.size, i, none⟩) hW1l
        exact ⟨(hc _).trans hn5.1, (hc _).trans hn5.2.1, (hc _).trans hn5.2.2.1, (hc _).trans hn5.2.2.2.1, (hc _).trans hn5.2.2.2.2, (hb.cell (World.block_lt_of_cell? W1 _ hn2)).trans hn2⟩
      have HCW : Hid (∀ w', CC w' → Below w.heap.size w w') := by
        unfold Hid
        rw [hCC]
        exact fun w' hb => hBW.trans (hb.mono hBW.size)
      have HCP : Hid (∀ w' (h0 : 0 < k), CC w' → w'.cell? ⟨b, off + (k - 1) * 5, none⟩ = some (.string (l[k - 1]'(by omega)).key)) := by
        unfold Hid
        rw [hCC]
        intro w' h0 hb
        have c0 := unhide HPV h0
        have c1 := (hb1.cell (World.block_lt_of_cell? wr _ c0)).trans c0
        exact (hb.cell (World.block_lt_of_cell? W1 _ c1)).trans c1
      have HUP : Hid (∀ w' w'', CC w' → Below w'.heap.size w' w'' → CC w'') := by
        unfold Hid
        rw [hCC]
        exact fun w' w'' h hb => h.trans (hb.mono h.size)
      have HKM : Hid (∀ w', CC w' → Calls Try.prog 42 #[.string key] w' fun e w'' => e = .returned (.bool (kmayB key)) ∧ CC w'') := fun w' hw => (rmay_any key w').mono fun e w'' hx => ⟨hx.1, by rw [hx.2]; exact hw⟩
      have HMR : Hid (∀ w', CC w' → Calls Try.prog 32 #[.agg #[.int .u64 (ser : Int), .int .i64 pos, .int .i64 len]] w' fun e w'' => e = .returned (.bool (mayRef ser pos len)) ∧ CC w'') := fun w' hw => (rmayref_any ser pos len w').mono fun e w'' hx => ⟨hx.1, unhide HUP w' w'' hw hx.2⟩
      have HLS : Hid (∀ w' (h0 : 0 < k), CC w' → (l[k - 1]'(by omega)).key.size ≤ 140737488351232 → Calls Try.prog 45 #[.string (l[k - 1]'(by omega)).key, .string key] w' fun e w'' => e = .returned (.bool (tl (l[k - 1]'(by omega)).key.toList key.toList)) ∧ CC w'') := fun w' h0 hw hsz => (rless_any _ key w' hsz).mono fun e w'' hx => ⟨hx.1, unhide HUP w' w'' hw hx.2⟩
      have HKS : Hid (∀ (h0 : 0 < k), (l[k - 1]'(by omega)).key.size ≤ 140737488351232) := fun h0 => by
        have := (unhide hp (k - 1) (by omega) (by omega)).1
        simp only [mayChg, Bool.and_eq_true, kmayB, decide_eq_true_eq] at this
        omega
      clear hCC hn5 hb1 hBW HPV hW1l hK hn2
      have HW1 := hide hW1
      clear hW1
      cases hKK : kmayB key with
      | false =>
        have HN := hide (unhide HN1 (by rw [hM, hKK]; rfl))
        rw [hKK] at HKM
        clear HN1 HN2 HST HCP hM hKK HLS HKS
        go_wp2_with fail
        rw [← unhide HW1]
        refine region_calm CC (by kernel_rfl) (by kernel_rfl) (unhide HC0) ?_
        repeat (first
          | go_big_quiet_skip
          | (go_big_quiet_want
             apply Exists.intro
             refine ⟨fun w' hw' => ?_, ?_⟩
             · obtain ⟨c0, c1, c2, c3, c4, c5⟩ := unhide HCC w' hw'
               go_simp
               first | done | rfl | exact unhide HKM w' hw' | exact unhide HMR w' hw'
             simp only [Act.put, List.setIfInBounds_toArray, List.set_cons_zero, List.set_cons_succ]
             go_big_quiet_on))
        refine wpQuiet_nil ?_
        intro w' hw'
        have HBW := hide (unhide HCW w' hw')
        go_wp2
        go_ret
        exact ⟨by rw [unhide HN]; rfl, unhide HBW⟩
      | true =>
        rw [hKK] at HKM
        cases del with
        | true =>
          cases hZ : zeroRef ser pos len with
          | false =>
            have HN := hide (unhide HN1 (by rw [hM, hKK, hZ]; rfl))
            have hne := neq_ref hZ
            clear HN1 HN2 HST HCP hM hKK HLS HKS hZ
            go_wp2_with fail
            rw [← unhide HW1]
            refine region_calm CC (by kernel_rfl) (by kernel_rfl) (unhide HC0) ?_
            repeat (first
              | go_big_quiet_skip
              | (go_big_quiet_want
                 apply Exists.intro
                 refine ⟨fun w' hw' => ?_, ?_⟩
                 · obtain ⟨c0, c1, c2, c3, c4, c5⟩ := unhide HCC w' hw'
                   go_simp
                   first | done | rfl | exact unhide HKM w' hw' | exact unhide HMR w' hw'
                 simp only [Act.put, List.setIfInBounds_toArray, List.set_cons_zero, List.set_cons_succ]
                 go_big_quiet_on))
            refine wpQuiet_nil ?_
            intro w' hw'
            have HBW := hide (unhide HCW w' hw')
            go_wp2
            go_ret
            exact ⟨by rw [unhide HN]; rfl, unhide HBW⟩
          | true =>
            have hMT : M = true := by rw [hM, hKK, hZ]; rfl
            simp only [zeroRef, Bool.and_eq_true, decide_eq_true_eq] at hZ
            obtain ⟨⟨rfl, rfl⟩, rfl⟩ := hZ
            have hne : ∀ W : World, (binOp .neq 42 (.agg #[.int .u64 ((0 : Nat) : Int), .int .i64 0, .int .i64 0]) (.agg #[.int .u64 0, .int .i64 0, .int .i64 0])).run Try.prog W = .ok (.bool false) W := fun _ => by kernel_rfl
            rw [show ((0 : Nat) : Int) = 0 from rfl] at *
            have HMT := hide hMT
            clear hM hMT hKK
            by_cases hk0 : k = 0
            · subst hk0
              simp only [Nat.zero_mul, Nat.add_zero] at a0 a1 a2 a3 a4
              have HS := hide (unhide HST (unhide HMT) (fun h => absurd h (by omega)))
              clear HN1 HN2 HST HCP HLS HKS
              go_wp2_with fail
              rw [← unhide HW1]
              refine region_calm CC (by kernel_rfl) (by kernel_rfl) (unhide HC0) ?_
              repeat (first
                | go_big_quiet_skip
                | (go_big_quiet_want
                   apply Exists.intro
                   refine ⟨fun w' hw' => ?_, ?_⟩
                   · obtain ⟨c0, c1, c2, c3, c4, c5⟩ := unhide HCC w' hw'
                     go_simp
                     first | done | rfl | exact unhide HKM w' hw' | exact unhide HMR w' hw'
                   simp only [Act.put, List.setIfInBounds_toArray, List.set_cons_zero, List.set_cons_succ]
                   go_big_quiet_on))
              refine wpQuiet_nil ?_
              intro w' hw'
              have HBW := hide (unhide HCW w' hw')
              have s2 := (unhide HCC w' hw').2.2.2.2.2
              go_wp2
              go_roundw
              case rel => exact ⟨0 + 1, by omega, by go_num, unhide HS, HBW, s2⟩
              case measure => simp [intOf]; omega
            · obtain ⟨m, rfl⟩ : ∃ m, k = m + 1 := ⟨k - 1, by omega⟩
              have HKS2 := hide (unhide HKS (by omega))
              simp only [Nat.add_sub_cancel] at HCP HST HN2 HLS HKS2
              have HCP2 := hide (fun w' hw => unhide HCP w' (by omega) hw)
              have HLS2 := hide (fun w' hw => unhide HLS w' (by omega) hw (unhide HKS2))
              have hm1 : (m : Int) < l.length := by omega
              have hwm : IntKind.i64.wrap (m : Int) = m := by rw [IntKind.wrap_i64]; omega
              cases hT : tl (l[m]'(by omega)).key.toList key.toList with
              | false =>
                have HN := hide (unhide HN2 (by omega) hT)
                rw [hT] at HLS2
                generalize (l[m]'(by omega)).key = KM at *
                clear HN1 HN2 HST HCP hT HLS HKS HKS2
                go_wp2_with fail
                rw [← unhide HW1]
                refine region_calm CC (by kernel_rfl) (by kernel_rfl) (unhide HC0) ?_
                repeat (first
                  | go_big_quiet_skip
                  | (go_big_quiet_want
                     apply Exists.intro
                     refine ⟨fun w' hw' => ?_, ?_⟩
                     · obtain ⟨c0, c1, c2, c3, c4, c5⟩ := unhide HCC w' hw'
                       have c6 := unhide HCP2 w' hw'
                       go_simp
                       first | done | rfl | exact unhide HKM w' hw' | exact unhide HMR w' hw' | exact unhide HLS2 w' hw'
                     simp only [Act.put, List.setIfInBounds_toArray, List.set_cons_zero, List.set_cons_succ]
                     go_big_quiet_on))
                refine wpQuiet_nil ?_
                intro w' hw'
                have HBW := hide (unhide HCW w' hw')
                go_wp2
                go_ret
                exact ⟨by rw [unhide HN]; rfl, unhide HBW⟩
              | true =>
                have HS := hide (unhide HST (unhide HMT) (fun _ => hT))
                rw [hT] at HLS2
                generalize (l[m]'(by omega)).key = KM at *
                clear HN1 HN2 HST HCP hT HLS HKS HKS2
                go_wp2_with fail
                rw [← unhide HW1]
                refine region_calm CC (by kernel_rfl) (by kernel_rfl) (unhide HC0) ?_
                repeat (first
                  | go_big_quiet_skip
                  | (go_big_quiet_want
                     apply Exists.intro
                     refine ⟨fun w' hw' => ?_, ?_⟩
                     · obtain ⟨c0, c1, c2, c3, c4, c5⟩ := unhide HCC w' hw'
                       have c6 := unhide HCP2 w' hw'
                       go_simp
                       first | done | rfl | exact unhide HKM w' hw' | exact unhide HMR w' hw' | exact unhide HLS2 w' hw'
                     simp only [Act.put, List.setIfInBounds_toArray, List.set_cons_zero, List.set_cons_succ]
                     go_big_quiet_on))
                refine wpQuiet_nil ?_
                intro w' hw'
                have HBW := hide (unhide HCW w' hw')
                have s2 := (unhide HCC w' hw').2.2.2.2.2
                go_wp2
                go_roundw
                case rel => exact ⟨m + 1 + 1, by omega, by go_num, unhide HS, HBW, s2⟩
                case measure => simp [intOf]; omega
        | false =>
          cases hZ : mayRef ser pos len with
          | false =>
            have HN := hide (unhide HN1 (by rw [hM, hKK, hZ]; rfl))
            rw [hZ] at HMR
            clear HN1 HN2 HST HCP hM hKK HLS HKS hZ
            go_wp2_with fail
            rw [← unhide HW1]
            refine region_calm CC (by kernel_rfl) (by kernel_rfl) (unhide HC0) ?_
            repeat (first
              | go_big_quiet_skip
              | (go_big_quiet_want
                 apply Exists.intro
                 refine ⟨fun w' hw' => ?_, ?_⟩
                 · obtain ⟨c0, c1, c2, c3, c4, c5⟩ := unhide HCC w' hw'
                   go_simp
                   first | done | rfl | exact unhide HKM w' hw' | exact unhide HMR w' hw'
                 simp only [Act.put, List.setIfInBounds_toArray, List.set_cons_zero, List.set_cons_succ]
                 go_big_quiet_on))
            refine wpQuiet_nil ?_
            intro w' hw'
            have HBW := hide (unhide HCW w' hw')
            go_wp2
            go_ret
            exact ⟨by rw [unhide HN]; rfl, unhide HBW⟩
          | true =>
            have hMT : M = true := by rw [hM, hKK, hZ]; rfl
            rw [hZ] at HMR
            have HMT := hide hMT
            clear hM hMT hKK hZ
            by_cases hk0 : k = 0
            · subst hk0
              simp only [Nat.zero_mul, Nat.add_zero] at a0 a1 a2 a3 a4
              have HS := hide (unhide HST (unhide HMT) (fun h => absurd h (by omega)))
              clear HN1 HN2 HST HCP HLS HKS
              go_wp2_with fail
              rw [← unhide HW1]
              refine region_calm CC (by kernel_rfl) (by kernel_rfl) (unhide HC0) ?_
              repeat (first
                | go_big_quiet_skip
                | (go_big_quiet_want
                   apply Exists.intro
                   refine ⟨fun w' hw' => ?_, ?_⟩
                   · obtain ⟨c0, c1, c2, c3, c4, c5⟩ := unhide HCC w' hw'
                     go_simp
                     first | done | rfl | exact unhide HKM w' hw' | exact unhide HMR w' hw'
                   simp only [Act.put, List.setIfInBounds_toArray, List.set_cons_zero, List.set_cons_succ]
                   go_big_quiet_on))
              refine wpQuiet_nil ?_
              intro w' hw'
              have HBW := hide (unhide HCW w' hw')
              have s2 := (unhide HCC w' hw').2.2.2.2.2
              go_wp2
              go_roundw
              case rel => exact ⟨0 + 1, by omega, by go_num, unhide HS, HBW, s2⟩
              case measure => simp [intOf]; omega
            · obtain ⟨m, rfl⟩ : ∃ m, k = m + 1 := ⟨k - 1, by omega⟩
              have HKS2 := hide (unhide HKS (by omega))
              simp only [Nat.add_sub_cancel] at HCP HST HN2 HLS HKS2
              have HCP2 := hide (fun w' hw => unhide HCP w' (by omega) hw)
              have HLS2 := hide (fun w' hw => unhide HLS w' (by omega) hw (unhide HKS2))
              have hm1 : (m : Int) < l.length := by omega
              have hwm : IntKind.i64.wrap (m : Int) = m := by rw [IntKind.wrap_i64]; omega
              cases hT : tl (l[m]'(by omega)).key.toList key.toList with
              | false =>
                have HN := hide (unhide HN2 (by omega) hT)
                rw [hT] at HLS2
                generalize (l[m]'(by omega)).key = KM at *
                clear HN1 HN2 HST HCP hT HLS HKS HKS2
                go_wp2_with fail
                rw [← unhide HW1]
                refine region_calm CC (by kernel_rfl) (by kernel_rfl) (unhide HC0) ?_
                repeat (first
                  | go_big_quiet_skip
                  | (go_big_quiet_want
                     apply Exists.intro
                     refine ⟨fun w' hw' => ?_, ?_⟩
                     · obtain ⟨c0, c1, c2, c3, c4, c5⟩ := unhide HCC w' hw'
                       have c6 := unhide HCP2 w' hw'
                       go_simp
                       first | done | rfl | exact unhide HKM w' hw' | exact unhide HMR w' hw' | exact unhide HLS2 w' hw'
                     simp only [Act.put, List.setIfInBounds_toArray, List.set_cons_zero, List.set_cons_succ]
                     go_big_quiet_on))
                refine wpQuiet_nil ?_
                intro w' hw'
                have HBW := hide (unhide HCW w' hw')
                go_wp2
                go_ret
                exact ⟨by rw [unhide HN]; rfl, unhide HBW⟩
              | true =>
                have HS := hide (unhide HST (unhide HMT) (fun _ => hT))
                rw [hT] at HLS2
                generalize (l[m]'(by omega)).key = KM at *
                clear HN1 HN2 HST HCP hT HLS HKS HKS2
                go_wp2_with fail
                rw [← unhide HW1]
                refine region_calm CC (by kernel_rfl) (by kernel_rfl) (unhide HC0) ?_
                repeat (first
                  | go_big_quiet_skip
                  | (go_big_quiet_want
                     apply Exists.intro
                     refine ⟨fun w' hw' => ?_, ?_⟩
                     · obtain ⟨c0, c1, c2, c3, c4, c5⟩ := unhide HCC w' hw'
                       have c6 := unhide HCP2 w' hw'
                       go_simp
                       first | done | rfl | exact unhide HKM w' hw' | exact unhide HMR w' hw' | exact unhide HLS2 w' hw'
                     simp only [Act.put, List.setIfInBounds_toArray, List.set_cons_zero, List.set_cons_succ]
                     go_big_quiet_on))
                refine wpQuiet_nil ?_
                intro w' hw'
                have HBW := hide (unhide HCW w' hw')
                have s2 := (unhide HCC w' hw').2.2.2.2.2
                go_wp2
                go_roundw
                case rel => exact ⟨m + 1 + 1, by omega, by go_num, unhide HS, HBW, s2⟩
                case measure => simp [intOf]; omega
    · obtain rfl : k = l.length := by omega
      have HR := hide (riseB_true (fun i h => unhide hp i h h))
      clear hp
      go_wp2
      go_ret
      exact ⟨by rw [unhide HR]; rfl, unhide hbel⟩
end Go.Proofs.Ytpampknbbpjkiaa

/- The reference of layer 10: May, of every record. -/
namespace Go.Proofs.Ytpampknbbpjkiaa
open Go.RowKit

set_option maxRecDepth 20000 in
set_option maxHeartbeats 2000000 in
theorem rmaybat_no (r : Rcd) (v : Value) (w : World) (hl : CL w v r.chg) (hk : r.kind = 1) (h : ¬ (1 ≤ r.seq ∧ 1 ≤ r.chg.length ∧ r.chg.length ≤ 32 ∧ r.mser = 0 ∧ r.frm = 0 ∧ r.to = 0 ∧ r.n = 0)) :
    Calls Try.prog 23 #[.agg (rcdA r v)] w fun e w' => e = .returned (.bool false) ∧ Below w.heap.size w w' := by
  obtain ⟨kind, seq, l, mser, frm, to, n⟩ := r
  simp only at hl hk h
  subst hk
  obtain ⟨p, c, rfl, _⟩ := KRow.shape hl
  have HN := hide h
  have HB := hide (fun o => (Below.refl w.heap.size w).alloc (Nat.le_refl _) o)
  unfold rcdA
  simp only
  clear hl h
  generalize l.length = L at *
  go_enter Try.func23, Try.ntmps23
  go_wp2_with fail
  all_goals first
    | (exfalso; have hq := unhide HN; omega)
    | (go_ret
       exact ⟨rfl, unhide HB _⟩)

set_option maxRecDepth 20000 in
set_option maxHeartbeats 2000000 in
theorem rmaymov_yes (r : Rcd) (v : Value) (w : World) (hl : CL w v r.chg) (hk : r.kind = 2) :
    Calls Try.prog 23 #[.agg (rcdA r v)] w fun e w' => e = .returned (.bool (mayMov r)) ∧ Below w.heap.size w w' := by
  obtain ⟨kind, seq, l, mser, frm, to, n⟩ := r
  simp only at hl hk
  subst hk
  obtain ⟨p, c, rfl, _⟩ := KRow.shape hl
  have hb := fun o => (Below.refl w.heap.size w).alloc (Nat.le_refl _) o
  have HB := hide hb
  have HM := hide (fun W => rmaymove_any mser frm to n W)
  unfold rcdA mayMov
  simp only
  generalize l.length = L at *
  have hX : ∀ X Y : Bool, (decide (seq = 0) && decide (L = 0) && decide (1 ≤ mser) && (decide (0 ≤ frm) && decide (frm ≤ 65536)) && (decide (0 ≤ to) && decide (to ≤ 65536)) && decide (frm ≠ to) && (decide (1 ≤ n) && decide (n ≤ 9))) = (decide (seq = 0) && decide (L = 0) && (decide (1 ≤ mser) && (decide (0 ≤ frm) && decide (frm ≤ 65536)) && (decide (0 ≤ to) && decide (to ≤ 65536)) && decide (frm ≠ to) && (decide (1 ≤ n) && decide (n ≤ 9)))) := fun _ _ => by simp only [Bool.and_assoc]
  rw [hX true true]
  generalize (decide (1 ≤ mser) && (decide (0 ≤ frm) && decide (frm ≤ 65536)) && (decide (0 ≤ to) && decide (to ≤ 65536)) && decide (frm ≠ to) && (decide (1 ≤ n) && decide (n ≤ 9))) = M at *
  clear hl hb hX
  go_enter Try.func23, Try.ntmps23
  go_wp2_with (first | (go_at_call 49; refine Calls.mono (unhide HM _) ?_; rintro e w1 ⟨rfl, b1⟩; have HB1 := hide ((unhide HB _).trans (b1.mono (unhide HB _).size)); clear b1))
  all_goals
    go_ret
    refine ⟨?_, by first | exact unhide HB1 | exact unhide HB _⟩
    simp <;> omega

set_option maxRecDepth 20000 in
set_option maxHeartbeats 2000000 in
theorem rmay_other (r : Rcd) (v : Value) (w : World) (hl : CL w v r.chg) (h1 : ¬ r.kind = 1) (h2 : ¬ r.kind = 2) :
    Calls Try.prog 23 #[.agg (rcdA r v)] w fun e w' => e = .returned (.bool false) ∧ Below w.heap.size w w' := by
  obtain ⟨kind, seq, l, mser, frm, to, n⟩ := r
  simp only at hl h1 h2
  obtain ⟨p, c, rfl, _⟩ := KRow.shape hl
  have HB := hide (fun o => (Below.refl w.heap.size w).alloc (Nat.le_refl _) o)
  unfold rcdA
  simp only
  clear hl
  generalize l.length = L at *
  have g1 : (kind == 1) = false := by simp; omega
  have g2 : (kind == 2) = false := by simp; omega
  go_enter Try.func23, Try.ntmps23
  go_wp2
  go_ret
  exact ⟨rfl, unhide HB _⟩

/-- The reference's May. -/
theorem rmay10_any (r : Rcd) (v : Value) (w : World) (hl : CL w v r.chg) :
    Calls Try.prog 23 #[.agg (rcdA r v)] w fun e w' => e = .returned (.bool (mayRcd r)) ∧ Below w.heap.size w w' := by
  unfold mayRcd
  by_cases h1 : r.kind = 1
  · rw [if_pos h1]
    by_cases h : 1 ≤ r.seq ∧ 1 ≤ r.chg.length ∧ r.chg.length ≤ 32 ∧ r.mser = 0 ∧ r.frm = 0 ∧ r.to = 0 ∧ r.n = 0
    · obtain ⟨a, b, c, d⟩ := h
      have hz : zeroMove r = true := by simp [zeroMove, d]
      have := rmaybat_loop r v w hl h1 a b c hz
      rw [show mayBat r = riseB r.chg by simp [mayBat, hz, a, b, c]]
      exact this
    · rw [show mayBat r = false by
        cases hm : mayBat r with
        | false => rfl
        | true =>
          exfalso
          apply h
          simp only [mayBat, zeroMove, Bool.and_eq_true, decide_eq_true_eq] at hm
          obtain ⟨⟨⟨a, b, c⟩, _⟩, ⟨⟨d1, d2⟩, d3⟩, d4⟩ := hm
          exact ⟨a, b, c, d1, d2, d3, d4⟩]
      exact rmaybat_no r v w hl h1 h
  · rw [if_neg h1]
    by_cases h2 : r.kind = 2
    · rw [if_pos h2]; exact rmaymov_yes r v w hl h2
    · rw [if_neg h2]; exact rmay_other r v w hl h1 h2
end Go.Proofs.Ytpampknbbpjkiaa
