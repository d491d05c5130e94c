/- Texts of ours, one behind the other: BatMay3, BatMay4a, BatMay4. -/
import Derived.Test.YtehnjanllemnlaaG8
import Derived.Test.YtehnjanllemnlaaG9
import Derived.Deep.RegionHeld3
import Derived.Laws.EntriesVeiled
/- The landed package batch: which records may be. -/
namespace Go.Proofs.Ytehnjanllemnlaa
open Go.RowKit

set_option maxRecDepth 20000 in
set_option maxHeartbeats 2000000 in
theorem bmaybatch_any (r : Rcd) (v : Value) (w : World) (hl : CL w v r.chg) : Calls Try.prog 46 #[.agg (rcdA r v)] w fun e w' => e = .returned (.bool (mayBat r)) ∧ Below w.heap.size w w' := by
  obtain ⟨kind, seq, chg, mser, frm, to, n⟩ := r
  simp only at hl
  unfold mayBat rcdA zeroMove
  simp only
  obtain ⟨p, c, rfl, hc1, hc2, hc3⟩ := KRow.shape hl
  have HB : Hid (∀ o w', Below (w.alloc o).heap.size (w.alloc o) w' → Below w.heap.size w w') := fun o w' hb => ((Below.refl w.heap.size w).alloc (Nat.le_refl _) o).trans (hb.mono (by simp))
  have HB0 : Hid (∀ o, Below w.heap.size w (w.alloc o)) := fun o => (Below.refl w.heap.size w).alloc (Nat.le_refl _) o
  have HMC := hide (fun o => bmaychanges_any _ chg (w.alloc o) (hl.below ((Below.refl w.heap.size w).alloc (Nat.le_refl _) o)))
  generalize chg.length = L at *
  have hcell : ∀ (x : Value) (w' : World) (i : Nat), i < 7 → ∀ o, o = Obj.cells #[.int .i64 kind, .int .u64 (seq : Int), .slice p L c, .int .u64 (mser : Int), .int .i64 frm, .int .i64 to, .int .i64 n] 74 → Below (w.alloc o).heap.size (w.alloc o) w' → (w.alloc o).cell? ⟨w.heap.size, i, none⟩ = some x → w'.cell? ⟨w.heap.size, i, none⟩ = some x := fun x w' i hi o ho hb h => (hb.cell (World.block_lt_of_cell? _ _ h)).trans h
  have HCL := hide hcell
  clear hl hcell
  generalize riseB chg = R at *
  go_enter Try.func46, Try.ntmps46
  go_wp2_with (first
    | (go_at_call 57; refine Calls.mono (bwithin_any _ _ _ _) ?_; rintro e w1 ⟨rfl, rfl⟩)
    | (go_at_call 58; refine Calls.mono (unhide HMC _) ?_; rintro e w1 ⟨rfl, hb1⟩; have k3 := unhide HCL (.int .u64 (mser : Int)) w1 3 (by omega) _ rfl hb1 (by simp); have k4 := unhide HCL (.int .i64 frm) w1 4 (by omega) _ rfl hb1 (by simp); have k5 := unhide HCL (.int .i64 to) w1 5 (by omega) _ rfl hb1 (by simp); have k6 := unhide HCL (.int .i64 n) w1 6 (by omega) _ rfl hb1 (by simp); have HB1 := hide (unhide HB _ _ hb1); clear hb1; cases R))
  all_goals
    go_ret
    refine ⟨?_, by first | exact unhide HB1 | exact unhide HB0 _⟩
    simp <;> omega

set_option maxRecDepth 20000 in
set_option maxHeartbeats 2000000 in
theorem bmaymove_any (r : Rcd) (v : Value) (w : World) (hl : CL w v r.chg) : Calls Try.prog 49 #[.agg (rcdA r v)] w fun e w' => e = .returned (.bool (mayMov r)) ∧ Below w.heap.size w w' := by
  obtain ⟨kind, seq, chg, mser, frm, to, n⟩ := r
  simp only at hl
  unfold mayMov rcdA
  simp only
  obtain ⟨p, c, rfl, hc1, hc2, hc3⟩ := KRow.shape hl
  have HB0 : Hid (∀ o o', Below w.heap.size w ((w.alloc o).alloc o')) := fun o o' => ((Below.refl w.heap.size w).alloc (Nat.le_refl _) o).alloc (by simp) o'
  generalize chg.length = L at *
  clear hl
  go_enter Try.func49, Try.ntmps49
  go_wp2_with (first
    | (go_at_call 57; refine Calls.mono (bwithin_any _ _ _ _) ?_; rintro e w1 ⟨rfl, rfl⟩)
    | (go_at_call 64; refine Calls.mono (bmayplace_any _ _) ?_; rintro e w1 ⟨rfl, rfl⟩))
  all_goals
    go_ret
    refine ⟨?_, unhide HB0 _ _⟩
    simp
    all_goals first
      | omega
      | (have h2 : (frm != to) = true := by (simp; omega)
         have h1 : 1 ≤ mser := by omega
         rw [h2]
         simp [*])


/-- The table of kinds. -/
def kindV1 : Value := .agg #[.func (.func 46) #[] #[], .func (.func 47) #[] #[], .func (.func 48) #[] #[]]
def kindV2 : Value := .agg #[.func (.func 49) #[] #[], .func (.func 50) #[] #[], .func (.func 51) #[] #[]]
set_option maxRecDepth 20000 in
set_option maxHeartbeats 2000000 in
theorem kinds_any (w : World) : Calls Try.prog 37 #[] w fun e w' => e = .returned (.map (some w.heap.size)) ∧ MapIs Try.prog 3 w' w.heap.size 2 (fun x => if x = 2 then some kindV2 else if x = 1 then some kindV1 else none) ∧ Below w.heap.size w w' := by
  have hmk : ∀ w, (Instr.makeMap 72 none).run Try.prog w = .ok (.map (some w.heap.size)) (w.alloc (.map #[] 0)) := fun _ => rfl
  have m0 := MapIs.made Try.prog 3 w
  obtain ⟨w1, hr1, m1, g1⟩ := m0.put (t := 72) (e := 71) Try.underlying3 Try.underlying72 (by unfold maxLen; omega) 1 rfl kindV1
  obtain ⟨w2, hr2, m2, g2⟩ := m1.put (t := 72) (e := 71) Try.underlying3 Try.underlying72 (by unfold maxLen; omega) 2 rfl kindV2
  have hb : Below w.heap.size w w2 := by
    have h0 : Below w.heap.size w (w.alloc (.map #[] 0)) := (Below.refl _ _).alloc (Nat.le_refl _) _
    have h1 := h0.grown g1 (by simp) (fun k hk => by simp at hk; omega)
    exact h1.grown g2 h1.size (fun k hk => by simp at hk; omega)
  have H := hide (And.intro m2 hb)
  clear m0 m1 m2 g1 g2 hb
  unfold kindV1 at hr1
  unfold kindV2 at hr2
  go_enter Try.func37, Try.ntmps37
  go_wp2
  go_ret
  exact ⟨rfl, unhide H⟩
end Go.Proofs.Ytehnjanllemnlaa

/- The landed package batch: May. -/
namespace Go.Proofs.Ytehnjanllemnlaa
open Go.RowKit

theorem wf_of_i64 {a : Int} (h0 : -9223372036854775808 ≤ a) (h1 : a ≤ 9223372036854775807) : (Lit.int .i64 a).wf = true := by
  simp only [Lit.wf, Bool.and_eq_true]
  exact ⟨decide_eq_true h0, decide_eq_true h1⟩
def kindsF (x : Int) : Option Value := if x = 2 then some kindV2 else if x = 1 then some kindV1 else none
theorem zero_of_inf {P : Program} {t : TypeId} {z : Value} (h : (P.info? t).bind (·.zero) = some z) (w : World) : (zeroValue t).run P w = .ok z w := by
  unfold zeroValue typeInfo
  cases hi : P.info? t with
  | none => rw [hi] at h; cases h
  | some i => rw [hi] at h; simp only [Option.bind_some] at h; simp [hi, h]
theorem zero_kind (w : World) : (zeroValue 71).run Try.prog w = .ok (.agg #[.nilFunc, .nilFunc, .nilFunc]) w := zero_of_inf (by kernel_rfl) w
theorem seven_cells {w : World} {g e : Nat} {a b c d x y z : Value} (h : w.heap[g]? = some (.cells #[a, b, c, d, x, y, z] e (0, 0))) :
    w.cell? ⟨g, 0, none⟩ = some a ∧ w.cell? ⟨g, 1, none⟩ = some b ∧ w.cell? ⟨g, 2, none⟩ = some c ∧ w.cell? ⟨g, 3, none⟩ = some d ∧ w.cell? ⟨g, 4, none⟩ = some x ∧ w.cell? ⟨g, 5, none⟩ = some y ∧ w.cell? ⟨g, 6, none⟩ = some z := by
  refine ⟨?_, ?_, ?_, ?_, ?_, ?_, ?_⟩
  all_goals (rw [cell_of_row w g _ _ e (0, 0) h]; rfl)

theorem alloc_keeps {w : World} {k : Nat} (h : k < w.heap.size) (o : Obj) : (w.alloc o).heap[k]? = w.heap[k]? := ((Below.refl w.heap.size w).alloc (Nat.le_refl _) o).block k h
theorem look_1 {w1 : World} {g : Nat} (hm : MapIs Try.prog 3 w1 g 2 (fun x => if x = 2 then some kindV2 else if x = 1 then some kindV1 else none)) : (Instr.lookup 72 (.map (some g)) (.int .i64 1) true).run Try.prog w1 = .ok (.tuple #[.agg #[.func (.func 46) #[] #[], .func (.func 47) #[] #[], .func (.func 48) #[] #[]], .bool true]) w1 := by
  rw [hm.look (t := 72) (e := 71) Try.underlying3 Try.underlying72 (zero_kind w1) 1 rfl]
  rfl
theorem look_2 {w1 : World} {g : Nat} (hm : MapIs Try.prog 3 w1 g 2 (fun x => if x = 2 then some kindV2 else if x = 1 then some kindV1 else none)) : (Instr.lookup 72 (.map (some g)) (.int .i64 2) true).run Try.prog w1 = .ok (.tuple #[.agg #[.func (.func 49) #[] #[], .func (.func 50) #[] #[], .func (.func 51) #[] #[]], .bool true]) w1 := by
  rw [hm.look (t := 72) (e := 71) Try.underlying3 Try.underlying72 (zero_kind w1) 2 rfl]
  rfl
theorem look_0 {w1 : World} {g : Nat} (hm : MapIs Try.prog 3 w1 g 2 (fun x => if x = 2 then some kindV2 else if x = 1 then some kindV1 else none)) (x : Int) (h1 : x ≠ 1) (h2 : x ≠ 2) (hk0 : -9223372036854775808 ≤ x) (hk1 : x ≤ 9223372036854775807) : (Instr.lookup 72 (.map (some g)) (.int .i64 x) true).run Try.prog w1 = .ok (.tuple #[.agg #[.nilFunc, .nilFunc, .nilFunc], .bool false]) w1 := by
  rw [hm.look (t := 72) (e := 71) Try.underlying3 Try.underlying72 (zero_kind w1) x (wf_of_i64 hk0 hk1)]
  simp [h1, h2]

/-- The table of kinds, made where a variable of the caller's is, or a variable more. -/
theorem kinds_in (W : World) {g : Nat} {v : Value} (d0 : W.cell? ⟨g, 0, none⟩ = some v) :
    Calls Try.prog 37 #[] W (fun e w' => e = .returned (.map (some W.heap.size)) ∧ (∀ i u, W.cell? ⟨g, i, none⟩ = some u → w'.cell? ⟨g, i, none⟩ = some u) ∧ (∀ i u, W.cell? ⟨g, i, none⟩ = some u → ∀ o, (w'.alloc o).cell? ⟨g, i, none⟩ = some u) ∧ MapIs Try.prog 3 w' W.heap.size 2 (fun x => if x = 2 then some kindV2 else if x = 1 then some kindV1 else none) ∧ Below W.heap.size W w') ∧
    Calls Try.prog 37 #[] (W.alloc (.cells #[.nilFunc, .nilFunc, .nilFunc] 71)) (fun e w' => e = .returned (.map (some (W.heap.size + 1))) ∧ (∀ i u, W.cell? ⟨g, i, none⟩ = some u → w'.cell? ⟨g, i, none⟩ = some u) ∧ (∀ i u, W.cell? ⟨g, i, none⟩ = some u → ∀ o, (w'.alloc o).cell? ⟨g, i, none⟩ = some u) ∧
      w'.cell? ⟨W.heap.size, 0, none⟩ = some .nilFunc ∧ w'.cell? ⟨W.heap.size, 1, none⟩ = some .nilFunc ∧ w'.cell? ⟨W.heap.size, 2, none⟩ = some .nilFunc ∧ w'.frozen? ⟨W.heap.size, 0, none⟩ = false ∧ w'.frozen? ⟨W.heap.size, 1, none⟩ = false ∧ w'.frozen? ⟨W.heap.size, 2, none⟩ = false ∧
      MapIs Try.prog 3 w' (W.heap.size + 1) 2 (fun x => if x = 2 then some kindV2 else if x = 1 then some kindV1 else none) ∧ Below W.heap.size W w') := by
  have hg := World.block_lt_of_cell? _ _ d0
  refine ⟨(kinds_any W).mono fun e w' ⟨h1, h2, h3⟩ => ⟨h1, fun i u hu => (h3.cell (p := ⟨g, i, none⟩) hg).trans hu, fun i u hu o => (((Below.refl w'.heap.size w').alloc (Nat.le_refl _) o).cell (p := ⟨g, i, none⟩) (by have h9 : g < W.heap.size := hg; have := h2.lt; show g < w'.heap.size; omega)).trans ((h3.cell (p := ⟨g, i, none⟩) hg).trans hu), h2, h3⟩, ?_⟩
  have hb : Below W.heap.size W (W.alloc (.cells #[.nilFunc, .nilFunc, .nilFunc] 71)) := (Below.refl _ _).alloc (Nat.le_refl _) _
  have hs : (W.alloc (.cells #[.nilFunc, .nilFunc, .nilFunc] 71)).heap.size = W.heap.size + 1 := by simp
  have k := kinds_any (W.alloc (.cells #[.nilFunc, .nilFunc, .nilFunc] 71))
  rw [hs] at k
  refine k.mono fun e w' ⟨h1, h2, h3⟩ => ?_
  have hbl : w'.heap[W.heap.size]? = some (.cells #[.nilFunc, .nilFunc, .nilFunc] 71 (0, 0)) := (h3.block W.heap.size (by omega)).trans (by show (W.heap.push _)[W.heap.size]? = _; simp)
  have hc := fun i => cell_of_row w' W.heap.size i _ _ (0, 0) hbl
  have hf : ∀ i, w'.frozen? ⟨W.heap.size, i, none⟩ = false := fun i => frozen_of_block hbl
  have hg' : g < W.heap.size := hg
  exact ⟨h1, fun i u hu => (h3.cell (p := ⟨g, i, none⟩) (by show g < W.heap.size + 1; omega)).trans ((hb.cell (p := ⟨g, i, none⟩) hg).trans hu), fun i u hu o => (((Below.refl w'.heap.size w').alloc (Nat.le_refl _) o).cell (p := ⟨g, i, none⟩) (by have := h2.lt; show g < w'.heap.size; omega)).trans ((h3.cell (p := ⟨g, i, none⟩) (by show g < W.heap.size + 1; omega)).trans ((hb.cell (p := ⟨g, i, none⟩) hg).trans hu)), hc 0, hc 1, hc 2, hf 0, hf 1, hf 2, h2, hb.trans (h3.mono (by omega))⟩

end Go.Proofs.Ytehnjanllemnlaa

/- The landed package batch: May. -/
namespace Go.Proofs.Ytehnjanllemnlaa
open Go.RowKit

set_option maxRecDepth 20000 in
set_option maxHeartbeats 4000000 in
theorem bmay_any (r : Rcd) (v : Value) (w : World) (hl : CL w v r.chg) (hk0 : -9223372036854775808 ≤ r.kind) (hk1 : r.kind ≤ 9223372036854775807) : Calls Try.prog 18 #[.agg (rcdA r v)] w fun e w' => e = .returned (.bool (mayRcd r)) ∧ Below w.heap.size w w' := by
  obtain ⟨p, c, rfl, hc1, hc2, hc3⟩ := KRow.shape hl
  have HL := hide (fun w' (hb : Below w.heap.size w w') => hl.below hb)
  have HMB := hide (fun w' (hb : Below w.heap.size w w') => bmaybatch_any r _ w' (hl.below hb))
  have HMM := hide (fun w' (hb : Below w.heap.size w w') => bmaymove_any r _ w' (hl.below hb))
  have e0 : ∀ o, Below w.heap.size w (w.alloc o) := fun o => (Below.refl w.heap.size w).alloc (Nat.le_refl _) o
  obtain ⟨o, ho⟩ : ∃ o, o = Obj.cells (rcdA r (.slice p r.chg.length c)) 39 := ⟨_, rfl⟩
  have hblk : (w.alloc o).heap[w.heap.size]? = some o := by show (w.heap.push o)[w.heap.size]? = some o; simp
  have HBLK := hide hblk
  have HO := hide ho
  have HE0 := hide (e0 o)
  unfold mayRcd
  generalize mayBat r = MB at *
  generalize mayMov r = MM at *
  have HK := hide (fun w => kinds_any w)
  clear e0 hblk
  unfold rcdA at *
  by_cases k1 : r.kind = 1
  · rw [if_pos k1]
    obtain ⟨kind, seq, chg, mser, frm, to, n⟩ := r
    simp only at *
    subst k1
    clear hl
    generalize chg.length = L at *
    subst ho
    go_enter Try.func18, Try.ntmps18
    have HSZ : Hid (∀ o : Obj, (w.alloc o).drew.heap.size = w.heap.size + 1) := fun o => by simp
    obtain ⟨W, hW⟩ : ∃ W, W = (w.alloc (.cells #[.int .i64 1, .int .u64 (seq : Int), .slice p L c, .int .u64 (mser : Int), .int .i64 frm, .int .i64 to, .int .i64 n] 39)).drew := ⟨_, rfl⟩
    obtain ⟨d0, d1, d2, d3, d4, d5, d6⟩ := seven_cells (w := W) (by rw [hW]; exact unhide HBLK)
    have hWs : W.heap.size = w.heap.size + 1 := by rw [hW]; simp
    have HW1 := hide (kinds_in W d0)
    rw [hWs] at HW1
    have HWB : Hid (∀ w1, Below (w.heap.size + 1) W w1 → Below w.heap.size w w1) := fun w1 hb => by rw [hW] at hb; exact ((unhide HE0).drew).trans (hb.mono (by omega))
    rw [hW] at HW1 HWB d0 d1 d2 d3 d4 d5 d6
    clear hW
    go_wp2_with fail
    go_region_held3 (fun w' => w'.cell? ⟨w.heap.size, 0, none⟩ = some (.int .i64 1)) (first | assumption | go_keep)
      (first
        | (go_at_call 37; refine Calls.mono (unhide HW1).1 ?_; rintro x w1 ⟨rfl, hx, hy, hm1, b1⟩; have y0 := hy _ _ d0; have y1 := hy _ _ d1; have y2 := hy _ _ d2; have y3 := hy _ _ d3; have y4 := hy _ _ d4; have y5 := hy _ _ d5; have y6 := hy _ _ d6; have x0 := hx _ _ d0; have x1 := hx _ _ d1; have x2 := hx _ _ d2; have x3 := hx _ _ d3; have x4 := hx _ _ d4; have x5 := hx _ _ d5; have x6 := hx _ _ d6; have hlk := look_1 hm1; have hlk2 := fun o => look_1 (hm1.stays (w' := w1.alloc o) (alloc_keeps hm1.lt o)); have HB1 := hide (unhide HWB _ b1); clear b1 hm1 hx hy)
        | (go_at_call 37; refine Calls.mono (unhide HW1).2 ?_; rintro x w1 ⟨rfl, hx, hy, q0, q1, q2, f0, f1, f2, hm1, b1⟩; have x0 := hx _ _ d0; have x1 := hx _ _ d1; have x2 := hx _ _ d2; have x3 := hx _ _ d3; have x4 := hx _ _ d4; have x5 := hx _ _ d5; have x6 := hx _ _ d6; have hlk := look_1 hm1; have HB1 := hide (unhide HWB _ b1); clear b1 hm1 hx hy))
    all_goals
      go_wp2_with (first | (go_at_call 46; refine Calls.mono (unhide HMB _ (by first | exact (unhide HB1).alloc (unhide HB1).size _ | exact (((unhide HB1).setCell (p := ⟨w.heap.size + 1, 0, none⟩) (by simp) _).setCell (p := ⟨w.heap.size + 1, 1, none⟩) (by simp) _).setCell (p := ⟨w.heap.size + 1, 2, none⟩) (by simp) _)) ?_; rintro x w2 ⟨rfl, b2⟩))
      go_ret
      refine ⟨rfl, ?_⟩
      first | exact ((unhide HB1).alloc (unhide HB1).size _).trans (b2.mono ((unhide HB1).alloc (unhide HB1).size _).size) | exact ((((unhide HB1).setCell (p := ⟨w.heap.size + 1, 0, none⟩) (by simp) _).setCell (p := ⟨w.heap.size + 1, 1, none⟩) (by simp) _).setCell (p := ⟨w.heap.size + 1, 2, none⟩) (by simp) _).trans (b2.mono (by simpa using (unhide HB1).size))
  · rw [if_neg k1]
    by_cases k2 : r.kind = 2
    · rw [if_pos k2]
      obtain ⟨kind, seq, chg, mser, frm, to, n⟩ := r
      simp only at *
      subst k2
      clear hl
      generalize chg.length = L at *
      subst ho
      go_enter Try.func18, Try.ntmps18
      have HSZ : Hid (∀ o : Obj, (w.alloc o).drew.heap.size = w.heap.size + 1) := fun o => by simp
      obtain ⟨W, hW⟩ : ∃ W, W = (w.alloc (.cells #[.int .i64 2, .int .u64 (seq : Int), .slice p L c, .int .u64 (mser : Int), .int .i64 frm, .int .i64 to, .int .i64 n] 39)).drew := ⟨_, rfl⟩
      obtain ⟨d0, d1, d2, d3, d4, d5, d6⟩ := seven_cells (w := W) (by rw [hW]; exact unhide HBLK)
      have hWs : W.heap.size = w.heap.size + 1 := by rw [hW]; simp
      have HW1 := hide (kinds_in W d0)
      rw [hWs] at HW1
      have HWB : Hid (∀ w1, Below (w.heap.size + 1) W w1 → Below w.heap.size w w1) := fun w1 hb => by rw [hW] at hb; exact ((unhide HE0).drew).trans (hb.mono (by omega))
      rw [hW] at HW1 HWB d0 d1 d2 d3 d4 d5 d6
      clear hW
      go_wp2_with fail
      go_region_held3 (fun w' => w'.cell? ⟨w.heap.size, 0, none⟩ = some (.int .i64 2)) (first | assumption | go_keep)
        (first
          | (go_at_call 37; refine Calls.mono (unhide HW1).1 ?_; rintro x w1 ⟨rfl, hx, hy, hm1, b1⟩; have y0 := hy _ _ d0; have y1 := hy _ _ d1; have y2 := hy _ _ d2; have y3 := hy _ _ d3; have y4 := hy _ _ d4; have y5 := hy _ _ d5; have y6 := hy _ _ d6; have x0 := hx _ _ d0; have x1 := hx _ _ d1; have x2 := hx _ _ d2; have x3 := hx _ _ d3; have x4 := hx _ _ d4; have x5 := hx _ _ d5; have x6 := hx _ _ d6; have hlk := look_2 hm1; have hlk2 := fun o => look_2 (hm1.stays (w' := w1.alloc o) (alloc_keeps hm1.lt o)); have HB1 := hide (unhide HWB _ b1); clear b1 hm1 hx hy)
          | (go_at_call 37; refine Calls.mono (unhide HW1).2 ?_; rintro x w1 ⟨rfl, hx, hy, q0, q1, q2, f0, f1, f2, hm1, b1⟩; have x0 := hx _ _ d0; have x1 := hx _ _ d1; have x2 := hx _ _ d2; have x3 := hx _ _ d3; have x4 := hx _ _ d4; have x5 := hx _ _ d5; have x6 := hx _ _ d6; have hlk := look_2 hm1; have HB1 := hide (unhide HWB _ b1); clear b1 hm1 hx hy))
      all_goals
        go_wp2_with (first | (go_at_call 49; refine Calls.mono (unhide HMM _ (by first | exact (unhide HB1).alloc (unhide HB1).size _ | exact (((unhide HB1).setCell (p := ⟨w.heap.size + 1, 0, none⟩) (by simp) _).setCell (p := ⟨w.heap.size + 1, 1, none⟩) (by simp) _).setCell (p := ⟨w.heap.size + 1, 2, none⟩) (by simp) _)) ?_; rintro x w2 ⟨rfl, b2⟩))
        go_ret
        refine ⟨rfl, ?_⟩
        first | exact ((unhide HB1).alloc (unhide HB1).size _).trans (b2.mono ((unhide HB1).alloc (unhide HB1).size _).size) | exact ((((unhide HB1).setCell (p := ⟨w.heap.size + 1, 0, none⟩) (by simp) _).setCell (p := ⟨w.heap.size + 1, 1, none⟩) (by simp) _).setCell (p := ⟨w.heap.size + 1, 2, none⟩) (by simp) _).trans (b2.mono (by simpa using (unhide HB1).size))
    · rw [if_neg k2]
      obtain ⟨kind, seq, chg, mser, frm, to, n⟩ := r
      simp only at *
      clear hl
      generalize chg.length = L at *
      subst ho
      go_enter Try.func18, Try.ntmps18
      have HSZ : Hid (∀ o : Obj, (w.alloc o).drew.heap.size = w.heap.size + 1) := fun o => by simp
      obtain ⟨W, hW⟩ : ∃ W, W = (w.alloc (.cells #[.int .i64 kind, .int .u64 (seq : Int), .slice p L c, .int .u64 (mser : Int), .int .i64 frm, .int .i64 to, .int .i64 n] 39)).drew := ⟨_, rfl⟩
      obtain ⟨d0, d1, d2, d3, d4, d5, d6⟩ := seven_cells (w := W) (by rw [hW]; exact unhide HBLK)
      have hWs : W.heap.size = w.heap.size + 1 := by rw [hW]; simp
      have HW1 := hide (kinds_in W d0)
      rw [hWs] at HW1
      have HWB : Hid (∀ w1, Below (w.heap.size + 1) W w1 → Below w.heap.size w w1) := fun w1 hb => by rw [hW] at hb; exact ((unhide HE0).drew).trans (hb.mono (by omega))
      rw [hW] at HW1 HWB d0 d1 d2 d3 d4 d5 d6
      clear hW
      go_wp2_with fail
      go_region_held3 (fun w' => w'.cell? ⟨w.heap.size, 0, none⟩ = some (.int .i64 kind)) (first | assumption | go_keep)
        (first
          | (go_at_call 37; refine Calls.mono (unhide HW1).1 ?_; rintro x w1 ⟨rfl, hx, hy, hm1, b1⟩; have y0 := hy _ _ d0; have y1 := hy _ _ d1; have y2 := hy _ _ d2; have y3 := hy _ _ d3; have y4 := hy _ _ d4; have y5 := hy _ _ d5; have y6 := hy _ _ d6; have x0 := hx _ _ d0; have x1 := hx _ _ d1; have x2 := hx _ _ d2; have x3 := hx _ _ d3; have x4 := hx _ _ d4; have x5 := hx _ _ d5; have x6 := hx _ _ d6; have hlk := look_0 hm1 kind k1 k2 hk0 hk1; have hlk2 := fun o => look_0 (hm1.stays (w' := w1.alloc o) (alloc_keeps hm1.lt o)) kind k1 k2 hk0 hk1; have HB1 := hide (unhide HWB _ b1); clear b1 hm1 hx hy)
          | (go_at_call 37; refine Calls.mono (unhide HW1).2 ?_; rintro x w1 ⟨rfl, hx, hy, q0, q1, q2, f0, f1, f2, hm1, b1⟩; have x0 := hx _ _ d0; have x1 := hx _ _ d1; have x2 := hx _ _ d2; have x3 := hx _ _ d3; have x4 := hx _ _ d4; have x5 := hx _ _ d5; have x6 := hx _ _ d6; have hlk := look_0 hm1 kind k1 k2 hk0 hk1; have HB1 := hide (unhide HWB _ b1); clear b1 hm1 hx hy))
      all_goals
        go_wp2
        go_ret
        refine ⟨rfl, ?_⟩
        first | exact (unhide HB1).alloc (unhide HB1).size _ | exact ((unhide HB1).setCell (p := ⟨w.heap.size + 1, 0, none⟩) (by simp) _).setCell (p := ⟨w.heap.size + 1, 1, none⟩) (by simp) _ | exact (((unhide HB1).setCell (p := ⟨w.heap.size + 1, 0, none⟩) (by simp) _).setCell (p := ⟨w.heap.size + 1, 1, none⟩) (by simp) _).setCell (p := ⟨w.heap.size + 1, 2, none⟩) (by simp) _
end Go.Proofs.Ytehnjanllemnlaa
