/- Texts of ours, one behind the other: BatRd6, BatRd7, BatRR4, BatRR5, BatRR6, BatRR7. -/
import Derived.Test.YtpampknbbpjkiaaG9
import Derived.Test.YtpampknbbpjkiaaG16
import Derived.Test.YtpampknbbpjkiaaG26
import Derived.Test.YtpampknbbpjkiaaG28
/- Package batch's reader: a record. -/
namespace Go.Proofs.Ytpampknbbpjkiaa
open Go.RowKit

/-- What bytes are as a record, whether it may be or not. -/
def rcdF (b : List UInt8) (p e : Int) : Rcd × Int × Int :=
  let k := byteF b p e
  if k.1 = 1 then (⟨1, (batF b k.2.1 k.2.2).1.1, (batF b k.2.1 k.2.2).1.2, 0, 0, 0, 0⟩, (batF b k.2.1 k.2.2).2)
  else if k.1 = 2 then (⟨2, 0, [], (movF b k.2.1 k.2.2).1.1, (movF b k.2.1 k.2.2).1.2.1, (movF b k.2.1 k.2.2).1.2.2.1, (movF b k.2.1 k.2.2).1.2.2.2⟩, (movF b k.2.1 k.2.2).2)
  else (zeroRcd, k.2.1, if k.2.2 = 0 then 11 else k.2.2)

theorem CL.keep {F : Nat → Prop} {w w' : World} {v : Value} {l : List Chg} (h : CL w v l) (hk : Keep F w w') (hn : ∀ b off c, v = .slice (some ⟨b, off, none⟩) l.length c → 0 < l.length → ¬ F b) : CL w' v l := KRow.keep h hk hn

set_option maxRecDepth 20000 in
set_option maxHeartbeats 4000000 in
theorem brecord_mov (g : Nat) (p e : Int) (s : Value) (b : List UInt8) (w : World) (h : Rd 86 w g s b p e) (hk : (byteF b p e).1 = 2) :
    Calls Try.prog 51 #[.pointer (some ⟨g, 0, none⟩)] w fun x w' => ∃ v, x = .returned (.agg (rcdA (rcdF b p e).1 v)) ∧ (∀ bb off c, v = .slice (some ⟨bb, off, none⟩) (rcdF b p e).1.chg.length c → 0 < (rcdF b p e).1.chg.length → w.heap.size ≤ bb) ∧ CL w' v (rcdF b p e).1.chg ∧ Rd 86 w' g s b (rcdF b p e).2.1 (rcdF b p e).2.2 ∧ Keep (fun k => k = g) w w' := by
  obtain ⟨o, ho⟩ : ∃ o, o = Obj.cells #[.int .i64 0, .int .u64 0, .slice none 0 0, .int .u64 0, .int .i64 0, .int .i64 0, .int .i64 0] 39 := ⟨_, rfl⟩
  have hb0 : Below w.heap.size w (w.alloc o) := (Below.refl _ _).alloc (Nat.le_refl _) _
  have HN := hide (bone_any g p e s b _ (h.below hb0))
  have HSRC := hide h.src
  have HGL := hide h.lt
  have HB0 := hide hb0
  have HR0 := hide (alloc_new w o)
  have hso : (w.alloc o).heap.size = w.heap.size + 1 := by simp
  have HSO := hide hso
  rw [ho] at HN HB0 HR0 HSO
  generalize hR : rcdF b p e = RS
  obtain ⟨R9, P9, E9⟩ := RS
  have HR := hide hR
  generalize hNN : byteF b p e = NN at *
  obtain ⟨V1, P1, E1⟩ := NN
  have HNN := hide hNN
  simp only at HN hk ⊢
  subst hk
  clear h hR hNN hb0 hso
  go_enter Try.func51, Try.ntmps51
  go_wp2_with fail
  refine Calls.mono (unhide HN) ?_
  rintro x w1 ⟨rfl, r1, k1⟩
  have hs1 := k1.size
  rw [unhide HSO] at hs1
  have hgl := unhide HGL
  have hres1 := (k1.block w.heap.size (by rw [unhide HSO]; omega) (by omega)).trans (unhide HR0)
  have hk1 : Keep (fun k => k = g) w w1 := (Keep.of_below (unhide HB0)).trans k1 (fun _ h => Or.inl h)
  have HK := hide (kinds_any w1)
  have HRD := hide r1
  have HRS := hide hres1
  have HKP := hide hk1
  clear r1 k1 hres1 hk1 HN HB0 HR0 HSO
  go_wp2_with fail
  refine Calls.mono (unhide HK) ?_
  rintro x w2 ⟨rfl, hm2, b2⟩
  have hlk := look_2 hm2
  have hs2 := hm2.lt
  obtain ⟨o3, ho3⟩ : ∃ o3, o3 = Obj.cells #[.func (.func 67) #[] #[], .func (.func 68) #[] #[], .func (.func 69) #[] #[]] 76 := ⟨_, rfl⟩
  have hb3 : Below w1.heap.size w1 (w2.alloc o3) := b2.trans (((Below.refl w2.heap.size w2).alloc (Nat.le_refl _) o3).mono (by omega))
  have hc3 := alloc_new w2 o3
  have HCT := hide (brmove_any g P1 E1 s b _ ((unhide HRD).below hb3))
  have HRS3 := hide ((hb3.block w.heap.size (by omega)).trans (unhide HRS))
  have HKP3 := hide ((unhide HKP).trans (Keep.of_below (F := fun _ => False) hb3) (fun _ h => h.elim))
  have HS3 : Hid ((w2.alloc o3).heap.size = w2.heap.size + 1) := by unfold Hid; simp
  rw [ho3] at HCT HRS3 HKP3 HS3
  generalize hRR : movF b P1 E1 = RR at *
  obtain ⟨⟨S2, F2, T2, N2⟩, P2, E2⟩ := RR
  have HRR := hide hRR
  simp only at HCT
  clear b2 hb3 hm2 ho3 hc3 hRR HRD HRS HKP HK
  go_wp2_with fail
  refine Calls.mono (unhide HCT) ?_
  rintro x w4 ⟨rfl, r4, k4⟩
  have hs4 := k4.size
  rw [unhide HS3] at hs4
  have hr4 := (k4.block w.heap.size (by rw [unhide HS3]; omega) (by omega)).trans (unhide HRS3)
  have hk4 := (unhide HKP3).trans k4 (fun _ h => Or.inl h)
  have hb5 : ∀ o, Below w4.heap.size w4 (w4.alloc o) := fun o => (Below.refl _ _).alloc (Nat.le_refl _) o
  obtain ⟨WW, hWW⟩ : ∃ WW, WW = w4.alloc (.cells #[.int .i64 2, .int .u64 0, .slice none 0 0, .int .u64 (S2 : Int), .int .i64 (F2 : Int), .int .i64 (T2 : Int), .int .i64 (N2 : Int)] 39) := ⟨_, rfl⟩
  have hkW : Keep (fun k => k = w4.heap.size) w4 WW := by rw [hWW]; exact Keep.of_below (hb5 _)
  have hrW := (hkW.block w.heap.size (by omega) (by omega)).trans hr4
  obtain ⟨e0, e1, e2, e3, e4, e5, e6⟩ := seven_cells hrW
  have fz : ∀ j, WW.frozen? ⟨w.heap.size, j, none⟩ = false := fun j => frozen_of_block hrW
  have g0 := fz 0
  have g1 := fz 1
  have g2 := fz 2
  have g3 := fz 3
  have g4 := fz 4
  have g5 := fz 5
  have g6 := fz 6
  have hkF := (((((((keep_set (w := WW) (g := w.heap.size) (j := 0) (v := .int .i64 2)).trans (keep_set (g := w.heap.size) (j := 1) (v := .int .u64 0)) (fun _ h => Or.inl h)).trans (keep_set (g := w.heap.size) (j := 2) (v := .slice none 0 0)) (fun _ h => Or.inl h)).trans (keep_set (g := w.heap.size) (j := 3) (v := .int .u64 (S2 : Int))) (fun _ h => Or.inl h)).trans (keep_set (g := w.heap.size) (j := 4) (v := .int .i64 (F2 : Int))) (fun _ h => Or.inl h)).trans (keep_set (g := w.heap.size) (j := 5) (v := .int .i64 (T2 : Int))) (fun _ h => Or.inl h)).trans (keep_set (g := w.heap.size) (j := 6) (v := .int .i64 (N2 : Int))) (fun _ h => Or.inl h))
  have HRW := hide ((r4.keep hkW (by omega) (fun bb off cc e hb => by have := unhide HSRC bb off cc e hb; omega)).keep hkF (by omega) (fun bb off cc e hb => by have := unhide HSRC bb off cc e hb; omega))
  have HKW := hide ((hk4.trans hkW (fun x hx => Or.inr (by omega))).trans hkF (fun x hx => Or.inr (by omega)))
  have HCLW := hide True.intro
  rw [hWW] at HRW HKW e0 e1 e2 e3 e4 e5 e6 g0 g1 g2 g3 g4 g5 g6
  have n1 : ¬ w4.heap.size = w.heap.size := by omega
  have n2 : ¬ w.heap.size = w4.heap.size := by omega
  clear hkF hrW hkW hWW fz hb5 hr4 hk4 r4 k4 HCT HRS3 HKP3 HS3 hlk
  go_wp2
  have hx := unhide HR
  simp only [rcdF, unhide HNN, unhide HRR] at hx
  rw [if_neg (by omega), if_pos trivial] at hx
  simp only [Prod.mk.injEq] at hx
  obtain ⟨rfl, rfl, rfl⟩ := hx
  refine bodyPost_ret (v := .agg #[.int .i64 2, .int .u64 0, .slice none 0 0, .int .u64 (S2 : Int), .int .i64 (F2 : Int), .int .i64 (T2 : Int), .int .i64 (N2 : Int)]) (by simp [results, Try.results51, go_sem, *]) rfl ⟨.slice none 0 0, rfl, fun _ _ _ _ h => absurd h (by simp), CL.nil _, unhide HRW, unhide HKW⟩

set_option maxRecDepth 20000 in
set_option maxHeartbeats 4000000 in
theorem brecord_bat (g : Nat) (p e : Int) (s : Value) (b : List UInt8) (w : World) (h : Rd 86 w g s b p e) (hk : (byteF b p e).1 = 1) :
    Calls Try.prog 51 #[.pointer (some ⟨g, 0, none⟩)] w fun x w' => ∃ v, x = .returned (.agg (rcdA (rcdF b p e).1 v)) ∧ (∀ bb off c, v = .slice (some ⟨bb, off, none⟩) (rcdF b p e).1.chg.length c → 0 < (rcdF b p e).1.chg.length → w.heap.size ≤ bb) ∧ CL w' v (rcdF b p e).1.chg ∧ Rd 86 w' g s b (rcdF b p e).2.1 (rcdF b p e).2.2 ∧ Keep (fun k => k = g) w w' := by
  obtain ⟨o, ho⟩ : ∃ o, o = Obj.cells #[.int .i64 0, .int .u64 0, .slice none 0 0, .int .u64 0, .int .i64 0, .int .i64 0, .int .i64 0] 39 := ⟨_, rfl⟩
  have hb0 : Below w.heap.size w (w.alloc o) := (Below.refl _ _).alloc (Nat.le_refl _) _
  have HN := hide (bone_any g p e s b _ (h.below hb0))
  have HSRC := hide h.src
  have HGL := hide h.lt
  have HB0 := hide hb0
  have HR0 := hide (alloc_new w o)
  have hso : (w.alloc o).heap.size = w.heap.size + 1 := by simp
  have HSO := hide hso
  rw [ho] at HN HB0 HR0 HSO
  generalize hR : rcdF b p e = RS
  obtain ⟨R9, P9, E9⟩ := RS
  have HR := hide hR
  generalize hNN : byteF b p e = NN at *
  obtain ⟨V1, P1, E1⟩ := NN
  have HNN := hide hNN
  simp only at HN hk ⊢
  subst hk
  clear h hR hNN hb0 hso
  go_enter Try.func51, Try.ntmps51
  go_wp2_with fail
  refine Calls.mono (unhide HN) ?_
  rintro x w1 ⟨rfl, r1, k1⟩
  have hs1 := k1.size
  rw [unhide HSO] at hs1
  have hgl := unhide HGL
  have hres1 := (k1.block w.heap.size (by rw [unhide HSO]; omega) (by omega)).trans (unhide HR0)
  have hk1 : Keep (fun k => k = g) w w1 := (Keep.of_below (unhide HB0)).trans k1 (fun _ h => Or.inl h)
  have HK := hide (kinds_any w1)
  have HRD := hide r1
  have HRS := hide hres1
  have HKP := hide hk1
  clear r1 k1 hres1 hk1 HN HB0 HR0 HSO
  go_wp2_with fail
  refine Calls.mono (unhide HK) ?_
  rintro x w2 ⟨rfl, hm2, b2⟩
  have hlk := look_1 hm2
  have hs2 := hm2.lt
  obtain ⟨o3, ho3⟩ : ∃ o3, o3 = Obj.cells #[.func (.func 64) #[] #[], .func (.func 65) #[] #[], .func (.func 66) #[] #[]] 76 := ⟨_, rfl⟩
  have hb3 : Below w1.heap.size w1 (w2.alloc o3) := b2.trans (((Below.refl w2.heap.size w2).alloc (Nat.le_refl _) o3).mono (by omega))
  have hc3 := alloc_new w2 o3
  have HCT := hide (brbatch_any g P1 E1 s b _ ((unhide HRD).below hb3))
  have HRS3 := hide ((hb3.block w.heap.size (by omega)).trans (unhide HRS))
  have HKP3 := hide ((unhide HKP).trans (Keep.of_below (F := fun _ => False) hb3) (fun _ h => h.elim))
  have HS3 : Hid ((w2.alloc o3).heap.size = w2.heap.size + 1) := by unfold Hid; simp
  rw [ho3] at HCT HRS3 HKP3 HS3
  generalize hRR : batF b P1 E1 = RR at *
  obtain ⟨⟨S2, L2⟩, P2, E2⟩ := RR
  have HRR := hide hRR
  simp only at HCT
  clear b2 hb3 hm2 ho3 hc3 hRR HRD HRS HKP HK
  go_wp2_with fail
  refine Calls.mono (unhide HCT) ?_
  rintro x w4 ⟨c4, rfl, hcg, hcl4, r4, k4⟩
  rw [unhide HS3] at hcg
  have HCL4 := hide hcl4
  have hs4 := k4.size
  rw [unhide HS3] at hs4
  have hr4 := (k4.block w.heap.size (by rw [unhide HS3]; omega) (by omega)).trans (unhide HRS3)
  have hk4 := (unhide HKP3).trans k4 (fun _ h => Or.inl h)
  have hb5 : ∀ o, Below w4.heap.size w4 (w4.alloc o) := fun o => (Below.refl _ _).alloc (Nat.le_refl _) o
  obtain ⟨WW, hWW⟩ : ∃ WW, WW = w4.alloc (.cells #[.int .i64 1, .int .u64 (S2 : Int), .slice (some ⟨c4, 0, none⟩) L2.length L2.length, .int .u64 0, .int .i64 0, .int .i64 0, .int .i64 0] 39) := ⟨_, rfl⟩
  have hkW : Keep (fun k => k = w4.heap.size) w4 WW := by rw [hWW]; exact Keep.of_below (hb5 _)
  have hrW := (hkW.block w.heap.size (by omega) (by omega)).trans hr4
  obtain ⟨e0, e1, e2, e3, e4, e5, e6⟩ := seven_cells hrW
  have fz : ∀ j, WW.frozen? ⟨w.heap.size, j, none⟩ = false := fun j => frozen_of_block hrW
  have g0 := fz 0
  have g1 := fz 1
  have g2 := fz 2
  have g3 := fz 3
  have g4 := fz 4
  have g5 := fz 5
  have g6 := fz 6
  have hkF := (((((((keep_set (w := WW) (g := w.heap.size) (j := 0) (v := .int .i64 1)).trans (keep_set (g := w.heap.size) (j := 1) (v := .int .u64 (S2 : Int))) (fun _ h => Or.inl h)).trans (keep_set (g := w.heap.size) (j := 2) (v := .slice (some ⟨c4, 0, none⟩) L2.length L2.length)) (fun _ h => Or.inl h)).trans (keep_set (g := w.heap.size) (j := 3) (v := .int .u64 0)) (fun _ h => Or.inl h)).trans (keep_set (g := w.heap.size) (j := 4) (v := .int .i64 0)) (fun _ h => Or.inl h)).trans (keep_set (g := w.heap.size) (j := 5) (v := .int .i64 0)) (fun _ h => Or.inl h)).trans (keep_set (g := w.heap.size) (j := 6) (v := .int .i64 0)) (fun _ h => Or.inl h))
  have HRW := hide ((r4.keep hkW (by omega) (fun bb off cc e hb => by have := unhide HSRC bb off cc e hb; omega)).keep hkF (by omega) (fun bb off cc e hb => by have := unhide HSRC bb off cc e hb; omega))
  have HKW := hide ((hk4.trans hkW (fun x hx => Or.inr (by omega))).trans hkF (fun x hx => Or.inr (by omega)))
  have hvb : ∀ bb off cc, (Value.slice (some ⟨c4, 0, none⟩) L2.length L2.length) = .slice (some ⟨bb, off, none⟩) L2.length cc → 0 < L2.length → bb ≠ w.heap.size ∧ bb < w4.heap.size := fun bb off cc e hl => by
    obtain ⟨b', off', cap', e1, _, _, hc⟩ := hcl4.open hl
    rw [e] at e1
    simp only [Value.slice.injEq, Option.some.injEq, Addr.mk.injEq, and_true] at e1 e
    obtain ⟨⟨rfl, rfl⟩, _⟩ := e1
    obtain ⟨⟨rfl, _⟩, _⟩ := e
    exact ⟨by omega, World.block_lt_of_cell? w4 _ (hc 0 hl).1⟩
  have HCLW := hide ((hcl4.keep hkW (fun bb off cc e hl => by have := (hvb bb off cc e hl).2; omega)).keep hkF (fun bb off cc e hl => (hvb bb off cc e hl).1))
  rw [hWW] at HRW HKW HCLW e0 e1 e2 e3 e4 e5 e6 g0 g1 g2 g3 g4 g5 g6
  have n1 : ¬ w4.heap.size = w.heap.size := by omega
  have n2 : ¬ w.heap.size = w4.heap.size := by omega
  clear hvb hcl4 HCL4 hkF hrW hkW hWW fz hb5 hr4 hk4 r4 k4 HCT HRS3 HKP3 HS3 hlk
  go_wp2
  have hx := unhide HR
  simp only [rcdF, unhide HNN, unhide HRR] at hx
  rw [if_pos trivial] at hx
  simp only [Prod.mk.injEq] at hx
  obtain ⟨rfl, rfl, rfl⟩ := hx
  refine bodyPost_ret (v := .agg #[.int .i64 1, .int .u64 (S2 : Int), .slice (some ⟨c4, 0, none⟩) L2.length L2.length, .int .u64 0, .int .i64 0, .int .i64 0, .int .i64 0]) (by simp [results, Try.results51, go_sem, *]) rfl ⟨.slice (some ⟨c4, 0, none⟩) L2.length L2.length, rfl, fun bb off cc e _ => by simp only [Value.slice.injEq, Option.some.injEq, Addr.mk.injEq, and_true] at e; obtain ⟨⟨rfl, _⟩, _⟩ := e; omega, unhide HCLW, unhide HRW, unhide HKW⟩
end Go.Proofs.Ytpampknbbpjkiaa

/- Package batch: Read. -/
namespace Go.Proofs.Ytpampknbbpjkiaa
open Go.RowKit

set_option maxRecDepth 20000 in
set_option maxHeartbeats 4000000 in
theorem brecord_no (g : Nat) (p e : Int) (s : Value) (b : List UInt8) (w : World) (h : Rd 86 w g s b p e) (q1 : ¬ (byteF b p e).1 = 1) (q2 : ¬ (byteF b p e).1 = 2) :
    Calls Try.prog 51 #[.pointer (some ⟨g, 0, none⟩)] w fun x w' => ∃ v, x = .returned (.agg (rcdA (rcdF b p e).1 v)) ∧ (∀ bb off c, v = .slice (some ⟨bb, off, none⟩) (rcdF b p e).1.chg.length c → 0 < (rcdF b p e).1.chg.length → w.heap.size ≤ bb) ∧ CL w' v (rcdF b p e).1.chg ∧ Rd 86 w' g s b (rcdF b p e).2.1 (rcdF b p e).2.2 ∧ Keep (fun k => k = g) w w' := by
  have hRC : rcdF b p e = (zeroRcd, (byteF b p e).2.1, if (byteF b p e).2.2 = 0 then 11 else (byteF b p e).2.2) := by simp only [rcdF]; rw [if_neg q1, if_neg q2]
  rw [hRC]
  have hbl := byte_lt b p e
  obtain ⟨o, ho⟩ : ∃ o, o = Obj.cells #[.int .i64 0, .int .u64 0, .slice none 0 0, .int .u64 0, .int .i64 0, .int .i64 0, .int .i64 0] 39 := ⟨_, rfl⟩
  have hb0 : Below w.heap.size w (w.alloc o) := (Below.refl _ _).alloc (Nat.le_refl _) _
  have HN := hide (bone_any g p e s b _ (h.below hb0))
  have HSRC := hide h.src
  have HGL := hide h.lt
  have HB0 := hide hb0
  have HR0 := hide (alloc_new w o)
  have hso : (w.alloc o).heap.size = w.heap.size + 1 := by simp
  have HSO := hide hso
  rw [ho] at HN HB0 HR0 HSO
  generalize byteF b p e = NN at *
  obtain ⟨V1, P1, E1⟩ := NN
  simp only at HN q1 q2 hbl ⊢
  generalize hE : (if E1 = 0 then (11 : Int) else E1) = E2 at *
  have HE := hide hE
  clear hE
  have hV1 : ¬ (V1 : Int) = 1 := by omega
  have hV2 : ¬ (V1 : Int) = 2 := by omega
  have HLK := hide (fun (w1 : World) (g : Nat) hm => look_0 (w1 := w1) (g := g) hm (V1 : Int) hV1 hV2 (by omega) (by omega))
  clear h hRC hb0 hso hV1 hV2 q1 q2 hbl
  unfold rcdA zeroRcd
  go_enter Try.func51, Try.ntmps51
  go_wp2_with fail
  refine Calls.mono (unhide HN) ?_
  rintro x w1 ⟨rfl, r1, k1⟩
  have hs1 := k1.size
  rw [unhide HSO] at hs1
  have hgl := unhide HGL
  have hres1 := (k1.block w.heap.size (by rw [unhide HSO]; omega) (by omega)).trans (unhide HR0)
  have hk1 : Keep (fun k => k = g) w w1 := (Keep.of_below (unhide HB0)).trans k1 (fun _ h => Or.inl h)
  have HK := hide (kinds_any w1)
  have HRD := hide r1
  have HRS := hide hres1
  have HKP := hide hk1
  clear r1 k1 hres1 hk1 HN HB0 HR0 HSO
  go_wp2_with fail
  refine Calls.mono (unhide HK) ?_
  rintro x w2 ⟨rfl, hm2, b2⟩
  have hlk := unhide HLK w2 _ hm2
  have hs2 := hm2.lt
  obtain ⟨o3, ho3⟩ : ∃ o3, o3 = Obj.cells #[.nilFunc, .nilFunc, .nilFunc] 76 := ⟨_, rfl⟩
  have hb3 : Below w1.heap.size w1 (w2.alloc o3) := b2.trans (((Below.refl w2.heap.size w2).alloc (Nat.le_refl _) o3).mono (by omega))
  have hct := brefuse_any g P1 E1 11 s b _ ((unhide HRD).below hb3) (by omega)
  rw [unhide HE] at hct
  have HCT := hide hct
  clear hct
  have HRS3 := hide ((hb3.block w.heap.size (by omega)).trans (unhide HRS))
  have HKP3 := hide ((unhide HKP).trans (Keep.of_below (F := fun _ => False) hb3) (fun _ h => h.elim))
  have HS3 : Hid ((w2.alloc o3).heap.size = w2.heap.size + 1) := by unfold Hid; simp
  rw [ho3] at HCT HRS3 HKP3 HS3
  clear b2 hb3 hm2 ho3 HRD HRS HKP HK HLK
  go_wp2_with fail
  refine Calls.mono (unhide HCT) ?_
  rintro x w4 ⟨rfl, r4, k4⟩
  have hs4 := k4.size
  rw [unhide HS3] at hs4
  have hr4 := (k4.block w.heap.size (by rw [unhide HS3]; omega) (by omega)).trans (unhide HRS3)
  have hk4 := (unhide HKP3).trans k4 (fun _ h => Or.inl h)
  obtain ⟨e0, e1, e2, e3, e4, e5, e6⟩ := seven_cells hr4
  have fz : ∀ j, w4.frozen? ⟨w.heap.size, j, none⟩ = false := fun j => frozen_of_block hr4
  have g0 := fz 0
  have g1 := fz 1
  have g2 := fz 2
  have g3 := fz 3
  have g4 := fz 4
  have g5 := fz 5
  have g6 := fz 6
  have hkF := (((((((keep_set (w := w4) (g := w.heap.size) (j := 0) (v := .int .i64 0)).trans (keep_set (g := w.heap.size) (j := 1) (v := .int .u64 0)) (fun _ h => Or.inl h)).trans (keep_set (g := w.heap.size) (j := 2) (v := .slice none 0 0)) (fun _ h => Or.inl h)).trans (keep_set (g := w.heap.size) (j := 3) (v := .int .u64 0)) (fun _ h => Or.inl h)).trans (keep_set (g := w.heap.size) (j := 4) (v := .int .i64 0)) (fun _ h => Or.inl h)).trans (keep_set (g := w.heap.size) (j := 5) (v := .int .i64 0)) (fun _ h => Or.inl h)).trans (keep_set (g := w.heap.size) (j := 6) (v := .int .i64 0)) (fun _ h => Or.inl h))
  have HRW := hide (r4.keep hkF (by omega) (fun bb off cc e hb => by have := unhide HSRC bb off cc e hb; omega))
  have HKW := hide (hk4.trans hkF (fun x hx => Or.inr (by omega)))
  clear hkF fz hr4 hk4 r4 k4 HCT HRS3 HKP3 HS3 hlk
  go_wp2
  refine bodyPost_ret (v := .agg #[.int .i64 0, .int .u64 0, .slice none 0 0, .int .u64 0, .int .i64 0, .int .i64 0, .int .i64 0]) (by simp [results, Try.results51, go_sem, *]) rfl ⟨.slice none 0 0, rfl, fun _ _ _ _ h => absurd h (by simp), CL.nil _, unhide HRW, unhide HKW⟩

theorem brecord_any (g : Nat) (p e : Int) (s : Value) (b : List UInt8) (w : World) (h : Rd 86 w g s b p e) :
    Calls Try.prog 51 #[.pointer (some ⟨g, 0, none⟩)] w fun x w' => ∃ v, x = .returned (.agg (rcdA (rcdF b p e).1 v)) ∧ (∀ bb off c, v = .slice (some ⟨bb, off, none⟩) (rcdF b p e).1.chg.length c → 0 < (rcdF b p e).1.chg.length → w.heap.size ≤ bb) ∧ CL w' v (rcdF b p e).1.chg ∧ Rd 86 w' g s b (rcdF b p e).2.1 (rcdF b p e).2.2 ∧ Keep (fun k => k = g) w w' := by
  by_cases h1 : (byteF b p e).1 = 1
  · exact brecord_bat g p e s b w h h1
  · by_cases h2 : (byteF b p e).1 = 2
    · exact brecord_mov g p e s b w h h2
    · exact brecord_no g p e s b w h h1 h2
/-- What bytes are as a record. -/
noncomputable def readF10 (b : List UInt8) : Rcd × Int :=
  if (rcdF b 0 0).2.2 ≠ 0 then (zeroRcd, (rcdF b 0 0).2.2)
  else if (rcdF b 0 0).2.1 < b.length ∨ mayRcd (rcdF b 0 0).1 = false then (zeroRcd, 11) else ((rcdF b 0 0).1, 0)

theorem rcd_kind (b : List UInt8) (p e : Int) : 0 ≤ (rcdF b p e).1.kind ∧ (rcdF b p e).1.kind ≤ 2 := by
  simp only [rcdF]
  split
  · simp
  · split
    · simp
    · simp [zeroRcd]

/-- What lies in memory when the record was read: the result's block, the reader's, the record's. -/
structure RB (w w' : World) (h : Nat) (s : Value) (b : List UInt8) (p e : Int) (R : Rcd) (v : Value) : Prop where
  rd : Rd 86 w' (w.heap.size + 1) s b p e
  res : w'.heap[w.heap.size]? = some (.cells #[.int .i64 0, .int .u64 0, .slice none 0 0, .int .u64 0, .int .i64 0, .int .i64 0, .int .i64 0] 39 (0, 0))
  var : w'.heap[h]? = some (.cells (rcdA R v) 39 (0, 0))
  bel : Below w.heap.size w w'
  cl : CL w' v R.chg
  hge : w.heap.size + 1 < h
  src : ∀ bb off c, v = .slice (some ⟨bb, off, none⟩) R.chg.length c → 0 < R.chg.length → bb ≠ w.heap.size ∧ bb ≠ w.heap.size + 1
theorem RB.below {w w' w'' : World} {h : Nat} {s : Value} {b : List UInt8} {p e : Int} {R : Rcd} {v : Value} (H : RB w w' h s b p e R v) (hb : Below w'.heap.size w' w'') : RB w w'' h s b p e R v :=
  ⟨H.rd.below hb, (hb.block _ (Array.getElem?_eq_some_iff.1 H.res).1).trans H.res, (hb.block _ (Array.getElem?_eq_some_iff.1 H.var).1).trans H.var, H.bel.trans (hb.mono H.bel.size), H.cl.below hb, H.hge, H.src⟩
theorem RB.refused {w w' w'' : World} {h : Nat} {s : Value} {b : List UInt8} {p e e' : Int} {R : Rcd} {v : Value} (H : RB w w' h s b p e R v) (r : Rd 86 w'' (w.heap.size + 1) s b p e') (k : Keep (fun k => k = w.heap.size + 1) w' w'') : RB w w'' h s b p e' R v := by
  have h1 := H.hge
  refine ⟨r, (k.block _ (Array.getElem?_eq_some_iff.1 H.res).1 (by omega)).trans H.res, (k.block _ (Array.getElem?_eq_some_iff.1 H.var).1 (by omega)).trans H.var, H.bel.trans (k.below H.bel.size (fun q hq => by omega)), H.cl.keep k (fun bb off c e hl => (H.src bb off c e hl).2), h1, H.src⟩
theorem RB.fin {w w' w'' : World} {h : Nat} {s : Value} {b : List UInt8} {p e : Int} {R : Rcd} {v : Value} (H : RB w w' h s b p e R v) (k : Keep (fun k => k = w.heap.size) w' w'') : Below w.heap.size w w'' ∧ CL w'' v R.chg :=
  ⟨H.bel.trans (k.below H.bel.size (fun q hq => by omega)), H.cl.keep k (fun bb off c e hl => (H.src bb off c e hl).1)⟩
end Go.Proofs.Ytpampknbbpjkiaa

/- The reference of layer 10: Read, but for a batch. -/
namespace Go.Proofs.Ytpampknbbpjkiaa
open Go.RowKit

/-- What lies in memory in the reference's Read: the result's block, the reader's, the record's. -/
structure RQ (w w' : World) (h : Nat) (s : Value) (b : List UInt8) (p e : Int) (R : Rcd) (v : Value) : Prop where
  rd : Rd 91 w' (w.heap.size + 1) s b p e
  res : w'.heap[w.heap.size]? = some (.cells #[.int .i64 0, .int .u64 0, .slice none 0 0, .int .u64 0, .int .i64 0, .int .i64 0, .int .i64 0] 39 (0, 0))
  var : w'.heap[h]? = some (.cells (rcdA R v) 39 (0, 0))
  bel : Below w.heap.size w w'
  cl : CL w' v R.chg
  hge : w.heap.size + 1 < h
  src : ∀ bb off c, v = .slice (some ⟨bb, off, none⟩) R.chg.length c → 0 < R.chg.length → bb ≠ w.heap.size ∧ bb ≠ w.heap.size + 1 ∧ bb ≠ h
theorem RQ.below {w w' w'' : World} {h : Nat} {s : Value} {b : List UInt8} {p e : Int} {R : Rcd} {v : Value} (H : RQ w w' h s b p e R v) (hb : Below w'.heap.size w' w'') : RQ w w'' h s b p e R v :=
  ⟨H.rd.below hb, (hb.block _ (Array.getElem?_eq_some_iff.1 H.res).1).trans H.res, (hb.block _ (Array.getElem?_eq_some_iff.1 H.var).1).trans H.var, H.bel.trans (hb.mono H.bel.size), H.cl.below hb, H.hge, H.src⟩
theorem RQ.call {w w' w'' : World} {h : Nat} {s : Value} {b : List UInt8} {p e p' e' : Int} {R : Rcd} {v : Value} (H : RQ w w' h s b p e R v) (r : Rd 91 w'' (w.heap.size + 1) s b p' e') (k : Keep (fun k => k = w.heap.size + 1) w' w'') : RQ w w'' h s b p' e' R v := by
  have h1 := H.hge
  exact ⟨r, (k.block _ (Array.getElem?_eq_some_iff.1 H.res).1 (by omega)).trans H.res, (k.block _ (Array.getElem?_eq_some_iff.1 H.var).1 (by omega)).trans H.var, H.bel.trans (k.below H.bel.size (fun q hq => by omega)), H.cl.keep k (fun bb off c e hl => (H.src bb off c e hl).2.1), h1, H.src⟩
theorem RQ.fin {w w' w'' : World} {h : Nat} {s : Value} {b : List UInt8} {p e : Int} {R : Rcd} {v : Value} (H : RQ w w' h s b p e R v) (k : Keep (fun k => k = w.heap.size) w' w'') : Below w.heap.size w w'' ∧ CL w'' v R.chg :=
  ⟨H.bel.trans (k.below H.bel.size (fun q hq => by omega)), H.cl.keep k (fun bb off c e hl => (H.src bb off c e hl).1)⟩

set_option maxRecDepth 20000 in
set_option maxHeartbeats 8000000 in
theorem qread_err (s : Value) (b : List UInt8) (w : World) (hs : Row w s b) (hroom : b.length ≤ 140737488351232) (hE : ¬ (byteF b 0 0).2.2 = 0) :
    Calls Try.prog 28 #[s] w fun x w' => ∃ v, x = .returned (.tuple #[.agg (rcdA (readF10 b).1 v), .int .i64 (readF10 b).2]) ∧ CL w' v (readF10 b).1.chg ∧ Below w.heap.size w w' := by
  obtain ⟨sp, sc, sl, hsh, hsl⟩ := hs.shape
  obtain ⟨o, ho⟩ : ∃ o, o = Obj.cells #[.int .i64 0, .int .u64 0, .slice none 0 0, .int .u64 0, .int .i64 0, .int .i64 0, .int .i64 0] 39 := ⟨_, rfl⟩
  obtain ⟨o1, ho1⟩ : ∃ o1, o1 = Obj.cells #[s, .int .i64 0, .int .i64 0] 91 := ⟨_, rfl⟩
  have hb0 : Below w.heap.size w ((w.alloc o).alloc o1) := ((Below.refl _ _).alloc (Nat.le_refl _) _).alloc (by simp) _
  have hrd : Rd 91 ((w.alloc o).alloc o1) (w.heap.size + 1) s b 0 0 := by
    refine ⟨⟨0, by unfold At3; rw [ho1]; exact alloc_new' (by simp) _, fun _ => rfl, by omega, by omega⟩, hs.below hb0, fun bb off c e hb => ?_, hroom, fun _ => by omega⟩
    obtain ⟨b', off', cap, e1, _, _, hc⟩ := hs.open hb
    rw [e] at e1
    simp only [Value.slice.injEq, Option.some.injEq, Addr.mk.injEq, and_true] at e1
    obtain ⟨⟨rfl, rfl⟩, _⟩ := e1
    have : bb < w.heap.size := World.block_lt_of_cell? w _ (hc 0 (List.length_pos_iff.2 hb))
    omega
  have hr0 : ((w.alloc o).alloc o1).heap[w.heap.size]? = some o := (alloc_old (by simp) o1).trans (alloc_new w o)
  have HS0 : Hid (((w.alloc o).alloc o1).heap.size = w.heap.size + 2) := by unfold Hid; simp
  have HBY := hide (qbyte_any (w.heap.size + 1) 0 0 s b _ hrd)
  have HB0 := hide hb0
  have HR0 := hide hr0
  rw [ho, ho1] at HBY HB0 HR0 HS0
  have hRF : readF10 b = if (rcdF b 0 0).2.2 ≠ 0 then (zeroRcd, (rcdF b 0 0).2.2) else if (rcdF b 0 0).2.1 < b.length ∨ mayRcd (rcdF b 0 0).1 = false then (zeroRcd, 11) else ((rcdF b 0 0).1, 0) := rfl
  have hbl := byte_lt b 0 0
  have hbz := byte_zero b 0 0
  have hRC : rcdF b 0 0 = (zeroRcd, (byteF b 0 0).2.1, (byteF b 0 0).2.2) := by
    simp only [rcdF]
    rw [if_neg (by rw [hbz hE]; omega), if_neg (by rw [hbz hE]; omega), if_neg hE]
  generalize rcdF b 0 0 = RCD at *
  generalize readF10 b = RF at *
  obtain ⟨R9, E9⟩ := RF
  generalize byteF b 0 0 = BY at *
  obtain ⟨V, P1, E1⟩ := BY
  simp only at *
  have HRF := hide hRF
  have hwV : IntKind.i64.wrap (V : Int) = V := by rw [IntKind.wrap_i64]; omega
  subst hsh
  subst hsl
  clear hRF hrd hb0 hr0 hs ho ho1
  go_enter Try.func28, Try.ntmps28
  go_wp2_with fail
  refine Calls.mono (unhide HBY) ?_
  rintro x w1 ⟨rfl, r1, k1⟩
  have hs1 := k1.size
  rw [unhide HS0] at hs1
  have hb2 : ∀ o, Below w1.heap.size w1 (w1.alloc o) := fun o => (Below.refl _ _).alloc (Nat.le_refl _) o
  have hbw1 : Below w.heap.size w w1 := (unhide HB0).trans (k1.below (by rw [unhide HS0]; omega) (fun q hq => by omega))
  have B1 : RQ w (w1.alloc (.cells #[.int .i64 (V : Int), .int .u64 0, .slice none 0 0, .int .u64 0, .int .i64 0, .int .i64 0, .int .i64 0] 39)) w1.heap.size (.slice sp b.length sc) b P1 E1 ⟨V, 0, [], 0, 0, 0, 0⟩ (.slice none 0 0) :=
    ⟨r1.below (hb2 _), ((hb2 _).block _ (by omega)).trans ((k1.block _ (by rw [unhide HS0]; omega) (by omega)).trans (unhide HR0)), alloc_new _ _, hbw1.trans ((hb2 _).mono hbw1.size), CL.nil _, by omega, fun _ _ _ e _ => by simp at e⟩
  obtain ⟨a1, h31, ha1, hl1, hu1⟩ := B1.rd.at3
  obtain ⟨c0, c1, c2, fzr⟩ := h31.cells
  have nhr : ¬ w1.heap.size = w.heap.size := by omega
  have nhr2 : ¬ w.heap.size = w1.heap.size := by omega
  have nhg : ¬ w1.heap.size = w.heap.size + 1 := by omega
  have nhg2 : ¬ w.heap.size + 1 = w1.heap.size := by omega
  clear r1 k1 hb2 hbw1 HB0 HR0 HS0 HBY
  have hE1 : (E1 == 0) = false := by simp [hE]
  have hE2 : (E1 != 0) = true := by simp [hE]
  have hx := unhide HRF
  rw [hRC] at hx
  simp only at hx
  rw [if_pos hE] at hx
  obtain ⟨rfl, rfl⟩ : R9 = zeroRcd ∧ E1 = E9 := ⟨(Prod.mk.inj hx).1, (Prod.mk.inj hx).2.symm⟩
  have B4 := B1
  clear hx HRF B1 h31 fzr ha1 hRC hE hbz c0 c1 c2
  obtain ⟨a4, h34, _⟩ := B4.rd.at3
  obtain ⟨k0, k1, k2, fz4⟩ := h34.cells
  obtain ⟨e0, e1, e2, e3, e4, e5, e6⟩ := seven_cells B4.res
  have fz : ∀ j, (w1.alloc (.cells #[.int .i64 (V : Int), .int .u64 0, .slice none 0 0, .int .u64 0, .int .i64 0, .int .i64 0, .int .i64 0] 39)).frozen? ⟨w.heap.size, j, none⟩ = false := fun j => frozen_of_block B4.res
  have g0 := fz 0
  have g1 := fz 1
  have g2 := fz 2
  have g3 := fz 3
  have g4 := fz 4
  have g5 := fz 5
  have g6 := fz 6
  have HF := hide (B4.fin (((((((keep_set (w := (w1.alloc (.cells #[.int .i64 (V : Int), .int .u64 0, .slice none 0 0, .int .u64 0, .int .i64 0, .int .i64 0, .int .i64 0] 39))) (g := w.heap.size) (j := 0) (v := .int .i64 0)).trans (keep_set (g := w.heap.size) (j := 1) (v := .int .u64 0)) (fun _ h => Or.inl h)).trans (keep_set (g := w.heap.size) (j := 2) (v := .slice none 0 0)) (fun _ h => Or.inl h)).trans (keep_set (g := w.heap.size) (j := 3) (v := .int .u64 0)) (fun _ h => Or.inl h)).trans (keep_set (g := w.heap.size) (j := 4) (v := .int .i64 0)) (fun _ h => Or.inl h)).trans (keep_set (g := w.heap.size) (j := 5) (v := .int .i64 0)) (fun _ h => Or.inl h)).trans (keep_set (g := w.heap.size) (j := 6) (v := .int .i64 0)) (fun _ h => Or.inl h))).1.drew
  clear B4 h34 fz fz4
  go_wp2_with fail
  go_region_with (fail)
  all_goals
    go_wp2
    try simp only [List.getElem_toArray, List.getElem_cons_succ, List.getElem_cons_zero, Act.put, List.setIfInBounds_toArray, List.set_cons_zero, List.set_cons_succ]
    refine bodyPost_ret (v := .tuple #[.agg #[.int .i64 0, .int .u64 0, .slice none 0 0, .int .u64 0, .int .i64 0, .int .i64 0, .int .i64 0], .int .i64 E1]) (by simp [results, Try.results28, go_sem, *]) rfl ⟨.slice none 0 0, rfl, CL.nil _, unhide HF⟩

set_option maxRecDepth 20000 in
set_option maxHeartbeats 8000000 in
theorem qread_other (s : Value) (b : List UInt8) (w : World) (hs : Row w s b) (hroom : b.length ≤ 140737488351232) (hE : (byteF b 0 0).2.2 = 0) (q1 : ¬ (byteF b 0 0).1 = 1) (q2 : ¬ (byteF b 0 0).1 = 2) :
    Calls Try.prog 28 #[s] w fun x w' => ∃ v, x = .returned (.tuple #[.agg (rcdA (readF10 b).1 v), .int .i64 (readF10 b).2]) ∧ CL w' v (readF10 b).1.chg ∧ Below w.heap.size w w' := by
  obtain ⟨sp, sc, sl, hsh, hsl⟩ := hs.shape
  obtain ⟨o, ho⟩ : ∃ o, o = Obj.cells #[.int .i64 0, .int .u64 0, .slice none 0 0, .int .u64 0, .int .i64 0, .int .i64 0, .int .i64 0] 39 := ⟨_, rfl⟩
  obtain ⟨o1, ho1⟩ : ∃ o1, o1 = Obj.cells #[s, .int .i64 0, .int .i64 0] 91 := ⟨_, rfl⟩
  have hb0 : Below w.heap.size w ((w.alloc o).alloc o1) := ((Below.refl _ _).alloc (Nat.le_refl _) _).alloc (by simp) _
  have hrd : Rd 91 ((w.alloc o).alloc o1) (w.heap.size + 1) s b 0 0 := by
    refine ⟨⟨0, by unfold At3; rw [ho1]; exact alloc_new' (by simp) _, fun _ => rfl, by omega, by omega⟩, hs.below hb0, fun bb off c e hb => ?_, hroom, fun _ => by omega⟩
    obtain ⟨b', off', cap, e1, _, _, hc⟩ := hs.open hb
    rw [e] at e1
    simp only [Value.slice.injEq, Option.some.injEq, Addr.mk.injEq, and_true] at e1
    obtain ⟨⟨rfl, rfl⟩, _⟩ := e1
    have : bb < w.heap.size := World.block_lt_of_cell? w _ (hc 0 (List.length_pos_iff.2 hb))
    omega
  have hr0 : ((w.alloc o).alloc o1).heap[w.heap.size]? = some o := (alloc_old (by simp) o1).trans (alloc_new w o)
  have HS0 : Hid (((w.alloc o).alloc o1).heap.size = w.heap.size + 2) := by unfold Hid; simp
  have HBY := hide (qbyte_any (w.heap.size + 1) 0 0 s b _ hrd)
  have HB0 := hide hb0
  have HR0 := hide hr0
  rw [ho, ho1] at HBY HB0 HR0 HS0
  have hRF : readF10 b = if (rcdF b 0 0).2.2 ≠ 0 then (zeroRcd, (rcdF b 0 0).2.2) else if (rcdF b 0 0).2.1 < b.length ∨ mayRcd (rcdF b 0 0).1 = false then (zeroRcd, 11) else ((rcdF b 0 0).1, 0) := rfl
  have hbl := byte_lt b 0 0
  have hbz := byte_zero b 0 0
  have hRC : rcdF b 0 0 = (zeroRcd, (byteF b 0 0).2.1, 11) := by
    simp only [rcdF]
    rw [if_neg q1, if_neg q2, if_pos hE]
  generalize rcdF b 0 0 = RCD at *
  generalize readF10 b = RF at *
  obtain ⟨R9, E9⟩ := RF
  generalize byteF b 0 0 = BY at *
  obtain ⟨V, P1, E1⟩ := BY
  simp only at *
  have HRF := hide hRF
  have hwV : IntKind.i64.wrap (V : Int) = V := by rw [IntKind.wrap_i64]; omega
  subst hsh
  subst hsl
  clear hRF hrd hb0 hr0 hs ho ho1
  go_enter Try.func28, Try.ntmps28
  go_wp2_with fail
  refine Calls.mono (unhide HBY) ?_
  rintro x w1 ⟨rfl, r1, k1⟩
  have hs1 := k1.size
  rw [unhide HS0] at hs1
  have hb2 : ∀ o, Below w1.heap.size w1 (w1.alloc o) := fun o => (Below.refl _ _).alloc (Nat.le_refl _) o
  have hbw1 : Below w.heap.size w w1 := (unhide HB0).trans (k1.below (by rw [unhide HS0]; omega) (fun q hq => by omega))
  have B1 : RQ w (w1.alloc (.cells #[.int .i64 (V : Int), .int .u64 0, .slice none 0 0, .int .u64 0, .int .i64 0, .int .i64 0, .int .i64 0] 39)) w1.heap.size (.slice sp b.length sc) b P1 E1 ⟨V, 0, [], 0, 0, 0, 0⟩ (.slice none 0 0) :=
    ⟨r1.below (hb2 _), ((hb2 _).block _ (by omega)).trans ((k1.block _ (by rw [unhide HS0]; omega) (by omega)).trans (unhide HR0)), alloc_new _ _, hbw1.trans ((hb2 _).mono hbw1.size), CL.nil _, by omega, fun _ _ _ e _ => by simp at e⟩
  obtain ⟨a1, h31, ha1, hl1, hu1⟩ := B1.rd.at3
  obtain ⟨c0, c1, c2, fzr⟩ := h31.cells
  have nhr : ¬ w1.heap.size = w.heap.size := by omega
  have nhr2 : ¬ w.heap.size = w1.heap.size := by omega
  have nhg : ¬ w1.heap.size = w.heap.size + 1 := by omega
  have nhg2 : ¬ w.heap.size + 1 = w1.heap.size := by omega
  clear r1 k1 hb2 hbw1 HB0 HR0 HS0 HBY
  subst hE
  have hx := unhide HRF
  rw [hRC] at hx
  simp only at hx
  rw [if_pos (by omega)] at hx
  obtain ⟨rfl, rfl⟩ : R9 = zeroRcd ∧ E9 = 11 := ⟨(Prod.mk.inj hx).1, (Prod.mk.inj hx).2⟩
  have i1 : ((V : Int) == 1) = false := by simp; omega
  have i2 : ((V : Int) == 2) = false := by simp; omega
  have i3 : ¬ (V : Int) = 1 := by omega
  have i4 : ¬ (V : Int) = 2 := by omega
  have f2 := fzr 2
  obtain ⟨u0, u1, u2, u3, u4, u5, u6⟩ := seven_cells B1.var
  have hkq : Keep (fun k => k = w.heap.size + 1) _ ((w1.alloc (.cells #[.int .i64 (V : Int), .int .u64 0, .slice none 0 0, .int .u64 0, .int .i64 0, .int .i64 0, .int .i64 0] 39)).setCell ⟨w.heap.size + 1, 2, none⟩ (.int .i64 11)) := keep_set
  have B4 := B1.call (p' := P1) (e' := 11) ⟨⟨a1, h31.set2 _, fun h => absurd h (by omega), hl1, hu1⟩, B1.rd.row.keep hkq B1.rd.apart, B1.rd.apart, B1.rd.room, fun h => absurd h (by omega)⟩ hkq
  clear hx HRF B1 h31 fzr ha1 hRC hbz hkq q1 q2
  obtain ⟨a4, h34, _⟩ := B4.rd.at3
  obtain ⟨k0, k1, k2, fz4⟩ := h34.cells
  obtain ⟨e0, e1, e2, e3, e4, e5, e6⟩ := seven_cells B4.res
  have fz : ∀ j, ((w1.alloc (.cells #[.int .i64 (V : Int), .int .u64 0, .slice none 0 0, .int .u64 0, .int .i64 0, .int .i64 0, .int .i64 0] 39)).setCell ⟨w.heap.size + 1, 2, none⟩ (.int .i64 11)).frozen? ⟨w.heap.size, j, none⟩ = false := fun j => frozen_of_block B4.res
  have g0 := fz 0
  have g1 := fz 1
  have g2 := fz 2
  have g3 := fz 3
  have g4 := fz 4
  have g5 := fz 5
  have g6 := fz 6
  have HF := hide (B4.fin (((((((keep_set (w := ((w1.alloc (.cells #[.int .i64 (V : Int), .int .u64 0, .slice none 0 0, .int .u64 0, .int .i64 0, .int .i64 0, .int .i64 0] 39)).setCell ⟨w.heap.size + 1, 2, none⟩ (.int .i64 11))) (g := w.heap.size) (j := 0) (v := .int .i64 0)).trans (keep_set (g := w.heap.size) (j := 1) (v := .int .u64 0)) (fun _ h => Or.inl h)).trans (keep_set (g := w.heap.size) (j := 2) (v := .slice none 0 0)) (fun _ h => Or.inl h)).trans (keep_set (g := w.heap.size) (j := 3) (v := .int .u64 0)) (fun _ h => Or.inl h)).trans (keep_set (g := w.heap.size) (j := 4) (v := .int .i64 0)) (fun _ h => Or.inl h)).trans (keep_set (g := w.heap.size) (j := 5) (v := .int .i64 0)) (fun _ h => Or.inl h)).trans (keep_set (g := w.heap.size) (j := 6) (v := .int .i64 0)) (fun _ h => Or.inl h))).1.drew
  clear B4 h34 fz fz4
  go_wp2_with fail
  go_region_with (fail)
  all_goals
    go_wp2
    try simp only [List.getElem_toArray, List.getElem_cons_succ, List.getElem_cons_zero, Act.put, List.setIfInBounds_toArray, List.set_cons_zero, List.set_cons_succ]
    refine bodyPost_ret (v := .tuple #[.agg #[.int .i64 0, .int .u64 0, .slice none 0 0, .int .u64 0, .int .i64 0, .int .i64 0, .int .i64 0], .int .i64 11]) (by simp [results, Try.results28, go_sem, *]) rfl ⟨.slice none 0 0, rfl, CL.nil _, unhide HF⟩
end Go.Proofs.Ytpampknbbpjkiaa

/- The reference of layer 10: Read of a move. -/
namespace Go.Proofs.Ytpampknbbpjkiaa
open Go.RowKit

set_option maxRecDepth 20000 in
set_option maxHeartbeats 8000000 in
theorem qread_mov (s : Value) (b : List UInt8) (w : World) (hs : Row w s b) (hroom : b.length ≤ 140737488351232) (hE : (byteF b 0 0).2.2 = 0) (q2 : (byteF b 0 0).1 = 2) :
    Calls Try.prog 28 #[s] w fun x w' => ∃ v, x = .returned (.tuple #[.agg (rcdA (readF10 b).1 v), .int .i64 (readF10 b).2]) ∧ CL w' v (readF10 b).1.chg ∧ Below w.heap.size w w' := by
  obtain ⟨sp, sc, sl, hsh, hsl⟩ := hs.shape
  obtain ⟨o, ho⟩ : ∃ o, o = Obj.cells #[.int .i64 0, .int .u64 0, .slice none 0 0, .int .u64 0, .int .i64 0, .int .i64 0, .int .i64 0] 39 := ⟨_, rfl⟩
  obtain ⟨o1, ho1⟩ : ∃ o1, o1 = Obj.cells #[s, .int .i64 0, .int .i64 0] 91 := ⟨_, rfl⟩
  have hb0 : Below w.heap.size w ((w.alloc o).alloc o1) := ((Below.refl _ _).alloc (Nat.le_refl _) _).alloc (by simp) _
  have hrd : Rd 91 ((w.alloc o).alloc o1) (w.heap.size + 1) s b 0 0 := by
    refine ⟨⟨0, by unfold At3; rw [ho1]; exact alloc_new' (by simp) _, fun _ => rfl, by omega, by omega⟩, hs.below hb0, fun bb off c e hb => ?_, hroom, fun _ => by omega⟩
    obtain ⟨b', off', cap, e1, _, _, hc⟩ := hs.open hb
    rw [e] at e1
    simp only [Value.slice.injEq, Option.some.injEq, Addr.mk.injEq, and_true] at e1
    obtain ⟨⟨rfl, rfl⟩, _⟩ := e1
    have : bb < w.heap.size := World.block_lt_of_cell? w _ (hc 0 (List.length_pos_iff.2 hb))
    omega
  have hr0 : ((w.alloc o).alloc o1).heap[w.heap.size]? = some o := (alloc_old (by simp) o1).trans (alloc_new w o)
  have HS0 : Hid (((w.alloc o).alloc o1).heap.size = w.heap.size + 2) := by unfold Hid; simp
  have HBY := hide (qbyte_any (w.heap.size + 1) 0 0 s b _ hrd)
  have HB0 := hide hb0
  have HR0 := hide hr0
  rw [ho, ho1] at HBY HB0 HR0 HS0
  have hRF : readF10 b = if (rcdF b 0 0).2.2 ≠ 0 then (zeroRcd, (rcdF b 0 0).2.2) else if (rcdF b 0 0).2.1 < b.length ∨ mayRcd (rcdF b 0 0).1 = false then (zeroRcd, 11) else ((rcdF b 0 0).1, 0) := rfl
  have hbl := byte_lt b 0 0
  have hbz := byte_zero b 0 0
  have HSRC : Hid (∀ bb off c, s = .slice (some ⟨bb, off, none⟩) b.length c → b ≠ [] → bb < w.heap.size) := by
    intro bb off c e hb
    obtain ⟨b', off', cap, e1, _, _, hc⟩ := hs.open hb
    rw [e] at e1
    simp only [Value.slice.injEq, Option.some.injEq, Addr.mk.injEq, and_true] at e1
    obtain ⟨⟨rfl, rfl⟩, _⟩ := e1
    exact World.block_lt_of_cell? w _ (hc 0 (List.length_pos_iff.2 hb))
  obtain ⟨BX, hBX⟩ : ∃ BX, byteF b 0 0 = BX := ⟨_, rfl⟩
  have HBX := hide hBX
  rw [hBX] at hE q2 hbl hbz HBY
  clear hBX
  generalize readF10 b = RF at *
  obtain ⟨R9, E9⟩ := RF
  obtain ⟨V, P1, E1⟩ := BX
  simp only at *
  have HRF := hide hRF
  have hwV : IntKind.i64.wrap (V : Int) = V := by rw [IntKind.wrap_i64]; omega
  subst hsh
  subst hsl
  clear hRF hrd hb0 hr0 hs ho ho1
  go_enter Try.func28, Try.ntmps28
  go_wp2_with fail
  refine Calls.mono (unhide HBY) ?_
  rintro x w1 ⟨rfl, r1, k1⟩
  have hs1 := k1.size
  rw [unhide HS0] at hs1
  have hb2 : ∀ o, Below w1.heap.size w1 (w1.alloc o) := fun o => (Below.refl _ _).alloc (Nat.le_refl _) o
  have hbw1 : Below w.heap.size w w1 := (unhide HB0).trans (k1.below (by rw [unhide HS0]; omega) (fun q hq => by omega))
  have B1 : RQ w (w1.alloc (.cells #[.int .i64 (V : Int), .int .u64 0, .slice none 0 0, .int .u64 0, .int .i64 0, .int .i64 0, .int .i64 0] 39)) w1.heap.size (.slice sp b.length sc) b P1 E1 ⟨V, 0, [], 0, 0, 0, 0⟩ (.slice none 0 0) :=
    ⟨r1.below (hb2 _), ((hb2 _).block _ (by omega)).trans ((k1.block _ (by rw [unhide HS0]; omega) (by omega)).trans (unhide HR0)), alloc_new _ _, hbw1.trans ((hb2 _).mono hbw1.size), CL.nil _, by omega, fun _ _ _ e _ => by simp at e⟩
  obtain ⟨a1, h31, ha1, hl1, hu1⟩ := B1.rd.at3
  obtain ⟨c0, c1, c2, fzr⟩ := h31.cells
  have nhr : ¬ w1.heap.size = w.heap.size := by omega
  have nhr2 : ¬ w.heap.size = w1.heap.size := by omega
  have nhg : ¬ w1.heap.size = w.heap.size + 1 := by omega
  have nhg2 : ¬ w.heap.size + 1 = w1.heap.size := by omega
  clear r1 k1 hb2 hbw1 HB0 HR0 HS0 HBY
  subst hE
  subst q2
  rw [show ((2 : Nat) : Int) = 2 from rfl] at B1 c0 c1 c2
  obtain ⟨u0, u1, u2, u3, u4, u5, u6⟩ := seven_cells B1.var
  clear h31 fzr ha1 hbz
  have HQ := hide (qnum_any (w.heap.size + 1) P1 0 _ b _ B1.rd)
  generalize hN1 : numF b P1 0 = NN at *
  obtain ⟨V2, P2, E2⟩ := NN
  have HN1 := hide hN1
  simp only at HQ
  have HB1 := hide B1
  clear B1 hN1
  go_wp2_with fail
  refine Calls.mono (unhide HQ) ?_
  rintro x w2 ⟨rfl, r, k⟩
  have B1 := (unhide HB1).call r k
  clear HB1 HQ r k
  have HQ := hide (qmost_big (w.heap.size + 1) P2 E2 _ b _ B1.rd)
  generalize hN2 : mostF b bigM P2 E2 = NN at *
  obtain ⟨V3, P3, E3⟩ := NN
  have HN2 := hide hN2
  simp only at HQ
  have HB1 := hide B1
  clear B1 hN2
  go_wp2_with fail
  refine Calls.mono (unhide HQ) ?_
  rintro x w3 ⟨rfl, r, k⟩
  have B1 := (unhide HB1).call r k
  clear HB1 HQ r k
  have HQ := hide (qmost_big (w.heap.size + 1) P3 E3 _ b _ B1.rd)
  generalize hN3 : mostF b bigM P3 E3 = NN at *
  obtain ⟨V4, P4, E4⟩ := NN
  have HN3 := hide hN3
  simp only at HQ
  have HB1 := hide B1
  clear B1 hN3
  go_wp2_with fail
  refine Calls.mono (unhide HQ) ?_
  rintro x w4 ⟨rfl, r, k⟩
  have B1 := (unhide HB1).call r k
  clear HB1 HQ r k
  have HQ := hide (qmost_big (w.heap.size + 1) P4 E4 _ b _ B1.rd)
  generalize hN4 : mostF b bigM P4 E4 = NN at *
  obtain ⟨V5, P5, E5⟩ := NN
  have HN4 := hide hN4
  simp only at HQ
  have HB1 := hide B1
  clear B1 hN4
  go_wp2_with fail
  refine Calls.mono (unhide HQ) ?_
  rintro x w5 ⟨rfl, r, k⟩
  have B1 := (unhide HB1).call r k
  clear HB1 HQ r k
  have hRX : rcdF b 0 0 = (⟨2, 0, [], V2, V3, V4, V5⟩, P5, E5) := by
    simp only [rcdF, unhide HBX]
    rw [if_neg (by omega), if_pos trivial]
    simp only [movF, unhide HN1, unhide HN2, unhide HN3, unhide HN4]
  have HRX := hide hRX
  obtain ⟨y0, y1, y2, y3, y4, y5, y6⟩ := seven_cells B1.var
  have fy : ∀ j, w5.frozen? ⟨w1.heap.size, j, none⟩ = false := fun j => frozen_of_block B1.var
  have z3 := fy 3
  have z4 := fy 4
  have z5 := fy 5
  have z6 := fy 6
  have hkm : Keep (fun k => k = w1.heap.size) w5 ((((w5.setCell ⟨w1.heap.size, 3, none⟩ (.int .u64 (V2 : Int))).setCell ⟨w1.heap.size, 4, none⟩ (.int .i64 (V3 : Int))).setCell ⟨w1.heap.size, 5, none⟩ (.int .i64 (V4 : Int))).setCell ⟨w1.heap.size, 6, none⟩ (.int .i64 (V5 : Int))) := (((keep_set).trans keep_set (fun _ h => Or.inl h)).trans keep_set (fun _ h => Or.inl h)).trans keep_set (fun _ h => Or.inl h)
  have hv5 : ((((w5.setCell ⟨w1.heap.size, 3, none⟩ (.int .u64 (V2 : Int))).setCell ⟨w1.heap.size, 4, none⟩ (.int .i64 (V3 : Int))).setCell ⟨w1.heap.size, 5, none⟩ (.int .i64 (V4 : Int))).setCell ⟨w1.heap.size, 6, none⟩ (.int .i64 (V5 : Int))).heap[w1.heap.size]? = some (.cells (rcdA ⟨2, 0, [], V2, V3, V4, V5⟩ (.slice none 0 0)) 39 (0, 0)) := by
    rw [heap_setCell_same _ _ _ _ _ _ (heap_setCell_same _ _ _ _ _ _ (heap_setCell_same _ _ _ _ _ _ (heap_setCell_same _ _ _ _ _ _ B1.var)))]
    rfl
  have B4 : RQ w ((((w5.setCell ⟨w1.heap.size, 3, none⟩ (.int .u64 (V2 : Int))).setCell ⟨w1.heap.size, 4, none⟩ (.int .i64 (V3 : Int))).setCell ⟨w1.heap.size, 5, none⟩ (.int .i64 (V4 : Int))).setCell ⟨w1.heap.size, 6, none⟩ (.int .i64 (V5 : Int))) w1.heap.size (.slice sp b.length sc) b P5 E5 ⟨2, 0, [], V2, V3, V4, V5⟩ (.slice none 0 0) := by
    refine ⟨B1.rd.keep hkm (by omega) (fun bb off c e hb => ?_), (hkm.block _ (Array.getElem?_eq_some_iff.1 B1.res).1 (by omega)).trans B1.res, hv5, B1.bel.trans (hkm.below B1.bel.size (fun q hq => by omega)), CL.nil _, B1.hge, fun _ _ _ e _ => by simp at e⟩
    have := unhide HSRC bb off c e hb
    omega
  clear B1 hkm hv5 fy hRX HN1 HN2 HN3 HN4 HBX
  have hx0 := unhide HRF
  rw [unhide HRX] at hx0
  simp only at hx0
  by_cases hE5 : E5 = 0
  · rw [hE5] at B4
    rw [if_neg (by simp [hE5])] at hx0
    obtain ⟨a5, h35, ha5, hl5, hu5⟩ := B4.rd.at3
    obtain rfl : a5 = P5 := ha5 rfl
    obtain ⟨hp0, hp1⟩ := B4.rd.pos rfl
    obtain ⟨k0, k1, k2, fz5⟩ := h35.cells
    have HLF := hide (qleft_any (w.heap.size + 1) a5 0 (.slice sp b.length sc) b.length _ ⟨_, _, rfl⟩ h35 hp0 hp1 hroom)
    by_cases hD : a5 < (b.length : Int)
    · rw [if_pos (Or.inl hD)] at hx0
      obtain ⟨rfl, rfl⟩ : R9 = zeroRcd ∧ E9 = 11 := ⟨(Prod.mk.inj hx0).1, (Prod.mk.inj hx0).2⟩
      have hDI : (0 : Int) < (b.length : Int) - a5 := by omega
      generalize (b.length : Int) - a5 = DD at *
      have HB4 := hide B4
      clear B4 h35 fz5 hx0 HRF HRX ha5 hp0 hp1 hD hE5
      go_wp2_with fail
      refine Calls.mono (unhide HLF) ?_
      rintro x w7 ⟨rfl, b7⟩
      have B4 := (unhide HB4).below b7
      clear HB4 b7 HLF
      obtain ⟨e0, e1, e2, e3, e4, e5, e6⟩ := seven_cells B4.res
      have fz : ∀ j, w7.frozen? ⟨w.heap.size, j, none⟩ = false := fun j => frozen_of_block B4.res
      have g0 := fz 0
      have g1 := fz 1
      have g2 := fz 2
      have g3 := fz 3
      have g4 := fz 4
      have g5 := fz 5
      have g6 := fz 6
      have HF := hide (B4.fin (((((((keep_set (w := w7) (g := w.heap.size) (j := 0) (v := .int .i64 0)).trans (keep_set (g := w.heap.size) (j := 1) (v := .int .u64 0)) (fun _ h => Or.inl h)).trans (keep_set (g := w.heap.size) (j := 2) (v := .slice none 0 0)) (fun _ h => Or.inl h)).trans (keep_set (g := w.heap.size) (j := 3) (v := .int .u64 0)) (fun _ h => Or.inl h)).trans (keep_set (g := w.heap.size) (j := 4) (v := .int .i64 0)) (fun _ h => Or.inl h)).trans (keep_set (g := w.heap.size) (j := 5) (v := .int .i64 0)) (fun _ h => Or.inl h)).trans (keep_set (g := w.heap.size) (j := 6) (v := .int .i64 0)) (fun _ h => Or.inl h))).1
      clear B4 fz
      go_wp2
      refine bodyPost_ret (v := .tuple #[.agg #[.int .i64 0, .int .u64 0, .slice none 0 0, .int .u64 0, .int .i64 0, .int .i64 0, .int .i64 0], .int .i64 11]) (by simp [results, Try.results28, go_sem, *]) rfl ⟨.slice none 0 0, rfl, CL.nil _, unhide HF⟩
    · have hDI : ¬ (0 : Int) < (b.length : Int) - a5 := by omega
      have hD0 : (b.length : Int) - a5 = 0 := by omega
      rw [hD0] at HLF
      cases hM : mayRcd (⟨2, 0, [], V2, V3, V4, V5⟩) with
      | false =>
        rw [if_pos (Or.inr hM)] at hx0
        obtain ⟨rfl, rfl⟩ : R9 = zeroRcd ∧ E9 = 11 := ⟨(Prod.mk.inj hx0).1, (Prod.mk.inj hx0).2⟩
        have HB4 := hide B4
        clear B4 h35 fz5 hx0 HRF HRX ha5 hp0 hp1 hD hE5 hDI hD0
        go_wp2_with fail
        refine Calls.mono (unhide HLF) ?_
        rintro x w7 ⟨rfl, b7⟩
        have B5 := (unhide HB4).below b7
        have hmm := rmay10_any (⟨2, 0, [], V2, V3, V4, V5⟩) (.slice none 0 0) w7 B5.cl
        rw [hM] at hmm
        unfold rcdA at hmm
        have HMM := hide hmm
        obtain ⟨x0, x1, x2, x3, x4, x5, x6⟩ := seven_cells B5.var
        have HB5 := hide B5
        clear HB4 b7 HLF B5 hmm hM
        go_wp2_with fail
        refine Calls.mono (unhide HMM) ?_
        rintro x w8 ⟨rfl, b8⟩
        have B4 := (unhide HB5).below b8
        clear HB5 b8 HMM x0 x1 x2 x3 x4 x5 x6
        obtain ⟨e0, e1, e2, e3, e4, e5, e6⟩ := seven_cells B4.res
        have fz : ∀ j, w8.frozen? ⟨w.heap.size, j, none⟩ = false := fun j => frozen_of_block B4.res
        have g0 := fz 0
        have g1 := fz 1
        have g2 := fz 2
        have g3 := fz 3
        have g4 := fz 4
        have g5 := fz 5
        have g6 := fz 6
        have HF := hide (B4.fin (((((((keep_set (w := w8) (g := w.heap.size) (j := 0) (v := .int .i64 0)).trans (keep_set (g := w.heap.size) (j := 1) (v := .int .u64 0)) (fun _ h => Or.inl h)).trans (keep_set (g := w.heap.size) (j := 2) (v := .slice none 0 0)) (fun _ h => Or.inl h)).trans (keep_set (g := w.heap.size) (j := 3) (v := .int .u64 0)) (fun _ h => Or.inl h)).trans (keep_set (g := w.heap.size) (j := 4) (v := .int .i64 0)) (fun _ h => Or.inl h)).trans (keep_set (g := w.heap.size) (j := 5) (v := .int .i64 0)) (fun _ h => Or.inl h)).trans (keep_set (g := w.heap.size) (j := 6) (v := .int .i64 0)) (fun _ h => Or.inl h))).1
        clear B4 fz
        go_wp2
        refine bodyPost_ret (v := .tuple #[.agg #[.int .i64 0, .int .u64 0, .slice none 0 0, .int .u64 0, .int .i64 0, .int .i64 0, .int .i64 0], .int .i64 11]) (by simp [results, Try.results28, go_sem, *]) rfl ⟨.slice none 0 0, rfl, CL.nil _, unhide HF⟩
      | true =>
        rw [if_neg (by rw [hM]; simp; omega)] at hx0
        obtain ⟨rfl, rfl⟩ : R9 = ⟨2, 0, [], V2, V3, V4, V5⟩ ∧ E9 = 0 := ⟨(Prod.mk.inj hx0).1, (Prod.mk.inj hx0).2⟩
        have HB4 := hide B4
        clear B4 h35 fz5 hx0 HRF HRX ha5 hp0 hp1 hD hE5 hDI hD0
        go_wp2_with fail
        refine Calls.mono (unhide HLF) ?_
        rintro x w7 ⟨rfl, b7⟩
        have B5 := (unhide HB4).below b7
        have hmm := rmay10_any (⟨2, 0, [], V2, V3, V4, V5⟩) (.slice none 0 0) w7 B5.cl
        rw [hM] at hmm
        unfold rcdA at hmm
        have HMM := hide hmm
        obtain ⟨x0, x1, x2, x3, x4, x5, x6⟩ := seven_cells B5.var
        have HB5 := hide B5
        clear HB4 b7 HLF B5 hmm hM
        go_wp2_with fail
        refine Calls.mono (unhide HMM) ?_
        rintro x w8 ⟨rfl, b8⟩
        have B4 := (unhide HB5).below b8
        clear HB5 b8 HMM x0 x1 x2 x3 x4 x5 x6
        obtain ⟨e0, e1, e2, e3, e4, e5, e6⟩ := seven_cells B4.res
        obtain ⟨x0, x1, x2, x3, x4, x5, x6⟩ := seven_cells B4.var
        have fz : ∀ j, w8.frozen? ⟨w.heap.size, j, none⟩ = false := fun j => frozen_of_block B4.res
        have g0 := fz 0
        have g1 := fz 1
        have g2 := fz 2
        have g3 := fz 3
        have g4 := fz 4
        have g5 := fz 5
        have g6 := fz 6
        have HF := hide (B4.fin (((((((keep_set (w := w8) (g := w.heap.size) (j := 0) (v := .int .i64 2)).trans (keep_set (g := w.heap.size) (j := 1) (v := .int .u64 0)) (fun _ h => Or.inl h)).trans (keep_set (g := w.heap.size) (j := 2) (v := .slice none 0 0)) (fun _ h => Or.inl h)).trans (keep_set (g := w.heap.size) (j := 3) (v := .int .u64 (V2 : Int))) (fun _ h => Or.inl h)).trans (keep_set (g := w.heap.size) (j := 4) (v := .int .i64 (V3 : Int))) (fun _ h => Or.inl h)).trans (keep_set (g := w.heap.size) (j := 5) (v := .int .i64 (V4 : Int))) (fun _ h => Or.inl h)).trans (keep_set (g := w.heap.size) (j := 6) (v := .int .i64 (V5 : Int))) (fun _ h => Or.inl h)))
        clear B4 fz
        go_wp2
        refine bodyPost_ret (v := .tuple #[.agg #[.int .i64 2, .int .u64 0, .slice none 0 0, .int .u64 (V2 : Int), .int .i64 (V3 : Int), .int .i64 (V4 : Int), .int .i64 (V5 : Int)], .int .i64 0]) (by simp [results, Try.results28, go_sem, *]) rfl ⟨(.slice none 0 0), rfl, (unhide HF).2, (unhide HF).1⟩
  · have hE6 : (E5 == 0) = false := by simp [hE5]
    have hE7 : (E5 != 0) = true := by simp [hE5]
    rw [if_pos hE5] at hx0
    obtain ⟨rfl, rfl⟩ : R9 = zeroRcd ∧ E5 = E9 := ⟨(Prod.mk.inj hx0).1, (Prod.mk.inj hx0).2.symm⟩
    clear hx0 HRF HRX hE5
    obtain ⟨a4, h34, _⟩ := B4.rd.at3
    obtain ⟨k0, k1, k2, fz4⟩ := h34.cells
    obtain ⟨e0, e1, e2, e3, e4, e5, e6⟩ := seven_cells B4.res
    have fz : ∀ j, ((((w5.setCell ⟨w1.heap.size, 3, none⟩ (.int .u64 (V2 : Int))).setCell ⟨w1.heap.size, 4, none⟩ (.int .i64 (V3 : Int))).setCell ⟨w1.heap.size, 5, none⟩ (.int .i64 (V4 : Int))).setCell ⟨w1.heap.size, 6, none⟩ (.int .i64 (V5 : Int))).frozen? ⟨w.heap.size, j, none⟩ = false := fun j => frozen_of_block B4.res
    have g0 := fz 0
    have g1 := fz 1
    have g2 := fz 2
    have g3 := fz 3
    have g4 := fz 4
    have g5 := fz 5
    have g6 := fz 6
    have HF := hide (B4.fin (((((((keep_set (w := ((((w5.setCell ⟨w1.heap.size, 3, none⟩ (.int .u64 (V2 : Int))).setCell ⟨w1.heap.size, 4, none⟩ (.int .i64 (V3 : Int))).setCell ⟨w1.heap.size, 5, none⟩ (.int .i64 (V4 : Int))).setCell ⟨w1.heap.size, 6, none⟩ (.int .i64 (V5 : Int)))) (g := w.heap.size) (j := 0) (v := .int .i64 0)).trans (keep_set (g := w.heap.size) (j := 1) (v := .int .u64 0)) (fun _ h => Or.inl h)).trans (keep_set (g := w.heap.size) (j := 2) (v := .slice none 0 0)) (fun _ h => Or.inl h)).trans (keep_set (g := w.heap.size) (j := 3) (v := .int .u64 0)) (fun _ h => Or.inl h)).trans (keep_set (g := w.heap.size) (j := 4) (v := .int .i64 0)) (fun _ h => Or.inl h)).trans (keep_set (g := w.heap.size) (j := 5) (v := .int .i64 0)) (fun _ h => Or.inl h)).trans (keep_set (g := w.heap.size) (j := 6) (v := .int .i64 0)) (fun _ h => Or.inl h))).1.drew
    clear B4 h34 fz fz4
    go_wp2_with fail
    go_region_with (fail)
    all_goals
      go_wp2
      try simp only [List.getElem_toArray, List.getElem_cons_succ, List.getElem_cons_zero, Act.put, List.setIfInBounds_toArray, List.set_cons_zero, List.set_cons_succ]
      refine bodyPost_ret (v := .tuple #[.agg #[.int .i64 0, .int .u64 0, .slice none 0 0, .int .u64 0, .int .i64 0, .int .i64 0, .int .i64 0], .int .i64 E5]) (by simp [results, Try.results28, go_sem, *]) rfl ⟨.slice none 0 0, rfl, CL.nil _, unhide HF⟩
end Go.Proofs.Ytpampknbbpjkiaa

/- The reference of layer 10: for Read of a batch. -/
namespace Go.Proofs.Ytpampknbbpjkiaa
open Go.RowKit

theorem chg_err (b : List UInt8) (p e : Int) (h : e ≠ 0) : (chgF b p e).2 = (p, e) := by
  have h1 : textF b p e = ([], p, e) := by unfold textF; rw [if_pos h]
  have h2 : byteF b p e = (0, p, e) := by unfold byteF; rw [if_pos h]
  have h3 : goneF b p e = (false, p, e) := by unfold goneF; rw [h2]; simp [h]
  have h4 : numF b p e = (0, p, e) := by unfold numF; rw [if_pos h]
  have h5 : mostF b bigM p e = (0, p, e) := by unfold mostF; rw [h4]; simp [h]
  simp only [chgF, h1, h3, h4, h5, Bool.false_eq_true, if_false]
theorem chgs_err (b : List UInt8) (k m : Nat) (p e : Int) (hk : k ≤ m) (h : (chgsF b k p e).2.2 ≠ 0) : (chgsF b m p e).2 = (chgsF b k p e).2 := by
  induction m with
  | zero => obtain rfl : k = 0 := by omega
            rfl
  | succ m ih =>
    by_cases he : k = m + 1
    · rw [he]
    · have h1 := ih (by omega)
      have h2 : chgsF b (m + 1) p e = ((chgsF b m p e).1 ++ [(chgF b (chgsF b m p e).2.1 (chgsF b m p e).2.2).1], (chgF b (chgsF b m p e).2.1 (chgsF b m p e).2.2).2) := rfl
      rw [h2]
      simp only
      rw [h1, chg_err b _ _ h]
/-- The record's variable is set anew. -/
theorem RQ.set {w w' w'' : World} {h : Nat} {s : Value} {b : List UInt8} {p e : Int} {R R' : Rcd} {v v' : Value} (H : RQ w w' h s b p e R v) (hsrc : ∀ bb off c, s = .slice (some ⟨bb, off, none⟩) b.length c → b ≠ [] → bb < w.heap.size) (k : Keep (fun k => k = h) w' w'') (hv : w''.heap[h]? = some (.cells (rcdA R' v') 39 (0, 0))) (hc : CL w'' v' R'.chg) (hs : ∀ bb off c, v' = .slice (some ⟨bb, off, none⟩) R'.chg.length c → 0 < R'.chg.length → bb ≠ w.heap.size ∧ bb ≠ w.heap.size + 1 ∧ bb ≠ h) : RQ w w'' h s b p e R' v' := by
  have h1 := H.hge
  exact ⟨H.rd.keep k (by omega) (fun bb off c e hb => by have := hsrc bb off c e hb; omega), (k.block _ (Array.getElem?_eq_some_iff.1 H.res).1 (by omega)).trans H.res, hv, H.bel.trans (k.below H.bel.size (fun q hq => by omega)), hc, h1, hs⟩

theorem owns_kp {F : Nat → Prop} {w w' : World} {base e sz : Nat} {v : Value} {n : Nat} {xs : List Value} (h : w.ownsRow base e sz v n xs) (hk : Keep F w w') (hn : ∀ k, v.ownBlock = some k → ¬ F k) : w'.ownsRow base e sz v n xs := by
  refine ⟨h.1, ?_⟩
  rcases h.2 with h2 | ⟨g, cap, cur, rfl, hg, hh, r⟩
  · exact Or.inl h2
  · exact Or.inr ⟨g, cap, cur, rfl, hg, (hk.block g (Array.getElem?_eq_some_iff.1 hh).1 (hn g rfl)).trans hh, r⟩
theorem RQ.set2 {w w' w'' : World} {h : Nat} {s : Value} {b : List UInt8} {p e : Int} {R R' : Rcd} {v v' : Value} (H : RQ w w' h s b p e R v) (hsrc : ∀ bb off c, s = .slice (some ⟨bb, off, none⟩) b.length c → b ≠ [] → bb < w.heap.size) (k : Keep (fun k => h ≤ k) w' w'') (hv : w''.heap[h]? = some (.cells (rcdA R' v') 39 (0, 0))) (hc : CL w'' v' R'.chg) (hs : ∀ bb off c, v' = .slice (some ⟨bb, off, none⟩) R'.chg.length c → 0 < R'.chg.length → bb ≠ w.heap.size ∧ bb ≠ w.heap.size + 1 ∧ bb ≠ h) : RQ w w'' h s b p e R' v' := by
  have h1 := H.hge
  exact ⟨H.rd.keep k (by omega) (fun bb off c e hb => by have := hsrc bb off c e hb; omega), (k.block _ (Array.getElem?_eq_some_iff.1 H.res).1 (by omega)).trans H.res, hv, H.bel.trans (k.below H.bel.size (fun q hq => by omega)), hc, h1, hs⟩
/-- A change more, in memory. -/
theorem RQ.more {w w5 w6 : World} {h : Nat} {s : Value} {b : List UInt8} {p e : Int} {V2 : Nat} {L : List Chg} {C : Chg} {v v2 : Value} {o : Obj} (H : RQ w w5 h s b p e ⟨1, V2, L, 0, 0, 0, 0⟩ v) (hsrc : ∀ bb off c, s = .slice (some ⟨bb, off, none⟩) b.length c → b ≠ [] → bb < w.heap.size)
    (hown : w5.ownsRow (h + 1) 44 5 v L.length (L.flatMap chgC)) (hown2 : w6.ownsRow (h + 1) 44 5 v2 (L.length + 1) (L.flatMap chgC ++ chgC C)) (hg : (w5.alloc o).grownBy w6 v.ownBlock) :
    RQ w (w6.setCell ⟨h, 2, none⟩ v2) h s b p e ⟨1, V2, L ++ [C], 0, 0, 0, 0⟩ v2 ∧ (w6.setCell ⟨h, 2, none⟩ v2).ownsRow (h + 1) 44 5 v2 (L.length + 1) ((L ++ [C]).flatMap chgC) ∧ w6.cell? ⟨h, 2, none⟩ = some v ∧ w6.frozen? ⟨h, 2, none⟩ = false := by
  have hb5 : Below w5.heap.size w5 (w5.alloc o) := (Below.refl _ _).alloc (Nat.le_refl _) _
  have H5 := H.below hb5
  have hne : v.ownBlock ≠ some h := fun e => by have := (hown.lt h e).1; omega
  have hv6 := (hg.block h (Array.getElem?_eq_some_iff.1 H5.var).1 (fun e => hne e.symm)).trans H5.var
  have hk6 : Keep (fun k => h ≤ k) (w5.alloc o) w6 := ⟨hg.os, hg.tape, hg.output, hg.size, fun k hk hn => hg.block k hk (fun e => hn (by have := (hown.lt k e.symm).1; omega))⟩
  have hks : Keep (fun k => k = h) w6 (w6.setCell ⟨h, 2, none⟩ v2) := keep_set
  have ho2 := owns_kp hown2 hks (fun k hk e => by have := (hown2.lt k hk).1; omega)
  have ef : L.flatMap chgC ++ chgC C = (L ++ [C]).flatMap chgC := by simp
  rw [ef] at ho2
  have hlen : (L ++ [C]).length = L.length + 1 := by simp
  refine ⟨H5.set2 hsrc (hk6.trans (hks.weak (G := fun k => h ≤ k) (fun x hx => by omega)) (fun _ h => Or.inl h)) (by rw [heap_setCell_same _ _ _ _ _ _ hv6]; rfl) ?_ ?_, ho2, (seven_cells hv6).2.2.1, frozen_of_block hv6⟩
  · have := krow_of_owns ho2 (by rw [flat_len chgC_len, hlen])
    unfold CL
    rw [hlen]
    exact this
  · intro bb off c e _
    have hb := (hown2.lt bb (by rw [e]; rfl)).1
    have h9 := H.hge
    omega
end Go.Proofs.Ytpampknbbpjkiaa

/- The reference of layer 10: Read of a batch. -/
namespace Go.Proofs.Ytpampknbbpjkiaa
open Go.RowKit

set_option maxRecDepth 20000 in
set_option maxHeartbeats 8000000 in
theorem qread_bat (s : Value) (b : List UInt8) (w : World) (hs : Row w s b) (hroom : b.length ≤ 140737488351232) (hE : (byteF b 0 0).2.2 = 0) (q1 : (byteF b 0 0).1 = 1) :
    Calls Try.prog 28 #[s] w fun x w' => ∃ v, x = .returned (.tuple #[.agg (rcdA (readF10 b).1 v), .int .i64 (readF10 b).2]) ∧ CL w' v (readF10 b).1.chg ∧ Below w.heap.size w w' := by
  obtain ⟨sp, sc, sl, hsh, hsl⟩ := hs.shape
  obtain ⟨o, ho⟩ : ∃ o, o = Obj.cells #[.int .i64 0, .int .u64 0, .slice none 0 0, .int .u64 0, .int .i64 0, .int .i64 0, .int .i64 0] 39 := ⟨_, rfl⟩
  obtain ⟨o1, ho1⟩ : ∃ o1, o1 = Obj.cells #[s, .int .i64 0, .int .i64 0] 91 := ⟨_, rfl⟩
  have hb0 : Below w.heap.size w ((w.alloc o).alloc o1) := ((Below.refl _ _).alloc (Nat.le_refl _) _).alloc (by simp) _
  have hrd : Rd 91 ((w.alloc o).alloc o1) (w.heap.size + 1) s b 0 0 := by
    refine ⟨⟨0, by unfold At3; rw [ho1]; exact alloc_new' (by simp) _, fun _ => rfl, by omega, by omega⟩, hs.below hb0, fun bb off c e hb => ?_, hroom, fun _ => by omega⟩
    obtain ⟨b', off', cap, e1, _, _, hc⟩ := hs.open hb
    rw [e] at e1
    simp only [Value.slice.injEq, Option.some.injEq, Addr.mk.injEq, and_true] at e1
    obtain ⟨⟨rfl, rfl⟩, _⟩ := e1
    have : bb < w.heap.size := World.block_lt_of_cell? w _ (hc 0 (List.length_pos_iff.2 hb))
    omega
  have hr0 : ((w.alloc o).alloc o1).heap[w.heap.size]? = some o := (alloc_old (by simp) o1).trans (alloc_new w o)
  have HS0 : Hid (((w.alloc o).alloc o1).heap.size = w.heap.size + 2) := by unfold Hid; simp
  have HBY := hide (qbyte_any (w.heap.size + 1) 0 0 s b _ hrd)
  have HB0 := hide hb0
  have HR0 := hide hr0
  rw [ho, ho1] at HBY HB0 HR0 HS0
  have hRF : readF10 b = if (rcdF b 0 0).2.2 ≠ 0 then (zeroRcd, (rcdF b 0 0).2.2) else if (rcdF b 0 0).2.1 < b.length ∨ mayRcd (rcdF b 0 0).1 = false then (zeroRcd, 11) else ((rcdF b 0 0).1, 0) := rfl
  have hbl := byte_lt b 0 0
  have hbz := byte_zero b 0 0
  have HSRC : Hid (∀ bb off c, s = .slice (some ⟨bb, off, none⟩) b.length c → b ≠ [] → bb < w.heap.size) := by
    intro bb off c e hb
    obtain ⟨b', off', cap, e1, _, _, hc⟩ := hs.open hb
    rw [e] at e1
    simp only [Value.slice.injEq, Option.some.injEq, Addr.mk.injEq, and_true] at e1
    obtain ⟨⟨rfl, rfl⟩, _⟩ := e1
    exact World.block_lt_of_cell? w _ (hc 0 (List.length_pos_iff.2 hb))
  obtain ⟨BX, hBX⟩ : ∃ BX, byteF b 0 0 = BX := ⟨_, rfl⟩
  have HBX := hide hBX
  rw [hBX] at hE q1 hbl hbz HBY
  clear hBX
  generalize readF10 b = RF at *
  obtain ⟨R9, E9⟩ := RF
  obtain ⟨V, P1, E1⟩ := BX
  simp only at *
  have HRF := hide hRF
  have hwV : IntKind.i64.wrap (V : Int) = V := by rw [IntKind.wrap_i64]; omega
  subst hsh
  subst hsl
  clear hRF hrd hb0 hr0 hs ho ho1
  go_enter Try.func28, Try.ntmps28
  go_wp2_with fail
  refine Calls.mono (unhide HBY) ?_
  rintro x w1 ⟨rfl, r1, k1⟩
  have hs1 := k1.size
  rw [unhide HS0] at hs1
  have hb2 : ∀ o, Below w1.heap.size w1 (w1.alloc o) := fun o => (Below.refl _ _).alloc (Nat.le_refl _) o
  have hbw1 : Below w.heap.size w w1 := (unhide HB0).trans (k1.below (by rw [unhide HS0]; omega) (fun q hq => by omega))
  have B1 : RQ w (w1.alloc (.cells #[.int .i64 (V : Int), .int .u64 0, .slice none 0 0, .int .u64 0, .int .i64 0, .int .i64 0, .int .i64 0] 39)) w1.heap.size (.slice sp b.length sc) b P1 E1 ⟨V, 0, [], 0, 0, 0, 0⟩ (.slice none 0 0) :=
    ⟨r1.below (hb2 _), ((hb2 _).block _ (by omega)).trans ((k1.block _ (by rw [unhide HS0]; omega) (by omega)).trans (unhide HR0)), alloc_new _ _, hbw1.trans ((hb2 _).mono hbw1.size), CL.nil _, by omega, fun _ _ _ e _ => by simp at e⟩
  obtain ⟨a1, h31, ha1, hl1, hu1⟩ := B1.rd.at3
  obtain ⟨c0, c1, c2, fzr⟩ := h31.cells
  have nhr : ¬ w1.heap.size = w.heap.size := by omega
  have nhr2 : ¬ w.heap.size = w1.heap.size := by omega
  have nhg : ¬ w1.heap.size = w.heap.size + 1 := by omega
  have nhg2 : ¬ w.heap.size + 1 = w1.heap.size := by omega
  clear r1 k1 hb2 hbw1 HB0 HR0 HS0 HBY
  obtain ⟨i0, hi, hz0, hz1, hz2⟩ := info_parts Try.info44
  subst hE
  subst q1
  rw [show ((1 : Nat) : Int) = 1 from rfl] at B1 c0 c1 c2
  obtain ⟨u0, u1, u2, u3, u4, u5, u6⟩ := seven_cells B1.var
  clear h31 fzr ha1 hbz
  have HQ := hide (qnum_any (w.heap.size + 1) P1 0 _ b _ B1.rd)
  generalize hN1 : numF b P1 0 = NN at *
  obtain ⟨V2, P2, E2⟩ := NN
  have HN1 := hide hN1
  simp only at HQ
  have HB1 := hide B1
  clear B1 hN1
  go_wp2_with fail
  refine Calls.mono (unhide HQ) ?_
  rintro x w2 ⟨rfl, r, k⟩
  have B1 := (unhide HB1).call r k
  clear HB1 HQ r k
  have fy : ∀ j, w2.frozen? ⟨w1.heap.size, j, none⟩ = false := fun j => frozen_of_block B1.var
  have z1 := fy 1
  obtain ⟨t0, t1, t2, t3, t4, t5, t6⟩ := seven_cells B1.var
  have hk1 : Keep (fun k => k = w1.heap.size) w2 (w2.setCell ⟨w1.heap.size, 1, none⟩ (.int .u64 (V2 : Int))) := keep_set
  have B2 : RQ w (w2.setCell ⟨w1.heap.size, 1, none⟩ (.int .u64 (V2 : Int))) w1.heap.size (.slice sp b.length sc) b P2 E2 ⟨1, V2, [], 0, 0, 0, 0⟩ (.slice none 0 0) := B1.set (unhide HSRC) hk1 (by rw [heap_setCell_same _ _ _ _ _ _ B1.var]; rfl) (CL.nil _) (fun _ _ _ e _ => by simp at e)
  have HQ := hide (qmost_any (w.heap.size + 1) 32 P2 E2 _ b _ B2.rd (by omega))
  rw [show ((32 : Nat) : Int) = 32 from rfl] at HQ
  have hml := most_small b 32 P2 E2
  generalize hN2 : mostF b 32 P2 E2 = NN at *
  obtain ⟨n, P3, E3⟩ := NN
  have HN2 := hide hN2
  simp only at HQ hml
  have HB2 := hide B2
  clear B1 B2 hk1 fy hN2
  go_wp2_with fail
  refine Calls.mono (unhide HQ) ?_
  rintro x w3 ⟨rfl, r, k⟩
  have B3 := (unhide HB2).call r k
  have HB3 := hide B3
  have hnI : (n : Int) ≤ 32 := by omega
  have hh := B3.hge
  have HWL := hide ((Array.getElem?_eq_some_iff.1 B3.var).1)
  clear HB2 HQ r k B3 u0 u1 u2 u3 u4 u5 u6 t0 t1 t2 t3 t4 t5 t6 c0 c1 c2 z1
  generalize w1.heap.size = h at *
  go_wp2_with fail
  go_loopw [7] (fun i wr => ∃ (k : Nat) (v : Value), k ≤ n ∧ i = .int .i64 k ∧ Hid (RQ w wr h (.slice sp b.length sc) b (chgsF b k P3 E3).2.1 (chgsF b k P3 E3).2.2 ⟨1, V2, (chgsF b k P3 E3).1, 0, 0, 0, 0⟩ v ∧ wr.ownsRow (h + 1) 44 5 v k ((chgsF b k P3 E3).1.flatMap chgC))) (fun i _ => n - (intOf i).toNat)
  case atStart => exact ⟨0, .slice none 0 0, Nat.zero_le _, rfl, unhide HB3, World.ownsRow_nil _ _ _ _⟩
  case round =>
    obtain ⟨k, v, hk, rfl, hrq⟩ := hrel
    obtain ⟨B5, hown⟩ := unhide hrq
    have hcl := chgs_len b k P3 E3
    have hst : chgsF b (k + 1) P3 E3 = ((chgsF b k P3 E3).1 ++ [(chgF b (chgsF b k P3 E3).2.1 (chgsF b k P3 E3).2.2).1], (chgF b (chgsF b k P3 E3).2.1 (chgsF b k P3 E3).2.2).2) := rfl
    have HCE := hide (fun he => chgs_err b k n P3 E3 hk he)
    obtain ⟨vp, vc, rfl, _⟩ := KRow.shape B5.cl
    obtain ⟨a5, h35, ha5, hl5, hu5⟩ := B5.rd.at3
    obtain ⟨k0, k1, k2, fz5⟩ := h35.cells
    obtain ⟨x0, x1, x2, x3, x4, x5, x6⟩ := seven_cells B5.var
    by_cases hkn : k = n
    · subst hkn
      have hRX : rcdF b 0 0 = (⟨1, V2, (chgsF b k P3 E3).1, 0, 0, 0, 0⟩, (chgsF b k P3 E3).2.1, (chgsF b k P3 E3).2.2) := by
        simp only [rcdF, unhide HBX, if_true, batF, unhide HN1, unhide HN2]
      have HRX := hide hRX
      generalize chgsF b k P3 E3 = CK at *
      obtain ⟨LK, PK, EK⟩ := CK
      simp only at *
      subst hcl
      have B4 := B5
      have gk : ¬ (LK.length : Int) < LK.length := by omega
      clear hrq B5 hst HCE h35 fz5 ha5 hRX HN1 HN2 HBX hown HB3 x0 x1 x2 x3 x4 x5 x6 k0 k1 k2
      have hx0 := unhide HRF
      rw [unhide HRX] at hx0
      simp only at hx0
      by_cases hE5 : EK = 0
      · rw [hE5] at B4
        rw [if_neg (by simp [hE5])] at hx0
        obtain ⟨a5, h35, ha5, hl5, hu5⟩ := B4.rd.at3
        obtain rfl : a5 = PK := ha5 rfl
        obtain ⟨hp0, hp1⟩ := B4.rd.pos rfl
        obtain ⟨k0, k1, k2, fz5⟩ := h35.cells
        have HLF := hide (qleft_any (w.heap.size + 1) a5 0 (.slice sp b.length sc) b.length _ ⟨_, _, rfl⟩ h35 hp0 hp1 hroom)
        by_cases hD : a5 < (b.length : Int)
        · rw [if_pos (Or.inl hD)] at hx0
          obtain ⟨rfl, rfl⟩ : R9 = zeroRcd ∧ E9 = 11 := ⟨(Prod.mk.inj hx0).1, (Prod.mk.inj hx0).2⟩
          have hDI : (0 : Int) < (b.length : Int) - a5 := by omega
          generalize (b.length : Int) - a5 = DD at *
          have HB4 := hide B4
          clear B4 h35 fz5 hx0 HRF HRX ha5 hp0 hp1 hD hE5
          go_wp2_with fail
          refine Calls.mono (unhide HLF) ?_
          rintro x w7 ⟨rfl, b7⟩
          have B4 := (unhide HB4).below b7
          clear HB4 b7 HLF
          obtain ⟨e0, e1, e2, e3, e4, e5, e6⟩ := seven_cells B4.res
          have fz : ∀ j, w7.frozen? ⟨w.heap.size, j, none⟩ = false := fun j => frozen_of_block B4.res
          have g0 := fz 0
          have g1 := fz 1
          have g2 := fz 2
          have g3 := fz 3
          have g4 := fz 4
          have g5 := fz 5
          have g6 := fz 6
          have HF := hide (B4.fin (((((((keep_set (w := w7) (g := w.heap.size) (j := 0) (v := .int .i64 0)).trans (keep_set (g := w.heap.size) (j := 1) (v := .int .u64 0)) (fun _ h => Or.inl h)).trans (keep_set (g := w.heap.size) (j := 2) (v := .slice none 0 0)) (fun _ h => Or.inl h)).trans (keep_set (g := w.heap.size) (j := 3) (v := .int .u64 0)) (fun _ h => Or.inl h)).trans (keep_set (g := w.heap.size) (j := 4) (v := .int .i64 0)) (fun _ h => Or.inl h)).trans (keep_set (g := w.heap.size) (j := 5) (v := .int .i64 0)) (fun _ h => Or.inl h)).trans (keep_set (g := w.heap.size) (j := 6) (v := .int .i64 0)) (fun _ h => Or.inl h))).1
          clear B4 fz
          go_wp2
          refine bodyPost_ret (v := .tuple #[.agg #[.int .i64 0, .int .u64 0, .slice none 0 0, .int .u64 0, .int .i64 0, .int .i64 0, .int .i64 0], .int .i64 11]) (by simp [results, Try.results28, go_sem, *]) rfl ⟨.slice none 0 0, rfl, CL.nil _, unhide HF⟩
        · have hDI : ¬ (0 : Int) < (b.length : Int) - a5 := by omega
          have hD0 : (b.length : Int) - a5 = 0 := by omega
          rw [hD0] at HLF
          cases hM : mayRcd (⟨1, V2, LK, 0, 0, 0, 0⟩) with
          | false =>
            rw [if_pos (Or.inr hM)] at hx0
            obtain ⟨rfl, rfl⟩ : R9 = zeroRcd ∧ E9 = 11 := ⟨(Prod.mk.inj hx0).1, (Prod.mk.inj hx0).2⟩
            have HB4 := hide B4
            clear B4 h35 fz5 hx0 HRF HRX ha5 hp0 hp1 hD hE5 hDI hD0
            go_wp2_with fail
            refine Calls.mono (unhide HLF) ?_
            rintro x w7 ⟨rfl, b7⟩
            have B5 := (unhide HB4).below b7
            have hmm := rmay10_any (⟨1, V2, LK, 0, 0, 0, 0⟩) (.slice vp LK.length vc) w7 B5.cl
            rw [hM] at hmm
            unfold rcdA at hmm
            have HMM := hide hmm
            obtain ⟨x0, x1, x2, x3, x4, x5, x6⟩ := seven_cells B5.var
            have HB5 := hide B5
            clear HB4 b7 HLF B5 hmm hM
            go_wp2_with fail
            refine Calls.mono (unhide HMM) ?_
            rintro x w8 ⟨rfl, b8⟩
            have B4 := (unhide HB5).below b8
            clear HB5 b8 HMM x0 x1 x2 x3 x4 x5 x6
            obtain ⟨e0, e1, e2, e3, e4, e5, e6⟩ := seven_cells B4.res
            have fz : ∀ j, w8.frozen? ⟨w.heap.size, j, none⟩ = false := fun j => frozen_of_block B4.res
            have g0 := fz 0
            have g1 := fz 1
            have g2 := fz 2
            have g3 := fz 3
            have g4 := fz 4
            have g5 := fz 5
            have g6 := fz 6
            have HF := hide (B4.fin (((((((keep_set (w := w8) (g := w.heap.size) (j := 0) (v := .int .i64 0)).trans (keep_set (g := w.heap.size) (j := 1) (v := .int .u64 0)) (fun _ h => Or.inl h)).trans (keep_set (g := w.heap.size) (j := 2) (v := .slice none 0 0)) (fun _ h => Or.inl h)).trans (keep_set (g := w.heap.size) (j := 3) (v := .int .u64 0)) (fun _ h => Or.inl h)).trans (keep_set (g := w.heap.size) (j := 4) (v := .int .i64 0)) (fun _ h => Or.inl h)).trans (keep_set (g := w.heap.size) (j := 5) (v := .int .i64 0)) (fun _ h => Or.inl h)).trans (keep_set (g := w.heap.size) (j := 6) (v := .int .i64 0)) (fun _ h => Or.inl h))).1
            clear B4 fz
            go_wp2
            refine bodyPost_ret (v := .tuple #[.agg #[.int .i64 0, .int .u64 0, .slice none 0 0, .int .u64 0, .int .i64 0, .int .i64 0, .int .i64 0], .int .i64 11]) (by simp [results, Try.results28, go_sem, *]) rfl ⟨.slice none 0 0, rfl, CL.nil _, unhide HF⟩
          | true =>
            rw [if_neg (by rw [hM]; simp; omega)] at hx0
            obtain ⟨rfl, rfl⟩ : R9 = ⟨1, V2, LK, 0, 0, 0, 0⟩ ∧ E9 = 0 := ⟨(Prod.mk.inj hx0).1, (Prod.mk.inj hx0).2⟩
            have HB4 := hide B4
            clear B4 h35 fz5 hx0 HRF HRX ha5 hp0 hp1 hD hE5 hDI hD0
            go_wp2_with fail
            refine Calls.mono (unhide HLF) ?_
            rintro x w7 ⟨rfl, b7⟩
            have B5 := (unhide HB4).below b7
            have hmm := rmay10_any (⟨1, V2, LK, 0, 0, 0, 0⟩) (.slice vp LK.length vc) w7 B5.cl
            rw [hM] at hmm
            unfold rcdA at hmm
            have HMM := hide hmm
            obtain ⟨x0, x1, x2, x3, x4, x5, x6⟩ := seven_cells B5.var
            have HB5 := hide B5
            clear HB4 b7 HLF B5 hmm hM
            go_wp2_with fail
            refine Calls.mono (unhide HMM) ?_
            rintro x w8 ⟨rfl, b8⟩
            have B4 := (unhide HB5).below b8
            clear HB5 b8 HMM x0 x1 x2 x3 x4 x5 x6
            obtain ⟨e0, e1, e2, e3, e4, e5, e6⟩ := seven_cells B4.res
            obtain ⟨x0, x1, x2, x3, x4, x5, x6⟩ := seven_cells B4.var
            have fz : ∀ j, w8.frozen? ⟨w.heap.size, j, none⟩ = false := fun j => frozen_of_block B4.res
            have g0 := fz 0
            have g1 := fz 1
            have g2 := fz 2
            have g3 := fz 3
            have g4 := fz 4
            have g5 := fz 5
            have g6 := fz 6
            have HF := hide (B4.fin (((((((keep_set (w := w8) (g := w.heap.size) (j := 0) (v := .int .i64 1)).trans (keep_set (g := w.heap.size) (j := 1) (v := .int .u64 (V2 : Int))) (fun _ h => Or.inl h)).trans (keep_set (g := w.heap.size) (j := 2) (v := .slice vp LK.length vc)) (fun _ h => Or.inl h)).trans (keep_set (g := w.heap.size) (j := 3) (v := .int .u64 0)) (fun _ h => Or.inl h)).trans (keep_set (g := w.heap.size) (j := 4) (v := .int .i64 0)) (fun _ h => Or.inl h)).trans (keep_set (g := w.heap.size) (j := 5) (v := .int .i64 0)) (fun _ h => Or.inl h)).trans (keep_set (g := w.heap.size) (j := 6) (v := .int .i64 0)) (fun _ h => Or.inl h)))
            clear B4 fz
            go_wp2
            refine bodyPost_ret (v := .tuple #[.agg #[.int .i64 1, .int .u64 (V2 : Int), .slice vp LK.length vc, .int .u64 0, .int .i64 0, .int .i64 0, .int .i64 0], .int .i64 0]) (by simp [results, Try.results28, go_sem, *]) rfl ⟨(.slice vp LK.length vc), rfl, (unhide HF).2, (unhide HF).1⟩
      · have hE6 : (EK == 0) = false := by simp [hE5]
        have hE7 : (EK != 0) = true := by simp [hE5]
        rw [if_pos hE5] at hx0
        obtain ⟨rfl, rfl⟩ : R9 = zeroRcd ∧ EK = E9 := ⟨(Prod.mk.inj hx0).1, (Prod.mk.inj hx0).2.symm⟩
        clear hx0 HRF HRX hE5
        obtain ⟨a4, h34, _⟩ := B4.rd.at3
        obtain ⟨k0, k1, k2, fz4⟩ := h34.cells
        obtain ⟨e0, e1, e2, e3, e4, e5, e6⟩ := seven_cells B4.res
        have fz : ∀ j, wr.frozen? ⟨w.heap.size, j, none⟩ = false := fun j => frozen_of_block B4.res
        have g0 := fz 0
        have g1 := fz 1
        have g2 := fz 2
        have g3 := fz 3
        have g4 := fz 4
        have g5 := fz 5
        have g6 := fz 6
        have HF := hide (B4.fin (((((((keep_set (w := wr) (g := w.heap.size) (j := 0) (v := .int .i64 0)).trans (keep_set (g := w.heap.size) (j := 1) (v := .int .u64 0)) (fun _ h => Or.inl h)).trans (keep_set (g := w.heap.size) (j := 2) (v := .slice none 0 0)) (fun _ h => Or.inl h)).trans (keep_set (g := w.heap.size) (j := 3) (v := .int .u64 0)) (fun _ h => Or.inl h)).trans (keep_set (g := w.heap.size) (j := 4) (v := .int .i64 0)) (fun _ h => Or.inl h)).trans (keep_set (g := w.heap.size) (j := 5) (v := .int .i64 0)) (fun _ h => Or.inl h)).trans (keep_set (g := w.heap.size) (j := 6) (v := .int .i64 0)) (fun _ h => Or.inl h))).1.drew
        clear B4 h34 fz fz4
        go_wp2_with fail
        go_region_with (fail)
        all_goals
          go_wp2
          try simp only [List.getElem_toArray, List.getElem_cons_succ, List.getElem_cons_zero, Act.put, List.setIfInBounds_toArray, List.set_cons_zero, List.set_cons_succ]
          refine bodyPost_ret (v := .tuple #[.agg #[.int .i64 0, .int .u64 0, .slice none 0 0, .int .u64 0, .int .i64 0, .int .i64 0, .int .i64 0], .int .i64 EK]) (by simp [results, Try.results28, go_sem, *]) rfl ⟨.slice none 0 0, rfl, CL.nil _, unhide HF⟩
    · have hklt : k < n := by omega
      by_cases hEK : (chgsF b k P3 E3).2.2 = 0
      · have HST := hide hst
        have hdw : Below wr.heap.size wr wr.drew := (Below.refl _ _).drew
        have hcv := qchange_any (w.heap.size + 1) (chgsF b k P3 E3).2.1 (chgsF b k P3 E3).2.2 (.slice sp b.length sc) b wr.drew (B5.rd.below hdw)
        generalize hCF : chgF b (chgsF b k P3 E3).2.1 (chgsF b k P3 E3).2.2 = CF at *
        obtain ⟨C, P6, E6⟩ := CF
        generalize chgsF b k P3 E3 = CK at *
        obtain ⟨LK, PK, EK⟩ := CK
        simp only at *
        subst hcl
        subst hEK
        unfold chgV at hcv
        have gk : (LK.length : Int) < n := by omega
        have hgr := B5.hge
        have HCH : Hid (Calls Try.prog 57 #[.pointer (some ⟨w.heap.size + 1, 0, none⟩)] wr.drew fun x w5 => x = .returned (.agg #[.string C.key, .int .u64 (C.ser : Int), .int .i64 C.pos, .int .i64 C.len, .bool C.del]) ∧ w5.cell? ⟨h, 2, none⟩ = some (.slice vp LK.length vc) ∧ (∀ o, (w5.alloc o).cell? ⟨h, 2, none⟩ = some (.slice vp LK.length vc)) ∧ Hid (RQ w w5 h (.slice sp b.length sc) b P6 E6 ⟨1, V2, LK, 0, 0, 0, 0⟩ (.slice vp LK.length vc) ∧ w5.ownsRow (h + 1) 44 5 (.slice vp LK.length vc) LK.length (LK.flatMap chgC))) := by
          refine hcv.mono ?_
          rintro x w5 ⟨rfl, r5, k5⟩
          have B6 := (B5.below hdw).call r5 k5
          have kd : Keep (fun k => k = w.heap.size + 1) wr w5 := (Keep.of_below hdw).trans k5 (fun _ h => Or.inl h)
          have y2 := (seven_cells B6.var).2.2.1
          exact ⟨rfl, y2, fun o => (((Below.refl w5.heap.size w5).alloc (Nat.le_refl _) o).cell (World.block_lt_of_cell? _ _ y2)).trans y2, B6, owns_kp hown kd (fun q hq e => by have := (hown.lt q hq).1; omega)⟩
        clear hcv hrq B5 hst HCE h35 fz5 ha5 hown HB3 hdw hCF x0 x1 x3 x4 x5 x6 k0 k1
        go_wp2_with fail
        go_region_law (first
          | (go_simp; go_at_call 57; refine Calls.mono (unhide HCH) ?_; rintro x w5 ⟨rfl, y2, y3, HB6⟩; dsimp only)
          | (refine step_append_gen rfl _ _ 35 rfl (h + 1) 44 i0 (.agg #[.string ⟨#[]⟩, .int .u64 0, .int .i64 0, .int .i64 0, .bool false]) Try.underlying35 hi hz0 5 48 (by omega) hz1 hz2 rfl (.slice vp LK.length vc) LK.length (LK.flatMap chgC) (by simp [Act.eval]) (World.ownsRow.alloc (unhide HB6).2 _) ⟨w5.heap.size, 0, none⟩ 1 (chgC C) (by simp [Act.eval]) rfl (by intro j u hj; match j, hj with | 0, hj => (simp [chgC] at hj; subst hj; simp [Addr.add]) | 1, hj => (simp [chgC] at hj; subst hj; simp [Addr.add]) | 2, hj => (simp [chgC] at hj; subst hj; simp [Addr.add]) | 3, hj => (simp [chgC] at hj; subst hj; simp [Addr.add]) | 4, hj => (simp [chgC] at hj; subst hj; simp [Addr.add])) (by intro u hu; simp [chgC] at hu; rcases hu with rfl | rfl | rfl | rfl | rfl <;> rfl) (by unfold maxLen; omega) (by omega) (by have h9 := (Array.getElem?_eq_some_iff.1 (unhide HB6).1.var).1; simp; omega) ?_; intro v2 w6 hown6 hgrow6 _; have hmr := (unhide HB6).1.more (C := C) (unhide HSRC) (unhide HB6).2 hown6 hgrow6; have q2 := hmr.2.2.1; have qf := hmr.2.2.2; have HJ := hide (And.intro hmr.1 hmr.2.1); rcases hown6.2 with ⟨_, hz9⟩ | ⟨g2, cap2, cur2, e2, _⟩; (exact absurd hz9 (by omega)); subst e2; clear hown6 hgrow6 hmr))
        all_goals
          go_wp2
          go_roundw
          case rel =>
            refine ⟨LK.length + 1, .slice (some ⟨g2, 0, none⟩) (LK.length + 1) cap2, by omega, by go_num, ?_⟩
            unfold Hid
            rw [unhide HST]
            exact unhide HJ
          case measure => simp [intOf]; omega
      · have hRX : (rcdF b 0 0).2.2 = (chgsF b k P3 E3).2.2 := by
          simp only [rcdF, unhide HBX, if_true, batF, unhide HN1, unhide HN2]
          rw [unhide HCE hEK]
        have hx0 := unhide HRF
        rw [hRX, if_pos hEK] at hx0
        generalize chgsF b k P3 E3 = CK at *
        obtain ⟨LK, PK, EK⟩ := CK
        simp only at *
        subst hcl
        obtain ⟨rfl, rfl⟩ : R9 = zeroRcd ∧ EK = E9 := ⟨(Prod.mk.inj hx0).1, (Prod.mk.inj hx0).2.symm⟩
        have hE6 : (EK == 0) = false := by simp [hEK]
        have hE7 : (EK != 0) = true := by simp [hEK]
        have B4 := B5
        have gk : (LK.length : Int) < n := by omega
        clear hrq B5 hst HCE h35 fz5 ha5 hRX HN1 HN2 HBX hown HB3 x0 x1 x2 x3 x4 x5 x6 hx0 HRF hEK
        obtain ⟨a4, h34, _⟩ := B4.rd.at3
        obtain ⟨k0, k1, k2, fz4⟩ := h34.cells
        obtain ⟨e0, e1, e2, e3, e4, e5, e6⟩ := seven_cells B4.res
        have fz : ∀ j, wr.frozen? ⟨w.heap.size, j, none⟩ = false := fun j => frozen_of_block B4.res
        have g0 := fz 0
        have g1 := fz 1
        have g2 := fz 2
        have g3 := fz 3
        have g4 := fz 4
        have g5 := fz 5
        have g6 := fz 6
        have HF := hide (B4.fin (((((((keep_set (w := wr) (g := w.heap.size) (j := 0) (v := .int .i64 0)).trans (keep_set (g := w.heap.size) (j := 1) (v := .int .u64 0)) (fun _ h => Or.inl h)).trans (keep_set (g := w.heap.size) (j := 2) (v := .slice none 0 0)) (fun _ h => Or.inl h)).trans (keep_set (g := w.heap.size) (j := 3) (v := .int .u64 0)) (fun _ h => Or.inl h)).trans (keep_set (g := w.heap.size) (j := 4) (v := .int .i64 0)) (fun _ h => Or.inl h)).trans (keep_set (g := w.heap.size) (j := 5) (v := .int .i64 0)) (fun _ h => Or.inl h)).trans (keep_set (g := w.heap.size) (j := 6) (v := .int .i64 0)) (fun _ h => Or.inl h))).1.drew
        clear B4 h34 fz fz4
        go_wp2_with fail
        go_region_with (fail)
        all_goals
          go_wp2
          try simp only [List.getElem_toArray, List.getElem_cons_succ, List.getElem_cons_zero, Act.put, List.setIfInBounds_toArray, List.set_cons_zero, List.set_cons_succ]
          refine bodyPost_ret (v := .tuple #[.agg #[.int .i64 0, .int .u64 0, .slice none 0 0, .int .u64 0, .int .i64 0, .int .i64 0, .int .i64 0], .int .i64 EK]) (by simp [results, Try.results28, go_sem, *]) rfl ⟨.slice none 0 0, rfl, CL.nil _, unhide HF⟩
end Go.Proofs.Ytpampknbbpjkiaa
