/- The walk of the statement 'PlainBack'. -/
import Derived.Test.YtfihmdncfgjceaaG14
import Derived.Test.YtfihmdncfgjceaaG20
import Derived.Test.YtfihmdncfgjceaaG22
import Derived.Test.YtfihmdncfgjceaaG24
namespace Go.Proofs.Ytfihmdncfgjceaa
open Go.RowKit

set_option maxRecDepth 20000 in
set_option maxHeartbeats 4000000 in
theorem pback_no (va vb : Value) (A B : List El) (w : World) (ha : EL 2 prC w va A) (hb : EL 2 prC w vb B) (hn : rightD (pdat A) = false ∨ rightD (pdat A) = true ∧ rightD (pdat B) = false) :
    Calls Try.prog 4 #[va, vb] w fun e w' => e = .returned (.bool true) ∧ Below w.heap.size w w' := by
  have HD := hide (differ_no va vb A B w ha hb hn)
  have HAW := hide pawake_any
  have HCA := hide (fun W (h : Below w.heap.size w W) => pcheck_any va A W (ha.below h))
  have HCB := hide (fun W (h : Below w.heap.size w W) => pcheck_any vb B W (hb.below h))
  obtain ⟨pa, ca, rfl, ja⟩ := ha.shape
  obtain ⟨pb, cb, rfl, jb⟩ := hb.shape
  clear ha hb ja jb
  go_enter Try.func4, Try.ntmps4
  go_wp2_with fail
  refine Calls.mono (unhide HD) ?_
  rintro e w1 ⟨rfl, b1⟩
  have HB1 := hide b1
  clear b1
  go_wp2_with fail
  refine Calls.mono (unhide HAW _) ?_
  rintro e w2 ⟨rfl, b2⟩
  have HB2 := hide ((unhide HB1).trans (b2.mono (unhide HB1).size))
  clear b2
  rcases hn with hA | ⟨hA, hB⟩
  · rw [hA] at HCA
    go_wp2_with fail
    refine Calls.mono (unhide HCA w2 (unhide HB2)) ?_
    rintro e w3 ⟨rfl, b3⟩
    have HB3 := hide ((unhide HB2).trans (b3.mono (unhide HB2).size))
    clear b3
    go_wp2_with fail
    refine Calls.mono (unhide HAW _) ?_
    rintro e w4 ⟨rfl, b4⟩
    have HB4 := hide ((unhide HB3).trans (b4.mono (unhide HB3).size))
    clear b4
    go_wp2_with fail
    go_ret
    exact ⟨rfl, unhide HB4⟩
  · rw [hA] at HCA
    rw [hB] at HCB
    go_wp2_with fail
    refine Calls.mono (unhide HCA w2 (unhide HB2)) ?_
    rintro e w3 ⟨rfl, b3⟩
    have HB3 := hide ((unhide HB2).trans (b3.mono (unhide HB2).size))
    clear b3
    go_wp2_with fail
    refine Calls.mono (unhide HCB w3 (unhide HB3)) ?_
    rintro e w4 ⟨rfl, b4⟩
    have HB4 := hide ((unhide HB3).trans (b4.mono (unhide HB3).size))
    clear b4
    go_wp2_with fail
    refine Calls.mono (unhide HAW _) ?_
    rintro e w5 ⟨rfl, b5⟩
    have HB5 := hide ((unhide HB4).trans (b5.mono (unhide HB4).size))
    clear b5
    go_wp2_with fail
    go_ret
    exact ⟨rfl, unhide HB5⟩

/-- A row of one operation. -/
theorem el_op1 {W : World} {h : Nat} {ky : ByteArray} {np : Option Addr} {nn nc : Nat} {dl : Bool} {bs : List UInt8} (hh : W.heap[h]? = some (.cells #[.string ky, .slice np nn nc, .bool dl] 36 (0, 0))) (hr : Row W (.slice np nn nc) bs) :
    EL 3 opC W (.slice (some ⟨h, 0, none⟩) 1 1) [((⟨ky, np, nn, nc, dl⟩ : Opv), bs)] := by
  refine ⟨⟨_, 1, rfl, Nat.le_refl _, by unfold maxLen; omega, fun e => (by cases e), rfl, Or.inr ⟨h, 0, rfl, fun j u hu => ?_⟩⟩, fun y hy => by rw [List.mem_singleton.1 hy]; exact hr⟩
  rw [elC_one] at hu
  rw [Nat.zero_add, cell_of_row W h j _ _ (0, 0) hh]
  match j, hu with
  | 0, hu => exact hu
  | 1, hu => exact hu
  | 2, hu => exact hu
theorem three_ops {w : World} {g : Nat} {a b c : Value} (h : w.heap[g]? = some (.cells #[a, b, c] 36 (0, 0))) : w.cell? ⟨g, 0, none⟩ = some a ∧ w.cell? ⟨g, 1, none⟩ = some b ∧ w.cell? ⟨g, 2, none⟩ = some c := by
  refine ⟨?_, ?_, ?_⟩ <;> (rw [cell_of_row w g _ _ _ (0, 0) h]; rfl)

set_option maxRecDepth 20000 in
set_option maxHeartbeats 4000000 in
theorem pback_yes (va vb : Value) (A B : List El) (w : World) (ha : EL 2 prC w va A) (hb : EL 2 prC w vb B) (hla : A.length ≤ 1048576) (hlb : B.length ≤ 1048576) (hA : rightD (pdat A) = true) (hB : rightD (pdat B) = true) :
    Calls Try.prog 4 #[va, vb] w fun e w' => e = .returned (.bool true) ∧ Below w.heap.size w w' := by
  have hma := ((right_iff _).1 hA).2
  have hmb := ((right_iff _).1 hB).2
  have hval : ∀ (L : List El), (∀ p ∈ pdat L, pmay p = true) → ∀ x ∈ L, x.2.length ≤ 140737488351232 := fun L h x hx => by
    have := h (x.1.key, x.2) (List.mem_map.2 ⟨x, hx, rfl⟩)
    unfold pmay at this
    simp only [Bool.and_eq_true, decide_eq_true_eq] at this
    omega
  have HD := hide (differ_any va vb A B w ha hb hla hlb hA hB)
  have HAW := hide pawake_any
  have HCA := hide (fun W (h : Below w.heap.size w W) => pcheck_any va A W (ha.below h))
  have HCB := hide (fun W (h : Below w.heap.size w W) => pcheck_any vb B W (hb.below h))
  rw [hA] at HCA
  rw [hB] at HCB
  have HCP := hide (fun W (h : Below w.heap.size w W) => copypairs_any va A W (ha.below h) (by omega) (hval A hma))
  have HPB := hide (fun W (h : Below w.heap.size w W) v X (hx : EL 2 prC W v X) => hpairs_any v vb X B W hx (hb.below h))
  have HPA := hide (fun W (h : Below w.heap.size w W) => hpairs_any va vb A B W (ha.below h) (hb.below h))
  have HDA := hide (fun W (h : Below w.heap.size w W) => differ_any va va A A W (ha.below h) (ha.below h) hla hla hA hA)
  obtain ⟨pa, ca, rfl, ja⟩ := ha.shape
  obtain ⟨pb, cb, rfl, jb⟩ := hb.shape
  have HM := hide (And.intro hma hmb)
  have HR := hide (And.intro hA hB)
  have HV := hide hval
  have HLL := hide (And.intro hla hlb)
  clear ha hb ja jb hma hmb hval hla hlb hA hB
  go_enter Try.func4, Try.ntmps4
  go_wp2_with fail
  refine Calls.mono (unhide HD) ?_
  rintro e w1 ⟨v, D, rfl, hdr, hdd, b1⟩
  obtain ⟨dp, dc, rfl⟩ := hdr.shape
  have HDL := hide hdr.dl
  have HDD := hide hdd
  have HB1 := hide b1
  clear b1 hdr hdd HD
  go_wp2_with fail
  refine Calls.mono (unhide HAW _) ?_
  rintro e w2 ⟨rfl, b2⟩
  have HB12 := hide b2
  have HB2 := hide ((unhide HB1).trans (b2.mono (unhide HB1).size))
  clear b2
  go_wp2_with fail
  refine Calls.mono (unhide HCA w2 (unhide HB2)) ?_
  rintro e w3 ⟨rfl, b3⟩
  have HB13 := hide ((unhide HB12).trans (b3.mono (unhide HB12).size))
  have HB3 := hide ((unhide HB2).trans (b3.mono (unhide HB2).size))
  clear b3
  go_wp2_with fail
  refine Calls.mono (unhide HCB w3 (unhide HB3)) ?_
  rintro e w4 ⟨rfl, b4⟩
  have HB14 := hide ((unhide HB13).trans (b4.mono (unhide HB13).size))
  have HB4 := hide ((unhide HB3).trans (b4.mono (unhide HB3).size))
  clear b4
  go_wp2_with fail
  refine Calls.mono (unhide HCP w4 (unhide HB4)) ?_
  rintro e w5 ⟨vx, X, rfl, hdx, hox, b5⟩
  obtain ⟨px, cx, rfl⟩ := hox.1.shape
  have HX := hide (And.intro hdx (hox.1.el prC_len))
  have HB15 := hide ((unhide HB14).trans (b5.mono (unhide HB14).size))
  have HB5 := hide ((unhide HB4).trans (b5.mono (unhide HB4).size))
  clear hdx hox b5
  have HDM := hide (show ∀ j (hj : j < D.length), ddat D = (ddat D).take j ++ (D[j].1.key, D[j].1.was, D[j].1.is, D[j].2.1, D[j].2.2) :: (ddat D).drop (j + 1) from fun j hj => by
    have h1 : j < (ddat D).length := by rw [ddat_len]; exact hj
    have h2 : (ddat D)[j] = (D[j].1.key, D[j].1.was, D[j].1.is, D[j].2.1, D[j].2.2) := by simp [ddat]
    rw [← h2, ← List.drop_eq_getElem_cons h1, List.take_append_drop])
  have HDN := hide (show D.length ≤ 2097152 by
    have h1 : (difD (pdat A) (pdat B)).length = D.length := by rw [← unhide HDD, ddat_len]
    have h2 := difF_len ((pdat A).length + (pdat B).length) (pdat A) (pdat B)
    have h3 : (difD (pdat A) (pdat B)).length ≤ (pdat A).length + (pdat B).length := h2
    rw [pdat_len, pdat_len] at h3
    have := unhide HLL
    omega)
  go_wp2_with fail
  go_loopw [6, 7] (fun xv iv wr => ∃ (i : Nat) (X : List El), iv = .int .i64 (i : Int) ∧ i ≤ D.length ∧ Hid (EL 2 prC wr xv X ∧ pdat X = doD (pdat A) (((ddat D).take i).map dop) ∧ X.length ≤ A.length + i) ∧ (∃ px cx, xv = .slice px X.length cx) ∧ Hid (Below w1.heap.size w1 wr)) (fun _ iv _ => D.length - (intOf iv).toNat)
  case atStart => exact ⟨0, X, rfl, Nat.zero_le _, ⟨(unhide HX).2, by simp [doD, (unhide HX).1], by have h1 := congrArg List.length (unhide HX).1; rw [pdat_len, pdat_len] at h1; omega⟩, ⟨_, _, rfl⟩, unhide HB15⟩
  case round =>
    clear HX HB15 HB14 HB13 HB12
    obtain ⟨i, X, rfl, hiD, hX, ⟨px, cx, rfl⟩, hbr⟩ := hrel
    by_cases hlt : i < D.length
    · have hiI : (i : Int) < (D.length : Int) := by omega
      have hiw : IntKind.i64.wrap ((i : Int) + 1) = (i : Int) + 1 := by have := unhide HDN; rw [IntKind.wrap_i64]; omega
      obtain ⟨b, o, c, e0, k1, k2, hcl⟩ := (unhide HDL).at (by omega)
      simp only [Value.slice.injEq] at e0
      obtain ⟨rfl, e1, rfl⟩ := e0
      have hrow := ((unhide HDL).2 _ (List.getElem_mem hlt)).2
      have hsp := unhide HDM i hlt
      have hcell := fun W (h : Below w1.heap.size w1 W) => hcl i hlt W h
      generalize D[i] = z at *
      obtain ⟨⟨ky, was, is, op, on, oc, np, nn, nc⟩, old, new⟩ := z
      unfold newE vof at hrow
      dsimp only at hrow hsp hcell
      obtain ⟨hch, hnl, hkl⟩ := dop_chk (unhide HM).1 (unhide HM).2 (d := (ky, was, is, old, new)) (by rw [← unhide HDD, hsp]; simp)
      dsimp only at hnl hkl
      have hrX : rightD (pdat X) = true := by
        rw [(unhide hX).2.1]
        refine back_right (unhide HR).1 (fun d hd => ?_)
        exact (dop_chk (unhide HM).1 (unhide HM).2 (by rw [← unhide HDD]; exact List.mem_of_mem_take hd)).1
      have HDO : Hid (∀ (W : World) (h : Nat), Below wr.heap.size wr W → W.heap[h]? = some (.cells #[.string ky, .slice np nn nc, .bool (!is)] 36 (0, 0)) → Calls Try.prog 13 #[.slice px X.length cx, .slice (some ⟨h, 0, none⟩) 1 1] W fun e w' => ∃ pv cv L', e = .returned (.tuple #[.slice pv L'.length cv, .int .i64 0]) ∧ Hid (EL 2 prC w' (.slice pv L'.length cv) L' ∧ pdat L' = doD (pdat A) (((ddat D).take (i + 1)).map dop) ∧ L'.length ≤ A.length + (i + 1)) ∧ Hid (Below w1.heap.size w1 w')) := by
        intro W h hW hh
        have hw1 := (unhide hbr).trans (hW.mono (unhide hbr).size)
        have hXl := (unhide hX).2.2
        have hdo := pdo_any (.slice px X.length cx) (.slice (some ⟨h, 0, none⟩) 1 1) X [((⟨ky, np, nn, nc, !is⟩ : Opv), new)] W ((unhide hX).1.below hW) (el_op1 hh (hrow.below hw1)) (by have := (unhide HLL).1; have := unhide HDN; omega) (unhide HV X ((right_iff _).1 hrX).2) (fun y hy => by rw [List.mem_singleton.1 hy]; dsimp only; omega) (fun y hy => by rw [List.mem_singleton.1 hy]; dsimp only; omega)
        have hda : dat [((⟨ky, np, nn, nc, !is⟩ : Opv), new)] = [dop (ky, was, is, old, new)] := rfl
        have hE : doE (pdat X) (dat [((⟨ky, np, nn, nc, !is⟩ : Opv), new)]) = 0 := by
          rw [hda]; unfold doE; rw [hrX]; exact hch
        rw [hE, hda] at hdo
        refine hdo.mono ?_
        rintro e w' ⟨v', L', rfl, hd', ho', b'⟩
        simp only [if_true] at hd'
        obtain ⟨pv, cv, rfl⟩ := ho'.1.shape
        have htk : (ddat D).take (i + 1) = (ddat D).take i ++ [(ky, was, is, old, new)] := by
          have hl : ((ddat D).take i).length = i := by rw [List.length_take, ddat_len]; omega
          conv => lhs; rw [hsp]
          rw [List.take_append, hl]
          simp [List.take_of_length_le (Nat.le_of_eq hl |> fun h => Nat.le_trans h (Nat.le_succ i))]
        have hpd : pdat L' = doD (pdat A) (((ddat D).take (i + 1)).map dop) := by
          rw [hd', htk, List.map_append, doD_app, ← (unhide hX).2.1]
          rfl
        refine ⟨pv, cv, L', rfl, ⟨ho'.1.el prC_len, hpd, ?_⟩, hw1.trans (b'.mono hw1.size)⟩
        have := doD_len (pdat X) [dop (ky, was, is, old, new)]
        rw [← hd', pdat_len, pdat_len] at this
        simp only [List.length_cons, List.length_nil] at this
        omega
      obtain ⟨c0, c1, c2, c3, c4⟩ := hcell wr (unhide hbr)
      obtain ⟨W0, hW0⟩ : ∃ W0, W0 = wr.alloc (.cells #[.string ⟨#[]⟩, .slice none 0 0, .bool false] 36) := ⟨_, rfl⟩
      have bW0 : Below wr.heap.size wr W0 := by rw [hW0]; exact (Below.refl _ wr).alloc (Nat.le_refl _) _
      obtain ⟨g0, _, g2, _, g4⟩ := hcell W0 ((unhide hbr).trans (bW0.mono (unhide hbr).size))
      rw [hW0] at g0 g2 g4
      have HLT := hide hlt
      clear hrow hsp hcell hch hnl hkl hrX hcl k1 k2 e1 hlt hiD bW0 hW0 c1 c3 hX hbr
      go_wp2_with fail
      go_region_law fail
      all_goals
        obtain ⟨Y, hY⟩ : ∃ Y, (wr.alloc (.cells #[.string ky, .slice np nn nc, .bool !is] 36)).drew = Y := ⟨_, rfl⟩
        have hYg : Y.heap[wr.heap.size]? = some (.cells #[.string ky, .slice np nn nc, .bool !is] 36 (0, 0)) := by rw [← hY]; exact heap_alloc_new wr _
        have hYb : Below wr.heap.size wr Y := by rw [← hY]; exact ((Below.refl _ wr).alloc (Nat.le_refl _) _).drew
        obtain ⟨y0, y1, y2⟩ := three_ops hYg
        have hZb : Below wr.heap.size wr (Y.alloc (.cells #[.string ky, .slice np nn nc, .bool !is] 36)) := hYb.alloc hYb.size _
        have HDC := hide (unhide HDO (Y.alloc (.cells #[.string ky, .slice np nn nc, .bool !is] 36)) Y.heap.size hZb (heap_alloc_new Y _))
        rw [hY]
        clear hY hYg hYb hZb
        go_wp2_with fail
        refine Calls.mono (unhide HDC) ?_
        rintro e w7 ⟨pv, cv, L', rfl, HE, HB7⟩
        go_wp2_with fail
        go_roundw
        case rel => exact ⟨i + 1, L', by go_num, unhide HLT, HE, ⟨_, _, rfl⟩, HB7⟩
        case measure => (have := unhide HLT; simp [intOf]; omega)
    · have hie : i = D.length := by omega
      have hw1 := unhide HB1
      have hww := hw1.trans ((unhide hbr).mono hw1.size)
      have hXb : pdat X = pdat B := by
        rw [(unhide hX).2.1, hie, ← ddat_len, List.take_length, unhide HDD]
        exact dif_back (SP.of (unhide HR).1) (SP.of (unhide HR).2)
      have HP1 := hide (unhide HPB wr hww _ X (unhide hX).1)
      rw [show decide (pdat X = pdat B) = true from decide_eq_true hXb] at HP1
      have hdn : (ddat D = []) ↔ pdat A = pdat B := by rw [unhide HDD]; exact dif_none (SP.of (unhide HR).1) (SP.of (unhide HR).2)
      obtain ⟨E, hE⟩ : ∃ E, E = decide (pdat A = pdat B) := ⟨_, rfl⟩
      rw [← hE] at HPA
      have hEl : ((D.length : Int) == 0) = E := by
        rw [hE]
        by_cases h9 : pdat A = pdat B
        · have := hdn.2 h9
          have h8 : D.length = 0 := by rw [← ddat_len, this]; rfl
          rw [h8, decide_eq_true h9]; rfl
        · have h8 : D.length ≠ 0 := fun e => h9 (hdn.1 (List.length_eq_zero_iff.1 (by rw [ddat_len]; exact e)))
          rw [decide_eq_false h9]
          exact beq_eq_false_iff_ne.2 (by omega)
      have HDS := hide (show ∀ W, Below w.heap.size w W → Calls Try.prog 6 #[.slice pa A.length ca, .slice pa A.length ca] W fun e w' => ∃ q c, e = .returned (.slice q 0 c) ∧ Hid (Below W.heap.size W w') from fun W hW => (unhide HDA W hW).mono fun e w' hx => by
        obtain ⟨v9, D9, rfl, hr9, hd9, b9⟩ := hx
        have h0 : D9 = [] := by
          have : difD (pdat A) (pdat A) = [] := dif_self _ _
          rw [this] at hd9
          exact List.length_eq_zero_iff.1 (by rw [← ddat_len, hd9]; rfl)
        obtain ⟨q, c, rfl⟩ := hr9.shape
        exact ⟨q, c, by rw [h0]; rfl, b9⟩)
      have HWW := hide hww
      have hge : (D.length : Int) ≤ (i : Int) := by omega
      have hgd : decide (i < D.length) = false := decide_eq_false (by omega)
      have HW1 := hide hbr
      clear hX hXb hdn hE hw1 hww hbr hie hlt hiD HPB HDA
      go_wp2_with fail
      refine Calls.mono (unhide HP1) ?_
      rintro e w8 ⟨rfl, b8⟩
      have HB8 := hide ((unhide HWW).trans (b8.mono (unhide HWW).size))
      have HP2 := hide (unhide HPA w8 (unhide HB8))
      clear b8
      cases E with
      | false =>
        go_wp2_with fail
        refine Calls.mono (unhide HP2) ?_
        rintro e w9 ⟨rfl, b9⟩
        have HB9 := hide ((unhide HB8).trans (b9.mono (unhide HB8).size))
        have HD9 := hide (unhide HDS w9 (unhide HB9))
        clear b9
        go_wp2_with fail
        refine Calls.mono (unhide HD9) ?_
        rintro e w10 ⟨q, c, rfl, b10⟩
        have HB10 := hide ((unhide HB9).trans ((unhide b10).mono (unhide HB9).size))
        go_wp2_with fail
        go_ret
        exact ⟨rfl, unhide HB10⟩
      | true =>
        go_wp2_with fail
        refine Calls.mono (unhide HP2) ?_
        rintro e w9 ⟨rfl, b9⟩
        have HB9 := hide ((unhide HB8).trans (b9.mono (unhide HB8).size))
        have HD9 := hide (unhide HDS w9 (unhide HB9))
        clear b9
        go_wp2_with fail
        refine Calls.mono (unhide HD9) ?_
        rintro e w10 ⟨q, c, rfl, b10⟩
        have HB10 := hide ((unhide HB9).trans ((unhide b10).mono (unhide HB9).size))
        go_wp2_with fail
        go_ret
        exact ⟨rfl, unhide HB10⟩

theorem walk_PlainBack (s0 : Value) (d0 : Dt) (s1 : Value) (d1 : Dt) (w : World) (h0 : Reads limUpto w (.row 40 prSh) [s0] d0) (h1 : Reads limUpto w (.row 40 prSh) [s1] d1) :
    Calls Try.prog 4 #[s0, s1] w fun e w' => e = .returned (.bool true) ∧ Below w.heap.size w w' := by
  obtain ⟨L, e0, o0, l0⟩ := prs_of_reads lim_upto h0
  obtain ⟨M, e1, o1, l1⟩ := prs_of_reads lim_upto h1
  unfold limUpto at l0 l1
  by_cases hL : rightD (pdat L) = true
  · by_cases hM : rightD (pdat M) = true
    · exact pback_yes s0 s1 L M w e0 e1 l0 l1 hL hM
    · exact pback_no s0 s1 L M w e0 e1 (Or.inr ⟨hL, by simpa using hM⟩)
  · exact pback_no s0 s1 L M w e0 e1 (Or.inl (by simpa using hL))
end Go.Proofs.Ytfihmdncfgjceaa
