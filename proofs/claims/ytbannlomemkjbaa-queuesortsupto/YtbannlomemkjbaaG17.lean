/- Texts of ours, one behind the other: QRefSorted, QHelp. -/
import Derived.Test.YtbannlomemkjbaaG5
import Derived.Test.YtbannlomemkjbaaG9
import Derived.Test.YtbannlomemkjbaaG16
import Derived.Deep.RegionHeld3
/- The reference of layer 8: Sorted. -/
namespace Go.Proofs.Ytbannlomemkjbaa
open Go.RowKit

theorem rfour_cells {w w' : World} {p2 p3 p4 p5 : Addr} {x1 x2 y1 y2 : Value} (hb : Below w.heap.size w w') (h : w.cell? p2 = some x1 ∧ w.cell? p3 = some x2 ∧ w.cell? p4 = some y1 ∧ w.cell? p5 = some y2) :
    w'.cell? p2 = some x1 ∧ w'.cell? p3 = some x2 ∧ w'.cell? p4 = some y1 ∧ w'.cell? p5 = some y2 := by
  have hc : ∀ (p : Addr) (v : Value), w.cell? p = some v → w'.cell? p = some v := fun p v e => (hb.cell (World.block_lt_of_cell? w p e)).trans e
  exact ⟨hc _ _ h.1, hc _ _ h.2.1, hc _ _ h.2.2.1, hc _ _ h.2.2.2⟩

set_option maxRecDepth 20000 in
set_option maxHeartbeats 4000000 in
theorem rsorted_any (s : Value) (l : List It) (w : World) (hs : TI w s l) (hl : l.length ≤ 1048576) :
    Calls Try.prog 15 #[s] w fun e w' => ∃ v, e = .returned v ∧ w'.ownsRow w.heap.size 26 2 v l.length (cellsI (srt lowI l)) ∧ Below w.heap.size w w' := by
  obtain ⟨p, cap, rfl, k1, k2⟩ := hs.shape
  have HS := hide hs
  have HL := hide hl
  have hlI : (l.length : Int) ≤ 1048576 := by omega
  clear hs hl k1 k2
  go_enter Try.func15, Try.ntmps15
  go_wp2_with fail
  go_loopw [3, 4] (fun v i wr => ∃ (k : Nat) (pv : Option Addr) (cv : Nat), k ≤ l.length ∧ i = .int .i64 (k : Int) ∧ v = .slice pv (srt lowI (l.take k)).length cv ∧ wr.ownsRow w.heap.size 26 2 (.slice pv (srt lowI (l.take k)).length cv) (srt lowI (l.take k)).length (cellsI (srt lowI (l.take k))) ∧ Below w.heap.size w wr) (fun _ i _ => l.length - (intOf i).toNat)
  case atStart => exact ⟨0, none, 0, Nat.zero_le _, rfl, rfl, World.ownsRow_nil _ _ _ _, Below.refl _ _⟩
  case round =>
    obtain ⟨k, pv, cv, hk, rfl, rfl, hO, hB⟩ := hrel
    by_cases hlt : k < l.length
    · have hkI : (k : Int) < (l.length : Int) := by omega
      obtain ⟨b, off, c', e0, _, _, _, hat, _⟩ := (unhide HS).at (by omega)
      simp only [Value.slice.injEq] at e0
      obtain ⟨rfl, _, rfl⟩ := e0
      obtain ⟨a1, a2⟩ := hat k hlt
      have hbl := World.block_lt_of_cell? w _ a1
      have hsn : srt lowI (l.take (k + 1)) = ins lowI l[k] (srt lowI (l.take k)) := by rw [List.take_succ_eq_append_getElem hlt, srt_snoc]
      have hso := srt_sorted lowI_order (l.take k)
      have hzk : (srt lowI (l.take k)).length ≤ 1048576 := by rw [length_srt, List.length_take]; have := unhide HL; omega
      have hZl : (srt lowI (l.take k)).length = k := by rw [length_srt, List.length_take]; omega
      have HX := hide (And.intro a1 a2)
      have HSN := hide hsn
      have HSO := hide hso
      have HZK := hide hzk
      have HLT := hide hlt
      generalize l[k] = X at *
      generalize srt lowI (l.take k) = Z at *
      have HO := hide hO
      have HB := hide hB
      have hzI : (Z.length : Int) ≤ 1048576 := by omega
      have hdd : decide (k < l.length) = true := decide_eq_true hlt
      clear hk hlt hO hB hat a1 a2 hsn hso hzk hZl
      go_wp2_with fail
      go_loopw [5] (fun i wx => ∃ a : Nat, a ≤ Z.length ∧ i = .int .i64 (a : Int) ∧ (∀ h : a < Z.length, lowI X Z[a] = true) ∧ wx.ownsRow w.heap.size 26 2 (.slice pv Z.length cv) Z.length (cellsI Z) ∧ Below w.heap.size w wx) (fun i _ => (intOf i).toNat)
      case atStart => exact ⟨Z.length, Nat.le_refl _, rfl, fun h => absurd h (by omega), unhide HO, unhide HB⟩
      case round =>
        clear HO HB
        obtain ⟨a, hak, rfl, hA2, hO, hB⟩ := hrel
        have HA2 := hide hA2
        have HOW0 := hide hO
        by_cases hz : a = 0
        · have HA1 : Hid (a = 0 ∨ ∃ h : a - 1 < Z.length, lowI X Z[a - 1] = false) := Or.inl hz
          have hz1 : ¬ (0 : Int) < (a : Int) := by omega
          have hz2 : decide (0 < a) = false := decide_eq_false (by omega)
          have HB0 := hide hB
          clear hA2 hO hB hz
          go_wp2_with fail
          go_quiet (fail)
          obtain ⟨wx, hwx⟩ : ∃ wx, wr.drewN nq = wx := ⟨_, rfl⟩
          have HBx : Hid (Below w.heap.size w wx) := hwx ▸ qbelow_drewN (unhide HB0) _
          have HOW : Hid (wx.ownsRow w.heap.size 26 2 (.slice pv Z.length cv) Z.length (cellsI Z)) := hwx ▸ owns_keep (F := fun _ => False) (unhide HOW0) (Keep.of_below (qbelow_drewN (Below.refl _ _) _)) (fun _ _ => id)
          rw [hwx]
          clear hwx HB0 HOW0 hz1 hz2
          have HSP := hide (ins_end lowI_order X Z (unhide HSO) a hak (unhide HA1) (unhide HA2))
          have TZ : TI wx (.slice pv Z.length cv) Z := TI.of_owns (unhide HOW)
          obtain ⟨qa, ca, sl1, t1, _⟩ := TZ.taken a hak
          obtain ⟨qb, cb, sl2, t2, _⟩ := TZ.dropped a hak
          have hAl : (Z.take a).length = a := by rw [List.length_take]; omega
          have hZk := unhide HZK
          have hLk := unhide HL
          have HS1 : Hid ((([] : List It).length + (Z.take a).length) * 24 ≤ 140737488355328) := by unfold Hid; rw [hAl]; simp; omega
          have HS2 : Hid (((Z.take a).length + [X].length) * 24 ≤ 140737488355328) := by unfold Hid; rw [hAl]; simp; omega
          have HS3 : Hid (((Z.take a ++ [X]).length + (Z.drop a).length) * 24 ≤ 140737488355328) := by unfold Hid; rw [List.length_append, hAl, List.length_drop]; simp; omega
          have HAL := hide hAl
          generalize hTA : Z.take a = A at *
          generalize hDA : Z.drop a = D at *
          have HT1 := hide t1
          have HT2 := hide t2
          have hvl : ∀ k, (Value.slice pv Z.length cv).ownBlock = some k → k < wx.heap.size := fun k hk => ((unhide HOW).lt k hk).2
          have HVL := hide hvl
          have HTZ := hide TZ
          have hzI : (Z.length : Int) ≤ 1048576 := by omega
          have haI : (a : Int) ≤ (Z.length : Int) := by omega
          clear TZ t1 t2 hAl hZk hLk hTA hDA hvl hak
          go_wp2_with (first
            | (with_reducible show wpList _ _ _ (Oper.mk _ (Op.call _) _ _ _ _ :: _) _ _; refine wpList_append_items rfl (.tmp 31) (.tmp 34) rfl w.heap.size (.slice none 0 0) [] rfl (World.ownsRow_nil _ _ _ _) (.slice qa a ca) A rfl (unhide HT1) (unhide HS1) (unhide HBx).size ?_))
          intro v1 w1 o1 gr1 ob1
          have hB1 : Below w.heap.size w w1 := (unhide HBx).grown gr1 (unhide HBx).size (fun k hk => by simp [Value.ownBlock] at hk)
          have s1 := gr1.size
          have e1 := ((hB1.cell (p := ⟨b, off + k * 2, none⟩) hbl).trans (unhide HX).1)
          have e2 := ((hB1.cell (p := ⟨b, off + k * 2 + 1, none⟩) hbl).trans (unhide HX).2)
          obtain ⟨p1, n1, c1, rfl⟩ : ∃ p n c, v1 = .slice p n c := by
            rcases o1.2 with ⟨h', _⟩ | ⟨g', cap', cur, h', _⟩
            · exact ⟨_, _, _, h'⟩
            · exact ⟨_, _, _, h'⟩
          have hb1 : ∀ j, (Value.slice p1 n1 c1).ownBlock = some j → wx.heap.size ≤ j := fun j hj => by
            rcases ob1 with e | e
            · rw [e] at hj; simp [Value.ownBlock] at hj
            · rw [e] at hj; simp at hj; omega
          have hbW : Below w1.heap.size w1 (w1.alloc (.cells #[.int .i64 X.1, .string X.2] 26)) := (Below.refl _ _).alloc (Nat.le_refl _) _
          have HO1 := hide (owns_keep (F := fun _ => False) o1 (Keep.of_below hbW) (fun _ _ => id))
          have HT2b : Hid (TI (w1.alloc (.cells #[.int .i64 X.1, .string X.2] 26)) (.slice qb (Z.length - a) cb) D) := ((unhide HT2).stays (fun b off n c e hl => gr1.block b ((unhide HT2).block e hl) (by simp [Value.ownBlock]))).below hbW
          have HTX : Hid (TI (w1.alloc (.cells #[.int .i64 X.1, .string X.2] 26)) (.slice (some ⟨w1.heap.size, 0, none⟩) 1 1) [X]) := ⟨some ⟨w1.heap.size, 0, none⟩, 1, rfl, by simp, by unfold maxLen; omega, fun e => (nomatch e), Or.inr ⟨w1.heap.size, 0, rfl, fun j u hu => by
            rw [cellsI_one] at hu
            match j, hu with
            | 0, hu => (simp [iC] at hu; subst hu; simp)
            | 1, hu => (simp [iC] at hu; subst hu; simp)⟩⟩
          have HB1 := hide hB1
          have HBD1 := hide hb1
          have HBQ : Hid (∀ bb oo nn cc, (Value.slice qb (Z.length - a) cb) = .slice (some ⟨bb, oo, none⟩) nn cc → D ≠ [] → bb < wx.heap.size) := fun bb oo nn cc e hl => (unhide HT2).block e hl
          have HB1a := hide (hB1.trans (hbW.mono hB1.size))
          clear o1 gr1 ob1 hb1 hbW hB1
          go_wp2_with (first
            | (with_reducible show wpList _ _ _ (Oper.mk _ (Op.call _) _ _ _ _ :: _) _ _; refine wpList_append_items rfl (.tmp 36) (.tmp 41) rfl w.heap.size (.slice p1 n1 c1) A rfl (unhide HO1) (.slice (some ⟨w1.heap.size, 0, none⟩) 1 1) [X] rfl (unhide HTX) (unhide HS2) (unhide HB1a).size ?_))
          intro v2 w2 o2 gr2 ob2
          have s2 := gr2.size
          rw [World.size_alloc] at s2
          obtain ⟨p2, n2, c2, rfl⟩ : ∃ p n c, v2 = .slice p n c := by
            rcases o2.2 with ⟨h', _⟩ | ⟨g', cap', cur, h', _⟩
            · exact ⟨_, _, _, h'⟩
            · exact ⟨_, _, _, h'⟩
          have hwx := (unhide HBx).size
          have hb2 : ∀ j, (Value.slice p2 n2 c2).ownBlock = some j → wx.heap.size ≤ j := fun j hj => by
            rcases ob2 with e | e
            · rw [e] at hj; exact unhide HBD1 j hj
            · rw [e] at hj; simp at hj; omega
          have hB2 : Below w.heap.size w w2 := (unhide HB1a).grown gr2 (unhide HB1a).size (fun j hj => by have := unhide HBD1 j hj; omega)
          have HT3 : Hid (TI w2 (.slice qb (Z.length - a) cb) D) := (unhide HT2b).stays (fun bb oo nn cc e hl => gr2.block bb ((unhide HT2b).block e hl) (fun e2 => by have := unhide HBD1 bb e2.symm; have := unhide HBQ bb oo nn cc e hl; omega))
          have HO2 := hide o2
          have HB2 := hide hB2
          have HBD2 := hide hb2
          clear o2 gr2 ob2 hb2 hB2 e1 e2 HT2b HTX HO1
          go_wp2_with (first
            | (with_reducible show wpList _ _ _ (Oper.mk _ (Op.call _) _ _ _ _ :: _) _ _; refine wpList_append_items rfl (.tmp 43) (.tmp 46) rfl w.heap.size (.slice p2 n2 c2) (A ++ [X]) rfl (by have h := unhide HO2; simpa using h) (.slice qb (Z.length - a) cb) D rfl (unhide HT3) (unhide HS3) (unhide HB2).size ?_))
          intro v3 w3 o3 gr3 ob3
          have hB3 : Below w.heap.size w w3 := (unhide HB2).grown gr3 (unhide HB2).size (fun j hj => by have := unhide HBD2 j hj; omega)
          have hins : A ++ [X] ++ D = ins lowI X Z := by rw [unhide HSP]; simp
          have HE : Hid (w3.ownsRow w.heap.size 26 2 v3 (srt lowI (l.take (k + 1))).length (cellsI (srt lowI (l.take (k + 1)))) ∧ Below w.heap.size w w3) := by
            rw [unhide HSN, ← hins]
            exact ⟨by simpa using o3, hB3⟩
          obtain ⟨p3, c3, rfl⟩ : ∃ p c, v3 = .slice p (srt lowI (l.take (k + 1))).length c := by
            rcases (unhide HE).1.2 with ⟨h', h0⟩ | ⟨g', cap', cur, h', _⟩
            · exact ⟨none, 0, by rw [h', h0]⟩
            · exact ⟨_, _, h'⟩
          clear o3 gr3 ob3 hB3 hins
          go_wp2_with fail
          go_roundw
          case rel => exact ⟨k + 1, p3, c3, unhide HLT, by go_num, rfl, unhide HE⟩
          case measure => (have := unhide HLT; simp [intOf]; omega)
        · obtain ⟨c, rfl⟩ : ∃ c, a = c + 1 := ⟨a - 1, by omega⟩
          rw [show (((c + 1 : Nat)) : Int) = (c : Int) + 1 from by omega]
          have haw : IntKind.i64.wrap (c : Int) = (c : Int) := by rw [IntKind.wrap_i64]; omega
          have haB : (c : Int) ≤ 1048576 := by omega
          have hz1 : (0 : Int) < (c : Int) + 1 := by omega
          have hc0 : (0 : Int) ≤ (c : Int) := by omega
          have hcN : c < Z.length := by omega
          have HCN := hide hcN
          have hcI : (c : Int) < (Z.length : Int) := by omega
          obtain ⟨Y, g, hg1, rfl, y1, y2⟩ : ∃ (Y : It) (g : Nat), (∀ h : c < Z.length, Z[c] = Y) ∧ pv = some ⟨g, 0, none⟩ ∧ wr.cell? ⟨g, c * 2, none⟩ = some (.int .i64 Y.1) ∧ wr.cell? ⟨g, c * 2 + 1, none⟩ = some (.string Y.2) := by
            rcases hO.2 with ⟨_, h0⟩ | ⟨g, cap', cur, h', _⟩
            · omega
            · simp only [Value.slice.injEq] at h'
              obtain ⟨rfl, _, rfl⟩ := h'
              have hcl : c < Z.length := by omega
              obtain ⟨e1, e2⟩ := cellsI_get Z c hcl
              have f1 := hO.cells (g := g) rfl _ _ e1
              have f2 := hO.cells (g := g) rfl _ _ e2
              rw [Addr.add_lit, Nat.zero_add] at f1 f2
              exact ⟨Z[c], g, fun _ => rfl, rfl, f1, f2⟩
          have x1 := (hB.cell (p := ⟨b, off + k * 2, none⟩) hbl).trans (unhide HX).1
          have x2 := (hB.cell (p := ⟨b, off + k * 2 + 1, none⟩) hbl).trans (unhide HX).2
          have HG1 := hide hg1
          have HAK := hide hak
          have HB0 := hide hB
          clear hA2 hO hB hz hg1 hak
          go_wp2_with fail
          go_region_held3 (fun w' => w'.cell? ⟨b, off + k * 2, none⟩ = some (.int .i64 X.1) ∧ w'.cell? ⟨b, off + k * 2 + 1, none⟩ = some (.string X.2) ∧ w'.cell? ⟨g, c * 2, none⟩ = some (.int .i64 Y.1) ∧ w'.cell? ⟨g, c * 2 + 1, none⟩ = some (.string Y.2)) (first | assumption | go_keep)
            (first
              | (go_at_call 38; refine Calls.mono (rbelow_any X Y _) ?_; rintro e wx ⟨rfl, bb⟩; have hk1 := rfour_cells bb ⟨x1, x2, y1, y2⟩))
          have HBx := hide ((unhide HB0).drew.trans (bb.mono (unhide HB0).size))
          have HOW : Hid (wx.ownsRow w.heap.size 26 2 (.slice (some ⟨g, 0, none⟩) Z.length cv) Z.length (cellsI Z)) := owns_keep (F := fun _ => False) (owns_keep (F := fun _ => False) (unhide HOW0) (Keep.of_below (Below.refl _ _).drew) (fun _ _ => id)) (Keep.of_below bb) (fun _ _ => id)
          cases hXY : lowI X Y with
          | true =>
            have HA3 : Hid (∀ h : c < Z.length, lowI X Z[c] = true) := fun h => by rw [unhide HG1 h]; exact hXY
            clear hXY bb hk1 x1 x2 y1 y2 HB0 HOW0
            go_wp2_with fail
            go_roundw
            case rel => exact ⟨c, by have := unhide HAK; omega, by go_num, unhide HA3, unhide HOW, unhide HBx⟩
            case measure => simp [intOf]
          | false =>
            have HA1' : Hid (c + 1 = 0 ∨ ∃ h : c + 1 - 1 < Z.length, lowI X Z[c + 1 - 1] = false) := Or.inr (by
              have h2 := unhide HAK
              refine ⟨by omega, ?_⟩
              have h3 := unhide HG1 (by omega)
              have h4 : c + 1 - 1 = c := by omega
              simp only [h4, h3]
              exact hXY)
            obtain ⟨a, ha⟩ : ∃ a : Nat, c + 1 = a := ⟨_, rfl⟩
            have hrw : (c : Int) + 1 = (a : Int) := by omega
            rw [ha] at HA1' HA2 HAK
            have HA1 := HA1'
            have hak := unhide HAK
            rw [hrw]
            clear hXY bb hk1 x1 x2 y1 y2 HB0 HOW0 hz1 hcI haB ha hrw HA1' HG1 haw hc0 hcN HCN
            have HSP := hide (ins_end lowI_order X Z (unhide HSO) a hak (unhide HA1) (unhide HA2))
            have TZ : TI wx (.slice (some ⟨g, 0, none⟩) Z.length cv) Z := TI.of_owns (unhide HOW)
            obtain ⟨qa, ca, sl1, t1, _⟩ := TZ.taken a hak
            obtain ⟨qb, cb, sl2, t2, _⟩ := TZ.dropped a hak
            have hAl : (Z.take a).length = a := by rw [List.length_take]; omega
            have hZk := unhide HZK
            have hLk := unhide HL
            have HS1 : Hid ((([] : List It).length + (Z.take a).length) * 24 ≤ 140737488355328) := by unfold Hid; rw [hAl]; simp; omega
            have HS2 : Hid (((Z.take a).length + [X].length) * 24 ≤ 140737488355328) := by unfold Hid; rw [hAl]; simp; omega
            have HS3 : Hid (((Z.take a ++ [X]).length + (Z.drop a).length) * 24 ≤ 140737488355328) := by unfold Hid; rw [List.length_append, hAl, List.length_drop]; simp; omega
            have HAL := hide hAl
            generalize hTA : Z.take a = A at *
            generalize hDA : Z.drop a = D at *
            have HT1 := hide t1
            have HT2 := hide t2
            have hvl : ∀ k, (Value.slice (some ⟨g, 0, none⟩) Z.length cv).ownBlock = some k → k < wx.heap.size := fun k hk => ((unhide HOW).lt k hk).2
            have HVL := hide hvl
            have HTZ := hide TZ
            have hzI : (Z.length : Int) ≤ 1048576 := by omega
            have haI : (a : Int) ≤ (Z.length : Int) := by omega
            clear TZ t1 t2 hAl hZk hLk hTA hDA hvl hak
            go_wp2_with (first
              | (with_reducible show wpList _ _ _ (Oper.mk _ (Op.call _) _ _ _ _ :: _) _ _; refine wpList_append_items rfl (.tmp 31) (.tmp 34) rfl w.heap.size (.slice none 0 0) [] rfl (World.ownsRow_nil _ _ _ _) (.slice qa a ca) A rfl (unhide HT1) (unhide HS1) (unhide HBx).size ?_))
            intro v1 w1 o1 gr1 ob1
            have hB1 : Below w.heap.size w w1 := (unhide HBx).grown gr1 (unhide HBx).size (fun k hk => by simp [Value.ownBlock] at hk)
            have s1 := gr1.size
            have e1 := ((hB1.cell (p := ⟨b, off + k * 2, none⟩) hbl).trans (unhide HX).1)
            have e2 := ((hB1.cell (p := ⟨b, off + k * 2 + 1, none⟩) hbl).trans (unhide HX).2)
            obtain ⟨p1, n1, c1, rfl⟩ : ∃ p n c, v1 = .slice p n c := by
              rcases o1.2 with ⟨h', _⟩ | ⟨g', cap', cur, h', _⟩
              · exact ⟨_, _, _, h'⟩
              · exact ⟨_, _, _, h'⟩
            have hb1 : ∀ j, (Value.slice p1 n1 c1).ownBlock = some j → wx.heap.size ≤ j := fun j hj => by
              rcases ob1 with e | e
              · rw [e] at hj; simp [Value.ownBlock] at hj
              · rw [e] at hj; simp at hj; omega
            have hbW : Below w1.heap.size w1 (w1.alloc (.cells #[.int .i64 X.1, .string X.2] 26)) := (Below.refl _ _).alloc (Nat.le_refl _) _
            have HO1 := hide (owns_keep (F := fun _ => False) o1 (Keep.of_below hbW) (fun _ _ => id))
            have HT2b : Hid (TI (w1.alloc (.cells #[.int .i64 X.1, .string X.2] 26)) (.slice qb (Z.length - a) cb) D) := ((unhide HT2).stays (fun b off n c e hl => gr1.block b ((unhide HT2).block e hl) (by simp [Value.ownBlock]))).below hbW
            have HTX : Hid (TI (w1.alloc (.cells #[.int .i64 X.1, .string X.2] 26)) (.slice (some ⟨w1.heap.size, 0, none⟩) 1 1) [X]) := ⟨some ⟨w1.heap.size, 0, none⟩, 1, rfl, by simp, by unfold maxLen; omega, fun e => (nomatch e), Or.inr ⟨w1.heap.size, 0, rfl, fun j u hu => by
              rw [cellsI_one] at hu
              match j, hu with
              | 0, hu => (simp [iC] at hu; subst hu; simp)
              | 1, hu => (simp [iC] at hu; subst hu; simp)⟩⟩
            have HB1 := hide hB1
            have HBD1 := hide hb1
            have HBQ : Hid (∀ bb oo nn cc, (Value.slice qb (Z.length - a) cb) = .slice (some ⟨bb, oo, none⟩) nn cc → D ≠ [] → bb < wx.heap.size) := fun bb oo nn cc e hl => (unhide HT2).block e hl
            have HB1a := hide (hB1.trans (hbW.mono hB1.size))
            clear o1 gr1 ob1 hb1 hbW hB1
            go_wp2_with (first
              | (with_reducible show wpList _ _ _ (Oper.mk _ (Op.call _) _ _ _ _ :: _) _ _; refine wpList_append_items rfl (.tmp 36) (.tmp 41) rfl w.heap.size (.slice p1 n1 c1) A rfl (unhide HO1) (.slice (some ⟨w1.heap.size, 0, none⟩) 1 1) [X] rfl (unhide HTX) (unhide HS2) (unhide HB1a).size ?_))
            intro v2 w2 o2 gr2 ob2
            have s2 := gr2.size
            rw [World.size_alloc] at s2
            obtain ⟨p2, n2, c2, rfl⟩ : ∃ p n c, v2 = .slice p n c := by
              rcases o2.2 with ⟨h', _⟩ | ⟨g', cap', cur, h', _⟩
              · exact ⟨_, _, _, h'⟩
              · exact ⟨_, _, _, h'⟩
            have hwx := (unhide HBx).size
            have hb2 : ∀ j, (Value.slice p2 n2 c2).ownBlock = some j → wx.heap.size ≤ j := fun j hj => by
              rcases ob2 with e | e
              · rw [e] at hj; exact unhide HBD1 j hj
              · rw [e] at hj; simp at hj; omega
            have hB2 : Below w.heap.size w w2 := (unhide HB1a).grown gr2 (unhide HB1a).size (fun j hj => by have := unhide HBD1 j hj; omega)
            have HT3 : Hid (TI w2 (.slice qb (Z.length - a) cb) D) := (unhide HT2b).stays (fun bb oo nn cc e hl => gr2.block bb ((unhide HT2b).block e hl) (fun e2 => by have := unhide HBD1 bb e2.symm; have := unhide HBQ bb oo nn cc e hl; omega))
            have HO2 := hide o2
            have HB2 := hide hB2
            have HBD2 := hide hb2
            clear o2 gr2 ob2 hb2 hB2 e1 e2 HT2b HTX HO1
            go_wp2_with (first
              | (with_reducible show wpList _ _ _ (Oper.mk _ (Op.call _) _ _ _ _ :: _) _ _; refine wpList_append_items rfl (.tmp 43) (.tmp 46) rfl w.heap.size (.slice p2 n2 c2) (A ++ [X]) rfl (by have h := unhide HO2; simpa using h) (.slice qb (Z.length - a) cb) D rfl (unhide HT3) (unhide HS3) (unhide HB2).size ?_))
            intro v3 w3 o3 gr3 ob3
            have hB3 : Below w.heap.size w w3 := (unhide HB2).grown gr3 (unhide HB2).size (fun j hj => by have := unhide HBD2 j hj; omega)
            have hins : A ++ [X] ++ D = ins lowI X Z := by rw [unhide HSP]; simp
            have HE : Hid (w3.ownsRow w.heap.size 26 2 v3 (srt lowI (l.take (k + 1))).length (cellsI (srt lowI (l.take (k + 1)))) ∧ Below w.heap.size w w3) := by
              rw [unhide HSN, ← hins]
              exact ⟨by simpa using o3, hB3⟩
            obtain ⟨p3, c3, rfl⟩ : ∃ p c, v3 = .slice p (srt lowI (l.take (k + 1))).length c := by
              rcases (unhide HE).1.2 with ⟨h', h0⟩ | ⟨g', cap', cur, h', _⟩
              · exact ⟨none, 0, by rw [h', h0]⟩
              · exact ⟨_, _, h'⟩
            clear o3 gr3 ob3 hB3 hins
            go_wp2_with fail
            go_roundw
            case rel => exact ⟨k + 1, p3, c3, unhide HLT, by go_num, rfl, unhide HE⟩
            case measure => (have := unhide HLT; simp [intOf]; omega)
    · have hke : k = l.length := by omega
      subst hke
      rw [List.take_length] at hO ⊢
      rw [length_srt] at hO ⊢
      have HE := hide (And.intro hO hB)
      clear hk hlt hO hB
      go_wp2_with fail
      go_ret
      exact ⟨_, rfl, unhide HE⟩
end Go.Proofs.Ytbannlomemkjbaa

/- The helpers of layer 8's statements: Plain over items that are the same. -/
namespace Go.Proofs.Ytbannlomemkjbaa
open Go.RowKit

theorem pone_any (x : It) (w : World) : Calls Try.prog 40 #[.agg #[.int .i64 x.1, .string x.2], .agg #[.int .i64 x.1, .string x.2]] w fun e w' => e = .returned (.bool true) ∧ Below w.heap.size w w' := by
  have hq : ∀ W : World, (binOp .eql 26 (.agg #[.int .i64 x.1, .string x.2]) (.agg #[.int .i64 x.1, .string x.2])).run Try.prog W = .ok (.bool true) W := fun W => by
    have h := it_eql x x W
    rw [itEq_refl] at h
    exact h
  go_enter Try.func40, Try.ntmps40
  go_wp2
  go_ret
  exact ⟨rfl, ((Below.refl _ _).alloc (Nat.le_refl _) _).alloc (by simp) _⟩
theorem pone_ent (args : Array Value) (w : World) : (callFunc 40 args).run Try.prog w = .ok (.enter 40 args) w := by
  kernel_rfl
theorem four_cells {w w' : World} {p2 p3 p4 p5 : Addr} {x1 x2 y1 y2 : Value} (hb : Below w.heap.size w w') (h : w.cell? p2 = some x1 ∧ w.cell? p3 = some x2 ∧ w.cell? p4 = some y1 ∧ w.cell? p5 = some y2) :
    w'.cell? p2 = some x1 ∧ w'.cell? p3 = some x2 ∧ w'.cell? p4 = some y1 ∧ w'.cell? p5 = some y2 := by
  have hc : ∀ (p : Addr) (v : Value), w.cell? p = some v → w'.cell? p = some v := fun p v e => (hb.cell (World.block_lt_of_cell? w p e)).trans e
  exact ⟨hc _ _ h.1, hc _ _ h.2.1, hc _ _ h.2.2.1, hc _ _ h.2.2.2⟩

set_option maxRecDepth 20000 in
set_option maxHeartbeats 2000000 in
theorem same_true (a b : Value) (l : List It) (w : World) (ha : TI w a l) (hb : TI w b l) (hl : l.length ≤ 4398046511104) :
    Calls Try.prog 39 #[a, b, .func (.func 40) #[] #[]] w fun e w' => e = .returned (.bool true) ∧ Below w.heap.size w w' := by
  have HA := hide ha
  have HB := hide hb
  obtain ⟨p1, c1, rfl, k1, k2⟩ := ha.shape
  obtain ⟨p2, c2, rfl, k3, k4⟩ := hb.shape
  have hlI : (l.length : Int) ≤ 4398046511104 := by omega
  have hent := pone_ent
  clear ha hb k1 k2 k3 k4 hl
  go_enter Try.func39, Try.ntmps39
  go_wp2_with fail
  go_loopw [7] (fun i wr => ∃ k : Nat, k ≤ l.length ∧ i = .int .i64 (k : Int) ∧ Below w.heap.size w wr) (fun i _ => l.length - (intOf i).toNat)
  case atStart => exact ⟨0, Nat.zero_le _, rfl, Below.refl _ _⟩
  case round =>
    obtain ⟨k, hk, rfl, hB⟩ := hrel
    by_cases hlt : k < l.length
    · have hkI : (k : Int) < (l.length : Int) := by omega
      obtain ⟨X, b1, o1, b2, o2, rfl, rfl, x1, x2, y1, y2⟩ : ∃ (X : It) (b1 o1 b2 o2 : Nat), p1 = some ⟨b1, o1, none⟩ ∧ p2 = some ⟨b2, o2, none⟩ ∧ wr.cell? ⟨b1, o1 + k * 2, none⟩ = some (.int .i64 X.1) ∧ wr.cell? ⟨b1, o1 + k * 2 + 1, none⟩ = some (.string X.2) ∧ wr.cell? ⟨b2, o2 + k * 2, none⟩ = some (.int .i64 X.1) ∧ wr.cell? ⟨b2, o2 + k * 2 + 1, none⟩ = some (.string X.2) := by
        obtain ⟨b1, o1, c, e, _, _, _, h1, _⟩ := ((unhide HA).below hB).at (by omega)
        obtain ⟨b2, o2, c', e', _, _, _, h2, _⟩ := ((unhide HB).below hB).at (by omega)
        simp only [Value.slice.injEq] at e e'
        exact ⟨l[k], b1, o1, b2, o2, e.1, e'.1, (h1 k hlt).1, (h1 k hlt).2, (h2 k hlt).1, (h2 k hlt).2⟩
      have HLT := hide hlt
      have HBW := hide hB
      have hdd : decide (k < l.length) = true := decide_eq_true hlt
      clear hk hlt hB
      go_wp2_with fail
      go_region_held3 (fun w' => w'.cell? ⟨b1, o1 + k * 2, none⟩ = some (.int .i64 X.1) ∧ w'.cell? ⟨b1, o1 + k * 2 + 1, none⟩ = some (.string X.2) ∧ w'.cell? ⟨b2, o2 + k * 2, none⟩ = some (.int .i64 X.1) ∧ w'.cell? ⟨b2, o2 + k * 2 + 1, none⟩ = some (.string X.2)) (first | assumption | go_keep)
        (first
          | (go_at_call 40; refine Calls.mono (pone_any X _) ?_; rintro e w1 ⟨rfl, bb1⟩; have hk1 := four_cells bb1 ⟨x1, x2, y1, y2⟩))
      have HB1 := hide ((unhide HBW).drew.trans (bb1.mono (unhide HBW).size))
      clear bb1 hk1 x1 x2 y1 y2
      go_wp2_with fail
      go_roundw
      case rel => exact ⟨k + 1, unhide HLT, by go_num, unhide HB1⟩
      case measure => (have := unhide HLT; simp [intOf]; omega)
    · have hke : k = l.length := by omega
      subst hke
      have HBW := hide hB
      clear hk hlt hB
      go_wp2_with fail
      go_ret
      exact ⟨rfl, unhide HBW⟩
theorem plain_true (a b : Value) (l : List It) (w : World) (ha : TI w a l) (hb : TI w b l) (hl : l.length ≤ 4398046511104) :
    Calls Try.prog 17 #[a, b] w fun e w' => e = .returned (.bool true) ∧ Below w.heap.size w w' := by
  have HS := hide (same_true a b l w ha hb hl)
  obtain ⟨p1, c1, rfl, k1, k2⟩ := ha.shape
  obtain ⟨p2, c2, rfl, k3, k4⟩ := hb.shape
  clear ha hb hl k1 k2 k3 k4
  go_enter Try.func17, Try.ntmps17
  go_wp2_with fail
  refine Calls.mono (unhide HS) ?_
  rintro e w1 ⟨rfl, b1⟩
  go_wp2_with fail
  go_ret
  exact ⟨rfl, b1⟩
end Go.Proofs.Ytbannlomemkjbaa
