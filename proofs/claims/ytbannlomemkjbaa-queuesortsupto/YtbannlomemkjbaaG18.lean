/- Texts of ours, one behind the other: QHelp2. -/
import Derived.Test.YtbannlomemkjbaaG17
import Derived.WalkSmall
/- The helpers of layer 8's statements: Own and Kept over items. -/
namespace Go.Proofs.Ytbannlomemkjbaa
open Go.RowKit

/-- Block g holds these items and three items x of spare room behind. -/
def OwnedI (w : World) (g : Nat) (l : List It) (x : It) : Prop := w.heap[g]? = some (.cells (cellsI (l ++ [x, x, x])).toArray 26 (0, 0))
theorem OwnedI.lt {w : World} {g : Nat} {l : List It} {x : It} (h : OwnedI w g l x) : g < w.heap.size := (Array.getElem?_eq_some_iff.1 h).1
theorem OwnedI.below {w w' : World} {g : Nat} {l : List It} {x : It} (h : OwnedI w g l x) (hb : Below w.heap.size w w') : OwnedI w' g l x := (hb.block g h.lt).trans h
theorem OwnedI.stays {w w' : World} {g : Nat} {l : List It} {x : It} (h : OwnedI w g l x) (hb : w'.heap[g]? = w.heap[g]?) : OwnedI w' g l x := hb.trans h
theorem OwnedI.cells {w : World} {g : Nat} {l : List It} {x : It} (h : OwnedI w g l x) (j : Nat) : w.cell? ⟨g, j, none⟩ = (cellsI (l ++ [x, x, x]))[j]? := by
  rw [cell_of_row w g j _ _ (0, 0) h]
  simp
theorem OwnedI.row {w : World} {g : Nat} {l : List It} {x : It} (h : OwnedI w g l x) (hm : l.length + 3 ≤ maxLen) : TI w (.slice (some ⟨g, 0, none⟩) l.length (l.length + 3)) l := by
  refine ⟨_, _, rfl, by omega, hm, fun e => (nomatch e), Or.inr ⟨g, 0, rfl, fun j u hu => ?_⟩⟩
  rw [Nat.zero_add, h.cells, cellsI_append, List.getElem?_append_left (List.getElem?_eq_some_iff.1 hu).1]
  exact hu
theorem OwnedI.spare {w : World} {g : Nat} {l : List It} {x : It} (h : OwnedI w g l x) (k : Nat) (h1 : l.length ≤ k) (h2 : k < l.length + 3) : w.cell? ⟨g, k * 2, none⟩ = some (.int .i64 x.1) ∧ w.cell? ⟨g, k * 2 + 1, none⟩ = some (.string x.2) := by
  have hk : k < (l ++ [x, x, x]).length := by simp; omega
  have hx : (l ++ [x, x, x])[k] = x := by
    rw [List.getElem_append_right h1]
    have : k - l.length = 0 ∨ k - l.length = 1 ∨ k - l.length = 2 := by omega
    rcases this with e | e | e <;> simp [e]
  obtain ⟨g1, g2⟩ := cellsI_get (l ++ [x, x, x]) k hk
  rw [hx] at g1 g2
  exact ⟨(h.cells _).trans g1, (h.cells _).trans g2⟩
theorem own_step2 {cur : Array Value} {L : List Value} {k : Nat} {a b : Value} (h2 : k * 2 + 1 < cur.size) (h : cur.toList.take (k * 2) = L) (hL : L.length = k * 2) :
    ((cur.setIfInBounds (k * 2) a).setIfInBounds (k * 2 + 1) b).toList.take ((k + 1) * 2) = L ++ [a, b] := by
  apply List.ext_getElem?
  intro j
  rw [Array.toList_setIfInBounds, Array.toList_setIfInBounds, List.getElem?_take]
  by_cases hj : j < (k + 1) * 2
  · rw [if_pos hj, List.getElem?_set, List.getElem?_set]
    by_cases e1 : k * 2 + 1 = j
    · subst e1
      rw [if_pos rfl, if_pos (by simp; omega), List.getElem?_append_right (by omega), hL]
      simp
    · rw [if_neg e1]
      by_cases e2 : k * 2 = j
      · subst e2
        rw [if_pos rfl, if_pos (by simp; omega), List.getElem?_append_right (by omega), hL]
        simp
      · rw [if_neg e2, List.getElem?_append_left (by omega), ← h, List.getElem?_take, if_pos (by omega)]
  · rw [if_neg hj, List.getElem?_eq_none (by simp; omega)]

set_option maxRecDepth 20000 in
set_option maxHeartbeats 1000000 in
theorem iown_any (s : Value) (l : List It) (x : It) (w : World) (hs : TI w s l) (hl : l.length ≤ 1048576) :
    Calls Try.prog 18 #[s, .agg #[.int .i64 x.1, .string x.2]] w fun e w' => ∃ g, e = .returned (.slice (some ⟨g, 0, none⟩) l.length (l.length + 3)) ∧ w.heap.size ≤ g ∧ OwnedI w' g l x ∧ Below w.heap.size w w' := by
  obtain ⟨is, his, hs0, hs1, hs2⟩ := info_parts Try.info26
  have HS := hide hs
  obtain ⟨a, cap, rfl, hc1, hc2, hc3, _⟩ := hs
  have hlI : (l.length : Int) ≤ 1048576 := by omega
  have HL := hide hl
  have hb0 : Below w.heap.size w (w.alloc (.cells #[.int .i64 x.1, .string x.2] 26)) := (Below.refl _ _).alloc (Nat.le_refl _) _
  have HB0 := hide hb0
  have HX0 := hide (heap_alloc_new w (.cells #[.int .i64 x.1, .string x.2] 26))
  have HC3 : Hid (a = none → l.length = 0 ∧ cap = 0) := fun e => by have := hc3 e; omega
  clear hl hb0 hc1 hc2 hc3
  go_enter Try.func18, Try.ntmps18
  go_wp2_with (first | (at_make; refine wpList_make_own _ rfl _ _ 29 rfl w.heap.size 26 is (.agg #[.int .i64 0, .string ⟨#[]⟩]) 2 Try.underlying29 his hs0 hs1 .i64 .i64 ((l.length : Int) + 3) (l.length + 3) rfl rfl (by omega) (by have := unhide HL; rw [hs2]; omega) (by have := unhide HL; unfold maxLen; omega) (unhide HB0).size ?_))
  intro w1 hown1 hgrow1
  have hb1 : Below w.heap.size w w1 := (unhide HB0).grown hgrow1 (unhide HB0).size (fun k hk => by cases hk)
  have hx1 := (hgrow1.block w.heap.size (by simp) (fun e => by cases e)).trans (unhide HX0)
  have HT1 := hide ((unhide HS).below hb1)
  have HNC : Hid (∀ ad, a = some ad → ∀ j u, (cellsI l)[j]? = some u → w1.cell? (ad.add j) = some u) := fun ad had j u hu => by
    obtain ⟨a', cap', e, _, _, _, h4⟩ := unhide HT1
    simp only [Value.slice.injEq] at e
    obtain ⟨rfl, _, rfl⟩ := e
    rcases h4 with h4 | ⟨b, off, e, hc⟩
    · rw [h4] at hu; simp [cellsI] at hu
    · rw [had] at e
      cases e
      rw [Addr.add_lit]
      exact hc j u hu
  have HO1 := hide hown1
  have HB1 := hide hb1
  have HX1 := hide hx1
  have hsz1 := (hown1.lt (w.heap.size + 1) rfl).2
  clear hgrow1 hown1 hb1 hx1 HB0 HX0
  go_wp2_with (first | (with_reducible show wpList _ _ _ (Oper.mk _ (Op.call _) _ _ _ _ :: _) _ _; refine wpList_append_fits_any _ rfl (.tmp 12) (.tmp 13) 29 rfl w.heap.size 26 is 2 Try.underlying29 his hs1 (w.heap.size + 1) 0 (l.length + 3) [] rfl (unhide HO1) a l.length cap (cellsI l) rfl (length_cellsI l) (unhide HC3) (unhide HNC) (oneCell_cellsI l) (by omega) ?_))
  intro w2 hown2 hgrow2
  have hb2 : Below w.heap.size w w2 := (unhide HB1).grown hgrow2 (unhide HB1).size (fun k hk => by cases hk; omega)
  have hx2 := (hgrow2.block w.heap.size (by omega) (fun e => by simp at e)).trans (unhide HX1)
  have x0 : w2.cell? ⟨w.heap.size, 0, none⟩ = some (.int .i64 x.1) := by rw [cell_of_row w2 w.heap.size _ _ _ (0, 0) hx2]; rfl
  obtain ⟨cur, hblk, hcs, htake⟩ : ∃ cur : Array Value, w2.heap[w.heap.size + 1]? = some (.cells cur 26 (0, 0)) ∧ cur.size = (l.length + 3) * 2 ∧ cur.toList.take (l.length * 2) = cellsI l := by
    rcases hown2.2 with ⟨h', _⟩ | ⟨g', cap', cur, h', _, hh, _, _, hcs, htake⟩
    · simp at h'
    · simp only [Value.slice.injEq, Option.some.injEq, Addr.mk.injEq, and_true, true_and] at h'
      obtain ⟨rfl, rfl⟩ := h'
      exact ⟨cur, hh, hcs, by simpa using htake⟩
  have HB2 := hide hb2
  have HX2 := hide hx2
  have HBK := hide hblk
  have HCS := hide hcs
  have HTK := hide htake
  clear hown2 hgrow2 hb2 hx2 HB1 HX1 HO1 HNC HT1 x0 hblk hcs htake
  go_wp2_with fail
  go_loopw [7] (fun i wr => ∃ (k : Nat) (cur : Array Value), l.length ≤ k ∧ k ≤ l.length + 3 ∧ i = .int .i64 (k : Int) ∧ wr.heap[w.heap.size + 1]? = some (.cells cur 26 (0, 0)) ∧ cur.size = (l.length + 3) * 2 ∧ Hid (cur.toList.take (k * 2) = cellsI (l ++ List.replicate (k - l.length) x)) ∧ wr.heap[w.heap.size]? = some (.cells #[.int .i64 x.1, .string x.2] 26 (0, 0)) ∧ Below w.heap.size w wr) (fun i _ => l.length + 3 - (intOf i).toNat)
  case atStart => exact ⟨l.length, cur, Nat.le_refl _, by omega, rfl, unhide HBK, unhide HCS, by unfold Hid; simpa using unhide HTK, unhide HX2, unhide HB2⟩
  case round =>
    clear HBK HCS HTK HX2 HB2
    obtain ⟨k, cur, h1, h2, rfl, hblk, hcs, htake, hx, hbel⟩ := hrel
    have x0 : wr.cell? ⟨w.heap.size, 0, none⟩ = some (.int .i64 x.1) := by rw [cell_of_row wr w.heap.size _ _ _ (0, 0) hx]; rfl
    have x1 : wr.cell? ⟨w.heap.size, 1, none⟩ = some (.string x.2) := by rw [cell_of_row wr w.heap.size _ _ _ (0, 0) hx]; rfl
    by_cases hlt : k < l.length + 3
    · have hlt2 : (k : Int) < (l.length : Int) + 3 := by omega
      have hc0 : wr.cell? ⟨w.heap.size + 1, k * 2, none⟩ = some (cur[k * 2]'(by omega)) := by rw [cell_of_row wr _ _ cur _ (0, 0) hblk]; exact Array.getElem?_eq_getElem (by omega)
      have hc1 : wr.cell? ⟨w.heap.size + 1, k * 2 + 1, none⟩ = some (cur[k * 2 + 1]'(by omega)) := by rw [cell_of_row wr _ _ cur _ (0, 0) hblk]; exact Array.getElem?_eq_getElem (by omega)
      generalize cur[k * 2]'(by omega) = u0 at hc0
      generalize cur[k * 2 + 1]'(by omega) = u1 at hc1
      have hf0 : wr.frozen? ⟨w.heap.size + 1, k * 2, none⟩ = false := frozen_of_block hblk
      have hf1 : wr.frozen? ⟨w.heap.size + 1, k * 2 + 1, none⟩ = false := frozen_of_block hblk
      have hlen : (cellsI (l ++ List.replicate (k - l.length) x)).length = k * 2 := by rw [length_cellsI]; simp; omega
      have hst := own_step2 (a := .int .i64 x.1) (b := .string x.2) (by omega) (unhide htake) hlen
      have hcl : cellsI (l ++ List.replicate (k - l.length) x) ++ [.int .i64 x.1, .string x.2] = cellsI (l ++ List.replicate (k + 1 - l.length) x) := by
        have e : k + 1 - l.length = (k - l.length) + 1 := by omega
        rw [e, List.replicate_succ', ← List.append_assoc, cellsI_append (l ++ List.replicate (k - l.length) x) [x], cellsI_one]
        rfl
      rw [hcl] at hst
      have b1 := heap_setCell_same wr (w.heap.size + 1) (k * 2) cur _ (.int .i64 x.1) hblk
      have b2 := heap_setCell_same (wr.setCell ⟨w.heap.size + 1, k * 2, none⟩ (.int .i64 x.1)) (w.heap.size + 1) (k * 2 + 1) _ _ (.string x.2) b1
      have hxx : ((wr.setCell ⟨w.heap.size + 1, k * 2, none⟩ (.int .i64 x.1)).setCell ⟨w.heap.size + 1, k * 2 + 1, none⟩ (.string x.2)).heap[w.heap.size]? = some (.cells #[.int .i64 x.1, .string x.2] 26 (0, 0)) :=
        (heap_setCell_other _ ⟨w.heap.size + 1, k * 2 + 1, none⟩ w.heap.size _ (fun e => by simp at e)).trans ((heap_setCell_other _ ⟨w.heap.size + 1, k * 2, none⟩ w.heap.size _ (fun e => by simp at e)).trans hx)
      have HE := hide (And.intro b2 (And.intro hst (And.intro hxx ((hbel.setCell (p := ⟨w.heap.size + 1, k * 2, none⟩) (Nat.le_succ _) (.int .i64 x.1)).setCell (p := ⟨w.heap.size + 1, k * 2 + 1, none⟩) (Nat.le_succ _) (.string x.2)))))
      have HK := hide (And.intro h1 hlt)
      have HCS := hide hcs
      clear hst hcl b1 b2 hxx hlen hblk hcs htake hx hbel h1 h2 hlt
      go_wp2_with fail
      go_roundw
      case rel =>
        obtain ⟨e1, e2, e3, e4⟩ := unhide HE
        exact ⟨k + 1, _, by have := unhide HK; omega, by have := unhide HK; omega, by go_num, e1, by simpa using unhide HCS, e2, e3, e4⟩
      case measure => (have := unhide HK; simp [intOf]; omega)
    · have hk : k = l.length + 3 := by omega
      subst hk
      have HE : Hid (OwnedI wr (w.heap.size + 1) l x ∧ Below w.heap.size w wr) := by
        refine ⟨?_, hbel⟩
        have ht := unhide htake
        rw [List.take_of_length_le (by simp [hcs])] at ht
        have e3 : l.length + 3 - l.length = 3 := by omega
        rw [e3] at ht
        unfold OwnedI
        rw [hblk]
        have : (cellsI (l ++ [x, x, x])).toArray = cur := by rw [show [x, x, x] = List.replicate 3 x from rfl, ← ht]
        rw [this]
      clear h1 h2 hblk hcs htake hx hbel hlt x0 x1
      go_wp2_with fail
      go_ret
      exact ⟨_, rfl, Nat.le_succ _, unhide HE⟩

set_option maxRecDepth 20000 in
set_option maxHeartbeats 1000000 in
theorem ikept_any (g : Nat) (s : Value) (l : List It) (x : It) (w : World) (ho : OwnedI w g l x) (hs : TI w s l) (hl : l.length ≤ 1048576) :
    Calls Try.prog 20 #[.slice (some ⟨g, 0, none⟩) l.length (l.length + 3), s, .agg #[.int .i64 x.1, .string x.2]] w fun e w' => e = .returned (.bool true) ∧ Below w.heap.size w w' := by
  have hb0 : Below w.heap.size w (w.alloc (.cells #[.int .i64 x.1, .string x.2] 26)) := (Below.refl _ _).alloc (Nat.le_refl _) _
  have HP := hide (plain_true _ _ l _ ((ho.below hb0).row (by unfold maxLen; omega)) (hs.below hb0) (by omega))
  have HX0 := hide (heap_alloc_new w (.cells #[.int .i64 x.1, .string x.2] 26))
  have HO0 := hide (ho.below hb0)
  have HB0 := hide hb0
  obtain ⟨p, cap, rfl, k1, k2⟩ := hs.shape
  have hlI : (l.length : Int) ≤ 1048576 := by omega
  have hne : ∀ W : World, (binOp .neq 26 (.agg #[.int .i64 x.1, .string x.2]) (.agg #[.int .i64 x.1, .string x.2])).run Try.prog W = .ok (.bool false) W := fun W => by
    rw [run_neq_struct, run_equalIn_agg]
    · simp [go_sem]
    · kernel_rfl
    · exact Try.itemHeld
  clear hb0 ho hs k1 k2 hl
  go_enter Try.func20, Try.ntmps20
  go_wp2_with fail
  refine Calls.mono (unhide HP) ?_
  rintro e w1 ⟨rfl, b1⟩
  have HO1 := hide ((unhide HO0).below b1)
  have HX1 := hide ((b1.block w.heap.size (by simp)).trans (unhide HX0))
  have HB1 := hide ((unhide HB0).trans (b1.mono (unhide HB0).size))
  clear b1 HP HO0 HX0 HB0
  go_wp2_with fail
  go_loopw [8] (fun i wr => ∃ k : Nat, l.length ≤ k ∧ k ≤ l.length + 3 ∧ i = .int .i64 (k : Int) ∧ OwnedI wr g l x ∧ wr.heap[w.heap.size]? = some (.cells #[.int .i64 x.1, .string x.2] 26 (0, 0)) ∧ Below w.heap.size w wr) (fun i _ => l.length + 3 - (intOf i).toNat)
  case atStart => exact ⟨l.length, Nat.le_refl _, by omega, rfl, unhide HO1, unhide HX1, unhide HB1⟩
  case round =>
    clear HO1 HX1 HB1
    obtain ⟨k, h1, h2, rfl, hO, hX, hB⟩ := hrel
    have HO := hide hO
    have HX := hide hX
    have HB := hide hB
    by_cases hlt : k < l.length + 3
    · have hlt2 : (k : Int) < (l.length : Int) + 3 := by omega
      obtain ⟨c0, c1⟩ := hO.spare k h1 hlt
      have x0 : wr.cell? ⟨w.heap.size, 0, none⟩ = some (.int .i64 x.1) := by rw [cell_of_row wr w.heap.size _ _ _ (0, 0) hX]; rfl
      have x1 : wr.cell? ⟨w.heap.size, 1, none⟩ = some (.string x.2) := by rw [cell_of_row wr w.heap.size _ _ _ (0, 0) hX]; rfl
      have HK := hide (And.intro h1 hlt)
      clear hO hX hB h1 h2 hlt
      go_wp2_with fail
      go_region
      go_wp2_with fail
      go_roundw
      case rel => exact ⟨k + 1, by have := unhide HK; omega, by have := unhide HK; omega, by go_num, (unhide HO).below (Below.refl _ _).drew, unhide HX, (unhide HB).drew⟩
      case measure => (have := unhide HK; simp [intOf]; omega)
    · have hk : k = l.length + 3 := by omega
      subst hk
      clear hO hX hB h1 h2 hlt
      go_wp2_with fail
      go_ret
      exact ⟨rfl, unhide HB⟩
end Go.Proofs.Ytbannlomemkjbaa
