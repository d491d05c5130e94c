/- Texts of ours, one behind the other: MgRef3, MgRef4. -/
import Derived.Test.YtcjepiihknjeiaaG4
import Derived.Test.YtcjepiihknjeiaaG5
import Derived.Test.YtcjepiihknjeiaaG15
import Derived.Test.YtcjepiihknjeiaaG18
import Derived.Test.YtcjepiihknjeiaaG19
/- The document's own answer of layer 12: With. -/
namespace Go.Proofs.Ytcjepiihknjeiaa
open Go.RowKit

theorem Try.infoEnt : (Try.prog.info? 37).map (fun i => (i.zero, i.size, i.bytes)) = some (some (.agg #[.string ⟨#[]⟩, .int .u64 0, .int .i64 0, .int .i64 0]), 4, 40) := by kernel_rfl
theorem four_new (W : World) (a b c d : Value) (t : Nat) : ∀ (j : Nat) (u : Value), [a, b, c, d][j]? = some u → (W.alloc (.cells #[a, b, c, d] t)).cell? ((⟨W.heap.size, 0, none⟩ : Addr).add j) = some u := fun j u hj => by
  obtain ⟨c0, c1, c2, c3, _⟩ := ecells (World.alloc_heap_new W (.cells #[a, b, c, d] t))
  match j, hj with
  | 0, hj => simp at hj; subst hj; simp [Addr.add, c0]
  | 1, hj => simp at hj; subst hj; simp [Addr.add, c1]
  | 2, hj => simp at hj; subst hj; simp [Addr.add, c2]
  | 3, hj => simp at hj; subst hj; simp [Addr.add, c3]
theorem ownsV_low {w : World} {b b' e sz n : Nat} {v : Value} {xs : List Value} (h : w.ownsRow b e sz v n xs) (hb : b' ≤ b) : w.ownsRow b' e sz v n xs := by
  refine ⟨h.1, ?_⟩
  rcases h.2 with h2 | ⟨g, cap, cur, rfl, hg, r⟩
  · exact Or.inl h2
  · exact Or.inr ⟨g, cap, cur, rfl, Nat.le_trans hb hg, r⟩
theorem eC_all (L : List En) : ∀ u ∈ L.flatMap eC, u.oneCell' = true := fun u hu => by
  obtain ⟨x, _, h⟩ := List.mem_flatMap.1 hu
  exact eC_one x u h
theorem flat_drop {α : Type} {f : α → List Value} {k : Nat} (hf : ∀ x, (f x).length = k) : ∀ (L : List α) (n : Nat), (L.flatMap f).drop (n * k) = (L.drop n).flatMap f
  | L, 0 => by simp
  | [], n + 1 => by simp
  | x :: L, n + 1 => by
    rw [List.flatMap_cons, show (n + 1) * k = (f x).length + n * k by rw [hf]; rw [Nat.succ_mul]; omega, List.drop_append, List.drop_eq_nil_of_le (by omega), List.nil_append, Nat.add_sub_cancel_left]
    exact flat_drop hf L n
macro "lexe" h:term : tactic => `(tactic| (
  refine lexM_stillE (by rfl) (by kernel_rfl) ?_
  apply Exists.intro
  refine ⟨fun s u Xi hi => ?_, ?_⟩
  · obtain ⟨z0, z1⟩ := unhide $h s u Xi hi
    go_simp
    first | done | rfl
  simp only [Act.put, List.setIfInBounds_toArray, List.set_cons_zero, List.set_cons_succ]))
macro "lexs" : tactic => `(tactic| (
  refine lexM_skip (by rfl) (by kernel_rfl) ?_
  simp only [Act.put, List.setIfInBounds_toArray, List.set_cons_zero, List.set_cons_succ]))

set_option maxRecDepth 20000 in
set_option maxHeartbeats 2000000 in
theorem ewith_any (v : Value) (L : List En) (e : En) (w : World) (h : ER w v L) (hks : ∀ x ∈ L, x.1.size ≤ 140737488351232) (hl : (L.length + 1) * 40 ≤ 140737488355328) :
    Calls Try.prog 23 #[v, eV e] w fun r w' => ∃ v', r = .returned v' ∧ w'.ownsRow w.heap.size 37 4 v' (withE L e).length ((withE L e).flatMap eC) ∧ Below w.heap.size w w' := by
  have hmx : Try.prog.follows .mixedOrders = true := by kernel_rfl
  obtain ⟨ie, hie, hi0, hi1, hi2⟩ := info_parts Try.infoEnt
  have HS := hide (fun (hne : 0 < L.length) => h.seen hne)
  obtain ⟨p, c, rfl, g1, g2, _⟩ := h.shape
  have HH := hide h
  have HL := hide hl
  have HKS := hide hks
  obtain ⟨W0, hW0⟩ : ∃ W0, w.alloc (.cells #[.string e.1, .int .u64 e.2.1, .int .i64 e.2.2.1, .int .i64 e.2.2.2] 37) = W0 := ⟨_, rfl⟩
  have hb0 : Below w.heap.size w W0 := by rw [← hW0]; exact (Below.refl _ _).alloc (Nat.le_refl _) _
  have hx : W0.heap[w.heap.size]? = some (.cells #[.string e.1, .int .u64 e.2.1, .int .i64 e.2.2.1, .int .i64 e.2.2.2] 37 (0, 0)) := by rw [← hW0]; exact World.alloc_heap_new _ _
  have hsz : W0.heap.size = w.heap.size + 1 := by rw [← hW0]; exact World.size_alloc _ _
  have HB0 := hide (And.intro hb0 (And.intro hx hsz))
  clear h g1 g2 hb0 hx hsz hl hks
  unfold eV
  go_enter Try.func23, Try.ntmps23
  go_wp2_with fail
  go_loopw [5, 6] (fun ov iv wr => ∃ (k : Nat), iv = .int .i64 (k : Int) ∧ k ≤ L.length ∧ Hid (∀ j x, j < k → L[j]? = some x → tl (kE x) (kE e) = true) ∧ wr.ownsRow (w.heap.size + 1) 37 4 ov k ((L.take k).flatMap eC) ∧ Below w.heap.size w wr ∧ wr.heap[w.heap.size]? = some (.cells #[.string e.1, .int .u64 e.2.1, .int .i64 e.2.2.1, .int .i64 e.2.2.2] 37 (0, 0))) (fun _ iv _ => L.length - (intOf iv).toNat)
  case atStart => exact ⟨0, rfl, Nat.zero_le _, fun j x hj => by omega, World.ownsRow_nil _ _ _ _, by subst hW0; exact (unhide HB0).1, by subst hW0; exact (unhide HB0).2.1⟩
  case round =>
    obtain ⟨k, rfl, hk, hn, hown, hb, hx⟩ := hrel
    obtain ⟨po, co, rfl⟩ := ownsV_shape hown
    by_cases hlt : k < L.length
    · have hkI : (k : Int) < (L.length : Int) := by omega
      obtain ⟨b, o, c', e1, _, _, hsn⟩ := unhide HS (by omega)
      simp only [Value.slice.injEq] at e1
      obtain ⟨rfl, _, rfl⟩ := e1
      obtain ⟨x, hxk⟩ : ∃ x, L[k]? = some x := ⟨_, List.getElem?_eq_getElem hlt⟩
      have hsize : k < L.length := hlt
      have HLS := hide (fun W => rless_any x.1 e.1 W (unhide HKS x (List.mem_of_getElem? hxk)))
      have HCI : Hid (∀ (c : Nat → Value) (s : Nat → Bool) (u : Nat → Value) (Xi : World), InvB (fun X => Below wr.heap.size wr X) c s u Xi → Xi.cell? ⟨b, o + k * 4, none⟩ = some (.string x.1) ∧ Xi.cell? ⟨w.heap.size, 0, none⟩ = some (.string e.1)) := fun c s u Xi hi =>
        ⟨(hsn k x hxk Xi (hb.trans (hi.1.mono hb.size))).1, by rw [cell_of_row _ _ _ _ _ (0, 0) ((hi.1.block _ (Array.getElem?_eq_some_iff.1 hx).1).trans hx)]; rfl⟩
      have HSX := hide (fun (W : World) (hbw : Below w.heap.size w W) => hsn k x hxk W hbw)
      have HK := hide (And.intro hsize (And.intro hown (And.intro hb hx)))
      have HXK := hide hxk
      have HN := hide (unhide hn)
      obtain ⟨T, hT⟩ : ∃ T, tl (kE x) (kE e) = T := ⟨_, rfl⟩
      have hT2 : tl x.1.toList e.1.toList = T := hT
      rw [hT2] at HLS
      have HT := hide hT
      clear hn hown hb hx hsn hk hlt hT hT2 hsize hxk
      obtain ⟨cc, hcc⟩ : ∃ cc : Nat → Value, cc = fun _ => .bool T := ⟨_, rfl⟩
      have q12 : cc 12 = .bool T := by rw [hcc]
      have HCC := hide (unhide HCI cc)
      clear hcc
      go_wp2_with fail
      refine region_actsC 13 (fun i => i == 12) (InvB (fun X => Below wr.heap.size wr X) cc) cc (fun s u w h => h.2) hmx (by kernel_rfl) ⟨(Below.refl _ wr).drew, fun j h => (by cases h)⟩ ?_
      simp only [List.take_succ_cons, List.take_zero]
      lexe HCC
      lexe HCC
      lexe HCC
      lexe HCC
      lexe HCC
      lexe HCC
      lexe HCC
      lexe HCC
      lexe HCC
      lexe HCC
      lexe HCC
      lexe HCC
      refine lexM_act (by rfl) (by kernel_rfl) (invB_act (fun X hX => ?_)) ?_
      · go_simp
        refine actUpon_enter ((unhide HLS X).mono ?_)
        rintro r w' ⟨rfl, b1⟩
        exact ⟨_, rfl, rfl, hX.trans (b1.mono hX.size)⟩
      rw [q12]
      simp only [Act.put, List.setIfInBounds_toArray, List.set_cons_zero, List.set_cons_succ]
      refine lexM_nil fun W1 hi => ?_
      simp only [List.drop_succ_cons, List.drop_zero]
      have hb1 := hi.1
      have HB1 := hide hb1
      clear hi hb1 q12
      cases T with
      | true =>
        obtain ⟨hsize, hown, hb, hx⟩ := unhide HK
        have hb1 := unhide HB1
        have hbw := hb.trans (hb1.mono hb.size)
        have hown1 := ownsV_keep (F := fun _ => False) hown (Keep.of_below hb1) (fun _ _ => id)
        obtain ⟨y0, y1, y2, y3⟩ := unhide HSX W1 hbw
        have hba := (Below.refl W1.heap.size W1).alloc (Nat.le_refl _) (.cells #[.string x.1, .int .u64 x.2.1, .int .i64 x.2.2.1, .int .i64 x.2.2.2] 37)
        have HOWA := hide (ownsV_keep (F := fun _ => False) hown1 (Keep.of_below hba) (fun _ _ => id))
        have HNW := hide (four_new W1 (.string x.1) (.int .u64 x.2.1) (.int .i64 x.2.2.1) (.int .i64 x.2.2.2) 37)
        have hl0 := unhide HL
        have HM1 := hide (show k + 1 ≤ maxLen by unfold maxLen; omega)
        have HM2 := hide (show (k + 1) * 40 ≤ 140737488355328 by omega)
        have HM3 := hide (show w.heap.size + 1 ≤ (W1.alloc (.cells #[.string x.1, .int .u64 x.2.1, .int .i64 x.2.2.1, .int .i64 x.2.2.2] 37)).heap.size by have := (Array.getElem?_eq_some_iff.1 hx).1; have := hb1.size; rw [World.size_alloc]; omega)
        have hknw : IntKind.i64.wrap ((k : Int) + 1) = (k : Int) + 1 := by rw [IntKind.wrap_i64]; omega
        have HBX := hide (And.intro hbw (And.intro ((hb1.block _ (Array.getElem?_eq_some_iff.1 hx).1).trans hx) hba))
        clear hsize hown hb hx hb1 hbw hown1 hba
        go_wp2_with (first
          | (at_builtin; refine wpList_append_gen rfl _ _ 24 rfl (w.heap.size + 1) 37 ie _ Try.underlying24 hie hi0 4 40 (by omega) hi1 hi2 rfl (.slice po k co) k ((L.take k).flatMap eC) rfl (unhide HOWA) ⟨W1.heap.size, 0, none⟩ 1 1 (eC x) rfl rfl (unhide HNW) (eC_one x) (unhide HM1) (unhide HM2) (unhide HM3) ?_))
        intro v3 w3 hown3 hg3 hob3
        have HFIN : Hid (∃ (k' : Nat), Value.int .i64 ((k : Int) + 1) = .int .i64 (k' : Int) ∧ k' ≤ L.length ∧ Hid (∀ j x, j < k' → L[j]? = some x → tl (kE x) (kE e) = true) ∧ w3.ownsRow (w.heap.size + 1) 37 4 v3 k' ((L.take k').flatMap eC) ∧ Below w.heap.size w w3 ∧ w3.heap[w.heap.size]? = some (.cells #[.string e.1, .int .u64 e.2.1, .int .i64 e.2.2.1, .int .i64 e.2.2.2] 37 (0, 0))) := by
          obtain ⟨hbw, hx, hba⟩ := unhide HBX
          obtain ⟨hsize, _⟩ := unhide HK
          have hkg := grown_keep hg3
          have hlt : ∀ y, (.slice po k co : Value).ownBlock = some y → w.heap.size + 1 ≤ y := fun y hy => ((unhide HOWA).lt y hy).1
          have hbA := hbw.trans (hba.mono hbw.size)
          refine ⟨k + 1, rfl, hsize, fun j z hj hz => ?_, ?_, hbA.trans (hkg.below hbA.size (fun y hy => by have := hlt y hy; omega)), (hkg.block _ (by have := (Array.getElem?_eq_some_iff.1 hx).1; have := hba.size; omega) (fun hy => by have := hlt _ hy; omega)).trans ((hba.block _ (Array.getElem?_eq_some_iff.1 hx).1).trans hx)⟩
          · by_cases g : j = k
            · subst g
              rw [unhide HXK] at hz
              cases hz
              exact unhide HT
            · exact unhide HN j z (by omega) hz
          · rw [List.take_succ_eq_append_getElem hsize, List.flatMap_append]
            have hxx : L[k] = x := by have := unhide HXK; rw [List.getElem?_eq_getElem hsize] at this; exact Option.some.inj this
            rw [hxx]
            simpa using hown3
        obtain ⟨p3, c3, rfl⟩ := ownsV_shape hown3
        clear hown3 hg3 hob3 y0 y1 y2 y3
        go_wp2_with fail
        go_roundw
        case rel => exact unhide HFIN
        case measure => (have := (unhide HK).1; simp [intOf]; omega)
      | false =>
        obtain ⟨hsize, hown, hb, hx⟩ := unhide HK
        have hb1 := unhide HB1
        have hbw := hb.trans (hb1.mono hb.size)
        have hown1 := ownsV_keep (F := fun _ => False) hown (Keep.of_below hb1) (fun _ _ => id)
        have hx1 := (hb1.block _ (Array.getElem?_eq_some_iff.1 hx).1).trans hx
        obtain ⟨y0, y1, y2, y3, _⟩ := ecells hx1
        have hba := (Below.refl W1.heap.size W1).alloc (Nat.le_refl _) (.cells #[.string e.1, .int .u64 e.2.1, .int .i64 e.2.2.1, .int .i64 e.2.2.2] 37)
        have HOWA := hide (ownsV_keep (F := fun _ => False) hown1 (Keep.of_below hba) (fun _ _ => id))
        have HNW := hide (four_new W1 (.string e.1) (.int .u64 e.2.1) (.int .i64 e.2.2.1) (.int .i64 e.2.2.2) 37)
        have hl0 := unhide HL
        have HM1 := hide (show k + 1 ≤ maxLen by unfold maxLen; omega)
        have HM2 := hide (show (k + 1) * 40 ≤ 140737488355328 by omega)
        have HM3 := hide (show w.heap.size + 1 ≤ (W1.alloc (.cells #[.string e.1, .int .u64 e.2.1, .int .i64 e.2.2.1, .int .i64 e.2.2.2] 37)).heap.size by have := (Array.getElem?_eq_some_iff.1 hx).1; have := hb1.size; rw [World.size_alloc]; omega)
        have HBX := hide (And.intro hbw (And.intro hx1 hba))
        clear hsize hown hb hx hb1 hbw hown1 hba hx1
        go_wp2_with (first
          | (at_builtin; refine wpList_append_gen rfl _ _ 24 rfl (w.heap.size + 1) 37 ie _ Try.underlying24 hie hi0 4 40 (by omega) hi1 hi2 rfl (.slice po k co) k ((L.take k).flatMap eC) rfl (unhide HOWA) ⟨W1.heap.size, 0, none⟩ 1 1 (eC e) rfl rfl (unhide HNW) (eC_one e) (unhide HM1) (unhide HM2) (unhide HM3) ?_))
        intro v3 w3 hown3 hg3 hob3
        have HFIN : Hid (w3.ownsRow (w.heap.size + 1) 37 4 v3 (k + 1) ((L.take k ++ [e]).flatMap eC) ∧ Below w.heap.size w w3 ∧ w3.heap[w.heap.size]? = some (.cells #[.string e.1, .int .u64 e.2.1, .int .i64 e.2.2.1, .int .i64 e.2.2.2] 37 (0, 0))) := by
          obtain ⟨hbw, hx, hba⟩ := unhide HBX
          have hkg := grown_keep hg3
          have hlt : ∀ y, (.slice po k co : Value).ownBlock = some y → w.heap.size + 1 ≤ y := fun y hy => ((unhide HOWA).lt y hy).1
          have hbA := hbw.trans (hba.mono hbw.size)
          refine ⟨?_, hbA.trans (hkg.below hbA.size (fun y hy => by have := hlt y hy; omega)), (hkg.block _ (by have := (Array.getElem?_eq_some_iff.1 hx).1; have := hba.size; omega) (fun hy => by have := hlt _ hy; omega)).trans ((hba.block _ (Array.getElem?_eq_some_iff.1 hx).1).trans hx)⟩
          rw [List.flatMap_append]
          simpa using hown3
        obtain ⟨y0, y1, y2, y3, _⟩ := ecells (unhide HFIN).2.2
        obtain ⟨x0, x1, x2, x3⟩ := unhide HSX w3 (unhide HFIN).2.1
        obtain ⟨p3, c3, rfl⟩ := ownsV_shape hown3
        have hknw : IntKind.i64.wrap ((k : Int) + 1) = (k : Int) + 1 := by rw [IntKind.wrap_i64]; omega
        have HXE := hide (fun (he : x.1 = e.1) => withE_at k L (by have := (unhide HK).1; omega) (unhide HN) (fun y hy => by rw [unhide HXK] at hy; cases hy; exact unhide HT) (k + 1) (Or.inl ⟨rfl, x, unhide HXK, he⟩))
        have HXN := hide (fun (he : x.1 ≠ e.1) => withE_at k L (by have := (unhide HK).1; omega) (unhide HN) (fun y hy => by rw [unhide HXK] at hy; cases hy; exact unhide HT) k (Or.inr ⟨rfl, fun y hy => by rw [unhide HXK] at hy; cases hy; exact he⟩))
        have HF3 := hide (unhide HFIN)
        have hlt : k < L.length := (unhide HK).1
        have hl1 : k + 1 ≤ L.length := hlt
        have hl2 : k ≤ L.length := Nat.le_of_lt hlt
        have HCUT := hide (fun (m : Nat) (hm : m ≤ L.length) => krow_cutl (P := Try.prog) Try.underlying24 (e := 37) (by kernel_rfl) (KRow.below (unhide HH) ((unhide HFIN).2.1.trans ((Below.refl _ w3).drew.mono (unhide HFIN).2.1.size))) m hm)
        have hl0 := unhide HL
        have hwl : w.heap.size + 1 ≤ w3.heap.size := (Array.getElem?_eq_some_iff.1 (unhide HFIN).2.2).1
        clear hown3 hg3 hob3
        by_cases he : x.1 = e.1
        · obtain ⟨q, cq, hrun, hrow⟩ := unhide HCUT (k + 1) hl1
          have hbe : (x.1.toList == e.1.toList) = true := by rw [he]; exact beq_self_eq_true _
          have hkc : ((k : Int) + 1) = ((k + 1 : Nat) : Int) := by omega
          rw [← hkc] at hrun
          have hwE := unhide HXE he
          have HWE := hide hwE
          have HROW := hide hrow
          have HOW := hide (ownsV_keep (F := fun _ => False) (unhide HF3).1 (Keep.of_below ((Below.refl _ w3).drew)) (fun _ _ => id))
          clear hwE hrow hkc
          go_wp2_with fail
          refine region_calm (fun X => X = w3.drew) (by kernel_rfl) (by kernel_rfl) rfl ?_
          repeat (first
            | go_big_quiet_skip
            | (go_big_quiet_want
               apply Exists.intro
               refine ⟨fun w' hw' => ?_, ?_⟩
               · subst hw'
                 go_simp
                 first | done | rfl
               simp only [Act.put, List.setIfInBounds_toArray, List.set_cons_zero, List.set_cons_succ]
               go_big_quiet_on))
          refine wpQuiet_nil ?_
          intro X hX
          subst hX
          have HM4 := hide (show k + 1 + (L.length - (k + 1)) ≤ maxLen by unfold maxLen; omega)
          have HM5 := hide (show (k + 1 + (L.length - (k + 1))) * 40 ≤ 140737488355328 by omega)
          go_wp2_with (first
            | (at_builtin; refine wpList_append_krow rfl _ _ 24 rfl (w.heap.size + 1) 37 ie _ Try.underlying24 hie hi0 4 40 (by omega) hi1 hi2 rfl (.slice p3 (k + 1) c3) (k + 1) ((L.take k ++ [e]).flatMap eC) rfl (unhide HOW) q (L.length - (k + 1)) cq ((L.flatMap eC).drop ((k + 1) * 4)) rfl (unhide HROW) (fun u hu => eC_all L u (List.mem_of_mem_drop hu)) (unhide HM4) (unhide HM5) hwl ?_))
          intro v5 w5 hown5 hg5 hob5
          have HEND : Hid (w5.ownsRow w.heap.size 37 4 v5 (withE L e).length ((withE L e).flatMap eC) ∧ Below w.heap.size w w5) := by
            have hb3 := (unhide HF3).2.1
            have hbd := hb3.trans ((Below.refl _ w3).drew.mono hb3.size)
            refine ⟨?_, hbd.trans ((grown_keep hg5).below hbd.size (fun y hy => by have := ((unhide HOW).lt y hy).1; omega))⟩
            rw [unhide HWE]
            have hfl : (L.flatMap eC).drop ((k + 1) * 4) = (L.drop (k + 1)).flatMap eC := flat_drop eC_len L (k + 1)
            rw [hfl] at hown5
            have hz := ownsV_low hown5 (Nat.le_succ _)
            have hlen : (L.take k ++ e :: L.drop (k + 1)).length = L.length := by simp; omega
            have hfm : (L.take k ++ e :: L.drop (k + 1)).flatMap eC = (L.take k).flatMap eC ++ (eC e ++ (L.drop (k + 1)).flatMap eC) := by rw [List.flatMap_append, List.flatMap_cons]
            rw [hlen, hfm]
            exact hz
          obtain ⟨p5, c5, rfl⟩ := ownsV_shape hown5
          clear hown5 hg5 hob5
          go_wp2_with fail
          go_ret
          exact ⟨_, rfl, unhide HEND⟩
        · obtain ⟨q, cq, hrun, hrow⟩ := unhide HCUT k hl2
          have hbe : (x.1.toList == e.1.toList) = false := beq_eq_false_iff_ne.2 (fun h => he (bl_inj h))
          have hwE := unhide HXN he
          have HWE := hide hwE
          have HROW := hide hrow
          have HOW := hide (ownsV_keep (F := fun _ => False) (unhide HF3).1 (Keep.of_below ((Below.refl _ w3).drew)) (fun _ _ => id))
          clear hwE hrow
          go_wp2_with fail
          refine region_calm (fun X => X = w3.drew) (by kernel_rfl) (by kernel_rfl) rfl ?_
          repeat (first
            | go_big_quiet_skip
            | (go_big_quiet_want
               apply Exists.intro
               refine ⟨fun w' hw' => ?_, ?_⟩
               · subst hw'
                 go_simp
                 first | done | rfl
               simp only [Act.put, List.setIfInBounds_toArray, List.set_cons_zero, List.set_cons_succ]
               go_big_quiet_on))
          refine wpQuiet_nil ?_
          intro X hX
          subst hX
          have HM4 := hide (show k + 1 + (L.length - k) ≤ maxLen by unfold maxLen; omega)
          have HM5 := hide (show (k + 1 + (L.length - k)) * 40 ≤ 140737488355328 by omega)
          go_wp2_with (first
            | (at_builtin; refine wpList_append_krow rfl _ _ 24 rfl (w.heap.size + 1) 37 ie _ Try.underlying24 hie hi0 4 40 (by omega) hi1 hi2 rfl (.slice p3 (k + 1) c3) (k + 1) ((L.take k ++ [e]).flatMap eC) rfl (unhide HOW) q (L.length - k) cq ((L.flatMap eC).drop (k * 4)) rfl (unhide HROW) (fun u hu => eC_all L u (List.mem_of_mem_drop hu)) (unhide HM4) (unhide HM5) hwl ?_))
          intro v5 w5 hown5 hg5 hob5
          have HEND : Hid (w5.ownsRow w.heap.size 37 4 v5 (withE L e).length ((withE L e).flatMap eC) ∧ Below w.heap.size w w5) := by
            have hb3 := (unhide HF3).2.1
            have hbd := hb3.trans ((Below.refl _ w3).drew.mono hb3.size)
            refine ⟨?_, hbd.trans ((grown_keep hg5).below hbd.size (fun y hy => by have := ((unhide HOW).lt y hy).1; omega))⟩
            rw [unhide HWE]
            have hfl : (L.flatMap eC).drop (k * 4) = (L.drop k).flatMap eC := flat_drop eC_len L k
            rw [hfl] at hown5
            have hz := ownsV_low hown5 (Nat.le_succ _)
            have hlen : (L.take k ++ e :: L.drop k).length = k + 1 + (L.length - k) := by simp; omega
            have hfm : (L.take k ++ e :: L.drop k).flatMap eC = (L.take k).flatMap eC ++ (eC e ++ (L.drop k).flatMap eC) := by rw [List.flatMap_append, List.flatMap_cons]
            rw [hlen, hfm]
            exact hz
          obtain ⟨p5, c5, rfl⟩ := ownsV_shape hown5
          clear hown5 hg5 hob5
          go_wp2_with fail
          go_ret
          exact ⟨_, rfl, unhide HEND⟩
    · have HKE := hide (show k = L.length by omega)
      have hge : ¬ (k : Int) < (L.length : Int) := by omega
      have hgd : ¬ k < L.length := hlt
      have hgd2 : decide (k < L.length) = false := by simp only [hgd, decide_false]
      have HK := hide (And.intro hown (And.intro hb hx))
      have HN := hide (unhide hn)
      clear hown hb hx hn hk hlt
      go_wp2_with fail
      refine region_calm (fun X => X = wr.drew) (by kernel_rfl) (by kernel_rfl) rfl ?_
      repeat (first
        | go_big_quiet_skip
        | (go_big_quiet_want
           apply Exists.intro
           refine ⟨fun w' hw' => ?_, ?_⟩
           · subst hw'
             go_simp
             first | done | rfl
           simp only [Act.put, List.setIfInBounds_toArray, List.set_cons_zero, List.set_cons_succ]
           go_big_quiet_on))
      refine wpQuiet_nil ?_
      intro W1 hX
      have HB1 := hide (show Below wr.heap.size wr W1 by rw [hX]; exact (Below.refl _ wr).drew)
      clear hX
      obtain ⟨hown, hb, hx⟩ := unhide HK
      have hb1 := unhide HB1
      have hbw := hb.trans (hb1.mono hb.size)
      have hown1 := ownsV_keep (F := fun _ => False) hown (Keep.of_below hb1) (fun _ _ => id)
      have hx1 := (hb1.block _ (Array.getElem?_eq_some_iff.1 hx).1).trans hx
      obtain ⟨y0, y1, y2, y3, _⟩ := ecells hx1
      have hba := (Below.refl W1.heap.size W1).alloc (Nat.le_refl _) (.cells #[.string e.1, .int .u64 e.2.1, .int .i64 e.2.2.1, .int .i64 e.2.2.2] 37)
      have HOWA := hide (ownsV_keep (F := fun _ => False) hown1 (Keep.of_below hba) (fun _ _ => id))
      have HNW := hide (four_new W1 (.string e.1) (.int .u64 e.2.1) (.int .i64 e.2.2.1) (.int .i64 e.2.2.2) 37)
      have hl0 := unhide HL
      have hke := unhide HKE
      have HM1 := hide (show k + 1 ≤ maxLen by unfold maxLen; omega)
      have HM2 := hide (show (k + 1) * 40 ≤ 140737488355328 by omega)
      have HM3 := hide (show w.heap.size + 1 ≤ (W1.alloc (.cells #[.string e.1, .int .u64 e.2.1, .int .i64 e.2.2.1, .int .i64 e.2.2.2] 37)).heap.size by have := (Array.getElem?_eq_some_iff.1 hx).1; have := hb1.size; rw [World.size_alloc]; omega)
      have HBX := hide (And.intro hbw (And.intro hx1 hba))
      clear hown hb hx hb1 hbw hown1 hba hx1 hke
      go_wp2_with (first
        | (at_builtin; refine wpList_append_gen rfl _ _ 24 rfl (w.heap.size + 1) 37 ie _ Try.underlying24 hie hi0 4 40 (by omega) hi1 hi2 rfl (.slice po k co) k ((L.take k).flatMap eC) rfl (unhide HOWA) ⟨W1.heap.size, 0, none⟩ 1 1 (eC e) rfl rfl (unhide HNW) (eC_one e) (unhide HM1) (unhide HM2) (unhide HM3) ?_))
      intro v3 w3 hown3 hg3 hob3
      have HFIN : Hid (w3.ownsRow (w.heap.size + 1) 37 4 v3 (k + 1) ((L.take k ++ [e]).flatMap eC) ∧ Below w.heap.size w w3 ∧ w3.heap[w.heap.size]? = some (.cells #[.string e.1, .int .u64 e.2.1, .int .i64 e.2.2.1, .int .i64 e.2.2.2] 37 (0, 0))) := by
        obtain ⟨hbw, hx, hba⟩ := unhide HBX
        have hkg := grown_keep hg3
        have hlt : ∀ y, (.slice po k co : Value).ownBlock = some y → w.heap.size + 1 ≤ y := fun y hy => ((unhide HOWA).lt y hy).1
        have hbA := hbw.trans (hba.mono hbw.size)
        refine ⟨?_, hbA.trans (hkg.below hbA.size (fun y hy => by have := hlt y hy; omega)), (hkg.block _ (by have := (Array.getElem?_eq_some_iff.1 hx).1; have := hba.size; omega) (fun hy => by have := hlt _ hy; omega)).trans ((hba.block _ (Array.getElem?_eq_some_iff.1 hx).1).trans hx)⟩
        rw [List.flatMap_append]
        simpa using hown3
      obtain ⟨y0, y1, y2, y3, _⟩ := ecells (unhide HFIN).2.2
      obtain ⟨p3, c3, rfl⟩ := ownsV_shape hown3
      have hknw : IntKind.i64.wrap ((k : Int) + 1) = (k : Int) + 1 := by have := unhide HKE; rw [IntKind.wrap_i64]; omega
      have HXN := hide (withE_at k L (by have := unhide HKE; omega) (unhide HN) (fun y hy => by rw [List.getElem?_eq_none (by have := unhide HKE; omega)] at hy; cases hy) k (Or.inr ⟨rfl, fun y hy => by rw [List.getElem?_eq_none (by have := unhide HKE; omega)] at hy; cases hy⟩))
      have HF3 := hide (unhide HFIN)
      have hl2 : k ≤ L.length := Nat.le_of_eq (unhide HKE)
      have HCUT := hide (fun (m : Nat) (hm : m ≤ L.length) => krow_cutl (P := Try.prog) Try.underlying24 (e := 37) (by kernel_rfl) (KRow.below (unhide HH) ((unhide HFIN).2.1.trans ((Below.refl _ w3).drew.mono (unhide HFIN).2.1.size))) m hm)
      have hl0 := unhide HL
      have hwl : w.heap.size + 1 ≤ w3.heap.size := (Array.getElem?_eq_some_iff.1 (unhide HFIN).2.2).1
      clear hown3 hg3 hob3
      obtain ⟨q, cq, hrun, hrow⟩ := unhide HCUT k hl2
      have hwE := unhide HXN
      have HWE := hide hwE
      have HROW := hide hrow
      have HOW := hide (ownsV_keep (F := fun _ => False) (unhide HF3).1 (Keep.of_below ((Below.refl _ w3).drew)) (fun _ _ => id))
      clear hwE hrow
      go_wp2_with fail
      refine region_calm (fun X => X = w3.drew) (by kernel_rfl) (by kernel_rfl) rfl ?_
      repeat (first
        | go_big_quiet_skip
        | (go_big_quiet_want
           apply Exists.intro
           refine ⟨fun w' hw' => ?_, ?_⟩
           · subst hw'
             go_simp
             first | done | rfl
           simp only [Act.put, List.setIfInBounds_toArray, List.set_cons_zero, List.set_cons_succ]
           go_big_quiet_on))
      refine wpQuiet_nil ?_
      intro X hX
      subst hX
      have hke := unhide HKE
      have HM4 := hide (show k + 1 + (L.length - k) ≤ maxLen by unfold maxLen; omega)
      have HM5 := hide (show (k + 1 + (L.length - k)) * 40 ≤ 140737488355328 by omega)
      clear hke
      go_wp2_with (first
        | (at_builtin; refine wpList_append_krow rfl _ _ 24 rfl (w.heap.size + 1) 37 ie _ Try.underlying24 hie hi0 4 40 (by omega) hi1 hi2 rfl (.slice p3 (k + 1) c3) (k + 1) ((L.take k ++ [e]).flatMap eC) rfl (unhide HOW) q (L.length - k) cq ((L.flatMap eC).drop (k * 4)) rfl (unhide HROW) (fun u hu => eC_all L u (List.mem_of_mem_drop hu)) (unhide HM4) (unhide HM5) hwl ?_))
      intro v5 w5 hown5 hg5 hob5
      have HEND : Hid (w5.ownsRow w.heap.size 37 4 v5 (withE L e).length ((withE L e).flatMap eC) ∧ Below w.heap.size w w5) := by
        have hb3 := (unhide HF3).2.1
        have hbd := hb3.trans ((Below.refl _ w3).drew.mono hb3.size)
        refine ⟨?_, hbd.trans ((grown_keep hg5).below hbd.size (fun y hy => by have := ((unhide HOW).lt y hy).1; omega))⟩
        rw [unhide HWE]
        have hfl : (L.flatMap eC).drop (k * 4) = (L.drop k).flatMap eC := flat_drop eC_len L k
        rw [hfl] at hown5
        have hz := ownsV_low hown5 (Nat.le_succ _)
        have hlen : (L.take k ++ e :: L.drop k).length = k + 1 + (L.length - k) := by simp; omega
        have hfm : (L.take k ++ e :: L.drop k).flatMap eC = (L.take k).flatMap eC ++ (eC e ++ (L.drop k).flatMap eC) := by rw [List.flatMap_append, List.flatMap_cons]
        rw [hlen, hfm]
        exact hz
      obtain ⟨p5, c5, rfl⟩ := ownsV_shape hown5
      clear hown5 hg5 hob5
      go_wp2_with fail
      go_ret
      exact ⟨_, rfl, unhide HEND⟩
end Go.Proofs.Ytcjepiihknjeiaa

/- The document's own answer of layer 12: Merge. -/
namespace Go.Proofs.Ytcjepiihknjeiaa
open Go.RowKit

/-- A slice of lists of entries. -/
def LR (w : World) (v : Value) (LL : List (List En)) : Prop := ∃ vs : List Value, vs.length = LL.length ∧ VRow w v vs ∧ ∀ (j : Nat) (s : Value) (l : List En), vs[j]? = some s → LL[j]? = some l → ER w s l
theorem LR.below {w w' : World} {v : Value} {LL : List (List En)} (h : LR w v LL) (hb : Below w.heap.size w w') : LR w' v LL := by
  obtain ⟨vs, h1, h2, h3⟩ := h
  exact ⟨vs, h1, h2.below hb, fun j s l hs hl => (h3 j s l hs hl).below hb⟩
theorem LR.at {w : World} {a : Option Addr} {n c : Nat} {LL : List (List En)} (h : LR w (.slice a n c) LL) (j : Nat) (hj : j < LL.length) : ∃ b off s, a = some ⟨b, off, none⟩ ∧ w.cell? ⟨b, off + j, none⟩ = some s ∧ ER w s LL[j] := by
  obtain ⟨vs, h1, h2, h3⟩ := h
  obtain ⟨b, off, c', e, _, _, hcl⟩ := h2.open (by intro e; rw [e] at h1; simp at h1; omega)
  simp only [Value.slice.injEq] at e
  obtain ⟨rfl, _, _⟩ := e
  have hv : j < vs.length := by omega
  exact ⟨b, off, vs[j], rfl, hcl j _ (List.getElem?_eq_getElem hv), h3 j _ _ (List.getElem?_eq_getElem hv) (List.getElem?_eq_getElem hj)⟩
theorem eC_flat_len : ∀ (L : List En), (L.flatMap eC).length = L.length * 4
  | [] => rfl
  | x :: L => by rw [List.flatMap_cons, List.length_append, eC_flat_len L, eC_len, List.length_cons]; omega
theorem er_of_own {w : World} {b : Nat} {v : Value} {L : List En} (h : w.ownsRow b 37 4 v L.length (L.flatMap eC)) : ER w v L := krow_of_owns h (eC_flat_len L)
theorem foldE_len : ∀ (l acc : List En), (l.foldl withE acc).length ≤ l.length + acc.length
  | [], acc => by simp
  | x :: l, acc => by
    have h1 := foldE_len l (withE acc x)
    have h2 := withE_len acc x
    simp only [List.foldl_cons, List.length_cons]
    omega
def totE (LL : List (List En)) : Nat := (LL.map List.length).sum
theorem totE_cons (l : List En) (LL : List (List En)) : totE (l :: LL) = l.length + totE LL := by simp [totE]
theorem mrgE_len : ∀ (LL : List (List En)), (mrgE LL).length ≤ totE LL
  | [] => by simp [mrgE]
  | l :: LL => by
    have h1 := foldE_len l (mrgE LL)
    have h2 := mrgE_len LL
    rw [totE_cons]
    have e : mrgE (l :: LL) = l.foldl withE (mrgE LL) := rfl
    rw [e]
    omega
theorem totE_drop : ∀ (LL : List (List En)) (m : Nat), totE (LL.drop m) ≤ totE LL
  | LL, 0 => by simp
  | [], m + 1 => by simp
  | l :: LL, m + 1 => by
    have := totE_drop LL m
    rw [totE_cons, List.drop_succ_cons]
    omega
theorem mrgE_drop {LL : List (List En)} {i : Nat} (h : i < LL.length) : mrgE (LL.drop i) = LL[i].foldl withE (mrgE (LL.drop (i + 1))) ∧ totE (LL.drop i) = LL[i].length + totE (LL.drop (i + 1)) := by
  rw [List.drop_eq_getElem_cons h]
  exact ⟨rfl, totE_cons _ _⟩
def mrgR (LL : List (List En)) : List En × Int := if 16 < LL.length then ([], 4) else if LL.all rightE = true then (mrgE LL, 0) else ([], 11)

set_option maxRecDepth 20000 in
set_option maxHeartbeats 4000000 in
theorem emerge_any (v : Value) (LL : List (List En)) (w : World) (h : LR w v LL) (hks : ∀ l ∈ LL, ∀ x ∈ l, x.1.size ≤ 140737488351232) (hl : (totE LL + 1) * 40 ≤ 140737488355328) :
    Calls Try.prog 11 #[v] w fun r w' => ∃ v', r = .returned (.tuple #[v', .int .i64 (mrgR LL).2]) ∧ w'.ownsRow w.heap.size 37 4 v' (mrgR LL).1.length ((mrgR LL).1.flatMap eC) ∧ Below w.heap.size w w' := by
  have HH := hide h
  have HKS := hide hks
  have HL := hide hl
  obtain ⟨vs, h1, h2, _⟩ := h
  obtain ⟨p, c, rfl, _⟩ := h2.shape
  rw [h1] at HH ⊢
  clear h2 h1 hks hl
  by_cases hq : 16 < (LL.length : Int)
  · have HR : Hid (mrgR LL = ([], 4)) := if_pos (by omega)
    go_enter Try.func11, Try.ntmps11
    go_wp2_with fail
    go_ret2
    rw [unhide HR]
    exact ⟨_, rfl, World.ownsRow_nil _ _ _ _, Below.refl _ _⟩
  · have hqn : ¬ 16 < LL.length := by omega
    have HRN : Hid (mrgR LL = if LL.all rightE = true then (mrgE LL, 0) else ([], 11)) := if_neg hqn
    have HQ := hide hqn
    clear hqn
    go_enter Try.func11, Try.ntmps11
    go_wp2_with fail
    go_loopw [4] (fun iv wr => ∃ k : Nat, iv = .int .i64 (k : Int) ∧ k ≤ LL.length ∧ Hid ((LL.take k).all rightE = true) ∧ Below w.heap.size w wr) (fun iv _ => LL.length - (intOf iv).toNat)
    case atStart => exact ⟨0, rfl, Nat.zero_le _, by simp [Hid], Below.refl _ _⟩
    case round =>
      obtain ⟨k, rfl, hk, hall, hb⟩ := hrel
      by_cases hlt : k < LL.length
      · have hkI : (k : Int) < (LL.length : Int) := by omega
        obtain ⟨b, off, s, rfl, hc, her⟩ := ((unhide HH).below hb).at k hlt
        have HT := hide (show (LL.take (k + 1)).all rightE = rightE LL[k] by rw [List.take_succ_eq_append_getElem hlt, List.all_append, hall.out]; simp)
        have HAF := hide (show rightE LL[k] = false → mrgR LL = ([], 11) by
          intro h
          rw [unhide HRN, if_neg (by intro hh; have := List.all_eq_true.1 hh LL[k] (List.getElem_mem hlt); rw [this] at h; cases h)])
        have HRT := hide (eright_any s LL[k] wr her (fun x hx => unhide HKS _ (List.getElem_mem hlt) x hx))
        have hknw : IntKind.i64.wrap ((k : Int) + 1) = (k : Int) + 1 := by have := unhide HQ; rw [IntKind.wrap_i64]; omega
        have HK := hide (And.intro hlt hb)
        obtain ⟨ps, pn, pc, rfl⟩ : ∃ ps pn pc, s = .slice ps pn pc := by obtain ⟨q1, q2, e, _⟩ := her.shape; exact ⟨_, _, _, e⟩
        generalize rightE LL[k] = R at *
        clear hlt hk hall hb her
        go_wp2_with fail
        refine Calls.mono (unhide HRT) ?_
        rintro e w1 ⟨rfl, b1⟩
        have HB1 := hide b1
        clear b1 hc
        cases R with
        | true =>
          go_wp2_with fail
          go_roundw
          case rel => exact ⟨k + 1, by go_num, (unhide HK).1, unhide HT, (unhide HK).2.trans ((unhide HB1).mono (unhide HK).2.size)⟩
          case measure => (have := (unhide HK).1; simp [intOf]; omega)
        | false =>
          have HF := hide (unhide HAF rfl)
          go_wp2_with fail
          go_ret2
          rw [unhide HF]
          exact ⟨_, rfl, World.ownsRow_nil _ _ _ _, (unhide HK).2.trans ((unhide HB1).mono (unhide HK).2.size)⟩
      · have hke : k = LL.length := by omega
        subst hke
        rw [List.take_length] at hall
        have HRR : Hid (mrgR LL = (mrgE LL, 0)) := (unhide HRN).trans (if_pos (unhide hall))
        have HB := hide hb
        have hnw0 : IntKind.i64.wrap ((LL.length : Int) - 1) = (LL.length : Int) - 1 := by have := unhide HQ; rw [IntKind.wrap_i64]; omega
        clear hlt hk hall hb
        go_wp2_with fail
        go_loopw [5, 6] (fun ov iv wr => ∃ m : Nat, iv = .int .i64 ((m : Int) - 1) ∧ m ≤ LL.length ∧ wr.ownsRow w.heap.size 37 4 ov (mrgE (LL.drop m)).length ((mrgE (LL.drop m)).flatMap eC) ∧ Below w.heap.size w wr) (fun _ iv _ => (intOf iv + 1).toNat)
        case atStart => exact ⟨LL.length, rfl, Nat.le_refl _, by rw [List.drop_length]; exact World.ownsRow_nil _ _ _ _, unhide HB⟩
        case round =>
          obtain ⟨m, rfl, hm, hown, hb⟩ := hrel
          by_cases hm0 : m = 0
          · subst hm0
            rw [List.drop_zero] at hown
            have HE := hide (And.intro hown hb)
            obtain ⟨po, co, rfl⟩ := ownsV_shape hown
            clear hown hb hm
            go_wp2_with fail
            go_ret2
            rw [unhide HRR]
            exact ⟨_, rfl, unhide HE⟩
          · obtain ⟨i, rfl⟩ : ∃ i, m = i + 1 := ⟨m - 1, by omega⟩
            have hlt : i < LL.length := by omega
            have hii : ((i + 1 : Nat) : Int) - 1 = (i : Int) := by omega
            obtain ⟨b, off, s, rfl, hc0, her0⟩ := (unhide HH).at i hlt
            obtain ⟨d1, d2⟩ := mrgE_drop hlt
            have htd := totE_drop LL i
            have hml := mrgE_len (LL.drop (i + 1))
            have hkl : ∀ x ∈ LL[i], x.1.size ≤ 140737488351232 := fun x hx => unhide HKS _ (List.getElem_mem hlt) x hx
            have hkm : ∀ y ∈ mrgE (LL.drop (i + 1)), y.1.size ≤ 140737488351232 := fun y hy => by
              obtain ⟨l, hl, hy2⟩ := mrg_mem _ y hy
              exact unhide HKS l (List.mem_of_mem_drop hl) y hy2
            generalize LL[i] = l at *
            generalize hMM : mrgE (LL.drop (i + 1)) = M at *
            have hl0 := unhide HL
            have HC := hide (fun (W : World) (hbW : Below w.heap.size w W) => (hbW.cell (World.block_lt_of_cell? w _ hc0)).trans hc0)
            obtain ⟨ps, pc, rfl, g1, g2, _⟩ := her0.shape
            have HSN := hide (fun (hne : 0 < l.length) => her0.seen hne)
            have HD := hide (And.intro d1 (And.intro hkl hkm))
            have HB2 := hide (show ∀ K, K < l.length → ((l.take K).foldl withE M).length + 1 ≤ totE LL ∧ ∀ y ∈ (l.take K).foldl withE M, y.1.size ≤ 140737488351232 from fun K hK => by
              have h1 := foldE_len (l.take K) M
              rw [List.length_take] at h1
              refine ⟨by omega, fun y hy => ?_⟩
              rcases fold_mem _ _ y hy with h | h
              · exact hkl y (List.mem_of_mem_take h)
              · exact hkm y h)
            have HLL := hide (show l.length ≤ 9223372036854775806 by unfold maxLen at g2; omega)
            have HLT := hide hlt
            obtain ⟨po, co, rfl⟩ := ownsV_shape hown
            have hown' := hide hown
            have HB := hide hb
            have hiI : ((i + 1 : Nat) : Int) - 1 = (i : Int) := by omega
            have hi1 : (0 : Int) ≤ (i : Int) := by omega
            have hi2 : (i : Int) < (LL.length : Int) := by omega
            rw [hiI]
            have hknw : IntKind.i64.wrap ((i : Int) - 1) = (i : Int) - 1 := by have := unhide HQ; rw [IntKind.wrap_i64]; omega
            clear hown hb hc0 her0 d1 d2 htd hml hkl hkm hl0 g1 g2 hlt hm hm0 hiI hMM
            go_wp2_with fail
            go_loopw [5, 7] (fun ov kv wk => ∃ K : Nat, kv = .int .i64 (K : Int) ∧ K ≤ l.length ∧ wk.ownsRow w.heap.size 37 4 ov ((l.take K).foldl withE M).length (((l.take K).foldl withE M).flatMap eC) ∧ Below w.heap.size w wk) (fun _ kv _ => l.length - (intOf kv).toNat)
            case atStart => exact ⟨0, rfl, Nat.zero_le _, unhide hown', unhide HB⟩
            case round =>
              obtain ⟨K, rfl, hK, hown, hb⟩ := hrel
              have hcs := unhide HC wr hb
              by_cases hlt : K < l.length
              · have hKI : (K : Int) < (l.length : Int) := by omega
                obtain ⟨b3, o3, c3, e3, _, _, hsn⟩ := unhide HSN (by omega)
                simp only [Value.slice.injEq] at e3
                obtain ⟨rfl, _, rfl⟩ := e3
                obtain ⟨x, hxk⟩ : ∃ x, l[K]? = some x := ⟨_, List.getElem?_eq_getElem hlt⟩
                obtain ⟨y0, y1, y2, y3⟩ := hsn K x hxk wr hb
                have HT := hide (show (l.take (K + 1)).foldl withE M = withE ((l.take K).foldl withE M) x by
                  have hx : l[K] = x := by rw [List.getElem?_eq_getElem hlt] at hxk; exact Option.some.inj hxk
                  rw [List.take_succ_eq_append_getElem hlt, List.foldl_append, hx]
                  rfl)
                obtain ⟨z1, z2⟩ := unhide HB2 K hlt
                have hll := unhide HL
                have HW := hide (ewith_any _ _ x wr (er_of_own hown) z2 (by omega))
                have HK := hide (And.intro hlt hb)
                have hknw2 : IntKind.i64.wrap ((K : Int) + 1) = (K : Int) + 1 := by have := unhide HLL; rw [IntKind.wrap_i64]; omega
                generalize (l.take K).foldl withE M = A at *
                obtain ⟨pa, ca, rfl⟩ := ownsV_shape hown
                unfold eV at HW
                clear hown hb hsn hxk hK hlt z1 z2 hll
                go_wp2_with fail
                refine Calls.mono (unhide HW) ?_
                rintro r w5 ⟨v5, rfl, hown5, b5⟩
                have H5 := hide (And.intro hown5 b5)
                obtain ⟨p5, c5, rfl⟩ := ownsV_shape hown5
                clear hown5 b5 hcs y0 y1 y2 y3
                go_wp2_with fail
                go_roundw
                case rel =>
                  obtain ⟨h1, h2⟩ := unhide HK
                  exact ⟨K + 1, by go_num, h1, by rw [unhide HT]; exact ownsV_low (unhide H5).1 h2.size, h2.trans ((unhide H5).2.mono h2.size)⟩
                case measure => (have := (unhide HK).1; simp [intOf]; omega)
              · have hke : K = l.length := by omega
                subst hke
                rw [List.take_length, ← (unhide HD).1] at hown
                have HE := hide (And.intro hown hb)
                obtain ⟨pa, ca, rfl⟩ := ownsV_shape hown
                clear hown hb hK hlt
                go_wp2_with fail
                go_roundw
                case rel => exact ⟨i, by go_num, Nat.le_of_lt (unhide HLT), (unhide HE).1, (unhide HE).2⟩
                case measure => simp [intOf]
end Go.Proofs.Ytcjepiihknjeiaa
