/- Texts of ours, one behind the other: PlOwn6, PlOwn7, PlOwn8. -/
import Derived.Test.YtjkkdijoogiipaaG12
import Derived.Test.YtjkkdijoogiipaaG20
import Derived.Test.YtjkkdijoogiipaaG22
import Derived.Laws.OwnMore
/- Package plain as landed: carried. -/
namespace Go.Proofs.Ytjkkdijoogiipaa
open Go.RowKit

theorem insert_any (v : Value) (n i base vb : Nat) (xs : List Value) (u1 u2 : Value) (w : World) (hown : w.ownsRow base 34 2 v n xs) (h1 : ∀ u ∈ xs, u.oneCell' = true) (hi : i ≤ n) (hv : w.heap[vb]? = some (.cells #[u1, u2] 34 (0, 0))) (o1 : u1.oneCell' = true) (o2 : u2.oneCell' = true)
    (hroom : (n + 1) * 40 ≤ 140737488355328) (hbase : base ≤ w.heap.size) (hvb : v.ownBlock ≠ some vb) :
    Calls Try.prog 40 #[v, .int .i64 (i : Int), .slice (some ⟨vb, 0, none⟩) 1 1] w fun e w' => ∃ v', e = .returned v' ∧ w'.ownsRow base 34 2 v' (n + 1) (xs.take (i * 2) ++ [u1, u2] ++ xs.drop (i * 2)) ∧ Below base w w' := by
  by_cases hin : i = n
  · subst hin
    refine (ins_end v i base vb xs u1 u2 w hown hv o1 o2 hroom hbase).mono ?_
    rintro e w' ⟨v', rfl, ho, hb⟩
    refine ⟨v', rfl, ?_, hb⟩
    rw [List.take_of_length_le (by rw [hown.1]; omega), List.drop_eq_nil_of_le (by rw [hown.1]; omega), List.append_nil]
    exact ho
  · rcases hown.2 with ⟨_, h0⟩ | ⟨g, cap, cur, rfl, hb, hg, hn, hc, hs, hx⟩
    · omega
    · by_cases hr : n + 1 ≤ cap
      · refine (ins_room g n cap i base vb cur xs u1 u2 w hb hg hr hc hs hx h1 (by omega) hv o1 o2 (fun e => hvb (by rw [e]; rfl))).mono ?_
        rintro e w' ⟨rfl, ho, hb'⟩
        exact ⟨_, rfl, ho, hb'⟩
      · obtain rfl : cap = n := by omega
        exact ins_grow g cap i base vb cur xs u1 u2 w hbase hg hs hx h1 (by omega) hv o1 o2 hroom
/-- One operation, on things in memory. -/
def oneE (L : List El) (x : El) : List El :=
  if ((pdat L)[plc (pdat L) x.1.key.toList]?).any (fun y => decide (kP y = x.1.key.toList)) then
    (if x.1.del then L.take (plc (pdat L) x.1.key.toList) ++ L.drop (plc (pdat L) x.1.key.toList + 1) else L.take (plc (pdat L) x.1.key.toList) ++ x :: L.drop (plc (pdat L) x.1.key.toList + 1))
  else if x.1.del then L else L.take (plc (pdat L) x.1.key.toList) ++ x :: L.drop (plc (pdat L) x.1.key.toList)
theorem oneE_dat (L : List El) (x : El) : pdat (oneE L x) = oneD (pdat L) (datOf x) := by
  unfold oneE oneD datOf
  simp only
  split
  · split <;> simp [pdat, List.map_take, List.map_drop]
  · split <;> simp [pdat, List.map_take, List.map_drop]
theorem oneE_mem (L : List El) (x y : El) (h : y ∈ oneE L x) : y ∈ L ∨ y = x := by
  unfold oneE at h
  split at h
  · split at h
    · rcases List.mem_append.1 h with h | h
      · exact Or.inl (List.mem_of_mem_take h)
      · exact Or.inl (List.mem_of_mem_drop h)
    · rcases List.mem_append.1 h with h | h
      · exact Or.inl (List.mem_of_mem_take h)
      · rcases List.mem_cons.1 h with h | h
        · exact Or.inr h
        · exact Or.inl (List.mem_of_mem_drop h)
  · split at h
    · exact Or.inl h
    · rcases List.mem_append.1 h with h | h
      · exact Or.inl (List.mem_of_mem_take h)
      · rcases List.mem_cons.1 h with h | h
        · exact Or.inr h
        · exact Or.inl (List.mem_of_mem_drop h)
theorem el_of_owns {w : World} {base : Nat} {v : Value} {L : List El} (h : w.ownsRow base 34 2 v L.length (elC prC L)) (hr : ∀ y ∈ L, Row w (vof y.1) y.2) : EL 2 prC w v L := ⟨krow_of_owns h (elC_len prC_len L), hr⟩
theorem prC_set (L : List El) (a : Nat) (h : a < L.length) (x : El) (hk : L[a].1.key = x.1.key) : (elC prC L).set (a * 2 + 1) (vof x.1) = elC prC (L.take a ++ x :: L.drop (a + 1)) := by
  induction L generalizing a with
  | nil => simp at h
  | cons p L ih =>
    cases a with
    | zero =>
      simp only [List.getElem_cons_zero] at hk
      simp [elC, prC, hk, vof]
    | succ a =>
      have := ih a (by simpa using h) (by simpa using hk)
      simp only [List.take_succ_cons, List.drop_succ_cons, List.cons_append]
      simp only [elC, List.flatMap_cons] at this ⊢
      rw [← this]
      have e1 : (a + 1) * 2 + 1 = (prC p.1).length + (a * 2 + 1) := by simp [prC]; omega
      rw [e1, List.set_append_right _ _ (Nat.le_add_right _ _), Nat.add_sub_cancel_left]
end Go.Proofs.Ytjkkdijoogiipaa

/- Package plain as landed: carried. -/
namespace Go.Proofs.Ytjkkdijoogiipaa
open Go.RowKit

set_option maxRecDepth 20000 in
set_option maxHeartbeats 4000000 in
theorem carried_any (v : Value) (L : List El) (x : El) (base : Nat) (w : World) (hown : w.ownsRow base 34 2 v L.length (elC prC L)) (hr : ∀ y ∈ L, Row w (vof y.1) y.2) (hsp : SP (pdat L)) (hroom : (L.length + 1) * 40 ≤ 140737488355328) (hbase : base ≤ w.heap.size) :
    Calls Try.prog 30 #[v, .agg (opA x.1)] w fun e w' => ∃ v', e = .returned v' ∧ w'.ownsRow base 34 2 v' (oneE L x).length (elC prC (oneE L x)) ∧ Below base w w' := by
  obtain ⟨⟨ak, ap, an, ac, ad⟩, av⟩ := x
  have hle := plc_le (pdat L) ak.toList
  rw [pdat_len] at hle
  have hel := el_of_owns hown hr
  have hone := elC_one_cell (L := L) prC_one
  obtain ⟨W1, hW1⟩ : ∃ W1, W1 = w.alloc (.cells #[.string ak, .slice ap an ac, .bool ad] 45) := ⟨_, rfl⟩
  have hb1 : Below w.heap.size w W1 := by rw [hW1]; exact (Below.refl _ _).alloc (Nat.le_refl _) _
  have hn1 : W1.cell? ⟨w.heap.size, 0, none⟩ = some (.string ak) ∧ W1.cell? ⟨w.heap.size, 1, none⟩ = some (.slice ap an ac) ∧ W1.cell? ⟨w.heap.size, 2, none⟩ = some (.bool ad) := by rw [hW1]; simp
  have hFD := find_any v L ak W1 (hel.below hb1) hsp (by omega)
  obtain ⟨p, c, hve, hnc, hcm⟩ : ∃ p c, v = .slice p L.length c ∧ L.length ≤ c ∧ (c : Int) ≤ 9223372036854775807 := by
    obtain ⟨p, c, e, a1, a2, _⟩ := hel.shape
    unfold maxLen at a2
    exact ⟨p, c, e, a1, by omega⟩
  have hEq : ∀ is, ((pdat L)[plc (pdat L) ak.toList]?).any (fun y => decide (kP y = ak.toList)) = is → oneE L (⟨ak, ap, an, ac, ad⟩, av) = if is then (if ad then L.take (plc (pdat L) ak.toList) ++ L.drop (plc (pdat L) ak.toList + 1) else L.take (plc (pdat L) ak.toList) ++ (⟨ak, ap, an, ac, ad⟩, av) :: L.drop (plc (pdat L) ak.toList + 1)) else if ad then L else L.take (plc (pdat L) ak.toList) ++ (⟨ak, ap, an, ac, ad⟩, av) :: L.drop (plc (pdat L) ak.toList) := by
    intro is e
    unfold oneE
    rw [← e]
  have hisE : ((pdat L)[plc (pdat L) ak.toList]?).any (fun y => decide (kP y = ak.toList)) = true → ∃ h : plc (pdat L) ak.toList < L.length, L[plc (pdat L) ak.toList].1.key = ak := by
    intro e
    by_cases h : plc (pdat L) ak.toList < L.length
    · rw [List.getElem?_eq_getElem (by rw [pdat_len]; exact h), pdat_get L _ h] at e
      simp only [Option.any_some, decide_eq_true_eq] at e
      exact ⟨h, bl_inj e⟩
    · rw [List.getElem?_eq_none (by rw [pdat_len]; omega)] at e
      cases e
  generalize ((pdat L)[plc (pdat L) ak.toList]?).any (fun y => decide (kP y = ak.toList)) = is at *
  have hEq := hEq is rfl
  generalize plc (pdat L) ak.toList = N at *
  have HFD := hide hFD
  have HW1 := hide hW1
  have HC1 := hide (fun W (hW : Below W1.heap.size W1 W) => show W.cell? ⟨w.heap.size, 0, none⟩ = some (.string ak) ∧ W.cell? ⟨w.heap.size, 1, none⟩ = some (.slice ap an ac) ∧ W.cell? ⟨w.heap.size, 2, none⟩ = some (.bool ad) from ⟨(hW.cell (World.block_lt_of_cell? W1 _ hn1.1)).trans hn1.1, (hW.cell (World.block_lt_of_cell? W1 _ hn1.2.1)).trans hn1.2.1, (hW.cell (World.block_lt_of_cell? W1 _ hn1.2.2)).trans hn1.2.2⟩)
  have HB1 := hide (fun W (hW : Below W1.heap.size W1 W) => hb1.trans (hW.mono hb1.size))
  obtain ⟨a1, a2, a3⟩ := hn1
  unfold opA
  simp only at *
  cases is with
  | true =>
    obtain ⟨hN, hkey⟩ := hisE rfl
    cases ad with
    | true =>
      -- the pair is taken out
      rw [hEq]
      simp only [if_true]
      have hDL : ∀ W, Below w.heap.size w W → Calls Try.prog 39 #[v, .int .i64 (N : Int), .int .i64 ((N : Int) + 1)] W fun e w' => ∃ g q c', e = .returned (.slice (some ⟨g, 0, none⟩) q c') ∧ w'.ownsRow base 34 2 (.slice (some ⟨g, 0, none⟩) q c') (L.take N ++ L.drop (N + 1)).length (elC prC (L.take N ++ L.drop (N + 1))) ∧ Below base w w' := by
        intro W hW
        have ho := owns_below4 hown hW
        rcases ho.2 with ⟨_, h0⟩ | ⟨g, cap, cur, e, hb, hg, hn, hc, hs, hx⟩
        · omega
        · rw [e]
          have hd := del_any g L.length cap N (N + 1) (L.length - 1) base cur (elC prC L) W hb hg hn hc hs hx hone hN rfl (by omega)
          rw [show ((N + 1 : Nat) : Int) = (N : Int) + 1 by omega] at hd
          refine hd.mono ?_
          rintro e w' ⟨rfl, ho', hb'⟩
          refine ⟨_, _, _, rfl, ?_, (hW.mono hbase).trans hb'⟩
          have hlen : (L.take N ++ L.drop (N + 1)).length = L.length - 1 := by rw [List.length_append, List.length_take, List.length_drop]; omega
          rw [hlen, elC_app, ← elC_take prC_len L N hle, ← elC_drop prC_len L (N + 1) (by omega)]
          exact ho'
      have HDL := hide hDL
      subst hve
      have w1 : IntKind.i64.wrap ((N : Int) + 1) = (N : Int) + 1 := by rw [IntKind.wrap_i64]; omega
      generalize elC prC (L.take N ++ L.drop (N + 1)) = XS at *
      generalize (L.take N ++ L.drop (N + 1)).length = LL at *
      clear hEq hisE hFD hW1 hb1 hown hr hsp hroom hel hone hle hnc hDL hkey hN
      go_enter Try.func30, Try.ntmps30
      go_wp2_with fail
      rw [← unhide HW1]
      refine Calls.mono (unhide HFD) ?_
      rintro e w2 ⟨rfl, hb2⟩
      have HB2 := hide hb2
      obtain ⟨c0, c1, c2⟩ := unhide HC1 _ hb2
      clear hb2
      go_wp2_with fail
      refine Calls.mono (unhide HDL _ (unhide HB1 _ (unhide HB2))) ?_
      rintro e w3 ⟨g, q, c', rfl, ho3, hb3⟩
      have HZ := hide (And.intro ho3 hb3)
      clear ho3 hb3
      go_wp2
      go_ret
      exact ⟨_, rfl, (unhide HZ).1, (unhide HZ).2⟩
    | false =>
      rw [hEq]
      simp only [if_true, Bool.false_eq_true, if_false]
      have hLen : (L.take N ++ (⟨ak, ap, an, ac, false⟩, av) :: L.drop (N + 1)).length = L.length := by rw [List.length_append, List.length_take, List.length_cons, List.length_drop]; omega
      obtain ⟨g, cap, hve2, hbg⟩ : ∃ g cap, v = .slice (some ⟨g, 0, none⟩) L.length cap ∧ base ≤ g := by
        rcases hown.2 with ⟨_, h0⟩ | ⟨g, cap, cur, e, hb, hg, hn, hc, hs, hx⟩
        · omega
        · exact ⟨g, cap, e, hb⟩
      have HST : Hid (∀ W, Below w.heap.size w W → (W.setCell ⟨g, N * 2 + 1, none⟩ (.slice ap an ac)).ownsRow base 34 2 v (L.take N ++ (⟨ak, ap, an, ac, false⟩, av) :: L.drop (N + 1)).length (elC prC (L.take N ++ (⟨ak, ap, an, ac, false⟩, av) :: L.drop (N + 1))) ∧ Below base w (W.setCell ⟨g, N * 2 + 1, none⟩ (.slice ap an ac)) ∧ (∃ u, W.cell? ⟨g, N * 2 + 1, none⟩ = some u) ∧ W.frozen? ⟨g, N * 2 + 1, none⟩ = false) := by
        intro W hW
        have ho := owns_below4 hown hW
        rw [hve2] at ho
        have hst := (ho.stored (N * 2 + 1) (.slice ap an ac)).1
        rw [hLen, ← prC_set L N hN (⟨ak, ap, an, ac, false⟩, av) hkey, hve2]
        refine ⟨hst, (hW.mono hbase).setCell hbg _, ?_⟩
        rcases ho.2 with ⟨e, _⟩ | ⟨g', cap', cur, e, hb, hg, hn, hc, hs, hx⟩
        · cases e
        · simp only [Value.slice.injEq, Option.some.injEq, Addr.mk.injEq, and_true, true_and] at e
          obtain ⟨rfl, rfl⟩ := e
          have := cell_of_heap hg (N * 2 + 1) (by omega)
          exact ⟨⟨_, this.1⟩, this.2⟩
      have hNl : (N : Int) < (L.length : Int) := by omega
      subst hve2
      generalize elC prC (L.take N ++ (⟨ak, ap, an, ac, false⟩, av) :: L.drop (N + 1)) = XS at *
      generalize (L.take N ++ (⟨ak, ap, an, ac, false⟩, av) :: L.drop (N + 1)).length = LL at *
      clear hEq hisE hFD hW1 hb1 hown hr hsp hroom hel hone hle hnc hkey hN hLen hve hcm
      generalize L.length = l at *
      go_enter Try.func30, Try.ntmps30
      go_wp2_with fail
      rw [← unhide HW1]
      refine Calls.mono (unhide HFD) ?_
      rintro e w2 ⟨rfl, hb2⟩
      have HB2 := hide hb2
      obtain ⟨c0, c1, c2⟩ := unhide HC1 _ hb2
      obtain ⟨s1, s2, ⟨u9, s3⟩, s4⟩ := unhide HST _ (unhide HB1 _ hb2)
      have HZ := hide (And.intro s1 s2)
      clear hb2 s1 s2
      go_wp2
      go_ret
      exact ⟨_, rfl, (unhide HZ).1, (unhide HZ).2⟩
  | false =>
    cases ad with
    | true =>
      rw [hEq]
      subst hve
      have HOW := hide hown
      clear hEq hisE hFD hW1 hb1 hown hr hsp hroom hel hone hle hnc
      go_enter Try.func30, Try.ntmps30
      go_wp2_with fail
      rw [← unhide HW1]
      refine Calls.mono (unhide HFD) ?_
      rintro e w2 ⟨rfl, hb2⟩
      have HB2 := hide hb2
      obtain ⟨c0, c1, c2⟩ := unhide HC1 _ hb2
      clear hb2
      go_wp2
      go_ret
      have h9 := unhide HB1 _ (unhide HB2)
      exact ⟨_, rfl, owns_below4 (unhide HOW) h9, h9.mono hbase⟩
    | false =>
      rw [hEq]
      simp only [Bool.false_eq_true, if_false]
      have hIN : ∀ W, Below w.heap.size w W → Calls Try.prog 40 #[v, .int .i64 (N : Int), .slice (some ⟨W.heap.size, 0, none⟩) 1 1] (W.alloc (.cells #[.string ak, .slice ap an ac] 34)) fun e w' => ∃ p' c', e = .returned (.slice p' (L.length + 1) c') ∧ w'.ownsRow base 34 2 (.slice p' (L.length + 1) c') (L.take N ++ (⟨ak, ap, an, ac, false⟩, av) :: L.drop N).length (elC prC (L.take N ++ (⟨ak, ap, an, ac, false⟩, av) :: L.drop N)) ∧ Below base w w' := by
        intro W hW
        have hWa := hW.alloc hW.size (.cells #[.string ak, .slice ap an ac] 34)
        have ho := owns_below4 hown hWa
        refine (insert_any v L.length N base W.heap.size (elC prC L) (.string ak) (.slice ap an ac) _ ho hone hle (heap_alloc_new _ _) rfl rfl hroom (Nat.le_trans hbase hWa.size) (fun e => ?_)).mono ?_
        · have := (hown.lt _ e).2
          have := hW.size
          omega
        · rintro e w' ⟨v', rfl, ho', hb'⟩
          have hlen : (L.take N ++ (⟨ak, ap, an, ac, false⟩, av) :: L.drop N).length = L.length + 1 := by rw [List.length_append, List.length_take, List.length_cons, List.length_drop]; omega
          have hsh : ∃ p' c', v' = .slice p' (L.length + 1) c' := by
            rcases ho'.2 with ⟨_, h0⟩ | ⟨g', cap', cur, h', _⟩
            · omega
            · exact ⟨_, _, h'⟩
          obtain ⟨p', c', rfl⟩ := hsh
          refine ⟨p', c', rfl, ?_, (hWa.mono hbase).trans hb'⟩
          rw [hlen, elC_app, ← elC_take prC_len L N hle]
          have e9 : elC prC ((⟨ak, ap, an, ac, false⟩, av) :: L.drop N) = [.string ak, .slice ap an ac] ++ (elC prC L).drop (N * 2) := by
            rw [elC_drop prC_len L N hle]
            rfl
          rw [e9, ← List.append_assoc]
          exact ho'
      have HIN := hide hIN
      subst hve
      generalize elC prC (L.take N ++ (⟨ak, ap, an, ac, false⟩, av) :: L.drop N) = XS at *
      generalize (L.take N ++ (⟨ak, ap, an, ac, false⟩, av) :: L.drop N).length = LL at *
      clear hEq hisE hFD hW1 hb1 hown hr hsp hroom hel hone hle hnc hIN
      go_enter Try.func30, Try.ntmps30
      go_wp2_with fail
      rw [← unhide HW1]
      refine Calls.mono (unhide HFD) ?_
      rintro e w2 ⟨rfl, hb2⟩
      have HB2 := hide hb2
      obtain ⟨c0, c1, c2⟩ := unhide HC1 _ hb2
      clear hb2
      go_wp2_with fail
      refine Calls.mono (unhide HIN _ (unhide HB1 _ (unhide HB2))) ?_
      rintro e w3 ⟨p', c', rfl, ho3, hb3⟩
      have HZ := hide (And.intro ho3 hb3)
      clear ho3 hb3
      go_wp2
      go_ret
      exact ⟨_, rfl, (unhide HZ).1, (unhide HZ).2⟩
end Go.Proofs.Ytjkkdijoogiipaa

/- Package plain as landed: Do. -/
namespace Go.Proofs.Ytjkkdijoogiipaa
open Go.RowKit

theorem empty_pr (w : World) (e size : Nat) : (w.alloc (.cells #[] e)).ownsRow w.heap.size e size (.slice (some ⟨w.heap.size, 0, none⟩) 0 0) 0 [] :=
  ⟨by simp, Or.inr ⟨w.heap.size, 0, #[], rfl, Nat.le_refl _, heap_alloc_new _ _, Nat.le_refl _, Nat.zero_le _, by simp, by simp⟩⟩
set_option maxRecDepth 20000 in
set_option maxHeartbeats 2000000 in
theorem prclone_any (v : Value) (L : List El) (w : World) (h : EL 2 prC w v L) (hroom : L.length * 40 ≤ 140737488355328) :
    Calls Try.prog 29 #[v] w fun e w' => ∃ p c, e = .returned (.slice p L.length c) ∧ w'.ownsRow w.heap.size 34 2 (.slice p L.length c) L.length (elC prC L) ∧ Below w.heap.size w w' := by
  obtain ⟨is, his, hs0, hs1, hs2⟩ := info_parts Try.info34
  obtain ⟨p, cap, rfl, k1, k2, k3⟩ := h.shape
  cases p with
  | none =>
    have hc := k3 rfl
    have hL : L = [] := List.eq_nil_of_length_eq_zero (by omega)
    subst hL
    subst hc
    have he : ∀ W : World, (binOp .eql 22 (.slice none 0 0) (.slice none 0 0)).run Try.prog W = .ok (.bool true) W := fun W => by rfl
    simp only [List.length_nil]
    go_enter Try.func29, Try.ntmps29
    go_wp2
    go_ret
    exact ⟨none, 0, rfl, World.ownsRow_nil _ _ _ _, Below.refl _ _⟩
  | some ad =>
    have he : ∀ W : World, (binOp .eql 22 (.slice (some ad) L.length cap) (.slice none 0 0)).run Try.prog W = .ok (.bool false) W := fun W => by rfl
    have HN : Hid (∀ j u, (elC prC L)[j]? = some u → (w.alloc (.cells #[] 34)).cell? (ad.add j) = some u) := fun j u hu => by
      have hj := (List.getElem?_eq_some_iff.1 hu).1
      rw [elC_len prC_len] at hj
      obtain ⟨b, off, cap', e, _, _, hc⟩ := h.1.open (by omega)
      simp only [Value.slice.injEq, Option.some.injEq] at e
      rw [e.1, Addr.add_lit]
      have := hc j u hu
      exact (World.cell?_of_block (w := w) (Below.heap_alloc _ _ _ (World.block_lt_of_cell? w _ this))).trans this
    have HO := hide (empty_pr w 34 2)
    have HS1 : Hid (0 + L.length ≤ maxLen) := by unfold Hid; omega
    have HS2 : Hid ((0 + L.length) * 40 ≤ 140737488355328) := by unfold Hid; omega
    have HL := hide (elC_len prC_len L)
    clear h hroom k1 k2 k3
    go_enter Try.func29, Try.ntmps29
    go_wp2_with (first
      | (with_reducible show wpList _ _ _ (Oper.mk _ (Op.call _) _ _ _ _ :: _) _ _; refine wpList_append_gen rfl _ _ 22 rfl w.heap.size 34 is (.agg #[.string ⟨#[]⟩, .slice none 0 0]) Try.underlying22 his hs0 2 40 (by omega) hs1 hs2 rfl (.slice (some ⟨w.heap.size, 0, none⟩) 0 0) 0 [] rfl (unhide HO) ad L.length cap (elC prC L) rfl (unhide HL) (unhide HN) (elC_one_cell prC_one L) (unhide HS1) (unhide HS2) (by simp) ?_))
    intro v' w' hown hgrow hob
    have HB := hide (((Below.refl w.heap.size w).alloc (Nat.le_refl _) (.cells #[] 34)).grown hgrow (by simp) (fun k hk => by cases hk; exact Nat.le_refl _))
    have HOW := hide hown
    have hsh : ∃ p c, v' = .slice p L.length c := by
      rcases hown.2 with ⟨h', h0⟩ | ⟨g', cap', cur, h', _⟩
      · exact ⟨none, 0, by rw [h', h0]⟩
      · exact ⟨_, _, h'⟩
    obtain ⟨p, c, rfl⟩ := hsh
    clear hown hgrow hob
    go_wp2
    go_ret
    exact ⟨p, c, rfl, unhide HOW, unhide HB⟩
theorem owns_shape {w : World} {base e sz : Nat} {v : Value} {n : Nat} {xs : List Value} (h : w.ownsRow base e sz v n xs) : ∃ p c, v = .slice p n c := by
  rcases h.2 with ⟨h', h0⟩ | ⟨g', cap', cur, h', _⟩
  · exact ⟨none, 0, by rw [h', h0]⟩
  · exact ⟨_, _, h'⟩
/-- What Do answers. -/
def doE (l : List Pd) (ops : List Dat) : Int := if rightD l then chkE ops else 11

set_option maxRecDepth 20000 in
set_option maxHeartbeats 4000000 in
theorem pdo_any (v1 v2 : Value) (L M : List El) (w : World) (h1 : EL 2 prC w v1 L) (h2 : EL 3 opC w v2 M) (hroom : (L.length + 32) * 40 ≤ 140737488355328) (hv1 : ∀ x ∈ L, x.2.length ≤ 140737488351232) (hv2 : ∀ x ∈ M, x.2.length ≤ 140737488351232) (hks : ∀ x ∈ M, x.1.key.size ≤ 140737488351232) :
    Calls Try.prog 17 #[v1, v2] w fun e w' => ∃ v' L', e = .returned (.tuple #[v', .int .i64 (doE (pdat L) (dat M))]) ∧ pdat L' = (if doE (pdat L) (dat M) = 0 then doD (pdat L) (dat M) else []) ∧ OO 34 2 prC w' w.heap.size v' L' ∧ Below w.heap.size w w' := by
  have HCK := hide (pcheck_any v1 L w h1)
  have HBC := hide (fun W hW => bcheck_any v2 M W (h2.below hW) hks)
  cases hR : rightD (pdat L) with
  | false =>
    have hE : doE (pdat L) (dat M) = 11 := by unfold doE; rw [hR]; rfl
    rw [hE]
    rw [hR] at HCK
    obtain ⟨p1, c1, rfl, _⟩ := h1.shape
    obtain ⟨p2, c2, rfl, _⟩ := h2.shape
    clear h1 h2 hE
    go_enter Try.func17, Try.ntmps17
    go_wp2_with (go_at_call 12; refine Calls.mono (unhide HCK) ?_; rintro e w2 ⟨rfl, hb2⟩; have HB2 := hide hb2; clear hb2)
    go_ret2
    exact ⟨_, rfl, [], rfl, OO.nil _ _ _ _ _, unhide HB2⟩
  | true =>
    rw [hR] at HCK
    have hE : doE (pdat L) (dat M) = chkE (dat M) := by unfold doE; rw [hR]; rfl
    rw [hE]
    by_cases hz : chkE (dat M) = 0
    · rw [hz] at HBC ⊢
      simp only [if_true]
      have hM32 : M.length ≤ 32 := by
        unfold chkE at hz
        rw [dat_len] at hz
        split at hz
        · cases hz
        · split at hz
          · cases hz
          · split at hz
            · cases hz
            · omega
      have hM0 : 0 < M.length := by
        unfold chkE at hz
        rw [dat_len] at hz
        split at hz
        · cases hz
        · omega
      have hsp := SP.of hR
      have HCL := hide (fun W hW => prclone_any v1 L W (h1.below hW) (by omega))
      obtain ⟨p1, c1, rfl, _⟩ := h1.shape
      obtain ⟨b2, o2, c2, rfl, k1, k2, hsn⟩ := h2.seen hM0
      unfold maxLen at k2
      have HSN := hide hsn
      obtain ⟨l, hl⟩ : ∃ l, l = M.length := ⟨_, rfl⟩
      rw [← hl] at k1 HBC ⊢
      have hl0 : (l : Int) ≤ 32 := by omega
      have HF := hide (And.intro hl (And.intro hM32 (And.intro hsp (And.intro hroom (And.intro hv1 (And.intro hv2 (And.intro h1.2 h2.2)))))))
      obtain ⟨n1, hn1⟩ : ∃ n1, n1 = L.length := ⟨_, rfl⟩
      rw [← hn1] at HCK HCL ⊢
      clear hn1
      clear h1 h2 hE hz hR hM32 hM0 hsp hsn hl hroom hv1 hv2 hks k1 k2
      go_enter Try.func17, Try.ntmps17
      go_wp2_with fail
      refine Calls.mono (unhide HCK) ?_
      rintro e w2 ⟨rfl, hb2⟩
      have HB2 := hide hb2
      clear hb2
      go_wp2_with fail
      refine Calls.mono (unhide HBC _ (unhide HB2)) ?_
      rintro e w3 ⟨rfl, hb3⟩
      have HB3 := hide ((unhide HB2).trans (hb3.mono (unhide HB2).size))
      clear hb3
      go_wp2_with fail
      refine Calls.mono (unhide HCL _ (unhide HB3)) ?_
      rintro e w4 ⟨p4, c4, rfl, ho4, hb4⟩
      have HB4 := hide ((unhide HB3).trans (hb4.mono (unhide HB3).size))
      have HO4 := hide ho4
      clear hb4 ho4
      go_wp2
      go_loopw [8, 25] (fun dv i wr => ∃ (k m : Nat) (p : Option Addr) (c : Nat) (Lk : List El), k ≤ l ∧ i = .int .i64 k ∧ dv = .slice p m c ∧ Hid (m = Lk.length ∧ pdat Lk = doD (pdat L) ((dat M).take k) ∧ wr.ownsRow w.heap.size 34 2 (.slice p m c) Lk.length (elC prC Lk) ∧ (∀ y ∈ Lk, Row w (vof y.1) y.2 ∧ y.2.length ≤ 140737488351232) ∧ Below w.heap.size w wr)) (fun _ i _ => l - (intOf i).toNat)
      case atStart =>
        obtain ⟨_, _, _, _, hv1, _, hr1, _⟩ := unhide HF
        have h9 := unhide HO4
        have hn1 : n1 = L.length := by
          have := h9.1
          rw [elC_len prC_len] at this
          omega
        rw [hn1] at h9 ⊢
        exact ⟨0, _, _, _, L, Nat.zero_le _, rfl, rfl, rfl, by simp [doD], owns_base h9 (unhide HB3).size, fun y hy => ⟨hr1 y hy, hv1 y hy⟩, unhide HB4⟩
      case round =>
        obtain ⟨k, m, p, c, Lk, hk, rfl, rfl, hst⟩ := hrel
        obtain ⟨hm, hd, ho, hrw, hb⟩ := unhide hst
        obtain ⟨hl, hM32, hsp, hroom, hv1, hv2, hr1, hr2⟩ := unhide HF
        by_cases hlt : (k : Int) < (l : Int)
        · have hkM : k < M.length := by omega
          obtain ⟨a1, a2, a3, _⟩ := unhide HSN k hkM wr hb
          have hLk : Lk.length ≤ L.length + k := by
            rw [← pdat_len Lk, hd]
            have := doD_len (pdat L) ((dat M).take k)
            rw [pdat_len, List.length_take, dat_len] at this
            omega
          have hdk : doD (pdat L) ((dat M).take (k + 1)) = oneD (pdat Lk) (datOf M[k]) := by
            rw [List.take_succ_eq_append_getElem (by rw [dat_len]; exact hkM), doD_snoc, ← hd, dat_get M k hkM]
            rfl
          have hspk : SP (pdat Lk) := by rw [hd]; exact (doD_all hsp _).1
          have hx2 := hv2 _ (List.getElem_mem hkM)
          have hxr := hr2 _ (List.getElem_mem hkM)
          have HCR := hide (fun W (hW : Below wr.heap.size wr W) => carried_any (.slice p m c) Lk M[k] w.heap.size W (owns_below4 ho hW) (fun y hy => (hrw y hy).1.below (hb.trans (hW.mono hb.size))) hspk (by omega) (Nat.le_trans hb.size hW.size))
          have HNW : Hid (∀ (v' : Value) (w' : World), w'.ownsRow w.heap.size 34 2 v' (oneE Lk M[k]).length (elC prC (oneE Lk M[k])) → pdat (oneE Lk M[k]) = doD (pdat L) ((dat M).take (k + 1)) ∧ (∀ y ∈ oneE Lk M[k], Row w (vof y.1) y.2 ∧ y.2.length ≤ 140737488351232)) := by
            intro v' w' _
            refine ⟨by rw [oneE_dat, hdk], fun y hy => ?_⟩
            rcases oneE_mem Lk M[k] y hy with hy | rfl
            · exact hrw y hy
            · exact ⟨hxr, hx2⟩
          generalize oneE Lk M[k] = Ln at *
          generalize M[k] = x at *
          obtain ⟨⟨ak, ap, an, ac, ad⟩, av⟩ := x
          unfold opA at HCR
          unfold vof at a2
          simp only at *
          have HB := hide hb
          have hbo : Hid (∀ o, Below wr.heap.size wr (wr.alloc o)) := fun o => (Below.refl _ _).alloc (Nat.le_refl _) o
          clear hst hm hd ho hrw hb hl hM32 hsp hroom hv1 hv2 hr1 hr2 hkM hLk hdk hspk hx2 hxr
          go_wp2_with fail
          refine Calls.mono (unhide HCR _ (unhide hbo _)) ?_
          rintro e w5 ⟨v', rfl, ho5, hb5⟩
          obtain ⟨p', c', rfl⟩ := owns_shape ho5
          have HZ := hide (And.intro ho5 (((unhide HB).trans ((unhide hbo _).mono (unhide HB).size)).trans hb5))
          obtain ⟨m', hm'⟩ : ∃ m', m' = Ln.length := ⟨_, rfl⟩
          rw [← hm'] at HZ ⊢
          have HM := hide hm'
          clear ho5 hb5 hm'
          go_wp2
          go_roundw
          case rel =>
            have h8 := (unhide HZ).1
            have e8 := unhide HM
            have h6 : w5.ownsRow w.heap.size 34 2 (.slice p' m' c') Ln.length (elC prC Ln) := by rw [← e8]; exact h8
            have h7 := unhide HNW (.slice p' m' c') _ h6
            exact ⟨k + 1, m', p', c', Ln, by omega, by go_num, rfl, e8, h7.1, h6, h7.2, (unhide HZ).2⟩
          case measure => simp [intOf]; omega
        · have hkl : k = M.length := by omega
          have hLk : Lk.length ≤ L.length + 32 := by
            rw [← pdat_len Lk, hd]
            have := doD_len (pdat L) ((dat M).take k)
            rw [pdat_len, List.length_take, dat_len] at this
            omega
          have hfin : pdat Lk = doD (pdat L) (dat M) := by rw [hd, hkl, ← dat_len, List.take_length]
          have HCP := hide (copied_any (.slice p m c) Lk wr (el_of_owns ho (fun y hy => (hrw y hy).1.below hb)) (by omega) (fun y hy => (hrw y hy).2))
          have HZ := hide (And.intro hfin hb)
          clear hst hm hd ho hrw hb hl hM32 hsp hroom hv1 hv2 hr1 hr2 hkl hLk hfin
          go_wp2_with fail
          refine Calls.mono (unhide HCP) ?_
          rintro e w5 ⟨v', L', rfl, hd5, ho5, hb5⟩
          obtain ⟨p', c', rfl⟩ := ho5.1.shape
          have hb9 := (unhide HZ).2
          have HY := hide (And.intro (hd5.trans (unhide HZ).1) (And.intro (ho5.base hb9.size) (hb9.trans (hb5.mono hb9.size))))
          clear hd5 ho5 hb5 hb9
          go_wp2
          go_ret2
          exact ⟨_, L', rfl, (unhide HY).1, (unhide HY).2.1, (unhide HY).2.2⟩
    · obtain ⟨Z, hZ⟩ : ∃ Z, Z = chkE (dat M) := ⟨_, rfl⟩
      rw [← hZ] at hz HBC ⊢
      have hzb : (Z == 0) = false := by simp [hz]
      have hzb2 : (Z != 0) = true := by simp [hz]
      simp only [hz, if_false] at ⊢
      obtain ⟨p1, c1, rfl, _⟩ := h1.shape
      obtain ⟨p2, c2, rfl, _⟩ := h2.shape
      clear h1 h2 hE hZ
      go_enter Try.func17, Try.ntmps17
      go_wp2_with fail
      refine Calls.mono (unhide HCK) ?_
      rintro e w2 ⟨rfl, hb2⟩
      have HB2 := hide hb2
      clear hb2
      go_wp2_with fail
      refine Calls.mono (unhide HBC _ (unhide HB2)) ?_
      rintro e w3 ⟨rfl, hb3⟩
      have HB3 := hide ((unhide HB2).trans (hb3.mono (unhide HB2).size))
      clear hb3
      go_wp2
      go_ret2
      exact ⟨_, [], rfl, rfl, OO.nil _ _ _ _ _, unhide HB3⟩
end Go.Proofs.Ytjkkdijoogiipaa
