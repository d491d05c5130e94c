/- Texts of ours, one behind the other: OpLast. -/
import Derived.Test.YtehafkbndjifaaaG12
import Derived.Test.YtehafkbndjifaaaG14
import Derived.Test.YtehafkbndjifaaaG19
import Derived.Test.YtehafkbndjifaaaG27
import Derived.Lib.SliceRun
/- Package batch as landed: Last. -/
namespace Go.Proofs.Ytehafkbndjifaaa
open Go.RowKit

theorem empty_own (w : World) (e size : Nat) : (w.alloc (.cells #[] e)).ownsRow w.heap.size e size (.slice (some ⟨w.heap.size, 0, none⟩) 0 0) 0 [] :=
  ⟨by simp, Or.inr ⟨w.heap.size, 0, #[], rfl, Nat.le_refl _, heap_alloc_new _ _, Nat.le_refl _, Nat.zero_le _, by simp, by simp⟩⟩

set_option maxRecDepth 20000 in
set_option maxHeartbeats 2000000 in
theorem opclone_any (v : Value) (L : List El) (w : World) (h : EL 3 opC w v L) (hroom : L.length * 48 ≤ 140737488355328) :
    Calls Try.prog 57 #[v] w fun e w' => ∃ p c, e = .returned (.slice p L.length c) ∧ w'.ownsRow w.heap.size 52 3 (.slice p L.length c) L.length (elC opC L) ∧ Below w.heap.size w w' := by
  obtain ⟨is, his, hs0, hs1, hs2⟩ := info_parts Try.info52
  obtain ⟨p, cap, rfl, k1, k2, k3⟩ := h.shape
  cases p with
  | none =>
    have hc := k3 rfl
    have hL : L = [] := List.eq_nil_of_length_eq_zero (by omega)
    subst hL
    subst hc
    have he : ∀ W : World, (binOp .eql 39 (.slice none 0 0) (.slice none 0 0)).run Try.prog W = .ok (.bool true) W := fun W => by rfl
    simp only [List.length_nil]
    go_enter Try.func57, Try.ntmps57
    go_wp2
    go_ret
    exact ⟨none, 0, rfl, World.ownsRow_nil _ _ _ _, Below.refl _ _⟩
  | some ad =>
    have he : ∀ W : World, (binOp .eql 39 (.slice (some ad) L.length cap) (.slice none 0 0)).run Try.prog W = .ok (.bool false) W := fun W => by rfl
    have HN : Hid (∀ j u, (elC opC L)[j]? = some u → (w.alloc (.cells #[] 52)).cell? (ad.add j) = some u) := fun j u hu => by
      have hj := (List.getElem?_eq_some_iff.1 hu).1
      rw [elC_len opC_len] at hj
      obtain ⟨b, off, cap', e, _, _, hc⟩ := h.1.open (by omega)
      simp only [Value.slice.injEq, Option.some.injEq] at e
      rw [e.1, Addr.add_lit]
      have := hc j u hu
      exact (World.cell?_of_block (w := w) (Below.heap_alloc _ _ _ (World.block_lt_of_cell? w _ this))).trans this
    have HO := hide (empty_own w 52 3)
    have HS1 : Hid (0 + L.length ≤ maxLen) := by unfold Hid; omega
    have HS2 : Hid ((0 + L.length) * 48 ≤ 140737488355328) := by unfold Hid; omega
    have HL := hide (elC_len opC_len L)
    clear h hroom k1 k2 k3
    go_enter Try.func57, Try.ntmps57
    go_wp2_with (first
      | (with_reducible show wpList _ _ _ (Oper.mk _ (Op.call _) _ _ _ _ :: _) _ _; refine wpList_append_gen rfl _ _ 39 rfl w.heap.size 52 is (.agg #[.string ⟨#[]⟩, .slice none 0 0, .bool false]) Try.underlying39 his hs0 3 48 (by omega) hs1 hs2 rfl (.slice (some ⟨w.heap.size, 0, none⟩) 0 0) 0 [] rfl (unhide HO) ad L.length cap (elC opC L) rfl (unhide HL) (unhide HN) (elC_one_cell opC_one L) (unhide HS1) (unhide HS2) (by simp) ?_))
    intro v' w' hown hgrow hob
    have HB := hide (((Below.refl w.heap.size w).alloc (Nat.le_refl _) (.cells #[] 52)).grown hgrow (by simp) (fun k hk => by cases hk; exact Nat.le_refl _))
    have HOW := hide hown
    have hsh : ∃ p c, v' = .slice p L.length c := by
      rcases hown.2 with ⟨h', h0⟩ | ⟨g', cap', cur, h', _⟩
      · exact ⟨none, 0, by rw [h', h0]⟩
      · exact ⟨_, _, h'⟩
    obtain ⟨p, c, rfl⟩ := hsh
    clear hown hgrow hob
    go_wp2
    go_ret
    exact ⟨p, c, rfl, unhide HOW, unhide HB⟩

/-- Sorting nothing. -/
theorem ins_none (p : Option Addr) (c : Nat) (w : World) :
    Calls Try.prog 75 #[.slice p 0 c, .int .i64 0, .int .i64 0, byV] w fun e w' => e = .returned (.tuple #[]) ∧ w' = w := by
  go_enter Try.func75, Try.ntmps75
  go_wp2
  refine wp_loop_rounds 1 ?_
  rw [rounds_succ]
  go_wp2
  go_end0
  exact ⟨rfl, rfl⟩
theorem stable_none (p : Option Addr) (c : Nat) (w : World) :
    Calls Try.prog 70 #[.slice p 0 c, .int .i64 0, byV] w fun e w' => e = .returned (.tuple #[]) ∧ w' = w := by
  go_enter Try.func70, Try.ntmps70
  go_wp2
  refine wp_loop_rounds 1 ?_
  rw [rounds_succ]
  go_wp2_with (go_at_call 75; refine Calls.mono (ins_none p c _) ?_; rintro e w' ⟨rfl, rfl⟩)
  refine wp_loop_rounds 1 ?_
  rw [rounds_succ]
  go_wp2
  go_end0
  exact ⟨rfl, rfl⟩
theorem sorts_none (p : Option Addr) (c : Nat) (w : World) :
    Calls Try.prog 58 #[.slice p 0 c, byV] w fun e w' => e = .returned (.tuple #[]) ∧ w' = w := by
  go_enter Try.func58, Try.ntmps58
  go_wp2_with (go_at_call 70; refine Calls.mono (stable_none p c _) ?_; rintro e w' ⟨rfl, rfl⟩)
  go_end0
  exact ⟨rfl, rfl⟩

/-- Each with its place as a mark. -/
def tagD (L : List El) : List (Opv × Nat) := L.zipIdx.map fun x => (x.1.1, x.2)
theorem tag_len (L : List El) : (tagD L).length = L.length := by simp [tagD]
theorem tag_get (L : List El) (i : Nat) (x : Opv × Nat) : (tagD L)[i]? = some x ↔ ∃ y, L[i]? = some y ∧ x = (y.1, i) := by
  simp only [tagD, List.getElem?_map, List.getElem?_zipIdx, Option.map_map, Option.map_eq_some_iff, Nat.zero_add, Function.comp_def]
  constructor
  · rintro ⟨y, h1, h2⟩; exact ⟨y, h1, h2.symm⟩
  · rintro ⟨y, h1, h2⟩; exact ⟨y, h1, h2.symm⟩
theorem tag_cells (L : List El) : (tagD L).flatMap opT = elC opC L := by
  suffices ∀ k, ((L.zipIdx k).map fun x => (x.1.1, x.2)).flatMap opT = elC opC L from this 0
  induction L with
  | nil => intro k; rfl
  | cons x L ih => intro k; rw [List.zipIdx_cons, List.map_cons, List.flatMap_cons, ih]; simp [elC, opT]
def datAt (L : List El) (x : Opv × Nat) : Dat := match L[x.2]? with
  | some y => datOf y
  | none => (⟨#[]⟩, [], false)
/-- What sorting has made of the row: each is one that came in. -/
theorem tag_of {L : List El} {E : List (Opv × Nat)} (hp : E.Perm (tagD L)) {x : Opv × Nat} (hx : x ∈ E) : ∃ y, L[x.2]? = some y ∧ x.1 = y.1 := by
  obtain ⟨i, hi⟩ := List.mem_iff_getElem?.1 (hp.mem_iff.1 hx)
  obtain ⟨y, h1, h2⟩ := (tag_get L i x).1 hi
  rw [h2]
  exact ⟨y, h1, rfl⟩
theorem last_of {L : List El} {E : List (Opv × Nat)} (hp : E.Perm (tagD L)) (hs : So klt E 0 E.length) : (dedTo E E.length).map (datAt L) = lastD (dat L) := by
  refine ded_last hs (fun x hx => ?_) (fun t ht => ?_)
  · obtain ⟨y, h1, h2⟩ := tag_of hp hx
    have e : datAt L x = datOf y := by unfold datAt; rw [h1]
    rw [e]
    refine ⟨?_, by rw [h2]; rfl⟩
    unfold dat
    rw [List.getElem?_map, h1]
    rfl
  · rw [dat_len] at ht
    refine ⟨(L[t].1, t), hp.mem_iff.2 (List.mem_iff_getElem?.2 ⟨t, (tag_get L t _).2 ⟨L[t], List.getElem?_eq_getElem ht, rfl⟩⟩), rfl⟩

theorem keep_set5 {w : World} {g j : Nat} {v : Value} : Keep (fun k => k = g) w (w.setCell ⟨g, j, none⟩ v) :=
  ⟨rfl, rfl, rfl, by simp [World.setCell], fun k _ hk => heap_setCell_other w ⟨g, j, none⟩ k _ (fun e => hk (by simp at e; exact e.symm ▸ rfl))⟩
theorem Mine.keep5 {F : Nat → Prop} {w w' : World} {base : Nat} {t : Value} {bs : List UInt8} (h : Mine w base t bs) (hk : Keep F w w') (hn : ∀ b, base ≤ b → ¬ F b) : Mine w' base t bs := by
  by_cases hne : bs = []
  · subst hne
    exact ⟨h.1.keep hk (fun _ _ _ _ h => absurd rfl h), Or.inl rfl⟩
  · rcases h.2 with h2 | ⟨g, off, cap, e, cur, ht, hg, hh⟩
    · exact absurd h2 hne
    · refine ⟨h.1.keep hk (fun b off' c' e' _ => ?_), Or.inr ⟨g, off, cap, e, cur, ht, hg, (hk.block g (Array.getElem?_eq_some_iff.1 hh).1 (hn g hg)).trans hh⟩⟩
      rw [ht] at e'
      simp only [Value.slice.injEq, Option.some.injEq, Addr.mk.injEq, and_true] at e'
      rw [← e'.1.1]
      exact hn g hg

set_option maxRecDepth 20000 in
set_option maxHeartbeats 4000000 in
theorem blast_any (v : Value) (L : List El) (w : World) (h : EL 3 opC w v L) (hroom : L.length * 48 ≤ 140737488355328) (hv : ∀ x ∈ L, x.2.length ≤ 140737488351232) :
    Calls Try.prog 29 #[v] w fun e w' => ∃ v' L', e = .returned v' ∧ dat L' = lastD (dat L) ∧ L'.length ≤ L.length ∧ OO 52 3 opC w' w.heap.size v' L' ∧ Below w.heap.size w w' := by
  have HCL := hide (opclone_any v L w h hroom)
  obtain ⟨vp, vc, rfl, _⟩ := h.shape
  by_cases h0 : L.length = 0
  · obtain rfl : L = [] := List.eq_nil_of_length_eq_zero h0
    simp only [List.length_nil] at HCL ⊢
    go_enter Try.func29, Try.ntmps29
    go_wp2_with fail
    refine Calls.mono (unhide HCL) ?_
    rintro e w1 ⟨p, c, rfl, ho1, hb1⟩
    have HB1 := hide hb1
    clear ho1 hb1
    go_wp2_with fail
    refine Calls.mono (sorts_none p c _) ?_
    rintro e w' ⟨rfl, rfl⟩
    go_wp2
    refine wp_loop_rounds 1 ?_
    rw [rounds_succ]
    go_wp2
    go_ret
    exact ⟨_, [], rfl, rfl, Nat.le_refl _, OO.nil _ _ _ _ _, unhide HB1⟩
  have HROW : Hid (∀ (E : List (Opv × Nat)), E.Perm (tagD L) → ∀ (i : Nat) (x : Opv × Nat), E[i]? = some x → ∀ W, Below w.heap.size w W → ∃ y, datAt L x = (x.1.key, y, x.1.del) ∧ Row W (vof x.1) y ∧ y.length ≤ 140737488351232) := by
    intro E hp i x hx W hW
    obtain ⟨y, h1, h2⟩ := tag_of hp (List.mem_of_getElem? hx)
    have hm := List.mem_of_getElem? h1
    refine ⟨y.2, ?_, by rw [h2]; exact (h.2 y hm).below hW, hv y hm⟩
    unfold datAt
    rw [h1, h2]
    rfl
  have HLO := hide (fun (E : List (Opv × Nat)) hp hs => last_of (L := L) (E := E) hp hs)
  have htl := tag_len L
  have htc := tag_cells L
  have htg : ∀ (i : Nat) (x : Opv × Nat), (tagD L)[i]? = some x → x.2 = i := fun i x hx => by
    obtain ⟨y, _, e⟩ := (tag_get L i x).1 hx
    rw [e]
  obtain ⟨i0, hi, hz0, hz1, hz2⟩ := info_parts Try.info52
  obtain ⟨l, hl⟩ : ∃ l, l = L.length := ⟨_, rfl⟩
  have HRM : Hid (l * 48 ≤ 140737488355328 ∧ 0 < l) := by unfold Hid; omega
  have hl0 : (l : Int) ≤ 9223372036854775807 := by omega
  have HLN := hide hl
  rw [← hl] at HCL htl ⊢
  have HT := hide (And.intro htl (And.intro htc htg))
  clear h hroom hv h0 htl htc htg hl
  go_enter Try.func29, Try.ntmps29
  go_wp2_with fail
  refine Calls.mono (unhide HCL) ?_
  rintro e w1 ⟨p, c, rfl, ho1, hb1⟩
  obtain ⟨hrm, hlp⟩ := unhide HRM
  obtain ⟨htl, htc, htg⟩ := unhide HT
  obtain ⟨g, rfl, hgw⟩ : ∃ g, p = some ⟨g, 0, none⟩ ∧ w.heap.size ≤ g := by
    rcases ho1.2 with ⟨_, hz⟩ | ⟨g, cap, cur, e, hg, _⟩
    · omega
    · simp only [Value.slice.injEq] at e
      exact ⟨g, e.1, hg⟩
  have hsr : SRow w1 g c (tagD L) := by
    refine ⟨?_, by rw [htl]; omega⟩
    rw [htl, htc]
    refine ⟨ho1.1, ?_⟩
    rcases ho1.2 with ⟨_, hz⟩ | ⟨g, cap, cur, e, _, r⟩
    · omega
    · exact Or.inr ⟨g, cap, cur, e, Nat.zero_le _, r⟩
  have HSO := hide (sorts_any g c (tagD L) w1 hsr htg (by rw [htl]; omega))
  rw [htl] at HSO
  have HB1 := hide hb1
  clear hsr ho1 hb1 hrm hlp htl htc htg
  go_wp2_with fail
  refine Calls.mono (unhide HSO) ?_
  rintro e w2 ⟨rfl, E, hpm, hso, hsr, hkp⟩
  have hEl : E.length = l := by have := hpm.length_eq; rw [(unhide HT).1] at this; exact this
  have hb2 : Below w.heap.size w w2 := (unhide HB1).trans (hkp.below (unhide HB1).size (fun k e => by omega))
  have hg2 : g < w2.heap.size := hsr.lt
  have HE := hide (And.intro hpm (And.intro hso (And.intro hEl (And.intro hg2 hgw))))
  have HSR := hide hsr
  have HB2 := hide hb2
  have HFIN : Hid ((dedTo E l).map (datAt L) = lastD (dat L)) := by
    have := unhide HLO E hpm hso
    rw [hEl] at this
    exact this
  clear hpm hso hsr hkp hEl hb2 hg2 hgw HSO HLO
  go_wp2
  go_loopw [4, 13] (fun ov ii wr => ∃ (i : Nat) (L' : List El) (m : Nat), i ≤ l ∧ ii = .int .i64 i ∧ L'.length = m ∧ Hid (m ≤ i ∧ dat L' = (dedTo E i).map (datAt L) ∧ OO 52 3 opC wr w2.heap.size ov L' ∧ SRow wr g c E ∧ Below w2.heap.size w2 wr)) (fun _ ii _ => l - (intOf ii).toNat)
  case atStart => exact ⟨0, [], 0, Nat.zero_le _, rfl, rfl, Nat.le_refl _, rfl, OO.nil _ _ _ _ _, unhide HSR, Below.refl _ _⟩
  case round =>
    obtain ⟨i, L', m, hil, rfl, hm, hst⟩ := hrel
    obtain ⟨hmi, hd, hoo, hsr, hb⟩ := unhide hst
    obtain ⟨op, oc, hve⟩ := hoo.1.shape
    rw [hm] at hve
    subst hve
    by_cases hlt : (i : Int) < (l : Int)
    · obtain ⟨hpm, hso, hEl, hg2, hgw⟩ := unhide HE
      have i1 : i < E.length := by omega
      obtain ⟨a1, a2, a3⟩ := hsr.cells i i1
      have e1 : E[i]? = some E[i] := List.getElem?_eq_getElem i1
      obtain ⟨bs, hda, hrw, hbl⟩ := unhide HROW E hpm i _ e1 wr ((unhide HB2).trans (hb.mono (unhide HB2).size))
      have hded : dedTo E (i + 1) = dedTo E i ++ (if keepB E i then [E[i]] else []) := by rw [dedTo, e1]; rfl
      obtain ⟨W1, hW1⟩ : ∃ W1, W1 = wr.alloc (.cells (opA E[i].1) 52) := ⟨_, rfl⟩
      have hb1 : Below wr.heap.size wr W1 := by rw [hW1]; exact (Below.refl _ _).alloc (Nat.le_refl _) _
      have hn1 : W1.heap[wr.heap.size]? = some (.cells (opA E[i].1) 52 (0, 0)) := by rw [hW1]; exact heap_alloc_new _ _
      have HCW : Hid (∀ w', Below W1.heap.size W1 w' → SRow w' g c E ∧ Below wr.heap.size wr w' ∧ w'.cell? ⟨wr.heap.size, 0, none⟩ = some (.string E[i].1.key) ∧ w'.cell? ⟨wr.heap.size, 1, none⟩ = some (vof E[i].1) ∧ w'.cell? ⟨wr.heap.size, 2, none⟩ = some (.bool E[i].1.del) ∧ w'.frozen? ⟨wr.heap.size, 1, none⟩ = false ∧ Row w' (vof E[i].1) bs ∧ wr.heap.size < w'.heap.size) := by
        intro w' hw
        have hbb := hb1.trans (hw.mono hb1.size)
        have hn2 := (hw.block _ (Array.getElem?_eq_some_iff.1 hn1).1).trans hn1
        refine ⟨hsr.below hbb, hbb, ?_, ?_, ?_, frozen_of_block hn2, hrw.below hbb, (Array.getElem?_eq_some_iff.1 hn2).1⟩
        all_goals (rw [cell_of_row w' wr.heap.size _ _ _ (0, 0) hn2]; rfl)
      have HD0 := hide (And.intro hmi (And.intro hd (And.intro hda hm)))
      have HOW : Hid (wr.ownsRow w2.heap.size 52 3 (.slice op m oc) m (elC opC L')) := by
        have := hoo.1.1
        rw [hm] at this
        exact this
      have HOO := hide (And.intro hoo (And.intro hm hg2))
      have HBW := hide hb
      have HSRW := hide hsr
      obtain ⟨hrm, _⟩ := unhide HRM
      have HM1 : Hid (m + 1 ≤ maxLen) := by unfold Hid maxLen; omega
      have HM2 : Hid ((m + 1) * 48 ≤ 140737488355328) := by unfold Hid; omega
      have hw1 : IntKind.i64.wrap ((i : Int) + 1) = ((i + 1 : Nat) : Int) := by rw [IntKind.wrap_i64]; omega
      obtain ⟨I1, hI1⟩ : ∃ I1, I1 = i + 1 := ⟨_, rfl⟩
      rw [← hI1] at hw1
      have HI1 := hide hI1
      have HDED := hide hded
      have HC0' : Hid (Below W1.heap.size W1 { W1 with drawn := W1.drawn + 1 }) := (Below.refl _ _).drew
      have HW1 := hide hW1
      have HLT : Hid (i + 1 ≤ l) := by unfold Hid; omega
      by_cases hnx : i + 1 < l
      · have i2 : I1 < E.length := by omega
        have e2 : E[I1]? = some E[I1] := List.getElem?_eq_getElem i2
        have HNX : Hid (∀ w', Below W1.heap.size W1 w' → w'.cell? ⟨g, I1 * 3, none⟩ = some (.string E[I1].1.key)) := fun w' hw => ((unhide HCW w' hw).1.cells I1 i2).1
        have hkb : keepB E i = !decide (E[I1].1.key = E[i].1.key) := by
          unfold keepB
          rw [e1, ← hI1, e2]
        have HKB := hide hkb
        have hi2 : (I1 : Int) < (l : Int) := by omega
        generalize E[I1] = y at *
        obtain ⟨⟨yk, yp, yn, yc, yd⟩, yt⟩ := y
        generalize E[i] = x at *
        clear hpm hso hEl hg2 hgw i1 e1 hrw hded hb1 hn1 hsr hb hoo hd hda hst hmi hm hrm hI1 i2 e2 hkb hnx hW1
        obtain ⟨⟨xk, xp, xn, xc, xd⟩, xt⟩ := x
        unfold opA at HW1
        unfold vof at HCW
        simp only at a1 a2 a3 HCW HNX HKB HW1 HD0
        obtain ⟨CC, hCCd⟩ : ∃ CC : World → Prop, CC = fun w' => Below W1.heap.size W1 w' := ⟨_, rfl⟩
        have HC0 : Hid (CC { W1 with drawn := W1.drawn + 1 }) := by rw [hCCd]; exact unhide HC0'
        have HCC : Hid (∀ w', CC w' → w'.cell? ⟨wr.heap.size, 0, none⟩ = some (.string xk) ∧ w'.cell? ⟨wr.heap.size, 1, none⟩ = some (.slice xp xn xc) ∧ w'.cell? ⟨wr.heap.size, 2, none⟩ = some (.bool xd) ∧ w'.cell? ⟨g, I1 * 3, none⟩ = some (.string yk)) := by
          rw [hCCd]
          exact fun w' hw => ⟨(unhide HCW w' hw).2.2.1, (unhide HCW w' hw).2.2.2.1, (unhide HCW w' hw).2.2.2.2.1, unhide HNX w' hw⟩
        have HCWc : Hid (∀ w', CC w' → SRow w' g c E ∧ Below wr.heap.size wr w' ∧ w'.cell? ⟨wr.heap.size, 0, none⟩ = some (.string xk) ∧ w'.cell? ⟨wr.heap.size, 1, none⟩ = some (.slice xp xn xc) ∧ w'.cell? ⟨wr.heap.size, 2, none⟩ = some (.bool xd) ∧ w'.frozen? ⟨wr.heap.size, 1, none⟩ = false ∧ Row w' (.slice xp xn xc) bs ∧ wr.heap.size < w'.heap.size) := by
          rw [hCCd]
          exact unhide HCW
        clear hCCd HC0' HNX HCW
        have HCW := HCWc
        clear HCWc
        by_cases hkk : yk = xk
        · subst hkk
          have hkF : Hid (keepB E i = false) := by unfold Hid; rw [unhide HKB]; simp
          go_wp2_with fail
          rw [← unhide HW1]
          refine region_stay CC (by kernel_rfl) (by kernel_rfl) (unhide HC0) ?_
          repeat (first
            | go_big_quiet_skip
            | (go_big_quiet_want
               apply Exists.intro
               refine ⟨fun w' hw' => ?_, ?_⟩
               · obtain ⟨c0, c1, c2, c3⟩ := unhide HCC w' hw'
                 go_simp
                 first | done | rfl
               simp only [Act.put, List.setIfInBounds_toArray, List.set_cons_zero, List.set_cons_succ]
               go_big_quiet_on))
          refine wpQuiet_nil ?_
          intro w' hw'
          have HKW := hide (unhide HCW w' hw')
          clear hw' HCC HC0
          go_wp2
          obtain ⟨hsr2, hb3, _⟩ := unhide HKW
          obtain ⟨hmi, hd, hda, hmm⟩ := unhide HD0
          go_roundw
          case rel =>
            refine ⟨i + 1, L', m, unhide HLT, by rw [unhide HI1], hmm, by omega, ?_, (unhide HOO).1.below hb3, hsr2, (unhide HBW).trans (hb3.mono (unhide HBW).size)⟩
            rw [unhide HDED, unhide hkF]
            simpa using hd
          case measure => have hq := unhide HLT; have hq2 := unhide HI1; simp [intOf]; omega
        · have hkT : Hid (keepB E i = true) := by unfold Hid; rw [unhide HKB]; simp [hkk]
          have hkb2 : (yk.toList == xk.toList) = false := by
            simp only [beq_eq_false_iff_ne]
            exact fun e => hkk (bl_inj e)
          have HD : Hid (m ≤ i ∧ dat L' = (dedTo E i).map (datAt L) ∧ datAt L (⟨xk, xp, xn, xc, xd⟩, xt) = (xk, bs, xd) ∧ L'.length = m ∧ dedTo E (i + 1) = dedTo E i ++ [(⟨xk, xp, xn, xc, xd⟩, xt)]) := by
            obtain ⟨q1, q2, q3, q4⟩ := unhide HD0
            refine ⟨q1, q2, q3, q4, ?_⟩
            rw [unhide HDED, unhide hkT]
            rfl
          clear hkk
          go_wp2_with fail
          rw [← unhide HW1]
          refine region_stay CC (by kernel_rfl) (by kernel_rfl) (unhide HC0) ?_
          repeat (first
            | go_big_quiet_skip
            | (go_big_quiet_want
               apply Exists.intro
               refine ⟨fun w' hw' => ?_, ?_⟩
               · obtain ⟨c0, c1, c2, c3⟩ := unhide HCC w' hw'
                 go_simp
                 first | done | rfl
               simp only [Act.put, List.setIfInBounds_toArray, List.set_cons_zero, List.set_cons_succ]
               go_big_quiet_on))
          refine wpQuiet_nil ?_
          intro w' hw'
          obtain ⟨hsr2, hb3, v0, v1, v2, vf, hrw2, hszv⟩ := unhide HCW w' hw'
          have HCL2 := hide (clone_any _ bs w' hrw2 hbl)
          have HKW := hide (And.intro hsr2 (And.intro hb3 hszv))
          have HV0 := hide (And.intro v0 (And.intro v2 vf))
          clear hsr2 hb3 hrw2 hw' HCC HC0 hszv v0 v2 vf
          go_wp2_with fail
          refine Calls.mono (unhide HCL2) ?_
          rintro e w5 ⟨t, rfl, hm5, hb5⟩
          obtain ⟨tp, tn, tc, rfl⟩ := mine_opv hm5
          obtain ⟨hsr2, hb3, hszv⟩ := unhide HKW
          obtain ⟨v0, v2, vf⟩ := unhide HV0
          have u0 := (hb5.cell (p := ⟨wr.heap.size, 0, none⟩) hszv).trans v0
          have u2 := (hb5.cell (p := ⟨wr.heap.size, 2, none⟩) hszv).trans v2
          have uf := (hb5.frozen (p := ⟨wr.heap.size, 1, none⟩) hszv).trans vf
          have hu1 : ∃ u, w5.cell? ⟨wr.heap.size, 1, none⟩ = some u := ⟨_, (hb5.cell (p := ⟨wr.heap.size, 1, none⟩) hszv).trans v1⟩
          obtain ⟨u1v, u1⟩ := hu1
          have hsw5 := hb5.size
          have hb35 := hb3.trans (hb5.mono hb3.size)
          obtain ⟨W7, hW7⟩ : ∃ W7, W7 = (w5.setCell ⟨wr.heap.size, 1, none⟩ (.slice tp tn tc)).alloc (.cells #[.string xk, .slice tp tn tc, .bool xd] 52) := ⟨_, rfl⟩
          have hb7 : Below wr.heap.size wr W7 := by rw [hW7]; exact (hb35.setCell (Nat.le_refl _) _).alloc (by simp; omega) _
          have hm7 : Mine W7 wr.heap.size (vof ⟨xk, tp, tn, tc, xd⟩) bs := by
            have k1 : Keep (fun k => k = wr.heap.size) w5 (w5.setCell ⟨wr.heap.size, 1, none⟩ (.slice tp tn tc)) := keep_set5
            have := (hm5.keep5 k1 (fun b hb e => by omega)).base (show wr.heap.size ≤ w'.heap.size by omega)
            rw [hW7]
            exact this.below ((Below.refl _ _).alloc (Nat.le_refl _) _)
          have hs6 : (w5.setCell ⟨wr.heap.size, 1, none⟩ (.slice tp tn tc)).heap.size = w5.heap.size := by simp
          have hn7 : W7.heap[w5.heap.size]? = some (.cells #[.string xk, .slice tp tn tc, .bool xd] 52 (0, 0)) := by
            have hq := heap_alloc_new (w5.setCell ⟨wr.heap.size, 1, none⟩ (.slice tp tn tc)) (.cells #[.string xk, .slice tp tn tc, .bool xd] 52)
            rw [hs6] at hq
            rw [hW7]
            exact hq
          have hs7e : W7.heap.size = w5.heap.size + 1 := by rw [hW7]; simp
          have HS7E := hide hs7e
          have hc7 : ∀ q u, (opC ⟨xk, tp, tn, tc, xd⟩)[q]? = some u → W7.cell? ((⟨w5.heap.size, 0, none⟩ : Addr).add q) = some u := by
            intro q u hq
            rw [Addr.add_lit, Nat.zero_add, cell_of_row W7 w5.heap.size q _ _ (0, 0) hn7]
            simpa [opC] using hq
          have how7 := owns_below4 (unhide HOW) hb7
          have hs7 : w2.heap.size ≤ W7.heap.size := by have := (unhide HBW).size; have := hb7.size; omega
          have HA7 := hide (And.intro hb7 (And.intro hm7 (And.intro hsr2 (And.intro hb35 hs7))))
          rw [hW7] at hc7 how7 hs7
          have HW7 := hide hW7
          clear hb3 hszv v0 v1 v2 vf hsr2 hsw5 hb35 hb5 hb7 hm7 hm5 hW7 HCL2 HKW HV0 hs6 hn7 hs7e
          go_wp2_with (first
            | (at_builtin; refine wpList_append_gen rfl _ _ 39 rfl w2.heap.size 52 i0 (.agg #[.string ⟨#[]⟩, .slice none 0 0, .bool false]) Try.underlying39 hi hz0 3 48 (by omega) hz1 hz2 rfl (.slice op m oc) m (elC opC L') rfl how7 ⟨w5.heap.size, 0, none⟩ 1 1 (opC ⟨xk, tp, tn, tc, xd⟩) rfl rfl hc7 (opC_one _) (unhide HM1) (unhide HM2) hs7 ?_))
          intro v8 w8 hown8 hgrow8 hob8
          have HPUSH : Hid (OO 52 3 opC w8 w2.heap.size v8 (L' ++ [(⟨xk, tp, tn, tc, xd⟩, bs)]) ∧ SRow w8 g c E ∧ Below w2.heap.size w2 w8) := by
            obtain ⟨hb7, hm7, hsr2, hb35, hs7⟩ := unhide HA7
            rw [← unhide HW7] at hgrow8
            rw [← unhide HS7E] at hob8
            obtain ⟨hoo, hmm, hgg⟩ := unhide HOO
            refine ⟨hoo.push (x := (⟨xk, tp, tn, tc, xd⟩, bs)) hb7 hm7 (unhide HBW).size (by rw [hmm]; exact hown8) hgrow8 hob8, ?_, ?_⟩
            · have hk8 : Keep (fun k => some k = (Value.slice op m oc).ownBlock) W7 w8 := ⟨hgrow8.os, hgrow8.tape, hgrow8.output, hgrow8.size, fun k hk hn => hgrow8.block k hk (fun e => hn e)⟩
              refine ((unhide HSRW).below hb7).keep hk8 (fun e => ?_)
              have := ((unhide HOW).lt g e.symm).1
              omega
            · exact ((unhide HBW).trans (hb7.mono (unhide HBW).size)).grown hgrow8 hs7 (fun k hk => ((unhide HOW).lt k hk).1)
          have hsh : ∃ g2 cap2, v8 = .slice (some ⟨g2, 0, none⟩) (m + 1) cap2 := by
            rcases hown8.2 with ⟨_, hz9⟩ | ⟨g2, cap2, cur2, e2, _⟩
            · exact absurd hz9 (by omega)
            · exact ⟨g2, cap2, e2⟩
          obtain ⟨g2, cap2, rfl⟩ := hsh
          clear hown8 hgrow8 hob8 hc7 how7 hs7
          go_wp2
          obtain ⟨hoo8, hsr8, hb8⟩ := unhide HPUSH
          obtain ⟨hmi, hd, hda, hmm, hkeep⟩ := unhide HD
          go_roundw
          case rel =>
            refine ⟨i + 1, L' ++ [(⟨xk, tp, tn, tc, xd⟩, bs)], m + 1, unhide HLT, by rw [unhide HI1], by rw [List.length_append, hmm]; rfl, by omega, ?_, hoo8, hsr8, hb8⟩
            rw [hkeep, dat_app, hd, List.map_append]
            simp only [List.map_cons, List.map_nil, hda]
            rfl
          case measure => have hq := unhide HLT; have hq2 := unhide HI1; simp [intOf]; omega
      · have hkb : keepB E i = true := by
          unfold keepB
          rw [e1, List.getElem?_eq_none (by omega)]
        have HKB := hide hkb
        have hi2 : ¬ (I1 : Int) < (l : Int) := by omega
        have hd2 : decide ((I1 : Int) < (l : Int)) = false := decide_eq_false hi2
        have hd3 : decide (I1 < l) = false := decide_eq_false (by omega)
        generalize E[i] = x at *
        clear hpm hso hEl hg2 hgw i1 e1 hrw hded hb1 hn1 hsr hb hoo hd hda hst hmi hm hrm hI1 hkb hnx hW1
        obtain ⟨⟨xk, xp, xn, xc, xd⟩, xt⟩ := x
        unfold opA at HW1
        unfold vof at HCW
        simp only at a1 a2 a3 HCW HW1 HD0
        obtain ⟨CC, hCCd⟩ : ∃ CC : World → Prop, CC = fun w' => Below W1.heap.size W1 w' := ⟨_, rfl⟩
        have HC0 : Hid (CC { W1 with drawn := W1.drawn + 1 }) := by rw [hCCd]; exact unhide HC0'
        have HCC : Hid (∀ w', CC w' → w'.cell? ⟨wr.heap.size, 0, none⟩ = some (.string xk) ∧ w'.cell? ⟨wr.heap.size, 1, none⟩ = some (.slice xp xn xc) ∧ w'.cell? ⟨wr.heap.size, 2, none⟩ = some (.bool xd) ∧ True) := by
          rw [hCCd]
          exact fun w' hw => ⟨(unhide HCW w' hw).2.2.1, (unhide HCW w' hw).2.2.2.1, (unhide HCW w' hw).2.2.2.2.1, trivial⟩
        have HCWc : Hid (∀ w', CC w' → SRow w' g c E ∧ Below wr.heap.size wr w' ∧ w'.cell? ⟨wr.heap.size, 0, none⟩ = some (.string xk) ∧ w'.cell? ⟨wr.heap.size, 1, none⟩ = some (.slice xp xn xc) ∧ w'.cell? ⟨wr.heap.size, 2, none⟩ = some (.bool xd) ∧ w'.frozen? ⟨wr.heap.size, 1, none⟩ = false ∧ Row w' (.slice xp xn xc) bs ∧ wr.heap.size < w'.heap.size) := by
          rw [hCCd]
          exact unhide HCW
        clear hCCd HC0' HCW
        have HCW := HCWc
        clear HCWc
        have HD : Hid (m ≤ i ∧ dat L' = (dedTo E i).map (datAt L) ∧ datAt L (⟨xk, xp, xn, xc, xd⟩, xt) = (xk, bs, xd) ∧ L'.length = m ∧ dedTo E (i + 1) = dedTo E i ++ [(⟨xk, xp, xn, xc, xd⟩, xt)]) := by
          obtain ⟨q1, q2, q3, q4⟩ := unhide HD0
          refine ⟨q1, q2, q3, q4, ?_⟩
          rw [unhide HDED, unhide HKB]
          rfl
        go_wp2_with fail
        rw [← unhide HW1]
        refine region_stay CC (by kernel_rfl) (by kernel_rfl) (unhide HC0) ?_
        repeat (first
          | go_big_quiet_skip
          | (go_big_quiet_want
             apply Exists.intro
             refine ⟨fun w' hw' => ?_, ?_⟩
             · obtain ⟨c0, c1, c2, c3⟩ := unhide HCC w' hw'
               go_simp
               first | done | rfl
             simp only [Act.put, List.setIfInBounds_toArray, List.set_cons_zero, List.set_cons_succ]
             go_big_quiet_on))
        refine wpQuiet_nil ?_
        intro w' hw'
        obtain ⟨hsr2, hb3, v0, v1, v2, vf, hrw2, hszv⟩ := unhide HCW w' hw'
        have HCL2 := hide (clone_any _ bs w' hrw2 hbl)
        have HKW := hide (And.intro hsr2 (And.intro hb3 hszv))
        have HV0 := hide (And.intro v0 (And.intro v2 vf))
        clear hsr2 hb3 hrw2 hw' HCC HC0 hszv v0 v2 vf
        go_wp2_with fail
        refine Calls.mono (unhide HCL2) ?_
        rintro e w5 ⟨t, rfl, hm5, hb5⟩
        obtain ⟨tp, tn, tc, rfl⟩ := mine_opv hm5
        obtain ⟨hsr2, hb3, hszv⟩ := unhide HKW
        obtain ⟨v0, v2, vf⟩ := unhide HV0
        have u0 := (hb5.cell (p := ⟨wr.heap.size, 0, none⟩) hszv).trans v0
        have u2 := (hb5.cell (p := ⟨wr.heap.size, 2, none⟩) hszv).trans v2
        have uf := (hb5.frozen (p := ⟨wr.heap.size, 1, none⟩) hszv).trans vf
        have hu1 : ∃ u, w5.cell? ⟨wr.heap.size, 1, none⟩ = some u := ⟨_, (hb5.cell (p := ⟨wr.heap.size, 1, none⟩) hszv).trans v1⟩
        obtain ⟨u1v, u1⟩ := hu1
        have hsw5 := hb5.size
        have hb35 := hb3.trans (hb5.mono hb3.size)
        obtain ⟨W7, hW7⟩ : ∃ W7, W7 = (w5.setCell ⟨wr.heap.size, 1, none⟩ (.slice tp tn tc)).alloc (.cells #[.string xk, .slice tp tn tc, .bool xd] 52) := ⟨_, rfl⟩
        have hb7 : Below wr.heap.size wr W7 := by rw [hW7]; exact (hb35.setCell (Nat.le_refl _) _).alloc (by simp; omega) _
        have hm7 : Mine W7 wr.heap.size (vof ⟨xk, tp, tn, tc, xd⟩) bs := by
          have k1 : Keep (fun k => k = wr.heap.size) w5 (w5.setCell ⟨wr.heap.size, 1, none⟩ (.slice tp tn tc)) := keep_set5
          have := (hm5.keep5 k1 (fun b hb e => by omega)).base (show wr.heap.size ≤ w'.heap.size by omega)
          rw [hW7]
          exact this.below ((Below.refl _ _).alloc (Nat.le_refl _) _)
        have hs6 : (w5.setCell ⟨wr.heap.size, 1, none⟩ (.slice tp tn tc)).heap.size = w5.heap.size := by simp
        have hn7 : W7.heap[w5.heap.size]? = some (.cells #[.string xk, .slice tp tn tc, .bool xd] 52 (0, 0)) := by
          have hq := heap_alloc_new (w5.setCell ⟨wr.heap.size, 1, none⟩ (.slice tp tn tc)) (.cells #[.string xk, .slice tp tn tc, .bool xd] 52)
          rw [hs6] at hq
          rw [hW7]
          exact hq
        have hs7e : W7.heap.size = w5.heap.size + 1 := by rw [hW7]; simp
        have HS7E := hide hs7e
        have hc7 : ∀ q u, (opC ⟨xk, tp, tn, tc, xd⟩)[q]? = some u → W7.cell? ((⟨w5.heap.size, 0, none⟩ : Addr).add q) = some u := by
          intro q u hq
          rw [Addr.add_lit, Nat.zero_add, cell_of_row W7 w5.heap.size q _ _ (0, 0) hn7]
          simpa [opC] using hq
        have how7 := owns_below4 (unhide HOW) hb7
        have hs7 : w2.heap.size ≤ W7.heap.size := by have := (unhide HBW).size; have := hb7.size; omega
        have HA7 := hide (And.intro hb7 (And.intro hm7 (And.intro hsr2 (And.intro hb35 hs7))))
        rw [hW7] at hc7 how7 hs7
        have HW7 := hide hW7
        clear hb3 hszv v0 v1 v2 vf hsr2 hsw5 hb35 hb5 hb7 hm7 hm5 hW7 HCL2 HKW HV0 hs6 hn7 hs7e
        go_wp2_with (first
          | (at_builtin; refine wpList_append_gen rfl _ _ 39 rfl w2.heap.size 52 i0 (.agg #[.string ⟨#[]⟩, .slice none 0 0, .bool false]) Try.underlying39 hi hz0 3 48 (by omega) hz1 hz2 rfl (.slice op m oc) m (elC opC L') rfl how7 ⟨w5.heap.size, 0, none⟩ 1 1 (opC ⟨xk, tp, tn, tc, xd⟩) rfl rfl hc7 (opC_one _) (unhide HM1) (unhide HM2) hs7 ?_))
        intro v8 w8 hown8 hgrow8 hob8
        have HPUSH : Hid (OO 52 3 opC w8 w2.heap.size v8 (L' ++ [(⟨xk, tp, tn, tc, xd⟩, bs)]) ∧ SRow w8 g c E ∧ Below w2.heap.size w2 w8) := by
          obtain ⟨hb7, hm7, hsr2, hb35, hs7⟩ := unhide HA7
          rw [← unhide HW7] at hgrow8
          rw [← unhide HS7E] at hob8
          obtain ⟨hoo, hmm, hgg⟩ := unhide HOO
          refine ⟨hoo.push (x := (⟨xk, tp, tn, tc, xd⟩, bs)) hb7 hm7 (unhide HBW).size (by rw [hmm]; exact hown8) hgrow8 hob8, ?_, ?_⟩
          · have hk8 : Keep (fun k => some k = (Value.slice op m oc).ownBlock) W7 w8 := ⟨hgrow8.os, hgrow8.tape, hgrow8.output, hgrow8.size, fun k hk hn => hgrow8.block k hk (fun e => hn e)⟩
            refine ((unhide HSRW).below hb7).keep hk8 (fun e => ?_)
            have := ((unhide HOW).lt g e.symm).1
            omega
          · exact ((unhide HBW).trans (hb7.mono (unhide HBW).size)).grown hgrow8 hs7 (fun k hk => ((unhide HOW).lt k hk).1)
        have hsh : ∃ g2 cap2, v8 = .slice (some ⟨g2, 0, none⟩) (m + 1) cap2 := by
          rcases hown8.2 with ⟨_, hz9⟩ | ⟨g2, cap2, cur2, e2, _⟩
          · exact absurd hz9 (by omega)
          · exact ⟨g2, cap2, e2⟩
        obtain ⟨g2, cap2, rfl⟩ := hsh
        clear hown8 hgrow8 hob8 hc7 how7 hs7
        go_wp2
        obtain ⟨hoo8, hsr8, hb8⟩ := unhide HPUSH
        obtain ⟨hmi, hd, hda, hmm, hkeep⟩ := unhide HD
        go_roundw
        case rel =>
          refine ⟨i + 1, L' ++ [(⟨xk, tp, tn, tc, xd⟩, bs)], m + 1, unhide HLT, by rw [unhide HI1], by rw [List.length_append, hmm]; rfl, by omega, ?_, hoo8, hsr8, hb8⟩
          rw [hkeep, dat_app, hd, List.map_append]
          simp only [List.map_cons, List.map_nil, hda]
          rfl
        case measure => have hq := unhide HLT; have hq2 := unhide HI1; simp [intOf]; omega
    · have hli : i = l := by omega
      have HA := hide (And.intro hmi (And.intro hd (And.intro hoo (And.intro hb (And.intro hli hm)))))
      clear hmi hd hoo hsr hb hst hli hm
      go_wp2
      go_ret
      obtain ⟨hmi, hd, hoo, hb, hli, hm⟩ := unhide HA
      subst hli
      refine ⟨_, rfl, L', ?_, by omega, hoo.base (unhide HB2).size, (unhide HB2).trans (hb.mono (unhide HB2).size)⟩
      rw [hd, unhide HFIN]
end Go.Proofs.Ytehafkbndjifaaa
