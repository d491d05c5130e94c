/- Texts of ours, one behind the other: QhOwn8, MgHds. -/
import Derived.Test.YtcjepiihknjeiaaG5
import Derived.Test.YtcjepiihknjeiaaG11
import Derived.Laws.Externs
import Derived.Laws.EntriesVeiled
/- The landed package queue: Fork. -/
namespace Go.Proofs.Ytcjepiihknjeiaa.QH
open Go.RowKit

section
variable {P : Program} (w : World)
theorem qrun_equalIn_row_nil (d : Nat) (t e : TypeId) (a : Option Addr) (l c : Nat) (h : P.underlying t = some (.slice e)) :
    (Op.equalIn (d + 1) t (.slice a l c) (.slice none 0 0)).run P w = .ok a.isNone w := by
  cases a <;> simp [Op.equalIn, run_underlying h]
theorem qrun_eql_row_nil (t e : TypeId) (a : Option Addr) (l c : Nat) (h : P.underlying t = some (.slice e)) :
    (binOp .eql t (.slice a l c) (.slice none 0 0)).run P w = .ok (.bool a.isNone) w := by
  simp only [binOp]
  simp [show Op.equal t (.slice a l c) (.slice none 0 0) = Op.equalIn (9999 + 1) t (.slice a l c) (.slice none 0 0) from rfl, qrun_equalIn_row_nil w 9999 t e a l c h]
end
theorem qowns_base {w : World} {base e sz : Nat} {v : Value} {n : Nat} {xs : List Value} (h : w.ownsRow base e sz v n xs) : w.ownsRow 0 e sz v n xs := by
  refine ⟨h.1, ?_⟩
  rcases h.2 with h2 | ⟨g, cap, cur, hv, _, r⟩
  · exact Or.inl h2
  · exact Or.inr ⟨g, cap, cur, hv, Nat.zero_le _, r⟩
theorem qempty_own (w : World) (e size : Nat) : (w.alloc (.cells #[] e)).ownsRow w.heap.size e size (.slice (some ⟨w.heap.size, 0, none⟩) 0 0) 0 [] :=
  ⟨by simp, Or.inr ⟨w.heap.size, 0, #[], rfl, Nat.le_refl _, heap_alloc_new _ _, Nat.le_refl _, Nat.zero_le _, by simp, by simp⟩⟩

set_option maxRecDepth 20000 in
set_option maxHeartbeats 1000000 in
theorem qclone_any (w : World) (v : Value) (L : List (It × Nat)) (h : w.ownsRow 0 92 3 v L.length (cellsQ L)) (hs : L.length * 40 ≤ 140737488355328) :
    Calls Try.prog 46 #[v] w fun e w' => ∃ p cap, e = .returned (.slice p L.length cap) ∧ w'.ownsRow w.heap.size 92 3 (.slice p L.length cap) L.length (cellsQ L) ∧ Below w.heap.size w w' := by
  obtain ⟨is, his, hs0, hs1, hs2⟩ := info_parts Try.info92
  rcases h.2 with ⟨rfl, h0⟩ | ⟨g, cap, cur, rfl, hb, hh, h1, h2, h3, h4⟩
  · have hL : L = [] := List.eq_nil_of_length_eq_zero h0
    subst hL
    have he : ∀ W : World, (binOp .eql 83 (.slice none 0 0) (.slice none 0 0)).run Try.prog W = .ok (.bool true) W := fun W => qrun_eql_row_nil W _ _ none 0 0 Try.underlying83
    go_enter Try.func46, Try.ntmps46
    go_wp2
    go_ret
    exact ⟨none, 0, rfl, World.ownsRow_nil _ _ _ _, Below.refl _ _⟩
  · have he : ∀ W : World, (binOp .eql 83 (.slice (some ⟨g, 0, none⟩) L.length cap) (.slice none 0 0)).run Try.prog W = .ok (.bool false) W := fun W => qrun_eql_row_nil W _ _ (some ⟨g, 0, none⟩) L.length cap Try.underlying83
    have hg := (Array.getElem?_eq_some_iff.1 hh).1
    have HN : Hid (∀ j u, (cellsQ L)[j]? = some u → (w.alloc (.cells #[] 92)).cell? ((⟨g, 0, none⟩ : Addr).add j) = some u) := fun j u hu => by
      have := h.cells (g := g) rfl j u hu
      rw [Addr.add_lit] at this ⊢
      exact (World.cell?_of_block (w := w) (Below.heap_alloc _ _ _ hg)).trans this
    have HO := hide (qempty_own w 92 3)
    have HS1 : Hid (0 + L.length ≤ maxLen) := by unfold Hid maxLen; omega
    have HS2 : Hid ((0 + L.length) * 40 ≤ 140737488355328) := by unfold Hid; omega
    clear h hs h1 h2 h3 h4 hh hb
    go_enter Try.func46, Try.ntmps46
    go_wp2_with (first
      | (with_reducible show wpList _ _ _ (Oper.mk _ (Op.call _) _ _ _ _ :: _) _ _; refine wpList_append_gen rfl _ _ 83 rfl w.heap.size 92 is (.agg #[.int .i64 0, .slice none 0 0, .int .u64 0]) Try.underlying83 his hs0 3 40 (by omega) hs1 hs2 rfl (.slice (some ⟨w.heap.size, 0, none⟩) 0 0) 0 [] rfl (unhide HO) ⟨g, 0, none⟩ L.length cap (cellsQ L) rfl (length_cellsQ L) (unhide HN) (oneCell_cellsQ L) (unhide HS1) (unhide HS2) (by simp) ?_))
    intro v' w' hown hgrow hob
    have HB := hide (((Below.refl w.heap.size w).alloc (Nat.le_refl _) (.cells #[] 92)).grown hgrow (by simp) (fun k hk => by cases hk; exact Nat.le_refl _))
    have HOW := hide hown
    have hsh : ∃ p c, v' = .slice p L.length c := by
      rcases hown.2 with ⟨h', h0⟩ | ⟨g', cap', cur, h', _⟩
      · exact ⟨none, 0, by rw [h', h0]⟩
      · exact ⟨_, _, h'⟩
    obtain ⟨p, c, rfl⟩ := hsh
    clear hown hgrow hob
    go_wp2
    go_ret
    exact ⟨p, c, rfl, unhide HOW, unhide HB⟩

set_option maxRecDepth 20000 in
set_option maxHeartbeats 1000000 in
theorem qfork_any (lt : It → It → Bool) (F : Nat → Prop) (w : World) (q n : Nat) (f : Value) (Z : List It) (h : QAt F w q f lt Z n) :
    Calls Try.prog 41 #[.pointer (some ⟨q, 0, none⟩)] w fun e w' => ∃ q' F', e = .returned (.pointer (some ⟨q', 0, none⟩)) ∧ QAt F' w' q' f lt Z n ∧ Below w.heap.size w w' ∧ ∀ k, F' k → w.heap.size ≤ k := by
  obtain ⟨hC, L, v, hL, hQ, hF⟩ := h
  obtain ⟨p, cap, rfl, k0, k1, k2⟩ := hL.shape
  obtain ⟨c0, c1, c2, fz⟩ := hL.cells
  have hql : q < w.heap.size := hL.lt q (Or.inl rfl)
  have n1 : ¬ w.heap.size = q := by omega
  have HL := hide hL
  have HDS : Hid (∀ p ∈ L, ∀ W, Below w.heap.size w W → HdE W p.1) := hide (fun p hp W hb => (hL.hds p hp).1.below hb)
  have HDL : Hid (∀ p ∈ L, ∀ k, p.1.blk k → k < w.heap.size) := hide (fun p hp => (hL.hds p hp).1.lt)
  have HQ := hide hQ
  clear hL hQ hF k0 k1 k2
  have hfv : ∃ a b c d, f = .func a b c ∨ f = .nilFunc ∧ d = 0 := by
    obtain ⟨k, rfl, _⟩ := hC.calls
    exact ⟨_, _, _, (0 : Nat), Or.inl rfl⟩
  obtain ⟨a, b, c, d, hfv⟩ := hfv
  have hb1 : Below w.heap.size w (w.alloc (.cells #[f, .slice p L.length cap, .int .u64 (n : Int)] 87)) := (Below.refl _ _).alloc (Nat.le_refl _) _
  rcases hfv with rfl | ⟨rfl, _⟩
  all_goals
    go_enter Try.func41, Try.ntmps41
    go_wp2_with fail
    refine Calls.mono (qclone_any _ _ L ((unhide HL).below hb1).row (unhide HL).small) ?_
    rintro e w2 ⟨p2, cap2, rfl, o2, b2⟩
    have hh2 := (b2.block w.heap.size (by simp)).trans (heap_alloc_new w _)
    have hs2 := b2.size
    have d1 : w2.cell? ⟨w.heap.size, 1, none⟩ = some (.slice p L.length cap) := by rw [cell_of_row w2 w.heap.size _ _ _ (0, 0) hh2]; rfl
    have f1 : w2.frozen? ⟨w.heap.size, 1, none⟩ = false := frozen_of_block hh2
    have hb2 := heap_setCell_same w2 w.heap.size 1 _ _ (.slice p2 L.length cap2) hh2
    have hne : (Value.slice p2 L.length cap2).ownBlock ≠ some w.heap.size := fun e => by have := (o2.lt _ e).1; rw [World.size_alloc] at this; omega
    have K : Keep (fun k => k = w.heap.size) w2 (w2.setCell ⟨w.heap.size, 1, none⟩ (.slice p2 L.length cap2)) := ⟨rfl, rfl, rfl, by simp [World.setCell], fun k _ hk => heap_setCell_other w2 ⟨w.heap.size, 1, none⟩ k _ (fun e => hk (by simp at e; exact e.symm ▸ rfl))⟩
    have HE : Hid (QAt (QF w.heap.size (.slice p2 L.length cap2)) (w2.setCell ⟨w.heap.size, 1, none⟩ (.slice p2 L.length cap2)) w.heap.size _ lt Z n ∧ Below w.heap.size w (w2.setCell ⟨w.heap.size, 1, none⟩ (.slice p2 L.length cap2)) ∧ ∀ k, QF w.heap.size (.slice p2 L.length cap2) k → w.heap.size ≤ k) :=
      hide ⟨⟨hC, L, _, ⟨⟨by rw [hb2]; rfl, owns_keep (qowns_base o2) K (fun k hk e => hne (e ▸ hk)), hne, (unhide HL).small⟩, fun p hp => ⟨(unhide HDS p hp _ ((hb1.trans (b2.mono (by simp))).setCell (p := ⟨w.heap.size, 1, none⟩) (Nat.le_refl _) _)), fun k hk hf => by
        have := unhide HDL p hp k hk
        rcases hf with hf | hf
        · omega
        · have := (o2.lt _ hf).1; rw [World.size_alloc] at this; omega⟩⟩, unhide HQ, fun _ => Iff.rfl⟩, (hb1.trans (b2.mono (by simp))).setCell (p := ⟨w.heap.size, 1, none⟩) (Nat.le_refl _) _, fun k hk => by
        rcases hk with hk | hk
        · omega
        · have := (o2.lt _ hk).1; rw [World.size_alloc] at this; omega⟩
    clear o2 b2 hh2 hs2 hb2 hne K
    go_wp2_with fail
    go_ret
    exact ⟨_, _, rfl, unhide HE⟩
end Go.Proofs.Ytcjepiihknjeiaa.QH

/- The heads that stand in a queue, and the lists that they are of. -/
namespace Go.Proofs.Ytcjepiihknjeiaa.QH
open Go.RowKit

/-- A head's entry, and its key. -/
def Hd.fst (x : Hd) : En := x.es.headD zeroEn
def keyH (x : Hd) : ByteArray := x.fst.1
def ltH (a b : Hd) : Bool := if keyH a = keyH b then decide (a.of < b.of) else tl (keyH a).toList (keyH b).toList
theorem ltH_eq {a b : Hd} (h : keyH a = keyH b) : ltH a b = decide (a.of < b.of) := by unfold ltH; rw [if_pos h]
theorem ltH_ne {a b : Hd} (h : keyH a ≠ keyH b) : ltH a b = tl (keyH a).toList (keyH b).toList := by unfold ltH; rw [if_neg h]
theorem tl_ne {a b : ByteArray} (h : tl a.toList b.toList = true) : a ≠ b := fun e => by rw [e, tl_irr] at h; cases h
theorem tl_of_ne {a b : ByteArray} (h : a ≠ b) (h2 : tl b.toList a.toList = false) : tl a.toList b.toList = true := by
  cases r : tl a.toList b.toList with
  | true => rfl
  | false => exact absurd (bl_inj (tl_total _ _ r h2)) h
theorem orderH : Order ltH where
  irr := fun a => by rw [ltH_eq rfl]; simp
  tr := fun a b c h1 h2 => by
    by_cases e1 : keyH a = keyH b
    · by_cases e2 : keyH b = keyH c
      · rw [ltH_eq e1] at h1; rw [ltH_eq e2] at h2; rw [ltH_eq (e1.trans e2)]
        simp only [decide_eq_true_eq] at *; omega
      · rw [ltH_ne (fun e => e2 (e1.symm.trans e)), e1]
        rwa [ltH_ne e2] at h2
    · rw [ltH_ne e1] at h1
      by_cases e2 : keyH b = keyH c
      · rw [ltH_ne (fun e => e1 (e.trans e2.symm)), ← e2]; exact h1
      · rw [ltH_ne e2] at h2
        have h3 := tl_trans _ _ _ h1 h2
        rw [ltH_ne (tl_ne h3)]; exact h3
  ntr := fun a b c h1 h2 => by
    by_cases e1 : keyH b = keyH a
    · by_cases e2 : keyH c = keyH b
      · rw [ltH_eq e1] at h1; rw [ltH_eq e2] at h2; rw [ltH_eq (e2.trans e1)]
        simp only [decide_eq_false_iff_not] at *; omega
      · rw [ltH_ne (fun e => e2 (e.trans e1.symm)), ← e1]
        rwa [ltH_ne e2] at h2
    · rw [ltH_ne e1] at h1
      by_cases e2 : keyH c = keyH b
      · rw [ltH_ne (fun e => e1 (e2.symm.trans e)), e2]; exact h1
      · rw [ltH_ne e2] at h2
        have a1 := tl_of_ne (fun e => e1 e.symm) h1
        have a2 := tl_of_ne (fun e => e2 e.symm) h2
        have h3 := tl_trans _ _ _ a1 a2
        rw [ltH_ne (fun e => tl_ne h3 e.symm)]
        exact tl_asym _ _ h3

/-- The heads of what is left of the lists. -/
structure Hs (Z : List Hd) (S : List (List En)) : Prop where
  nodup : (Z.map Hd.of).Nodup
  mem : ∀ x ∈ Z, ∃ i : Nat, x.of = (i : Int) ∧ S[i]? = some x.es ∧ x.es ≠ []
  all : ∀ (i : Nat) (l : List En), S[i]? = some l → l ≠ [] → ∃ x ∈ Z, x.of = (i : Int)
theorem Hs.perm {Z Z' : List Hd} {S : List (List En)} (h : Hs Z S) (hp : Z'.Perm Z) : Hs Z' S :=
  ⟨((hp.map Hd.of).nodup_iff).2 h.nodup, fun x hx => h.mem x (hp.mem_iff.1 hx), fun i l h1 h2 => by
    obtain ⟨x, hx, e⟩ := h.all i l h1 h2
    exact ⟨x, hp.mem_iff.2 hx, e⟩⟩
def hE (x : Hd) : Nat × En := (x.of.toNat, x.fst)
theorem es_fst {x : Hd} (h : x.es ≠ []) : x.es = x.fst :: x.es.tail := by
  unfold Hd.fst
  cases hx : x.es with
  | nil => exact absurd hx h
  | cons y t => rfl
theorem sorted_ext : ∀ (a b : List (Nat × En)), (a.Pairwise fun x y => x.1 < y.1) → (b.Pairwise fun x y => x.1 < y.1) → (∀ x, x ∈ a ↔ x ∈ b) → a = b
  | [], [], _, _, _ => rfl
  | [], y :: b, _, _, h => by have := (h y).2 (by simp); cases this
  | x :: a, [], _, _, h => by have := (h x).1 (by simp); cases this
  | x :: a, y :: b, ha, hb, h => by
    obtain ⟨a1, a2⟩ := List.pairwise_cons.1 ha
    obtain ⟨b1, b2⟩ := List.pairwise_cons.1 hb
    have hxy : x = y := by
      rcases List.mem_cons.1 ((h x).1 (by simp)) with e | e
      · exact e
      · rcases List.mem_cons.1 ((h y).2 (by simp)) with e2 | e2
        · exact e2.symm
        · have := a1 y e2; have := b1 x e; omega
    subst hxy
    rw [sorted_ext a b a2 b2 fun z => ?_]
    constructor
    · intro hz
      rcases List.mem_cons.1 ((h z).1 (by simp [hz])) with rfl | e
      · have := a1 z hz; omega
      · exact e
    · intro hz
      rcases List.mem_cons.1 ((h z).2 (by simp [hz])) with rfl | e
      · have := b1 z hz; omega
      · exact e

/-- Those of the least key come first. -/
def rowH (Z : List Hd) (k : ByteArray) : List Hd := Z.takeWhile fun x => decide (keyH x = k)
def behH (Z : List Hd) (k : ByteArray) : List Hd := Z.dropWhile fun x => decide (keyH x = k)
theorem row_beh (Z : List Hd) (k : ByteArray) : rowH Z k ++ behH Z k = Z := List.takeWhile_append_dropWhile
theorem takeWhile_all {α : Type} (p : α → Bool) : ∀ (l : List α) (x : α), x ∈ l.takeWhile p → p x = true
  | [], _, h => by cases h
  | y :: l, x, h => by
    rw [List.takeWhile_cons] at h
    by_cases q : p y = true
    · rw [if_pos q] at h
      rcases List.mem_cons.1 h with rfl | h
      · exact q
      · exact takeWhile_all p l x h
    · rw [if_neg q] at h; cases h
theorem rowH_key {Z : List Hd} {k : ByteArray} : ∀ x ∈ rowH Z k, keyH x = k := fun x hx => by
  simpa using takeWhile_all _ _ _ hx
theorem least_key {Z : List Hd} {S : List (List En)} {z : Hd} (h : Hs (z :: Z) S) (hs : ∀ l ∈ S, SE l) (hsrt : (z :: Z).Pairwise fun a b => ltH b a = false) : ∃ x, leastE S = some x ∧ keyH z = x.1 := by
  obtain ⟨i, e1, e2, e3⟩ := h.mem z (by simp)
  cases hl : leastE S with
  | none => exact absurd (least_none S hl z.es (List.mem_of_getElem? e2)) e3
  | some x =>
    refine ⟨x, rfl, ?_⟩
    obtain ⟨h1, h2⟩ := least_some S x hs hl
    have hz1 := h1 _ (List.mem_of_getElem? e2) z.fst (by rw [es_fst e3]; simp)
    obtain ⟨j, r, hr⟩ := hdK_first S 0 x hl
    obtain ⟨t, _, h3, _⟩ := (hdK_mem x.1 S 0 j x).1 (by rw [hr]; simp)
    rw [Nat.sub_zero] at h3
    obtain ⟨y, hy, ey⟩ := h.all j _ h3 (by simp)
    obtain ⟨j', f1, f2, f3⟩ := h.mem y hy
    obtain rfl : j' = j := by omega
    have hye : y.es = x :: t := Option.some.inj (f2.symm.trans h3)
    have hyk : keyH y = x.1 := by unfold keyH Hd.fst; rw [hye]; rfl
    by_cases e : keyH z = x.1
    · exact e
    · exfalso
      have hxz : tl x.1.toList (keyH z).toList = true := tl_of_ne (fun h => e h.symm) hz1
      have hlt : ltH y z = true := by
        rw [ltH_ne (by rw [hyk]; exact fun h => e h.symm), hyk]; exact hxz
      rcases List.mem_cons.1 hy with rfl | hy
      · exact e hyk
      · rw [(List.pairwise_cons.1 hsrt).1 y hy] at hlt; cases hlt
theorem row_is {Z : List Hd} {S : List (List En)} {x : En} (h : Hs Z S) (hs : ∀ l ∈ S, SE l) (hsrt : Z.Pairwise fun a b => ltH b a = false) (hl : leastE S = some x) : (rowH Z x.1).map hE = hdK x.1 0 S := by
  have hsub : ∀ y ∈ rowH Z x.1, y ∈ Z := fun y hy => by rw [← row_beh Z x.1]; simp [hy]
  have hpw : (rowH Z x.1).Pairwise fun a b => ltH b a = false := hsrt.sublist (List.takeWhile_sublist _)
  have hnd : ((rowH Z x.1).map Hd.of).Nodup := (((List.takeWhile_sublist _).map Hd.of)).nodup h.nodup
  refine sorted_ext _ _ ?_ (hdK_sorted _ _ _) ?_
  · rw [List.pairwise_map]
    have hnd2 : (rowH Z x.1).Pairwise fun a b => a.of ≠ b.of := List.pairwise_map.1 hnd
    refine (hpw.and hnd2).imp_of_mem ?_
    intro a b ha hb ⟨h1, h2⟩
    rw [ltH_eq ((rowH_key b hb).trans (rowH_key a ha).symm)] at h1
    simp only [decide_eq_false_iff_not] at h1
    obtain ⟨i, e1, _⟩ := h.mem a (hsub a ha)
    obtain ⟨j, e2, _⟩ := h.mem b (hsub b hb)
    show a.of.toNat < b.of.toNat
    omega
  · rintro ⟨i, y⟩
    rw [List.mem_map, hdK_mem, Nat.sub_zero]
    constructor
    · rintro ⟨a, ha, e⟩
      obtain ⟨j, e1, e2, e3⟩ := h.mem a (hsub a ha)
      have hk := rowH_key a ha
      unfold hE at e
      obtain ⟨rfl, rfl⟩ := Prod.mk.injEq .. ▸ e
      exact ⟨a.es.tail, Nat.zero_le _, by rw [← es_fst e3, e1, Int.toNat_natCast]; exact e2, hk⟩
    · rintro ⟨t, _, h2, h3⟩
      obtain ⟨a, ha, e⟩ := h.all i _ h2 (by simp)
      obtain ⟨j, e1, e2, e3⟩ := h.mem a ha
      obtain rfl : j = i := by omega
      have hae : a.es = y :: t := Option.some.inj (e2.symm.trans h2)
      have haf : a.fst = y := by unfold Hd.fst; rw [hae]; rfl
      have hak : keyH a = x.1 := by unfold keyH; rw [haf]; exact h3
      refine ⟨a, ?_, by unfold hE; rw [e, haf, Int.toNat_natCast]⟩
      rw [← row_beh Z x.1] at ha
      rcases List.mem_append.1 ha with ha | ha
      · exact ha
      · exfalso
        cases hb : behH Z x.1 with
        | nil => rw [hb] at ha; cases ha
        | cons b B =>
          have hbk : ¬ keyH b = x.1 := by
            have := List.head_dropWhile_not (fun y : Hd => decide (keyH y = x.1)) (l := Z) (by unfold behH at hb; rw [hb]; simp)
            simp only [show Z.dropWhile (fun y : Hd => decide (keyH y = x.1)) = b :: B from hb, List.head_cons, decide_eq_false_iff_not] at this
            exact this
          rw [hb] at ha
          have hbz : b ∈ Z := by rw [← row_beh Z x.1, hb]; simp
          obtain ⟨jb, f1, f2, f3⟩ := h.mem b hbz
          have hbl := (least_some S x hs hl).1 _ (List.mem_of_getElem? f2) b.fst (by rw [es_fst f3]; simp)
          have hlt : ltH a b = true := by
            rw [ltH_ne (by rw [hak]; exact fun h => hbk h.symm), hak]
            exact tl_of_ne (fun h => hbk h.symm) hbl
          rcases List.mem_cons.1 ha with rfl | ha
          · exact hbk hak
          · have hpb : (b :: B).Pairwise fun a b => ltH b a = false := by rw [← hb]; exact hsrt.sublist (List.dropWhile_sublist _)
            rw [(List.pairwise_cons.1 hpb).1 a ha] at hlt
            cases hlt

/-- What is left behind a head's first entry. -/
def tlH (x : Hd) : Hd := ⟨x.of, x.p.map fun a => a.add 4, x.n - 1, x.c - 1, x.es.tail⟩
def nextH (A : List Hd) : List Hd := (A.map tlH).filter fun x => !x.es.isEmpty
theorem Hs.next {Z : List Hd} {S : List (List En)} {x : En} (h : Hs Z S) (hs : ∀ l ∈ S, SE l) (hsrt : Z.Pairwise fun a b => ltH b a = false) (hl : leastE S = some x) : Hs (nextH (rowH Z x.1) ++ behH Z x.1) (S.map (drop1 x.1)) := by
  have hZ := row_beh Z x.1
  have hin : ∀ y, y ∈ Z ↔ y ∈ rowH Z x.1 ∨ y ∈ behH Z x.1 := fun y => by rw [← List.mem_append, hZ]
  have hof : ((rowH Z x.1).map tlH).map Hd.of = (rowH Z x.1).map Hd.of := by rw [List.map_map]; rfl
  have hdrop : ∀ y ∈ Z, keyH y = x.1 → drop1 x.1 y.es = y.es.tail := fun y hy hk => by
    obtain ⟨i, _, _, e3⟩ := h.mem y hy
    rw [es_fst e3, drop1_cons, if_pos (show y.fst.1 = x.1 from hk)]; rfl
  have hkeep : ∀ y ∈ Z, keyH y ≠ x.1 → drop1 x.1 y.es = y.es := fun y hy hk => by
    obtain ⟨i, _, _, e3⟩ := h.mem y hy
    rw [es_fst e3, drop1_cons, if_neg (show ¬ y.fst.1 = x.1 from hk)]
  have hbeh : ∀ y ∈ behH Z x.1, keyH y ≠ x.1 := fun y hy hk => by
    have hyZ := (hin y).2 (Or.inr hy)
    obtain ⟨i, e1, e2, e3⟩ := h.mem y hyZ
    have hm : hE y ∈ hdK x.1 0 S := (hdK_mem x.1 S 0 y.of.toNat y.fst).2 ⟨y.es.tail, Nat.zero_le _, by rw [Nat.sub_zero, ← es_fst e3, e1, Int.toNat_natCast]; exact e2, hk⟩
    rw [← row_is h hs hsrt hl] at hm
    obtain ⟨a, ha, e⟩ := List.mem_map.1 hm
    have hofs : a.of = y.of := by
      obtain ⟨j, f1, _⟩ := h.mem a ((hin a).2 (Or.inl ha))
      have := congrArg Prod.fst e
      unfold hE at this
      simp only at this
      omega
    have hnd := h.nodup
    rw [← hZ, List.map_append] at hnd
    exact (List.nodup_append.1 hnd).2.2 _ (List.mem_map_of_mem ha) _ (List.mem_map_of_mem hy) hofs
  refine ⟨?_, fun y hy => ?_, fun i l h1 h2 => ?_⟩
  · have h1 : ((nextH (rowH Z x.1)).map Hd.of).Sublist ((rowH Z x.1).map Hd.of) := by rw [← hof]; exact (List.filter_sublist).map _
    rw [List.map_append]
    have h2 := h1.append (List.Sublist.refl ((behH Z x.1).map Hd.of))
    refine h2.nodup ?_
    rw [← List.map_append, hZ]
    exact h.nodup
  · rcases List.mem_append.1 hy with hy | hy
    · obtain ⟨hy1, hy2⟩ := List.mem_filter.1 hy
      obtain ⟨a, ha, rfl⟩ := List.mem_map.1 hy1
      obtain ⟨i, e1, e2, e3⟩ := h.mem a ((hin a).2 (Or.inl ha))
      refine ⟨i, e1, ?_, by simpa using hy2⟩
      rw [List.getElem?_map, e2, Option.map_some, hdrop a ((hin a).2 (Or.inl ha)) (rowH_key a ha)]
      rfl
    · obtain ⟨i, e1, e2, e3⟩ := h.mem y ((hin y).2 (Or.inr hy))
      refine ⟨i, e1, ?_, e3⟩
      rw [List.getElem?_map, e2, Option.map_some, hkeep y ((hin y).2 (Or.inr hy)) (hbeh y hy)]
  · rw [List.getElem?_map] at h1
    cases hS : S[i]? with
    | none => rw [hS] at h1; cases h1
    | some m =>
      rw [hS] at h1
      obtain rfl : drop1 x.1 m = l := Option.some.inj h1
      have hm : m ≠ [] := fun e => h2 (by rw [e]; rfl)
      obtain ⟨a, ha, e⟩ := h.all i m hS hm
      obtain ⟨j, f1, f2, f3⟩ := h.mem a ha
      obtain rfl : j = i := by omega
      have hae : m = a.es := Option.some.inj (hS.symm.trans f2)
      rcases (hin a).1 ha with ha2 | ha2
      · refine ⟨tlH a, List.mem_append.2 (Or.inl (List.mem_filter.2 ⟨List.mem_map_of_mem ha2, ?_⟩)), e⟩
        rw [hae, hdrop a ha (rowH_key a ha2)] at h2
        show (!a.es.tail.isEmpty) = true
        cases ht : a.es.tail with
        | nil => exact absurd ht h2
        | cons _ _ => rfl
      · exact ⟨a, List.mem_append.2 (Or.inr ha2), e⟩
theorem ins_perm (lt : Hd → Hd → Bool) (v : Hd) : ∀ Z : List Hd, (ins lt v Z).Perm (v :: Z)
  | [] => List.Perm.refl _
  | z :: Z => by
    unfold ins
    split
    · exact List.Perm.refl _
    · exact ((ins_perm lt v Z).cons z).trans (List.Perm.swap v z Z)
end Go.Proofs.Ytcjepiihknjeiaa.QH
