/- Texts of ours, one behind the other: OpLast, OpSpoil. -/
import Derived.Test.YtjkkdijoogiipaaG12
import Derived.Test.YtjkkdijoogiipaaG14
import Derived.Test.YtjkkdijoogiipaaG16
import Derived.Test.YtjkkdijoogiipaaG19
import Derived.Lib.SliceRun
/- Package batch as landed: Last. -/
namespace Go.Proofs.Ytjkkdijoogiipaa
open Go.RowKit

theorem empty_own (w : World) (e size : Nat) : (w.alloc (.cells #[] e)).ownsRow w.heap.size e size (.slice (some ⟨w.heap.size, 0, none⟩) 0 0) 0 [] :=
  ⟨by simp, Or.inr ⟨w.heap.size, 0, #[], rfl, Nat.le_refl _, heap_alloc_new _ _, Nat.le_refl _, Nat.zero_le _, by simp, by simp⟩⟩

/-- Each with its place as a mark. -/
def tagD (L : List El) : List (Opv × Nat) := L.zipIdx.map fun x => (x.1.1, x.2)
theorem tag_len (L : List El) : (tagD L).length = L.length := by simp [tagD]
theorem tag_get (L : List El) (i : Nat) (x : Opv × Nat) : (tagD L)[i]? = some x ↔ ∃ y, L[i]? = some y ∧ x = (y.1, i) := by
  simp only [tagD, List.getElem?_map, List.getElem?_zipIdx, Option.map_map, Option.map_eq_some_iff, Nat.zero_add, Function.comp_def]
  constructor
  · rintro ⟨y, h1, h2⟩; exact ⟨y, h1, h2.symm⟩
  · rintro ⟨y, h1, h2⟩; exact ⟨y, h1, h2.symm⟩
theorem tag_cells (L : List El) : (tagD L).flatMap opT = elC opC L := by
  suffices ∀ k, ((L.zipIdx k).map fun x => (x.1.1, x.2)).flatMap opT = elC opC L from this 0
  induction L with
  | nil => intro k; rfl
  | cons x L ih => intro k; rw [List.zipIdx_cons, List.map_cons, List.flatMap_cons, ih]; simp [elC, opT]
def datAt (L : List El) (x : Opv × Nat) : Dat := match L[x.2]? with
  | some y => datOf y
  | none => (⟨#[]⟩, [], false)
/-- What sorting has made of the row: each is one that came in. -/
theorem tag_of {L : List El} {E : List (Opv × Nat)} (hp : E.Perm (tagD L)) {x : Opv × Nat} (hx : x ∈ E) : ∃ y, L[x.2]? = some y ∧ x.1 = y.1 := by
  obtain ⟨i, hi⟩ := List.mem_iff_getElem?.1 (hp.mem_iff.1 hx)
  obtain ⟨y, h1, h2⟩ := (tag_get L i x).1 hi
  rw [h2]
  exact ⟨y, h1, rfl⟩
theorem last_of {L : List El} {E : List (Opv × Nat)} (hp : E.Perm (tagD L)) (hs : So klt E 0 E.length) : (dedTo E E.length).map (datAt L) = lastD (dat L) := by
  refine ded_last hs (fun x hx => ?_) (fun t ht => ?_)
  · obtain ⟨y, h1, h2⟩ := tag_of hp hx
    have e : datAt L x = datOf y := by unfold datAt; rw [h1]
    rw [e]
    refine ⟨?_, by rw [h2]; rfl⟩
    unfold dat
    rw [List.getElem?_map, h1]
    rfl
  · rw [dat_len] at ht
    refine ⟨(L[t].1, t), hp.mem_iff.2 (List.mem_iff_getElem?.2 ⟨t, (tag_get L t _).2 ⟨L[t], List.getElem?_eq_getElem ht, rfl⟩⟩), rfl⟩

theorem keep_set5 {w : World} {g j : Nat} {v : Value} : Keep (fun k => k = g) w (w.setCell ⟨g, j, none⟩ v) :=
  ⟨rfl, rfl, rfl, by simp [World.setCell], fun k _ hk => heap_setCell_other w ⟨g, j, none⟩ k _ (fun e => hk (by simp at e; exact e.symm ▸ rfl))⟩
theorem Mine.keep5 {F : Nat → Prop} {w w' : World} {base : Nat} {t : Value} {bs : List UInt8} (h : Mine w base t bs) (hk : Keep F w w') (hn : ∀ b, base ≤ b → ¬ F b) : Mine w' base t bs := by
  by_cases hne : bs = []
  · subst hne
    exact ⟨h.1.keep hk (fun _ _ _ _ h => absurd rfl h), Or.inl rfl⟩
  · rcases h.2 with h2 | ⟨g, off, cap, e, cur, ht, hg, hh⟩
    · exact absurd h2 hne
    · refine ⟨h.1.keep hk (fun b off' c' e' _ => ?_), Or.inr ⟨g, off, cap, e, cur, ht, hg, (hk.block g (Array.getElem?_eq_some_iff.1 hh).1 (hn g hg)).trans hh⟩⟩
      rw [ht] at e'
      simp only [Value.slice.injEq, Option.some.injEq, Addr.mk.injEq, and_true] at e'
      rw [← e'.1.1]
      exact hn g hg

end Go.Proofs.Ytjkkdijoogiipaa

/- What the helper Spoil writes, by its block; and the values of a row of the call's own, spoiled one behind the other. -/
namespace Go.Proofs.Ytjkkdijoogiipaa
open Go.RowKit

theorem spoil_keep (s : Value) (bs : List UInt8) (base : Nat) (w : World) (ho : Mine w base s bs) :
    Calls Try.prog 9 #[s] w fun e w' => e = .returned (.tuple #[]) ∧ ((bs = [] ∧ w' = w) ∨ bs ≠ [] ∧ ∃ g off n c, s = .slice (some ⟨g, off, none⟩) n c ∧ base ≤ g ∧ g < w.heap.size ∧ Keep (fun k => k = g) w w') := by
  by_cases h0 : bs = []
  · subst h0
    obtain ⟨p, c, l, rfl, hl⟩ := ho.1.shape
    simp only [List.length_nil] at hl
    subst hl
    go_enter Try.func9, Try.ntmps9
    go_wp2
    refine wp_loop_rounds 1 ?_
    rw [rounds_succ]
    go_wp2
    go_end0
    exact ⟨rfl, Or.inl ⟨trivial, rfl⟩⟩
  · rcases ho.2 with h2 | ⟨g, off, cap, e, cur, rfl, hg, hh⟩
    · exact absurd h2 h0
    obtain ⟨g', off', cap', e', hc1, hc2, hcell⟩ := ho.1.open h0
    simp only [Value.slice.injEq, Option.some.injEq, Addr.mk.injEq, and_true, true_and] at e'
    obtain ⟨⟨rfl, rfl⟩, rfl⟩ := e'
    have hint : ∀ j, j < bs.length → ∃ z : Int, cur[off + j]? = some (.int .u8 z) := fun j hj => by
      have h := hcell j hj
      rw [cell_of_row w g (off + j) cur _ (0, 0) hh] at h
      exact ⟨(bs[j].toNat : Int), h⟩
    have HG := hide (And.intro hg (Array.getElem?_eq_some_iff.1 hh).1)
    clear ho hcell hg
    unfold maxLen at hc2
    go_enter Try.func9, Try.ntmps9
    go_wp2
    go_loopw [2] (fun i wr => ∃ (k : Nat) (cur : Array Value), k ≤ bs.length ∧ i = .int .i64 k ∧ wr.heap[g]? = some (.cells cur e (0, 0)) ∧ Hid ((∀ j, j < bs.length → ∃ z : Int, cur[off + j]? = some (.int .u8 z)) ∧ Keep (fun q => q = g) w wr))
      (fun i _ => bs.length - (intOf i).toNat)
    case atStart => exact ⟨0, cur, Nat.zero_le _, rfl, hh, hint, Keep.refl _ _⟩
    case round =>
      obtain ⟨k, cur, hk, rfl, hblk, hst⟩ := hrel
      by_cases hlt : k < bs.length
      · obtain ⟨z, hz⟩ := (unhide hst).1 k hlt
        have hc : wr.cell? ⟨g, off + k, none⟩ = some (.int .u8 z) := by rw [cell_of_row wr g (off + k) cur _ (0, 0) hblk]; exact hz
        have hf : wr.frozen? ⟨g, off + k, none⟩ = false := frozen_of_block hblk
        have hsz : off + k < cur.size := (Array.getElem?_eq_some_iff.1 hz).1
        clear hz
        go_wp2
        go_roundw
        case rel =>
          refine ⟨k + 1, cur.setIfInBounds (off + k) _, by omega, by go_num, heap_setCell_same wr g (off + k) cur _ _ hblk, ?_, (unhide hst).2.trans keep_set5 (fun _ h => Or.inl h)⟩
          intro j hj
          by_cases hjk : k = j
          · subst hjk
            exact ⟨_, by rw [Array.getElem?_setIfInBounds_self_of_lt hsz]⟩
          · rw [Array.getElem?_setIfInBounds_ne (by omega)]
            exact (unhide hst).1 j hj
        case measure => simp [intOf]; omega
      · have hkn : k = bs.length := by omega
        subst hkn
        go_wp2
        go_end0
        exact ⟨rfl, Or.inr ⟨h0, g, off, _, _, rfl, (unhide HG).1, (unhide HG).2, (unhide hst).2⟩⟩

theorem owns_keep6 {F : Nat → Prop} {w w' : World} {base e sz : Nat} {v : Value} {n : Nat} {xs : List Value} (h : w.ownsRow base e sz v n xs) (hk : Keep F w w') (hn : ∀ k, v.ownBlock = some k → ¬ F k) : w'.ownsRow base e sz v n xs := by
  refine ⟨h.1, ?_⟩
  rcases h.2 with h2 | ⟨g, cap, cur, rfl, hg, hh, r⟩
  · exact Or.inl h2
  · exact Or.inr ⟨g, cap, cur, rfl, hg, (hk.block g (Array.getElem?_eq_some_iff.1 hh).1 (hn g rfl)).trans hh, r⟩
theorem Mine.keep6 {F : Nat → Prop} {w w' : World} {base : Nat} {t : Value} {bs : List UInt8} (h : Mine w base t bs) (hk : Keep F w w') (hn : ∀ b off n c, t = .slice (some ⟨b, off, none⟩) n c → bs ≠ [] → ¬ F b) : Mine w' base t bs := by
  refine ⟨h.1.keep hk (fun b off' c' e' hne => hn b off' _ c' e' hne), ?_⟩
  rcases h.2 with h2 | ⟨g, off, cap, e, cur, ht, hg, hh⟩
  · exact Or.inl h2
  · by_cases hne : bs = []
    · exact Or.inl hne
    · exact Or.inr ⟨g, off, cap, e, cur, ht, hg, (hk.block g (Array.getElem?_eq_some_iff.1 hh).1 (hn g off _ cap ht hne)).trans hh⟩

/-- While the values of a row of the call's own are spoiled one behind the other: those from i on are whole. -/
structure Spo (T k : Nat) (cf : Opv → List Value) (w1 : World) (base : Nat) (wr : World) (vl : Value) (Ll : List El) (i : Nat) : Prop where
  row : wr.ownsRow base T k vl Ll.length (elC cf Ll)
  val : ∀ (j : Nat) (x : El), i ≤ j → Ll[j]? = some x → Mine wr base (vof x.1) x.2
  bel : Below base w1 wr
theorem Spo.step {T k : Nat} {cf : Opv → List Value} {w1 wr w' : World} {base : Nat} {vl : Value} {Ll : List El} {i : Nat} (h : Spo T k cf w1 base wr vl Ll i) (hb : base ≤ wr.heap.size) (hi : i < Ll.length) (hap : ∀ x ∈ Ll, ∀ b off, x.1.p = some ⟨b, off, none⟩ → x.2 ≠ [] → vl.ownBlock ≠ some b) (hd : Dif Ll)
    (hs : (Ll[i].2 = [] ∧ w' = wr) ∨ Ll[i].2 ≠ [] ∧ ∃ g off n c, vof Ll[i].1 = .slice (some ⟨g, off, none⟩) n c ∧ base ≤ g ∧ g < wr.heap.size ∧ Keep (fun k => k = g) wr w') : Spo T k cf w1 base w' vl Ll (i + 1) := by
  rcases hs with ⟨_, rfl⟩ | ⟨hne, g, off, n, c, e, hg, hgl, hk⟩
  · exact ⟨h.row, fun j x hj hx => h.val j x (by omega) hx, h.bel⟩
  · have ei : Ll[i]? = some Ll[i] := List.getElem?_eq_getElem hi
    have hp : Ll[i].1.p = some ⟨g, off, none⟩ := by unfold vof at e; simp only [Value.slice.injEq] at e; exact e.1
    refine ⟨?_, fun j x hj hx => ?_, ?_⟩
    · refine owns_keep6 h.row hk (fun q hq e2 => ?_)
      subst e2
      exact hap _ (List.getElem_mem hi) q off hp hne hq
    · refine (h.val j x (by omega) hx).keep6 hk (fun b off' n' c' e' hne2 e2 => ?_)
      subst e2
      have hp' : x.1.p = some ⟨b, off', none⟩ := by unfold vof at e'; simp only [Value.slice.injEq] at e'; exact e'.1
      exact hd i j _ x b off off' (by omega) ei hx hne hne2 hp hp'
    · exact h.bel.trans (hk.below hb (fun q e2 => by omega))
end Go.Proofs.Ytjkkdijoogiipaa
