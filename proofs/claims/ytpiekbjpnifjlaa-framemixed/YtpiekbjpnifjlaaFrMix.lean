/- Frames less, twice and mixed, as plain data; and a slice of frames of the call's own into which a frame is stored. -/
import Derived.Test.YtpiekbjpnifjlaaFrOwnL
import Derived.Deep.RegionLaw
namespace Go.Proofs.Ytpiekbjpnifjlaa
open Go.RowKit

/-- A list whose length is not what one of its frames says is no record. -/
theorem not_rec_len {l : List Fr} {f : Fr} (hm : f ∈ l) (h : (l.length : Int) ≠ f.of) : ¬ IsRec l := fun hr => by
  obtain ⟨j, hj, rfl⟩ := List.getElem_of_mem hm
  exact h (isRec_len hr hj).1
theorem mem_frames_of {A C : Nat} {r : List UInt8} {f : Fr} (h : f ∈ framesN A C r) : f.of = countN r.length := by
  obtain ⟨j, hj, rfl⟩ := List.getElem_of_mem h
  rw [frames_get]
theorem less_no (A C : Nat) (r : List UInt8) (k : Nat) (hk : k < (framesN A C r).length) (h1 : 1 < (framesN A C r).length) : ¬ IsRec ((framesN A C r).take k ++ (framesN A C r).drop (k + 1)) := by
  have hl := length_frames A C r
  have hlen : ((framesN A C r).take k ++ (framesN A C r).drop (k + 1)).length = (framesN A C r).length - 1 := by
    rw [List.length_append, List.length_take, List.length_drop]; omega
  cases he : (framesN A C r).take k ++ (framesN A C r).drop (k + 1) with
  | nil => rw [he] at hlen; simp at hlen; omega
  | cons f t =>
    have hf : f ∈ (framesN A C r).take k ++ (framesN A C r).drop (k + 1) := by rw [he]; exact List.mem_cons_self
    have hf2 : f ∈ framesN A C r := by
      rcases List.mem_append.1 hf with h | h
      · exact List.mem_of_mem_take h
      · exact List.mem_of_mem_drop h
    rw [← he]
    refine not_rec_len hf ?_
    rw [hlen, mem_frames_of hf2, ← hl]
    omega
theorem twice_no (A C : Nat) (r : List UInt8) (k : Nat) (hk : k < (framesN A C r).length) : ¬ IsRec ((framesN A C r).take (k + 1) ++ (framesN A C r).drop k) := by
  have hl := length_frames A C r
  have hlen : ((framesN A C r).take (k + 1) ++ (framesN A C r).drop k).length = (framesN A C r).length + 1 := by
    rw [List.length_append, List.length_take, List.length_drop]; omega
  have hf2 : (framesN A C r)[k] ∈ framesN A C r := List.getElem_mem hk
  have hf : (framesN A C r)[k] ∈ (framesN A C r).take (k + 1) ++ (framesN A C r).drop k := by
    refine List.mem_append_right _ ?_
    rw [List.drop_eq_getElem_cons hk]
    exact List.mem_cons_self
  refine not_rec_len hf ?_
  rw [hlen, mem_frames_of hf2, ← hl]
  omega
theorem hd_get (l : List Fr) (h : 0 < l.length) : l.headD zeroF = l[0] := by cases l with | nil => simp at h | cons x xs => rfl
theorem mixed_iff (A C O T : Nat) (r t : List UInt8) (hr : r.length ≤ 8192) (ht : t.length ≤ 8192) (k : Nat) (hk : k < (framesN A C r).length) (hk2 : k < (framesN O T t).length) (h1 : (framesN A C r).length ≠ 1) :
    IsRec ((framesN A C r).set k (framesN O T t)[k]) ↔ (A = O ∧ C = T ∧ (framesN A C r).length = (framesN O T t).length) := by
  have hl := length_frames A C r
  have hl2 := length_frames O T t
  have hg2 := frames_get O T t k hk2
  constructor
  · intro h
    generalize (framesN O T t)[k] = X at *
    -- another place than k
    obtain ⟨j, hj, hjk⟩ : ∃ j, j < (framesN A C r).length ∧ j ≠ k := by
      by_cases h0 : k = 0
      · exact ⟨1, by omega, by omega⟩
      · exact ⟨0, by omega, by omega⟩
    have hlen : ((framesN A C r).set k X).length = (framesN A C r).length := by simp
    have a1 := isRec_len h (j := k) (by omega)
    have a2 := isRec_len h (j := j) (by omega)
    rw [List.getElem_set_self] at a1
    rw [List.getElem_set_ne (by omega), frames_get] at a2
    have x1 : X.age = O := by rw [hg2]
    have x2 : X.first = T := by rw [hg2]
    have x3 : X.of = countN t.length := by rw [hg2]
    simp only at a2
    refine ⟨by rw [a2.2.1, ← a1.2.1, x1], by rw [a2.2.2, ← a1.2.2, x2], ?_⟩
    have a0 := a1.1
    rw [hlen, x3] at a0
    omega
  · rintro ⟨rfl, rfl, hn⟩
    apply whole_isRec
    have hw1 := isRec_whole (isRec_frames A C r hr)
    have hw2 := isRec_whole (isRec_frames A C t ht)
    have hpos : 0 < (framesN A C r).length := by omega
    have hcn : countN r.length = countN t.length := by omega
    obtain ⟨L, hL⟩ : ∃ L, L = (framesN A C r).set k (framesN A C t)[k] := ⟨_, rfl⟩
    rw [← hL]
    have hLl : L.length = (framesN A C r).length := by rw [hL]; simp
    have hget : ∀ i (hi : i < L.length), L[i] = if i = k then ⟨A, C, countN r.length, partN t i⟩ else ⟨A, C, countN r.length, partN r i⟩ := by
      intro i hi
      subst hL
      by_cases hik : i = k
      · subst hik
        rw [List.getElem_set_self, frames_get, if_pos rfl, hcn]
      · rw [List.getElem_set_ne (by omega), frames_get, if_neg hik]
    have hhd : L.headD zeroF = L[0]'(by omega) := hd_get L (by omega)
    have hh3 : (L.headD zeroF).age = A ∧ (L.headD zeroF).first = C ∧ (L.headD zeroF).of = countN r.length := by
      rw [hhd, hget 0 (by omega)]
      split <;> exact ⟨rfl, rfl, rfl⟩
    refine ⟨by intro e; rw [e] at hLl; simp at hLl; omega, by rw [hh3.2.2]; omega, fun i hi => ?_, ?_⟩
    · rw [good_iff, hget i hi]
      have g1 := (good_iff _ _ _).1 (hw1.2.2.1 i (by omega))
      have g2 := (good_iff _ _ _).1 (hw2.2.2.1 i (by omega))
      rw [frames_get] at g1 g2
      simp only at g1 g2
      by_cases hik : i = k
      · rw [if_pos hik]
        simp only
        rw [← hcn] at g2
        exact ⟨⟨hh3.1.symm, hh3.2.1.symm, hh3.2.2.symm⟩, g2.2.1, g2.2.2⟩
      · rw [if_neg hik]
        simp only
        exact ⟨⟨hh3.1.symm, hh3.2.1.symm, hh3.2.2.symm⟩, g1.2.1, g1.2.2⟩
    · -- how much it bears
      obtain ⟨_, c2⟩ := chunk L (fun i hi => by
        rw [hget i hi]
        split
        · simp only [length_part]
          have hc : ((i + 1 < L.length) → i * 440 + 440 ≤ t.length) := by
            intro h
            have : ((i : Int) + 1) < countN t.length := by omega
            unfold countN at this
            repeat' split at this
            all_goals omega
          exact ⟨fun h => by have := hc h; omega, by omega⟩
        · simp only [length_part]
          have hc : ((i + 1 < L.length) → i * 440 + 440 ≤ r.length) := by
            intro h
            have : ((i : Int) + 1) < countN r.length := by omega
            unfold countN at this
            repeat' split at this
            all_goals omega
          exact ⟨fun h => by have := hc h; omega, by omega⟩)
      obtain ⟨m, hm, hfl⟩ := c2 (by intro e; rw [e] at hLl; simp at hLl; omega)
      have hml : m = (L[L.length - 1]'(by omega)).data.length := by
        rw [hm, List.getLast?_eq_getElem?, List.getElem?_eq_getElem (by omega)]
        rfl
      rw [hget _ _] at hml
      rw [hfl]
      have hcr : countN r.length = (L.length : Int) := by omega
      have hct : countN t.length = (L.length : Int) := by omega
      split at hml
      · simp only [length_part] at hml
        unfold countN at hct
        repeat' split at hct
        all_goals omega
      · simp only [length_part] at hml
        unfold countN at hcr
        repeat' split at hcr
        all_goals omega

theorem cells_take (L : List (Fr × Value)) (k : Nat) (j : Nat) (u : Value) (h : (cellsL (L.take k))[j]? = some u) : (cellsL L)[j]? = some u := by
  have e : cellsL L = cellsL (L.take k) ++ cellsL (L.drop k) := by rw [← cellsL_append, List.take_append_drop]
  rw [e, List.getElem?_append_left (List.getElem?_eq_some_iff.1 h).1]
  exact h
theorem cells_drop (L : List (Fr × Value)) (k : Nat) (hk : k ≤ L.length) (j : Nat) (u : Value) (h : (cellsL (L.drop k))[j]? = some u) : (cellsL L)[k * 4 + j]? = some u := by
  have e : cellsL L = cellsL (L.take k) ++ cellsL (L.drop k) := by rw [← cellsL_append, List.take_append_drop]
  have hl : (cellsL (L.take k)).length = k * 4 := by rw [length_cellsL, List.length_take]; congr 1; omega
  rw [e, List.getElem?_append_right (by omega), hl, Nat.add_sub_cancel_left]
  exact h
theorem FOwn.cells {w : World} {base : Nat} {v : Value} {L : List (Fr × Value)} (h : FOwn w base v L) (hne : L ≠ []) :
    ∃ g cap cur, v = .slice (some ⟨g, 0, none⟩) L.length cap ∧ base ≤ g ∧ w.heap[g]? = some (.cells cur 25 (0, 0)) ∧ L.length ≤ cap ∧ cap ≤ maxLen ∧ cur.size = cap * 4 ∧ (∀ j u, (cellsL L)[j]? = some u → w.cell? ⟨g, j, none⟩ = some u) := by
  rcases h.1.2 with ⟨_, e⟩ | ⟨g, cap, cur, rfl, hg, hh, h1, h2, h3, h4⟩
  · exact absurd (List.eq_nil_of_length_eq_zero e) hne
  · refine ⟨g, cap, cur, rfl, hg, hh, h1, h2, h3, fun j u hu => ?_⟩
    rw [cell_of_row w g j cur _ (0, 0) hh]
    rw [← h4] at hu
    obtain ⟨hj, rfl⟩ := List.getElem?_eq_some_iff.1 hu
    simp only [List.length_take, Array.length_toList] at hj
    rw [List.getElem_take, Array.getElem_toList]
    exact Array.getElem?_eq_getElem (by omega)
theorem FOwn.slices {w : World} {base : Nat} {v : Value} {L : List (Fr × Value)} (h : FOwn w base v L) : ∀ p ∈ L, ∃ q n c, p.2 = .slice q n c := fun p hp => slice_of_row (h.2 p hp).2.1

/-- 'append' of several things, as one step of a region that draws. -/
theorem step_append_many {P : Program} {ops : Array Oper} {o : Oper} {a : Act} {w : World} {K : Act → World → Prop} {Q : Exit → Act → World → Prop} {E : Prop} (hgd : o.guard = none) (s x : Operand) (t : TypeId)
    (ho : o.op = .call { callee := .builtin .append, args := #[s, x], argTypes := #[t, t] })
    (base : Nat) (e : TypeId) (i : TypeInfo) (z : Value) (ht : P.underlying t = some (.slice e)) (hi : P.info? e = some i) (hz : i.zero = some z)
    (size bytes : Nat) (hsz0 : 0 < size) (hsize : i.size = size) (hby : i.bytes = bytes) (hzs : z.cells.size = size)
    (v : Value) (n : Nat) (xs : List Value) (hs : a.eval s = v) (hown : w.ownsRow base e size v n xs) (ad : Addr) (m c : Nat) (news : List Value) (hx : a.eval x = .slice (some ad) m c)
    (hl : news.length = m * size) (hnews : ∀ j u, news[j]? = some u → w.cell? (ad.add j) = some u) (hone : ∀ u ∈ news, u.oneCell' = true) (h63 : n + m ≤ maxLen) (hbytes : (n + m) * bytes ≤ 140737488355328) (hbase : base ≤ w.heap.size)
    (h : ∀ v' w', w'.ownsRow base e size v' (n + m) (xs ++ news) → w.grownBy w' v.ownBlock → (v'.ownBlock = v.ownBlock ∨ v'.ownBlock = some w.heap.size) → K (a.put o.dst v') w') :
    if Region.wanted o (yielded ops a.tmps) = true then Oper.wp P o a w K Q else E := by
  have hw : Region.wanted o (yielded ops a.tmps) = true := by simp [Region.wanted, hgd]
  rw [if_pos hw]
  obtain ⟨v', w', hr, g1, g2, _⟩ := run_append_own (P := P) w base t o.type e i z size bytes ht hi hz hsize hby hzs hsz0 v n xs hown ad m c news hl hnews hone h63 hbytes hbase
  have g3 := append_block (P := P) w t o.type e i z ht hi hz (base := base) (v := v) (n := n) (xs := xs) (by rw [hsize]; exact hown) ad m c news (by rw [hsize]; omega) hnews hone h63 (by rw [hby]; exact hbytes) hr
  unfold Oper.wp execOp
  simp only [ho, resolve, invoke, builtin, Sem.run_bind, Sem.run_pure, Result.andThen_ok, List.map_toArray, List.map_cons, List.map_nil, hs, hx, hr]
  exact h v' w' g1 g2 g3

theorem keep_set {F : Nat → Prop} {w w' : World} (h : Keep F w w') {p : Addr} (hp : F p.block) (v : Value) : Keep F w (w'.setCell p v) := by
  have hb : Below p.block w' (w'.setCell p v) := (Below.refl _ _).setCell (Nat.le_refl _) v
  refine ⟨hb.os.trans h.os, hb.tape.trans h.tape, hb.output.trans h.output, Nat.le_trans h.size hb.size, fun k hk hF => ?_⟩
  have hne : k ≠ p.block := fun e => hF (by rw [e]; exact hp)
  rw [Below.heap_setCell _ _ _ _ hne]
  exact h.block k hk hF
/-- A frame is stored into one's own slice of frames. -/
theorem FOwn.set {w : World} {base : Nat} {v : Value} {L : List (Fr × Value)} (h : FOwn w base v L) {g cap : Nat} (hv : v = .slice (some ⟨g, 0, none⟩) L.length cap) (k : Nat) (hk : k < L.length) (p : Fr × Value)
    (hp : p.1.ok ∧ Row w p.2 p.1.data ∧ ∀ b off n c, p.2 = .slice (some ⟨b, off, none⟩) n c → p.1.data ≠ [] → v.ownBlock ≠ some b) :
    FOwn ((((w.setCell ⟨g, k * 4, none⟩ (.int .u64 (p.1.age : Int))).setCell ⟨g, k * 4 + 1, none⟩ (.int .u64 (p.1.first : Int))).setCell ⟨g, k * 4 + 2, none⟩ (.int .i64 p.1.of)).setCell ⟨g, k * 4 + 3, none⟩ p.2) base v (L.set k p) := by
  subst hv
  obtain ⟨h1, h2⟩ := h
  have hK : Keep (fun b => b = g) w ((((w.setCell ⟨g, k * 4, none⟩ (.int .u64 (p.1.age : Int))).setCell ⟨g, k * 4 + 1, none⟩ (.int .u64 (p.1.first : Int))).setCell ⟨g, k * 4 + 2, none⟩ (.int .i64 p.1.of)).setCell ⟨g, k * 4 + 3, none⟩ p.2) :=
    keep_set (F := fun b => b = g) (p := ⟨g, k * 4 + 3, none⟩) (keep_set (F := fun b => b = g) (p := ⟨g, k * 4 + 2, none⟩) (keep_set (F := fun b => b = g) (p := ⟨g, k * 4 + 1, none⟩) (keep_set (F := fun b => b = g) (p := ⟨g, k * 4, none⟩) (Keep.refl _ w) rfl _) rfl _) rfl _) rfl _
  refine ⟨⟨by rw [length_cellsL], ?_⟩, fun q hq => ?_⟩
  · rcases h1.2 with ⟨e, _⟩ | ⟨g', cap', cur, e, hg, hh, k1, k2, k3, k4⟩
    · cases e
    · simp only [Value.slice.injEq, Option.some.injEq, Addr.mk.injEq, and_true, true_and] at e
      obtain ⟨rfl, rfl⟩ := e
      refine Or.inr ⟨g, cap, (((cur.setIfInBounds (k * 4) (.int .u64 (p.1.age : Int))).setIfInBounds (k * 4 + 1) (.int .u64 (p.1.first : Int))).setIfInBounds (k * 4 + 2) (.int .i64 p.1.of)).setIfInBounds (k * 4 + 3) p.2, by simp, hg, ?_, by simpa using k1, k2, by simpa using k3, ?_⟩
      · exact heap_setCell_same _ _ _ _ _ _ (heap_setCell_same _ _ _ _ _ _ (heap_setCell_same _ _ _ _ _ _ (heap_setCell_same _ _ _ _ _ _ hh)))
      · apply List.ext_getElem?
        intro j
        by_cases hj : j < L.length * 4
        · have hq : j / 4 < L.length := by omega
          have e1 := cellsL_get (L.set k p) (j / 4) (by simpa using hq) (j % 4) (by omega)
          have e2 := cellsL_get L (j / 4) hq (j % 4) (by omega)
          rw [show j / 4 * 4 + j % 4 = j by omega] at e1 e2
          rw [e1, List.getElem?_take, if_pos (by simpa using hj), Array.getElem?_toList]
          rw [← k4, List.getElem?_take, if_pos hj, Array.getElem?_toList] at e2
          by_cases hqk : j / 4 = k
          · have e3 : (L.set k p)[j / 4]'(by simpa using hq) = p := by subst hqk; simp
            rw [e3]
            have h4 : j % 4 < 4 := by omega
            obtain ⟨i, hi⟩ : ∃ i, j % 4 = i := ⟨_, rfl⟩
            rw [hi] at h4 ⊢
            have hji : j = k * 4 + i := by omega
            subst hji
            have hcs : k * 4 + 3 < cur.size := by omega
            match i, h4 with
            | 0, _ =>
              rw [Array.getElem?_setIfInBounds_ne (by omega), Array.getElem?_setIfInBounds_ne (by omega), Array.getElem?_setIfInBounds_ne (by omega)]
              exact Array.getElem?_setIfInBounds_self_of_lt (by omega)
            | 1, _ =>
              rw [Array.getElem?_setIfInBounds_ne (by omega), Array.getElem?_setIfInBounds_ne (by omega)]
              exact Array.getElem?_setIfInBounds_self_of_lt (by simp; omega)
            | 2, _ =>
              rw [Array.getElem?_setIfInBounds_ne (by omega)]
              exact Array.getElem?_setIfInBounds_self_of_lt (by simp; omega)
            | 3, _ => exact Array.getElem?_setIfInBounds_self_of_lt (by simp; omega)
          · have e3 : (L.set k p)[j / 4]'(by simpa using hq) = L[j / 4] := List.getElem_set_ne (by omega) _
            rw [e3, ← e2, Array.getElem?_setIfInBounds_ne (by omega), Array.getElem?_setIfInBounds_ne (by omega), Array.getElem?_setIfInBounds_ne (by omega), Array.getElem?_setIfInBounds_ne (by omega)]
        · rw [List.getElem?_eq_none (by simp; omega), List.getElem?_eq_none (by rw [length_cellsL]; simp; omega)]
  · have hq' : q.1.ok ∧ Row w q.2 q.1.data ∧ ∀ b off n c, q.2 = .slice (some ⟨b, off, none⟩) n c → q.1.data ≠ [] → (Value.slice (some ⟨g, 0, none⟩) L.length cap).ownBlock ≠ some b := by
      rcases List.mem_or_eq_of_mem_set hq with h | rfl
      · exact h2 q h
      · exact hp
    refine ⟨hq'.1, hq'.2.1.keep hK (fun b off c e hne hb => ?_), hq'.2.2⟩
    exact hq'.2.2 b off _ c e hne (by rw [hb]; rfl)

/-- Frames of a slice, appended to nothing. -/
theorem one_app {wt W w6 : World} {base0 : Nat} {va v6 : Value} {La M1 : List (Fr × Value)} (hFa : FOwn wt base0 va La) (h1 : ∀ p ∈ M1, p ∈ La) (hW : Below wt.heap.size wt W)
    (own6 : w6.ownsRow wt.heap.size 25 4 v6 (0 + M1.length) ([] ++ cellsL M1)) (grow6 : W.grownBy w6 (Value.slice none 0 0).ownBlock) (vb6 : v6.ownBlock = (Value.slice none 0 0).ownBlock ∨ v6.ownBlock = some W.heap.size) :
    FOwn w6 wt.heap.size v6 M1 ∧ Below wt.heap.size wt w6 := by
  refine ⟨?_, hW.grown grow6 hW.size (fun j hj => by cases hj)⟩
  have h := (FOwn.nil wt wt.heap.size).more (v' := v6) (w2 := w6) (m := M1) hW (fun p hp => ⟨(hFa.2 p (h1 p hp)).1, (hFa.2 p (h1 p hp)).2.1, fun b off n c _ _ e => by cases e⟩) (by simpa [cellsL] using own6) grow6 vb6
  simpa using h
theorem two_apps {wt W w6 w7 : World} {base0 : Nat} {va v6 v7 : Value} {La M1 M2 : List (Fr × Value)} (hFa : FOwn wt base0 va La) (h1 : ∀ p ∈ M1, p ∈ La) (h2 : ∀ p ∈ M2, p ∈ La) (hW : Below wt.heap.size wt W)
    (own6 : w6.ownsRow wt.heap.size 25 4 v6 (0 + M1.length) ([] ++ cellsL M1)) (grow6 : W.grownBy w6 (Value.slice none 0 0).ownBlock) (vb6 : v6.ownBlock = (Value.slice none 0 0).ownBlock ∨ v6.ownBlock = some W.heap.size)
    (own7 : w7.ownsRow wt.heap.size 25 4 v7 (0 + M1.length + M2.length) ([] ++ cellsL M1 ++ cellsL M2)) (grow7 : w6.grownBy w7 v6.ownBlock) (vb7 : v7.ownBlock = v6.ownBlock ∨ v7.ownBlock = some w6.heap.size) :
    FOwn w7 wt.heap.size v7 (M1 ++ M2) ∧ Below wt.heap.size wt w7 := by
  obtain ⟨hF6, hb6⟩ := one_app hFa h1 hW own6 grow6 vb6
  refine ⟨?_, hb6.grown grow7 hb6.size (fun j hj => (own6.lt j hj).1)⟩
  refine hF6.more (Below.refl _ _) (fun p hp => ⟨(hFa.2 p (h2 p hp)).1, (hFa.2 p (h2 p hp)).2.1.below hb6, fun b off n c e hne he => ?_⟩) (by simpa using own7) grow7 vb7
  have hlt := row_block_lt (hFa.2 p (h2 p hp)).2.1 e hne
  rcases vb6 with h | h
  · rw [h] at he; cases he
  · rw [h] at he
    simp only [Option.some.injEq] at he
    have := hW.size
    omega
/-- What a region's world that has grown still holds of a slice of frames. -/
theorem cells_grown {w w' : World} {g : Nat} {L : List (Fr × Value)} (hc : ∀ j u, (cellsL L)[j]? = some u → w.cell? ⟨g, j, none⟩ = some u) (hg : w.grownBy w' (Value.slice none 0 0).ownBlock) : ∀ j u, (cellsL L)[j]? = some u → w'.cell? ⟨g, j, none⟩ = some u :=
  fun j u hu => hg.cell (hc j u hu) (by intro e; cases e)
end Go.Proofs.Ytpiekbjpnifjlaa
