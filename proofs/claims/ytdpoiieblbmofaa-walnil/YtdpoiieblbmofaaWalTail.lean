/- 'append' of one thing to a row that lies anywhere in its block, as one step of a region that draws its order. -/
import Derived.Test.YtdpoiieblbmofaaWalLaw3
import Derived.ArgAppend
import Derived.Deep.RegionLaw
namespace Go.Proofs.Ytdpoiieblbmofaa
open Go.RowKit

theorem trow_of_owns {w : World} {base e : Nat} {v : Value} {n : Nat} {xs : List Value} (K : Nat → Prop) (h : w.ownsRow base e 1 v n xs) (hK : ∀ k, base ≤ k → K k) : TRow K w e v xs := by
  have hl := h.1
  rw [Nat.mul_one] at hl
  refine ⟨fun k hk => ?_, ?_⟩
  · rcases h.2 with ⟨e1, _⟩ | ⟨g, cap, cur, e1, hb, _⟩
    · rw [e1] at hk; cases hk
    · rw [e1] at hk; cases hk; exact hK g hb
  · rcases h.2 with ⟨e1, e2⟩ | ⟨g, cap, cur, e1, hb, hh, h1, h2, h3, h4⟩
    · exact Or.inl ⟨e1, List.eq_nil_of_length_eq_zero (by omega)⟩
    · refine Or.inr ⟨g, 0, cap, cur, by rw [e1, hl], hh, by omega, h2, by omega, fun j u hu => ?_⟩
      have hc := h.cells (g := g) (by rw [e1]; rfl)
      have := hc j u hu
      rw [Addr.add_lit] at this
      exact this

theorem run_append_tail {P : Program} {K : Nat → Prop} (w : World) (t ty e : TypeId) (i : TypeInfo) (z : Value) (bytes : Nat) (ht : P.underlying t = some (.slice e)) (hi : P.info? e = some i) (hz : i.zero = some z) (hsize : i.size = 1) (hby : i.bytes = bytes) (hzs : z.cells.size = 1)
    (v : Value) (xs : List Value) (h : TRow K w e v xs) (ad : Addr) (c : Nat) (u : Value) (hu : w.cell? (ad.add 0) = some u) (h1 : u.oneCell' = true) (h63 : xs.length + 1 ≤ maxLen) (hbytes : (xs.length + 1) * bytes ≤ 140737488355328) :
    ∃ v' w', (Builtin.append_ #[t, t] ty #[v, .slice (some ad) 1 c]).run P w = .ok v' w' ∧ TRow (fun k => K k ∨ w.heap.size ≤ k) w' e v' (xs ++ [u]) ∧ Keep (fun k => v.ownBlock = some k) w w' ∧ (∀ k, v'.ownBlock = some k → v.ownBlock = some k ∨ w.heap.size ≤ k) ∧ ∃ q n c, v' = .slice q n c := by
  have hnews : ∀ j x, ([u] : List Value)[j]? = some x → w.cell? (ad.add j) = some x := by
    intro j x hj
    match j, hj with
    | 0, hj => simp at hj; subst hj; exact hu
  have hone : ∀ x ∈ [u], x.oneCell' = true := by intro x hx; simp at hx; subst hx; exact h1
  have hshape : ∀ {w' : World} {base n : Nat} {v' : Value} {ys : List Value}, w'.ownsRow base e 1 v' n ys → ∃ q n c, v' = .slice q n c := by
    intro w' base n v' ys ho
    rcases ho.2 with ⟨e1, _⟩ | ⟨g, cap, cur, e1, _⟩
    · exact ⟨_, _, _, e1⟩
    · exact ⟨_, _, _, e1⟩
  have hbl : ∀ {w' : World} {n : Nat} {v' : Value} {ys : List Value}, w'.ownsRow w.heap.size e 1 v' n ys → ∀ k, v'.ownBlock = some k → w.heap.size ≤ k := by
    intro w' n v' ys ho k hk
    rcases ho.2 with ⟨e1, _⟩ | ⟨g, cap, cur, e1, hb, _⟩
    · rw [e1] at hk; cases hk
    · rw [e1] at hk; cases hk; exact hb
  rcases h.2 with ⟨rfl, rfl⟩ | ⟨k, off, cap, cur, rfl, hh, hn, hc, hs, hr⟩
  · obtain ⟨v', w', hrun, g1, g2, _⟩ := run_append_own (P := P) w w.heap.size t ty e i z 1 bytes ht hi hz hsize hby hzs (by omega) (.slice none 0 0) 0 [] (World.ownsRow_nil _ _ _ _) ad 1 c [u] (by simp) hnews hone (by simpa using h63) (by simpa using hbytes) (Nat.le_refl _)
    exact ⟨v', w', hrun, trow_of_owns _ g1 (fun k hk => Or.inr hk), grown_keep g2, fun k hk => Or.inr (hbl g1 k hk), hshape g1⟩
  · by_cases hroom : xs.length + 1 ≤ cap
    · have hrun := run_append_room_cells (P := P) w t ty e i ht hi k off xs.length cap ad 1 c [u] (by rw [hsize]; rfl) hnews hone hroom
        (fun j hj => by
          have hj0 : j = 0 := by simpa using hj
          subst hj0
          rw [hsize, cell_of_row w k _ cur e (0, 0) hh, Array.getElem?_eq_getElem (by omega)]
          rfl)
        (fun j hj => frozen_of_block hh)
      rw [hsize, Nat.mul_one] at hrun
      obtain ⟨C', hC', hCs⟩ := block_setCells k e [u] (off + xs.length) w cur hh
      refine ⟨_, _, hrun, ⟨fun k' hk' => Or.inl (h.1 k' hk'), Or.inr ⟨k, off, cap, C', by simp, hC', by simp; omega, hc, by omega, ?_⟩⟩, (keep_setCells k [u] _ w).weak (fun x hx => by rw [hx]; rfl), fun k' hk' => Or.inl hk', _, _, _, rfl⟩
      intro j x hj
      by_cases hjl : j < xs.length
      · rw [List.getElem?_append_left hjl] at hj
        exact World.rangeAt_setCells_apart hr k (off + xs.length) [u] (Or.inr (Or.inl (Nat.le_refl _))) j x hj
      · have hj' : j = xs.length := by
          have := (List.getElem?_eq_some_iff.1 hj).1
          simp at this
          omega
        subst hj'
        simp only [List.getElem?_append_right (Nat.le_refl _), Nat.sub_self, List.getElem?_cons_zero, Option.some.injEq] at hj
        subst hj
        have := World.rangeAt_setCells_same w k (off + xs.length) [u] (there_of_block hh (by simp; omega)) 0 u rfl
        rw [Nat.add_zero] at this
        exact this
    · obtain ⟨v', w', hrun, g1, g2⟩ := run_append_arg_grows (P := P) w t ty e i z 1 bytes ht hi hz hsize hby hzs (by omega) ⟨k, off, none⟩ xs.length cap xs (by omega) (fun j x hj => by rw [Addr.add_lit]; exact hr j x hj) ad 1 c [u] (by simp) hnews (by omega) h63 hbytes
      refine ⟨v', w', hrun, trow_of_owns _ g1 (fun k hk => Or.inr hk), (grown_keep g2).weak (fun x hx => by cases hx), fun k hk => Or.inr (hbl g1 k hk), hshape g1⟩

theorem step_append_tail {P : Program} {ops : Array Oper} {o : Oper} {a : Act} {w : World} {K : Act → World → Prop} {Q : Exit → Act → World → Prop} {E : Prop} {KK : Nat → Prop} (hgd : o.guard = none) (s x : Operand) (t : TypeId)
    (ho : o.op = .call { callee := .builtin .append, args := #[s, x], argTypes := #[t, t] })
    (e : TypeId) (i : TypeInfo) (z : Value) (bytes : Nat) (ht : P.underlying t = some (.slice e)) (hi : P.info? e = some i) (hz : i.zero = some z) (hsize : i.size = 1) (hby : i.bytes = bytes) (hzs : z.cells.size = 1)
    (v : Value) (xs : List Value) (hs : a.eval s = v) (h : TRow KK w e v xs) (ad : Addr) (c : Nat) (u : Value) (hx : a.eval x = .slice (some ad) 1 c) (hu : w.cell? (ad.add 0) = some u) (h1 : u.oneCell' = true) (h63 : xs.length + 1 ≤ maxLen) (hbytes : (xs.length + 1) * bytes ≤ 140737488355328)
    (hK : ∀ v' w', TRow (fun k => KK k ∨ w.heap.size ≤ k) w' e v' (xs ++ [u]) → Keep (fun k => v.ownBlock = some k) w w' → (∀ k, v'.ownBlock = some k → v.ownBlock = some k ∨ w.heap.size ≤ k) → (∃ q n c, v' = .slice q n c) → K (a.put o.dst v') w') :
    if Region.wanted o (yielded ops a.tmps) = true then Oper.wp P o a w K Q else E := by
  have hw : Region.wanted o (yielded ops a.tmps) = true := by simp [Region.wanted, hgd]
  rw [if_pos hw]
  obtain ⟨v', w', hr, g1, g2, g3, g4⟩ := run_append_tail (P := P) (K := KK) w t o.type e i z bytes ht hi hz hsize hby hzs v xs h ad c u hu h1 h63 hbytes
  unfold Oper.wp execOp
  simp only [ho, resolve, invoke, builtin, Sem.run_bind, Sem.run_pure, Result.andThen_ok, List.map_toArray, List.map_cons, List.map_nil, hs, hx, hr]
  exact hK v' w' g1 g2 g3 g4
end Go.Proofs.Ytdpoiieblbmofaa
