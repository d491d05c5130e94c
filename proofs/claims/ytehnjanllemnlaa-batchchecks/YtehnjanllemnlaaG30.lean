/- Texts of ours, one behind the other: AppStep, SliceRow. -/
import Derived.Test.YtehnjanllemnlaaG5
import Derived.Deep.RegionLaw
import Derived.Laws.Slices
/- 'append' of one thing to a row of the call's own, as one step of a region that draws its order, and where the row lies then; nothing here speaks of the program. -/
namespace Go.Proofs.Ytehnjanllemnlaa
open Go.RowKit

theorem step_append_gen {P : Program} {ops : Array Oper} {o : Oper} {a : Act} {w : World} {K : Act → World → Prop} {Q : Exit → Act → World → Prop} {E : Prop} (hgd : o.guard = none) (s x : Operand) (t : TypeId)
    (ho : o.op = .call { callee := .builtin .append, args := #[s, x], argTypes := #[t, t] })
    (base : Nat) (e : TypeId) (i : TypeInfo) (z : Value) (ht : P.underlying t = some (.slice e)) (hi : P.info? e = some i) (hz : i.zero = some z)
    (size bytes : Nat) (hsz0 : 0 < size) (hsize : i.size = size) (hby : i.bytes = bytes) (hzs : z.cells.size = size)
    (v : Value) (n : Nat) (xs : List Value) (hs : a.eval s = v) (hown : w.ownsRow base e size v n xs) (ad : Addr) (c : Nat) (news : List Value) (hx : a.eval x = .slice (some ad) 1 c)
    (hl : news.length = size) (hnews : ∀ j u, news[j]? = some u → w.cell? (ad.add j) = some u) (hone : ∀ u ∈ news, u.oneCell' = true) (h63 : n + 1 ≤ maxLen) (hbytes : (n + 1) * bytes ≤ 140737488355328) (hbase : base ≤ w.heap.size)
    (h : ∀ v' w', w'.ownsRow base e size v' (n + 1) (xs ++ news) → w.grownBy w' v.ownBlock → (v'.ownBlock = v.ownBlock ∨ v'.ownBlock = some w.heap.size) → K (a.put o.dst v') w') :
    if Region.wanted o (yielded ops a.tmps) = true then Oper.wp P o a w K Q else E := by
  have hw : Region.wanted o (yielded ops a.tmps) = true := by simp [Region.wanted, hgd]
  rw [if_pos hw]
  obtain ⟨v', w', hr, g1, g2, _⟩ := run_append_own (P := P) w base t o.type e i z size bytes ht hi hz hsize hby hzs hsz0 v n xs hown ad 1 c news (by omega) hnews hone h63 hbytes hbase
  have g3 := append_block (P := P) w t o.type e i z ht hi hz (base := base) (v := v) (n := n) (xs := xs) (by rw [hsize]; exact hown) ad 1 c news (by rw [hsize]; omega) hnews hone h63 (by rw [hby]; exact hbytes) hr
  unfold Oper.wp execOp
  simp only [ho, resolve, invoke, builtin, Sem.run_bind, Sem.run_pure, Result.andThen_ok, List.map_toArray, List.map_cons, List.map_nil, hs, hx, hr]
  exact h v' w' g1 g2 g3
end Go.Proofs.Ytehnjanllemnlaa

/- 's[l:h]', 's[l:]' of whatever row of bytes, as steps of a walk; nothing here speaks of the program. -/
namespace Go.Proofs.Ytehnjanllemnlaa
open Go.RowKit

/-- The row that a slice of a row is. -/
theorem row_sliced {w : World} {s : Value} {bs : List UInt8} {a : Option Addr} {len cap : Nat} (h : Row w s bs) (hs : s = .slice a len cap) (l hh m : Nat) (h1 : l ≤ hh) (h2 : hh ≤ bs.length) (h3 : hh ≤ m) (h4 : m ≤ cap) :
    Row w (sliced a l hh m 1) ((bs.drop l).take (hh - l)) := by
  obtain ⟨a', cap', e, k1, k2, k3, k4⟩ := h
  subst hs
  simp only [Value.slice.injEq] at e
  obtain ⟨rfl, rfl, rfl⟩ := e
  have hlen : ((bs.drop l).take (hh - l)).length = hh - l := by simp; omega
  unfold sliced
  refine ⟨_, m - l, by rw [hlen], by omega, by omega, ?_, ?_⟩
  · intro e
    split at e
    · omega
    · cases a with
      | none => have := k3 rfl; omega
      | some ad => simp at e
  · by_cases h0 : hh = l
    · left
      apply List.eq_nil_of_length_eq_zero
      omega
    · right
      rcases k4 with k4 | ⟨b, off, rfl, hc⟩
      · subst k4; simp at h2; omega
      · refine ⟨b, off + l, ?_, fun j hj => ?_⟩
        · rw [if_neg (by omega), Nat.mul_one, Option.map_some, Addr.add_lit]
        · rw [Nat.add_assoc, hc (l + j) (by omega)]
          simp
theorem elem_of {P : Program} {t e : TypeId} (ht : P.underlying t = some (.slice e)) : P.elem t = e := by simp [Program.elem, ht]

theorem wpList_slice_lh {P : Program} {w : World} {ops : Array Oper} {rest : List Oper} {o : Oper} {a : Act} {Q : Exit → Act → World → Prop} (hgd : o.guard = none) (t e : TypeId) (x lo hi : Operand)
    (ho : o.op = .slice t x (some lo) (some hi) none) (ht : P.underlying t = some (.slice e)) (hsz : (P.info? e).map (·.size) = some 1)
    (s : Value) (bs : List UInt8) (l h : Int) (kl kh : IntKind) (hx : a.eval x = s) (hl : a.eval lo = .int kl l) (hh : a.eval hi = .int kh h) (hr : Row w s bs) (h0 : 0 ≤ l) (h1 : l ≤ h) (h2 : h ≤ bs.length)
    (hk : ∀ t', Row w t' ((bs.drop l.toNat).take (h.toNat - l.toNat)) → wpList P ops Q rest (a.put o.dst t') w) : wpList P ops Q (o :: rest) a w := by
  obtain ⟨p, cap, e', k1, k2, k3, k4⟩ := id hr
  have hrow := row_sliced hr e' l.toNat h.toNat cap (by omega) (by omega) (by omega) (Nat.le_refl _)
  have hrun := run_slice_lh (P := P) w t p bs.length cap (by rw [elem_of ht]; exact ht) kl kh l h h0 h1 (by omega)
  have hs1 : (sizeOf (P.elem t)).run P w = .ok 1 w := by
    rw [elem_of ht]
    cases hi : P.info? e with
    | none => rw [hi] at hsz; cases hsz
    | some i => rw [hi] at hsz; simp at hsz; simp [sizeOf, typeInfo, hi, hsz]
  rw [hs1] at hrun
  simp only [Result.andThen_ok] at hrun
  refine wpList_plain hgd fun K hK => ?_
  unfold Oper.wp execOp
  simp only [ho, hx, hl, hh, e', Option.map_some, Option.map_none, Sem.run_bind, run_sliceAt_slice (P := P) w t _ _ _ _ (by rw [elem_of ht]; exact ht), hrun, Result.andThen_ok, Sem.run_pure]
  exact hK _ _ (hk _ hrow)
theorem wpList_slice_l {P : Program} {w : World} {ops : Array Oper} {rest : List Oper} {o : Oper} {a : Act} {Q : Exit → Act → World → Prop} (hgd : o.guard = none) (t e : TypeId) (x lo : Operand)
    (ho : o.op = .slice t x (some lo) none none) (ht : P.underlying t = some (.slice e)) (hsz : (P.info? e).map (·.size) = some 1)
    (s : Value) (bs : List UInt8) (l : Int) (kl : IntKind) (hx : a.eval x = s) (hl : a.eval lo = .int kl l) (hr : Row w s bs) (h0 : 0 ≤ l) (h1 : l ≤ bs.length)
    (hk : ∀ t', Row w t' (bs.drop l.toNat) → wpList P ops Q rest (a.put o.dst t') w) : wpList P ops Q (o :: rest) a w := by
  obtain ⟨p, cap, e', k1, k2, k3, k4⟩ := id hr
  have hrow := row_sliced hr e' l.toNat bs.length cap (by omega) (by omega) (by omega) (Nat.le_refl _)
  rw [List.take_of_length_le (by simp)] at hrow
  have hrun := run_slice_l (P := P) w t p bs.length cap (by rw [elem_of ht]; exact ht) kl l h0 h1
  have hs1 : (sizeOf (P.elem t)).run P w = .ok 1 w := by
    rw [elem_of ht]
    cases hi : P.info? e with
    | none => rw [hi] at hsz; cases hsz
    | some i => rw [hi] at hsz; simp at hsz; simp [sizeOf, typeInfo, hi, hsz]
  rw [hs1] at hrun
  simp only [Result.andThen_ok] at hrun
  refine wpList_plain hgd fun K hK => ?_
  unfold Oper.wp execOp
  simp only [ho, hx, hl, e', Option.map_some, Option.map_none, Sem.run_bind, run_sliceAt_slice (P := P) w t _ _ _ _ (by rw [elem_of ht]; exact ht), hrun, Result.andThen_ok, Sem.run_pure]
  exact hK _ _ (hk _ hrow)
end Go.Proofs.Ytehnjanllemnlaa
