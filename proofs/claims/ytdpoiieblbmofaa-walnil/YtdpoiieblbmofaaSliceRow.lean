/- 's[l:h]', 's[l:]' of whatever row of bytes, as steps of a walk; nothing here speaks of the program. -/
import Derived.Test.YtdpoiieblbmofaaMem
import Derived.Laws.Slices
namespace Go.Proofs.Ytdpoiieblbmofaa
open Go.RowKit

/-- The row that a slice of a row is. -/
theorem row_sliced {w : World} {s : Value} {bs : List UInt8} {a : Option Addr} {len cap : Nat} (h : Row w s bs) (hs : s = .slice a len cap) (l hh m : Nat) (h1 : l ≤ hh) (h2 : hh ≤ bs.length) (h3 : hh ≤ m) (h4 : m ≤ cap) :
    Row w (sliced a l hh m 1) ((bs.drop l).take (hh - l)) := by
  obtain ⟨a', cap', e, k1, k2, k3, k4⟩ := h
  subst hs
  simp only [Value.slice.injEq] at e
  obtain ⟨rfl, rfl, rfl⟩ := e
  have hlen : ((bs.drop l).take (hh - l)).length = hh - l := by simp; omega
  unfold sliced
  refine ⟨_, m - l, by rw [hlen], by omega, by omega, ?_, ?_⟩
  · intro e
    split at e
    · omega
    · cases a with
      | none => have := k3 rfl; omega
      | some ad => simp at e
  · by_cases h0 : hh = l
    · left
      apply List.eq_nil_of_length_eq_zero
      omega
    · right
      rcases k4 with k4 | ⟨b, off, rfl, hc⟩
      · subst k4; simp at h2; omega
      · refine ⟨b, off + l, ?_, fun j hj => ?_⟩
        · rw [if_neg (by omega), Nat.mul_one, Option.map_some, Addr.add_lit]
        · rw [Nat.add_assoc, hc (l + j) (by omega)]
          simp
theorem elem_of {P : Program} {t e : TypeId} (ht : P.underlying t = some (.slice e)) : P.elem t = e := by simp [Program.elem, ht]

theorem wpList_slice_lh {P : Program} {w : World} {ops : Array Oper} {rest : List Oper} {o : Oper} {a : Act} {Q : Exit → Act → World → Prop} (hgd : o.guard = none) (t e : TypeId) (x lo hi : Operand)
    (ho : o.op = .slice t x (some lo) (some hi) none) (ht : P.underlying t = some (.slice e)) (hsz : (P.info? e).map (·.size) = some 1)
    (s : Value) (bs : List UInt8) (l h : Int) (kl kh : IntKind) (hx : a.eval x = s) (hl : a.eval lo = .int kl l) (hh : a.eval hi = .int kh h) (hr : Row w s bs) (h0 : 0 ≤ l) (h1 : l ≤ h) (h2 : h ≤ bs.length)
    (hk : ∀ t', Row w t' ((bs.drop l.toNat).take (h.toNat - l.toNat)) → wpList P ops Q rest (a.put o.dst t') w) : wpList P ops Q (o :: rest) a w := by
  obtain ⟨p, cap, e', k1, k2, k3, k4⟩ := id hr
  have hrow := row_sliced hr e' l.toNat h.toNat cap (by omega) (by omega) (by omega) (Nat.le_refl _)
  have hrun := run_slice_lh (P := P) w t p bs.length cap (by rw [elem_of ht]; exact ht) kl kh l h h0 h1 (by omega)
  have hs1 : (sizeOf (P.elem t)).run P w = .ok 1 w := by
    rw [elem_of ht]
    cases hi : P.info? e with
    | none => rw [hi] at hsz; cases hsz
    | some i => rw [hi] at hsz; simp at hsz; simp [sizeOf, typeInfo, hi, hsz]
  rw [hs1] at hrun
  simp only [Result.andThen_ok] at hrun
  refine wpList_plain hgd fun K hK => ?_
  unfold Oper.wp execOp
  simp only [ho, hx, hl, hh, e', Option.map_some, Option.map_none, Sem.run_bind, run_sliceAt_slice (P := P) w t _ _ _ _ (by rw [elem_of ht]; exact ht), hrun, Result.andThen_ok, Sem.run_pure]
  exact hK _ _ (hk _ hrow)
theorem wpList_slice_l {P : Program} {w : World} {ops : Array Oper} {rest : List Oper} {o : Oper} {a : Act} {Q : Exit → Act → World → Prop} (hgd : o.guard = none) (t e : TypeId) (x lo : Operand)
    (ho : o.op = .slice t x (some lo) none none) (ht : P.underlying t = some (.slice e)) (hsz : (P.info? e).map (·.size) = some 1)
    (s : Value) (bs : List UInt8) (l : Int) (kl : IntKind) (hx : a.eval x = s) (hl : a.eval lo = .int kl l) (hr : Row w s bs) (h0 : 0 ≤ l) (h1 : l ≤ bs.length)
    (hk : ∀ t', Row w t' (bs.drop l.toNat) → wpList P ops Q rest (a.put o.dst t') w) : wpList P ops Q (o :: rest) a w := by
  obtain ⟨p, cap, e', k1, k2, k3, k4⟩ := id hr
  have hrow := row_sliced hr e' l.toNat bs.length cap (by omega) (by omega) (by omega) (Nat.le_refl _)
  rw [List.take_of_length_le (by simp)] at hrow
  have hrun := run_slice_l (P := P) w t p bs.length cap (by rw [elem_of ht]; exact ht) kl l h0 h1
  have hs1 : (sizeOf (P.elem t)).run P w = .ok 1 w := by
    rw [elem_of ht]
    cases hi : P.info? e with
    | none => rw [hi] at hsz; cases hsz
    | some i => rw [hi] at hsz; simp at hsz; simp [sizeOf, typeInfo, hi, hsz]
  rw [hs1] at hrun
  simp only [Result.andThen_ok] at hrun
  refine wpList_plain hgd fun K hK => ?_
  unfold Oper.wp execOp
  simp only [ho, hx, hl, e', Option.map_some, Option.map_none, Sem.run_bind, run_sliceAt_slice (P := P) w t _ _ _ _ (by rw [elem_of ht]; exact ht), hrun, Result.andThen_ok, Sem.run_pure]
  exact hK _ _ (hk _ hrow)
end Go.Proofs.Ytdpoiieblbmofaa
