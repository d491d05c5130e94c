/- 'append' of any row of bytes, as one step of a region that draws its order; nothing here speaks of the program. -/
import Derived.Test.YtdpoiieblbmofaaMem
import Derived.Deep.RegionLaw
namespace Go.Proofs.Ytdpoiieblbmofaa
open Go.RowKit

/-- 'append(v, x...)', v the call's own (or nil), x whatever row of bytes, within a region that draws. -/
theorem step_append_row {P : Program} {ops : Array Oper} {o : Oper} {a : Act} {w : World} {K : Act → World → Prop} {Q : Exit → Act → World → Prop} {E : Prop} (hgd : o.guard = none) (s x : Operand) (t : TypeId)
    (ho : o.op = .call { callee := .builtin .append, args := #[s, x], argTypes := #[t, t] })
    (base : Nat) (e : TypeId) (i : TypeInfo) (z : Value) (ht : P.underlying t = some (.slice e)) (hi : P.info? e = some i) (hz : i.zero = some z)
    (hsize : i.size = 1) (hby : i.bytes = 1) (hzs : z.cells.size = 1)
    (v : Value) (n : Nat) (xs : List Value) (hs : a.eval s = v) (hown : w.ownsRow base e 1 v n xs) (sx : Value) (bs : List UInt8) (hx : a.eval x = sx) (hrow : Row w sx bs)
    (hbytes : n + bs.length ≤ 140737488355328) (hbase : base ≤ w.heap.size)
    (h : ∀ v' w', w'.ownsRow base e 1 v' (n + bs.length) (xs ++ bs.map B) → w.grownBy w' v.ownBlock → K (a.put o.dst v') w') :
    if Region.wanted o (yielded ops a.tmps) = true then Oper.wp P o a w K Q else E := by
  have hw : Region.wanted o (yielded ops a.tmps) = true := by simp [Region.wanted, hgd]
  rw [if_pos hw]
  obtain ⟨p, cap, rfl, h1, h2, h3, h4⟩ := hrow
  cases p with
  | none =>
    have hb0 : bs = [] := List.eq_nil_of_length_eq_zero (by have := h3 rfl; omega)
    subst hb0
    have hc0 := h3 rfl
    subst hc0
    have hrun := run_append_owned_none (P := P) (w := w) base t o.type e i 1 ht hi v n xs hown
    have hk := h v w (by simpa using hown) (World.grownBy.refl _ _)
    unfold Oper.wp
    simp only [List.length_nil] at hx
    simp [execOp, ho, resolve, invoke, builtin, hs, hx, hrun, Result.andThen]
    exact hk
  | some ad =>
    refine wp_append_own _ s x t ho base e i z 1 1 ht hi hz hsize hby hzs (by decide) v n xs hs hown ad bs.length cap (bs.map B) hx (by simp) ?_ (oneCell_B bs) (by unfold maxLen; omega) (by omega) hbase (fun v' w' g1 g2 _ => h v' w' g1 g2)
    intro j u hu
    rcases h4 with rfl | ⟨b, off, had, hc⟩
    · simp at hu
    · cases had
      obtain ⟨hj, rfl⟩ := List.getElem?_eq_some_iff.1 hu
      have hj' : j < bs.length := by simpa using hj
      rw [Addr.add_lit, hc j hj']
      simp
end Go.Proofs.Ytdpoiieblbmofaa
