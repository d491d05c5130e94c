/- Texts of ours, one behind the other: ActApp. -/
import Derived.Test.YtcjepiihknjeiaaG13
import Derived.Test.YtcjepiihknjeiaaG18
/- append as an acting operation of a drawn region; nothing here speaks of the program. -/
namespace Go.Proofs.Ytcjepiihknjeiaa
open Go.RowKit Go.Shelf

theorem act_append_any {P : Program} {w : World} {o : Oper} {a : Act} {R : Value → World → Prop} (s x : Operand) (t : TypeId)
    (ho : o.op = .call { callee := .builtin .append, args := #[s, x], argTypes := #[t, t] })
    (base : Nat) (e : TypeId) (i : TypeInfo) (z : Value) (ht : P.underlying t = some (.slice e)) (hi : P.info? e = some i) (hz : i.zero = some z)
    (size bytes : Nat) (hsz0 : 0 < size) (hsize : i.size = size) (hby : i.bytes = bytes) (hzs : z.cells.size = size)
    (v : Value) (k : Nat) (xs : List Value) (hs : a.eval s = v) (hown : w.ownsRow base e size v k xs) (ad : Addr) (m c : Nat) (news : List Value) (hx : a.eval x = .slice (some ad) m c)
    (hl : news.length = m * size) (hnews : ∀ j u, news[j]? = some u → w.cell? (ad.add j) = some u) (hone : ∀ u ∈ news, u.oneCell' = true) (h63 : k + m ≤ maxLen) (hbytes : (k + m) * bytes ≤ 140737488355328) (hbase : base ≤ w.heap.size)
    (h : ∀ v' w', w'.ownsRow base e size v' (k + m) (xs ++ news) → w.grownBy w' v.ownBlock → (v'.ownBlock = v.ownBlock ∨ v'.ownBlock = some w.heap.size) → R v' w') : actUpon P R ((execOp a.eval o).run P w) := by
  obtain ⟨v', w', hr, g1, g2, _⟩ := run_append_own (P := P) w base t o.type e i z size bytes ht hi hz hsize hby hzs hsz0 v k xs hown ad m c news hl hnews hone h63 hbytes hbase
  have g3 := append_block (P := P) w t o.type e i z ht hi hz (base := base) (v := v) (n := k) (xs := xs) (by rw [hsize]; exact hown) ad m c news (by rw [hsize]; omega) hnews hone h63 (by rw [hby]; exact hbytes) hr
  simp [execOp, ho, resolve, invoke, builtin, hs, hx, hr, actUpon]
  exact h _ _ g1 g2 g3
/-- A block that the row appended to does not lie in stays. -/
theorem grown_keep {w w' : World} {v : Value} (hg : w.grownBy w' v.ownBlock) : Keep (fun k => v.ownBlock = some k) w w' := ⟨hg.os, hg.tape, hg.output, hg.size, fun k hk hn => hg.block k hk (fun e => hn e.symm)⟩
end Go.Proofs.Ytcjepiihknjeiaa
