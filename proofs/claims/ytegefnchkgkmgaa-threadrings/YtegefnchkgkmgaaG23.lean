/- Texts of ours, one behind the other: BatMay1, BatMay2. -/
import Derived.Test.YtegefnchkgkmgaaG4
import Derived.Test.YtegefnchkgkmgaaG22
import Derived.BigQuiet
import Derived.BigRegion
/- The landed package batch: which changes may be. -/
namespace Go.Proofs.Ytegefnchkgkmgaa
open Go.RowKit

theorem kmayB_eq (a : ByteArray) : kmay a = kmayB a := rfl
end Go.Proofs.Ytegefnchkgkmgaa

/- The landed package batch: which lists of changes may be. -/
namespace Go.Proofs.Ytegefnchkgkmgaa
open Go.RowKit

/-- A region that draws its order, by a class of worlds that all its operations keep: one walk, in the order of the text. -/
theorem region_calm {P : Program} {id : Nat} {Q : Exit → Act → World → Prop} {a : Act} {w : World} {l : List Oper} (C : World → Prop) (hm : P.follows .mixedOrders = true) (hB : Region.lexB .any l.toArray = true) (hC : C { w with drawn := w.drawn + 1 })
    (h : wpQuiet P l.toArray C (fun a' => ∀ w', C w' → Q .normal a' w') l a) : (Code.region id l.toArray true).wp P Q a w :=
  wp_region_quiet hm hB hC (by simpa using h)

theorem rise_step {l : List Chg} {k : Nat} (h : k < l.length) (hp : ∀ i (hi : i < l.length), i < k → mayChg l[i] = true ∧ (0 < i → tl (l[i - 1]'(by omega)).key.toList l[i].key.toList = true))
    (h1 : mayChg l[k] = true) (h2 : ∀ (h0 : 0 < k), tl (l[k - 1]'(by omega)).key.toList l[k].key.toList = true) :
    ∀ i (hi : i < l.length), i < k + 1 → mayChg l[i] = true ∧ (0 < i → tl (l[i - 1]'(by omega)).key.toList l[i].key.toList = true) := by
  intro i hi hk
  by_cases e : i = k
  · subst e; exact ⟨h1, h2⟩
  · exact hp i hi (by omega)

end Go.Proofs.Ytegefnchkgkmgaa
