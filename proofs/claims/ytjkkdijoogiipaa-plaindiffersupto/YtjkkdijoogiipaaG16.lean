/- Texts of ours, one behind the other: BatMay1, BatMay2, StOwn1, StOwn2, StOwn3, StOwn4, StOwn5, StOwn6, StOwn7. -/
import Derived.Test.YtjkkdijoogiipaaG5
import Derived.Test.YtjkkdijoogiipaaG6
import Derived.Test.YtjkkdijoogiipaaG13
import Derived.BigQuiet
import Derived.BigRegion
/- The landed package batch: which changes may be. -/
namespace Go.Proofs.Ytjkkdijoogiipaa
open Go.RowKit

theorem kmayB_eq (a : ByteArray) : kmay a = kmayB a := rfl
end Go.Proofs.Ytjkkdijoogiipaa

/- The landed package batch: which lists of changes may be. -/
namespace Go.Proofs.Ytjkkdijoogiipaa
open Go.RowKit

/-- A region that draws its order, by a class of worlds that all its operations keep: one walk, in the order of the text. -/
theorem region_calm {P : Program} {id : Nat} {Q : Exit → Act → World → Prop} {a : Act} {w : World} {l : List Oper} (C : World → Prop) (hm : P.follows .mixedOrders = true) (hB : Region.lexB .any l.toArray = true) (hC : C { w with drawn := w.drawn + 1 })
    (h : wpQuiet P l.toArray C (fun a' => ∀ w', C w' → Q .normal a' w') l a) : (Code.region id l.toArray true).wp P Q a w :=
  wp_region_quiet hm hB hC (by simpa using h)

theorem rise_step {l : List Chg} {k : Nat} (h : k < l.length) (hp : ∀ i (hi : i < l.length), i < k → mayChg l[i] = true ∧ (0 < i → tl (l[i - 1]'(by omega)).key.toList l[i].key.toList = true))
    (h1 : mayChg l[k] = true) (h2 : ∀ (h0 : 0 < k), tl (l[k - 1]'(by omega)).key.toList l[k].key.toList = true) :
    ∀ i (hi : i < l.length), i < k + 1 → mayChg l[i] = true ∧ (0 < i → tl (l[i - 1]'(by omega)).key.toList l[i].key.toList = true) := by
  intro i hi hk
  by_cases e : i = k
  · subst e; exact ⟨h1, h2⟩
  · exact hp i hi (by omega)

end Go.Proofs.Ytjkkdijoogiipaa

/- The library's stable sort at operations: ranges swapped, rotated. -/
namespace Go.Proofs.Ytjkkdijoogiipaa
open Go.RowKit

end Go.Proofs.Ytjkkdijoogiipaa

/- The library's stable sort at operations: insertion. -/
namespace Go.Proofs.Ytjkkdijoogiipaa
open Go.RowKit

/-- A region that draws its order, by a class of worlds that all its operations keep. -/
theorem region_still {P : Program} {id : Nat} {Q : Exit → Act → World → Prop} {a : Act} {w : World} {l : List Oper} (C : World → Prop) (hm : P.follows .mixedOrders = true) (hB : Region.lexB .any l.toArray = true) (hC : C { w with drawn := w.drawn + 1 })
    (h : wpQuiet P l.toArray C (fun a' => ∀ w', C w' → Q .normal a' w') l a) : (Code.region id l.toArray true).wp P Q a w :=
  wp_region_quiet hm hB hC (by simpa using h)

theorem Ix.swap' {β : Type} {D E : List β} {f g : Nat → Nat} (h : Ix D E f) (i j : Nat) {x y : β} (hx : E[i]? = some x) (hy : E[j]? = some y) (e : ∀ k, f (tau i j k) = g k) : Ix D ((E.set i y).set j x) g := by
  obtain ⟨hi, rfl⟩ := List.getElem?_eq_some_iff.1 hx
  obtain ⟨hj, rfl⟩ := List.getElem?_eq_some_iff.1 hy
  exact h.swap i j hi hj e

/-- From a up to b the marks rise. -/
def Rs (D : List (Opv × Nat)) (a b : Nat) : Prop := ∀ i j x y, a ≤ i → i < j → j < b → D[i]? = some x → D[j]? = some y → x.2 < y.2

end Go.Proofs.Ytjkkdijoogiipaa

/- The library's stable sort at operations: the symmetric merge, of one thing with many. -/
namespace Go.Proofs.Ytjkkdijoogiipaa
open Go.RowKit

/-- What is asked of a merge. -/
structure MIn (w : World) (g cap : Nat) (D : List (Opv × Nat)) (a m b : Nat) : Prop where
  sr : SRow w g cap D
  am : a < m
  mb : m < b
  bl : b ≤ D.length
  s1 : So klt D a m
  s2 : So klt D m b
  cr : Cr D a m b

end Go.Proofs.Ytjkkdijoogiipaa

/- The library's stable sort at operations: the symmetric merge, of many things with one. -/
namespace Go.Proofs.Ytjkkdijoogiipaa
open Go.RowKit

end Go.Proofs.Ytjkkdijoogiipaa

/- The library's stable sort at operations: the symmetric merge in two halves. -/
namespace Go.Proofs.Ytjkkdijoogiipaa
open Go.RowKit

end Go.Proofs.Ytjkkdijoogiipaa

/- The library's stable sort at operations: the symmetric merge in two halves. -/
namespace Go.Proofs.Ytjkkdijoogiipaa
open Go.RowKit

end Go.Proofs.Ytjkkdijoogiipaa

/- The library's stable sort at operations: the symmetric merge, the sort. -/
namespace Go.Proofs.Ytjkkdijoogiipaa
open Go.RowKit

theorem Ins.rise {D : List (Opv × Nat)} {a b : Nat} (h : Ins klt D a) : Rs D a b := by
  intro i j x y i1 i2 i3 hx hy
  have := h.new i x hx i1
  have := h.new j y hy (by omega)
  omega

end Go.Proofs.Ytjkkdijoogiipaa
