/- Texts of ours, one behind the other: PlDifE. -/
import Derived.Test.YtjkkdijoogiipaaG26
import Derived.Test.YtjkkdijoogiipaaG27
/- The document's own answer: Differ, of whatever lists; differences whose values are spoiled. -/
namespace Go.Proofs.Ytjkkdijoogiipaa
open Go.RowKit

set_option maxRecDepth 20000 in
theorem rdiffer_no (va vb : Value) (A B : List El) (w : World) (ha : EL 2 prC w va A) (hb : EL 2 prC w vb B) (hka : ∀ x ∈ A, x.1.key.size ≤ 140737488351232) (hkb : ∀ x ∈ B, x.1.key.size ≤ 140737488351232) (hn : rightD (pdat A) = false ∨ rightD (pdat A) = true ∧ rightD (pdat B) = false) :
    Calls Try.prog 8 #[va, vb] w fun e w' => e = .returned (.slice none 0 0) ∧ Below w.heap.size w w' := by
  have HCA := hide (rright_any va A w ha hka)
  have HCB := hide (fun W (h : Below w.heap.size w W) => rright_any vb B W (hb.below h) hkb)
  obtain ⟨pa, ca, rfl, _⟩ := ha.shape
  obtain ⟨pb, cb, rfl, _⟩ := hb.shape
  clear ha hb
  rcases hn with hA | ⟨hA, hB⟩
  · rw [hA] at HCA
    go_enter Try.func8, Try.ntmps8
    go_wp2_with fail
    refine Calls.mono (unhide HCA) ?_
    rintro e w1 ⟨rfl, b1⟩
    have HB1 := hide b1
    clear b1
    go_wp2_with fail
    go_ret
    exact ⟨rfl, unhide HB1⟩
  · rw [hA] at HCA
    rw [hB] at HCB
    go_enter Try.func8, Try.ntmps8
    go_wp2_with fail
    refine Calls.mono (unhide HCA) ?_
    rintro e w1 ⟨rfl, b1⟩
    have HB1 := hide b1
    clear b1
    go_wp2_with fail
    refine Calls.mono (unhide HCB w1 (unhide HB1)) ?_
    rintro e w2 ⟨rfl, b2⟩
    have HB2 := hide ((unhide HB1).trans (b2.mono (unhide HB1).size))
    clear b2
    go_wp2_with fail
    go_ret
    exact ⟨rfl, unhide HB2⟩

/-- What two lists differ in, of whatever lists. -/
def dfX (a b : List Pd) : List Df := if rightD a = true ∧ rightD b = true then difD a b else []
theorem rdf_any (va vb : Value) (A B : List El) (w : World) (ha : EL 2 prC w va A) (hb : EL 2 prC w vb B) (hla : A.length ≤ 1048576) (hlb : B.length ≤ 1048576) (hka : ∀ x ∈ A, x.1.key.size ≤ 140737488351232 ∧ x.2.length ≤ 140737488351232) (hkb : ∀ x ∈ B, x.1.key.size ≤ 140737488351232 ∧ x.2.length ≤ 140737488351232) :
    Calls Try.prog 8 #[va, vb] w fun e w' => ∃ v D, e = .returned v ∧ DR w' w.heap.size v D ∧ ddat D = dfX (pdat A) (pdat B) ∧ Below w.heap.size w w' := by
  unfold dfX
  by_cases h : rightD (pdat A) = true ∧ rightD (pdat B) = true
  · rw [if_pos h]
    exact rdiffer_yes va vb A B w ha hb hla hlb h.1 h.2 hka hkb
  · rw [if_neg h]
    have hn : rightD (pdat A) = false ∨ rightD (pdat A) = true ∧ rightD (pdat B) = false := by
      cases h1 : rightD (pdat A) with
      | false => exact Or.inl rfl
      | true => exact Or.inr ⟨rfl, by cases h2 : rightD (pdat B) with | false => rfl | true => exact absurd ⟨h1, h2⟩ h⟩
    refine (rdiffer_no va vb A B w ha hb (fun x hx => (hka x hx).1) (fun x hx => (hkb x hx).1) hn).mono ?_
    rintro e w' ⟨rfl, hb⟩
    exact ⟨_, [], rfl, DR.nil _ _, rfl, hb⟩
theorem pdf_any (va vb : Value) (A B : List El) (w : World) (ha : EL 2 prC w va A) (hb : EL 2 prC w vb B) (hla : A.length ≤ 1048576) (hlb : B.length ≤ 1048576) :
    Calls Try.prog 5 #[va, vb] w fun e w' => ∃ v D, e = .returned v ∧ DR w' w.heap.size v D ∧ ddat D = dfX (pdat A) (pdat B) ∧ Below w.heap.size w w' := by
  unfold dfX
  by_cases h : rightD (pdat A) = true ∧ rightD (pdat B) = true
  · rw [if_pos h]
    exact differ_any va vb A B w ha hb hla hlb h.1 h.2
  · rw [if_neg h]
    have hn : rightD (pdat A) = false ∨ rightD (pdat A) = true ∧ rightD (pdat B) = false := by
      cases h1 : rightD (pdat A) with
      | false => exact Or.inl rfl
      | true => exact Or.inr ⟨rfl, by cases h2 : rightD (pdat B) with | false => rfl | true => exact absurd ⟨h1, h2⟩ h⟩
    refine (differ_no va vb A B w ha hb hn).mono ?_
    rintro e w' ⟨rfl, hb⟩
    exact ⟨_, [], rfl, DR.nil _ _, rfl, hb⟩

/-- While the values of differences are spoiled one behind the other: those from i on are whole. -/
structure SpD (w1 : World) (base : Nat) (wr : World) (vl : Value) (D : List Dm) (i : Nat) : Prop where
  row : wr.ownsRow base 31 5 vl D.length (dfl D)
  val : ∀ (j : Nat) (x : El), i ≤ j → (vals D)[j]? = some x → Mine wr base (vof x.1) x.2
  bel : Below base w1 wr
theorem SpD.step {w1 wr w' : World} {base : Nat} {vl : Value} {D : List Dm} {i : Nat} {x0 : El} (h : SpD w1 base wr vl D i) (hb : base ≤ wr.heap.size) (hi : (vals D)[i]? = some x0) (hap : ∀ x ∈ vals D, ∀ b off, x.1.p = some ⟨b, off, none⟩ → x.2 ≠ [] → vl.ownBlock ≠ some b) (hd : Dif (vals D))
    (hs : (x0.2 = [] ∧ w' = wr) ∨ x0.2 ≠ [] ∧ ∃ g off n c, vof x0.1 = .slice (some ⟨g, off, none⟩) n c ∧ base ≤ g ∧ g < wr.heap.size ∧ Keep (fun k => k = g) wr w') : SpD w1 base w' vl D (i + 1) := by
  rcases hs with ⟨_, rfl⟩ | ⟨hne, g, off, n, c, e, hg, hgl, hk⟩
  · exact ⟨h.row, fun j x hj hx => h.val j x (by omega) hx, h.bel⟩
  · have hp : x0.1.p = some ⟨g, off, none⟩ := by unfold vof at e; simp only [Value.slice.injEq] at e; exact e.1
    refine ⟨?_, fun j x hj hx => ?_, ?_⟩
    · refine owns_keep6 h.row hk (fun q hq e2 => ?_)
      subst e2
      exact hap _ (List.mem_of_getElem? hi) q off hp hne hq
    · refine (h.val j x (by omega) hx).keep6 hk (fun b off' n' c' e' hne2 e2 => ?_)
      subst e2
      have hp' : x.1.p = some ⟨b, off', none⟩ := by unfold vof at e'; simp only [Value.slice.injEq] at e'; exact e'.1
      exact hd i j _ x b off off' (by omega) hi hx hne hne2 hp hp'
    · exact h.bel.trans (hk.below hb (fun q e2 => by omega))
theorem vals_cons (x : Dm) (D : List Dm) : vals (x :: D) = oldE x :: newE x :: vals D := rfl
theorem vals_two : ∀ (D : List Dm) (i : Nat) (h : i < D.length), (vals D)[i * 2]? = some (oldE D[i]) ∧ (vals D)[i * 2 + 1]? = some (newE D[i])
  | [], i, h => by cases h
  | x :: D, 0, h => ⟨rfl, rfl⟩
  | x :: D, i + 1, h => by
    have ih := vals_two D i (by simpa using h)
    rw [vals_cons, show (i + 1) * 2 = i * 2 + 1 + 1 by omega]
    simp only [List.getElem?_cons_succ, List.getElem_cons_succ]
    exact ih
theorem SpD.seen {w1 wr : World} {base q : Nat} {vl : Value} {D : List Dm} {i : Nat} (h : SpD w1 base wr vl D q) (hi : i < D.length) :
    ∃ b off cap, vl = .slice (some ⟨b, off, none⟩) D.length cap ∧ wr.cell? ⟨b, off + i * 5 + 3, none⟩ = some (.slice D[i].1.op D[i].1.on D[i].1.oc) ∧ wr.cell? ⟨b, off + i * 5 + 4, none⟩ = some (.slice D[i].1.np D[i].1.nn D[i].1.nc) := by
  obtain ⟨b, off, cap, e, h1, h2, hc⟩ := (krow_of_owns h.row (dfl_len D)).open (by omega)
  have hg : ∀ q u, q < 5 → (dfC D[i].1)[q]? = some u → wr.cell? ⟨b, off + i * 5 + q, none⟩ = some u := fun q u hq hu => by
    have := hc (i * 5 + q) u (by rw [dfl_get D i hi q hq]; exact hu)
    rwa [← Nat.add_assoc] at this
  exact ⟨b, off, cap, e, hg 3 _ (by omega) rfl, hg 4 _ (by omega) rfl⟩
end Go.Proofs.Ytjkkdijoogiipaa
