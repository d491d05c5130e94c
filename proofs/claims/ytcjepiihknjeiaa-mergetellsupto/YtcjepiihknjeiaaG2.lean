/- Texts of ours, one behind the other: Shape, ShapeUp. -/
import Derived.Test.YtcjepiihknjeiaaG1
import Derived.ProofKit
import Derived.OpenShut
import Derived.Deep.Slices
import Derived.SizedLaws
/- Plain data that came in, read by shapes: numbers, bools, texts, slices, structs and arrays of these, nested as one likes; nothing here speaks of the program. -/
namespace Go.Proofs.Ytcjepiihknjeiaa
open Go.RowKit Go.ChangeShapes Go.WideShapes Go.ChangeAt

/-- A type's shape. A struct is its fields one behind the other. -/
inductive Sh where
  | int (k : IntKind)
  | bool
  | str
  | row (bytes : Nat) (e : Sh)
  | struct (f : Sh)
  | arr (n : Nat) (e : Sh)
  | nil
  | cons (h t : Sh)

/-- How many cells. -/
def Sh.size : Sh → Nat
  | .struct f => f.size
  | .arr n e => n * e.size
  | .nil => 0
  | .cons h t => h.size + t.size
  | _ => 1

/-- What is read. -/
inductive Dt where
  | int (n : Int)
  | bool (b : Bool)
  | str (s : List UInt8)
  | row (l : List Dt)
  | nil
  | cons (h t : Dt)

/-- A shape is that of a type, or of fields from an offset on. -/
def fits (P : Program) : Sh → TypeId ⊕ (List Field × Nat) → Bool
  | .int k, .inl t => match P.underlying t with | some (.int k') => decide (k' = k) | _ => false
  | .bool, .inl t => match P.underlying t with | some .bool => true | _ => false
  | .str, .inl t => match P.underlying t with | some .string => true | _ => false
  | .row n e, .inl t => match P.underlying t with | some (.slice te) => decide (0 < e.size) && P.bytesOf te == n && P.cellsOf te == e.size && fits P e (.inl te) | _ => false
  | .struct f, .inl t => match P.underlying t with | some (.struct fs) => P.cellsOf t == f.size && fits P f (.inr (fs.toList, 0)) | _ => false
  | .arr n e, .inl t => match P.underlying t with | some (.array n' te) => n' == n && P.cellsOf t == n * e.size && P.cellsOf te == e.size && fits P e (.inl te) | _ => false
  | .nil, .inr ([], _) => true
  | .cons h t, .inr (f :: fs, off) => f.offset == off && P.cellsOf f.type == h.size && fits P h (.inl f.type) && fits P t (.inr (fs, off + h.size))
  | _, _ => false

/-- Cells read as data, with a bound on how long slices and texts are (how many, of how many bytes each). -/
def Reads (lim : Nat → Nat → Prop) (w : World) : Sh → List Value → Dt → Prop
  | .int k, cs, d => ∃ n, cs = [.int k n] ∧ (Lit.int k n).wf = true ∧ d = .int n
  | .bool, cs, d => ∃ b, cs = [.bool b] ∧ d = .bool b
  | .str, cs, d => ∃ s : ByteArray, cs = [.string s] ∧ s.size ≤ maxLen ∧ lim s.size 1 ∧ d = .str s.data.toList
  | .row n e, cs, d => ∃ (a : Option Addr) (cap : Nat) (l : List Dt), cs = [.slice a l.length cap] ∧ d = .row l ∧ l.length ≤ cap ∧ cap ≤ maxLen ∧ (a = none → cap = 0) ∧ lim l.length n ∧
      (l = [] ∨ ∃ b off, a = some ⟨b, off, none⟩ ∧ ∀ j (h : j < l.length), ∃ cs', cs'.length = e.size ∧ (∀ i v, cs'[i]? = some v → w.cell? ⟨b, off + j * e.size + i, none⟩ = some v) ∧ Reads lim w e cs' l[j])
  | .struct f, cs, d => Reads lim w f cs d
  | .arr n e, cs, d => ∃ l, d = .row l ∧ l.length = n ∧ cs.length = n * e.size ∧ ∀ j (h : j < l.length), Reads lim w e ((cs.drop (j * e.size)).take e.size) l[j]
  | .nil, cs, d => cs = [] ∧ d = .nil
  | .cons h t, cs, d => ∃ c1 c2 d1 d2, cs = c1 ++ c2 ∧ c1.length = h.size ∧ d = .cons d1 d2 ∧ Reads lim w h c1 d1 ∧ Reads lim w t c2 d2

/-- What is read stays where memory below is kept. -/
theorem Reads.below {lim : Nat → Nat → Prop} {w w' : World} (hb : Below w.heap.size w w') : ∀ {sh : Sh} {cs : List Value} {d : Dt}, Reads lim w sh cs d → Reads lim w' sh cs d
  | .int _, _, _, h => h
  | .bool, _, _, h => h
  | .str, _, _, h => h
  | .row _ _, _, _, h => by
    obtain ⟨a, cap, l, h1, h2, h3, h4, h5, h6, h7⟩ := h
    refine ⟨a, cap, l, h1, h2, h3, h4, h5, h6, ?_⟩
    rcases h7 with h7 | ⟨b, off, ha, hc⟩
    · exact Or.inl h7
    · refine Or.inr ⟨b, off, ha, fun j hj => ?_⟩
      obtain ⟨cs', e1, e2, e3⟩ := hc j hj
      exact ⟨cs', e1, fun i v hv => (hb.cell (World.block_lt_of_cell? w _ (e2 i v hv))).trans (e2 i v hv), Reads.below hb e3⟩
  | .struct f, cs, d, h => Reads.below hb (sh := f) (cs := cs) (d := d) h
  | .arr _ _, _, _, h => by
    obtain ⟨l, h1, h2, h3, h4⟩ := h
    exact ⟨l, h1, h2, h3, fun j hj => Reads.below hb (h4 j hj)⟩
  | .nil, _, _, h => h
  | .cons _ _, _, _, h => by
    obtain ⟨c1, c2, d1, d2, h1, h2, h3, h4, h5⟩ := h
    exact ⟨c1, c2, d1, d2, h1, h2, h3, Reads.below hb h4, Reads.below hb h5⟩

/-- The data that a datum is, by its shape. -/
def dtOf {H : Type} : Sh → List (DataW H) → Dt
  | .int _, [.lit (.int _ n)] => .int n
  | .bool, [.lit (.bool b)] => .bool b
  | .str, [.lit (.string s)] => .str s
  | .row _ _, [.nil] => .row []
  | .row _ e, [.slice elems _] => .row (elems.map fun x => dtOf e [x])
  | .struct f, [.agg parts] => dtOf f parts
  | .arr _ e, [.agg parts] => .row (parts.map fun x => dtOf e [x])
  | .cons h t, p :: ps => .cons (dtOf h [p]) (dtOf t ps)
  | _, _ => .nil

/-- What keeps the bounds at every part of a datum. -/
structure Bounds (P : Program) (H : Type) (lim : Nat → Nat → Prop) (good : TypeId → DataW H → Prop) : Prop where
  none : ∀ n, lim 0 n
  str : ∀ t s, P.underlying t = some .string → good t (.lit (.string s)) → lim s.length 1
  slice : ∀ t e elems spare, P.underlying t = some (.slice e) → good t (.slice elems spare) → lim elems.length (P.bytesOf e) ∧ ∀ x ∈ elems, good e x
  struct : ∀ t fs parts, P.underlying t = some (.struct fs) → good t (.agg parts) → ∀ (i : Nat) (f : Field) (x : DataW H), fs[i]? = some f → parts[i]? = some x → good f.type x
  array : ∀ t n e parts, P.underlying t = some (.array n e) → good t (.agg parts) → ∀ x ∈ parts, good e x

section
variable {H : Type} {enc : TypeId × Value → H} {P : Program} {w : World} {base : Nat} {spare : Nat → Bool} {held : Bool} {lim : Nat → Nat → Prop} {good : TypeId → DataW H → Prop}

theorem cells_at {a : Addr} {n : Nat} {cs : List Value} (h : w.cells? base a n = some cs) : cs.length = n ∧ ∀ i v, cs[i]? = some v → w.cell? (a.add i) = some v := by
  unfold World.cells? at h
  split at h
  · have hl : cs.length = n := by simpa using mapM_some_length h
    refine ⟨hl, fun i v hv => ?_⟩
    have hi : i < n := by rw [← hl]; exact (List.getElem?_eq_some_iff.1 hv).1
    have := mapM_some_get h i i (by simp [hi])
    rw [this]
    exact hv
  · cases h

/-- THE OPENING: cells that are read as a datum of a type read as its data, by its shape. -/
theorem reads_of_trod (hB : Bounds P H lim good) : ∀ (sh : Sh),
    (∀ t cs d ps fuel, fits P sh (.inl t) = true → DataW.trod enc P w base spare held fuel t cs = some (d, ps) → good t d → Reads lim w sh cs (dtOf sh [d])) ∧
    (∀ (fs : List Field) (off : Nat) (cs : List Value) (parts : List (DataW H)) (n : Nat), fits P sh (.inr (fs, off)) = true → cs.length = off + sh.size → parts.length = fs.length →
      (∀ (i : Nat) (f : Field), fs[i]? = some f → ∃ x ps, parts[i]? = some x ∧ DataW.trod enc P w base spare held n f.type ((cs.drop f.offset).take (P.cellsOf f.type)) = some (x, ps) ∧ good f.type x) → Reads lim w sh (cs.drop off) (dtOf sh parts))
  | .int k => by
    refine ⟨fun t cs d ps fuel hf h _ => ?_, fun _ _ _ _ _ hf => by simp [fits] at hf⟩
    simp only [fits] at hf
    split at hf
    · rename_i k' hu
      obtain rfl : k' = k := of_decide_eq_true hf
      obtain ⟨n, rfl, hx, hw⟩ := DataW.trod_int hu h
      cases hx
      exact ⟨n, rfl, hw, rfl⟩
    · cases hf
  | .bool => by
    refine ⟨fun t cs d ps fuel hf h _ => ?_, fun _ _ _ _ _ hf => by simp [fits] at hf⟩
    simp only [fits] at hf
    split at hf
    · rename_i hu
      obtain ⟨n, rfl, hx⟩ := DataW.trod_bool hu h
      cases hx
      exact ⟨n, rfl, rfl⟩
    · cases hf
  | .str => by
    refine ⟨fun t cs d ps fuel hf h hg => ?_, fun _ _ _ _ _ hf => by simp [fits] at hf⟩
    simp only [fits] at hf
    split at hf
    · rename_i hu
      obtain ⟨n, rfl, hx, hm⟩ := DataW.trod_string hu h
      cases hx
      have := hB.str t _ hu hg
      exact ⟨n, rfl, hm, by simpa using this, rfl⟩
    · cases hf
  | .row n e => by
    refine ⟨fun t cs d ps fuel hf h hg => ?_, fun _ _ _ _ _ hf => by simp [fits] at hf⟩
    simp only [fits] at hf
    split at hf
    · rename_i te hu
      simp only [Bool.and_eq_true, decide_eq_true_eq, beq_iff_eq] at hf
      obtain ⟨⟨⟨hpos, hby⟩, hce⟩, hfe⟩ := hf
      rcases Go.Deep.open_slice hu h with ⟨rfl, hx⟩ | ⟨a, len, cap, m, q, D, Pl, rfl, _, hl, hm, hmm, hx, hel⟩
      · cases hx
        exact ⟨none, 0, [], rfl, rfl, Nat.le_refl _, by unfold maxLen; omega, fun _ => rfl, hB.none n, Or.inl rfl⟩
      · cases hx
        obtain ⟨g1, g2⟩ := hB.slice t te _ _ hu hg
        have hml : len ≤ m := by rw [hmm]; split <;> omega
        have hlen : ((((List.range len).map D).map fun x => dtOf e [x])).length = len := by simp
        refine ⟨some a, cap, ((List.range len).map D).map fun x => dtOf e [x], by rw [hlen], rfl, by rw [hlen]; exact hl, hm, by simp, by rw [hlen, ← hby]; simpa using g1, ?_⟩
        by_cases h0 : len = 0
        · left; subst h0; rfl
        · right
          have hsp : ∃ b off, a = ⟨b, off, none⟩ := by
            obtain ⟨cs', hc, _⟩ := hel 0 (by omega)
            obtain ⟨hcl, hcc⟩ := cells_at hc
            obtain ⟨v, hv⟩ : ∃ v, cs'[0]? = some v := ⟨cs'[0]'(by omega), List.getElem?_eq_getElem (by omega)⟩
            have := World.cell?_spot (hcc 0 v hv)
            obtain ⟨b, off, spot⟩ := a
            exact ⟨b, off, by simpa [Addr.add] using this⟩
          obtain ⟨b, off, rfl⟩ := hsp
          refine ⟨b, off, rfl, fun j hj => ?_⟩
          have hj' : j < len := by simpa using hj
          obtain ⟨cs', hc, htr⟩ := hel j (by omega)
          obtain ⟨hcl, hcc⟩ := cells_at hc
          refine ⟨cs', by rw [hcl, hce], fun i v hv => ?_, ?_⟩
          · have := hcc i v hv
            simp only [Addr.add_lit] at this
            rw [hce] at this
            exact this
          · have := (reads_of_trod hB e).1 te cs' (D j) (Pl j) q hfe htr (g2 _ (by simp; exact ⟨j, hj', rfl⟩))
            simpa using this
    · cases hf
  | .struct f => by
    refine ⟨fun t cs d ps fuel hf h hg => ?_, fun _ _ _ _ _ hf => by simp [fits] at hf⟩
    simp only [fits] at hf
    split at hf
    · rename_i fs hu
      simp only [Bool.and_eq_true, beq_iff_eq] at hf
      obtain ⟨hce, hfe⟩ := hf
      obtain ⟨xs, n, _, hx, hcl, hxl, hfld⟩ := DataW.trod_struct hu h
      cases hx
      have := (reads_of_trod hB f).2 fs.toList 0 cs (xs.map (·.1)) n hfe (by omega) (by simpa using hxl) (fun i fd hfd => ?_)
      · simpa [Reads, dtOf] using this
      · have hfd' : fs[i]? = some fd := by simpa using hfd
        have hi : i < xs.length := by rw [hxl]; exact (Array.getElem?_eq_some_iff.1 hfd').1
        have h1 := hfld i fd hfd'
        rw [List.getElem?_eq_getElem hi] at h1
        refine ⟨xs[i].1, xs[i].2, by simp [List.getElem?_eq_getElem hi], h1, ?_⟩
        exact hB.struct t fs _ hu hg i fd _ hfd' (by simp [List.getElem?_eq_getElem hi])
    · cases hf
  | .arr n e => by
    refine ⟨fun t cs d ps fuel hf h hg => ?_, fun _ _ _ _ _ hf => by simp [fits] at hf⟩
    simp only [fits] at hf
    split at hf
    · rename_i n' te hu
      simp only [Bool.and_eq_true, beq_iff_eq] at hf
      obtain ⟨⟨⟨rfl, hct⟩, hce⟩, hfe⟩ := hf
      obtain ⟨xs, m, _, hx, hcl, hxl, hel⟩ := DataW.trod_array hu h
      cases hx
      refine ⟨(xs.map (·.1)).map fun x => dtOf e [x], rfl, by simpa using hxl, by rw [hcl, hct], fun j hj => ?_⟩
      have hj' : j < xs.length := by simpa using hj
      have h1 := hel j (by omega)
      rw [List.getElem?_eq_getElem hj', hce] at h1
      have := (reads_of_trod hB e).1 te _ xs[j].1 xs[j].2 m hfe h1 (hB.array t n' te _ hu hg _ (by simp; exact ⟨_, List.getElem_mem hj'⟩))
      simpa using this
    · cases hf
  | .nil => by
    refine ⟨fun t cs d ps fuel hf => by simp [fits] at hf, fun fs off cs parts n hf hcl hpl _ => ?_⟩
    cases fs with
    | nil =>
      obtain rfl : parts = [] := List.eq_nil_of_length_eq_zero hpl
      exact ⟨List.drop_eq_nil_of_le (by simp [Sh.size] at hcl; omega), rfl⟩
    | cons f fs => simp [fits] at hf
  | .cons hd tl => by
    refine ⟨fun t cs d ps fuel hf => by simp [fits] at hf, fun fs off cs parts n hf hcl hpl hall => ?_⟩
    cases fs with
    | nil => simp [fits] at hf
    | cons f fs =>
      simp only [fits, Bool.and_eq_true, beq_iff_eq] at hf
      obtain ⟨⟨⟨rfl, hce⟩, hfh⟩, hft⟩ := hf
      cases parts with
      | nil => simp at hpl
      | cons p parts =>
        obtain ⟨x, ps, hp, htr, hgd⟩ := hall 0 f rfl
        simp only [List.getElem?_cons_zero, Option.some.injEq] at hp
        subst hp
        have h1 := (reads_of_trod hB hd).1 f.type _ p ps n hfh htr hgd
        have h2 := (reads_of_trod hB tl).2 fs (f.offset + hd.size) cs parts n hft (by simp [Sh.size] at hcl; omega) (by simpa using hpl) (fun i fd hfd => hall (i + 1) fd (by simpa using hfd))
        simp only [Sh.size] at hcl
        refine ⟨(cs.drop f.offset).take hd.size, cs.drop (f.offset + hd.size), _, _, ?_, by simp; omega, rfl, by rw [hce] at h1; exact h1, h2⟩
        rw [← List.drop_drop]
        exact (List.take_append_drop _ _).symm
end

/-- The bounds of the first form. -/
def limSaid (n b : Nat) : Prop := n * b ≤ reachBytes
theorem weights_all {H : Type} {P : Program} {e : TypeId} : ∀ {l : List (DataW H)} {x : DataW H}, x ∈ l → ∀ n ∈ x.weights P e, n ∈ DataW.weightsAll P e l
  | [], _, hx, _, _ => by cases hx
  | y :: l, x, hx, n, hn => by
    simp only [DataW.weightsAll, List.mem_append]
    cases List.mem_cons.1 hx with
    | inl h => subst h; exact Or.inl hn
    | inr h => exact Or.inr (weights_all h n hn)
theorem boundsSaid (P : Program) (H : Type) : Bounds P H limSaid (fun t d => ∀ n ∈ d.weights P t, n ≤ reachBytes) where
  none := fun n => by simp [limSaid]
  str := fun t s hu hg => by
    have := hg s.length (by simp [DataW.weights])
    simpa [limSaid] using this
  slice := fun t e elems spare hu hg => by
    refine ⟨?_, fun x hx n hn => hg n ?_⟩
    · have := hg ((elems.length + spare.length) * P.bytesOf e) (by simp [DataW.weights, hu])
      unfold limSaid
      exact Nat.le_trans (Nat.mul_le_mul_right _ (by omega)) this
    · simp only [DataW.weights, hu, List.mem_cons, List.mem_append]
      exact Or.inr (Or.inl (weights_all hx n hn))
  struct := fun t fs parts hu hg i f x hf hx n hn => by
    refine hg n ?_
    simp only [DataW.weights, hu]
    exact DataW.weights_mem_each (j := i) (by simp [hf]) hx n hn
  array := fun t k e parts hu hg x hx n hn => by
    refine hg n ?_
    simp only [DataW.weights, hu]
    exact weights_all hx n hn
end Go.Proofs.Ytcjepiihknjeiaa

/- Data that came in, of a bulk that is bounded. -/
namespace Go.Proofs.Ytcjepiihknjeiaa
def limUpto (n _ : Nat) : Prop := n ≤ 1048576
end Go.Proofs.Ytcjepiihknjeiaa
