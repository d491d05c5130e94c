/- Texts of ours, one behind the other: FrArgs, OpArgs. -/
import Derived.Test.YtjkkdijoogiipaaG2
import Derived.Test.YtjkkdijoogiipaaG12
/- Frames that came in, by shapes. -/
namespace Go.Proofs.Ytjkkdijoogiipaa
open Go.RowKit

def frSh : Sh := .struct (.cons (.int .u64) (.cons (.int .u64) (.cons (.int .i64) (.cons (.row 1 (.int .u8)) .nil))))
def framesSh : Sh := .row 48 frSh

theorem row_of_reads {w : World} {v : Value} {d : Dt} (h : Reads limSaid w (.row 1 (.int .u8)) [v] d) : ∃ bs : List UInt8, Row w v bs ∧ bs.length ≤ 140737488351232 := by
  obtain ⟨a, cap, l, e, rfl, h1, h2, h3, h4, h5⟩ := h
  simp only [List.cons.injEq, and_true] at e
  subst e
  have hl : l.length ≤ 140737488351232 := by unfold limSaid reachBytes at h4; omega
  rcases h5 with rfl | ⟨b, off, rfl, hc⟩
  · exact ⟨[], ⟨a, cap, rfl, h1, h2, h3, Or.inl rfl⟩, by simp⟩
  · have hx : ∀ j (h : j < l.length), ∃ u : UInt8, w.cell? ⟨b, off + j, none⟩ = some (B u) := by
      intro j hj
      obtain ⟨cs, h1, h2, n, rfl, hw, _⟩ := hc j hj
      have := h2 0 _ rfl
      simp only [Sh.size, Nat.mul_one, Nat.add_zero] at this
      have hb := bounds_u8 hw
      refine ⟨UInt8.ofNat n.toNat, ?_⟩
      rw [this]
      unfold B
      congr 2
      simp
      omega
    have hch : ∃ f : Nat → UInt8, ∀ j, j < l.length → w.cell? ⟨b, off + j, none⟩ = some (B (f j)) := by
      refine ⟨fun j => if h : j < l.length then (hx j h).choose else 0, fun j hj => ?_⟩
      simp only [hj, dif_pos]
      exact (hx j hj).choose_spec
    obtain ⟨f, hf⟩ := hch
    refine ⟨(List.range l.length).map f, ⟨_, cap, by simp, by simpa using h1, h2, h3, Or.inr ⟨b, off, rfl, fun j hj => ?_⟩⟩, by simpa using hl⟩
    have hj' : j < l.length := by simpa using hj
    rw [hf j hj']
    simp
theorem fr_of_reads {w : World} {cs : List Value} {d : Dt} (h : Reads limSaid w frSh cs d) : ∃ (f : Fr) (s : Value), cs = frC (f, s) ∧ Row w s f.data ∧ f.ok := by
  obtain ⟨c1, r1, d1, dr1, rfl, _, rfl, ⟨n1, rfl, w1, _⟩, c2, r2, d2, dr2, rfl, _, rfl, ⟨n2, rfl, w2, _⟩, c3, r3, d3, dr3, rfl, _, rfl, ⟨n3, rfl, w3, _⟩, c4, r4, d4, dr4, rfl, hl4, rfl, h4, rfl, _⟩ := h
  have hc4 : ∃ v, c4 = [v] := by
    match c4, hl4 with
    | [v], _ => exact ⟨v, rfl⟩
  obtain ⟨v, rfl⟩ := hc4
  obtain ⟨bs, hr, hb⟩ := row_of_reads h4
  have b1 := bounds_u64 w1
  have b2 := bounds_u64 w2
  have b3 := bounds_i64 w3
  refine ⟨⟨n1.toNat, n2.toNat, n3, bs⟩, v, ?_, hr, ⟨by simp only; omega, by simp only; omega, by simp only; omega, by simp only; omega, hb⟩⟩
  have e1 : (n1.toNat : Int) = n1 := by omega
  have e2 : (n2.toNat : Int) = n2 := by omega
  simp [frC, e1, e2]
theorem fl_of_reads {w : World} {v : Value} {d : Dt} (h : Reads limSaid w framesSh [v] d) : ∃ l, FL w v l := by
  obtain ⟨a, cap, l, e, rfl, h1, h2, h3, h4, h5⟩ := h
  simp only [List.cons.injEq, and_true] at e
  subst e
  rcases h5 with rfl | ⟨b, off, rfl, hc⟩
  · exact ⟨[], ⟨a, cap, rfl, h1, h2, h3, Or.inl rfl⟩, by simp⟩
  · have hx : ∀ j (h : j < l.length), ∃ p : Fr × Value, (∀ i u, (frC p)[i]? = some u → w.cell? ⟨b, off + j * 4 + i, none⟩ = some u) ∧ Row w p.2 p.1.data ∧ p.1.ok := by
      intro j hj
      obtain ⟨cs, g1, g2, g3⟩ := hc j hj
      obtain ⟨f, s, rfl, hr, ho⟩ := fr_of_reads g3
      exact ⟨(f, s), g2, hr, ho⟩
    have hch : ∃ F : Nat → Fr × Value, ∀ j, j < l.length → (∀ i u, (frC (F j))[i]? = some u → w.cell? ⟨b, off + j * 4 + i, none⟩ = some u) ∧ Row w (F j).2 (F j).1.data ∧ (F j).1.ok := by
      refine ⟨fun j => if h : j < l.length then (hx j h).choose else (zeroF, .slice none 0 0), fun j hj => ?_⟩
      simp only [hj, dif_pos]
      exact (hx j hj).choose_spec
    obtain ⟨F, hF⟩ := hch
    have hlen : ((List.range l.length).map F).length = l.length := by simp
    refine ⟨(List.range l.length).map F, ⟨_, cap, by rw [hlen], by rw [hlen]; exact h1, h2, h3, Or.inr ⟨b, off, rfl, fun j u hu => ?_⟩⟩, fun p hp => ?_⟩
    · have hjl : j < (cellsL ((List.range l.length).map F)).length := (List.getElem?_eq_some_iff.1 hu).1
      rw [length_cellsL, hlen] at hjl
      have hj4 : j / 4 < l.length := by omega
      have hg := cellsL_get ((List.range l.length).map F) (j / 4) (by rw [hlen]; exact hj4) (j % 4) (by omega)
      rw [show j / 4 * 4 + j % 4 = j by omega, hu] at hg
      have e : ((List.range l.length).map F)[j / 4]'(by rw [hlen]; exact hj4) = F (j / 4) := by simp
      rw [e] at hg
      have := (hF (j / 4) hj4).1 (j % 4) u hg.symm
      rw [← this]
      congr 2
      omega
    · simp only [List.mem_map, List.mem_range] at hp
      obtain ⟨j, hj, rfl⟩ := hp
      exact (hF j hj).2
end Go.Proofs.Ytjkkdijoogiipaa

/- Operations and pairs that came in, by shapes. -/
namespace Go.Proofs.Ytjkkdijoogiipaa
open Go.RowKit

/-- What a limit says of lengths. -/
structure LimOk (lim : Nat → Nat → Prop) : Prop where
  one : ∀ n, lim n 1 → n ≤ 140737488351232
theorem lim_said : LimOk limSaid := ⟨fun n h => by unfold limSaid reachBytes at h; omega⟩
theorem lim_upto : LimOk limUpto := ⟨fun n h => by unfold limUpto at h; omega⟩
theorem row_reads {lim : Nat → Nat → Prop} (hlim : LimOk lim) {w : World} {v : Value} {d : Dt} (h : Reads lim w (.row 1 (.int .u8)) [v] d) : ∃ bs : List UInt8, Row w v bs ∧ bs.length ≤ 140737488351232 := by
  obtain ⟨a, cap, l, e, rfl, h1, h2, h3, h4, h5⟩ := h
  simp only [List.cons.injEq, and_true] at e
  subst e
  have hl : l.length ≤ 140737488351232 := hlim.one _ h4
  rcases h5 with rfl | ⟨b, off, rfl, hc⟩
  · exact ⟨[], ⟨a, cap, rfl, h1, h2, h3, Or.inl rfl⟩, by simp⟩
  · have hx : ∀ j (h : j < l.length), ∃ u : UInt8, w.cell? ⟨b, off + j, none⟩ = some (B u) := by
      intro j hj
      obtain ⟨cs, h1, h2, n, rfl, hw, _⟩ := hc j hj
      have := h2 0 _ rfl
      simp only [Sh.size, Nat.mul_one, Nat.add_zero] at this
      have hb := bounds_u8 hw
      refine ⟨UInt8.ofNat n.toNat, ?_⟩
      rw [this]
      unfold B
      congr 2
      simp
      omega
    have hch : ∃ f : Nat → UInt8, ∀ j, j < l.length → w.cell? ⟨b, off + j, none⟩ = some (B (f j)) := by
      refine ⟨fun j => if h : j < l.length then (hx j h).choose else 0, fun j hj => ?_⟩
      simp only [hj, dif_pos]
      exact (hx j hj).choose_spec
    obtain ⟨f, hf⟩ := hch
    refine ⟨(List.range l.length).map f, ⟨_, cap, by simp, by simpa using h1, h2, h3, Or.inr ⟨b, off, rfl, fun j hj => ?_⟩⟩, by simpa using hl⟩
    have hj' : j < l.length := by simpa using hj
    rw [hf j hj']
    simp
/-- A thing that came in. -/
def ElOk (w : World) (x : El) : Prop := Row w (vof x.1) x.2 ∧ x.2.length ≤ 140737488351232 ∧ x.1.key.size ≤ 140737488351232
/-- A row of things that came in, by what each of them reads as. -/
theorem el_of_reads {lim : Nat → Nat → Prop} {k bytes : Nat} {cf : Opv → List Value} {sh : Sh} (hk0 : 0 < k) (hk : ∀ o, (cf o).length = k) (hsz : sh.size = k) {w : World} (hone : ∀ cs d, Reads lim w sh cs d → ∃ x : El, cs = cf x.1 ∧ ElOk w x) {v : Value} {d : Dt} (h : Reads lim w (.row bytes sh) [v] d) :
    ∃ L : List El, EL k cf w v L ∧ (∀ x ∈ L, ElOk w x) ∧ lim L.length bytes := by
  obtain ⟨a, cap, l, e, rfl, h1, h2, h3, h4, h5⟩ := h
  simp only [List.cons.injEq, and_true] at e
  subst e
  rcases h5 with rfl | ⟨b, off, rfl, hc⟩
  · exact ⟨[], ⟨⟨a, cap, rfl, h1, h2, h3, by simp [elC], Or.inl rfl⟩, fun x hx => by simp at hx⟩, ⟨fun x hx => by simp at hx, h4⟩⟩
  · have hx : ∀ j (h : j < l.length), ∃ x : El, (∀ i u, (cf x.1)[i]? = some u → w.cell? ⟨b, off + j * k + i, none⟩ = some u) ∧ ElOk w x := by
      intro j hj
      obtain ⟨cs, g1, g2, g3⟩ := hc j hj
      obtain ⟨x, rfl, ho⟩ := hone _ _ g3
      rw [hsz] at g2
      exact ⟨x, g2, ho⟩
    have hch : ∃ F : Nat → El, ∀ j, j < l.length → (∀ i u, (cf (F j).1)[i]? = some u → w.cell? ⟨b, off + j * k + i, none⟩ = some u) ∧ ElOk w (F j) := by
      refine ⟨fun j => if h : j < l.length then (hx j h).choose else (⟨⟨#[]⟩, none, 0, 0, false⟩, []), fun j hj => ?_⟩
      simp only [hj, dif_pos]
      exact (hx j hj).choose_spec
    obtain ⟨F, hF⟩ := hch
    have hlen : ((List.range l.length).map F).length = l.length := by simp
    have hmem : ∀ x ∈ (List.range l.length).map F, ElOk w x := fun x hx => by
      simp only [List.mem_map, List.mem_range] at hx
      obtain ⟨j, hj, rfl⟩ := hx
      exact (hF j hj).2
    refine ⟨(List.range l.length).map F, ⟨⟨_, cap, by rw [hlen], by rw [hlen]; exact h1, h2, h3, elC_len hk _, Or.inr ⟨b, off, rfl, fun j u hu => ?_⟩⟩, fun x hx => (hmem x hx).1⟩, hmem, by rw [hlen]; exact h4⟩
    have hjl := (List.getElem?_eq_some_iff.1 hu).1
    rw [elC_len hk, hlen] at hjl
    have hj5 : j / k < l.length := (Nat.div_lt_iff_lt_mul hk0).2 hjl
    have hg := elC_get hk ((List.range l.length).map F) (j / k) (by rw [hlen]; exact hj5) (j % k) (Nat.mod_lt _ hk0)
    rw [Nat.div_add_mod' j k, hu] at hg
    have e : ((List.range l.length).map F)[j / k]'(by rw [hlen]; exact hj5) = F (j / k) := by simp
    rw [e] at hg
    have := (hF (j / k) hj5).1 (j % k) u hg.symm
    rw [← this, Nat.add_assoc, Nat.div_add_mod' j k]
def opSh : Sh := .struct (.cons .str (.cons (.row 1 (.int .u8)) (.cons .bool .nil)))
theorem op_reads {lim : Nat → Nat → Prop} (hlim : LimOk lim) {w : World} (cs : List Value) (d : Dt) (h : Reads lim w opSh cs d) : ∃ x : El, cs = opC x.1 ∧ ElOk w x := by
  obtain ⟨c1, r1, d1, dr1, rfl, _, rfl, ⟨s, rfl, _, hs, _⟩, c2, r2, d2, dr2, rfl, hl2, rfl, h2, c3, r3, d3, dr3, rfl, _, rfl, ⟨b, rfl, _⟩, rfl, _⟩ := h
  have hc2 : ∃ v, c2 = [v] := by
    match c2, hl2 with
    | [v], _ => exact ⟨v, rfl⟩
  obtain ⟨v, rfl⟩ := hc2
  obtain ⟨bs, hr, hb⟩ := row_reads hlim h2
  obtain ⟨p, c, l, rfl, _⟩ := hr.shape
  exact ⟨(⟨s, p, l, c, b⟩, bs), rfl, hr, hb, hlim.one _ hs⟩
theorem ops_of_reads {lim : Nat → Nat → Prop} (hlim : LimOk lim) {w : World} {v : Value} {d : Dt} (h : Reads lim w (.row 48 opSh) [v] d) : ∃ L : List El, EL 3 opC w v L ∧ (∀ x ∈ L, ElOk w x) ∧ lim L.length 48 :=
  el_of_reads (by omega) opC_len rfl (op_reads hlim) h
end Go.Proofs.Ytjkkdijoogiipaa
