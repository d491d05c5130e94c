/- Texts of ours, one behind the other: BatArgs. -/
import Derived.Test.YtpampknbbpjkiaaG15
import Derived.Test.YtpampknbbpjkiaaG21
/- Records, changes and operations that came in, by shapes. -/
namespace Go.Proofs.Ytpampknbbpjkiaa
open Go.RowKit

def refSh : Sh := .struct (.cons (.int .u64) (.cons (.int .i64) (.cons (.int .i64) .nil)))
def chgSh : Sh := .struct (.cons .str (.cons refSh (.cons .bool .nil)))
def movSh : Sh := .struct (.cons (.int .u64) (.cons (.int .i64) (.cons (.int .i64) (.cons (.int .i64) .nil))))
def rcdSh : Sh := .struct (.cons (.int .i64) (.cons (.int .u64) (.cons (.row 48 chgSh) (.cons movSh .nil))))

theorem chg_of_reads {w : World} {cs : List Value} {d : Dt} (h : Reads limSaid w chgSh cs d) : ∃ c : Chg, cs = chgC c ∧ c.ok := by
  obtain ⟨c1, r1, d1, dr1, rfl, _, rfl, ⟨s, rfl, _, hs, _⟩, c2, r2, d2, dr2, rfl, _, rfl, ⟨c3, r3, d3, dr3, rfl, _, rfl, ⟨n3, rfl, w3, _⟩, c4, r4, d4, dr4, rfl, _, rfl, ⟨n4, rfl, w4, _⟩, c5, r5, d5, dr5, rfl, _, rfl, ⟨n5, rfl, w5, _⟩, rfl, _⟩, c6, r6, d6, dr6, rfl, _, rfl, ⟨b, rfl, _⟩, rfl, _⟩ := h
  have b3 := bounds_u64 w3
  have b4 := bounds_i64 w4
  have b5 := bounds_i64 w5
  unfold limSaid reachBytes at hs
  have e3 : (n3.toNat : Int) = n3 := by omega
  exact ⟨⟨s, n3.toNat, n4, n5, b⟩, by simp [chgC, e3], by simp only; omega, by simp only; omega, by simp only; omega, by simp only; omega, by simp only; omega, by simp only; omega⟩
theorem cl_of_reads {w : World} {v : Value} {d : Dt} (h : Reads limSaid w (.row 48 chgSh) [v] d) : ∃ l : List Chg, CL w v l ∧ (∀ c ∈ l, c.ok) ∧ l.length * 48 ≤ 140737488351232 := by
  obtain ⟨a, cap, l, e, rfl, h1, h2, h3, h4, h5⟩ := h
  simp only [List.cons.injEq, and_true] at e
  subst e
  have hlim : l.length * 48 ≤ 140737488351232 := by unfold limSaid reachBytes at h4; omega
  rcases h5 with rfl | ⟨b, off, rfl, hc⟩
  · exact ⟨[], ⟨a, cap, rfl, h1, h2, h3, by simp, Or.inl rfl⟩, by simp, by simp⟩
  · have hx : ∀ j (h : j < l.length), ∃ c : Chg, (∀ i u, (chgC c)[i]? = some u → w.cell? ⟨b, off + j * 5 + i, none⟩ = some u) ∧ c.ok := by
      intro j hj
      obtain ⟨cs, g1, g2, g3⟩ := hc j hj
      obtain ⟨c, rfl, ho⟩ := chg_of_reads g3
      exact ⟨c, g2, ho⟩
    have hch : ∃ F : Nat → Chg, ∀ j, j < l.length → (∀ i u, (chgC (F j))[i]? = some u → w.cell? ⟨b, off + j * 5 + i, none⟩ = some u) ∧ (F j).ok := by
      refine ⟨fun j => if h : j < l.length then (hx j h).choose else zeroChg, fun j hj => ?_⟩
      simp only [hj, dif_pos]
      exact (hx j hj).choose_spec
    obtain ⟨F, hF⟩ := hch
    have hlen : ((List.range l.length).map F).length = l.length := by simp
    refine ⟨(List.range l.length).map F, ⟨_, cap, by rw [hlen], by rw [hlen]; exact h1, h2, h3, flat_len chgC_len _, Or.inr ⟨b, off, rfl, fun j u hu => ?_⟩⟩, fun c hc => ?_, by rw [hlen]; exact hlim⟩
    · have hjl := (List.getElem?_eq_some_iff.1 hu).1
      rw [flat_len chgC_len, hlen] at hjl
      have hj5 : j / 5 < l.length := by omega
      have hg := flat_get chgC_len ((List.range l.length).map F) (j / 5) (by rw [hlen]; exact hj5) (j % 5) (by omega)
      rw [show j / 5 * 5 + j % 5 = j by omega, hu] at hg
      have e : ((List.range l.length).map F)[j / 5]'(by rw [hlen]; exact hj5) = F (j / 5) := by simp
      rw [e] at hg
      have := (hF (j / 5) hj5).1 (j % 5) u hg.symm
      rw [← this]
      congr 2
      omega
    · simp only [List.mem_map, List.mem_range] at hc
      obtain ⟨j, hj, rfl⟩ := hc
      exact (hF j hj).2
theorem rcd_of_reads {w : World} {cs : List Value} {d : Dt} (h : Reads limSaid w rcdSh cs d) : ∃ (r : Rcd) (v : Value), cs = (rcdA r v).toList ∧ CL w v r.chg ∧ r.ok ∧ r.chg.length * 48 ≤ 140737488351232 := by
  obtain ⟨c1, r1, d1, dr1, rfl, _, rfl, ⟨n1, rfl, w1, _⟩, c2, r2, d2, dr2, rfl, _, rfl, ⟨n2, rfl, w2, _⟩, c3, r3, d3, dr3, rfl, hl3, rfl, h3, c4, r4, d4, dr4, rfl, _, rfl, ⟨c5, r5, d5, dr5, rfl, _, rfl, ⟨n5, rfl, w5, _⟩, c6, r6, d6, dr6, rfl, _, rfl, ⟨n6, rfl, w6, _⟩, c7, r7, d7, dr7, rfl, _, rfl, ⟨n7, rfl, w7, _⟩, c8, r8, d8, dr8, rfl, _, rfl, ⟨n8, rfl, w8, _⟩, rfl, _⟩, rfl, _⟩ := h
  have hc3 : ∃ v, c3 = [v] := by
    match c3, hl3 with
    | [v], _ => exact ⟨v, rfl⟩
  obtain ⟨v, rfl⟩ := hc3
  obtain ⟨l, hl, ho, hr⟩ := cl_of_reads h3
  have b1 := bounds_i64 w1
  have b2 := bounds_u64 w2
  have b5 := bounds_u64 w5
  have b6 := bounds_i64 w6
  have b7 := bounds_i64 w7
  have b8 := bounds_i64 w8
  have e2 : (n2.toNat : Int) = n2 := by omega
  have e5 : (n5.toNat : Int) = n5 := by omega
  refine ⟨⟨n1, n2.toNat, l, n5.toNat, n6, n7, n8⟩, v, by simp [rcdA, e2, e5], hl, ⟨by simp only; omega, by simp only; omega, by simp only; omega, ho, by simp only; omega, by simp only; omega, by simp only; omega, by simp only; omega, by simp only; omega, by simp only; omega, by simp only; omega⟩, hr⟩
end Go.Proofs.Ytpampknbbpjkiaa
