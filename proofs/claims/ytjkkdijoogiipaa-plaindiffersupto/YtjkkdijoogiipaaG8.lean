/- Texts of ours, one behind the other: Args. -/
import Derived.Test.YtjkkdijoogiipaaG1
import Derived.ProofKit
import Derived.OpenShut
/- A slice of bytes that came in, as a row of bytes. -/
namespace Go.Proofs.Ytjkkdijoogiipaa
open Go.RowKit Go.ChangeShapes Go.WideShapes Go.ChangeAt

theorem row_of_cells {W : World} {x : Addr} {len cap : Nat} {zs : List Int} (hl : len ≤ cap) (hm : cap ≤ maxLen) (hz : zs.length = cap)
    (hcell : ∀ i, i < zs.length → W.cell? (x.add i) = some (.int .u8 (zs.getD i 0))) (hwz : ∀ n ∈ zs, (Lit.int .u8 n).wf = true) :
    ∃ bs : List UInt8, Row W (.slice (some x) len cap) bs ∧ bs.length = len := by
  have hlen : ((zs.take len).map (fun n => UInt8.ofNat n.toNat)).length = len := by simp; omega
  refine ⟨(zs.take len).map (fun n => UInt8.ofNat n.toNat), ⟨some x, cap, by rw [hlen], by rw [hlen]; exact hl, hm, by simp, ?_⟩, hlen⟩
  by_cases h0 : len = 0
  · left
    exact List.eq_nil_of_length_eq_zero (by omega)
  · right
    obtain ⟨b, off, spot⟩ := x
    have hspot : spot = none := by simpa [Addr.add] using World.cell?_spot (hcell 0 (by omega))
    subst hspot
    refine ⟨b, off, rfl, fun j hj => ?_⟩
    have hj' : j < zs.length := by omega
    have h := hcell j hj'
    rw [Addr.add_lit] at h
    rw [h]
    have hb := bounds_u8 (hwz zs[j] (List.getElem_mem hj'))
    simp [B, List.getD, List.getElem?_eq_getElem hj']
    omega
end Go.Proofs.Ytjkkdijoogiipaa
