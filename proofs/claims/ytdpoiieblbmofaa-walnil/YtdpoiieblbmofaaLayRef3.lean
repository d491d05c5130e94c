/- What the reference of package layout does: Phys, Logic. -/
import Derived.Test.YtdpoiieblbmofaaLayRef2
namespace Go.Proofs.Ytdpoiieblbmofaa
open Go.RowKit

theorem reg7 (n a : Int) (h : Fits n) : regN n a = 7 ↔ 13 + 3 * lz n ≤ a ∧ a < 13 + 3 * lz n + lseg n * 32 := by
  obtain ⟨z1, z2, _, _⟩ := lz_le n h
  obtain ⟨s1, s2, _, _⟩ := lseg_le n h
  unfold regN
  repeat' split
  all_goals omega

end Go.Proofs.Ytdpoiieblbmofaa
