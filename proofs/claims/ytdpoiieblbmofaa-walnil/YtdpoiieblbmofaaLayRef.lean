/- What the reference of package layout does. -/
import Derived.Test.YtdpoiieblbmofaaBase
import Derived.Test.YtdpoiieblbmofaaLayPlain
namespace Go.Proofs.Ytdpoiieblbmofaa
open Go.RowKit

theorem rplan_any (n : Int) (w : World) :
    Calls Try.prog 34 #[.int .i64 n] w fun e w' => e = .returned (.tuple #[planV n, .int .i64 (planE n)]) ∧ Below w.heap.size w w' := by
  by_cases h : Fits n
  · have HE := hide (show planV n = layV n ∧ planE n = 0 by unfold planV planE; rw [if_pos h, if_pos h]; exact ⟨rfl, rfl⟩)
    obtain ⟨d1, d2⟩ := h
    go_enter Try.func34, Try.ntmps34
    go_wp2
    refine bodyPost_ret (v := .tuple #[layV n, .int .i64 0]) (by simp [results, Try.results34, go_sem, layV, lz, lseg]) rfl ⟨by rw [(unhide HE).1, (unhide HE).2], ((Below.refl _ _).alloc (Nat.le_refl _) _).alloc (by simp) _⟩
  · have HE := hide (show planV n = layZ ∧ planE n = 1 by unfold planV planE; rw [if_neg h, if_neg h]; exact ⟨rfl, rfl⟩)
    by_cases h1 : n < 256
    · clear h
      go_enter Try.func34, Try.ntmps34
      go_wp2
      refine bodyPost_ret (v := .tuple #[layZ, .int .i64 1]) (by simp [results, Try.results34, go_sem, layZ]) rfl ⟨by rw [(unhide HE).1, (unhide HE).2], (Below.refl _ _).alloc (Nat.le_refl _) _⟩
    · have h2 : 65536 < n := by unfold Fits at h; omega
      clear h
      go_enter Try.func34, Try.ntmps34
      go_wp2
      refine bodyPost_ret (v := .tuple #[layZ, .int .i64 1]) (by simp [results, Try.results34, go_sem, layZ]) rfl ⟨by rw [(unhide HE).1, (unhide HE).2], (Below.refl _ _).alloc (Nat.le_refl _) _⟩

/-- The layout's variable within Region. -/
def layO (n : Int) : Obj := .cells #[.int .i64 n, .int .i64 3, .int .i64 13, .int .i64 (lz n), .int .i64 (13 + lz n), .int .i64 (13 + 2 * lz n), .int .i64 (lz n), .int .i64 (13 + 3 * lz n), .int .i64 (lseg n)] 33

end Go.Proofs.Ytdpoiieblbmofaa
