/- Texts of ours, one behind the other: Bytes. -/
import Derived.Test.YtdpoiieblbmofaaG5
import Derived.Laws.BytesArg
import Derived.Laws.IdiomStrings
/- What 'Bytes' of the verifier's helpers does: whether two rows of bytes are the same. -/
namespace Go.Proofs.Ytdpoiieblbmofaa
open Go.RowKit

theorem conv_row {w : World} {s : Value} {bs : List UInt8} (h : Row w s bs) : (convert 27 9 s).run Try.prog w = .ok (.string ⟨bs.toArray⟩) w := by
  obtain ⟨a, cap, rfl, h1, h2, h3, h4⟩ := h
  rcases h4 with rfl | ⟨b, off, rfl, hc⟩
  · cases a with
    | none => exact run_convert_bytes_nil w 27 5 Try.underlying27 Try.underlying5 0 cap 9 Try.underlying9
    | some x => exact run_convert_bytes_back w 27 9 5 x cap [] Try.underlying27 Try.underlying5 Try.underlying9 (fun j hj => by simp at hj)
  · exact run_convert_bytes_back w 27 9 5 ⟨b, off, none⟩ cap bs Try.underlying27 Try.underlying5 Try.underlying9 (fun j hj => by rw [Addr.add_lit]; exact hc j hj)

set_option maxRecDepth 20000 in
theorem bytes_any (s1 s2 : Value) (b1 b2 : List UInt8) (w : World) (h1 : Row w s1 b1) (h2 : Row w s2 b2) :
    Calls Try.prog 48 #[s1, s2] w fun e w' => e = .returned (.bool (b1 == b2)) ∧ w' = w := by
  have e1 := conv_row h1
  have e2 := conv_row h2
  clear h1 h2
  go_enter Try.func48, Try.ntmps48
  go_wp2
  go_ret
  exact ⟨rfl, rfl⟩
end Go.Proofs.Ytdpoiieblbmofaa
