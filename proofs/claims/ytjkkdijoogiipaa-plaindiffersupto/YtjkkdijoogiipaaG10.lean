/- Texts of ours, one behind the other: Concat. -/
import Derived.Test.YtjkkdijoogiipaaG7
import Derived.Test.YtjkkdijoogiipaaG9
import Derived.Lib.AppendZeros
/- What slices.Grow of nil and slices.Concat of texts do, and bytes.Clone, and the helper CopyBytes. -/
namespace Go.Proofs.Ytjkkdijoogiipaa
open Go.RowKit

theorem Rows2.shape {w : World} {s : Value} {ls : List (List UInt8)} (h : Rows2 w s ls) : ∃ (p : Option Addr) (c : Nat), s = .slice p ls.length c ∧ ls.length ≤ c ∧ c ≤ maxLen ∧ (p = none → c = 0) := by
  obtain ⟨a, cap, hs, h1, h2, h3, _⟩ := h
  exact ⟨a, cap, hs, h1, h2, h3⟩
theorem Rows2.open {w : World} {s : Value} {ls : List (List UInt8)} (h : Rows2 w s ls) (hne : ls ≠ []) :
    ∃ b off cap, s = .slice (some ⟨b, off, none⟩) ls.length cap ∧ ls.length ≤ cap ∧ cap ≤ maxLen ∧ ∀ j (h : j < ls.length), ∃ v, w.cell? ⟨b, off + j, none⟩ = some v ∧ Row w v ls[j] := by
  obtain ⟨a, cap, hs, h1, h2, h3, h4⟩ := h
  rcases h4 with h4 | ⟨b, off, rfl, hc⟩
  · exact absurd h4 hne
  · exact ⟨b, off, cap, hs, h1, h2, hc⟩
theorem row_len {w : World} {v : Value} {bs : List UInt8} (h : Row w v bs) : bs.length ≤ 9223372036854775807 := by
  obtain ⟨a, cap, _, h1, h2, _⟩ := h
  unfold maxLen at h2
  omega

theorem sum_take (ls : List (List UInt8)) (k : Nat) (h : k < ls.length) : (ls.take (k + 1)).flatten = (ls.take k).flatten ++ ls[k] := by
  rw [List.take_succ_eq_append_getElem h, List.flatten_append]
  simp
theorem len_take (ls : List (List UInt8)) (k : Nat) : (ls.take k).flatten.length ≤ ls.flatten.length := by
  conv => rhs; rw [← List.take_append_drop k ls, List.flatten_append, List.length_append]
  omega

set_option maxRecDepth 20000 in
theorem copyBytes_any (s : Value) (bs : List UInt8) (w : World) (hs : Row w s bs) (hroom : bs.length ≤ 140737488351232) :
    Calls Try.prog 11 #[s] w fun e w' => ∃ t, e = .returned t ∧ w'.ownsRow w.heap.size 5 1 t bs.length (bs.map B) ∧ Below w.heap.size w w' := by
  obtain ⟨i0, hi, hz0, hz1, hz2⟩ := info_parts Try.info5
  go_enter Try.func11, Try.ntmps11
  go_wp2_with (at_builtin; refine wpList_append_row rfl _ _ 29 rfl w.heap.size 5 i0 (.int .u8 0) Try.underlying29 hi hz0 hz1 hz2 rfl _ 0 [] rfl (World.ownsRow_nil _ _ _ _) _ bs rfl hs (by omega) (Nat.le_refl _) ?_)
  intro v' w2 hown2 hgrow
  have hb2 : Below w.heap.size w w2 := (Below.refl _ _).grown hgrow (Nat.le_refl _) (fun j hj => by cases hj)
  clear hgrow
  go_wp2
  go_ret
  exact ⟨_, rfl, by simpa using hown2, hb2⟩
end Go.Proofs.Ytjkkdijoogiipaa
