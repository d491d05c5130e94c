/- Texts of ours, one behind the other: Base, Mine, Bytes. -/
import Derived.Test.YtehafkbndjifaabG5
import Derived.Test.YtehafkbndjifaabProg
import Derived.Laws.BytesArg
import Derived.Laws.IdiomStrings
/- Closed facts on the program's types. -/
namespace Go.Proofs.Ytehafkbndjifaab

theorem Try.info5 : (Try.prog.info? 5).map (fun i => (i.zero, i.size, i.bytes)) = some (some (.int .u8 0), 1, 1) := by kernel_rfl
theorem Try.size5 : (Try.prog.info? 5).map (·.size) = some 1 := by kernel_rfl
end Go.Proofs.Ytehafkbndjifaab

/- Bytes in memory of the call's own, wherever in a block they lie, and what the helper Spoil does to them. -/
namespace Go.Proofs.Ytehafkbndjifaab
open Go.RowKit

/-- A slice that reads as these bytes and, where there are any, lies in a block not below 'base' that may be written. -/
def Mine (w : World) (base : Nat) (t : Value) (bs : List UInt8) : Prop :=
  Row w t bs ∧ (bs = [] ∨ ∃ g off cap e cur, t = .slice (some ⟨g, off, none⟩) bs.length cap ∧ base ≤ g ∧ w.heap[g]? = some (.cells cur e (0, 0)))

theorem Mine.row {w : World} {base : Nat} {t : Value} {bs : List UInt8} (h : Mine w base t bs) : Row w t bs := h.1
theorem Mine.below {w w' : World} {base : Nat} {t : Value} {bs : List UInt8} (h : Mine w base t bs) (hb : Below w.heap.size w w') : Mine w' base t bs := by
  refine ⟨h.1.below hb, ?_⟩
  rcases h.2 with h2 | ⟨g, off, cap, e, cur, ht, hg, hh⟩
  · exact Or.inl h2
  · exact Or.inr ⟨g, off, cap, e, cur, ht, hg, (hb.block g (Array.getElem?_eq_some_iff.1 hh).1).trans hh⟩
theorem Mine.base {w : World} {base base' : Nat} {t : Value} {bs : List UInt8} (h : Mine w base t bs) (hb : base' ≤ base) : Mine w base' t bs :=
  ⟨h.1, h.2.elim Or.inl fun ⟨g, off, cap, e, cur, ht, hg, hh⟩ => Or.inr ⟨g, off, cap, e, cur, ht, Nat.le_trans hb hg, hh⟩⟩
theorem mine_nil (w : World) (base : Nat) : Mine w base (.slice none 0 0) [] := ⟨Row.nil w, Or.inl rfl⟩
theorem mine_of_owns {w : World} {base e : Nat} {t : Value} {bs : List UInt8} (h : w.ownsRow base e 1 t bs.length (bs.map B)) : Mine w base t bs := by
  refine ⟨row_of_owns h, ?_⟩
  rcases h.2 with ⟨_, h2⟩ | ⟨g, cap, cur, rfl, hg, hh, _⟩
  · exact Or.inl (List.eq_nil_of_length_eq_zero h2)
  · exact Or.inr ⟨g, 0, cap, e, cur, rfl, hg, hh⟩

end Go.Proofs.Ytehafkbndjifaab

/- What 'Bytes' of the verifier's helpers does: whether two rows of bytes are the same. -/
namespace Go.Proofs.Ytehafkbndjifaab
open Go.RowKit

theorem conv_row {w : World} {s : Value} {bs : List UInt8} (h : Row w s bs) : (convert 32 9 s).run Try.prog w = .ok (.string ⟨bs.toArray⟩) w := by
  obtain ⟨a, cap, rfl, h1, h2, h3, h4⟩ := h
  rcases h4 with rfl | ⟨b, off, rfl, hc⟩
  · cases a with
    | none => exact run_convert_bytes_nil w 32 5 Try.underlying32 Try.underlying5 0 cap 9 Try.underlying9
    | some x => exact run_convert_bytes_back w 32 9 5 x cap [] Try.underlying32 Try.underlying5 Try.underlying9 (fun j hj => by simp at hj)
  · exact run_convert_bytes_back w 32 9 5 ⟨b, off, none⟩ cap bs Try.underlying32 Try.underlying5 Try.underlying9 (fun j hj => by rw [Addr.add_lit]; exact hc j hj)

set_option maxRecDepth 20000 in
theorem bytes_any (s1 s2 : Value) (b1 b2 : List UInt8) (w : World) (h1 : Row w s1 b1) (h2 : Row w s2 b2) :
    Calls Try.prog 13 #[s1, s2] w fun e w' => e = .returned (.bool (b1 == b2)) ∧ w' = w := by
  have e1 := conv_row h1
  have e2 := conv_row h2
  clear h1 h2
  go_enter Try.func13, Try.ntmps13
  go_wp2
  go_ret
  exact ⟨rfl, rfl⟩
end Go.Proofs.Ytehafkbndjifaab
