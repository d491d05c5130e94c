/- Texts of ours, one behind the other: Base, Mine, Bytes. -/
import Derived.Test.YtjkkdijoogiipaaG5
import Derived.Test.YtjkkdijoogiipaaProg
import Derived.Laws.BytesArg
import Derived.Laws.IdiomStrings
/- Closed facts on the program's types. -/
namespace Go.Proofs.Ytjkkdijoogiipaa

theorem Try.info5 : (Try.prog.info? 5).map (fun i => (i.zero, i.size, i.bytes)) = some (some (.int .u8 0), 1, 1) := by kernel_rfl
theorem Try.size5 : (Try.prog.info? 5).map (·.size) = some 1 := by kernel_rfl
end Go.Proofs.Ytjkkdijoogiipaa

/- Bytes in memory of the call's own, wherever in a block they lie, and what the helper Spoil does to them. -/
namespace Go.Proofs.Ytjkkdijoogiipaa
open Go.RowKit

/-- A slice that reads as these bytes and, where there are any, lies in a block not below 'base' that may be written. -/
def Mine (w : World) (base : Nat) (t : Value) (bs : List UInt8) : Prop :=
  Row w t bs ∧ (bs = [] ∨ ∃ g off cap e cur, t = .slice (some ⟨g, off, none⟩) bs.length cap ∧ base ≤ g ∧ w.heap[g]? = some (.cells cur e (0, 0)))

theorem Mine.row {w : World} {base : Nat} {t : Value} {bs : List UInt8} (h : Mine w base t bs) : Row w t bs := h.1
theorem Mine.below {w w' : World} {base : Nat} {t : Value} {bs : List UInt8} (h : Mine w base t bs) (hb : Below w.heap.size w w') : Mine w' base t bs := by
  refine ⟨h.1.below hb, ?_⟩
  rcases h.2 with h2 | ⟨g, off, cap, e, cur, ht, hg, hh⟩
  · exact Or.inl h2
  · exact Or.inr ⟨g, off, cap, e, cur, ht, hg, (hb.block g (Array.getElem?_eq_some_iff.1 hh).1).trans hh⟩
theorem Mine.base {w : World} {base base' : Nat} {t : Value} {bs : List UInt8} (h : Mine w base t bs) (hb : base' ≤ base) : Mine w base' t bs :=
  ⟨h.1, h.2.elim Or.inl fun ⟨g, off, cap, e, cur, ht, hg, hh⟩ => Or.inr ⟨g, off, cap, e, cur, ht, Nat.le_trans hb hg, hh⟩⟩
theorem mine_nil (w : World) (base : Nat) : Mine w base (.slice none 0 0) [] := ⟨Row.nil w, Or.inl rfl⟩
theorem mine_of_owns {w : World} {base e : Nat} {t : Value} {bs : List UInt8} (h : w.ownsRow base e 1 t bs.length (bs.map B)) : Mine w base t bs := by
  refine ⟨row_of_owns h, ?_⟩
  rcases h.2 with ⟨_, h2⟩ | ⟨g, cap, cur, rfl, hg, hh, _⟩
  · exact Or.inl (List.eq_nil_of_length_eq_zero h2)
  · exact Or.inr ⟨g, 0, cap, e, cur, rfl, hg, hh⟩

theorem spoil_mine (s : Value) (bs : List UInt8) (base : Nat) (w : World) (ho : Mine w base s bs) :
    Calls Try.prog 9 #[s] w fun e w' => e = .returned (.tuple #[]) ∧ Below base w w' := by
  by_cases h0 : bs = []
  · subst h0
    obtain ⟨p, c, l, rfl, hl⟩ := ho.1.shape
    simp only [List.length_nil] at hl
    subst hl
    go_enter Try.func9, Try.ntmps9
    go_wp2
    refine wp_loop_rounds 1 ?_
    rw [rounds_succ]
    go_wp2
    go_end0
    exact ⟨rfl, Below.refl _ _⟩
  · rcases ho.2 with h2 | ⟨g, off, cap, e, cur, rfl, hg, hh⟩
    · exact absurd h2 h0
    obtain ⟨g', off', cap', e', hc1, hc2, hcell⟩ := ho.1.open h0
    simp only [Value.slice.injEq, Option.some.injEq, Addr.mk.injEq, and_true, true_and] at e'
    obtain ⟨⟨rfl, rfl⟩, rfl⟩ := e'
    have hint : ∀ j, j < bs.length → ∃ z : Int, cur[off + j]? = some (.int .u8 z) := fun j hj => by
      have h := hcell j hj
      rw [cell_of_row w g (off + j) cur _ (0, 0) hh] at h
      exact ⟨(bs[j].toNat : Int), h⟩
    clear ho hcell
    unfold maxLen at hc2
    go_enter Try.func9, Try.ntmps9
    go_wp2
    go_loopw [2] (fun i wr => ∃ (k : Nat) (cur : Array Value), k ≤ bs.length ∧ i = .int .i64 k ∧ wr.heap[g]? = some (.cells cur e (0, 0)) ∧ Hid (∀ j, j < bs.length → ∃ z : Int, cur[off + j]? = some (.int .u8 z)) ∧ Below base w wr)
      (fun i _ => bs.length - (intOf i).toNat)
    case atStart => exact ⟨0, cur, Nat.zero_le _, rfl, hh, hint, Below.refl _ _⟩
    case round =>
      obtain ⟨k, cur, hk, rfl, hblk, hint, hbel⟩ := hrel
      by_cases hlt : k < bs.length
      · obtain ⟨z, hz⟩ := hint.out k hlt
        have hc : wr.cell? ⟨g, off + k, none⟩ = some (.int .u8 z) := by rw [cell_of_row wr g (off + k) cur _ (0, 0) hblk]; exact hz
        have hf : wr.frozen? ⟨g, off + k, none⟩ = false := frozen_of_block hblk
        have hsz : off + k < cur.size := (Array.getElem?_eq_some_iff.1 hz).1
        clear hz
        go_wp2
        go_roundw
        case rel =>
          refine ⟨k + 1, cur.setIfInBounds (off + k) _, by omega, by go_num, heap_setCell_same wr g (off + k) cur _ _ hblk, ?_, hbel.setCell hg _⟩
          intro j hj
          by_cases hjk : k = j
          · subst hjk
            exact ⟨_, by rw [Array.getElem?_setIfInBounds_self_of_lt hsz]⟩
          · rw [Array.getElem?_setIfInBounds_ne (by omega)]
            exact hint.out j hj
        case measure => simp [intOf]; omega
      · have hkn : k = bs.length := by omega
        subst hkn
        go_wp2
        go_end0
        exact ⟨rfl, hbel⟩
end Go.Proofs.Ytjkkdijoogiipaa

/- What 'Bytes' of the verifier's helpers does: whether two rows of bytes are the same. -/
namespace Go.Proofs.Ytjkkdijoogiipaa
open Go.RowKit

theorem conv_row {w : World} {s : Value} {bs : List UInt8} (h : Row w s bs) : (convert 29 9 s).run Try.prog w = .ok (.string ⟨bs.toArray⟩) w := by
  obtain ⟨a, cap, rfl, h1, h2, h3, h4⟩ := h
  rcases h4 with rfl | ⟨b, off, rfl, hc⟩
  · cases a with
    | none => exact run_convert_bytes_nil w 29 5 Try.underlying29 Try.underlying5 0 cap 9 Try.underlying9
    | some x => exact run_convert_bytes_back w 29 9 5 x cap [] Try.underlying29 Try.underlying5 Try.underlying9 (fun j hj => by simp at hj)
  · exact run_convert_bytes_back w 29 9 5 ⟨b, off, none⟩ cap bs Try.underlying29 Try.underlying5 Try.underlying9 (fun j hj => by rw [Addr.add_lit]; exact hc j hj)

set_option maxRecDepth 20000 in
theorem bytes_any (s1 s2 : Value) (b1 b2 : List UInt8) (w : World) (h1 : Row w s1 b1) (h2 : Row w s2 b2) :
    Calls Try.prog 23 #[s1, s2] w fun e w' => e = .returned (.bool (b1 == b2)) ∧ w' = w := by
  have e1 := conv_row h1
  have e2 := conv_row h2
  clear h1 h2
  go_enter Try.func23, Try.ntmps23
  go_wp2
  go_ret
  exact ⟨rfl, rfl⟩
end Go.Proofs.Ytjkkdijoogiipaa
