/- What the reference's Zero does: the same as the program's. -/
import Derived.Test.YtdpoiieblbmofaaWord2
namespace Go.Proofs.Ytdpoiieblbmofaa
open Go.RowKit

theorem rzero_any (s : Value) (bs : List UInt8) (w : World) (h : Row w s bs) :
    Calls Try.prog 66 #[s] w fun e w' => e = .returned (.bool (bs.all (· == 0))) ∧ w' = w := by
  by_cases h0 : bs = []
  · subst h0
    obtain ⟨p, c, l, rfl, hl⟩ := h.shape
    simp only [List.length_nil] at hl
    subst hl
    clear h
    go_enter Try.func66, Try.ntmps66
    go_wp2
    refine wp_loop_rounds 1 ?_
    rw [rounds_succ]
    go_wp2
    go_ret
    exact ⟨rfl, rfl⟩
  · obtain ⟨b, off, c, rfl, hc1, hm1, hcell⟩ := h.open h0
    unfold maxLen at hm1
    have HC := hide hcell
    clear h hcell
    go_enter Try.func66, Try.ntmps66
    go_wp2
    go_loop [3] (fun i => ∃ k : Nat, k ≤ bs.length ∧ i = .int .i64 k ∧ Hid (∀ j (h : j < bs.length), j < k → bs[j] = 0)) (fun i => bs.length - (intOf i).toNat)
    case atStart => exact ⟨0, Nat.zero_le _, rfl, fun j _ hj => absurd hj (by omega)⟩
    case round =>
      obtain ⟨k, hk, rfl, hz⟩ := hrel
      by_cases hlt : k < bs.length
      · have hck : w.cell? ⟨b, off + k, none⟩ = some (.int .u8 (bs[k].toNat : Int)) := unhide HC k hlt
        by_cases hb0 : bs[k] = 0
        · have hd : ((bs[k].toNat : Int) != 0) = false := by rw [hb0]; rfl
          have HB := hide hb0
          clear hb0
          go_wp2
          go_round
          case rel =>
            refine ⟨k + 1, by omega, by go_num, fun j hj hjk => ?_⟩
            by_cases hje : j = k
            · subst hje; exact unhide HB
            · exact hz.out j hj (by omega)
          case measure => simp [intOf]; omega
        · have hd : ((bs[k].toNat : Int) != 0) = true := by
            rw [bne, beq_byte]; simp [hb0]
          have HB := hide (not_all_zero bs k hlt hb0)
          clear hb0
          go_wp2
          go_ret
          exact ⟨by rw [unhide HB]; rfl, rfl⟩
      · have HB := hide (all_zero bs (fun j hj => hz.out j hj (by omega)))
        have hkn : k = bs.length := by omega
        subst hkn
        go_wp2
        go_ret
        exact ⟨by rw [unhide HB]; rfl, rfl⟩
end Go.Proofs.Ytdpoiieblbmofaa
