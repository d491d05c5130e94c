/- Texts of ours, one behind the other: ArClone. -/
import Derived.Test.YtlbhhdldeaehkaaGreatG4
import Derived.Test.YtlbhhdldeaehkaaGreatG5
import Derived.Test.YtlbhhdldeaehkaaGreatG8
import Derived.Test.YtlbhhdldeaehkaaGreatG10
import Derived.Test.YtlbhhdldeaehkaaGreatG11
import Derived.Lib.SliceRun
/- slices.Clone of rows of one-cell things, as arena uses it. -/
namespace Go.Proofs.YtlbhhdldeaehkaaGreat
open Go.RowKit

theorem empty_own1 (w : World) (e size : Nat) : (w.alloc (.cells #[] e)).ownsRow w.heap.size e size (.slice (some ⟨w.heap.size, 0, none⟩) 0 0) 0 [] :=
  ⟨by simp, Or.inr ⟨w.heap.size, 0, #[], rfl, Nat.le_refl _, World.alloc_heap_new _ _, Nat.le_refl _, Nat.zero_le _, by simp, by simp⟩⟩

set_option maxRecDepth 20000 in
set_option maxHeartbeats 2000000 in
theorem cloneU_any (v : Value) (vs : List Value) (w : World) (h : VRow w v vs) (hne : vs ≠ []) (hone : ∀ u ∈ vs, u.oneCell' = true) (hroom : vs.length ≤ 1048576) :
    Calls Tryz.prog 46 #[v] w fun e w' => ∃ v', e = .returned v' ∧ w'.ownsRow w.heap.size 31 1 v' vs.length vs ∧ Below w.heap.size w w' := by
  obtain ⟨is, his, hs0, hs1, hs2⟩ := info_parts Tryz.infoU32
  obtain ⟨b, off, cap, rfl, k1, k2, hc⟩ := h.open hne
  have he : ∀ W : World, (binOp .eql 33 (.slice (some ⟨b, off, none⟩) vs.length cap) (.slice none 0 0)).run Tryz.prog W = .ok (.bool false) W := fun W => by rfl
  have HN : Hid (∀ j u, vs[j]? = some u → (w.alloc (.cells #[] 31)).cell? ((⟨b, off, none⟩ : Addr).add j) = some u) := fun j u hu => by
    rw [Addr.add_lit]
    have := hc j u hu
    exact (World.cell?_of_block (w := w) (Below.heap_alloc _ _ _ (World.block_lt_of_cell? w _ this))).trans this
  have HO := hide (empty_own1 w 31 1)
  have HS1 : Hid (0 + vs.length ≤ maxLen) := by unfold Hid; omega
  have HS2 : Hid ((0 + vs.length) * 4 ≤ 140737488355328) := by unfold Hid; omega
  have HL : Hid (vs.length = vs.length * 1) := by unfold Hid; omega
  have HONE := hide hone
  clear h hroom k1 k2 hc hone hne
  go_enter Tryz.func46, Tryz.ntmps46
  go_wp2_with (first
    | (with_reducible show wpList _ _ _ (Oper.mk _ (Op.call _) _ _ _ _ :: _) _ _; refine wpList_append_gen rfl _ _ 33 rfl w.heap.size 31 is (.int .u32 0) Tryz.underlying33 his hs0 1 4 (by omega) hs1 hs2 rfl (.slice (some ⟨w.heap.size, 0, none⟩) 0 0) 0 [] rfl (unhide HO) ⟨b, off, none⟩ vs.length cap vs rfl (unhide HL) (unhide HN) (unhide HONE) (unhide HS1) (unhide HS2) (by simp) ?_))
  intro v' w' hown hgrow hob
  have HB := hide (((Below.refl w.heap.size w).alloc (Nat.le_refl _) (.cells #[] 31)).grown hgrow (by simp) (fun k hk => by cases hk; exact Nat.le_refl _))
  have HOW := hide (show w'.ownsRow w.heap.size 31 1 v' vs.length vs by simpa using hown)
  obtain ⟨p, c, rfl⟩ := ownsV_shape hown
  clear hown hgrow hob
  go_wp2
  go_ret
  exact ⟨_, rfl, by simpa using unhide HOW, unhide HB⟩

set_option maxRecDepth 20000 in
set_option maxHeartbeats 2000000 in
theorem cloneB_any (v : Value) (vs : List Value) (w : World) (h : VRow w v vs) (hne : vs ≠ []) (hone : ∀ u ∈ vs, u.oneCell' = true) (hroom : vs.length ≤ 1048576) :
    Calls Tryz.prog 47 #[v] w fun e w' => ∃ v', e = .returned v' ∧ w'.ownsRow w.heap.size 4 1 v' vs.length vs ∧ Below w.heap.size w w' := by
  obtain ⟨is, his, hs0, hs1, hs2⟩ := info_parts Tryz.infoBool
  obtain ⟨b, off, cap, rfl, k1, k2, hc⟩ := h.open hne
  have he : ∀ W : World, (binOp .eql 62 (.slice (some ⟨b, off, none⟩) vs.length cap) (.slice none 0 0)).run Tryz.prog W = .ok (.bool false) W := fun W => by rfl
  have HN : Hid (∀ j u, vs[j]? = some u → (w.alloc (.cells #[] 4)).cell? ((⟨b, off, none⟩ : Addr).add j) = some u) := fun j u hu => by
    rw [Addr.add_lit]
    have := hc j u hu
    exact (World.cell?_of_block (w := w) (Below.heap_alloc _ _ _ (World.block_lt_of_cell? w _ this))).trans this
  have HO := hide (empty_own1 w 4 1)
  have HS1 : Hid (0 + vs.length ≤ maxLen) := by unfold Hid; omega
  have HS2 : Hid ((0 + vs.length) * 1 ≤ 140737488355328) := by unfold Hid; omega
  have HL : Hid (vs.length = vs.length * 1) := by unfold Hid; omega
  have HONE := hide hone
  clear h hroom k1 k2 hc hone hne
  go_enter Tryz.func47, Tryz.ntmps47
  go_wp2_with (first
    | (with_reducible show wpList _ _ _ (Oper.mk _ (Op.call _) _ _ _ _ :: _) _ _; refine wpList_append_gen rfl _ _ 62 rfl w.heap.size 4 is (.bool false) Tryz.underlying62 his hs0 1 1 (by omega) hs1 hs2 rfl (.slice (some ⟨w.heap.size, 0, none⟩) 0 0) 0 [] rfl (unhide HO) ⟨b, off, none⟩ vs.length cap vs rfl (unhide HL) (unhide HN) (unhide HONE) (unhide HS1) (unhide HS2) (by simp) ?_))
  intro v' w' hown hgrow hob
  have HB := hide (((Below.refl w.heap.size w).alloc (Nat.le_refl _) (.cells #[] 4)).grown hgrow (by simp) (fun k hk => by cases hk; exact Nat.le_refl _))
  have HOW := hide (show w'.ownsRow w.heap.size 4 1 v' vs.length vs by simpa using hown)
  obtain ⟨p, c, rfl⟩ := ownsV_shape hown
  clear hown hgrow hob
  go_wp2
  go_ret
  exact ⟨_, rfl, by simpa using unhide HOW, unhide HB⟩

set_option maxRecDepth 20000 in
set_option maxHeartbeats 2000000 in
theorem cloneI_any (v : Value) (vs : List Value) (w : World) (h : VRow w v vs) (hne : vs ≠ []) (hone : ∀ u ∈ vs, u.oneCell' = true) (hroom : vs.length ≤ 1048576) :
    Calls Tryz.prog 48 #[v] w fun e w' => ∃ v', e = .returned v' ∧ w'.ownsRow w.heap.size 3 1 v' vs.length vs ∧ Below w.heap.size w w' := by
  obtain ⟨is, his, hs0, hs1, hs2⟩ := info_parts Tryz.infoI64
  obtain ⟨b, off, cap, rfl, k1, k2, hc⟩ := h.open hne
  have he : ∀ W : World, (binOp .eql 32 (.slice (some ⟨b, off, none⟩) vs.length cap) (.slice none 0 0)).run Tryz.prog W = .ok (.bool false) W := fun W => by rfl
  have HN : Hid (∀ j u, vs[j]? = some u → (w.alloc (.cells #[] 3)).cell? ((⟨b, off, none⟩ : Addr).add j) = some u) := fun j u hu => by
    rw [Addr.add_lit]
    have := hc j u hu
    exact (World.cell?_of_block (w := w) (Below.heap_alloc _ _ _ (World.block_lt_of_cell? w _ this))).trans this
  have HO := hide (empty_own1 w 3 1)
  have HS1 : Hid (0 + vs.length ≤ maxLen) := by unfold Hid; omega
  have HS2 : Hid ((0 + vs.length) * 8 ≤ 140737488355328) := by unfold Hid; omega
  have HL : Hid (vs.length = vs.length * 1) := by unfold Hid; omega
  have HONE := hide hone
  clear h hroom k1 k2 hc hone hne
  go_enter Tryz.func48, Tryz.ntmps48
  go_wp2_with (first
    | (with_reducible show wpList _ _ _ (Oper.mk _ (Op.call _) _ _ _ _ :: _) _ _; refine wpList_append_gen rfl _ _ 32 rfl w.heap.size 3 is (.int .i64 0) Tryz.underlying32 his hs0 1 8 (by omega) hs1 hs2 rfl (.slice (some ⟨w.heap.size, 0, none⟩) 0 0) 0 [] rfl (unhide HO) ⟨b, off, none⟩ vs.length cap vs rfl (unhide HL) (unhide HN) (unhide HONE) (unhide HS1) (unhide HS2) (by simp) ?_))
  intro v' w' hown hgrow hob
  have HB := hide (((Below.refl w.heap.size w).alloc (Nat.le_refl _) (.cells #[] 3)).grown hgrow (by simp) (fun k hk => by cases hk; exact Nat.le_refl _))
  have HOW := hide (show w'.ownsRow w.heap.size 3 1 v' vs.length vs by simpa using hown)
  obtain ⟨p, c, rfl⟩ := ownsV_shape hown
  clear hown hgrow hob
  go_wp2
  go_ret
  exact ⟨_, rfl, by simpa using unhide HOW, unhide HB⟩
end Go.Proofs.YtlbhhdldeaehkaaGreat
