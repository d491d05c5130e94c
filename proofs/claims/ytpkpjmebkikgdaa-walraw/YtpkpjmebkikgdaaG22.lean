/- Texts of ours, one behind the other: WalOwn2. -/
import Derived.Test.YtpkpjmebkikgdaaG4
import Derived.Test.YtpkpjmebkikgdaaG21
import Derived.Deep.RegionHeld3
/- The landed package wal: a record more. -/
namespace Go.Proofs.Ytpkpjmebkikgdaa
open Go.RowKit

theorem Try.info117 : (Try.prog.info? 117).map (fun i => (i.zero, i.size, i.bytes)) = some (some (.agg #[.int .u64 0, .int .u64 0]), 2, 16) := by kernel_rfl

theorem grown_keep {w w' : World} {o : Option Nat} (h : w.grownBy w' o) : Keep (fun k => o = some k) w w' := ⟨h.os, h.tape, h.output, h.size, fun k hk hn => h.block k hk (fun e => hn e.symm)⟩

/-- A record more. -/
theorem LAt.join {G : Nat → Prop} {w : World} {g : Nat} {dp sv v2 : Value} {n : Int} {L : LG} {a k : Nat} (R : LAt G w g dp n sv L) {W w2 : World} (hW : Below w.heap.size w W)
    (hown : w2.ownsRow 0 117 2 v2 (L.starts.length + 1) (startsC L.starts ++ [.int .u64 (L.next : Int), .int .u64 (a : Int)])) (hg : W.grownBy w2 sv.ownBlock) (hob : v2.ownBlock = sv.ownBlock ∨ v2.ownBlock = some W.heap.size) (hok : (L.add a k).Ok (lz n).toNat) :
    ∃ G', LAt G' ((w2.setCell ⟨g, 13, none⟩ v2).setCell ⟨g, 12, none⟩ (.int .u64 ((L.next : Int) + (k : Int)))) g dp n v2 (L.add a k) ∧ Moves G G' w ((w2.setCell ⟨g, 13, none⟩ v2).setCell ⟨g, 12, none⟩ (.int .u64 ((L.next : Int) + (k : Int)))) := by
  have hgl := R.lt g R.fg
  have hb2 : w2.heap[g]? = some (.cells (logC dp n L sv) 64 (0, 0)) := (hg.block g (Nat.lt_of_lt_of_le hgl hW.size) (fun e => R.sg e.symm)).trans ((hW.block g hgl).trans R.blk)
  have b1 : (w2.setCell ⟨g, 13, none⟩ v2).heap[g]? = _ := heap_setCell_same w2 g 13 _ _ v2 hb2
  have b2 := heap_setCell_same (w2.setCell ⟨g, 13, none⟩ v2) g 12 _ _ (.int .u64 ((L.next : Int) + (k : Int))) b1
  have hv2 : v2.ownBlock ≠ some g := by
    rcases hob with h | h
    · rw [h]; exact R.sg
    · rw [h]
      intro e
      simp only [Option.some.injEq] at e
      have := hW.size
      omega
  have K1 : Keep G w w2 := (Keep.of_below hW).trans (grown_keep hg) (fun x hx => Or.inl (R.fs x hx))
  have K2 : Keep (fun x => x = g) w2 (w2.setCell ⟨g, 13, none⟩ v2) := by
    have h := keep_set w2 g 13 v2
    exact ⟨h.os, h.tape, h.output, h.size, h.block⟩
  have K3 : Keep (fun x => x = g) w2 ((w2.setCell ⟨g, 13, none⟩ v2).setCell ⟨g, 12, none⟩ (.int .u64 ((L.next : Int) + (k : Int)))) := K2.trans (keep_set _ g 12 _) (fun _ h => Or.inl h)
  have KA : Keep G w ((w2.setCell ⟨g, 13, none⟩ v2).setCell ⟨g, 12, none⟩ (.int .u64 ((L.next : Int) + (k : Int)))) := K1.trans K3 (fun x hx => Or.inl (by rw [hx]; exact R.fg))
  refine ⟨fun x => G x ∨ v2.ownBlock = some x, ⟨?_, ?_, R.fits, hok, Or.inl R.fg, fun x hx => Or.inr hx, fun x hx => ?_⟩, KA, fun x hx => ?_⟩
  · rw [b2]
    show _ = some (Obj.cells #[_, _, _, _, _, _, _, _, _, _, _, _, .int .u64 ((L.next + k : Nat) : Int), _, _] _ _)
    rw [Int.natCast_add]
    rfl
  · show World.ownsRow _ 0 117 2 v2 (L.starts ++ [(L.next, a)]).length (startsC (L.starts ++ [(L.next, a)]))
    rw [List.length_append, startsC_append]
    refine row_stays (w := w2) hown (fun x hx => K3.block x ?_ (fun e => hv2 (e ▸ hx)))
    obtain ⟨cur, hh⟩ := row_kind hown x hx
    exact (Array.getElem?_eq_some_iff.1 hh).1
  · rcases hx with hx | hx
    · exact Nat.lt_of_lt_of_le (R.lt x hx) KA.size
    · obtain ⟨cur, hh⟩ := row_kind hown x hx
      exact Nat.lt_of_lt_of_le (Array.getElem?_eq_some_iff.1 hh).1 K3.size
  · rcases hx with hx | hx
    · exact Or.inl hx
    · rcases hob with h | h
      · exact Or.inl (R.fs x (h ▸ hx))
      · rw [h] at hx
        simp only [Option.some.injEq] at hx
        exact Or.inr (by have := hW.size; omega)

set_option maxRecDepth 20000 in
set_option maxHeartbeats 1000000 in
theorem wadd_any (G : Nat → Prop) (lp dp : Value) (n : Int) (L : LG) (a k : Nat) (w : World) (h : LRep G w lp dp n L) (hk1 : 1 ≤ k) (hk : L.next + k ≤ L.first + (lz n).toNat) (hnx : L.next + k < 9223372036854775808) (ha : a < 18446744073709551616) :
    Calls Try.prog 34 #[lp, .int .u64 (a : Int), .int .i64 (k : Int)] w fun e w' => e = .returned (.tuple #[]) ∧ ∃ G', LRep G' w' lp dp n (L.add a k) ∧ Moves G G' w w' := by
  obtain ⟨g, sv, rfl, R⟩ := h
  obtain ⟨z1, z2, _⟩ := lz_le n R.fits
  have hok : (L.add a k).Ok (lz n).toNat := by
    have h1 := R.ok.le
    have h5 := R.ok.count
    refine ⟨R.ok.age, Nat.le_trans h1 (Nat.le_add_right _ _), hk, hnx, ?_, ?_, ?_⟩
    · show (L.starts ++ [(L.next, a)]).length ≤ (L.next + k) - L.first
      rw [List.length_append]
      simp only [List.length_cons, List.length_nil]
      omega
    · intro p hp
      rcases List.mem_append.1 hp with hp | hp
      · obtain ⟨a1, a2, a3⟩ := R.ok.turns p hp
        exact ⟨a1, Nat.lt_of_lt_of_le a2 (Nat.le_add_right _ _), a3⟩
      · simp only [List.mem_singleton] at hp
        subst hp
        exact ⟨h1, by show L.next < L.next + k; omega, ha⟩
    · show (L.starts ++ [(L.next, a)]).Pairwise _
      rw [List.pairwise_append]
      refine ⟨R.ok.sorted, List.pairwise_singleton _ _, fun x hx y hy => ?_⟩
      simp only [List.mem_singleton] at hy
      subst hy
      exact (R.ok.turns x hx).2.1
  have HOK := hide hok
  have HR := hide R
  obtain ⟨is, his, hs0, hs1, hs2⟩ := info_parts Try.info117
  obtain ⟨q, c, rfl, hc1, hc2⟩ := R.shape
  obtain ⟨_, c10, c11, c12, c13, c14, fz⟩ := fifteen_cells R.blk
  have hcnt : (L.starts.length : Int) ≤ 8190 := by have := R.ok.count; have := R.ok.ring; omega
  have hcN : L.starts.length ≤ 8190 := by omega
  have HCN := hide hcN
  have hgl : g < w.heap.size := R.lt g R.fg
  have hkI : (L.next : Int) + (k : Int) < 9223372036854775808 := by omega
  have hk2 : (k : Int) ≤ 9223372036854775807 := by omega
  have hne : ¬ w.heap.size = g := by omega
  have hf13 := fz 13
  have hf12 := fz 12
  clear R hok hk hnx hc1 hc2 hcN fz c10 c11 c14 z1 z2 hk1
  go_enter Try.func34, Try.ntmps34
  go_wp2_with fail
  go_region_law (first
    | (refine step_append_gen rfl _ _ 62 rfl 0 117 is (.agg #[.int .u64 0, .int .u64 0]) Try.underlying62 his hs0 2 16 (by omega) hs1 hs2 rfl (.slice q L.starts.length c) L.starts.length (startsC L.starts) (by simp [Act.eval]) (row_stays (unhide HR).own (fun x hx => Below.heap_alloc _ _ _ ((unhide HR).lt x ((unhide HR).fs x hx)))) ⟨w.heap.size, 0, none⟩ 1 [.int .u64 (L.next : Int), .int .u64 (a : Int)] (by simp [Act.eval]) rfl (by intro j u hj; match j, hj with | 0, hj => (simp at hj; subst hj; simp [Addr.add]) | 1, hj => (simp at hj; subst hj; simp [Addr.add])) (by intro u hu; simp at hu; rcases hu with rfl | rfl <;> rfl) (by have := unhide HCN; unfold maxLen; omega) (by have := unhide HCN; omega) (Nat.zero_le _) ?_; intro v2 w2 hown2 hgrow2 hob2; have hW : Below w.heap.size w (w.drew.alloc (.cells #[.int .u64 (L.next : Int), .int .u64 (a : Int)] 117)) := (((Below.refl w.heap.size w).drew).alloc (Nat.le_refl _) _); have hblk2 := (hgrow2.block g (by simp; omega) (fun e => (unhide HR).sg e.symm)).trans ((hW.block g hgl).trans (unhide HR).blk); obtain ⟨_, y10, y11, y12, y13, y14, yf⟩ := fifteen_cells hblk2; have yf13 := yf 13; have yf12 := yf 12; rcases hown2.2 with ⟨_, h0⟩ | ⟨h2, cap2, cur2, e2, _⟩; (exact absurd h0 (by omega)); subst e2; have HJ := hide ((unhide HR).join hW hown2 hgrow2 hob2 (unhide HOK)); clear hown2 hgrow2 hob2 hW hblk2 yf y10 y11 y14 c12 c13 hf13 hf12))
  all_goals
    go_wp2
    go_end0
    obtain ⟨G', hR', hM'⟩ := unhide HJ
    exact ⟨rfl, G', ⟨g, _, rfl, hR'⟩, hM'⟩
end Go.Proofs.Ytpkpjmebkikgdaa
