/- Texts of ours, one behind the other: BatHelp2. -/
import Derived.Test.YtpampknbbpjkiaaG9
import Derived.Test.YtpampknbbpjkiaaG16
/- What the verifier's helper Record does: two records that are the same. -/
namespace Go.Proofs.Ytpampknbbpjkiaa
open Go.RowKit

set_option maxRecDepth 20000 in
set_option maxHeartbeats 2000000 in
theorem hrecord_any (r : Rcd) (v1 v2 : Value) (w : World) (h1 : CL w v1 r.chg) (h2 : CL w v2 r.chg) :
    Calls Try.prog 29 #[.agg (rcdA r v1), .agg (rcdA r v2)] w fun e w' => e = .returned (.bool true) ∧ Below w.heap.size w w' := by
  obtain ⟨p1, c1, rfl, _⟩ := KRow.shape h1
  obtain ⟨p2, c2, rfl, _⟩ := KRow.shape h2
  obtain ⟨kind, seq, l, mser, frm, to, n⟩ := r
  unfold rcdA
  simp only at h1 h2 ⊢
  obtain ⟨W, hW⟩ : ∃ W, W = (w.alloc (.cells #[.int .i64 kind, .int .u64 (seq : Int), .slice p1 l.length c1, .int .u64 (mser : Int), .int .i64 frm, .int .i64 to, .int .i64 n] 39)).alloc (.cells #[.int .i64 kind, .int .u64 (seq : Int), .slice p2 l.length c2, .int .u64 (mser : Int), .int .i64 frm, .int .i64 to, .int .i64 n] 39) := ⟨_, rfl⟩
  have hb : Below w.heap.size w W := by rw [hW]; exact ((Below.refl _ _).alloc (Nat.le_refl _) _).alloc (by simp) _
  have hk1 : W.heap[w.heap.size]? = some (.cells #[.int .i64 kind, .int .u64 (seq : Int), .slice p1 l.length c1, .int .u64 (mser : Int), .int .i64 frm, .int .i64 to, .int .i64 n] 39 (0, 0)) := by rw [hW]; exact (alloc_old (by simp) _).trans (alloc_new w _)
  have hk2 : W.heap[w.heap.size + 1]? = some (.cells #[.int .i64 kind, .int .u64 (seq : Int), .slice p2 l.length c2, .int .u64 (mser : Int), .int .i64 frm, .int .i64 to, .int .i64 n] 39 (0, 0)) := by rw [hW]; exact alloc_new' (by simp) _
  have HP := hide (cplain_any (.slice p1 l.length c1) (.slice p2 l.length c2) l W (CL.below h1 hb) (CL.below h2 hb))
  have HC := hide (fun w1 (b1 : Below W.heap.size W w1) => And.intro (seven_cells ((b1.block _ (Array.getElem?_eq_some_iff.1 hk1).1).trans hk1)) (And.intro (seven_cells ((b1.block _ (Array.getElem?_eq_some_iff.1 hk2).1).trans hk2)) (hb.trans (b1.mono hb.size))))
  rw [hW] at HP HC
  have e1 : (kind == kind) = true := by simp
  have e2 : ((seq : Int) == seq) = true := by simp
  clear hb hk1 hk2 hW h1 h2
  go_enter Try.func29, Try.ntmps29
  go_wp2_with fail
  refine Calls.mono (unhide HP) ?_
  rintro e w1 ⟨rfl, b1⟩
  obtain ⟨⟨a0, a1, a2, a3, a4, a5, a6⟩, ⟨b0, b1', b2, b3, b4, b5, b6⟩, hB⟩ := unhide HC w1 b1
  have HB := hide hB
  clear b1 hB HP HC
  go_wp2
  go_ret
  exact ⟨by simp, unhide HB⟩
end Go.Proofs.Ytpampknbbpjkiaa
