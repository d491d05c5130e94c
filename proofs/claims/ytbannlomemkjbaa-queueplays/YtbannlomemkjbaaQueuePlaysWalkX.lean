/- The walk of the statement 'QueuePlays'. -/
import Derived.Test.YtbannlomemkjbaaG10
import Derived.Test.YtbannlomemkjbaaG11
namespace Go.Proofs.Ytbannlomemkjbaa
open Go.RowKit

theorem step_any (B : Nat) (w : World) (q r n : Nat) (K : Int) (x : It) (l : List It) (h : QB B w q r n l) (hl : l.length ≤ 1000) (hn : n ≤ 1000) :
    Calls Try.prog 12 #[.pointer (some ⟨q, 0, none⟩), .pointer (some ⟨r, 0, none⟩), .agg #[.int .i64 K, .int .i64 x.1, .string x.2]] w fun e w' => ∃ q', e = .returned (.tuple #[.pointer (some ⟨q', 0, none⟩), .bool true]) ∧ QStepd B w w' q' r n l := by
  by_cases k1 : K = 1
  · by_cases h0 : l = []
    · exact step_pop0 B w q r n K x l h hl hn k1 h0
    · exact step_pop B w q r n K x l h hl hn k1 (List.length_pos_iff.2 h0)
  · by_cases k2 : K = 2
    · by_cases h0 : l = []
      · exact step_peek0 B w q r n K x l h hl hn k2 h0
      · exact step_peek B w q r n K x l h hl hn k2 (List.length_pos_iff.2 h0)
    · by_cases k3 : K = 3
      · exact step_fork B w q r n K x l h hl hn k3
      · exact step_push B w q r n K x l h hl hn ⟨k1, k2, k3⟩

theorem QB.ref {B : Nat} {w : World} {q r n : Nat} {l : List It} (h : QB B w q r n l) : ∃ p cap, w.cell? ⟨r, 0, none⟩ = some (.slice p l.length cap) ∧ r < w.heap.size := by
  obtain ⟨F, v, h1, h2, h3, h4, h5⟩ := h.all
  obtain ⟨p, cap, rfl, _⟩ := h2.shape
  exact ⟨p, cap, h2.cells.1, h2.lt r (Or.inl rfl)⟩

set_option maxRecDepth 20000 in
set_option maxHeartbeats 2000000 in
theorem qplays_any (s : Value) (l : List OpQ) (w : World) (hs : OpsQ w s l) :
    Calls Try.prog 3 #[s] w fun e w' => e = .returned (.bool true) ∧ Below w.heap.size w w' := by
  obtain ⟨a, cap, rfl, hc1, hc2, hc⟩ := hs
  have HC := hide hc
  have HC1 := hide hc1
  clear hc hc1
  go_enter Try.func3, Try.ntmps3
  go_wp2_with fail
  refine Calls.mono (qnew_any lowI _ below_C _) ?_
  rintro e w1 ⟨rfl, q1, b1⟩
  have hs1 := b1.size
  have hr1 : RQ (w1.alloc (.cells #[.slice none 0 0] 31)) w1.heap.size [] (.slice none 0 0) := ⟨heap_alloc_new w1 _, World.ownsRow_nil _ _ _ _, by simp [Value.ownBlock]⟩
  have hb2 : Below w1.heap.size w1 (w1.alloc (.cells #[.slice none 0 0] 31)) := (Below.refl _ _).alloc (Nat.le_refl _) _
  have hqb : QB w.heap.size (w1.alloc (.cells #[.slice none 0 0] 31)) w.heap.size w1.heap.size 0 [] := ⟨_, _, q1.below hb2, hr1, fun k hf hk => by
    rcases hk with hk | hk
    · have := q1.lt k hf; omega
    · simp [Value.ownBlock] at hk, fun k hf => by omega, fun k hk => by
    rcases hk with hk | hk
    · omega
    · simp [Value.ownBlock] at hk⟩
  have hbl : Below w.heap.size w (w1.alloc (.cells #[.slice none 0 0] 31)) := b1.trans (hb2.mono hs1)
  have HQB := hide hqb
  have HBL := hide hbl
  clear q1 b1 hr1 hb2 hqb hbl
  go_wp2_with fail
  refine Calls.mono (awake_any _) ?_
  rintro e w2 ⟨rfl, b2⟩
  have HQB2 := hide ((unhide HQB).below b2)
  have HBL2 := hide ((unhide HBL).trans (b2.mono (unhide HBL).size))
  clear b2 HQB HBL
  go_wp2_with fail
  go_loopw [3, 5] (fun t i wr => ∃ (k q n : Nat) (m : List It), k ≤ 300 ∧ k ≤ l.length ∧ n ≤ k ∧ m.length ≤ k ∧ t = .pointer (some ⟨q, 0, none⟩) ∧ i = .int .i64 (k : Int) ∧ QB w.heap.size wr q w1.heap.size n m ∧ Below w.heap.size w wr) (fun _ i _ => 300 - (intOf i).toNat)
  case atStart => exact ⟨0, w.heap.size, 0, [], by omega, by omega, by omega, by simp, rfl, rfl, unhide HQB2, unhide HBL2⟩
  case round =>
    obtain ⟨k, q, n, m, hk3, hkl, hnk, hmk, rfl, rfl, hQ, hB⟩ := hrel
    clear HQB2 HBL2
    by_cases hlt : k < l.length
    · by_cases h3 : k < 300
      · have hkI : (k : Int) < (l.length : Int) := by omega
        have h3I : (k : Int) < 300 := by omega
        obtain ⟨K, x, b, off, rfl, d0, d1, d2⟩ : ∃ (K : Int) (x : It) (b off : Nat), a = some ⟨b, off, none⟩ ∧ wr.cell? ⟨b, off + k * 3, none⟩ = some (.int .i64 K) ∧ wr.cell? ⟨b, off + k * 3 + 1, none⟩ = some (.int .i64 x.1) ∧ wr.cell? ⟨b, off + k * 3 + 2, none⟩ = some (.string x.2) := by
          rcases unhide HC with h | ⟨b, off, ha, hc⟩
          · rw [h] at hlt; simp at hlt
          · obtain ⟨e1, e2, e3⟩ := hc k hlt
            have hbl := World.block_lt_of_cell? w _ e1
            exact ⟨l[k].1, l[k].2, b, off, ha, (hB.cell (p := ⟨b, off + k * 3, none⟩) hbl).trans e1, (hB.cell (p := ⟨b, off + k * 3 + 1, none⟩) hbl).trans e2, (hB.cell (p := ⟨b, off + k * 3 + 2, none⟩) hbl).trans e3⟩
        have HF := hide (show k < 300 ∧ k < l.length ∧ n ≤ k ∧ m.length ≤ k from ⟨h3, hlt, hnk, hmk⟩)
        have HQ := hide hQ
        have HB := hide hB
        have hdd : decide (k < l.length) = true := decide_eq_true hlt
        clear hk3 hkl hnk hmk hlt h3 hQ hB
        go_wp2_with fail
        refine Calls.mono (step_any w.heap.size _ q w1.heap.size n K x m (unhide HQ) (by have := unhide HF; omega) (by have := unhide HF; omega)) ?_
        rintro e w3 ⟨q', rfl, ⟨n', m', hn', hm', Q3⟩, B3⟩
        obtain ⟨F3, v3, g1, g2, g3, g4, g5⟩ := Q3.all
        have HQL : Hid (∀ W : World, Below w3.heap.size w3 W → Calls Try.prog 13 #[.pointer (some ⟨q', 0, none⟩)] W fun e w' => e = .returned (.int .i64 (m'.length : Int)) ∧ Below W.heap.size W w') := hide (fun W hb => by
          have h := qlen_any lowI F3 W q' n' _ _ (g1.below hb)
          rw [length_srt] at h
          exact h)
        obtain ⟨p3, cap3, c3, hrl3⟩ := Q3.ref
        have HQ3 := hide Q3
        have HF3 := hide (show n' ≤ n + 1 ∧ m'.length ≤ m.length + 1 from ⟨hn', hm'⟩)
        have HB3 := hide ((unhide HB).trans B3)
        clear g1 g2 g3 g4 g5 Q3 B3 hn' hm'
        go_wp2_with fail
        go_region_held3 (fun w' => w'.cell? ⟨w1.heap.size, 0, none⟩ = some (.slice p3 m'.length cap3)) (first | assumption | go_keep)
          (first
            | (go_at_call 13; refine Calls.mono (unhide HQL _ (Below.refl _ _).drew) ?_; rintro e w4 ⟨rfl, b4⟩; have hk1 := (b4.cell (p := ⟨w1.heap.size, 0, none⟩) hrl3).trans c3))
        have HQ4 := hide (((unhide HQ3).below (Below.refl _ _).drew).below b4)
        have HB4 := hide ((unhide HB3).drew.trans (b4.mono (unhide HB3).size))
        clear b4 hk1 c3 hrl3 HQL
        go_wp2_with fail
        go_roundw
        case rel =>
          have f := unhide HF
          have f3 := unhide HF3
          exact ⟨k + 1, q', n', m', by omega, by omega, by omega, by omega, rfl, by go_num, unhide HQ4, unhide HB4⟩
        case measure => (have := unhide HF; simp [intOf]; omega)
      · have hke : k = 300 := by omega
        subst hke
        have hkI : ((300 : Nat) : Int) < (l.length : Int) := by omega
        have HB := hide hB
        clear hk3 hkl hnk hmk hlt h3 hQ hB
        go_wp2_with fail
        go_ret
        exact ⟨rfl, unhide HB⟩
    · have hkI : (l.length : Int) ≤ (k : Int) := by omega
      have hke : k = l.length := by omega
      subst hke
      have HB := hide hB
      clear hk3 hkl hnk hmk hlt hQ hB hkI
      go_wp2_with fail
      go_ret
      exact ⟨rfl, unhide HB⟩

theorem walk_QueuePlays (s0 : Value) (d0 : Dt) (w : World) (h0 : Reads limSaid w (.row 32 opqSh) [s0] d0) :
    Calls Try.prog 3 #[s0] w fun e w' => e = .returned (.bool true) ∧ Below w.heap.size w w' := by
  obtain ⟨l, hl⟩ := opsq_of_reads h0
  exact qplays_any s0 l w hl
end Go.Proofs.Ytbannlomemkjbaa
