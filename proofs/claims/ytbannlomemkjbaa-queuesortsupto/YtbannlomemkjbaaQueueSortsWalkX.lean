/- The walk of the statement 'QueueSorts'. -/
import Derived.Test.YtbannlomemkjbaaG11
import Derived.Test.YtbannlomemkjbaaG13
import Derived.Test.YtbannlomemkjbaaG14
import Derived.Test.YtbannlomemkjbaaG17
import Derived.Test.YtbannlomemkjbaaG18
namespace Go.Proofs.Ytbannlomemkjbaa
open Go.RowKit

theorem sown_shape {w : World} {base e n : Nat} {v : Value} {xs : List Value} (h : w.ownsRow base e 2 v n xs) : ∃ p c, v = .slice p n c := by
  rcases h.2 with ⟨h', h0⟩ | ⟨g', cap', cur, h', _⟩
  · exact ⟨none, 0, by rw [h', h0]⟩
  · exact ⟨_, _, h'⟩
/-- What was handed in, and what was made, lie apart. -/
def SortI (b : Nat) (w wr : World) (g : Nat) (l : List It) (x : It) (v : Value) (Z : List It) : Prop :=
  OwnedI wr g l x ∧ wr.ownsRow 0 26 2 v Z.length (cellsI Z) ∧ v.ownBlock ≠ some g ∧ (∀ k, v.ownBlock = some k → b ≤ k) ∧ Below b w wr ∧ b ≤ wr.heap.size
theorem SortI.below {b : Nat} {w wr wx : World} {g : Nat} {l Z : List It} {x : It} {v : Value} (h : SortI b w wr g l x v Z) (hb : Below wr.heap.size wr wx) : SortI b w wx g l x v Z := by
  obtain ⟨h1, h2, h3, h4, h5, h6⟩ := h
  exact ⟨h1.below hb, owns_keep (F := fun _ => False) h2 (Keep.of_below hb) (fun _ _ => id), h3, h4, h5.trans (hb.mono h6), Nat.le_trans h6 hb.size⟩
theorem SortI.set {b : Nat} {w wr : World} {g gv cv : Nat} {l Z : List It} {x : It} (h : SortI b w wr g l x (.slice (some ⟨gv, 0, none⟩) Z.length cv) Z) (i : Nat) (hi : i < Z.length) (y : It) :
    SortI b w ((wr.setCell ⟨gv, i * 2, none⟩ (.int .i64 y.1)).setCell ⟨gv, i * 2 + 1, none⟩ (.string y.2)) g l x (.slice (some ⟨gv, 0, none⟩) Z.length cv) (Z.set i y) := by
  obtain ⟨h1, h2, h3, h4, h5, h6⟩ := h
  obtain ⟨r1, g1⟩ := h2.stored (i * 2) (.int .i64 y.1)
  obtain ⟨r2, g2⟩ := r1.stored (i * 2 + 1) (.string y.2)
  have hg := grown_trans g1 g2
  have hgv : b ≤ gv := h4 gv rfl
  have hne : g ≠ gv := fun e => h3 (by simp [Value.ownBlock, e])
  refine ⟨h1.stays (hg.block g h1.lt (fun e => hne (by simpa using e))), by rw [List.length_set, ← cellsI_set Z i y hi]; exact r2, h3, h4, h5.grown hg h6 (fun k hk => by cases hk; exact hgv), Nat.le_trans h6 hg.size⟩

set_option maxRecDepth 20000 in
set_option maxHeartbeats 2000000 in
theorem qsorts_any (s : Value) (l : List It) (w : World) (hs : TI w s l) (hl : l.length ≤ 1048576) :
    Calls Try.prog 5 #[s] w fun e w' => e = .returned (.bool true) ∧ Below w.heap.size w w' := by
  obtain ⟨p, cap, rfl, k1, k2⟩ := hs.shape
  have HS := hide hs
  have HL := hide hl
  have hlI : (l.length : Int) ≤ 1048576 := by omega
  have hlen : (srt lowI l).length = l.length := length_srt lowI l
  clear hs hl k1 k2
  go_enter Try.func5, Try.ntmps5
  go_wp2_with fail
  refine Calls.mono (iown_any _ l (71, ⟨#[120]⟩) _ (unhide HS) (unhide HL)) ?_
  rintro e w1 ⟨g, rfl, hg, o1, b1⟩
  have HO1 := hide o1
  have HB1 := hide b1
  clear o1 b1
  go_wp2_with fail
  refine Calls.mono (qsorted_any lowI _ below_C _ l _ ((unhide HO1).row (by have := unhide HL; unfold maxLen; omega)) (unhide HL)) ?_
  rintro e w2 ⟨v2, rfl, o2, ob2, b2⟩
  obtain ⟨p2, c2, rfl⟩ := sown_shape o2
  have hI2 : SortI w.heap.size w w2 g l (71, ⟨#[120]⟩) (.slice p2 l.length c2) (srt lowI l) := ⟨(unhide HO1).below b2, by rw [hlen]; exact o2, fun e => by have := ob2 g e; have := (unhide HO1).lt; omega, fun k hk => by have := ob2 k hk; have := (unhide HB1).size; omega, (unhide HB1).trans (b2.mono (unhide HB1).size), Nat.le_trans (unhide HB1).size b2.size⟩
  have HI2 := hide hI2
  clear o2 ob2 b2 HO1 HB1 hI2
  go_wp2_with fail
  refine Calls.mono (awake_any _) ?_
  rintro e w3 ⟨rfl, b3⟩
  have HI3 := hide ((unhide HI2).below b3)
  clear b3 HI2
  go_wp2_with fail
  refine Calls.mono (rsorted_any _ l _ ((unhide HS).below (unhide HI3).2.2.2.2.1) (unhide HL)) ?_
  rintro e w4 ⟨v4, rfl, o4, b4⟩
  obtain ⟨p4, c4, rfl⟩ := sown_shape o4
  have HI4 := hide ((unhide HI3).below b4)
  have HT4 : Hid (TI w4 (.slice p4 l.length c4) (srt lowI l)) := TI.of_owns (by rw [hlen]; exact o4)
  have HP4 := hide (plain_true (.slice p2 l.length c2) _ (srt lowI l) w4 (TI.of_owns (unhide HI4).2.1) (unhide HT4) (by rw [hlen]; have := unhide HL; omega))
  clear o4 b4 HI3 HT4
  go_wp2_with fail
  refine Calls.mono (unhide HP4) ?_
  rintro e w5 ⟨rfl, b5⟩
  have HI5 := hide ((unhide HI4).below b5)
  clear b5 HI4 HP4
  have HK5 := hide (ikept_any g _ l (71, ⟨#[120]⟩) w5 (unhide HI5).1 ((unhide HS).below (unhide HI5).2.2.2.2.1) (unhide HL))
  go_wp2_with fail
  refine Calls.mono (unhide HK5) ?_
  rintro e w6 ⟨rfl, b6⟩
  have HI6 := hide ((unhide HI5).below b6)
  clear b6 HI5 HK5
  go_wp2_with fail
  go_loopw [5] (fun i wr => ∃ (k : Nat) (Z : List It), k ≤ l.length ∧ i = .int .i64 (k : Int) ∧ Z.length = l.length ∧ SortI w.heap.size w wr g l (71, ⟨#[120]⟩) (.slice p2 l.length c2) Z) (fun i _ => l.length - (intOf i).toNat)
  case atStart => exact ⟨0, _, Nat.zero_le _, rfl, hlen, unhide HI6⟩
  case round =>
    clear HI6
    obtain ⟨k, Z, hk, rfl, hZ, hI⟩ := hrel
    by_cases hlt : k < l.length
    · have hkI : (k : Int) < (l.length : Int) := by omega
      obtain ⟨gv, rfl⟩ : ∃ gv, p2 = some ⟨gv, 0, none⟩ := by
        rcases hI.2.1.2 with ⟨_, h0⟩ | ⟨g', cap', cur, h', _⟩
        · omega
        · simp only [Value.slice.injEq] at h'
          exact ⟨g', h'.1⟩
      rw [← hZ] at hI
      have hrow := hI.2.1
      obtain ⟨e1, e2⟩ := cellsI_get Z k (by omega)
      have c0 := (hrow.cellAt (k * 2) (by omega)).trans e1
      have c1 := (hrow.cellAt (k * 2 + 1) (by omega)).trans e2
      have f0 := hrow.frozenAt (k * 2)
      have f1 := hrow.frozenAt (k * 2 + 1)
      have hI' := hI.set k (by omega) (0, ⟨#[]⟩)
      rw [hZ] at hI'
      have HI' := hide hI'
      have HZ := hide hZ
      have HLT := hide hlt
      have hdd : decide (k < l.length) = true := decide_eq_true hlt
      generalize Z[k]'(by omega) = Y at *
      clear hI hI' hrow e1 e2 hk hlt
      clear hZ
      go_wp2_with fail
      go_roundw
      case rel => exact ⟨k + 1, _, unhide HLT, by go_num, by rw [List.length_set]; exact unhide HZ, unhide HI'⟩
      case measure => (have := unhide HLT; simp [intOf]; omega)
    · have hke : k = l.length := by omega
      subst hke
      have HK := hide (ikept_any g _ l (71, ⟨#[120]⟩) wr hI.1 ((unhide HS).below hI.2.2.2.2.1) (unhide HL))
      have HI := hide hI
      clear hk hlt hI
      go_wp2_with fail
      refine Calls.mono (unhide HK) ?_
      rintro e w7 ⟨rfl, b7⟩
      have HB7 := hide ((unhide HI).below b7).2.2.2.2.1
      clear b7 HK HI
      go_wp2_with fail
      go_ret
      exact ⟨rfl, unhide HB7⟩

theorem walk_QueueSorts (s0 : Value) (d0 : Dt) (w : World) (h0 : Reads limUpto w (.row 24 itSh) [s0] d0) :
    Calls Try.prog 5 #[s0] w fun e w' => e = .returned (.bool true) ∧ Below w.heap.size w w' := by
  obtain ⟨l, hl, hl2⟩ := ti_of_reads h0
  exact qsorts_any s0 l w hl hl2
end Go.Proofs.Ytbannlomemkjbaa
