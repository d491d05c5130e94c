/- Texts of ours, one behind the other: QOwn8, QStep. -/
import Derived.Test.YtbannlomemkjbaaG9
import Derived.Laws.Externs
import Derived.Laws.EntriesVeiled
/- The landed package queue: Fork. -/
namespace Go.Proofs.Ytbannlomemkjbaa
open Go.RowKit

section
variable {P : Program} (w : World)
theorem qrun_equalIn_row_nil (d : Nat) (t e : TypeId) (a : Option Addr) (l c : Nat) (h : P.underlying t = some (.slice e)) :
    (Op.equalIn (d + 1) t (.slice a l c) (.slice none 0 0)).run P w = .ok a.isNone w := by
  cases a <;> simp [Op.equalIn, run_underlying h]
theorem qrun_eql_row_nil (t e : TypeId) (a : Option Addr) (l c : Nat) (h : P.underlying t = some (.slice e)) :
    (binOp .eql t (.slice a l c) (.slice none 0 0)).run P w = .ok (.bool a.isNone) w := by
  simp only [binOp]
  simp [show Op.equal t (.slice a l c) (.slice none 0 0) = Op.equalIn (9999 + 1) t (.slice a l c) (.slice none 0 0) from rfl, qrun_equalIn_row_nil w 9999 t e a l c h]
end
theorem qowns_base {w : World} {base e sz : Nat} {v : Value} {n : Nat} {xs : List Value} (h : w.ownsRow base e sz v n xs) : w.ownsRow 0 e sz v n xs := by
  refine ⟨h.1, ?_⟩
  rcases h.2 with h2 | ⟨g, cap, cur, hv, _, r⟩
  · exact Or.inl h2
  · exact Or.inr ⟨g, cap, cur, hv, Nat.zero_le _, r⟩
theorem qempty_own (w : World) (e size : Nat) : (w.alloc (.cells #[] e)).ownsRow w.heap.size e size (.slice (some ⟨w.heap.size, 0, none⟩) 0 0) 0 [] :=
  ⟨by simp, Or.inr ⟨w.heap.size, 0, #[], rfl, Nat.le_refl _, heap_alloc_new _ _, Nat.le_refl _, Nat.zero_le _, by simp, by simp⟩⟩

set_option maxRecDepth 20000 in
set_option maxHeartbeats 1000000 in
theorem qclone_any (w : World) (v : Value) (L : List (It × Nat)) (h : w.ownsRow 0 95 3 v L.length (cellsQ L)) (hs : L.length * 32 ≤ 140737488355328) :
    Calls Try.prog 49 #[v] w fun e w' => ∃ p cap, e = .returned (.slice p L.length cap) ∧ w'.ownsRow w.heap.size 95 3 (.slice p L.length cap) L.length (cellsQ L) ∧ Below w.heap.size w w' := by
  obtain ⟨is, his, hs0, hs1, hs2⟩ := info_parts Try.info95
  rcases h.2 with ⟨rfl, h0⟩ | ⟨g, cap, cur, rfl, hb, hh, h1, h2, h3, h4⟩
  · have hL : L = [] := List.eq_nil_of_length_eq_zero h0
    subst hL
    have he : ∀ W : World, (binOp .eql 73 (.slice none 0 0) (.slice none 0 0)).run Try.prog W = .ok (.bool true) W := fun W => qrun_eql_row_nil W _ _ none 0 0 Try.underlying73
    go_enter Try.func49, Try.ntmps49
    go_wp2
    go_ret
    exact ⟨none, 0, rfl, World.ownsRow_nil _ _ _ _, Below.refl _ _⟩
  · have he : ∀ W : World, (binOp .eql 73 (.slice (some ⟨g, 0, none⟩) L.length cap) (.slice none 0 0)).run Try.prog W = .ok (.bool false) W := fun W => qrun_eql_row_nil W _ _ (some ⟨g, 0, none⟩) L.length cap Try.underlying73
    have hg := (Array.getElem?_eq_some_iff.1 hh).1
    have HN : Hid (∀ j u, (cellsQ L)[j]? = some u → (w.alloc (.cells #[] 95)).cell? ((⟨g, 0, none⟩ : Addr).add j) = some u) := fun j u hu => by
      have := h.cells (g := g) rfl j u hu
      rw [Addr.add_lit] at this ⊢
      exact (World.cell?_of_block (w := w) (Below.heap_alloc _ _ _ hg)).trans this
    have HO := hide (qempty_own w 95 3)
    have HS1 : Hid (0 + L.length ≤ maxLen) := by unfold Hid maxLen; omega
    have HS2 : Hid ((0 + L.length) * 32 ≤ 140737488355328) := by unfold Hid; omega
    clear h hs h1 h2 h3 h4 hh hb
    go_enter Try.func49, Try.ntmps49
    go_wp2_with (first
      | (with_reducible show wpList _ _ _ (Oper.mk _ (Op.call _) _ _ _ _ :: _) _ _; refine wpList_append_gen rfl _ _ 73 rfl w.heap.size 95 is (.agg #[.int .i64 0, .string ⟨#[]⟩, .int .u64 0]) Try.underlying73 his hs0 3 32 (by omega) hs1 hs2 rfl (.slice (some ⟨w.heap.size, 0, none⟩) 0 0) 0 [] rfl (unhide HO) ⟨g, 0, none⟩ L.length cap (cellsQ L) rfl (length_cellsQ L) (unhide HN) (oneCell_cellsQ L) (unhide HS1) (unhide HS2) (by simp) ?_))
    intro v' w' hown hgrow hob
    have HB := hide (((Below.refl w.heap.size w).alloc (Nat.le_refl _) (.cells #[] 95)).grown hgrow (by simp) (fun k hk => by cases hk; exact Nat.le_refl _))
    have HOW := hide hown
    have hsh : ∃ p c, v' = .slice p L.length c := by
      rcases hown.2 with ⟨h', h0⟩ | ⟨g', cap', cur, h', _⟩
      · exact ⟨none, 0, by rw [h', h0]⟩
      · exact ⟨_, _, h'⟩
    obtain ⟨p, c, rfl⟩ := hsh
    clear hown hgrow hob
    go_wp2
    go_ret
    exact ⟨p, c, rfl, unhide HOW, unhide HB⟩

set_option maxRecDepth 20000 in
set_option maxHeartbeats 1000000 in
theorem qfork_any (lt : It → It → Bool) (F : Nat → Prop) (w : World) (q n : Nat) (f : Value) (Z : List It) (h : QAt F w q f lt Z n) :
    Calls Try.prog 32 #[.pointer (some ⟨q, 0, none⟩)] w fun e w' => ∃ q' F', e = .returned (.pointer (some ⟨q', 0, none⟩)) ∧ QAt F' w' q' f lt Z n ∧ Below w.heap.size w w' ∧ ∀ k, F' k → w.heap.size ≤ k := by
  obtain ⟨hC, L, v, hL, hQ, hF⟩ := h
  obtain ⟨p, cap, rfl, k0, k1, k2⟩ := hL.shape
  obtain ⟨c0, c1, c2, fz⟩ := hL.cells
  have hql : q < w.heap.size := hL.lt q (Or.inl rfl)
  have n1 : ¬ w.heap.size = q := by omega
  have HL := hide hL
  have HQ := hide hQ
  clear hL hQ hF k0 k1 k2
  have hfv : ∃ a b c d, f = .func a b c ∨ f = .nilFunc ∧ d = 0 := by
    rcases hC.calls with ⟨rfl, _⟩ | ⟨k, rfl, _⟩
    · exact ⟨.func 0, #[], #[], (0 : Nat), Or.inr ⟨rfl, rfl⟩⟩
    · exact ⟨_, _, _, (0 : Nat), Or.inl rfl⟩
  obtain ⟨a, b, c, d, hfv⟩ := hfv
  have hb1 : Below w.heap.size w (w.alloc (.cells #[f, .slice p L.length cap, .int .u64 (n : Int)] 78)) := (Below.refl _ _).alloc (Nat.le_refl _) _
  rcases hfv with rfl | ⟨rfl, _⟩
  all_goals
    go_enter Try.func32, Try.ntmps32
    go_wp2_with fail
    refine Calls.mono (qclone_any _ _ L ((unhide HL).below hb1).row (unhide HL).small) ?_
    rintro e w2 ⟨p2, cap2, rfl, o2, b2⟩
    have hh2 := (b2.block w.heap.size (by simp)).trans (heap_alloc_new w _)
    have hs2 := b2.size
    have d1 : w2.cell? ⟨w.heap.size, 1, none⟩ = some (.slice p L.length cap) := by rw [cell_of_row w2 w.heap.size _ _ _ (0, 0) hh2]; rfl
    have f1 : w2.frozen? ⟨w.heap.size, 1, none⟩ = false := frozen_of_block hh2
    have hb2 := heap_setCell_same w2 w.heap.size 1 _ _ (.slice p2 L.length cap2) hh2
    have hne : (Value.slice p2 L.length cap2).ownBlock ≠ some w.heap.size := fun e => by have := (o2.lt _ e).1; rw [World.size_alloc] at this; omega
    have K : Keep (fun k => k = w.heap.size) w2 (w2.setCell ⟨w.heap.size, 1, none⟩ (.slice p2 L.length cap2)) := ⟨rfl, rfl, rfl, by simp [World.setCell], fun k _ hk => heap_setCell_other w2 ⟨w.heap.size, 1, none⟩ k _ (fun e => hk (by simp at e; exact e.symm ▸ rfl))⟩
    have HE : Hid (QAt (QF w.heap.size (.slice p2 L.length cap2)) (w2.setCell ⟨w.heap.size, 1, none⟩ (.slice p2 L.length cap2)) w.heap.size _ lt Z n ∧ Below w.heap.size w (w2.setCell ⟨w.heap.size, 1, none⟩ (.slice p2 L.length cap2)) ∧ ∀ k, QF w.heap.size (.slice p2 L.length cap2) k → w.heap.size ≤ k) :=
      hide ⟨⟨hC, L, _, ⟨by rw [hb2]; rfl, owns_keep (qowns_base o2) K (fun k hk e => hne (e ▸ hk)), hne, (unhide HL).small⟩, unhide HQ, fun _ => Iff.rfl⟩, (hb1.trans (b2.mono (by simp))).setCell (p := ⟨w.heap.size, 1, none⟩) (Nat.le_refl _) _, fun k hk => by
        rcases hk with hk | hk
        · omega
        · have := (o2.lt _ hk).1; rw [World.size_alloc] at this; omega⟩
    clear o2 b2 hh2 hs2 hb2 hne K
    go_wp2_with fail
    go_ret
    exact ⟨_, _, rfl, unhide HE⟩
end Go.Proofs.Ytbannlomemkjbaa

/- Layer 8's statements: one call to the queue and to the reference. -/
namespace Go.Proofs.Ytbannlomemkjbaa
open Go.RowKit

/-- The queue q and the reference r are alike: both have l. -/
structure QB (B : Nat) (w : World) (q r n : Nat) (l : List It) : Prop where
  all : ∃ F v, QAt F w q (.func (.func 10) #[] #[]) lowI (srt lowI l) n ∧ RQ w r l v ∧ (∀ k, F k → ¬ QF r v k) ∧ (∀ k, F k → B ≤ k) ∧ (∀ k, QF r v k → B ≤ k)
/-- .. and so behind a step. -/
def QStepd (B : Nat) (w w' : World) (q r n : Nat) (l : List It) : Prop := (∃ n' l', n' ≤ n + 1 ∧ l'.length ≤ l.length + 1 ∧ QB B w' q r n' l') ∧ Below B w w'
theorem QB.below {B : Nat} {w w' : World} {q r n : Nat} {l : List It} (h : QB B w q r n l) (hb : Below w.heap.size w w') : QB B w' q r n l := by
  obtain ⟨F, v, h1, h2, h3, h4, h5⟩ := h.all
  exact ⟨F, v, h1.below hb, h2.below hb, h3, h4, h5⟩
theorem QB.size {B : Nat} {w : World} {q r n : Nat} {l : List It} (h : QB B w q r n l) : B ≤ w.heap.size := by
  obtain ⟨F, v, h1, h2, h3, h4, h5⟩ := h.all
  have := h2.lt r (Or.inl rfl)
  have := h5 r (Or.inl rfl)
  omega
/-- What moved in the one queue. -/
theorem QB.moveQ {B : Nat} {F F' : Nat → Prop} {w w' : World} {r : Nat} {l : List It} {v : Value} (hr : RQ w r l v) (h3 : ∀ k, F k → ¬ QF r v k) (h4 : ∀ k, F k → B ≤ k) (hB : B ≤ w.heap.size) (hm : Moves F F' w w') :
    RQ w' r l v ∧ (∀ k, F' k → ¬ QF r v k) ∧ (∀ k, F' k → B ≤ k) ∧ Below B w w' :=
  ⟨hr.keep hm.keep (fun k hk hf => h3 k hf hk), fun k hf hk => by
    rcases hm.sub k hf with h | h
    · exact h3 k h hk
    · have := hr.lt k hk; omega, fun k hf => by
    rcases hm.sub k hf with h | h
    · exact h4 k h
    · omega, hm.keep.below hB h4⟩
theorem QB.moveR {B : Nat} {F : Nat → Prop} {w w' : World} {q r n : Nat} {Z : List It} {f v v' : Value} (hq : QAt F w q f lowI Z n) (h3 : ∀ k, F k → ¬ QF r v k) (h5 : ∀ k, QF r v k → B ≤ k) (hB : B ≤ w.heap.size) (hm : Moves (QF r v) (QF r v') w w') :
    QAt F w' q f lowI Z n ∧ (∀ k, F k → ¬ QF r v' k) ∧ (∀ k, QF r v' k → B ≤ k) ∧ Below B w w' :=
  ⟨hq.keep hm.keep (fun k hk hf => h3 k hk hf), fun k hf hk => by
    rcases hm.sub k hk with h | h
    · exact h3 k hf h
    · have := hq.lt k hf; omega, fun k hk => by
    rcases hm.sub k hk with h | h
    · exact h5 k h
    · omega, hm.keep.below hB h5⟩
theorem srt_nil : srt lowI ([] : List It) = [] := rfl

set_option maxRecDepth 20000 in
set_option maxHeartbeats 2000000 in
theorem step_pop (B : Nat) (w : World) (q r n : Nat) (K : Int) (x : It) (l : List It) (h : QB B w q r n l) (hl : l.length ≤ 1000) (_ : n ≤ 1000) (hK : K = 1) (h0 : 0 < l.length) :
    Calls Try.prog 12 #[.pointer (some ⟨q, 0, none⟩), .pointer (some ⟨r, 0, none⟩), .agg #[.int .i64 K, .int .i64 x.1, .string x.2]] w fun e w' => ∃ q', e = .returned (.tuple #[.pointer (some ⟨q', 0, none⟩), .bool true]) ∧ QStepd B w w' q' r n l := by
  subst hK
  obtain ⟨hm, hsf⟩ := srt_first lowI l.length l rfl h0
  obtain ⟨F, v, h1, h2, h3, h4, h5⟩ := h.all
  have hBs := h.size
  rw [hsf] at h1
  generalize hX : l[mn lowI l l.length] = X at h1
  have hlE : (l.eraseIdx (mn lowI l l.length)).length ≤ l.length + 1 := by rw [List.length_eraseIdx]; split <;> omega
  have heq : ∀ W : World, (binOp .eql 26 (.agg #[.int .i64 X.1, .string X.2]) (.agg #[.int .i64 X.1, .string X.2])).run Try.prog W = .ok (.bool true) W := fun W => by
    have h := it_eql X X W
    rw [itEq_refl] at h
    exact h
  have hb0 : Below w.heap.size w (w.alloc (.cells #[.int .i64 1, .int .i64 x.1, .string x.2] 36)) := (Below.refl _ _).alloc (Nat.le_refl _) _
  have q0 := h1.below hb0
  have R0 := h2.below hb0
  have hs0 := hb0.size
  have HB0 := hide (hb0.mono hBs)
  clear hb0 h1 h2 h
  go_enter Try.func12, Try.ntmps12
  go_wp2_with fail
  refine Calls.mono (qpop_some lowI F _ q n _ X _ q0) ?_
  rintro e w1 ⟨rfl, F1, q1, m1⟩
  obtain ⟨R1, d1, e1, b1⟩ := QB.moveQ R0 h3 h4 (Nat.le_trans hBs hs0) m1
  have hs1 := b1.size
  have hb2 : Below w1.heap.size w1 (w1.alloc (.cells #[.int .i64 X.1, .string X.2] 26)) := (Below.refl _ _).alloc (Nat.le_refl _) _
  have q2 := q1.below hb2
  have R2 := R1.below hb2
  have hBs1 : B ≤ w1.heap.size := Nat.le_trans (Nat.le_trans hBs hs0) hs1
  have HB2 := hide ((unhide HB0).trans (b1.trans (hb2.mono hBs1)))
  have x0 : (w1.alloc (.cells #[.int .i64 X.1, .string X.2] 26)).cell? ⟨w1.heap.size, 0, none⟩ = some (.int .i64 X.1) := by simp
  have x1 : (w1.alloc (.cells #[.int .i64 X.1, .string X.2] 26)).cell? ⟨w1.heap.size, 1, none⟩ = some (.string X.2) := by simp
  have hs2 := hb2.size
  have hnr : ¬ QF r v w1.heap.size := fun hf => by have := R1.lt _ hf; omega
  clear q0 R0 hb2 q1 R1 b1 m1
  go_wp2_with fail
  refine Calls.mono (rpop_some _ r l v R2 (by omega) h0 hm) ?_
  rw [hX]
  rintro e w3 ⟨rfl, v3, R3, m3⟩
  obtain ⟨q3, d3, e3, b3⟩ := QB.moveR q2 d1 h5 (Nat.le_trans hBs1 hs2) m3
  obtain ⟨y0, y1, _, _, _⟩ := two_keep (b := w1.heap.size) m3.keep hnr x0 x1 (frozen_of_block (heap_alloc_new w1 _)) (frozen_of_block (heap_alloc_new w1 _))
  have hqb : QB B w3 q r n (l.eraseIdx (mn lowI l l.length)) := ⟨F1, v3, q3, R3, d3, e1, e3⟩
  have hb3 : Below B w w3 := (unhide HB2).trans b3
  have hw13 : w1.heap.size < w3.heap.size := World.block_lt_of_cell? w3 _ y0
  have n13 : ¬ w3.heap.size = w1.heap.size := by omega
  have HE : Hid (QStepd B w (w3.alloc (.cells #[.int .i64 X.1, .string X.2] 26)) q r n l) := by
    have hb4 : Below w3.heap.size w3 (w3.alloc (.cells #[.int .i64 X.1, .string X.2] 26)) := (Below.refl _ _).alloc (Nat.le_refl _) _
    exact ⟨⟨n, (l.eraseIdx (mn lowI l l.length)), by omega, hlE, hqb.below hb4⟩, hb3.trans (hb4.mono hqb.size)⟩
  clear hqb hb3 x0 x1 q2 R2 q3 R3 m3 b3
  go_wp2_with fail
  go_ret2
  exact ⟨q, rfl, unhide HE⟩

set_option maxRecDepth 20000 in
set_option maxHeartbeats 2000000 in
theorem step_pop0 (B : Nat) (w : World) (q r n : Nat) (K : Int) (x : It) (l : List It) (h : QB B w q r n l) (hl : l.length ≤ 1000) (_ : n ≤ 1000) (hK : K = 1) (h0 : l = []) :
    Calls Try.prog 12 #[.pointer (some ⟨q, 0, none⟩), .pointer (some ⟨r, 0, none⟩), .agg #[.int .i64 K, .int .i64 x.1, .string x.2]] w fun e w' => ∃ q', e = .returned (.tuple #[.pointer (some ⟨q', 0, none⟩), .bool true]) ∧ QStepd B w w' q' r n l := by
  subst hK
  subst h0
  obtain ⟨F, v, h1, h2, h3, h4, h5⟩ := h.all
  have hBs := h.size
  rw [srt_nil] at h1
  have heq : ∀ W : World, (binOp .eql 26 (.agg #[.int .i64 0, .string ⟨#[]⟩]) (.agg #[.int .i64 0, .string ⟨#[]⟩])).run Try.prog W = .ok (.bool true) W := fun W => by
    have h := it_eql (0, ⟨#[]⟩) (0, ⟨#[]⟩) W
    rw [itEq_refl] at h
    exact h
  have hb0 : Below w.heap.size w (w.alloc (.cells #[.int .i64 1, .int .i64 x.1, .string x.2] 36)) := (Below.refl _ _).alloc (Nat.le_refl _) _
  have q0 := h1.below hb0
  have R0 := h2.below hb0
  have hs0 := hb0.size
  have HB0 := hide (hb0.mono hBs)
  clear hb0 h1 h2 h
  go_enter Try.func12, Try.ntmps12
  go_wp2_with fail
  refine Calls.mono (qpop_none lowI F _ q n _ q0) ?_
  rintro e w1 ⟨rfl, b1'⟩
  have q1 := q0.below b1'
  have R1 := R0.below b1'
  have b1 := b1'.mono (Nat.le_trans hBs hs0)
  have hs1 := b1.size
  have hb2 : Below w1.heap.size w1 (w1.alloc (.cells #[.int .i64 0, .string ⟨#[]⟩] 26)) := (Below.refl _ _).alloc (Nat.le_refl _) _
  have q2 := q1.below hb2
  have R2 := R1.below hb2
  have hBs1 : B ≤ w1.heap.size := Nat.le_trans (Nat.le_trans hBs hs0) hs1
  have HB2 := hide ((unhide HB0).trans (b1.trans (hb2.mono hBs1)))
  have x0 : (w1.alloc (.cells #[.int .i64 0, .string ⟨#[]⟩] 26)).cell? ⟨w1.heap.size, 0, none⟩ = some (.int .i64 0) := by simp
  have x1 : (w1.alloc (.cells #[.int .i64 0, .string ⟨#[]⟩] 26)).cell? ⟨w1.heap.size, 1, none⟩ = some (.string ⟨#[]⟩) := by simp
  have hs2 := hb2.size
  clear q0 R0 hb2 q1 R1 b1 b1'
  go_wp2_with fail
  refine Calls.mono (rpop_none _ r v R2) ?_
  rintro e w3 ⟨rfl, b3'⟩
  have y0 := (b3'.cell (p := ⟨w1.heap.size, 0, none⟩) (by simp)).trans x0
  have y1 := (b3'.cell (p := ⟨w1.heap.size, 1, none⟩) (by simp)).trans x1
  have hqb : QB B w3 q r n [] := ⟨F, v, (by rw [srt_nil]; exact q2.below b3'), R2.below b3', h3, h4, h5⟩
  have hb3 : Below B w w3 := (unhide HB2).trans (b3'.mono (Nat.le_trans hBs1 hs2))
  have hw13 : w1.heap.size < w3.heap.size := World.block_lt_of_cell? w3 _ y0
  have n13 : ¬ w3.heap.size = w1.heap.size := by omega
  have HE : Hid (QStepd B w (w3.alloc (.cells #[.int .i64 0, .string ⟨#[]⟩] 26)) q r n []) := by
    have hb4 : Below w3.heap.size w3 (w3.alloc (.cells #[.int .i64 0, .string ⟨#[]⟩] 26)) := (Below.refl _ _).alloc (Nat.le_refl _) _
    exact ⟨⟨n, [], by omega, (by simp), hqb.below hb4⟩, hb3.trans (hb4.mono hqb.size)⟩
  clear hqb hb3 x0 x1 q2 R2 b3'
  go_wp2_with fail
  go_ret2
  exact ⟨q, rfl, unhide HE⟩

set_option maxRecDepth 20000 in
set_option maxHeartbeats 2000000 in
theorem step_peek (B : Nat) (w : World) (q r n : Nat) (K : Int) (x : It) (l : List It) (h : QB B w q r n l) (hl : l.length ≤ 1000) (_ : n ≤ 1000) (hK : K = 2) (h0 : 0 < l.length) :
    Calls Try.prog 12 #[.pointer (some ⟨q, 0, none⟩), .pointer (some ⟨r, 0, none⟩), .agg #[.int .i64 K, .int .i64 x.1, .string x.2]] w fun e w' => ∃ q', e = .returned (.tuple #[.pointer (some ⟨q', 0, none⟩), .bool true]) ∧ QStepd B w w' q' r n l := by
  subst hK
  obtain ⟨hm, hsf⟩ := srt_first lowI l.length l rfl h0
  obtain ⟨F, v, h1, h2, h3, h4, h5⟩ := h.all
  have hBs := h.size
  rw [hsf] at h1
  generalize hX : l[mn lowI l l.length] = X at h1
  have heq : ∀ W : World, (binOp .eql 26 (.agg #[.int .i64 X.1, .string X.2]) (.agg #[.int .i64 X.1, .string X.2])).run Try.prog W = .ok (.bool true) W := fun W => by
    have h := it_eql X X W
    rw [itEq_refl] at h
    exact h
  have hb0 : Below w.heap.size w (w.alloc (.cells #[.int .i64 2, .int .i64 x.1, .string x.2] 36)) := (Below.refl _ _).alloc (Nat.le_refl _) _
  have q0 := h1.below hb0
  have R0 := h2.below hb0
  have hs0 := hb0.size
  have HB0 := hide (hb0.mono hBs)
  clear hb0 h1 h2 h
  go_enter Try.func12, Try.ntmps12
  go_wp2_with fail
  refine Calls.mono (qpeek_some lowI F _ q n _ X _ q0) ?_
  rintro e w1 ⟨rfl, b1'⟩
  have q1 := q0.below b1'
  have R1 := R0.below b1'
  have b1 := b1'.mono (Nat.le_trans hBs hs0)
  have hs1 := b1.size
  have hb2 : Below w1.heap.size w1 (w1.alloc (.cells #[.int .i64 X.1, .string X.2] 26)) := (Below.refl _ _).alloc (Nat.le_refl _) _
  have q2 := q1.below hb2
  have R2 := R1.below hb2
  have hBs1 : B ≤ w1.heap.size := Nat.le_trans (Nat.le_trans hBs hs0) hs1
  have HB2 := hide ((unhide HB0).trans (b1.trans (hb2.mono hBs1)))
  have x0 : (w1.alloc (.cells #[.int .i64 X.1, .string X.2] 26)).cell? ⟨w1.heap.size, 0, none⟩ = some (.int .i64 X.1) := by simp
  have x1 : (w1.alloc (.cells #[.int .i64 X.1, .string X.2] 26)).cell? ⟨w1.heap.size, 1, none⟩ = some (.string X.2) := by simp
  have hs2 := hb2.size
  clear q0 R0 hb2 q1 R1 b1 b1'
  go_wp2_with fail
  refine Calls.mono (rpeek_some _ r l v R2 (by omega) h0 hm) ?_
  rw [hX]
  rintro e w3 ⟨rfl, b3'⟩
  have y0 := (b3'.cell (p := ⟨w1.heap.size, 0, none⟩) (by simp)).trans x0
  have y1 := (b3'.cell (p := ⟨w1.heap.size, 1, none⟩) (by simp)).trans x1
  have hqb : QB B w3 q r n l := ⟨F, v, (by rw [hsf, hX]; exact q2.below b3'), R2.below b3', h3, h4, h5⟩
  have hb3 : Below B w w3 := (unhide HB2).trans (b3'.mono (Nat.le_trans hBs1 hs2))
  have hw13 : w1.heap.size < w3.heap.size := World.block_lt_of_cell? w3 _ y0
  have n13 : ¬ w3.heap.size = w1.heap.size := by omega
  have HE : Hid (QStepd B w (w3.alloc (.cells #[.int .i64 X.1, .string X.2] 26)) q r n l) := by
    have hb4 : Below w3.heap.size w3 (w3.alloc (.cells #[.int .i64 X.1, .string X.2] 26)) := (Below.refl _ _).alloc (Nat.le_refl _) _
    exact ⟨⟨n, l, by omega, (by omega), hqb.below hb4⟩, hb3.trans (hb4.mono hqb.size)⟩
  clear hqb hb3 x0 x1 q2 R2 b3'
  go_wp2_with fail
  go_ret2
  exact ⟨q, rfl, unhide HE⟩

set_option maxRecDepth 20000 in
set_option maxHeartbeats 2000000 in
theorem step_peek0 (B : Nat) (w : World) (q r n : Nat) (K : Int) (x : It) (l : List It) (h : QB B w q r n l) (hl : l.length ≤ 1000) (_ : n ≤ 1000) (hK : K = 2) (h0 : l = []) :
    Calls Try.prog 12 #[.pointer (some ⟨q, 0, none⟩), .pointer (some ⟨r, 0, none⟩), .agg #[.int .i64 K, .int .i64 x.1, .string x.2]] w fun e w' => ∃ q', e = .returned (.tuple #[.pointer (some ⟨q', 0, none⟩), .bool true]) ∧ QStepd B w w' q' r n l := by
  subst hK
  subst h0
  obtain ⟨F, v, h1, h2, h3, h4, h5⟩ := h.all
  have hBs := h.size
  rw [srt_nil] at h1
  have heq : ∀ W : World, (binOp .eql 26 (.agg #[.int .i64 0, .string ⟨#[]⟩]) (.agg #[.int .i64 0, .string ⟨#[]⟩])).run Try.prog W = .ok (.bool true) W := fun W => by
    have h := it_eql (0, ⟨#[]⟩) (0, ⟨#[]⟩) W
    rw [itEq_refl] at h
    exact h
  have hb0 : Below w.heap.size w (w.alloc (.cells #[.int .i64 2, .int .i64 x.1, .string x.2] 36)) := (Below.refl _ _).alloc (Nat.le_refl _) _
  have q0 := h1.below hb0
  have R0 := h2.below hb0
  have hs0 := hb0.size
  have HB0 := hide (hb0.mono hBs)
  clear hb0 h1 h2 h
  go_enter Try.func12, Try.ntmps12
  go_wp2_with fail
  refine Calls.mono (qpeek_none lowI F _ q n _ q0) ?_
  rintro e w1 ⟨rfl, b1'⟩
  have q1 := q0.below b1'
  have R1 := R0.below b1'
  have b1 := b1'.mono (Nat.le_trans hBs hs0)
  have hs1 := b1.size
  have hb2 : Below w1.heap.size w1 (w1.alloc (.cells #[.int .i64 0, .string ⟨#[]⟩] 26)) := (Below.refl _ _).alloc (Nat.le_refl _) _
  have q2 := q1.below hb2
  have R2 := R1.below hb2
  have hBs1 : B ≤ w1.heap.size := Nat.le_trans (Nat.le_trans hBs hs0) hs1
  have HB2 := hide ((unhide HB0).trans (b1.trans (hb2.mono hBs1)))
  have x0 : (w1.alloc (.cells #[.int .i64 0, .string ⟨#[]⟩] 26)).cell? ⟨w1.heap.size, 0, none⟩ = some (.int .i64 0) := by simp
  have x1 : (w1.alloc (.cells #[.int .i64 0, .string ⟨#[]⟩] 26)).cell? ⟨w1.heap.size, 1, none⟩ = some (.string ⟨#[]⟩) := by simp
  have hs2 := hb2.size
  clear q0 R0 hb2 q1 R1 b1 b1'
  go_wp2_with fail
  refine Calls.mono (rpeek_none _ r v R2) ?_
  rintro e w3 ⟨rfl, b3'⟩
  have y0 := (b3'.cell (p := ⟨w1.heap.size, 0, none⟩) (by simp)).trans x0
  have y1 := (b3'.cell (p := ⟨w1.heap.size, 1, none⟩) (by simp)).trans x1
  have hqb : QB B w3 q r n [] := ⟨F, v, (by rw [srt_nil]; exact q2.below b3'), R2.below b3', h3, h4, h5⟩
  have hb3 : Below B w w3 := (unhide HB2).trans (b3'.mono (Nat.le_trans hBs1 hs2))
  have hw13 : w1.heap.size < w3.heap.size := World.block_lt_of_cell? w3 _ y0
  have n13 : ¬ w3.heap.size = w1.heap.size := by omega
  have HE : Hid (QStepd B w (w3.alloc (.cells #[.int .i64 0, .string ⟨#[]⟩] 26)) q r n []) := by
    have hb4 : Below w3.heap.size w3 (w3.alloc (.cells #[.int .i64 0, .string ⟨#[]⟩] 26)) := (Below.refl _ _).alloc (Nat.le_refl _) _
    exact ⟨⟨n, [], by omega, (by simp), hqb.below hb4⟩, hb3.trans (hb4.mono hqb.size)⟩
  clear hqb hb3 x0 x1 q2 R2 b3'
  go_wp2_with fail
  go_ret2
  exact ⟨q, rfl, unhide HE⟩

set_option maxRecDepth 20000 in
set_option maxHeartbeats 2000000 in
theorem step_push (B : Nat) (w : World) (q r n : Nat) (K : Int) (x : It) (l : List It) (h : QB B w q r n l) (hl : l.length ≤ 1000) (hn : n ≤ 1000) (hK : ¬ K = 1 ∧ ¬ K = 2 ∧ ¬ K = 3) :
    Calls Try.prog 12 #[.pointer (some ⟨q, 0, none⟩), .pointer (some ⟨r, 0, none⟩), .agg #[.int .i64 K, .int .i64 x.1, .string x.2]] w fun e w' => ∃ q', e = .returned (.tuple #[.pointer (some ⟨q', 0, none⟩), .bool true]) ∧ QStepd B w w' q' r n l := by
  obtain ⟨hK1, hK2, hK3⟩ := hK
  obtain ⟨F, v, h1, h2, h3, h4, h5⟩ := h.all
  have hBs := h.size
  have hb0 : Below w.heap.size w (w.alloc (.cells #[.int .i64 K, .int .i64 x.1, .string x.2] 36)) := (Below.refl _ _).alloc (Nat.le_refl _) _
  have q0 := h1.below hb0
  have R0 := h2.below hb0
  have hs0 := hb0.size
  have hnr : ¬ QF r v w.heap.size := fun hf => by have := h2.lt _ hf; omega
  have hnb := heap_alloc_new w (.cells #[.int .i64 K, .int .i64 x.1, .string x.2] 36)
  have HNB := hide hnb
  have HB0 := hide (hb0.mono hBs)
  clear hb0 h1 h2 h hnb
  go_enter Try.func12, Try.ntmps12
  go_wp2_with fail
  refine Calls.mono (rpush_any _ r x l v R0 (by omega)) ?_
  rintro e w1 ⟨rfl, v1, R1, m1⟩
  obtain ⟨q1, d1, e1, b1⟩ := QB.moveR q0 h3 h5 (Nat.le_trans hBs hs0) m1
  have hbx := (m1.keep.block w.heap.size (by simp) hnr).trans (unhide HNB)
  have y0 : w1.cell? ⟨w.heap.size, 1, none⟩ = some (.int .i64 x.1) := by rw [cell_of_row w1 w.heap.size _ _ _ (0, 0) hbx]; rfl
  have y1 : w1.cell? ⟨w.heap.size, 2, none⟩ = some (.string x.2) := by rw [cell_of_row w1 w.heap.size _ _ _ (0, 0) hbx]; rfl
  have HB1 := hide ((unhide HB0).trans b1)
  have hs1 := b1.size
  clear q0 R0 m1 b1 hbx
  go_wp2_with fail
  refine Calls.mono (qpush_any lowI F _ q n x _ _ q1 (by rw [length_srt]; omega) (by omega)) ?_
  rintro e w2 ⟨rfl, F2, q2, m2⟩
  obtain ⟨R2, d2, e2, b2⟩ := QB.moveQ R1 d1 h4 (Nat.le_trans hBs (Nat.le_trans hs0 hs1)) m2
  have HE : Hid (QStepd B w w2 q r n l) := ⟨⟨n + 1, l ++ [x], Nat.le_refl _, by simp, ⟨F2, v1, by rw [srt_snoc]; exact q2, R2, d2, e2, e1⟩⟩, (unhide HB1).trans b2⟩
  clear q1 R1 q2 R2 m2 b2
  go_wp2_with fail
  go_ret2
  exact ⟨q, rfl, unhide HE⟩

/-- The fork and the reference stand, whatever the old queue is. -/
structure ForkI (B : Nat) (w wr : World) (q q' r n : Nat) (l : List It) (v : Value) (G : Nat → Prop) : Prop where
  fork : QAt G wr q' (.func (.func 10) #[] #[]) lowI (srt lowI l) n
  ref : RQ wr r l v
  apart : ∀ k, G k → ¬ QF r v k
  bg : ∀ k, G k → B ≤ k
  br : ∀ k, QF r v k → B ≤ k
  bel : Below B w wr
  old : ∃ F Z, QAt F wr q (.func (.func 10) #[] #[]) lowI Z n ∧ Z.length ≤ 1000 ∧ (∀ k, F k → ¬ G k) ∧ (∀ k, F k → ¬ QF r v k) ∧ ∀ k, F k → B ≤ k
theorem ForkI.below {B : Nat} {w wr wx : World} {q q' r n : Nat} {l : List It} {v : Value} {G : Nat → Prop} (h : ForkI B w wr q q' r n l v G) (hb : Below wr.heap.size wr wx) : ForkI B w wx q q' r n l v G := by
  obtain ⟨F, Z, h1, h2, h3, h4, h5⟩ := h.old
  have hB : B ≤ wr.heap.size := by have := h.ref.lt r (Or.inl rfl); have := h.br r (Or.inl rfl); omega
  exact ⟨h.fork.below hb, h.ref.below hb, h.apart, h.bg, h.br, h.bel.trans (hb.mono hB), F, Z, h1.below hb, h2, h3, h4, h5⟩
theorem ForkI.moves {B : Nat} {w wr wx : World} {q q' r n : Nat} {l : List It} {v : Value} {G : Nat → Prop} (h : ForkI B w wr q q' r n l v G) {F F2 : Nat → Prop} (h3 : ∀ k, F k → ¬ G k) (h4 : ∀ k, F k → ¬ QF r v k) (h5 : ∀ k, F k → B ≤ k) (hm : Moves F F2 wr wx) :
    QAt G wx q' (.func (.func 10) #[] #[]) lowI (srt lowI l) n ∧ RQ wx r l v ∧ Below B w wx ∧ (∀ k, F2 k → ¬ G k) ∧ (∀ k, F2 k → ¬ QF r v k) ∧ ∀ k, F2 k → B ≤ k := by
  have hB : B ≤ wr.heap.size := by have := h.ref.lt r (Or.inl rfl); have := h.br r (Or.inl rfl); omega
  refine ⟨h.fork.keep hm.keep (fun k hk hf => h3 k hf hk), h.ref.keep hm.keep (fun k hk hf => h4 k hf hk), h.bel.trans (hm.keep.below hB h5), fun k hf hg => ?_, fun k hf hg => ?_, fun k hf => ?_⟩
  · rcases hm.sub k hf with h' | h'
    · exact h3 k h' hg
    · have := h.fork.lt k hg; omega
  · rcases hm.sub k hf with h' | h'
    · exact h4 k h' hg
    · have := h.ref.lt k hg; omega
  · rcases hm.sub k hf with h' | h'
    · exact h5 k h'
    · omega


set_option maxRecDepth 20000 in
set_option maxHeartbeats 2000000 in
theorem step_fork (B : Nat) (w : World) (q r n : Nat) (K : Int) (x : It) (l : List It) (h : QB B w q r n l) (hl : l.length ≤ 1000) (hn : n ≤ 1000) (hK : K = 3) :
    Calls Try.prog 12 #[.pointer (some ⟨q, 0, none⟩), .pointer (some ⟨r, 0, none⟩), .agg #[.int .i64 K, .int .i64 x.1, .string x.2]] w fun e w' => ∃ q', e = .returned (.tuple #[.pointer (some ⟨q', 0, none⟩), .bool true]) ∧ QStepd B w w' q' r n l := by
  subst hK
  obtain ⟨F, v, h1, h2, h3, h4, h5⟩ := h.all
  have hBs := h.size
  have hb0 : Below w.heap.size w (w.alloc (.cells #[.int .i64 3, .int .i64 x.1, .string x.2] 36)) := (Below.refl _ _).alloc (Nat.le_refl _) _
  have q0 := h1.below hb0
  have R0 := h2.below hb0
  have hs0 := hb0.size
  have HB0 := hide (hb0.mono hBs)
  clear hb0 h1 h2 h
  go_enter Try.func12, Try.ntmps12
  go_wp2_with fail
  refine Calls.mono (qfork_any lowI F _ q n _ _ q0) ?_
  rintro e w1 ⟨q', G, rfl, g1, b1, hG⟩
  have hI : ForkI B w w1 q q' r n l v G := ⟨g1, R0.below b1, fun k hg hk => by have := hG k hg; have := R0.lt k hk; omega, fun k hg => by have := hG k hg; omega, h5, (unhide HB0).trans (b1.mono (Nat.le_trans hBs hs0)), F, srt lowI l, q0.below b1, by rw [length_srt]; exact hl, fun k hf hg => by have := hG k hg; have := q0.lt k hf; omega, h3, h4⟩
  clear g1 b1 hG q0 R0 HB0 hs0 h3 h4 h5
  go_wp2_with fail
  go_loopw [17] (fun t wr => ∃ i : Nat, i ≤ 3 ∧ t = .int .i64 (i : Int) ∧ ForkI B w wr q q' r n l v G) (fun t _ => 3 - (intOf t).toNat)
  case atStart => exact ⟨0, by omega, rfl, hI⟩
  case round =>
    obtain ⟨i, hi, rfl, hJ⟩ := hrel
    clear hI
    by_cases hlt : i < 3
    · have hiI : (i : Int) < 3 := by omega
      have HLT := hide hlt
      obtain ⟨F2, Z, c1, c2, c3, c4, c5⟩ := hJ.old
      cases Z with
      | nil =>
        clear hi hlt
        go_wp2_with fail
        refine Calls.mono (qlen_any lowI F2 _ q n _ _ c1) ?_
        rintro e w2 ⟨rfl, b2⟩
        have hJ2 := hJ.below b2
        have c12 := c1.below b2
        clear hJ b2 c1
        go_wp2_with fail
        refine Calls.mono (qpush_any lowI F2 _ q n (-9223372036854775808, ⟨#[103, 111, 110, 101]⟩) _ _ c12 (by simp) (by omega)) ?_
        rintro e w3 ⟨rfl, F3, q3, m3⟩
        obtain ⟨f1, f2, f3, f4, f5, f6⟩ := hJ2.moves c3 c4 c5 m3
        have HE : Hid (QStepd B w w3 q' r n l) := ⟨⟨n, l, by omega, by omega, ⟨G, v, f1, f2, hJ2.apart, hJ2.bg, hJ2.br⟩⟩, f3⟩
        clear hJ2 m3 q3 f1 f2 f3 f4 f5 f6 c12
        go_wp2_with fail
        go_ret2
        exact ⟨q', rfl, unhide HE⟩
      | cons z Z =>
        have hz1 : ((z :: Z).length : Int) = (Z.length : Int) + 1 := by simp
        have hz2 : (0 : Int) < (Z.length : Int) + 1 := by omega
        have hz3 : (Z.length : Int) ≤ 1000 := by have := c2; simp at this; omega
        have HC2 := hide c2
        have HZ1 := hide hz1
        clear hi hlt c2 hz1
        go_wp2_with fail
        refine Calls.mono (qlen_any lowI F2 _ q n _ _ c1) ?_
        rw [unhide HZ1]
        rintro e w2 ⟨rfl, b2⟩
        have hJ2 := hJ.below b2
        have c12 := c1.below b2
        clear hJ b2 c1
        go_wp2_with fail
        refine Calls.mono (qpop_some lowI F2 _ q n _ z Z c12) ?_
        rintro e w3 ⟨rfl, F3, q3, m3⟩
        obtain ⟨f1, f2, f3, f4, f5, f6⟩ := hJ2.moves c3 c4 c5 m3
        have HE : Hid (ForkI B w w3 q q' r n l v G) := ⟨f1, f2, hJ2.apart, hJ2.bg, hJ2.br, f3, F3, Z, q3, by have := unhide HC2; simp at this; omega, f4, f5, f6⟩
        clear hJ2 m3 q3 f1 f2 f3 f4 f5 f6 c12
        go_wp2_with fail
        go_roundw
        case rel => exact ⟨i + 1, unhide HLT, by go_num, unhide HE⟩
        case measure => (have := unhide HLT; simp [intOf]; omega)
    · have hi3 : i = 3 := by omega
      subst hi3
      obtain ⟨F2, Z, c1, c2, c3, c4, c5⟩ := hJ.old
      clear hi hlt
      go_wp2_with fail
      refine Calls.mono (qpush_any lowI F2 _ q n (-9223372036854775808, ⟨#[103, 111, 110, 101]⟩) _ _ c1 (by omega) (by omega)) ?_
      rintro e w3 ⟨rfl, F3, q3, m3⟩
      obtain ⟨f1, f2, f3, f4, f5, f6⟩ := hJ.moves c3 c4 c5 m3
      have HE : Hid (QStepd B w w3 q' r n l) := ⟨⟨n, l, by omega, by omega, ⟨G, v, f1, f2, hJ.apart, hJ.bg, hJ.br⟩⟩, f3⟩
      clear hJ m3 q3 f1 f2 f3 f4 f5 f6 c1
      go_wp2_with fail
      go_ret2
      exact ⟨q', rfl, unhide HE⟩
end Go.Proofs.Ytbannlomemkjbaa
