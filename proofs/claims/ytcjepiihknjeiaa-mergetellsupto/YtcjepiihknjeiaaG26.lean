/- Texts of ours, one behind the other: MergeLeftWalk. -/
import Derived.Test.YtcjepiihknjeiaaG25
import Derived.LoopNIn
/- The walk of the statement MergeLeft. -/
namespace Go.Proofs.Ytcjepiihknjeiaa.QH
open Go.RowKit Go.Shelf
attribute [local go_sem] Oper.semAt_some

/-- A loop of two rounds and the last look, with one claim between. -/
theorem wpIn_two {F : Fence} {n : Nat} {P : Program} {Q : Exit → Act → World → Prop} {a : Act} {w : World} {c : Code} (S : Act → World → Prop) (h1 : c.wpIn F n P (Exit.then S Q) a w)
    (h2 : ∀ a w, S a w → c.wpIn F n P (Exit.then (fun a w => c.wpIn F n P (Exit.then (fun _ _ => False) Q) a w) Q) a w) : (Code.loop c).wpIn F n P Q a w := by
  refine wpIn_loop_rounds 3 ?_
  refine wpIn_mono h1 ?_
  rintro e a' w' h
  cases e with
  | normal => exact h2 a' w' h
  | _ => exact h

/-- A range over a sequence that may be broken off: one end. -/
theorem wpIn_seqHL {α : Type} {g : Operand} {ps : Array Tmp} {assign body : Code} {Q : Exit → Act → World → Prop} {a : Act} {w : World} {m gf : Nat} {lb : Array Value} {Enc : (Nat → Prop) → World → α → Array Value → World → Prop} {Z : List α} {F C0 : Nat → Prop} {D : World → Prop}
    (hseq : SeqH gf lb Enc Z F D) (hg : a.eval g = .func (.func gf) #[] lb) (eg : ∀ args w, (callFunc gf args).run Try.prog w = .ok (.enter gf args) w) (hps : ∀ C W x vs W2, Enc C W x vs W2 → vs.size = ps.size)
    (I : List α → (Nat → Prop) → World → Prop) (id : Nat) (E : (Nat → Prop) → World → Prop) (hI : SOk w.heap.size I) (hE : SOk w.heap.size (fun (_ : List α) => E)) (hIE : ∀ C W, I Z C W → E C W)
    (h0 : I [] C0 w) (hD : ∀ W, Below w.heap.size w W → D W) (hF : ∀ k, F k → ¬ C0 k ∧ k < w.heap.size)
    (hround : ∀ (l : Nat) (pre : List α) (x : α) (rest : List α) (C : Nat → Prop) (W W2 : World) (vs : Array Value), Z = pre ++ x :: rest → I pre C W → Moves C0 C w W → w.heap.size + 1 < W.heap.size → Below W.heap.size W W2 → Enc (fun k => C k ∨ k = w.heap.size ∨ k = w.heap.size + 1) W x vs W2 →
      assign.wpIn (Fence.wide.inRound l) (m - 1 - 1) Try.prog (Exit.then (fun a' W' => ∃ (J : (Nat → Prop) → World → Prop) (C' : Nat → Prop), (¬ C' (w.heap.size + 1) → ∀ X o, J C' X → J C' (X.putObj (w.heap.size + 1) o)) ∧ J C' W' ∧ Moves C C' W W' ∧
        ∀ W'', J C' W'' → Moves C0 C' w W'' → body.wpIn (Fence.wide.inRound l) (m - 1 - 1) Try.prog (seqPost I (fun c _ C W => c = Code.exit id ∧ E C W) (pre ++ [x]) C' W'') a' W'') (fun _ _ _ => False)) { tmps := (ps.zip vs).foldl (fun t (p, v) => t.setIfInBounds p v) a.tmps, defers := [] } W2)
    (hend : ∀ (dd : Nat) (C : Nat → Prop) (W : World), w.heap.size ≤ dd → E C W → Moves C0 C w W → ¬ C dd → W.heap[dd]? = some (.deferred (some [])) → Q .normal { a with defers := { target := .collected dd, args := #[] } :: a.defers } W) :
    (Code.rangeFunc g ps assign body).wpIn Fence.wide m Try.prog (Exit.inBlock id Q) a w := by
  refine wpIn_seqHR hseq hg eg hps I (fun c _ C W => c = Code.exit id ∧ E C W) hI (fun c => ⟨fun _ C W W' G ⟨h1, h2⟩ h3 h4 h5 => ⟨h1, hE.stays [] C W W' G h2 h3 h4 h5⟩, fun _ C W ⟨_, h2⟩ => hE.lt [] C W h2⟩) h0 hD hF hround ?_ ?_
  · intro dd C W h1 h2 h3 h4 h5
    exact hend dd C W h1 (hIE C W h2) h3 h4 h5
  · rintro dd c pre x rest C W h1 hZ ⟨rfl, h2⟩ h3 h4 h5
    refine wpIn_exit ?_
    show (if id = id then _ else _)
    rw [if_pos rfl]
    exact hend dd C W h1 h2 h3 h4 h5

set_option maxRecDepth 20000 in
set_option maxHeartbeats 4000000 in
theorem mleft_any (v : Value) (LL : List (List En)) (st : Int) (w : World) (h : LR w v LL) (hks : ∀ l ∈ LL, ∀ x ∈ l, x.1.size ≤ 140737488351232) (hl : (totE LL + 1) * 40 ≤ 140737488355328) (_hwf : (Lit.int .i64 st).wf = true) :
    Calls Try.prog 8 #[v, .int .i64 st] w fun e w' => e = .returned (.bool true) ∧ Below w.heap.size w w' := by
  refine (callsIn_wide (n := 5)).1 ?_
  refine callsIn_of_wp_marks Try.func8 rfl trivial ?_ rfl
  simp only [Try.ntmps8, List.size_toArray, List.length_cons, List.length_nil, Nat.reduceAdd, Nat.reduceSub, Array.replicate_succ, Array.replicate_zero, List.push_toArray, List.append_toArray, List.nil_append, List.cons_append]
  have hll : ∀ l ∈ LL, l.length * 40 ≤ 140737488355328 := fun l hm => by have := len_tot hm; omega
  have HW := hide (fun W (hb : Below w.heap.size w W) => mall_any v LL W (LR.below h hb) hll (by omega))
  have HM := hide (fun W (hb : Below w.heap.size w W) => emerge_any v LL W (LR.below h hb) hks hl)
  have HL := hide hl
  obtain ⟨p, c, rfl⟩ : ∃ p c, v = .slice p LL.length c := by
    obtain ⟨vs, h1, h2, _⟩ := h
    obtain ⟨p, c, e, _⟩ := h2.shape
    exact ⟨p, c, by rw [e, h1]⟩
  have hmx : Try.prog.follows .mixedOrders = true := by kernel_rfl
  have HAW := hide (fun W => mawake12_any W)
  clear h hks hl hll
  have hb0 : Below w.heap.size w (w.alloc (.cells #[.bool false] 4)) := (Below.refl _ _).alloc (Nat.le_refl _) _
  have HR := hide (World.alloc_heap_new w (.cells #[.bool false] 4))
  have HB0 := hide hb0
  have HWK := hide (unhide HW _ hb0)
  have hml := mrgR_len LL
  have HML := hide (show (mrgR LL).1.length + 3 ≤ 4611686018427387904 by have := unhide HL; omega)
  generalize hX : (mrgR LL).1 = X at *
  generalize hE : (mrgR LL).2 = er at *
  clear hb0 HW hml
  gi_wp2_with fail
  refine ⟨trivial, (callsIn_wide.2 (unhide HWK)).mono ?_⟩
  rintro e w1 ⟨f, rfl, hf, b1⟩
  have HB1 := hide ((unhide HB0).trans (b1.mono (unhide HB0).size))
  have HR1 := hide ((b1.block _ (Array.getElem?_eq_some_iff.1 (unhide HR)).1).trans (unhide HR))
  obtain ⟨Hn, F, D, rfl, hsq, hli⟩ := hf
  have hnil : ∀ w, (binOp .eql 53 (.func (.func 34) #[] #[.pointer (some ⟨Hn, 0, none⟩)]) .nilFunc).run Try.prog w = .ok (.bool false) w := fun _ => by kernel_rfl
  have HSQ := hide hsq
  have HLI := hide hli
  clear b1 hsq hli HWK
  have HMG := hide (unhide HM _ (unhide HB1))
  clear HM
  gi_wp2_with fail
  refine ⟨trivial, (callsIn_wide.2 (unhide HMG)).mono ?_⟩
  rintro e w2 ⟨vx, rfl, hx, b2⟩
  have hl2 := er_of_own hx
  obtain ⟨pl, kl, rfl⟩ := ownsV_shape hx
  have HB2 := hide ((unhide HB1).trans (b2.mono (unhide HB1).size))
  have HW1S := hide b2.size
  have HR2 := hide ((b2.block _ (Array.getElem?_eq_some_iff.1 (unhide HR1)).1).trans (unhide HR1))
  have HLI2 := hide ((unhide HLI).below b2)
  have HE2 := hide hl2
  clear b2 hl2 HMG hx
  have hb3 : Below w2.heap.size w2 (w2.alloc (.cells #[.slice pl X.length kl] 24)) := (Below.refl _ _).alloc (Nat.le_refl _) _
  have HL3 := hide (World.alloc_heap_new w2 (.cells #[.slice pl X.length kl] 24))
  have HB3 := hide hb3
  clear hb3
  gi_wp2_with fail
  refine ⟨trivial, (callsIn_wide.2 (unhide HAW _)).mono ?_⟩
  rintro e w4 ⟨rfl, b4⟩
  have hb4 := (unhide HB3).trans (b4.mono (unhide HB3).size)
  have HB4 := hide (And.intro hb4 (And.intro (unhide HB3).size b4.size))
  have hl4 := (b4.block _ (Array.getElem?_eq_some_iff.1 (unhide HL3)).1).trans (unhide HL3)
  have HL4 := hide hl4
  have lc4 : w4.cell? ⟨w2.heap.size, 0, none⟩ = some (.slice pl X.length kl) := by rw [cell_of_row w4 _ _ _ _ (0, 0) hl4]; rfl
  have hn2 : IntKind.i64.wrap ((X.length : Int) + 2) = (X.length : Int) + 2 := by have := unhide HML; rw [IntKind.wrap_i64]; omega
  have hu2 : ¬ IntKind.u64.wrap ((X.length : Int) + 2) = 0 := by have := unhide HML; rw [IntKind.wrap_u64]; omega
  clear b4 hb4 hl4
  gi_wp2_with fail
  obtain ⟨K, hK⟩ : ∃ K, K = wrap64 ((IntKind.u64.wrap st).tmod (IntKind.u64.wrap ((X.length : Int) + 2))) := ⟨_, rfl⟩
  rw [← hK]
  clear hK
  have hb5 : Below w4.heap.size w4 ((w4.alloc (.cells #[.int .i64 K] 3)).alloc (.cells #[.int .i64 0] 3)) := ((Below.refl _ _).alloc (Nat.le_refl _) _).alloc (by simp) _
  have hk5 : ((w4.alloc (.cells #[.int .i64 K] 3)).alloc (.cells #[.int .i64 0] 3)).heap[w4.heap.size]? = some (.cells #[.int .i64 K] 3 (0, 0)) := (Below.heap_alloc _ _ _ (by simp)).trans (World.alloc_heap_new w4 _)
  have hn5 : ((w4.alloc (.cells #[.int .i64 K] 3)).alloc (.cells #[.int .i64 0] 3)).heap[w4.heap.size + 1]? = some (.cells #[.int .i64 0] 3 (0, 0)) := by
    have := World.alloc_heap_new (w4.alloc (.cells #[.int .i64 K] 3)) (.cells #[.int .i64 0] 3); rwa [World.size_alloc] at this
  have hs5 : ((w4.alloc (.cells #[.int .i64 K] 3)).alloc (.cells #[.int .i64 0] 3)).heap.size = w4.heap.size + 2 := by simp
  obtain ⟨w5, hw5⟩ : ∃ w5, (w4.alloc (.cells #[.int .i64 K] 3)).alloc (.cells #[.int .i64 0] 3) = w5 := ⟨_, rfl⟩
  rw [hw5] at hb5 hk5 hn5 hs5 ⊢
  clear hw5
  have nc5 : w5.cell? ⟨w4.heap.size + 1, 0, none⟩ = some (.int .i64 0) := by rw [cell_of_row w5 _ _ _ _ (0, 0) hn5]; rfl
  have HW5 := hide (And.intro hb5 (And.intro hk5 (And.intro hn5 hs5)))
  clear hb5 hk5 hn5 hs5
  refine wpIn_loop_rounds 3 ?_
  rw [roundsIn_succ]
  gi_wp2_with fail
  have hb6 : Below w5.heap.size w5 (w5.alloc (.cells #[.int .i64 0] 3)) := (Below.refl _ _).alloc (Nat.le_refl _) _
  have hi6 := World.alloc_heap_new w5 (.cells #[.int .i64 0] 3)
  obtain ⟨w6, hw6⟩ : ∃ w6, w5.alloc (.cells #[.int .i64 0] 3) = w6 := ⟨_, rfl⟩
  have hs6 : w6.heap.size = w5.heap.size + 1 := by rw [← hw6]; simp
  rw [hw6] at hb6 hi6 ⊢
  clear hw6
  obtain ⟨q1, q2, q3⟩ := unhide HB4
  obtain ⟨r1, r2, r3, r4⟩ := unhide HW5
  have hlw := (unhide HB2).size
  have hrl : w.heap.size < w2.heap.size := (Array.getElem?_eq_some_iff.1 (unhide HR2)).1
  have h24 : w2.heap.size < w4.heap.size := (Array.getElem?_eq_some_iff.1 (unhide HL4)).1
  have h46 := r1.trans (hb6.mono r1.size)
  have h26 := q1.trans (h46.mono q1.size)
  have HST : Hid (CtJ [(w.heap.size, .cells #[.bool false] 4 (0, 0)), (w2.heap.size, .cells #[.slice pl X.length kl] 24 (0, 0)), (w4.heap.size, .cells #[.int .i64 K] 3 (0, 0)), (w4.heap.size + 1, .cells #[.int .i64 0] 3 (0, 0))] w5.heap.size [(.slice pl X.length kl, X)] 0 (fun k => k = w.heap.size ∨ k = w2.heap.size ∨ k = w4.heap.size ∨ k = w4.heap.size + 1 ∨ k = w5.heap.size) w6) := by
    refine ⟨fun x hx => ?_, hi6, fun x hx => ?_, fun k => by simp [or_assoc], fun y hy => ?_⟩
    · simp only [List.mem_cons, List.not_mem_nil, or_false] at hx
      rcases hx with rfl | rfl | rfl | rfl
      · exact (h26.block _ hrl).trans (unhide HR2)
      · exact (h46.block _ h24).trans (unhide HL4)
      · exact (hb6.block _ (Array.getElem?_eq_some_iff.1 r2).1).trans r2
      · exact (hb6.block _ (Array.getElem?_eq_some_iff.1 r3).1).trans r3
    · simp only [List.mem_cons, List.not_mem_nil, or_false] at hx
      rcases hx with rfl | rfl | rfl | rfl
      · show w.heap.size ≠ w5.heap.size; omega
      · show w2.heap.size ≠ w5.heap.size; omega
      · show w4.heap.size ≠ w5.heap.size; omega
      · show w4.heap.size + 1 ≠ w5.heap.size; omega
    · rw [List.mem_singleton.1 hy]
      exact (unhide HE2).below h26
  have hlow : LowV [(.slice pl X.length kl, X)] w2.heap.size := lowV_of fun y hy => by rw [List.mem_singleton.1 hy]; exact unhide HE2
  have HLOW := hide hlow
  have HLI5 := hide ((unhide HLI2).below h26)
  have HBS := hide (And.intro ((unhide HB2).trans (h26.mono hlw)) (And.intro hrl (And.intro h24 (And.intro r4 hs6))))
  clear hb6 hi6 hs6 q1 q2 q3 r1 r2 r3 r4 hlw hrl h24 h46 h26 hlow
  refine wpIn_seqHL (C0 := (fun k => k = w.heap.size ∨ k = w2.heap.size ∨ k = w4.heap.size ∨ k = w4.heap.size + 1 ∨ k = w5.heap.size)) (unhide HSQ) rfl (fun _ _ => by kernel_rfl) (fun _ _ _ _ _ h => by rw [h]; rfl)
    (fun pre C W => True ∧ CtJ [(w.heap.size, .cells #[.bool false] 4 (0, 0)), (w2.heap.size, .cells #[.slice pl X.length kl] 24 (0, 0)), (w4.heap.size, .cells #[.int .i64 K] 3 (0, 0)), (w4.heap.size + 1, .cells #[.int .i64 0] 3 (0, 0))] w5.heap.size [(.slice pl X.length kl, X)] pre.length C W) 2 (fun C W => ∃ m, CtJ [(w.heap.size, .cells #[.bool false] 4 (0, 0)), (w2.heap.size, .cells #[.slice pl X.length kl] 24 (0, 0)), (w4.heap.size, .cells #[.int .i64 K] 3 (0, 0)), (w4.heap.size + 1, .cells #[.int .i64 0] 3 (0, 0))] w5.heap.size [(.slice pl X.length kl, X)] m C W) (CtJ.ok _ _ _ _ ((unhide HLOW).from (by have := unhide HBS; omega)) _ _)
    ⟨fun _ C W W' G ⟨m, h⟩ h2 h3 h4 => ⟨m, h.stays h2 h3 (fun y hy g o c e hp hG => by have := (unhide HLOW) y hy g o c e hp; have := h4 g hG; have := unhide HBS; omega)⟩, fun _ C W ⟨m, h⟩ => h.lt⟩ (fun C W h => ⟨_, h.2⟩) ⟨trivial, unhide HST⟩ ?data ?apart ?round ?fin
  case data =>
    intro W hb
    exact (unhide HLI5).stays _ _ (fun _ => False) (unhide HLI5).at_ (Keep.of_below hb) (fun _ _ => id)
  case apart =>
    intro k hk
    have h1 := (unhide HLI5).lt k hk
    have h2 := (unhide HLI).lt k hk
    have h3 := (unhide HLI).low k hk
    rw [World.size_alloc] at h3
    have h4 := unhide HBS
    have h5 := unhide HW1S
    refine ⟨fun hc => ?_, h1⟩
    rcases hc with hc | hc | hc | hc | hc <;> omega
  case round =>
    rintro l2 pre x rest C W3 WB vs hZ hj3 hm hlt3 hbB hen
    unfold encE at hen
    subst hen
    have hmX : X[pre.length]? = some x := by rw [hZ, List.getElem?_append_right (Nat.le_refl _), Nat.sub_self]; rfl
    have hlen : pre.length < X.length := (List.getElem?_eq_some_iff.1 hmX).1
    have hbn : Below WB.heap.size WB (WB.alloc (.cells #[.string x.1, .int .u64 x.2.1, .int .i64 x.2.2.1, .int .i64 x.2.2.2] 37)) := (Below.refl _ _).alloc (Nat.le_refl _) _
    have hx1 : (WB.alloc (.cells #[.string x.1, .int .u64 x.2.1, .int .i64 x.2.2.1, .int .i64 x.2.2.2] 37)).heap[WB.heap.size]? = some (.cells #[.string x.1, .int .u64 x.2.1, .int .i64 x.2.2.1, .int .i64 x.2.2.2] 37 (0, 0)) := World.alloc_heap_new WB _
    have HI2 := hide (And.intro (And.intro ((hj3.2.below hbB).below hbn) hx1) ((Moves.of_below (F := C) hbB).trans (Moves.of_below hbn)))
    have HSB := hide (Nat.lt_of_lt_of_le hlt3 hbB.size)
    have HNC := hide (show ∀ k, C k → k ≠ WB.heap.size from fun k hc e => absurd (hj3.2.lt k hc) (by have := hbB.size; omega))
    have HMX := hide hmX
    have HLN := hide hlen
    unfold eV
    clear hZ hj3 hm hlt3 hbB hbn hx1 hmX hlen
    gi_wp2
    refine ⟨fun C' Y => CtJ [(w.heap.size, .cells #[.bool false] 4 (0, 0)), (w2.heap.size, .cells #[.slice pl X.length kl] 24 (0, 0)), (w4.heap.size, .cells #[.int .i64 K] 3 (0, 0)), (w4.heap.size + 1, .cells #[.int .i64 0] 3 (0, 0))] w5.heap.size [(.slice pl X.length kl, X)] pre.length C' Y ∧ Y.heap[WB.heap.size]? = some (.cells #[.string x.1, .int .u64 x.2.1, .int .i64 x.2.2.1, .int .i64 x.2.2.2] 37 (0, 0)), C, ?put, (unhide HI2).1, (unhide HI2).2, fun W4 hi4 hm4 => ?_⟩
    case put =>
      rintro hn Y o ⟨h1, h2⟩
      have hp := keep_put Y (w6.heap.size + 1) o
      have hs := unhide HBS
      have hb := unhide HSB
      exact ⟨h1.stays hp (fun k hc e => hn (e ▸ hc)) (fun y hy g o c e hp2 e2 => by have := (unhide HLOW) y hy g o c e hp2; omega), (hp.block _ (Array.getElem?_eq_some_iff.1 h2).1 (by omega)).trans h2⟩
    obtain ⟨hct, hxc⟩ := hi4
    obtain ⟨g, o, c', e1, hc1, _, _⟩ := (hct.2.2.2.2 (.slice pl X.length kl, X) (by simp)).seen (by show 0 < X.length; have := unhide HLN; omega)
    simp only [Value.slice.injEq] at e1
    obtain ⟨rfl, _, rfl⟩ := e1
    have HCT := hide hct
    have h5L := hct.1 (w2.heap.size, .cells #[.slice (some ⟨g, o, none⟩) X.length kl] 24 (0, 0)) (by simp)
    have h5N := hct.1 (w4.heap.size + 1, .cells #[.int .i64 0] 3 (0, 0)) (by simp)
    have h5I := hct.2.1
    have h5R := er_at (hct.2.2.2.2 (.slice (some ⟨g, o, none⟩) X.length kl, X) (by simp)) (unhide HMX)
    obtain ⟨CC, hCC⟩ : ∃ CC : World → Prop, CC = fun w' => Below W4.heap.size W4 w' := ⟨_, rfl⟩
    have HCC : Hid (∀ w', CC w' → w'.cell? ⟨w2.heap.size, 0, none⟩ = some (.slice (some ⟨g, o, none⟩) X.length kl) ∧ w'.cell? ⟨w5.heap.size, 0, none⟩ = some (.int .i64 (pre.length : Int)) ∧ w'.frozen? ⟨w5.heap.size, 0, none⟩ = false ∧ (w'.cell? ⟨WB.heap.size, 0, none⟩ = some (.string x.1) ∧ w'.cell? ⟨WB.heap.size, 1, none⟩ = some (.int .u64 x.2.1) ∧ w'.cell? ⟨WB.heap.size, 2, none⟩ = some (.int .i64 x.2.2.1) ∧ w'.cell? ⟨WB.heap.size, 3, none⟩ = some (.int .i64 x.2.2.2)) ∧ (w'.cell? ⟨g, o + pre.length * 4, none⟩ = some (.string x.1) ∧ w'.cell? ⟨g, o + pre.length * 4 + 1, none⟩ = some (.int .u64 x.2.1) ∧ w'.cell? ⟨g, o + pre.length * 4 + 2, none⟩ = some (.int .i64 x.2.2.1) ∧ w'.cell? ⟨g, o + pre.length * 4 + 3, none⟩ = some (.int .i64 x.2.2.2))) := by
      unfold Hid
      rw [hCC]
      intro w' hw
      have q1 := (hw.block _ (Array.getElem?_eq_some_iff.1 h5L).1).trans h5L
      have q2 := (hw.block _ (Array.getElem?_eq_some_iff.1 h5I).1).trans h5I
      have q3 := (hw.block _ (Array.getElem?_eq_some_iff.1 hxc).1).trans hxc
      obtain ⟨x0, x1, x2, x3, _⟩ := ecells q3
      exact ⟨by rw [cell_of_row w' _ _ _ _ (0, 0) q1]; rfl, by rw [cell_of_row w' _ _ _ _ (0, 0) q2]; rfl, frozen_of_block q2, ⟨x0, x1, x2, x3⟩, h5R w' hw⟩
    have HC0 : Hid (CC { W4 with drawn := W4.drawn + 1 }) := by unfold Hid; rw [hCC]; exact (Below.refl _ W4).drew
    have HCW : Hid (∀ w', CC w' → Below W4.heap.size W4 w') := by unfold Hid; rw [hCC]; exact fun w' hw => hw
    have hlI : (pre.length : Int) < (X.length : Int) := by have := unhide HLN; omega
    have hlI2 : ¬ (X.length : Int) ≤ (pre.length : Int) := by omega
    have hlN : ¬ X.length ≤ pre.length := by omega
    have hnw : IntKind.i64.wrap ((pre.length : Int) + 1) = (pre.length : Int) + 1 := by have := unhide HML; rw [IntKind.wrap_i64]; omega
    clear hCC h5L h5I h5N h5R hct hxc hm4 HI2
    gi_wp2_with fail
    refine region_calmW CC (by kernel_rfl) (by kernel_rfl) (by simp) (unhide HC0) ?_
    repeat (first
      | go_big_quiet_skip
      | (go_big_quiet_want
         apply Exists.intro
         refine ⟨fun w' hw' => ?_, ?_⟩
         · obtain ⟨d0, d1, _, ⟨d3, d4, d5, d6⟩, d7, d8, d9, d10⟩ := unhide HCC w' hw'
           go_simp
           first | done | rfl
         simp only [Act.put, List.setIfInBounds_toArray, List.set_cons_zero, List.set_cons_succ]
         go_big_quiet_on))
    refine wpQuiet_nil ?_
    intro W6 hw6
    obtain ⟨_, d1, d1f, _⟩ := unhide HCC W6 hw6
    have HB6 := hide (unhide HCW W6 hw6)
    have ht := ((unhide HCT).below (unhide HB6)).tick (fun v hv gg oo cc e hp2 => by have := unhide HLOW v hv gg oo cc e hp2; have := unhide HBS; omega)
    have i7 : (W6.setCell ⟨w5.heap.size, 0, none⟩ (.int .i64 ((pre.length : Int) + 1))).cell? ⟨w5.heap.size, 0, none⟩ = some (.int .i64 ((pre.length : Int) + 1)) := by rw [cell_of_row _ _ _ _ _ (0, 0) ht.1.2.1, Int.natCast_add]; rfl
    have n7 : (W6.setCell ⟨w5.heap.size, 0, none⟩ (.int .i64 ((pre.length : Int) + 1))).cell? ⟨w4.heap.size + 1, 0, none⟩ = some (.int .i64 0) := by rw [cell_of_row _ _ _ _ _ (0, 0) (ht.1.1 (w4.heap.size + 1, .cells #[.int .i64 0] 3 (0, 0)) (by simp))]; rfl
    have k7 : (W6.setCell ⟨w5.heap.size, 0, none⟩ (.int .i64 ((pre.length : Int) + 1))).cell? ⟨w4.heap.size, 0, none⟩ = some (.int .i64 K) := by rw [cell_of_row _ _ _ _ _ (0, 0) (ht.1.1 (w4.heap.size, .cells #[.int .i64 K] 3 (0, 0)) (by simp))]; rfl
    have HT := hide ht
    clear hw6 HCC HC0 HCW ht
    by_cases hk : (pre.length : Int) + 1 = K
    · subst hk
      gi_wp2_with fail
      refine ⟨C, ⟨rfl, _, (unhide HT).1⟩, (Moves.of_below (unhide HB6)).trans (unhide HT).2⟩
    · have hk1 : ((pre.length : Int) + 1 == K) = false := beq_eq_false_iff_ne.2 hk
      clear hk
      gi_wp2_with fail
      refine ⟨C, ⟨trivial, ?_⟩, (Moves.of_below (unhide HB6)).trans (unhide HT).2⟩
      rw [List.length_append]
      exact (unhide HT).1

  case fin =>
    rintro dd C W7 hdd ⟨mi, hct⟩ hm hnc hK
    have hl7 := hct.1 (w2.heap.size, .cells #[.slice pl X.length kl] 24 (0, 0)) (by simp)
    have hr7 := hct.1 (w.heap.size, .cells #[.bool false] 4 (0, 0)) (by simp)
    have hn7 := hct.1 (w4.heap.size + 1, .cells #[.int .i64 0] 3 (0, 0)) (by simp)
    have nc7 : W7.cell? ⟨w4.heap.size + 1, 0, none⟩ = some (.int .i64 0) := by rw [cell_of_row W7 _ _ _ _ (0, 0) hn7]; rfl
    obtain ⟨q1, q2, q3, q4, q5⟩ := unhide HBS
    have hb7 : Below w6.heap.size w W7 → True := fun _ => trivial
    have hBW7 : Below w.heap.size w W7 := q1.trans (hm.keep.below q1.size (fun k hk => by omega))
    have hs67 := hm.keep.size
    have hdl : dd < W7.heap.size := (Array.getElem?_eq_some_iff.1 hK).1
    have HER7 := hide (hct.2.2.2.2 (.slice pl X.length kl, X) (by simp))
    have HLI7 : Hid (Lies F D (w.alloc (.cells #[.bool false] 4)).heap.size W7) := hide ((unhide HLI5).move hm.keep (fun k hf hk => by
      have h2 := (unhide HLI).lt k hf
      have h3 := (unhide HLI).low k hf
      rw [World.size_alloc] at h3
      have h5 := unhide HW1S
      rcases hk with hk | hk | hk | hk | hk <;> omega))
    have H7 := hide (And.intro hBW7 (And.intro hl7 (And.intro hr7 (And.intro hK (And.intro hs67 (And.intro hdd hdl))))))
    clear hl7 hr7 hn7 q1 q2 q3 q4 q5 hb7 hBW7 hs67 hdl hct hm hnc hK hdd HST
    gi_wp2_with fail
    have hb8 : Below W7.heap.size W7 (W7.alloc (.cells #[.int .i64 1] 3)) := (Below.refl _ _).alloc (Nat.le_refl _) _
    have hn8 : (W7.alloc (.cells #[.int .i64 1] 3)).heap[W7.heap.size]? = some (.cells #[.int .i64 1] 3 (0, 0)) := World.alloc_heap_new W7 (.cells #[.int .i64 1] 3)
    have hs8 : (W7.alloc (.cells #[.int .i64 1] 3)).heap.size = W7.heap.size + 1 := by rw [World.size_alloc]
    obtain ⟨w8, hw8⟩ : ∃ w8, W7.alloc (.cells #[.int .i64 1] 3) = w8 := ⟨_, rfl⟩
    rw [hw8] at hb8 hn8 hs8 ⊢
    clear hw8
    have nc8 : w8.cell? ⟨W7.heap.size, 0, none⟩ = some (.int .i64 1) := by rw [cell_of_row w8 _ _ _ _ (0, 0) hn8]; rfl
    have H8 := hide (And.intro hb8 (And.intro hn8 hs8))
    clear hb8 hn8 hs8
    rw [roundsIn_succ]
    gi_wp2_with fail
    have hb9 : Below w8.heap.size w8 (w8.alloc (.cells #[.int .i64 0] 3)) := (Below.refl _ _).alloc (Nat.le_refl _) _
    have hi9 := World.alloc_heap_new w8 (.cells #[.int .i64 0] 3)
    obtain ⟨w9, hw9⟩ : ∃ w9, w8.alloc (.cells #[.int .i64 0] 3) = w9 := ⟨_, rfl⟩
    have hs9 : w9.heap.size = w8.heap.size + 1 := by rw [← hw9]; simp
    rw [hw9] at hb9 hi9 ⊢
    clear hw9
    obtain ⟨p1, p2, p3, p4, p5, p6, p7⟩ := unhide H7
    obtain ⟨r1, r2, r3⟩ := unhide H8
    obtain ⟨q1, q2, q3, q4, q5⟩ := unhide HBS
    have h79 := r1.trans (hb9.mono r1.size)
    have HST : Hid (CtJ [(w.heap.size, .cells #[.bool false] 4 (0, 0)), (w2.heap.size, .cells #[.slice pl X.length kl] 24 (0, 0)), (W7.heap.size, .cells #[.int .i64 1] 3 (0, 0)), (dd, .deferred (some []))] w8.heap.size [(.slice pl X.length kl, X)] 0 (fun k => k = w.heap.size ∨ k = w2.heap.size ∨ k = W7.heap.size ∨ k = dd ∨ k = w8.heap.size) w9) := by
      refine ⟨fun x hx => ?_, hi9, fun x hx => ?_, fun k => by simp [or_assoc], fun y hy => ?_⟩
      · simp only [List.mem_cons, List.not_mem_nil, or_false] at hx
        rcases hx with rfl | rfl | rfl | rfl
        · exact (h79.block _ (Array.getElem?_eq_some_iff.1 p3).1).trans p3
        · exact (h79.block _ (Array.getElem?_eq_some_iff.1 p2).1).trans p2
        · exact (hb9.block _ (Array.getElem?_eq_some_iff.1 r2).1).trans r2
        · exact (h79.block _ p7).trans p4
      · simp only [List.mem_cons, List.not_mem_nil, or_false] at hx
        rcases hx with rfl | rfl | rfl | rfl
        · show w.heap.size ≠ w8.heap.size; omega
        · show w2.heap.size ≠ w8.heap.size; omega
        · show W7.heap.size ≠ w8.heap.size; omega
        · show dd ≠ w8.heap.size; omega
      · rw [List.mem_singleton.1 hy]
        exact (unhide HER7).below h79
    have HLI9 := hide ((unhide HLI7).below h79)
    have HBS := hide (And.intro (p1.trans (h79.mono p1.size)) (And.intro q2 (And.intro q3 (And.intro (show w4.heap.size + 2 < dd by omega) (And.intro p7 (And.intro r3 hs9))))))
    clear hb9 hi9 hs9 p1 p2 p3 p4 p5 p6 p7 q1 q2 q3 q4 q5 r1 r2 r3 h79
    refine wpIn_seqHR (C0 := (fun k => k = w.heap.size ∨ k = w2.heap.size ∨ k = W7.heap.size ∨ k = dd ∨ k = w8.heap.size)) (unhide HSQ) rfl (fun _ _ => by kernel_rfl) (fun _ _ _ _ _ h => by rw [h]; rfl)
      (fun pre C W => True ∧ CtJ [(w.heap.size, .cells #[.bool false] 4 (0, 0)), (w2.heap.size, .cells #[.slice pl X.length kl] 24 (0, 0)), (W7.heap.size, .cells #[.int .i64 1] 3 (0, 0)), (dd, .deferred (some []))] w8.heap.size [(.slice pl X.length kl, X)] pre.length C W) (fun _ _ _ _ => False) (CtJ.ok _ _ _ _ ((unhide HLOW).from (by have := unhide HBS; omega)) _ _) (fun _ => SOk.none _) ⟨trivial, unhide HST⟩ ?data1 ?apart1 ?round1 ?done1 ?stop1
    case data1 =>
      intro W hb
      exact (unhide HLI9).stays _ _ (fun _ => False) (unhide HLI9).at_ (Keep.of_below hb) (fun _ _ => id)
    case apart1 =>
      intro k hk
      have h1 := (unhide HLI9).lt k hk
      have h2 := (unhide HLI).lt k hk
      have h3 := (unhide HLI).low k hk
      rw [World.size_alloc] at h3
      have h4 := unhide HBS
      have h5 := unhide HW1S
      refine ⟨fun hc => ?_, h1⟩
      rcases hc with hc | hc | hc | hc | hc <;> omega
    case stop1 =>
      rintro dd c pre x rest C W _ _ h
      exact h.elim
    case round1 =>
      rintro l2 pre x rest C W3 WB vs hZ hj3 hm hlt3 hbB hen
      unfold encE at hen
      subst hen
      have hmX : X[pre.length]? = some x := by rw [hZ, List.getElem?_append_right (Nat.le_refl _), Nat.sub_self]; rfl
      have hlen : pre.length < X.length := (List.getElem?_eq_some_iff.1 hmX).1
      have hbn : Below WB.heap.size WB (WB.alloc (.cells #[.string x.1, .int .u64 x.2.1, .int .i64 x.2.2.1, .int .i64 x.2.2.2] 37)) := (Below.refl _ _).alloc (Nat.le_refl _) _
      have hx1 : (WB.alloc (.cells #[.string x.1, .int .u64 x.2.1, .int .i64 x.2.2.1, .int .i64 x.2.2.2] 37)).heap[WB.heap.size]? = some (.cells #[.string x.1, .int .u64 x.2.1, .int .i64 x.2.2.1, .int .i64 x.2.2.2] 37 (0, 0)) := World.alloc_heap_new WB _
      have HI2 := hide (And.intro (And.intro ((hj3.2.below hbB).below hbn) hx1) ((Moves.of_below (F := C) hbB).trans (Moves.of_below hbn)))
      have HSB := hide (Nat.lt_of_lt_of_le hlt3 hbB.size)
      have HNC := hide (show ∀ k, C k → k ≠ WB.heap.size from fun k hc e => absurd (hj3.2.lt k hc) (by have := hbB.size; omega))
      have HMX := hide hmX
      have HLN := hide hlen
      unfold eV
      clear hZ hj3 hm hlt3 hbB hbn hx1 hmX hlen
      gi_wp2
      refine ⟨fun C' Y => CtJ [(w.heap.size, .cells #[.bool false] 4 (0, 0)), (w2.heap.size, .cells #[.slice pl X.length kl] 24 (0, 0)), (W7.heap.size, .cells #[.int .i64 1] 3 (0, 0)), (dd, .deferred (some []))] w8.heap.size [(.slice pl X.length kl, X)] pre.length C' Y ∧ Y.heap[WB.heap.size]? = some (.cells #[.string x.1, .int .u64 x.2.1, .int .i64 x.2.2.1, .int .i64 x.2.2.2] 37 (0, 0)), C, ?put, (unhide HI2).1, (unhide HI2).2, fun W4 hi4 hm4 => ?_⟩
      case put =>
        rintro hn Y o ⟨h1, h2⟩
        have hp := keep_put Y (w9.heap.size + 1) o
        have hs := unhide HBS
        have hb := unhide HSB
        exact ⟨h1.stays hp (fun k hc e => hn (e ▸ hc)) (fun y hy g o c e hp2 e2 => by have := (unhide HLOW) y hy g o c e hp2; omega), (hp.block _ (Array.getElem?_eq_some_iff.1 h2).1 (by omega)).trans h2⟩
      obtain ⟨hct, hxc⟩ := hi4
      obtain ⟨g, o, c', e1, hc1, _, _⟩ := (hct.2.2.2.2 (.slice pl X.length kl, X) (by simp)).seen (by show 0 < X.length; have := unhide HLN; omega)
      simp only [Value.slice.injEq] at e1
      obtain ⟨rfl, _, rfl⟩ := e1
      have HCT := hide hct
      have h5L := hct.1 (w2.heap.size, .cells #[.slice (some ⟨g, o, none⟩) X.length kl] 24 (0, 0)) (by simp)
      have h5N := hct.1 (W7.heap.size, .cells #[.int .i64 1] 3 (0, 0)) (by simp)
      have h5I := hct.2.1
      have h5R := er_at (hct.2.2.2.2 (.slice (some ⟨g, o, none⟩) X.length kl, X) (by simp)) (unhide HMX)
      obtain ⟨CC, hCC⟩ : ∃ CC : World → Prop, CC = fun w' => Below W4.heap.size W4 w' := ⟨_, rfl⟩
      have HCC : Hid (∀ w', CC w' → w'.cell? ⟨w2.heap.size, 0, none⟩ = some (.slice (some ⟨g, o, none⟩) X.length kl) ∧ w'.cell? ⟨w8.heap.size, 0, none⟩ = some (.int .i64 (pre.length : Int)) ∧ w'.frozen? ⟨w8.heap.size, 0, none⟩ = false ∧ (w'.cell? ⟨WB.heap.size, 0, none⟩ = some (.string x.1) ∧ w'.cell? ⟨WB.heap.size, 1, none⟩ = some (.int .u64 x.2.1) ∧ w'.cell? ⟨WB.heap.size, 2, none⟩ = some (.int .i64 x.2.2.1) ∧ w'.cell? ⟨WB.heap.size, 3, none⟩ = some (.int .i64 x.2.2.2)) ∧ (w'.cell? ⟨g, o + pre.length * 4, none⟩ = some (.string x.1) ∧ w'.cell? ⟨g, o + pre.length * 4 + 1, none⟩ = some (.int .u64 x.2.1) ∧ w'.cell? ⟨g, o + pre.length * 4 + 2, none⟩ = some (.int .i64 x.2.2.1) ∧ w'.cell? ⟨g, o + pre.length * 4 + 3, none⟩ = some (.int .i64 x.2.2.2))) := by
        unfold Hid
        rw [hCC]
        intro w' hw
        have q1 := (hw.block _ (Array.getElem?_eq_some_iff.1 h5L).1).trans h5L
        have q2 := (hw.block _ (Array.getElem?_eq_some_iff.1 h5I).1).trans h5I
        have q3 := (hw.block _ (Array.getElem?_eq_some_iff.1 hxc).1).trans hxc
        obtain ⟨x0, x1, x2, x3, _⟩ := ecells q3
        exact ⟨by rw [cell_of_row w' _ _ _ _ (0, 0) q1]; rfl, by rw [cell_of_row w' _ _ _ _ (0, 0) q2]; rfl, frozen_of_block q2, ⟨x0, x1, x2, x3⟩, h5R w' hw⟩
      have HC0 : Hid (CC { W4 with drawn := W4.drawn + 1 }) := by unfold Hid; rw [hCC]; exact (Below.refl _ W4).drew
      have HCW : Hid (∀ w', CC w' → Below W4.heap.size W4 w') := by unfold Hid; rw [hCC]; exact fun w' hw => hw
      have hlI : (pre.length : Int) < (X.length : Int) := by have := unhide HLN; omega
      have hlI2 : ¬ (X.length : Int) ≤ (pre.length : Int) := by omega
      have hlN : ¬ X.length ≤ pre.length := by omega
      have hnw : IntKind.i64.wrap ((pre.length : Int) + 1) = (pre.length : Int) + 1 := by have := unhide HML; rw [IntKind.wrap_i64]; omega
      clear hCC h5L h5I h5N h5R hct hxc hm4 HI2
      gi_wp2_with fail
      refine region_calmW CC (by kernel_rfl) (by kernel_rfl) (by simp) (unhide HC0) ?_
      repeat (first
        | go_big_quiet_skip
        | (go_big_quiet_want
           apply Exists.intro
           refine ⟨fun w' hw' => ?_, ?_⟩
           · obtain ⟨d0, d1, _, ⟨d3, d4, d5, d6⟩, d7, d8, d9, d10⟩ := unhide HCC w' hw'
             go_simp
             first | done | rfl
           simp only [Act.put, List.setIfInBounds_toArray, List.set_cons_zero, List.set_cons_succ]
           go_big_quiet_on))
      refine wpQuiet_nil ?_
      intro W6 hw6
      obtain ⟨_, d1, d1f, _⟩ := unhide HCC W6 hw6
      have HB6 := hide (unhide HCW W6 hw6)
      have ht := ((unhide HCT).below (unhide HB6)).tick (fun v hv gg oo cc e hp2 => by have := unhide HLOW v hv gg oo cc e hp2; have := unhide HBS; omega)
      have i7 : (W6.setCell ⟨w8.heap.size, 0, none⟩ (.int .i64 ((pre.length : Int) + 1))).cell? ⟨w8.heap.size, 0, none⟩ = some (.int .i64 ((pre.length : Int) + 1)) := by rw [cell_of_row _ _ _ _ _ (0, 0) ht.1.2.1, Int.natCast_add]; rfl
      have n7 : (W6.setCell ⟨w8.heap.size, 0, none⟩ (.int .i64 ((pre.length : Int) + 1))).cell? ⟨W7.heap.size, 0, none⟩ = some (.int .i64 1) := by rw [cell_of_row _ _ _ _ _ (0, 0) (ht.1.1 (W7.heap.size, .cells #[.int .i64 1] 3 (0, 0)) (by simp))]; rfl
      have HT := hide ht
      clear hw6 HCC HC0 HCW ht
      gi_wp2_with fail
      refine ⟨C, ⟨trivial, ?_⟩, (Moves.of_below (unhide HB6)).trans (unhide HT).2⟩
      rw [List.length_append]
      exact (unhide HT).1

    case done1 =>
      rintro dd2 C2 W10 hdd2 ⟨_, hct2⟩ hm2 hnc2 hK2
      have hl10 := hct2.1 (w2.heap.size, .cells #[.slice pl X.length kl] 24 (0, 0)) (by simp)
      have hr10 := hct2.1 (w.heap.size, .cells #[.bool false] 4 (0, 0)) (by simp)
      have hn10 := hct2.1 (W7.heap.size, .cells #[.int .i64 1] 3 (0, 0)) (by simp)
      have hd10 := hct2.1 (dd, .deferred (some [])) (by simp)
      have hi10 := hct2.2.1
      have lc10 : W10.cell? ⟨w2.heap.size, 0, none⟩ = some (.slice pl X.length kl) := by rw [cell_of_row W10 _ _ _ _ (0, 0) hl10]; rfl
      have ic10 : W10.cell? ⟨w8.heap.size, 0, none⟩ = some (.int .i64 (X.length : Int)) := by rw [cell_of_row W10 _ _ _ _ (0, 0) hi10]; rfl
      have nc10 : W10.cell? ⟨W7.heap.size, 0, none⟩ = some (.int .i64 1) := by rw [cell_of_row W10 _ _ _ _ (0, 0) hn10]; rfl
      have HE := hide (And.intro hm2 (And.intro hnc2 (And.intro hdd2 (And.intro hK2 (And.intro hd10 hr10)))))
      clear hct2 hl10 hr10 hn10 hd10 hi10 hm2 hnc2 hK2 hdd2
      gi_wp2_with fail
      have hb11 : Below W10.heap.size W10 (W10.alloc (.cells #[.int .i64 2] 3)) := (Below.refl _ _).alloc (Nat.le_refl _) _
      have hn11 := World.alloc_heap_new W10 (.cells #[.int .i64 2] 3)
      obtain ⟨W11, hw11⟩ : ∃ W11, W10.alloc (.cells #[.int .i64 2] 3) = W11 := ⟨_, rfl⟩
      rw [hw11] at hb11 hn11 ⊢
      clear hw11
      obtain ⟨hm2, hnc2, hdd2, hK2, hd10, hr10⟩ := unhide HE
      have hr11 := (hb11.block _ (Array.getElem?_eq_some_iff.1 hr10).1).trans hr10
      have nc11 : W11.cell? ⟨W10.heap.size, 0, none⟩ = some (.int .i64 2) := by rw [cell_of_row W11 _ _ _ _ (0, 0) hn11]; rfl
      have rc11 : W11.cell? ⟨w.heap.size, 0, none⟩ = some (.bool false) := by rw [cell_of_row W11 _ _ _ _ (0, 0) hr11]; rfl
      have rf11 : W11.frozen? ⟨w.heap.size, 0, none⟩ = false := frozen_of_block hr11
      have HF := hide (And.intro hb11 (And.intro hr11 (And.intro ((hb11.block _ (Array.getElem?_eq_some_iff.1 hK2).1).trans hK2) ((hb11.block _ (Array.getElem?_eq_some_iff.1 hd10).1).trans hd10))))
      clear hb11 hn11 hr11 hm2 hnc2 hdd2 hK2 hd10 hr10
      rw [roundsIn_succ]
      gi_wp2_with fail
      obtain ⟨hb11, hr11, hk11, hd11⟩ := unhide HF
      obtain ⟨hm2, hnc2, hdd2, hK2, hd10, hr10⟩ := unhide HE
      have hbs := unhide HBS
      have hne2 : dd2 ≠ w.heap.size := by have := hbs.1.size; omega
      have hne1 : dd ≠ w.heap.size := by omega
      have hne3 : dd ≠ dd2 := by omega
      have hK9 : (W11.setCell ⟨w.heap.size, 0, none⟩ (.bool true)).heap[dd2]? = some (.deferred (some [])) := (heap_setCell_other W11 ⟨w.heap.size, 0, none⟩ dd2 _ (fun e => hne2 (by simpa using e))).trans hk11
      have hD9 : ((W11.setCell ⟨w.heap.size, 0, none⟩ (.bool true)).putObj dd2 (.deferred none)).heap[dd]? = some (.deferred (some [])) := (World.putObj_heap_other (by omega)).trans ((heap_setCell_other W11 ⟨w.heap.size, 0, none⟩ dd _ (fun e => hne1 (by simpa using e))).trans hd11)
      have hR9 := heap_setCell_same W11 w.heap.size 0 _ _ (.bool true) hr11
      have hR10 : (((W11.setCell ⟨w.heap.size, 0, none⟩ (.bool true)).putObj dd2 (.deferred none)).putObj dd (.deferred none)).heap[w.heap.size]? = some (.cells #[.bool true] 4 (0, 0)) := (World.putObj_heap_other (by omega)).trans ((World.putObj_heap_other (by omega)).trans hR9)
      have c10 : (((W11.setCell ⟨w.heap.size, 0, none⟩ (.bool true)).putObj dd2 (.deferred none)).putObj dd (.deferred none)).cell? ⟨w.heap.size, 0, none⟩ = some (.bool true) := by rw [cell_of_row _ w.heap.size _ _ _ (0, 0) hR10]; rfl
      refine ⟨by simp, .inl ⟨_, _, rfl, run_takeDeferred hK9, ?_⟩⟩
      refine ⟨by simp, .inl ⟨_, _, rfl, run_takeDeferred hD9, ?_⟩⟩
      refine ⟨.bool true, ?_, rfl, ?_⟩
      · simp [results, Try.results8, go_sem, c10]
      · have hbw10 : Below w.heap.size w W10 := hbs.1.trans (hm2.keep.below hbs.1.size (fun k hk => by omega))
        have hbw11 := hbw10.trans (hb11.mono hbw10.size)
        have hbset : Below w.heap.size w (W11.setCell ⟨w.heap.size, 0, none⟩ (.bool true)) := hbw11.setCell (Nat.le_refl _) _
        have hp2 := keep_put (W11.setCell ⟨w.heap.size, 0, none⟩ (.bool true)) dd2 (.deferred none)
        have hb2 := hbset.trans (hp2.below hbset.size (fun k e => by have := hbs.1.size; omega))
        have hp1 := keep_put ((W11.setCell ⟨w.heap.size, 0, none⟩ (.bool true)).putObj dd2 (.deferred none)) dd (.deferred none)
        exact hb2.trans (hp1.below hb2.size (fun k e => by omega))
end Go.Proofs.Ytcjepiihknjeiaa.QH
namespace Go.Proofs.Ytcjepiihknjeiaa
open Go.RowKit QH
theorem walk_MergeLeft (s0 : Value) (d0 : Dt) (a1 : Int) (_w1 : (Lit.int .i64 a1).wf = true) (w : World) (h0 : Reads limUpto w (.row 24 (.row 40 enSh)) [s0] d0) :
    Calls Try.prog 8 #[s0, .int .i64 a1] w fun e w' => e = .returned (.bool true) ∧ Below w.heap.size w w' := by
  obtain ⟨LL, e0, h1, l0⟩ := lr_of_reads h0
  have h2 := upto_tot h1 l0
  exact mleft_any s0 LL a1 w e0 h2.2 h2.1 _w1
end Go.Proofs.Ytcjepiihknjeiaa
