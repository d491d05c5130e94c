/- Texts of ours, one behind the other: MkMem, CelRef, CelRef2, CelRefAt. -/
import Derived.Test.YtlbhhdldeaehkaaG3
import Derived.Test.YtlbhhdldeaehkaaG4
import Derived.Test.YtlbhhdldeaehkaaG5
import Derived.Test.YtlbhhdldeaehkaaG10
import Derived.Test.YtlbhhdldeaehkaaG11
import Derived.Test.YtlbhhdldeaehkaaG13
/- The landed package mark: what a walk keeps in memory; pointers, next, meet. -/
namespace Go.Proofs.Ytlbhhdldeaehkaa
open Go.RowKit

theorem ownsV_take {w : World} {base e n c k : Nat} {p : Option Addr} {xs : List Value} (h : w.ownsRow base e 1 (.slice p n c) n xs) (hk : k ≤ n) : w.ownsRow base e 1 (.slice p k c) k (xs.take k) := by
  obtain ⟨h1, h2⟩ := h
  refine ⟨by rw [List.length_take]; omega, ?_⟩
  rcases h2 with ⟨e1, e2⟩ | ⟨g, cap, cur, e1, a1, a2, a3, a4, a5, a6⟩
  · simp only [Value.slice.injEq] at e1
    obtain ⟨rfl, _, rfl⟩ := e1
    exact Or.inl ⟨by rw [show k = 0 by omega], by omega⟩
  · simp only [Value.slice.injEq] at e1
    obtain ⟨rfl, _, rfl⟩ := e1
    refine Or.inr ⟨g, c, cur, rfl, a1, a2, by omega, a4, a5, ?_⟩
    rw [← a6, List.take_take]
    congr 1
    omega

/-- The sizes of what was met, by places. -/
def szM (ws S : List Int) (x : Int) : Option Value := if x ∈ S then some (.int .i64 (wd ws x.toNat / 4096)) else none
/-- A walk in memory: words v, the map b of what was met (S), the row of what is open (O). -/
structure WAt (w : World) (base g : Nat) (v : Value) (ws : List Int) (b : Nat) (ov : Value) (S O : List Int) : Prop where
  blk : w.heap[g]? = some (.cells #[v, .map (some b), ov] 115 (0, 0))
  map : MapIs Try.prog 3 w b S.length (szM ws S)
  own : w.ownsRow base 3 1 ov O.length (Iw O)
  gb : base ≤ g
  bb : base ≤ b
  og : ov.ownBlock ≠ some g
theorem WAt.isMap {w : World} {base g b : Nat} {v ov : Value} {ws S O : List Int} (h : WAt w base g v ws b ov S O) : ∃ es c, w.heap[b]? = some (.map es c) := by
  obtain ⟨D, ⟨es, clock, h1, h2⟩, h3⟩ := h.map
  exact ⟨es, clock, h1⟩
theorem WAt.gm {w : World} {base g b : Nat} {v ov : Value} {ws S O : List Int} (h : WAt w base g v ws b ov S O) : g ≠ b := fun e => by
  obtain ⟨es, c, h1⟩ := h.isMap
  rw [← e, h.blk] at h1
  cases h1
theorem WAt.om {w : World} {base g b : Nat} {v ov : Value} {ws S O : List Int} (h : WAt w base g v ws b ov S O) : ov.ownBlock ≠ some b := fun e => by
  obtain ⟨es, c, h1⟩ := h.isMap
  rcases h.own.2 with ⟨h2, _⟩ | ⟨g', cap, cur, h2, a1, a2, _⟩
  · rw [h2] at e; cases e
  · rw [h2] at e
    simp only [Value.ownBlock, Option.some.injEq] at e
    rw [e, h1] at a2
    cases a2
theorem WAt.drew {w : World} {base g b : Nat} {v ov : Value} {ws S O : List Int} (h : WAt w base g v ws b ov S O) : WAt w.drew base g v ws b ov S O :=
  ⟨h.blk, h.map.stays rfl, h.own, h.gb, h.bb, h.og⟩

set_option maxRecDepth 20000 in
set_option maxHeartbeats 2000000 in
theorem mpointers_any (w0 w : World) (g b : Nat) (v ov : Value) (ws S O : List Int) (a : Int) (h : WAt w w0.heap.size g v ws b ov S O) (hv : VRow w0 v (Uw ws)) (hb : Below w0.heap.size w0 w) (hU : U32 ws) (hl : ws.length ≤ 1048576) (ha : isOb ws a) :
    Calls Try.prog 70 #[.pointer (some ⟨g, 0, none⟩), .int .i64 a] w fun e w' => (∃ q c, e = .returned (.slice q (ptsA ws a).length c) ∧ VRow w0 (.slice q (ptsA ws a).length c) (Uw (ptsA ws a)) ∧ ∀ k, (Value.slice q (ptsA ws a).length c).ownBlock = some k → v.ownBlock = some k) ∧ ∃ n, w' = w.drewN n := by
  obtain ⟨s1, s2, s3, s4⟩ := isOb_size ha
  obtain ⟨p, hp⟩ : ∃ p : Nat, (p : Int) = a := ⟨_, s4⟩
  subst hp
  simp only [Int.toNat_natCast] at s1 s2 s3
  obtain ⟨c0, c1, c2, hfz⟩ := three_cells h.blk
  obtain ⟨pv, cv, rfl, g1, g2, g3⟩ := hv.shape
  rw [List.length_map] at *
  obtain ⟨q, c', HCUT, HROW, HOB⟩ := hv.cut_lh (t := 30) Try.underlying30 Try.sizeU32 (p + 1) (ptN (wd ws p)) (by rw [List.length_map]; omega)
  obtain ⟨bk, off, cz, e0, k1, k2, hcl⟩ := hv.open (by intro e; have := congrArg List.length e; simp at this; rw [this] at s3; simp at s3)
  simp only [Value.slice.injEq, List.length_map] at e0
  obtain ⟨rfl, e1, rfl⟩ := e0
  have hc0 := hcl p _ (by rw [List.getElem?_map, wd_get s3]; rfl)
  have hc := fun W (hW : Below w.heap.size w W) => ((hb.trans (hW.mono hb.size)).cell (World.block_lt_of_cell? w0 _ hc0)).trans hc0
  obtain ⟨u0, u1⟩ := hU.wd p
  have f2 := ptN_int (wd ws p)
  have HPT := hide (fun w => cptrs_t (wd ws p) w u0 u1)
  have hL := ptsA_len ha
  rw [Int.toNat_natCast] at hL
  have hcw := hc w (Below.refl _ _)
  have h1 : IntKind.i64.wrap ((p : Int) + 1) = (p : Int) + 1 := by rw [IntKind.wrap_i64]; omega
  have h2 : IntKind.i64.wrap ((p : Int) + 1 + wd ws p / 16 % 256) = (p : Int) + 1 + wd ws p / 16 % 256 := by rw [IntKind.wrap_i64]; omega
  have h3 : (p : Int) < (ws.length : Int) := by omega
  have hcut2 : ∀ W, (Instr.slice 30 (.slice (some ⟨bk, off, none⟩) ws.length cv) (some (.int .i64 ((p : Int) + 1))) (some (.int .i64 ((p : Int) + 1 + wd ws p / 16 % 256))) none).run Try.prog W = .ok (.slice q (ptN (wd ws p)) c') W := fun W => by
    have := HCUT W
    rw [← f2]
    simpa using this
  have hmx : Try.prog.follows .mixedOrders = true := by kernel_rfl
  have HE := hide (show ((Uw ws).drop (p + 1)).take (ptN (wd ws p)) = Uw (ptsA ws (p : Int)) by
    unfold ptsA ptrsO
    simp [Uw, List.map_drop, List.map_take])
  have HRW := hide HROW
  have HO := hide HOB
  have HLL := hide hL
  generalize wd ws p = x at *
  generalize hpn : ptN x = m at *
  clear HROW HOB hL HCUT e1 hcl hc hc0 hv hb h hU g1 g2 g3 k1 k2 f2 s1 s2 s3 s4 ha hl
  go_enter Try.func70, Try.ntmps70
  go_wp2_with fail
  refine wp_region_still_lit hmx (by kernel_rfl) ?_
  repeat (first | still_step | still_call (unhide HPT _))
  refine wpStill_nil ?_
  go_wp2_with fail
  go_ret
  have e1 := unhide HLL
  have e2 := unhide HRW
  rw [unhide HE] at e2
  rw [e1]
  exact ⟨⟨q, c', rfl, e2, unhide HO⟩, 1, rfl⟩

/-- The variable of a walk gets another row. -/
theorem wat_put {w : World} {base g b : Nat} {v ov ov' : Value} {ws S O' : List Int} (hblk : w.heap[g]? = some (.cells #[v, .map (some b), ov] 115 (0, 0))) (hmap : MapIs Try.prog 3 w b S.length (szM ws S)) (hgm : g ≠ b) (hgb : base ≤ g) (hbb : base ≤ b)
    (hown : w.ownsRow base 3 1 ov' O'.length (Iw O')) (hog : ov'.ownBlock ≠ some g) :
    WAt (w.setCell ⟨g, 2, none⟩ ov') base g v ws b ov' S O' ∧ Below base w (w.setCell ⟨g, 2, none⟩ ov') := by
  have hK := keep_set w g 2 ov'
  have b1 := heap_setCell_same w g 2 _ _ ov' hblk
  refine ⟨⟨by rw [b1]; rfl, hmap.stays (hK.block b hmap.lt (fun e => hgm e.symm)), ownsV_keep hown hK (fun k hk e => hog (e ▸ hk)), hgb, hbb, hog⟩, hK.os, hK.tape, hK.output, hK.size, fun k hk => ?_⟩
  exact heap_setCell_other w ⟨g, 2, none⟩ k _ (fun e => by dsimp only at e; omega)
theorem WAt.setO {w : World} {base g b : Nat} {v ov ov' : Value} {ws S O O' : List Int} (h : WAt w base g v ws b ov S O) (hown : w.ownsRow base 3 1 ov' O'.length (Iw O')) (hog : ov'.ownBlock ≠ some g) :
    WAt (w.setCell ⟨g, 2, none⟩ ov') base g v ws b ov' S O' ∧ Below base w (w.setCell ⟨g, 2, none⟩ ov') :=
  wat_put h.blk h.map h.gm h.gb h.bb hown hog
/-- One more that is open: laid aside first, then appended, and stored. -/
theorem WAt.push {w w2 : World} {base g b : Nat} {v ov ov' : Value} {ws S O : List Int} {a : Int} (h : WAt w base g v ws b ov S O) (hbw : base ≤ w.heap.size) (hown : w2.ownsRow base 3 1 ov' (O.length + 1) (Iw O ++ [.int .i64 a])) (hg : (w.alloc (.cells #[.int .i64 a] 3)).grownBy w2 ov.ownBlock)
    (hob : ov'.ownBlock = ov.ownBlock ∨ ov'.ownBlock = some (w.heap.size + 1)) :
    WAt (w2.setCell ⟨g, 2, none⟩ ov') base g v ws b ov' S (O ++ [a]) ∧ Below base w (w2.setCell ⟨g, 2, none⟩ ov') := by
  have hgl : g < w.heap.size := (Array.getElem?_eq_some_iff.1 h.blk).1
  have hbl := h.map.lt
  have hkeep : ∀ k, k < w.heap.size → ov.ownBlock ≠ some k → w2.heap[k]? = w.heap[k]? := fun k hk hn =>
    (hg.block k (by rw [World.size_alloc]; omega) (fun e => hn e.symm)).trans (Below.heap_alloc _ _ k hk)
  obtain ⟨r1, r2⟩ := wat_put (w := w2) (S := S) (O' := O ++ [a]) (ws := ws) ((hkeep g hgl h.og).trans h.blk) (h.map.stays (hkeep b hbl h.om)) h.gm h.gb h.bb (ov' := ov') (by simpa using hown) (by
    rcases hob with e | e
    · rw [e]; exact h.og
    · rw [e]; intro e2; simp only [Option.some.injEq] at e2; omega)
  refine ⟨r1, Below.trans ⟨hg.os, hg.tape, hg.output, ?_, fun k hk => hkeep k (by omega) (fun e => ?_)⟩ r2⟩
  · have := hg.size; rw [World.size_alloc] at this; omega
  · have := (h.own.lt k e).1; omega
theorem Try.sizeI64o : (Try.prog.info? 3).map (·.size) = some 1 := by kernel_rfl
theorem wf_i64 {n : Int} (h1 : -9223372036854775808 ≤ n) (h2 : n ≤ 9223372036854775807) : (Lit.int .i64 n).wf = true := by
  simp [Lit.wf, IntKind.min, IntKind.max, IntKind.signed, IntKind.bits]
  omega
/-- The first ones of a row, in its own block. -/
theorem slice_h_own {P : Program} {t e : TypeId} (ht : P.underlying t = some (.slice e)) (hsz : (P.info? e).map (·.size) = some 1) (g n c k : Nat) (hk : k ≤ n) (hn : n ≤ c) (hc : 0 < c) (W : World) :
    (Instr.slice t (.slice (some ⟨g, 0, none⟩) n c) none (some (.int .i64 (k : Int))) none).run P W = .ok (.slice (some ⟨g, 0, none⟩) k c) W := by
  have := run_slice_h (P := P) W t (some ⟨g, 0, none⟩) n c (by rw [elemV_of ht]; exact ht) .i64 (k : Int) (by omega) (by omega)
  rw [this, sizeV_run hsz ht]
  simp only [Result.andThen_ok, Int.toNat_natCast]
  unfold sliced
  rw [if_neg (by omega)]
  simp [Addr.add_lit]

set_option maxRecDepth 20000 in
set_option maxHeartbeats 2000000 in
theorem mnext_any (w : World) (base g b : Nat) (v ov : Value) (ws S O : List Int) (a : Int) (h : WAt w base g v ws b ov S (O ++ [a])) (hl : O.length < 1048576) :
    Calls Try.prog 71 #[.pointer (some ⟨g, 0, none⟩)] w fun e w' => e = .returned (.int .i64 a) ∧ ∃ ov', WAt w' base g v ws b ov' S O ∧ Below base w w' := by
  obtain ⟨c0, c1, c2, hfz⟩ := three_cells h.blk
  have hf2 := hfz 2
  have hown := h.own
  have hlen : (O ++ [a]).length = O.length + 1 := by simp
  rw [hlen] at hown
  have hVR := vrow_of_owns (vs := Iw (O ++ [a])) (s := ov) (by simpa using hown)
  have hog := h.og
  have HH := hide h
  rcases hown.2 with ⟨_, h0⟩ | ⟨ob, co, cur, rfl, a1, a2, a3, a4, a5, a6⟩
  · omega
  have htk := ownsV_take hown (k := O.length) (by omega)
  have HO := hide (show w.ownsRow base 3 1 (.slice (some ⟨ob, 0, none⟩) O.length co) O.length (Iw O) by simpa using htk)
  have hcut := fun W => slice_h_own (P := Try.prog) (t := 33) Try.underlying33 Try.sizeI64o ob (O.length + 1) co O.length (by omega) a3 (by omega) W
  obtain ⟨bk, off, cz, e0, k1, k2, hcl⟩ := hVR.open (by simp)
  simp only [Value.slice.injEq, Option.some.injEq, Addr.mk.injEq] at e0
  obtain ⟨⟨rfl, rfl, _⟩, e1, rfl⟩ := e0
  have hc0 := hcl O.length (.int .i64 a) (by simp)
  simp only [Nat.zero_add] at hc0
  have hsub : wrap64 (O.length : Int) = (O.length : Int) := by unfold wrap64; omega
  have HS := hide (h.setO (unhide HO) hog)
  clear htk hVR hown a1 a2 a3 a4 a5 a6 k1 k2 e1 hcl hl HO h hog hlen
  go_enter Try.func71, Try.ntmps71
  go_wp2_with fail
  go_ret
  exact ⟨rfl, _, unhide HS⟩

theorem szM_snoc (ws S : List Int) (a : Int) : (fun x => if x = a then some (.int .i64 (wd ws a.toNat / 4096)) else szM ws S x) = szM ws (S ++ [a]) := by
  funext x
  unfold szM
  by_cases h : x = a
  · subst h; simp
  · rw [if_neg h]
    simp [h]

set_option maxRecDepth 20000 in
set_option maxHeartbeats 2000000 in
theorem mmeet_any (w0 w : World) (g b : Nat) (v ov : Value) (ws S O : List Int) (a : Int) (h : WAt w w0.heap.size g v ws b ov S O) (hv : VRow w0 v (Uw ws)) (hb : Below w0.heap.size w0 w) (hU : U32 ws) (hl : ws.length ≤ 1048576) (ha : a = 0 ∨ isOb ws a) (hS : S.length ≤ 1048576) (hO : O.length ≤ S.length) :
    Calls Try.prog 69 #[.pointer (some ⟨g, 0, none⟩), .int .i64 a] w fun e w' => e = .returned (.tuple #[]) ∧ ∃ ov', WAt w' w0.heap.size g v ws b ov' (metS S a) (metO S O a) ∧ Below w0.heap.size w w' := by
  obtain ⟨c0, c1, c2, hfz⟩ := three_cells h.blk
  have hf2 := hfz 2
  have hwf : (Lit.int .i64 a).wf = true := wf_i64 (by rcases ha with h | h; omega; have := h.1; omega) (by rcases ha with h | h; omega; have := h.2.1; omega)
  have hlk := h.map.look (P := Try.prog) (k := 3) (t := 82) (e := 3) Try.underlying3 Try.underlying82 (z := .int .i64 0) rfl a hwf
  by_cases hc : a = 0 ∨ a ∈ S
  · unfold metS metO
    rw [if_pos hc, if_pos hc]
    have HW := hide h
    by_cases hs : a ∈ S
    · have e1 : szM ws S a = some (.int .i64 (wd ws a.toNat / 4096)) := by unfold szM; rw [if_pos hs]
      rw [e1] at hlk
      simp only [Option.getD_some, Option.isSome_some] at hlk
      clear hc hs e1 hS hO hl hU hv hb ha hwf h
      go_enter Try.func69, Try.ntmps69
      go_wp2_with fail
      (try simp only [Exit.inBlock, Exit.then])
      refine bodyPost_ret (results_none rfl _ _ _) rfl ?_
      exact ⟨rfl, _, unhide HW, Below.refl _ _⟩
    · have e1 : szM ws S a = none := by unfold szM; rw [if_neg hs]
      have h0 : a = 0 := hc.resolve_right hs
      subst h0
      rw [e1] at hlk
      simp only [Option.getD_none, Option.isSome_none] at hlk
      clear hc hs e1 hS hO hl hU hv hb ha hwf h
      go_enter Try.func69, Try.ntmps69
      go_wp2_with fail
      (try simp only [Exit.inBlock, Exit.then])
      refine bodyPost_ret (results_none rfl _ _ _) rfl ?_
      exact ⟨rfl, _, unhide HW, Below.refl _ _⟩
  · unfold metS metO
    rw [if_neg hc, if_neg hc]
    have h0 : ¬ a = 0 := fun e => hc (Or.inl e)
    have hs : a ∉ S := fun e => hc (Or.inr e)
    have ha := ha.resolve_left h0
    obtain ⟨s1, s2, s3, s4⟩ := isOb_size ha
    obtain ⟨p, hp⟩ : ∃ p : Nat, (p : Int) = a := ⟨_, s4⟩
    subst hp
    have e1 : szM ws S (p : Int) = none := by unfold szM; rw [if_neg hs]
    rw [e1] at hlk
    simp only [Option.getD_none, Option.isSome_none] at hlk
    simp only [Int.toNat_natCast] at s1 s2 s3
    obtain ⟨pv, cv, rfl, g1, g2, g3⟩ := hv.shape
    rw [List.length_map] at *
    obtain ⟨bk, off, cz, e0, k1, k2, hcl⟩ := hv.open (by intro e; have := congrArg List.length e; simp at this; rw [this] at s3; simp at s3)
    simp only [Value.slice.injEq, List.length_map] at e0
    obtain ⟨rfl, e9, rfl⟩ := e0
    have hc0 := hcl p _ (by rw [List.getElem?_map, wd_get s3]; rfl)
    have hcw := (hb.cell (World.block_lt_of_cell? w0 _ hc0)).trans hc0
    obtain ⟨u0, u1⟩ := hU.wd p
    have HSZ := hide (fun w => csize_t (wd ws p) w u0 u1)
    obtain ⟨i0, hi, hz0, hz1, hz2⟩ := info_parts Try.infoI64
    obtain ⟨w5, hrun5, hM5, hg5⟩ := (h.map.stays (w' := w.drew) rfl).put (t := 82) (e := 3) Try.underlying3 Try.underlying82 (by unfold maxLen; omega) (p : Int) hwf (.int .i64 (wd ws p / 4096))
    have hgl : g < w.heap.size := (Array.getElem?_eq_some_iff.1 h.blk).1
    have hblk5 := (hg5.block g hgl (fun e => h.gm (Option.some.inj e))).trans h.drew.blk
    have hown5 : w5.ownsRow w0.heap.size 3 1 ov O.length (Iw O) := ownsV_keep (F := fun k => k = b) h.own ⟨hg5.os, hg5.tape, hg5.output, hg5.size, fun k hk hn => hg5.block k hk (fun e => hn (Option.some.inj e))⟩ (fun k hk e => h.om (e ▸ hk))
    have hM6 : MapIs Try.prog 3 w5 b (S ++ [(p : Int)]).length (szM ws (S ++ [(p : Int)])) := by
      have := szM_snoc ws S (p : Int)
      rw [Int.toNat_natCast] at this
      rw [← this, List.length_append, List.length_singleton]
      exact hM5
    have hW5 : WAt w5 w0.heap.size g (.slice (some ⟨bk, off, none⟩) ws.length cv) ws b ov (S ++ [(p : Int)]) O := ⟨hblk5, hM6, hown5, h.gb, h.bb, h.og⟩
    have hB5 : Below w0.heap.size w w5 := ⟨hg5.os, hg5.tape, hg5.output, hg5.size, fun k hk => hg5.block k (Nat.lt_of_lt_of_le hk hb.size) (fun e => by have := h.bb; have := Option.some.inj e; omega)⟩
    obtain ⟨d0, d1, d2, hfz5⟩ := three_cells hblk5
    have hf52 := hfz5 2
    have HJ := hide (And.intro hW5 (And.intro hB5 (And.intro hS hO)))
    have HBB := hide hb
    have hmx : Try.prog.follows .mixedOrders = true := by kernel_rfl
    have hpI : (p : Int) < (ws.length : Int) := by omega
    have hpn : ((p : Int) == 0) = false := by simpa using h0
    obtain ⟨po, co, rfl⟩ := ownsV_shape hown5
    have HJ5 := hide (Nat.le_trans hb.size hg5.size)
    have HOW := hide (show (w5.alloc (.cells #[.int .i64 (p : Int)] 3)).ownsRow w0.heap.size 3 1 (.slice po O.length co) O.length (Iw O) from ownsV_keep (F := fun _ => False) hown5 (Keep.of_below ((Below.refl _ _).alloc (Nat.le_refl _) _)) (fun _ _ => id))
    have HNW := hide (show ∀ (j : Nat) (u : Value), [Value.int .i64 (p : Int)][j]? = some u → (w5.alloc (.cells #[.int .i64 (p : Int)] 3)).cell? ((⟨w5.heap.size, 0, none⟩ : Addr).add j) = some u from fun j u hj => by match j, hj with | 0, hj => (simp at hj; subst hj; simp [Addr.add]))
    have HL1 := hide (show O.length + 1 ≤ maxLen by unfold maxLen; omega)
    have HL2 := hide (show (O.length + 1) * 8 ≤ 140737488355328 by omega)
    have HL3 := hide (show w0.heap.size ≤ (w5.alloc (.cells #[.int .i64 (p : Int)] 3)).heap.size by rw [World.size_alloc]; have := unhide HJ5; omega)
    have hdw : w.drew.heap.size = w.heap.size := rfl
    have hs5 := hg5.size
    rw [hdw] at hs5
    have HK2 := hide (fun w2 (hg : (w5.alloc (.cells #[.int .i64 (p : Int)] 3)).grownBy w2 (Value.slice po O.length co).ownBlock) => (show w2.heap[g]? = some (.cells #[.slice (some ⟨bk, off, none⟩) ws.length cv, .map (some b), .slice po O.length co] 115 (0, 0)) from
      (hg.block g (by rw [World.size_alloc]; omega) (fun e => h.og e.symm)).trans ((Below.heap_alloc _ _ g (by omega)).trans hblk5)))
    generalize wd ws p = x at *
    clear hc hs e1 hS hO hl hU hv hb ha hwf h s1 s2 s3 s4 g1 g2 g3 k1 k2 hcl hc0 hM5 hg5 hgl hblk5 hown5 hM6 hW5 hB5 e9 hfz5 hs5 hdw
    go_enter Try.func69, Try.ntmps69
    go_wp2_with fail
    refine wp_region_still_tail 13 hmx (by kernel_rfl) ?_
    simp only [List.take_succ_cons, List.take_zero, List.drop_succ_cons, List.drop_zero]
    repeat (first | still_step | still_call (unhide HSZ _))
    refine wpStill_nil ?_
    go_wp2_with (first
      | (at_builtin; refine wpList_append_gen rfl _ _ 33 rfl w0.heap.size 3 i0 (.int .i64 0) Try.underlying33 hi hz0 1 8 (by omega) hz1 hz2 rfl (.slice po O.length co) O.length (Iw O) rfl (unhide HOW) ⟨w5.heap.size, 0, none⟩ 1 1 [.int .i64 (p : Int)] rfl rfl (unhide HNW) (by intro u hu; simp at hu; subst hu; rfl) (unhide HL1) (unhide HL2) (unhide HL3) ?_))
    intro v2 w2 hown2 hgrow2 hob2
    have HF := hide ((unhide HJ).1.push (unhide HJ5) hown2 hgrow2 hob2)
    obtain ⟨f0, f1, f2, hfz2⟩ := three_cells (unhide HK2 w2 hgrow2)
    have hf22 := hfz2 2
    obtain ⟨p2, c2', rfl⟩ := ownsV_shape hown2
    clear hown2 hgrow2 hob2 d0 d1 d2 hf52 c0 c1 c2 hfz hf2 hlk
    go_wp2_with fail
    go_end0
    exact ⟨rfl, _, (unhide HF).1, (unhide HJ).2.1.trans (unhide HF).2⟩
end Go.Proofs.Ytlbhhdldeaehkaa

/- The reference of layer 13: Places, starts, place. -/
namespace Go.Proofs.Ytlbhhdldeaehkaa
open Go.RowKit

end Go.Proofs.Ytlbhhdldeaehkaa

/- The reference of layer 13: starts, Right. -/
namespace Go.Proofs.Ytlbhhdldeaehkaa
open Go.RowKit

theorem marks_take {Z : List (Nat × Int)} {n k : Nat} (h : k < Z.length) : (marks n (Z.take k)).set Z[k].1 true = marks n (Z.take (k + 1)) := by
  rw [List.take_succ_eq_append_getElem h, marks_snoc]
theorem plV_at {Z : List (Nat × Int)} {k : Nat} (h : k < Z.length) : (plV Z)[k]? = some (.int .i64 ((Z[k].1 : Nat) : Int)) := by
  simp [plV, h]

end Go.Proofs.Ytlbhhdldeaehkaa

/- The reference of layer 13: At. -/
namespace Go.Proofs.Ytlbhhdldeaehkaa
open Go.RowKit

/-- An object that is put together: the answer's variable r, its own variable v, the rows of its fields from block c on. (35) -/
structure OG (w wr : World) (r v c : Nat) (kd : Int) (p d : Value) (ps ds : List Int) : Prop where
  res : wr.heap[r]? = some (.cells #[.int .i64 0, .slice none 0 0, .slice none 0 0] 35 (0, 0))
  var : wr.heap[v]? = some (.cells #[.int .i64 kd, p, d] 35 (0, 0))
  rowp : wr.ownsRow c 3 1 p ps.length (Iw ps)
  rowd : wr.ownsRow c 44 1 d ds.length (Uw ds)
  bel : Below w.heap.size w wr
  ord : w.heap.size ≤ r ∧ r < v ∧ v < c ∧ c ≤ wr.heap.size
theorem OG.cells {w wr : World} {r v c : Nat} {kd : Int} {p d : Value} {ps ds : List Int} (h : OG w wr r v c kd p d ps ds) : wr.cell? ⟨v, 0, none⟩ = some (.int .i64 kd) ∧ wr.cell? ⟨v, 1, none⟩ = some p ∧ wr.cell? ⟨v, 2, none⟩ = some d ∧ ∀ j, wr.frozen? ⟨v, j, none⟩ = false := three_cells h.var
theorem OG.below {w wr wx : World} {r v c : Nat} {kd : Int} {p d : Value} {ps ds : List Int} (h : OG w wr r v c kd p d ps ds) (hb : Below wr.heap.size wr wx) : OG w wx r v c kd p d ps ds :=
  ⟨(hb.block _ (Array.getElem?_eq_some_iff.1 h.res).1).trans h.res, (hb.block _ (Array.getElem?_eq_some_iff.1 h.var).1).trans h.var, ownsV_keep (F := fun _ => False) h.rowp (Keep.of_below hb) (fun _ _ => id), ownsV_keep (F := fun _ => False) h.rowd (Keep.of_below hb) (fun _ _ => id), h.bel.trans (hb.mono h.bel.size), ⟨h.ord.1, h.ord.2.1, h.ord.2.2.1, Nat.le_trans h.ord.2.2.2 hb.size⟩⟩
theorem OG.set {w wr wx : World} {r v c : Nat} {kd : Int} {p d : Value} {ps ds : List Int} (h : OG w wr r v c kd p d ps ds) {q q2 : Value} (hg : wr.grownBy wx q.ownBlock) (hv : ∀ k, q.ownBlock = some k → c ≤ k) (j : Nat) :
    Keep (fun k => q.ownBlock = some k ∨ k = v) wr (wx.setCell ⟨v, j, none⟩ q2) ∧ (wx.setCell ⟨v, j, none⟩ q2).heap[v]? = some (.cells (#[.int .i64 kd, p, d].setIfInBounds j q2) 35 (0, 0)) ∧ wx.heap[v]? = some (.cells #[.int .i64 kd, p, d] 35 (0, 0)) ∧ wx.heap[r]? = some (.cells #[.int .i64 0, .slice none 0 0, .slice none 0 0] 35 (0, 0)) := by
  obtain ⟨o1, o2, o3, o4⟩ := h.ord
  have hb2 := (hg.block v (Array.getElem?_eq_some_iff.1 h.var).1 (fun e => by have := hv _ e.symm; omega)).trans h.var
  have K1 : Keep (fun k => q.ownBlock = some k) wr wx := ⟨hg.os, hg.tape, hg.output, hg.size, fun k hk hn => hg.block k hk (fun e => hn e.symm)⟩
  exact ⟨(K1.weak (fun _ h => Or.inl h)).trans (keep_set wx v j q2) (fun k e => Or.inl (Or.inr e)), heap_setCell_same wx _ j _ _ q2 hb2, hb2, (hg.block r (Array.getElem?_eq_some_iff.1 h.res).1 (fun e => by have := hv _ e.symm; omega)).trans h.res⟩

theorem atR_at {ws : List Int} {k : Nat} (h : k < (obs ws 1).length) : atR ws ((obs ws 1)[k].1 : Int) = ((obs ws 1)[k].2 % 16, ptrsO ws (obs ws 1)[k], dataO ws (obs ws 1)[k], 0) := by
  have hs : obs ws 1 = (obs ws 1).take k ++ (obs ws 1)[k] :: (obs ws 1).drop (k + 1) := by
    rw [← List.drop_eq_getElem_cons h, List.take_append_drop]
  exact atR_some hs

end Go.Proofs.Ytlbhhdldeaehkaa
