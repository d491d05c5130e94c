/- Texts of ours, one behind the other: MkMem, CelRef, CelRef2, CelRefAt. -/
import Derived.Test.YtlbhhdldeaehkaaGreatG3
import Derived.Test.YtlbhhdldeaehkaaGreatG4
import Derived.Test.YtlbhhdldeaehkaaGreatG5
import Derived.Test.YtlbhhdldeaehkaaGreatG10
import Derived.Test.YtlbhhdldeaehkaaGreatG11
import Derived.Test.YtlbhhdldeaehkaaGreatG13
/- The landed package mark: what a walk keeps in memory; pointers, next, meet. -/
namespace Go.Proofs.YtlbhhdldeaehkaaGreat
open Go.RowKit

theorem ownsV_take {w : World} {base e n c k : Nat} {p : Option Addr} {xs : List Value} (h : w.ownsRow base e 1 (.slice p n c) n xs) (hk : k ≤ n) : w.ownsRow base e 1 (.slice p k c) k (xs.take k) := by
  obtain ⟨h1, h2⟩ := h
  refine ⟨by rw [List.length_take]; omega, ?_⟩
  rcases h2 with ⟨e1, e2⟩ | ⟨g, cap, cur, e1, a1, a2, a3, a4, a5, a6⟩
  · simp only [Value.slice.injEq] at e1
    obtain ⟨rfl, _, rfl⟩ := e1
    exact Or.inl ⟨by rw [show k = 0 by omega], by omega⟩
  · simp only [Value.slice.injEq] at e1
    obtain ⟨rfl, _, rfl⟩ := e1
    refine Or.inr ⟨g, c, cur, rfl, a1, a2, by omega, a4, a5, ?_⟩
    rw [← a6, List.take_take]
    congr 1
    omega

/-- The sizes of what was met, by places. -/
def szM (ws S : List Int) (x : Int) : Option Value := if x ∈ S then some (.int .i64 (wd ws x.toNat / 4096)) else none
/-- A walk in memory: words v, the map b of what was met (S), the row of what is open (O). -/
structure WAt (w : World) (base g : Nat) (v : Value) (ws : List Int) (b : Nat) (ov : Value) (S O : List Int) : Prop where
  blk : w.heap[g]? = some (.cells #[v, .map (some b), ov] 138 (0, 0))
  map : MapIs Tryz.prog 3 w b S.length (szM ws S)
  own : w.ownsRow base 3 1 ov O.length (Iw O)
  gb : base ≤ g
  bb : base ≤ b
  og : ov.ownBlock ≠ some g
theorem WAt.isMap {w : World} {base g b : Nat} {v ov : Value} {ws S O : List Int} (h : WAt w base g v ws b ov S O) : ∃ es c, w.heap[b]? = some (.map es c) := by
  obtain ⟨D, ⟨es, clock, h1, h2⟩, h3⟩ := h.map
  exact ⟨es, clock, h1⟩
theorem WAt.gm {w : World} {base g b : Nat} {v ov : Value} {ws S O : List Int} (h : WAt w base g v ws b ov S O) : g ≠ b := fun e => by
  obtain ⟨es, c, h1⟩ := h.isMap
  rw [← e, h.blk] at h1
  cases h1
theorem WAt.om {w : World} {base g b : Nat} {v ov : Value} {ws S O : List Int} (h : WAt w base g v ws b ov S O) : ov.ownBlock ≠ some b := fun e => by
  obtain ⟨es, c, h1⟩ := h.isMap
  rcases h.own.2 with ⟨h2, _⟩ | ⟨g', cap, cur, h2, a1, a2, _⟩
  · rw [h2] at e; cases e
  · rw [h2] at e
    simp only [Value.ownBlock, Option.some.injEq] at e
    rw [e, h1] at a2
    cases a2
theorem WAt.drew {w : World} {base g b : Nat} {v ov : Value} {ws S O : List Int} (h : WAt w base g v ws b ov S O) : WAt w.drew base g v ws b ov S O :=
  ⟨h.blk, h.map.stays rfl, h.own, h.gb, h.bb, h.og⟩

set_option maxRecDepth 20000 in
set_option maxHeartbeats 2000000 in
theorem mpointers_any (w0 w : World) (g b : Nat) (v ov : Value) (ws S O : List Int) (a : Int) (h : WAt w w0.heap.size g v ws b ov S O) (hv : VRow w0 v (Uw ws)) (hb : Below w0.heap.size w0 w) (hU : U32 ws) (hl : ws.length ≤ 1048576) (ha : isOb ws a) :
    Calls Tryz.prog 99 #[.pointer (some ⟨g, 0, none⟩), .int .i64 a] w fun e w' => (∃ q c, e = .returned (.slice q (ptsA ws a).length c) ∧ VRow w0 (.slice q (ptsA ws a).length c) (Uw (ptsA ws a)) ∧ ∀ k, (Value.slice q (ptsA ws a).length c).ownBlock = some k → v.ownBlock = some k) ∧ ∃ n, w' = w.drewN n := by
  obtain ⟨s1, s2, s3, s4⟩ := isOb_size ha
  obtain ⟨p, hp⟩ : ∃ p : Nat, (p : Int) = a := ⟨_, s4⟩
  subst hp
  simp only [Int.toNat_natCast] at s1 s2 s3
  obtain ⟨c0, c1, c2, hfz⟩ := three_cells h.blk
  obtain ⟨pv, cv, rfl, g1, g2, g3⟩ := hv.shape
  rw [List.length_map] at *
  obtain ⟨q, c', HCUT, HROW, HOB⟩ := hv.cut_lh (t := 33) Tryz.underlying33 Tryz.sizeU32 (p + 1) (ptN (wd ws p)) (by rw [List.length_map]; omega)
  obtain ⟨bk, off, cz, e0, k1, k2, hcl⟩ := hv.open (by intro e; have := congrArg List.length e; simp at this; rw [this] at s3; simp at s3)
  simp only [Value.slice.injEq, List.length_map] at e0
  obtain ⟨rfl, e1, rfl⟩ := e0
  have hc0 := hcl p _ (by rw [List.getElem?_map, wd_get s3]; rfl)
  have hc := fun W (hW : Below w.heap.size w W) => ((hb.trans (hW.mono hb.size)).cell (World.block_lt_of_cell? w0 _ hc0)).trans hc0
  obtain ⟨u0, u1⟩ := hU.wd p
  have f2 := ptN_int (wd ws p)
  have HPT := hide (fun w => cptrs_t (wd ws p) w u0 u1)
  have hL := ptsA_len ha
  rw [Int.toNat_natCast] at hL
  have hcw := hc w (Below.refl _ _)
  have h1 : IntKind.i64.wrap ((p : Int) + 1) = (p : Int) + 1 := by rw [IntKind.wrap_i64]; omega
  have h2 : IntKind.i64.wrap ((p : Int) + 1 + wd ws p / 16 % 256) = (p : Int) + 1 + wd ws p / 16 % 256 := by rw [IntKind.wrap_i64]; omega
  have h3 : (p : Int) < (ws.length : Int) := by omega
  have hcut2 : ∀ W, (Instr.slice 33 (.slice (some ⟨bk, off, none⟩) ws.length cv) (some (.int .i64 ((p : Int) + 1))) (some (.int .i64 ((p : Int) + 1 + wd ws p / 16 % 256))) none).run Tryz.prog W = .ok (.slice q (ptN (wd ws p)) c') W := fun W => by
    have := HCUT W
    rw [← f2]
    simpa using this
  have hmx : Tryz.prog.follows .mixedOrders = true := by kernel_rfl
  have HE := hide (show ((Uw ws).drop (p + 1)).take (ptN (wd ws p)) = Uw (ptsA ws (p : Int)) by
    unfold ptsA ptrsO
    simp [Uw, List.map_drop, List.map_take])
  have HRW := hide HROW
  have HO := hide HOB
  have HLL := hide hL
  generalize wd ws p = x at *
  generalize hpn : ptN x = m at *
  clear HROW HOB hL HCUT e1 hcl hc hc0 hv hb h hU g1 g2 g3 k1 k2 f2 s1 s2 s3 s4 ha hl
  go_enter Tryz.func99, Tryz.ntmps99
  go_wp2_with fail
  refine wp_region_still_lit hmx (by kernel_rfl) ?_
  repeat (first | still_step | still_call (unhide HPT _))
  refine wpStill_nil ?_
  go_wp2_with fail
  go_ret
  have e1 := unhide HLL
  have e2 := unhide HRW
  rw [unhide HE] at e2
  rw [e1]
  exact ⟨⟨q, c', rfl, e2, unhide HO⟩, 1, rfl⟩

/-- The variable of a walk gets another row. -/
theorem wat_put {w : World} {base g b : Nat} {v ov ov' : Value} {ws S O' : List Int} (hblk : w.heap[g]? = some (.cells #[v, .map (some b), ov] 138 (0, 0))) (hmap : MapIs Tryz.prog 3 w b S.length (szM ws S)) (hgm : g ≠ b) (hgb : base ≤ g) (hbb : base ≤ b)
    (hown : w.ownsRow base 3 1 ov' O'.length (Iw O')) (hog : ov'.ownBlock ≠ some g) :
    WAt (w.setCell ⟨g, 2, none⟩ ov') base g v ws b ov' S O' ∧ Below base w (w.setCell ⟨g, 2, none⟩ ov') := by
  have hK := keep_set w g 2 ov'
  have b1 := heap_setCell_same w g 2 _ _ ov' hblk
  refine ⟨⟨by rw [b1]; rfl, hmap.stays (hK.block b hmap.lt (fun e => hgm e.symm)), ownsV_keep hown hK (fun k hk e => hog (e ▸ hk)), hgb, hbb, hog⟩, hK.os, hK.tape, hK.output, hK.size, fun k hk => ?_⟩
  exact heap_setCell_other w ⟨g, 2, none⟩ k _ (fun e => by dsimp only at e; omega)
theorem WAt.setO {w : World} {base g b : Nat} {v ov ov' : Value} {ws S O O' : List Int} (h : WAt w base g v ws b ov S O) (hown : w.ownsRow base 3 1 ov' O'.length (Iw O')) (hog : ov'.ownBlock ≠ some g) :
    WAt (w.setCell ⟨g, 2, none⟩ ov') base g v ws b ov' S O' ∧ Below base w (w.setCell ⟨g, 2, none⟩ ov') :=
  wat_put h.blk h.map h.gm h.gb h.bb hown hog
/-- One more that is open: laid aside first, then appended, and stored. -/
theorem WAt.push {w w2 : World} {base g b : Nat} {v ov ov' : Value} {ws S O : List Int} {a : Int} (h : WAt w base g v ws b ov S O) (hbw : base ≤ w.heap.size) (hown : w2.ownsRow base 3 1 ov' (O.length + 1) (Iw O ++ [.int .i64 a])) (hg : (w.alloc (.cells #[.int .i64 a] 3)).grownBy w2 ov.ownBlock)
    (hob : ov'.ownBlock = ov.ownBlock ∨ ov'.ownBlock = some (w.heap.size + 1)) :
    WAt (w2.setCell ⟨g, 2, none⟩ ov') base g v ws b ov' S (O ++ [a]) ∧ Below base w (w2.setCell ⟨g, 2, none⟩ ov') := by
  have hgl : g < w.heap.size := (Array.getElem?_eq_some_iff.1 h.blk).1
  have hbl := h.map.lt
  have hkeep : ∀ k, k < w.heap.size → ov.ownBlock ≠ some k → w2.heap[k]? = w.heap[k]? := fun k hk hn =>
    (hg.block k (by rw [World.size_alloc]; omega) (fun e => hn e.symm)).trans (Below.heap_alloc _ _ k hk)
  obtain ⟨r1, r2⟩ := wat_put (w := w2) (S := S) (O' := O ++ [a]) (ws := ws) ((hkeep g hgl h.og).trans h.blk) (h.map.stays (hkeep b hbl h.om)) h.gm h.gb h.bb (ov' := ov') (by simpa using hown) (by
    rcases hob with e | e
    · rw [e]; exact h.og
    · rw [e]; intro e2; simp only [Option.some.injEq] at e2; omega)
  refine ⟨r1, Below.trans ⟨hg.os, hg.tape, hg.output, ?_, fun k hk => hkeep k (by omega) (fun e => ?_)⟩ r2⟩
  · have := hg.size; rw [World.size_alloc] at this; omega
  · have := (h.own.lt k e).1; omega
theorem Tryz.sizeI64o : (Tryz.prog.info? 3).map (·.size) = some 1 := by kernel_rfl
theorem wf_i64 {n : Int} (h1 : -9223372036854775808 ≤ n) (h2 : n ≤ 9223372036854775807) : (Lit.int .i64 n).wf = true := by
  simp [Lit.wf, IntKind.min, IntKind.max, IntKind.signed, IntKind.bits]
  omega
/-- The first ones of a row, in its own block. -/
theorem slice_h_own {P : Program} {t e : TypeId} (ht : P.underlying t = some (.slice e)) (hsz : (P.info? e).map (·.size) = some 1) (g n c k : Nat) (hk : k ≤ n) (hn : n ≤ c) (hc : 0 < c) (W : World) :
    (Instr.slice t (.slice (some ⟨g, 0, none⟩) n c) none (some (.int .i64 (k : Int))) none).run P W = .ok (.slice (some ⟨g, 0, none⟩) k c) W := by
  have := run_slice_h (P := P) W t (some ⟨g, 0, none⟩) n c (by rw [elemV_of ht]; exact ht) .i64 (k : Int) (by omega) (by omega)
  rw [this, sizeV_run hsz ht]
  simp only [Result.andThen_ok, Int.toNat_natCast]
  unfold sliced
  rw [if_neg (by omega)]
  simp [Addr.add_lit]

set_option maxRecDepth 20000 in
set_option maxHeartbeats 2000000 in
theorem mnext_any (w : World) (base g b : Nat) (v ov : Value) (ws S O : List Int) (a : Int) (h : WAt w base g v ws b ov S (O ++ [a])) (hl : O.length < 1048576) :
    Calls Tryz.prog 100 #[.pointer (some ⟨g, 0, none⟩)] w fun e w' => e = .returned (.int .i64 a) ∧ ∃ ov', WAt w' base g v ws b ov' S O ∧ Below base w w' := by
  obtain ⟨c0, c1, c2, hfz⟩ := three_cells h.blk
  have hf2 := hfz 2
  have hown := h.own
  have hlen : (O ++ [a]).length = O.length + 1 := by simp
  rw [hlen] at hown
  have hVR := vrow_of_owns (vs := Iw (O ++ [a])) (s := ov) (by simpa using hown)
  have hog := h.og
  have HH := hide h
  rcases hown.2 with ⟨_, h0⟩ | ⟨ob, co, cur, rfl, a1, a2, a3, a4, a5, a6⟩
  · omega
  have htk := ownsV_take hown (k := O.length) (by omega)
  have HO := hide (show w.ownsRow base 3 1 (.slice (some ⟨ob, 0, none⟩) O.length co) O.length (Iw O) by simpa using htk)
  have hcut := fun W => slice_h_own (P := Tryz.prog) (t := 32) Tryz.underlying32 Tryz.sizeI64o ob (O.length + 1) co O.length (by omega) a3 (by omega) W
  obtain ⟨bk, off, cz, e0, k1, k2, hcl⟩ := hVR.open (by simp)
  simp only [Value.slice.injEq, Option.some.injEq, Addr.mk.injEq] at e0
  obtain ⟨⟨rfl, rfl, _⟩, e1, rfl⟩ := e0
  have hc0 := hcl O.length (.int .i64 a) (by simp)
  simp only [Nat.zero_add] at hc0
  have hsub : wrap64 (O.length : Int) = (O.length : Int) := by unfold wrap64; omega
  have HS := hide (h.setO (unhide HO) hog)
  clear htk hVR hown a1 a2 a3 a4 a5 a6 k1 k2 e1 hcl hl HO h hog hlen
  go_enter Tryz.func100, Tryz.ntmps100
  go_wp2_with fail
  go_ret
  exact ⟨rfl, _, unhide HS⟩

theorem szM_snoc (ws S : List Int) (a : Int) : (fun x => if x = a then some (.int .i64 (wd ws a.toNat / 4096)) else szM ws S x) = szM ws (S ++ [a]) := by
  funext x
  unfold szM
  by_cases h : x = a
  · subst h; simp
  · rw [if_neg h]
    simp [h]

set_option maxRecDepth 20000 in
set_option maxHeartbeats 2000000 in
theorem mmeet_any (w0 w : World) (g b : Nat) (v ov : Value) (ws S O : List Int) (a : Int) (h : WAt w w0.heap.size g v ws b ov S O) (hv : VRow w0 v (Uw ws)) (hb : Below w0.heap.size w0 w) (hU : U32 ws) (hl : ws.length ≤ 1048576) (ha : a = 0 ∨ isOb ws a) (hS : S.length ≤ 1048576) (hO : O.length ≤ S.length) :
    Calls Tryz.prog 98 #[.pointer (some ⟨g, 0, none⟩), .int .i64 a] w fun e w' => e = .returned (.tuple #[]) ∧ ∃ ov', WAt w' w0.heap.size g v ws b ov' (metS S a) (metO S O a) ∧ Below w0.heap.size w w' := by
  obtain ⟨c0, c1, c2, hfz⟩ := three_cells h.blk
  have hf2 := hfz 2
  have hwf : (Lit.int .i64 a).wf = true := wf_i64 (by rcases ha with h | h; omega; have := h.1; omega) (by rcases ha with h | h; omega; have := h.2.1; omega)
  have hlk := h.map.look (P := Tryz.prog) (k := 3) (t := 120) (e := 3) Tryz.underlying3 Tryz.underlying120 (z := .int .i64 0) rfl a hwf
  by_cases hc : a = 0 ∨ a ∈ S
  · unfold metS metO
    rw [if_pos hc, if_pos hc]
    have HW := hide h
    by_cases hs : a ∈ S
    · have e1 : szM ws S a = some (.int .i64 (wd ws a.toNat / 4096)) := by unfold szM; rw [if_pos hs]
      rw [e1] at hlk
      simp only [Option.getD_some, Option.isSome_some] at hlk
      clear hc hs e1 hS hO hl hU hv hb ha hwf h
      go_enter Tryz.func98, Tryz.ntmps98
      go_wp2_with fail
      (try simp only [Exit.inBlock, Exit.then])
      refine bodyPost_ret (results_none rfl _ _ _) rfl ?_
      exact ⟨rfl, _, unhide HW, Below.refl _ _⟩
    · have e1 : szM ws S a = none := by unfold szM; rw [if_neg hs]
      have h0 : a = 0 := hc.resolve_right hs
      subst h0
      rw [e1] at hlk
      simp only [Option.getD_none, Option.isSome_none] at hlk
      clear hc hs e1 hS hO hl hU hv hb ha hwf h
      go_enter Tryz.func98, Tryz.ntmps98
      go_wp2_with fail
      (try simp only [Exit.inBlock, Exit.then])
      refine bodyPost_ret (results_none rfl _ _ _) rfl ?_
      exact ⟨rfl, _, unhide HW, Below.refl _ _⟩
  · unfold metS metO
    rw [if_neg hc, if_neg hc]
    have h0 : ¬ a = 0 := fun e => hc (Or.inl e)
    have hs : a ∉ S := fun e => hc (Or.inr e)
    have ha := ha.resolve_left h0
    obtain ⟨s1, s2, s3, s4⟩ := isOb_size ha
    obtain ⟨p, hp⟩ : ∃ p : Nat, (p : Int) = a := ⟨_, s4⟩
    subst hp
    have e1 : szM ws S (p : Int) = none := by unfold szM; rw [if_neg hs]
    rw [e1] at hlk
    simp only [Option.getD_none, Option.isSome_none] at hlk
    simp only [Int.toNat_natCast] at s1 s2 s3
    obtain ⟨pv, cv, rfl, g1, g2, g3⟩ := hv.shape
    rw [List.length_map] at *
    obtain ⟨bk, off, cz, e0, k1, k2, hcl⟩ := hv.open (by intro e; have := congrArg List.length e; simp at this; rw [this] at s3; simp at s3)
    simp only [Value.slice.injEq, List.length_map] at e0
    obtain ⟨rfl, e9, rfl⟩ := e0
    have hc0 := hcl p _ (by rw [List.getElem?_map, wd_get s3]; rfl)
    have hcw := (hb.cell (World.block_lt_of_cell? w0 _ hc0)).trans hc0
    obtain ⟨u0, u1⟩ := hU.wd p
    have HSZ := hide (fun w => csize_t (wd ws p) w u0 u1)
    obtain ⟨i0, hi, hz0, hz1, hz2⟩ := info_parts Tryz.infoI64
    obtain ⟨w5, hrun5, hM5, hg5⟩ := (h.map.stays (w' := w.drew) rfl).put (t := 120) (e := 3) Tryz.underlying3 Tryz.underlying120 (by unfold maxLen; omega) (p : Int) hwf (.int .i64 (wd ws p / 4096))
    have hgl : g < w.heap.size := (Array.getElem?_eq_some_iff.1 h.blk).1
    have hblk5 := (hg5.block g hgl (fun e => h.gm (Option.some.inj e))).trans h.drew.blk
    have hown5 : w5.ownsRow w0.heap.size 3 1 ov O.length (Iw O) := ownsV_keep (F := fun k => k = b) h.own ⟨hg5.os, hg5.tape, hg5.output, hg5.size, fun k hk hn => hg5.block k hk (fun e => hn (Option.some.inj e))⟩ (fun k hk e => h.om (e ▸ hk))
    have hM6 : MapIs Tryz.prog 3 w5 b (S ++ [(p : Int)]).length (szM ws (S ++ [(p : Int)])) := by
      have := szM_snoc ws S (p : Int)
      rw [Int.toNat_natCast] at this
      rw [← this, List.length_append, List.length_singleton]
      exact hM5
    have hW5 : WAt w5 w0.heap.size g (.slice (some ⟨bk, off, none⟩) ws.length cv) ws b ov (S ++ [(p : Int)]) O := ⟨hblk5, hM6, hown5, h.gb, h.bb, h.og⟩
    have hB5 : Below w0.heap.size w w5 := ⟨hg5.os, hg5.tape, hg5.output, hg5.size, fun k hk => hg5.block k (Nat.lt_of_lt_of_le hk hb.size) (fun e => by have := h.bb; have := Option.some.inj e; omega)⟩
    obtain ⟨d0, d1, d2, hfz5⟩ := three_cells hblk5
    have hf52 := hfz5 2
    have HJ := hide (And.intro hW5 (And.intro hB5 (And.intro hS hO)))
    have HBB := hide hb
    have hmx : Tryz.prog.follows .mixedOrders = true := by kernel_rfl
    have hpI : (p : Int) < (ws.length : Int) := by omega
    have hpn : ((p : Int) == 0) = false := by simpa using h0
    obtain ⟨po, co, rfl⟩ := ownsV_shape hown5
    have HJ5 := hide (Nat.le_trans hb.size hg5.size)
    have HOW := hide (show (w5.alloc (.cells #[.int .i64 (p : Int)] 3)).ownsRow w0.heap.size 3 1 (.slice po O.length co) O.length (Iw O) from ownsV_keep (F := fun _ => False) hown5 (Keep.of_below ((Below.refl _ _).alloc (Nat.le_refl _) _)) (fun _ _ => id))
    have HNW := hide (show ∀ (j : Nat) (u : Value), [Value.int .i64 (p : Int)][j]? = some u → (w5.alloc (.cells #[.int .i64 (p : Int)] 3)).cell? ((⟨w5.heap.size, 0, none⟩ : Addr).add j) = some u from fun j u hj => by match j, hj with | 0, hj => (simp at hj; subst hj; simp [Addr.add]))
    have HL1 := hide (show O.length + 1 ≤ maxLen by unfold maxLen; omega)
    have HL2 := hide (show (O.length + 1) * 8 ≤ 140737488355328 by omega)
    have HL3 := hide (show w0.heap.size ≤ (w5.alloc (.cells #[.int .i64 (p : Int)] 3)).heap.size by rw [World.size_alloc]; have := unhide HJ5; omega)
    have hdw : w.drew.heap.size = w.heap.size := rfl
    have hs5 := hg5.size
    rw [hdw] at hs5
    have HK2 := hide (fun w2 (hg : (w5.alloc (.cells #[.int .i64 (p : Int)] 3)).grownBy w2 (Value.slice po O.length co).ownBlock) => (show w2.heap[g]? = some (.cells #[.slice (some ⟨bk, off, none⟩) ws.length cv, .map (some b), .slice po O.length co] 138 (0, 0)) from
      (hg.block g (by rw [World.size_alloc]; omega) (fun e => h.og e.symm)).trans ((Below.heap_alloc _ _ g (by omega)).trans hblk5)))
    generalize wd ws p = x at *
    clear hc hs e1 hS hO hl hU hv hb ha hwf h s1 s2 s3 s4 g1 g2 g3 k1 k2 hcl hc0 hM5 hg5 hgl hblk5 hown5 hM6 hW5 hB5 e9 hfz5 hs5 hdw
    go_enter Tryz.func98, Tryz.ntmps98
    go_wp2_with fail
    refine wp_region_still_tail 13 hmx (by kernel_rfl) ?_
    simp only [List.take_succ_cons, List.take_zero, List.drop_succ_cons, List.drop_zero]
    repeat (first | still_step | still_call (unhide HSZ _))
    refine wpStill_nil ?_
    go_wp2_with (first
      | (at_builtin; refine wpList_append_gen rfl _ _ 32 rfl w0.heap.size 3 i0 (.int .i64 0) Tryz.underlying32 hi hz0 1 8 (by omega) hz1 hz2 rfl (.slice po O.length co) O.length (Iw O) rfl (unhide HOW) ⟨w5.heap.size, 0, none⟩ 1 1 [.int .i64 (p : Int)] rfl rfl (unhide HNW) (by intro u hu; simp at hu; subst hu; rfl) (unhide HL1) (unhide HL2) (unhide HL3) ?_))
    intro v2 w2 hown2 hgrow2 hob2
    have HF := hide ((unhide HJ).1.push (unhide HJ5) hown2 hgrow2 hob2)
    obtain ⟨f0, f1, f2, hfz2⟩ := three_cells (unhide HK2 w2 hgrow2)
    have hf22 := hfz2 2
    obtain ⟨p2, c2', rfl⟩ := ownsV_shape hown2
    clear hown2 hgrow2 hob2 d0 d1 d2 hf52 c0 c1 c2 hfz hf2 hlk
    go_wp2_with fail
    go_end0
    exact ⟨rfl, _, (unhide HF).1, (unhide HJ).2.1.trans (unhide HF).2⟩
end Go.Proofs.YtlbhhdldeaehkaaGreat

/- The reference of layer 13: Places, starts, place. -/
namespace Go.Proofs.YtlbhhdldeaehkaaGreat
open Go.RowKit

theorem rplace_any (g n : Nat) (Z : List (Nat × Int)) (a : Int) (w : World) (h : MkAt w g n Z) :
    Calls Tryz.prog 110 #[.slice (some ⟨g, 0, none⟩) n n, .int .i64 a] w fun e w' => e = .returned (.bool (isPl n Z a)) ∧ w' = w := by
  by_cases h0 : a = 0
  · subst h0
    rw [show isPl n Z 0 = true by simp [isPl]]
    clear h
    go_enter Tryz.func110, Tryz.ntmps110
    go_wp2
    go_ret
    exact ⟨rfl, rfl⟩
  · have hb : (a == 0) = false := by simp [h0]
    by_cases h1 : 0 < a
    · by_cases h2 : a < n
      · obtain ⟨k, rfl⟩ := Int.eq_ofNat_of_zero_le (show 0 ≤ a by omega)
        have hk : k < n := by omega
        have hc := h.cell hk
        have e1 : isPl n Z (k : Int) = decide (k ∈ Z.map Prod.fst) := by
          have q0 : ¬ (k : Int) = 0 := by omega
          have q1 : (0 : Int) < (k : Int) := by omega
          have q2 : (k : Int) < (n : Int) := by omega
          simp only [isPl, q0, q1, q2, decide_true, decide_false, Bool.false_or, Bool.true_and, Int.toNat_natCast]
        rw [e1]
        generalize decide (k ∈ Z.map Prod.fst) = r at *
        clear h e1 hk h0
        go_enter Tryz.func110, Tryz.ntmps110
        go_wp2
        go_ret
        exact ⟨rfl, rfl⟩
      · rw [show isPl n Z a = false by simp [isPl, h0, h2]]
        have h2' : (n : Int) ≤ a := by omega
        clear h h0 h2
        go_enter Tryz.func110, Tryz.ntmps110
        go_wp2
        go_ret
        exact ⟨rfl, rfl⟩
    · rw [show isPl n Z a = false by simp [isPl, h0, h1]]
      have h1' : a ≤ 0 := by omega
      clear h h0 h1
      go_enter Tryz.func110, Tryz.ntmps110
      go_wp2
      go_ret
      exact ⟨rfl, rfl⟩

set_option maxRecDepth 20000 in
set_option maxHeartbeats 2000000 in
theorem rplaces_any (s : Value) (ws : List Int) (w : World) (hs : VRow w s (Uw ws)) (hU : U32 ws) (hl : ws.length ≤ 4194304) :
    Calls Tryz.prog 39 #[s] w fun e w' => ∃ v, e = .returned (.tuple #[v, .bool (decide (ws.length ≤ endO (obs ws 1)))]) ∧ w'.ownsRow w.heap.size 3 1 v (obs ws 1).length (plV (obs ws 1)) ∧ Below w.heap.size w w' := by
  obtain ⟨a, cap, rfl, g1, g2, g3⟩ := hs.shape
  rw [List.length_map] at *
  obtain ⟨i0, hi, hz0, hz1, hz2⟩ := info_parts Tryz.infoI64
  have HS := hide hs
  have HU := hide hU
  have HL := hide hl
  clear hs hU hl g1 g2 g3
  go_enter Tryz.func39, Tryz.ntmps39
  go_wp2_with fail
  go_loopw [4, 5] (fun o i wr => ∃ (pre rest : List (Nat × Int)), i = .int .i64 ((endO pre : Nat) : Int) ∧ obs ws 1 = pre ++ rest ∧ wr.ownsRow w.heap.size 3 1 o pre.length (plV pre) ∧ Below w.heap.size w wr) (fun _ i _ => ws.length + 1 - (intOf i).toNat)
  case atStart => exact ⟨[], _, rfl, rfl, World.ownsRow_nil _ _ _ _, Below.refl _ _⟩
  case round =>
    obtain ⟨pre, rest, rfl, hZ, hown, hb⟩ := hrel
    obtain ⟨e1, e2⟩ := endO_le hZ
    have hsp := obs_split hZ
    have hep : pre.foldl (fun _ x => x.1 + szN x.2) 1 = endO pre := rfl
    rw [hep] at hsp
    obtain ⟨pv, cv, rfl⟩ := ownsV_shape hown
    have hlen : pre.length ≤ 4194304 := by
      have h1 := obs_len ws
      have := unhide HL
      rw [hZ] at h1
      simp at h1
      omega
    obtain ⟨p, hp⟩ : ∃ p, p = endO pre := ⟨_, rfl⟩
    rw [← hp] at hsp e1 e2 ⊢
    have HP := hide hp
    clear hep hp
    by_cases hlt : p < ws.length
    · have hpI : (p : Int) < (ws.length : Int) := by omega
      obtain ⟨b, off, cz, e0, g1, g2, hcl⟩ := ((unhide HS).below hb).open (by intro e; have := congrArg List.length e; simp at this; rw [this] at hlt; simp at hlt)
      simp only [Value.slice.injEq] at e0
      obtain ⟨rfl, g3, rfl⟩ := e0
      have hc := hcl p _ (by rw [List.getElem?_map, wd_get hlt]; rfl)
      obtain ⟨u0, u1⟩ := (unhide HU).wd p
      have f1 := szN_int u0
      have f2 := ptN_int (wd ws p)
      have hok : okH ws p ↔ (wd ws p / 16 % 256 + 1 ≤ wd ws p / 4096 ∧ wd ws p / 4096 ≤ (ws.length : Int) - p) := by
        unfold okH
        omega
      have HSZ := hide (fun w => rsize_t (wd ws p) w u0 u1)
      have HPT := hide (fun w => rptrs_t (wd ws p) w u0 u1)
      have hwd : IntKind.i64.wrap ((ws.length : Int) - (p : Int)) = (ws.length : Int) - p := by have := unhide HL; rw [IntKind.wrap_i64]; omega
      have hwp : IntKind.i64.wrap (wd ws p / 16 % 256 + 1) = wd ws p / 16 % 256 + 1 := by rw [IntKind.wrap_i64]; omega
      have hws : IntKind.i64.wrap ((p : Int) + wd ws p / 4096) = (p : Int) + wd ws p / 4096 := by have := unhide HL; rw [IntKind.wrap_i64]; omega
      by_cases hk : okH ws p
      · obtain ⟨k1, k2⟩ := hok.1 hk
        have hst := obs_step hk
        rw [hst] at hsp
        have HZ2 := hide (show obs ws 1 = (pre ++ [(p, wd ws p)]) ++ obs ws (p + szN (wd ws p)) by rw [hZ, hsp]; simp)
        have HD := hide (show ((endO (pre ++ [(p, wd ws p)]) : Nat) : Int) = (p : Int) + wd ws p / 4096 by rw [endO_snoc, ← f1]; simp)
        have hbW : Below wr.heap.size wr (wr.alloc (.cells #[.int .i64 (p : Int)] 3)) := (Below.refl _ _).alloc (Nat.le_refl _) _
        have HOW := hide (ownsV_keep (F := fun _ => False) hown (Keep.of_below hbW) (fun _ _ => id))
        have HB := hide (hb.trans (hbW.mono hb.size))
        have HBS := hide hb.size
        have HLN := hide hlen
        have hp0 : (1 : Int) ≤ wd ws p / 4096 := by omega
        generalize wd ws p = x at *
        clear hok hk hst hsp hown hb hbW hlen hlt e1 e2 g1 g2 g3 hcl f1 f2 hZ
        go_wp2_with fail
        refine Calls.mono (unhide HSZ _) ?_
        rintro e w1 ⟨rfl, rfl⟩
        go_wp2_with fail
        refine Calls.mono (unhide HPT _) ?_
        rintro e w1 ⟨rfl, rfl⟩
        go_wp2_with (first
          | (at_builtin; refine wpList_append_gen rfl _ _ 32 rfl w.heap.size 3 i0 (.int .i64 0) Tryz.underlying32 hi hz0 1 8 (by omega) hz1 hz2 rfl (.slice pv pre.length cv) pre.length (plV pre) rfl (unhide HOW) ⟨w1.heap.size, 0, none⟩ 1 1 [.int .i64 (p : Int)] rfl rfl (by intro j u hj; match j, hj with | 0, hj => (simp at hj; subst hj; simp [Addr.add])) (by intro u hu; simp at hu; subst hu; rfl) (by have := unhide HLN; unfold maxLen; omega) (by have := unhide HLN; omega) (by rw [World.size_alloc]; have := unhide HBS; omega) ?_))
        intro v2 w2 hown2 hgrow2 hob2
        have HJ := hide (And.intro hown2 ((unhide HB).grown hgrow2 (unhide HB).size (fun k e => ((unhide HOW).lt k e).1)))
        clear hown2 hgrow2 hob2
        go_wp2_with fail
        go_roundw
        case rel =>
          refine ⟨pre ++ [(p, x)], _, by rw [unhide HD], unhide HZ2, ?_, (unhide HJ).2⟩
          rw [plV_snoc, List.length_append]
          exact (unhide HJ).1
        case measure =>
          simp only [intOf]
          omega
      · have hst := obs_stop hk
        rw [hst] at hsp
        have hpre : obs ws 1 = pre := by rw [hZ, hsp, List.append_nil]
        have HDE := hide (show decide (ws.length ≤ endO (obs ws 1)) = false by rw [hpre, ← unhide HP]; simp; omega)
        have HE := hide (show wr.ownsRow w.heap.size 3 1 (.slice pv pre.length cv) (obs ws 1).length (plV (obs ws 1)) ∧ Below w.heap.size w wr by rw [hpre]; exact ⟨hown, hb⟩)
        by_cases k1 : wd ws p / 4096 < wd ws p / 16 % 256 + 1
        · generalize wd ws p = x at *
          clear hok hk hst hsp hown hb hlen hlt e1 e2 g1 g2 g3 hcl f1 f2 hZ hpre
          go_wp2_with fail
          refine Calls.mono (unhide HSZ _) ?_
          rintro e w1 ⟨rfl, rfl⟩
          go_wp2_with fail
          refine Calls.mono (unhide HPT _) ?_
          rintro e w1 ⟨rfl, rfl⟩
          go_wp2_with fail
          go_ret2
          exact ⟨_, by rw [unhide HDE]; rfl, (unhide HE).1, (unhide HE).2⟩
        · have k1' : wd ws p / 16 % 256 + 1 ≤ wd ws p / 4096 := by omega
          have k2 : (ws.length : Int) - p < wd ws p / 4096 := by
            have : ¬ wd ws p / 4096 ≤ (ws.length : Int) - p := fun h => hk (hok.2 ⟨k1', h⟩)
            omega
          clear k1
          generalize wd ws p = x at *
          clear hok hk hst hsp hown hb hlen hlt e1 e2 g1 g2 g3 hcl f1 f2 hZ hpre
          go_wp2_with fail
          refine Calls.mono (unhide HSZ _) ?_
          rintro e w1 ⟨rfl, rfl⟩
          go_wp2_with fail
          refine Calls.mono (unhide HPT _) ?_
          rintro e w1 ⟨rfl, rfl⟩
          go_wp2_with fail
          go_ret2
          exact ⟨_, by rw [unhide HDE]; rfl, (unhide HE).1, (unhide HE).2⟩
    · have hst := obs_stop (ws := ws) (p := p) (fun h => hlt h.1)
      rw [hst] at hsp
      have hpre : obs ws 1 = pre := by rw [hZ, hsp, List.append_nil]
      have HDE := hide (show decide (ws.length ≤ endO (obs ws 1)) = true by rw [hpre, ← unhide HP]; simp; omega)
      have HE := hide (show wr.ownsRow w.heap.size 3 1 (.slice pv pre.length cv) (obs ws 1).length (plV (obs ws 1)) ∧ Below w.heap.size w wr by rw [hpre]; exact ⟨hown, hb⟩)
      have hge : (ws.length : Int) ≤ (p : Int) := by omega
      clear hst hsp hown hb hlen hlt e1 e2 hZ hpre
      go_wp2_with fail
      go_ret2
      exact ⟨_, by rw [unhide HDE]; rfl, (unhide HE).1, (unhide HE).2⟩
end Go.Proofs.YtlbhhdldeaehkaaGreat

/- The reference of layer 13: starts, Right. -/
namespace Go.Proofs.YtlbhhdldeaehkaaGreat
open Go.RowKit

theorem marks_take {Z : List (Nat × Int)} {n k : Nat} (h : k < Z.length) : (marks n (Z.take k)).set Z[k].1 true = marks n (Z.take (k + 1)) := by
  rw [List.take_succ_eq_append_getElem h, marks_snoc]
theorem plV_at {Z : List (Nat × Int)} {k : Nat} (h : k < Z.length) : (plV Z)[k]? = some (.int .i64 ((Z[k].1 : Nat) : Int)) := by
  simp [plV, h]

set_option maxRecDepth 20000 in
set_option maxHeartbeats 2000000 in
theorem rstarts_any (s : Value) (ws : List Int) (w : World) (hs : VRow w s (Uw ws)) (hU : U32 ws) (hl : ws.length ≤ 4194304) :
    Calls Tryz.prog 109 #[s] w fun e w' => ∃ g, e = .returned (.tuple #[.slice (some ⟨g, 0, none⟩) ws.length ws.length, .bool (decide (ws.length ≤ endO (obs ws 1)))]) ∧ w.heap.size ≤ g ∧ MkAt w' g ws.length (obs ws 1) ∧ Below w.heap.size w w' := by
  have hmk := run_make_bools 62 Tryz.underlying62 ws.length (by omega)
  have hb0 : Below w.heap.size w (w.alloc (.cells (Array.replicate ws.length (.bool false)) 4)) := (Below.refl _ w).alloc (Nat.le_refl _) _
  have HP := hide (rplaces_any s ws (w.alloc (.cells (Array.replicate ws.length (.bool false)) 4)) (hs.below hb0) hU hl)
  have HM0 := hide (show MkAt (w.alloc (.cells (Array.replicate ws.length (.bool false)) 4)) w.heap.size ws.length [] by
    unfold MkAt
    rw [marks_nil, List.map_replicate, List.toArray_replicate]
    exact World.alloc_heap_new w _)
  have HB0 := hide hb0
  obtain ⟨a, cap, rfl, g1, g2, g3⟩ := hs.shape
  rw [List.length_map] at *
  have HL := hide hl
  have HZL := hide (obs_len ws)
  have HMEM := hide (fun x (hx : x ∈ obs ws 1) => (obs_mem hx).2.2.1)
  obtain ⟨E, hE⟩ : ∃ E, E = decide (ws.length ≤ endO (obs ws 1)) := ⟨_, rfl⟩
  rw [← hE] at HP ⊢
  obtain ⟨Z, hZ⟩ : ∃ Z, Z = obs ws 1 := ⟨_, rfl⟩
  rw [← hZ] at HP HZL HMEM ⊢
  clear g1 g2 g3 hs hU hl hb0 hE hZ
  go_enter Tryz.func109, Tryz.ntmps109
  go_wp2_with fail
  refine Calls.mono (unhide HP) ?_
  rintro e w1 ⟨v, rfl, hown, b1⟩
  obtain ⟨pv, cv, rfl⟩ := ownsV_shape hown
  have HV := hide (show VRow w1 (.slice pv Z.length cv) (plV Z) from vrow_of_owns (by simpa [plV] using hown))
  have HVB := hide (fun k (e : (Value.slice pv Z.length cv).ownBlock = some k) => (hown.lt k e).1)
  have HM1 := hide ((unhide HM0).below b1)
  have HB1 := hide ((unhide HB0).trans (b1.mono (unhide HB0).size))
  clear hown b1 HM0
  go_wp2_with fail
  go_loopw [7] (fun i wr => ∃ k : Nat, k ≤ Z.length ∧ i = .int .i64 (k : Int) ∧ MkAt wr w.heap.size ws.length (Z.take k) ∧ Keep (fun b => b = w.heap.size) w1 wr) (fun i _ => Z.length - (intOf i).toNat)
  case atStart => exact ⟨0, Nat.zero_le _, rfl, unhide HM1, Keep.refl _ _⟩
  case round =>
    obtain ⟨k, hk, rfl, hmk2, hkp⟩ := hrel
    by_cases hlt : k < Z.length
    · have hkI : (k : Int) < (Z.length : Int) := by omega
      have hvr := (unhide HV).keep hkp (fun b off c e _ he => by have := unhide HVB b (by rw [e]; rfl); rw [World.size_alloc] at this; omega)
      obtain ⟨b, off, cz, e0, g1, g2, hcl⟩ := hvr.open (by intro e; have := congrArg List.length e; simp [plV] at this; rw [this] at hlt; simp at hlt)
      simp only [Value.slice.injEq] at e0
      obtain ⟨rfl, g3, rfl⟩ := e0
      have hc := hcl k _ (plV_at hlt)
      have hpl := unhide HMEM Z[k] (List.getElem_mem hlt)
      have hpI : (Z[k].1 : Int) < (ws.length : Int) := by omega
      have hcm := hmk2.cell hpl
      have hfz : wr.frozen? ⟨w.heap.size, Z[k].1, none⟩ = false := frozen_of_block hmk2
      have HS := hide (show MkAt (wr.setCell ⟨w.heap.size, Z[k].1, none⟩ (.bool true)) w.heap.size ws.length (Z.take (k + 1)) by
        unfold MkAt
        rw [heap_setCell_same wr _ _ _ _ (.bool true) hmk2, ← marks_take hlt]
        simp)
      have HKP := hide (hkp.trans (keep_set wr w.heap.size Z[k].1 (.bool true)) (fun _ e => Or.inl e))
      have HLT := hide hlt
      have hnw : IntKind.i64.wrap ((k : Int) + 1) = (k : Int) + 1 := by have := unhide HL; have := unhide HZL; rw [IntKind.wrap_i64]; omega
      generalize Z[k] = x at *
      obtain ⟨p, h⟩ := x
      dsimp only at *
      clear hvr g1 g2 g3 hcl hpl hmk2 hkp hk hlt
      go_wp2_with fail
      go_roundw
      case rel => exact ⟨k + 1, unhide HLT, by go_num, unhide HS, unhide HKP⟩
      case measure => (have := unhide HLT; simp [intOf]; omega)
    · have hke : k = Z.length := by omega
      subst hke
      rw [List.take_length] at hmk2
      have HE := hide (And.intro hmk2 ((unhide HB1).trans (hkp.below (unhide HB1).size (fun b e => by omega))))
      clear hk hlt hmk2 hkp
      go_wp2_with fail
      go_ret2
      exact ⟨_, rfl, Nat.le_refl _, (unhide HE).1, (unhide HE).2⟩

theorem rright_no (s t : Value) (ws rs : List Int) (w : World) (hs : VRow w s (Uw ws)) (ht : VRow w t (Iw rs))
    (h : ¬ (1 ≤ ws.length ∧ ws.length ≤ 1048576 ∧ wd ws 0 = 0 ∧ rs.length ≤ 16)) :
    Calls Tryz.prog 102 #[s, t] w fun e w' => e = .returned (.bool false) ∧ w' = w := by
  obtain ⟨a, cap, rfl, g1, g2, g3⟩ := hs.shape
  obtain ⟨a', cap', rfl, k1, k2, k3⟩ := ht.shape
  rw [Uw_len2] at *
  clear g1 g2 g3 k1 k2 k3 ht
  rw [show (Iw rs).length = rs.length from List.length_map _]
  by_cases h1 : 1 ≤ ws.length
  · have q1 : (1 : Int) ≤ (ws.length : Int) := by omega
    by_cases h2 : ws.length ≤ 1048576
    · have q2 : (ws.length : Int) ≤ 1048576 := by omega
      obtain ⟨b, off, c', e0, j1, j2, hcl⟩ := hs.open (by intro e; have := congrArg List.length e; simp at this; rw [this] at h1; simp at h1)
      simp only [Value.slice.injEq] at e0
      obtain ⟨rfl, j3, rfl⟩ := e0
      clear j1 j2 j3
      have hc := hcl 0 _ (by rw [List.getElem?_map, wd_get h1]; rfl)
      rw [Nat.add_zero] at hc
      by_cases h3 : wd ws 0 = 0
      · have q4 : (16 : Int) < (rs.length : Int) := by
          have : ¬ rs.length ≤ 16 := fun h4 => h ⟨h1, h2, h3, h4⟩
          omega
        rw [h3] at hc
        generalize ws.length = n at *
        clear h1 h2 h3 h hs hcl
        go_enter Tryz.func102, Tryz.ntmps102
        go_wp2
        go_ret
        exact ⟨rfl, rfl⟩
      · have q3 : (wd ws 0 == 0) = false := by simpa using h3
        generalize wd ws 0 = x at *
        generalize ws.length = n at *
        clear h1 h2 h hs hcl
        go_enter Tryz.func102, Tryz.ntmps102
        go_wp2
        go_ret
        exact ⟨rfl, rfl⟩
    · have q2 : (1048576 : Int) < (ws.length : Int) := by omega
      generalize ws.length = n at *
      clear h1 h2 h hs
      go_enter Tryz.func102, Tryz.ntmps102
      go_wp2
      go_ret
      exact ⟨rfl, rfl⟩
  · have q1 : (ws.length : Int) < 1 := by omega
    generalize ws.length = n at *
    clear h1 h hs
    go_enter Tryz.func102, Tryz.ntmps102
    go_wp2
    go_ret
    exact ⟨rfl, rfl⟩

set_option maxRecDepth 20000 in
set_option maxHeartbeats 2000000 in
theorem rright_yes (s t : Value) (ws rs : List Int) (w : World) (hs : VRow w s (Uw ws)) (ht : VRow w t (Iw rs)) (hU : U32 ws)
    (h1 : 1 ≤ ws.length) (h2 : ws.length ≤ 1048576) (h3 : wd ws 0 = 0) (h4 : rs.length ≤ 16) :
    Calls Tryz.prog 102 #[s, t] w fun e w' => e = .returned (.bool (heapB ws rs)) ∧ Below w.heap.size w w' := by
  have HS := hide hs
  have HT := hide ht
  have HU := hide hU
  have HP := hide (rstarts_any s ws w hs hU (by omega))
  obtain ⟨a, cap, rfl, g1, g2, g3⟩ := hs.shape
  obtain ⟨a', cap', rfl, k1, k2, k3⟩ := ht.shape
  have eU : (Uw ws).length = ws.length := List.length_map _
  have eI : (Iw rs).length = rs.length := List.length_map _
  rw [eU] at HS HP hs ⊢
  rw [eI] at HT ⊢
  have q1 : (1 : Int) ≤ (ws.length : Int) := by omega
  have q2 : (ws.length : Int) ≤ 1048576 := by omega
  have q4 : (rs.length : Int) ≤ 16 := by omega
  obtain ⟨b, off, c', e0, j1, j2, hcl⟩ := hs.open (by intro e; have := congrArg List.length e; rw [eU] at this; rw [this] at h1; simp at h1)
  simp only [Value.slice.injEq] at e0
  obtain ⟨rfl, j3, rfl⟩ := e0
  have hc := hcl 0 _ (by rw [List.getElem?_map, wd_get h1]; rfl)
  rw [Nat.add_zero, h3] at hc
  have hh : heapB ws rs = (decide (endO (obs ws 1) = ws.length) && okPs ws (obs ws 1) && rs.all (isPl ws.length (obs ws 1))) := rfl
  have hend : decide (ws.length ≤ endO (obs ws 1)) = decide (endO (obs ws 1) = ws.length) := by
    obtain ⟨_, f2⟩ := endO_le (show obs ws 1 = obs ws 1 ++ [] by simp)
    by_cases h : ws.length ≤ endO (obs ws 1)
    · have : endO (obs ws 1) = ws.length := by omega
      simp [this]
    · have : ¬ endO (obs ws 1) = ws.length := by omega
      simp [h, this]
  rw [hend] at HP
  have HL := hide h2
  have HH := hide hh
  obtain ⟨R, hR⟩ : ∃ R, R = heapB ws rs := ⟨_, rfl⟩
  rw [← hR]
  have HR := hide hR
  clear hh hend h1 h2 h3 h4 hs ht hcl hU g1 g2 g3 k1 k2 k3 j1 j2 j3 eU eI hR
  go_enter Tryz.func102, Tryz.ntmps102
  go_wp2_with fail
  refine Calls.mono (unhide HP) ?_
  rintro e w1 ⟨g, rfl, hg, hmk, b1⟩
  have HMK := hide hmk
  have HB1 := hide b1
  have HT1 := hide ((unhide HT).below b1)
  have HS1 := hide ((unhide HS).below b1)
  clear hmk b1 HP
  by_cases hen : endO (obs ws 1) = ws.length
  · rw [decide_eq_true hen]
    have HEN := hide hen
    have HH2 := hide (show heapB ws rs = (okPs ws (obs ws 1) && rs.all (isPl ws.length (obs ws 1))) by rw [unhide HH, decide_eq_true hen, Bool.true_and])
    clear hen HH
    go_wp2_with fail
    go_loop [7] (fun i => ∃ k : Nat, k ≤ rs.length ∧ i = .int .i64 (k : Int) ∧ Hid ((rs.take k).all (isPl ws.length (obs ws 1)) = true)) (fun i => rs.length - (intOf i).toNat)
    case atStart => exact ⟨0, Nat.zero_le _, rfl, by simp [Hid]⟩
    case round =>
      obtain ⟨k, hk, rfl, hall⟩ := hrel
      by_cases hlt : k < rs.length
      · have hkI : (k : Int) < (rs.length : Int) := by omega
        obtain ⟨b', off', cap2, e0, g1, g2, hcl⟩ := (unhide HT1).open (by intro e; have := congrArg List.length e; simp at this; rw [this] at hlt; simp at hlt)
        simp only [Value.slice.injEq] at e0
        obtain ⟨rfl, g3, rfl⟩ := e0
        have hc2 := hcl k _ (by rw [List.getElem?_map, List.getElem?_eq_getElem hlt]; rfl)
        have HTT := hide (show (rs.take (k + 1)).all (isPl ws.length (obs ws 1)) = isPl ws.length (obs ws 1) rs[k] by rw [List.take_succ_eq_append_getElem hlt, List.all_append, hall.out]; simp)
        have HA := hide (show isPl ws.length (obs ws 1) rs[k] = false → rs.all (isPl ws.length (obs ws 1)) = false by
          intro h
          rw [List.all_eq_false]
          exact ⟨rs[k], List.getElem_mem hlt, by simp [h]⟩)
        have HLT := hide hlt
        have HCH := hide (fun x => rplace_any g ws.length (obs ws 1) x w1 (unhide HMK))
        generalize rs[k] = x at *
        clear g1 g2 g3 hcl hall hk hlt
        have hnw : IntKind.i64.wrap ((k : Int) + 1) = (k : Int) + 1 := by have := unhide HLT; rw [IntKind.wrap_i64]; omega
        go_wp2_with fail
        refine Calls.mono (unhide HCH x) ?_
        rintro e w2 ⟨rfl, rfl⟩
        cases hx : isPl ws.length (obs ws 1) x with
        | true =>
          go_wp2_with fail
          go_round
          case rel => exact ⟨k + 1, unhide HLT, by go_num, by rw [Hid, unhide HTT, hx]⟩
          case measure => (have := unhide HLT; simp [intOf]; omega)
        | false =>
          have HF := hide (show heapB ws rs = false by rw [unhide HH2, unhide HA hx, Bool.and_false])
          clear hx
          go_wp2_with fail
          go_ret
          exact ⟨by rw [unhide HR, unhide HF]; rfl, unhide HB1⟩
      · have hke : k = rs.length := by omega
        subst hke
        rw [List.take_length] at hall
        have HH3 := hide (show heapB ws rs = okPs ws (obs ws 1) by rw [unhide HH2, hall.out, Bool.and_true])
        clear hk hlt hall HH2
        go_wp2_with fail
        go_loop [8] (fun i => ∃ pre rest, i = .int .i64 ((endO pre : Nat) : Int) ∧ obs ws 1 = pre ++ rest ∧ Hid (okPs ws pre = true)) (fun i => ws.length + 1 - (intOf i).toNat)
        case atStart => exact ⟨[], _, rfl, rfl, rfl⟩
        case round =>
          obtain ⟨pre, rest, rfl, hZ, hok⟩ := hrel
          cases rest with
          | nil =>
            rw [List.append_nil] at hZ
            rw [← hZ, unhide HEN]
            have HF := hide (show heapB ws rs = true by rw [unhide HH3, hZ, hok.out])
            clear hZ hok
            go_wp2_with fail
            go_ret
            exact ⟨by rw [unhide HR, unhide HF]; rfl, unhide HB1⟩
          | cons x rest =>
            obtain ⟨n1, n2, n3, n4⟩ := obs_next hZ
            obtain ⟨o1, o2, o3⟩ := n3
            rw [← n2] at o2 o3
            rw [← n1]
            obtain ⟨u0, u1⟩ := (unhide HU).wd x.1
            rw [← n2] at u0 u1
            obtain ⟨b', off', cap2, e0, g1, g2, hcl⟩ := (unhide HS1).open (by intro e; have := congrArg List.length e; simp at this; rw [this] at o1; simp at o1)
            simp only [Value.slice.injEq] at e0
            obtain ⟨⟨rfl, rfl, _⟩, g3, rfl⟩ := e0
            have hcx := hcl x.1 _ (by rw [List.getElem?_map, wd_get o1]; rfl)
            rw [← n2] at hcx
            have hlp : (ptrsO ws x).length = ptN x.2 := by rw [ptrsO, List.length_take, List.length_drop]; omega
            have f1 := szN_int u0
            have f2 := ptN_int x.2
            have f3 := ptN_lt x.2
            have HCP := hide (show ∀ k (hk : k < (ptrsO ws x).length), w1.cell? ⟨b, off + (x.1 + (k + 1)), none⟩ = some (.int .u32 (ptrsO ws x)[k]) ∧ 0 ≤ (ptrsO ws x)[k] ∧ (ptrsO ws x)[k] < 4294967296 ∧ x.1 + (k + 1) < ws.length by
              intro k hk
              rw [hlp] at hk
              have hkk : x.1 + (k + 1) < ws.length := by omega
              have he : (ptrsO ws x)[k]'(by rw [hlp]; exact hk) = wd ws (x.1 + (k + 1)) := by
                have h1 : (ptrsO ws x)[k]? = some (wd ws (x.1 + (k + 1))) := by
                  rw [ptrsO, List.getElem?_take_of_lt hk, List.getElem?_drop, show x.1 + 1 + k = x.1 + (k + 1) by omega, wd_get hkk]
                rw [List.getElem?_eq_getElem (by rw [hlp]; exact hk)] at h1
                exact Option.some.inj h1
              rw [he]
              exact ⟨hcl _ _ (by rw [List.getElem?_map, wd_get hkk]; rfl), ((unhide HU).wd _).1, ((unhide HU).wd _).2, hkk⟩)
            have HPS := hide (okPs_snoc ws pre x)
            have HZ2 := hide (show obs ws 1 = (pre ++ [x]) ++ rest by rw [hZ]; simp)
            have HD := hide (show ((endO (pre ++ [x]) : Nat) : Int) = (x.1 : Int) + x.2 / 4096 by rw [endO_snoc, ← f1]; simp)
            have HFB := hide (show (ptrsO ws x).all (isPl ws.length (obs ws 1)) = false → okPs ws (obs ws 1) = false by
              intro h
              rw [unhide HZ2]
              exact okPs_false (by rw [unhide HPS, h, Bool.and_false]))
            have HSZ := hide (fun w => rsize_t x.2 w u0 u1)
            have HPT := hide (fun w => rptrs_t x.2 w u0 u1)
            obtain ⟨ps, hps⟩ : ∃ ps, ps = ptrsO ws x := ⟨_, rfl⟩
            rw [← hps] at HCP HFB HPS
            rw [← hps] at hlp
            have hptl : x.2 / 16 % 256 = (ps.length : Int) := by omega
            rw [hptl] at HPT
            have hpI : (x.1 : Int) < (ws.length : Int) := by omega
            have hws : IntKind.i64.wrap ((x.1 : Int) + x.2 / 4096) = (x.1 : Int) + x.2 / 4096 := by rw [IntKind.wrap_i64]; omega
            have HPL := hide (show ps.length < 256 by omega)
            have HOK := hide hok
            have HSP := hide (show (1 : Int) ≤ x.2 / 4096 by omega)
            have HCH := hide (fun y => rplace_any g ws.length (obs ws 1) y w1 (unhide HMK))
            obtain ⟨p, h⟩ := x
            dsimp only at *
            clear hok hps hlp hptl f1 f2 f3 g1 g2 g3 hcl n1 n2 n4 o1 o2 o3 hZ hc
            go_wp2_with fail
            go_loop [9] (fun i => ∃ k : Nat, k ≤ ps.length ∧ i = .int .i64 ((k : Int) + 1) ∧ Hid ((ps.take k).all (isPl ws.length (obs ws 1)) = true)) (fun i => ps.length + 1 - (intOf i).toNat)
            case atStart => exact ⟨0, Nat.zero_le _, rfl, by simp [Hid]⟩
            case round =>
              obtain ⟨k, hk, rfl, hall⟩ := hrel
              by_cases hlt : k < ps.length
              · obtain ⟨hcy, y0, y1, y2⟩ := unhide HCP k hlt
                have hkI : (k : Int) + 1 ≤ (ps.length : Int) := by omega
                have HTT := hide (show (ps.take (k + 1)).all (isPl ws.length (obs ws 1)) = isPl ws.length (obs ws 1) ps[k] by rw [List.take_succ_eq_append_getElem hlt, List.all_append, hall.out]; simp)
                have HA := hide (show isPl ws.length (obs ws 1) ps[k] = false → ps.all (isPl ws.length (obs ws 1)) = false by
                  intro h
                  rw [List.all_eq_false]
                  exact ⟨ps[k], List.getElem_mem hlt, by simp [h]⟩)
                have HLT := hide hlt
                generalize ps[k] = y at *
                have hyw : IntKind.i64.wrap y = y := by rw [IntKind.wrap_i64]; omega
                have hw3 : IntKind.i64.wrap ((p : Int) + ((k : Int) + 1)) = ((p + (k + 1) : Nat) : Int) := by rw [IntKind.wrap_i64]; omega
                have hw4 : IntKind.i64.wrap ((k : Int) + 1 + 1) = (k : Int) + 1 + 1 := by have := unhide HPL; have := unhide HLT; rw [IntKind.wrap_i64]; omega
                have hin : ((p + (k + 1) : Nat) : Int) < (ws.length : Int) := by omega
                obtain ⟨z, hz⟩ : ∃ z, z = p + (k + 1) := ⟨_, rfl⟩
                rw [← hz] at hcy hw3 hin
                clear hall hk hlt y2 hz
                go_wp2_with fail
                refine Calls.mono (unhide HPT w1) ?_
                rintro e w2 ⟨rfl, rfl⟩
                go_wp2_with fail
                refine Calls.mono (unhide HCH y) ?_
                rintro e w2 ⟨rfl, rfl⟩
                cases hx : isPl ws.length (obs ws 1) y with
                | true =>
                  go_wp2_with fail
                  go_round
                  case rel => exact ⟨k + 1, unhide HLT, by go_num, by rw [Hid, unhide HTT, hx]⟩
                  case measure => (have := unhide HLT; simp [intOf]; omega)
                | false =>
                  have HF := hide (show heapB ws rs = false by rw [unhide HH3]; exact unhide HFB (unhide HA hx))
                  clear hx
                  go_wp2_with fail
                  go_ret
                  exact ⟨by rw [unhide HR, unhide HF]; rfl, unhide HB1⟩
              · have hke : k = ps.length := by omega
                subst hke
                rw [List.take_length] at hall
                have hgt : (ps.length : Int) < (ps.length : Int) + 1 := by omega
                have HAL := hide hall.out
                clear hk hlt hall
                go_wp2_with fail
                refine Calls.mono (unhide HPT w1) ?_
                rintro e w2 ⟨rfl, rfl⟩
                go_wp2_with fail
                refine Calls.mono (unhide HSZ _) ?_
                rintro e w2 ⟨rfl, rfl⟩
                go_wp2_with fail
                go_round
                case rel => exact ⟨pre ++ [(p, h)], rest, by rw [unhide HD], unhide HZ2, by rw [Hid, unhide HPS, unhide HAL, (unhide HOK).out]; rfl⟩
                case measure => (have := unhide HSP; simp only [intOf]; omega)
  · rw [decide_eq_false hen]
    have HF := hide (show heapB ws rs = false by rw [unhide HH, decide_eq_false hen, Bool.false_and, Bool.false_and])
    clear hen HH
    go_wp2_with fail
    go_ret
    exact ⟨by rw [unhide HR, unhide HF]; rfl, unhide HB1⟩

theorem rright_any (s t : Value) (ws rs : List Int) (w : World) (hs : VRow w s (Uw ws)) (ht : VRow w t (Iw rs)) (hU : U32 ws) :
    Calls Tryz.prog 102 #[s, t] w fun e w' => e = .returned (.bool (rightB ws rs)) ∧ Below w.heap.size w w' := by
  by_cases h : 1 ≤ ws.length ∧ ws.length ≤ 1048576 ∧ wd ws 0 = 0 ∧ rs.length ≤ 16
  · obtain ⟨h1, h2, h3, h4⟩ := h
    rw [show rightB ws rs = heapB ws rs by simp [rightB, h1, h2, h3, h4]]
    exact rright_yes s t ws rs w hs ht hU h1 h2 h3 h4
  · have hb : rightB ws rs = false := by
      cases hc : rightB ws rs with
      | false => rfl
      | true =>
        exfalso
        simp only [rightB, Bool.and_eq_true, decide_eq_true_eq] at hc
        exact h ⟨hc.1.1.1.1, hc.1.1.1.2, hc.1.1.2, hc.1.2⟩
    rw [hb]
    refine (rright_no s t ws rs w hs ht h).mono ?_
    rintro e w' ⟨rfl, rfl⟩
    exact ⟨rfl, Below.refl _ _⟩
end Go.Proofs.YtlbhhdldeaehkaaGreat

/- The reference of layer 13: At. -/
namespace Go.Proofs.YtlbhhdldeaehkaaGreat
open Go.RowKit

/-- An object that is put together: the answer's variable r, its own variable v, the rows of its fields from block c on. (66) -/
structure OG (w wr : World) (r v c : Nat) (kd : Int) (p d : Value) (ps ds : List Int) : Prop where
  res : wr.heap[r]? = some (.cells #[.int .i64 0, .slice none 0 0, .slice none 0 0] 66 (0, 0))
  var : wr.heap[v]? = some (.cells #[.int .i64 kd, p, d] 66 (0, 0))
  rowp : wr.ownsRow c 3 1 p ps.length (Iw ps)
  rowd : wr.ownsRow c 31 1 d ds.length (Uw ds)
  bel : Below w.heap.size w wr
  ord : w.heap.size ≤ r ∧ r < v ∧ v < c ∧ c ≤ wr.heap.size
theorem OG.cells {w wr : World} {r v c : Nat} {kd : Int} {p d : Value} {ps ds : List Int} (h : OG w wr r v c kd p d ps ds) : wr.cell? ⟨v, 0, none⟩ = some (.int .i64 kd) ∧ wr.cell? ⟨v, 1, none⟩ = some p ∧ wr.cell? ⟨v, 2, none⟩ = some d ∧ ∀ j, wr.frozen? ⟨v, j, none⟩ = false := three_cells h.var
theorem OG.below {w wr wx : World} {r v c : Nat} {kd : Int} {p d : Value} {ps ds : List Int} (h : OG w wr r v c kd p d ps ds) (hb : Below wr.heap.size wr wx) : OG w wx r v c kd p d ps ds :=
  ⟨(hb.block _ (Array.getElem?_eq_some_iff.1 h.res).1).trans h.res, (hb.block _ (Array.getElem?_eq_some_iff.1 h.var).1).trans h.var, ownsV_keep (F := fun _ => False) h.rowp (Keep.of_below hb) (fun _ _ => id), ownsV_keep (F := fun _ => False) h.rowd (Keep.of_below hb) (fun _ _ => id), h.bel.trans (hb.mono h.bel.size), ⟨h.ord.1, h.ord.2.1, h.ord.2.2.1, Nat.le_trans h.ord.2.2.2 hb.size⟩⟩
theorem OG.set {w wr wx : World} {r v c : Nat} {kd : Int} {p d : Value} {ps ds : List Int} (h : OG w wr r v c kd p d ps ds) {q q2 : Value} (hg : wr.grownBy wx q.ownBlock) (hv : ∀ k, q.ownBlock = some k → c ≤ k) (j : Nat) :
    Keep (fun k => q.ownBlock = some k ∨ k = v) wr (wx.setCell ⟨v, j, none⟩ q2) ∧ (wx.setCell ⟨v, j, none⟩ q2).heap[v]? = some (.cells (#[.int .i64 kd, p, d].setIfInBounds j q2) 66 (0, 0)) ∧ wx.heap[v]? = some (.cells #[.int .i64 kd, p, d] 66 (0, 0)) ∧ wx.heap[r]? = some (.cells #[.int .i64 0, .slice none 0 0, .slice none 0 0] 66 (0, 0)) := by
  obtain ⟨o1, o2, o3, o4⟩ := h.ord
  have hb2 := (hg.block v (Array.getElem?_eq_some_iff.1 h.var).1 (fun e => by have := hv _ e.symm; omega)).trans h.var
  have K1 : Keep (fun k => q.ownBlock = some k) wr wx := ⟨hg.os, hg.tape, hg.output, hg.size, fun k hk hn => hg.block k hk (fun e => hn e.symm)⟩
  exact ⟨(K1.weak (fun _ h => Or.inl h)).trans (keep_set wx v j q2) (fun k e => Or.inl (Or.inr e)), heap_setCell_same wx _ j _ _ q2 hb2, hb2, (hg.block r (Array.getElem?_eq_some_iff.1 h.res).1 (fun e => by have := hv _ e.symm; omega)).trans h.res⟩

theorem atR_at {ws : List Int} {k : Nat} (h : k < (obs ws 1).length) : atR ws ((obs ws 1)[k].1 : Int) = ((obs ws 1)[k].2 % 16, ptrsO ws (obs ws 1)[k], dataO ws (obs ws 1)[k], 0) := by
  have hs : obs ws 1 = (obs ws 1).take k ++ (obs ws 1)[k] :: (obs ws 1).drop (k + 1) := by
    rw [← List.drop_eq_getElem_cons h, List.take_append_drop]
  exact atR_some hs

set_option maxRecDepth 20000 in
set_option maxHeartbeats 2000000 in
theorem rat_any (s : Value) (ws : List Int) (at' : Int) (w : World) (hs : VRow w s (Uw ws)) (hU : U32 ws) (hl : ws.length ≤ 4194304) :
    Calls Tryz.prog 61 #[s, .int .i64 at'] w fun e w' => ∃ p d kd er, e = .returned (.tuple #[.agg #[.int .i64 kd, p, d], .int .i64 er]) ∧ ∃ ps ds, atR ws at' = (kd, ps, ds, er) ∧ w'.ownsRow w.heap.size 3 1 p ps.length (Iw ps) ∧ w'.ownsRow w.heap.size 31 1 d ds.length (Uw ds) ∧ Below w.heap.size w w' := by
  have HS := hide hs
  have HU := hide hU
  have HL := hide hl
  have HZL := hide (obs_len ws)
  obtain ⟨i0, hi, hz0, hz1, hz2⟩ := info_parts Tryz.infoI64
  obtain ⟨i4, hi4, hy0, hy1, hy2⟩ := info_parts Tryz.infoU32
  have hmx : Tryz.prog.follows .mixedOrders = true := by kernel_rfl
  have hb0 : Below w.heap.size w (w.alloc (.cells #[.int .i64 0, .slice none 0 0, .slice none 0 0] 66)) := (Below.refl _ w).alloc (Nat.le_refl _) _
  have HP := hide (rplaces_any s ws (w.alloc (.cells #[.int .i64 0, .slice none 0 0, .slice none 0 0] 66)) (hs.below hb0) hU hl)
  have HB0 := hide hb0
  obtain ⟨a, cap, rfl, g1, g2, g3⟩ := hs.shape
  rw [Uw_len2] at *
  clear g1 g2 g3 hs hU hl hb0
  go_enter Tryz.func61, Tryz.ntmps61
  go_wp2_with fail
  refine Calls.mono (unhide HP) ?_
  rintro e w1 ⟨v, rfl, hown, b1⟩
  obtain ⟨pv, cv, rfl⟩ := ownsV_shape hown
  have HV := hide (show VRow w1 (.slice pv (obs ws 1).length cv) (plV (obs ws 1)) from vrow_of_owns (by simpa [plV] using hown))
  have HRES := hide (show w1.heap[w.heap.size]? = some (.cells #[.int .i64 0, .slice none 0 0, .slice none 0 0] 66 (0, 0)) from (b1.block _ (by simp)).trans (World.alloc_heap_new w _))
  have HB1 := hide ((unhide HB0).trans (b1.mono (unhide HB0).size))
  have HAT := hide (show ∀ k (h : k < (obs ws 1).length), atR ws ((obs ws 1)[k].1 : Int) = ((obs ws 1)[k].2 % 16, ptrsO ws (obs ws 1)[k], dataO ws (obs ws 1)[k], 0) ∧ (obs ws 1)[k].2 = wd ws (obs ws 1)[k].1 ∧ okH ws (obs ws 1)[k].1 from fun k h => ⟨atR_at h, (obs_mem (List.getElem_mem h)).2⟩)
  have HNO := hide (fun (h : ∀ x ∈ obs ws 1, ¬ (x.1 : Int) = at') => atR_none h)
  obtain ⟨Z, hZ⟩ : ∃ Z, Z = obs ws 1 := ⟨_, rfl⟩
  rw [← hZ] at HZL HV HAT HNO ⊢
  clear hown b1 HP hZ
  go_wp2_with fail
  go_loop [8] (fun i => ∃ k : Nat, k ≤ Z.length ∧ i = .int .i64 (k : Int) ∧ Hid (∀ x ∈ Z.take k, ¬ (x.1 : Int) = at')) (fun i => Z.length - (intOf i).toNat)
  case atStart => exact ⟨0, Nat.zero_le _, rfl, by simp [Hid]⟩
  case round =>
    obtain ⟨k, hk, rfl, hno⟩ := hrel
    by_cases hlt : k < Z.length
    · have hkI : (k : Int) < (Z.length : Int) := by omega
      obtain ⟨b, off, cz, e0, g1, g2, hcl⟩ := (unhide HV).open (by intro e; have := congrArg List.length e; simp [plV] at this; rw [this] at hlt; simp at hlt)
      simp only [Value.slice.injEq] at e0
      obtain ⟨rfl, g3, rfl⟩ := e0
      have hc := hcl k _ (plV_at hlt)
      have hnw : IntKind.i64.wrap ((k : Int) + 1) = (k : Int) + 1 := by have := unhide HL; have := unhide HZL; rw [IntKind.wrap_i64]; omega
      have HTK := hide (show Z.take (k + 1) = Z.take k ++ [Z[k]] from List.take_succ_eq_append_getElem hlt)
      obtain ⟨hA, n2, n3⟩ := unhide HAT k hlt
      have HLT := hide hlt
      have HNK := hide hno.out
      generalize Z[k] = x at *
      clear g1 g2 g3 hcl hno hk hlt
      by_cases heq : (x.1 : Int) = at'
      · subst heq
        obtain ⟨o1, o2, o3⟩ := n3
        rw [← n2] at o2 o3
        obtain ⟨u0, u1⟩ := (unhide HU).wd x.1
        rw [← n2] at u0 u1
        have hS1 := (unhide HS).below (unhide HB1)
        obtain ⟨b', off', cz', e0', g1', g2', hcl'⟩ := hS1.open (by intro e; have := congrArg List.length e; rw [Uw_len2] at this; rw [this] at o1; simp at o1)
        simp only [Value.slice.injEq] at e0'
        obtain ⟨rfl, g3', rfl⟩ := e0'
        have hcx := hcl' x.1 _ (by rw [List.getElem?_map, wd_get o1]; rfl)
        rw [← n2] at hcx
        have f1 := szN_int u0
        have f2 := ptN_int x.2
        have f3 := ptN_lt x.2
        have hlp : (ptrsO ws x).length = ptN x.2 := by rw [ptrsO, List.length_take, List.length_drop]; omega
        have HCP := hide (show ∀ j (hj : j < (ptrsO ws x).length), w1.cell? ⟨b', off' + (x.1 + (j + 1)), none⟩ = some (.int .u32 (ptrsO ws x)[j]) ∧ 0 ≤ (ptrsO ws x)[j] ∧ (ptrsO ws x)[j] < 4294967296 ∧ x.1 + (j + 1) < ws.length by
          intro j hj
          rw [hlp] at hj
          have hjj : x.1 + (j + 1) < ws.length := by omega
          have he : (ptrsO ws x)[j]'(by rw [hlp]; exact hj) = wd ws (x.1 + (j + 1)) := by
            have h1 : (ptrsO ws x)[j]? = some (wd ws (x.1 + (j + 1))) := by
              rw [ptrsO, List.getElem?_take_of_lt hj, List.getElem?_drop, show x.1 + 1 + j = x.1 + (j + 1) by omega, wd_get hjj]
            rw [List.getElem?_eq_getElem (by rw [hlp]; exact hj)] at h1
            exact Option.some.inj h1
          rw [he]
          exact ⟨hcl' _ _ (by rw [List.getElem?_map, wd_get hjj]; rfl), ((unhide HU).wd _).1, ((unhide HU).wd _).2, hjj⟩)
        obtain ⟨q2, c2, hcut2, hrow2, _⟩ := hS1.cut_lh Tryz.underlying33 Tryz.sizeU32 (x.1 + 1 + ptN x.2) (szN x.2 - 1 - ptN x.2) (by rw [Uw_len2]; omega)
        have HR2 := hide (show VRow w1 (.slice q2 (dataO ws x).length c2) (Uw (dataO ws x)) by
          have e1 : (dataO ws x).length = szN x.2 - 1 - ptN x.2 := by rw [dataO, List.length_take, List.length_drop]; omega
          rw [e1, dataO, Uw, List.map_take, List.map_drop]
          exact hrow2)
        have e1 : szN x.2 - 1 - ptN x.2 = (dataO ws x).length := by rw [dataO, List.length_take, List.length_drop]; omega
        rw [e1] at hcut2
        have e2 : ((x.1 + 1 + ptN x.2 : Nat) : Int) + ((dataO ws x).length : Int) = (x.1 : Int) + x.2 / 4096 := by omega
        rw [e2, show ((x.1 + 1 + ptN x.2 : Nat) : Int) = (x.1 : Int) + 1 + (ptN x.2 : Int) by omega] at hcut2
        obtain ⟨ps, hps⟩ : ∃ ps, ps = ptrsO ws x := ⟨_, rfl⟩
        obtain ⟨ds, hds⟩ : ∃ ds, ds = dataO ws x := ⟨_, rfl⟩
        rw [← hps] at HCP hlp hA
        rw [← hds] at HR2 hcut2 hA
        rw [← hlp] at hcut2
        have hptl : x.2 / 16 % 256 = (ps.length : Int) := by omega
        have HSZ := hide (fun w => rsize_t x.2 w u0 u1)
        have HPT := hide (fun w => rptrs_t x.2 w u0 u1)
        have HKD := hide (fun w => rkind_t x.2 w u0 u1)
        rw [hptl] at HPT
        have HDL := hide (show ds.length < 1048576 by rw [hds, ← e1]; have := szN_lt u1; omega)
        have HPL := hide (show ps.length < 256 by omega)
        have hpI : (x.1 : Int) < (ws.length : Int) := by omega
        have hw1 : IntKind.i64.wrap ((x.1 : Int) + 1) = (x.1 : Int) + 1 := by have := unhide HL; rw [IntKind.wrap_i64]; omega
        have hw2 : IntKind.i64.wrap ((x.1 : Int) + 1 + (ps.length : Int)) = (x.1 : Int) + 1 + (ps.length : Int) := by have := unhide HL; have := unhide HPL; rw [IntKind.wrap_i64]; omega
        have hw3 : IntKind.i64.wrap ((x.1 : Int) + x.2 / 4096) = (x.1 : Int) + x.2 / 4096 := by have := unhide HL; rw [IntKind.wrap_i64]; omega
        have HA := hide hA
        have hwl : w.heap.size < w1.heap.size := (Array.getElem?_eq_some_iff.1 (unhide HRES)).1
        have hbv : Below w1.heap.size w1 (w1.alloc (.cells #[.int .i64 (x.2 % 16), .slice none 0 0, .slice none 0 0] 66)) := (Below.refl _ _).alloc (Nat.le_refl _) _
        have HST := hide (show OG w (w1.alloc (.cells #[.int .i64 (x.2 % 16), .slice none 0 0, .slice none 0 0] 66)) w.heap.size w1.heap.size (w1.heap.size + 1) (x.2 % 16) (.slice none 0 0) (.slice none 0 0) [] [] from
          ⟨(hbv.block _ hwl).trans (unhide HRES), World.alloc_heap_new w1 _, World.ownsRow_nil _ _ _ _, World.ownsRow_nil _ _ _ _, (unhide HB1).trans (hbv.mono (unhide HB1).size), Nat.le_refl _, hwl, Nat.lt_succ_self _, by simp⟩)
        obtain ⟨p, h⟩ := x
        dsimp only at *
        clear g1' g2' g3' hcl' hS1 hrow2 n2 o1 o2 o3 f1 f2 f3 hlp e1 e2 hps hds hptl hA hbv
        go_wp2_with fail
        refine Calls.mono (unhide HKD _) ?_
        rintro e w2 ⟨rfl, hw2⟩
        obtain rfl : w1 = w2 := hw2.symm
        clear hw2
        go_wp2_with fail
        go_loopw [11] (fun i wr => ∃ (k : Nat) (vp : Value), k ≤ ps.length ∧ i = .int .i64 ((k : Int) + 1) ∧ OG w wr w.heap.size w1.heap.size (w1.heap.size + 1) (h % 16) vp (.slice none 0 0) (ps.take k) [] ∧ Keep (fun b => w1.heap.size ≤ b) w1 wr) (fun i _ => ps.length + 1 - (intOf i).toNat)
        case atStart => exact ⟨0, .slice none 0 0, Nat.zero_le _, rfl, by rw [List.take_zero]; exact unhide HST, Keep.of_below ((Below.refl _ _).alloc (Nat.le_refl _) _)⟩
        case round =>
          clear HST
          obtain ⟨k, vp, hk, rfl, hos, hkw⟩ := hrel
          obtain ⟨a0, a1, a2, af⟩ := hos.cells
          have hlk : (ps.take k).length = k := by rw [List.length_take]; omega
          obtain ⟨vpp, vpc, rfl⟩ := ownsV_shape hos.rowp
          rw [hlk] at a1 hos
          by_cases hlt : k < ps.length
          · obtain ⟨hcy, y0, y1, y2⟩ := unhide HCP k hlt
            have hbl : b' < w1.heap.size := World.block_lt_of_cell? w1 _ hcy
            have hcy2 := (hkw.cell (p := ⟨b', off' + (p + (k + 1)), none⟩) hbl (fun h => by have h2 : w1.heap.size ≤ b' := h; omega)).trans hcy
            have hkI2 : (k : Int) + 1 ≤ (ps.length : Int) := by omega
            have HTK2 := hide (show ps.take (k + 1) = ps.take k ++ [ps[k]] from List.take_succ_eq_append_getElem hlt)
            generalize ps[k] = y at *
            have hyw : IntKind.i64.wrap y = y := by rw [IntKind.wrap_i64]; omega
            have hw5 : IntKind.i64.wrap ((p : Int) + ((k : Int) + 1)) = ((p + (k + 1) : Nat) : Int) := by have := unhide HL; rw [IntKind.wrap_i64]; omega
            have hw4 : IntKind.i64.wrap ((k : Int) + 1 + 1) = (k : Int) + 1 + 1 := by have := unhide HPL; rw [IntKind.wrap_i64]; omega
            have hin : ((p + (k + 1) : Nat) : Int) < (ws.length : Int) := by omega
            obtain ⟨z, hz⟩ : ∃ z, z = p + (k + 1) := ⟨_, rfl⟩
            rw [← hz] at hcy2 hw5 hin
            have hbW : Below wr.heap.size wr (wr.alloc (.cells #[.int .i64 y] 3)).drew := ((Below.refl _ wr).alloc (Nat.le_refl _) _).drew
            have hog := hos.below hbW
            have HO := hide hog
            have a1a : (wr.alloc (.cells #[.int .i64 y] 3)).cell? ⟨w1.heap.size, 1, none⟩ = some (.slice vpp k vpc) := (hbW.cell (p := ⟨w1.heap.size, 1, none⟩) (World.block_lt_of_cell? _ _ a1)).trans a1
            have hcya : (wr.alloc (.cells #[.int .i64 y] 3)).cell? ⟨b', off' + z, none⟩ = some (.int .u32 y) := (hbW.cell (p := ⟨b', off' + z, none⟩) (World.block_lt_of_cell? _ _ hcy2)).trans hcy2
            have HOW := hide (show (wr.alloc (.cells #[.int .i64 y] 3)).drew.ownsRow (w1.heap.size + 1) 3 1 (.slice vpp k vpc) k (Iw (ps.take k)) by have := hog.rowp; rw [hlk] at this; exact this)
            have HBS := hide (show w1.heap.size + 1 ≤ wr.heap.size from hos.ord.2.2.2)
            have HLT2 := hide hlt
            have HLK := hide hlk
            have HKW := hide (hkw.trans (Keep.of_below (F := fun b => w1.heap.size ≤ b) hbW) (fun x hx => Or.inl hx))
            clear hos hkw hbW hog hk hlt hlk a0 a2 af hcy y2 hz
            go_wp2_with fail
            refine Calls.mono (unhide HPT _) ?_
            rintro e w3 ⟨rfl, hw3⟩
            obtain rfl : wr = w3 := hw3.symm
            clear hw3
            go_wp2_with fail
            go_region_law (first
              | (refine step_append_gen rfl _ _ 32 rfl (w1.heap.size + 1) 3 i0 (.int .i64 0) Tryz.underlying32 hi hz0 1 8 (by omega) hz1 hz2 rfl (.slice vpp k vpc) k (Iw (ps.take k)) (by first | rfl | simp [Act.eval, Act.put]) (unhide HOW) ⟨wr.heap.size, 0, none⟩ 1 [.int .i64 y] (by first | rfl | simp [Act.eval, Act.put]) rfl (by intro j u hj; match j, hj with | 0, hj => (simp at hj; subst hj; simp [Addr.add])) (by intro u hu; simp at hu; subst hu; rfl) (by have := unhide HPL; have := unhide HLT2; unfold maxLen; omega) (by have := unhide HPL; have := unhide HLT2; omega) (by show w1.heap.size + 1 ≤ (wr.alloc (.cells #[.int .i64 y] 3)).heap.size; rw [World.size_alloc]; have := unhide HBS; omega) ?_; intro v2 w6 hown6 hgrow6 hob6; obtain ⟨K1, g1, e1, er⟩ := (unhide HO).set (q2 := v2) hgrow6 (fun k' e => ((unhide HOW).lt k' e).1) 1; obtain ⟨_, z1, _, zf⟩ := three_cells e1; have zf1 := zf 1; obtain ⟨p2, c3, rfl⟩ := ownsV_shape hown6; have HJ := hide (And.intro K1 (And.intro g1 hown6)); clear hown6 hgrow6 K1 g1 e1 er hob6 zf))
            all_goals
              go_wp2_with fail
              obtain ⟨K1, g1, hown6⟩ := unhide HJ
              have ho := unhide HO
              obtain ⟨o1, o2, o3, o4⟩ := ho.ord
              have hv0 : ∀ k', (Value.slice vpp k vpc).ownBlock = some k' → w1.heap.size + 1 ≤ k' := fun k' e => ((unhide HOW).lt k' e).1
              have hov : ∀ k', (Value.slice p2 (k + 1) c3).ownBlock = some k' → w1.heap.size + 1 ≤ k' := fun k' e => (hown6.lt k' e).1
              go_roundw
              case rel =>
                refine ⟨k + 1, _, unhide HLT2, by go_num, ⟨(K1.block _ (Array.getElem?_eq_some_iff.1 ho.res).1 (fun hk => ?_)).trans ho.res, g1, ?_, World.ownsRow_nil _ _ _ _, ?_, o1, o2, o3, Nat.le_trans o4 K1.size⟩, (unhide HKW).trans K1 (fun x hx => ?_)⟩
                · rcases hk with hk | hk
                  · have := hv0 _ hk; omega
                  · omega
                · have hl : (ps.take (k + 1)).length = k + 1 := by rw [unhide HTK2, List.length_append, unhide HLK]; rfl
                  rw [hl, unhide HTK2, Iw, List.map_append]
                  exact ownsV_keep (by first | exact hown6 | (rw [← List.map_take] at hown6; exact hown6)) (keep_set w6 w1.heap.size 1 _) (fun k' hk' e => by have := hov k' hk'; omega)
                · refine ho.bel.trans (K1.below ho.bel.size (fun k' hk' => ?_))
                  rcases hk' with hk' | hk'
                  · have := hv0 _ hk'; omega
                  · omega
                · rcases hx with hx | hx
                  · exact Or.inl (by have := hv0 _ hx; omega)
                  · exact Or.inl (by omega)
              case measure => (have := unhide HLT2; simp [intOf]; omega)
          · have hke : k = ps.length := by omega
            subst hke
            rw [List.take_length] at hos
            have hgt : (ps.length : Int) < (ps.length : Int) + 1 := by omega
            have hd1 : Below wr.heap.size wr wr.drew := (Below.refl _ wr).drew
            have HOD := hide (hos.below hd1)
            have hR : VRow wr (.slice q2 ds.length c2) (Uw ds) := (unhide HR2).keep hkw (fun b off c e hne hb => by
              have h1 := hs_block (unhide HR2) hne b (by rw [e]; rfl)
              omega)
            have HR2' := hide (hR.below hd1)
            have hone : ∀ u ∈ Uw ds, u.oneCell' = true := by
              intro u hu
              obtain ⟨_, _, rfl⟩ := List.mem_map.1 hu
              rfl
            have HON := hide hone
            have a2d : ({ wr with drawn := wr.drawn + 1 } : World).cell? ⟨w1.heap.size, 2, none⟩ = some (.slice none 0 0) := a2
            have HBS := hide (show w1.heap.size + 1 ≤ wr.drew.heap.size from hos.ord.2.2.2)
            clear hos hkw hd1 hR hone hk hlt hlk a0 a1 af
            go_wp2_with fail
            refine Calls.mono (unhide HPT _) ?_
            rintro e w3 ⟨rfl, hw3⟩
            obtain rfl : wr = w3 := hw3.symm
            clear hw3
            go_wp2_with fail
            refine wp_region_still_tail 13 hmx (by kernel_rfl) ?_
            simp only [List.take_succ_cons, List.take_zero, List.drop_succ_cons, List.drop_zero]
            repeat (first | still_step | still_call (unhide HPT _) | still_call (unhide HSZ _))
            refine wpStill_nil ?_
            go_wp2_with (first
              | (at_builtin; refine wpList_append_vrow rfl _ _ 33 rfl (w1.heap.size + 1) 31 i4 (.int .u32 0) Tryz.underlying33 hi4 hy0 4 hy1 hy2 rfl (.slice none 0 0) 0 [] rfl (World.ownsRow_nil _ _ _ _) q2 ds.length c2 (Uw ds) rfl (unhide HR2') (unhide HON) (by have := unhide HDL; unfold maxLen; omega) (by have := unhide HDL; omega) (unhide HBS) ?_))
            intro v2 w6 hown6 hgrow6 hob6
            obtain ⟨K1, g1, e1, er⟩ := (unhide HOD).set (q2 := v2) hgrow6 (by simp [Value.ownBlock]) 2
            obtain ⟨z0, z1, z2, zf⟩ := three_cells e1
            have zf2 := zf 2
            obtain ⟨x0, x1, x2, xf⟩ := three_cells er
            have xf0 := xf 0
            have xf1 := xf 1
            have xf2 := xf 2
            obtain ⟨p2, c3, rfl⟩ := ownsV_shape hown6
            have HJ := hide (And.intro K1 (And.intro g1 (And.intro hown6 er)))
            clear hown6 hgrow6 K1 g1 e1 er hob6 zf xf
            go_wp2_with fail
            obtain ⟨K1, g1, hown6, er⟩ := unhide HJ
            have hod := unhide HOD
            obtain ⟨o1, o2, o3, o4⟩ := hod.ord
            have K0 : Keep (fun k' => k' = w.heap.size ∨ k' = w1.heap.size) wr.drew (w6.setCell ⟨w1.heap.size, 2, none⟩ (.slice p2 ds.length c3)) := K1.weak (fun k' e => by
              rcases e with e | e
              · simp [Value.ownBlock] at e
              · exact Or.inr e)
            have er2 := ((keep_set w6 w1.heap.size 2 (.slice p2 ds.length c3)).block w.heap.size (Array.getElem?_eq_some_iff.1 er).1 (by omega)).trans er
            obtain ⟨s3, K3⟩ := set_three (x := .int .i64 (h % 16)) (y := .slice vpp ps.length vpc) (z := .slice p2 ds.length c3) er2
            obtain ⟨t0, t1, t2, _⟩ := three_cells s3
            have K4 := K0.trans K3 (fun k' e => Or.inl (Or.inl e))
            have hrp := hod.rowp
            refine bodyPost_ret (v := .tuple #[.agg #[.int .i64 (h % 16), .slice vpp ps.length vpc, .slice p2 ds.length c3], .int .i64 0]) (by simp [results, Tryz.results61, go_sem, t0, t1, t2]) rfl ⟨_, _, _, _, rfl, _, _, unhide HA, ?_, ?_, ?_⟩
            · exact ownsV_base (ownsV_keep hrp K4 (fun k' hk' e => by have := (hrp.lt k' hk').1; omega)) (by omega)
            · refine ownsV_base (ownsV_keep (ownsV_keep hown6 (keep_set w6 w1.heap.size 2 (.slice p2 ds.length c3)) (fun k' hk' e => by have := (hown6.lt k' hk').1; omega)) K3 (fun k' hk' e => by have := (hown6.lt k' hk').1; omega)) (by omega)
            · exact hod.bel.trans (K4.below hod.bel.size (fun k' e => by omega))
      · have hne : ((x.1 : Int) == at') = false := by simpa using heq
        have HNE := hide heq
        clear heq hA n2 n3
        go_wp2_with fail
        go_round
        case rel =>
          refine ⟨k + 1, unhide HLT, by go_num, ?_⟩
          unfold Hid
          rw [unhide HTK]
          intro y hy
          rcases List.mem_append.1 hy with hy | hy
          · exact unhide HNK y hy
          · simp only [List.mem_cons, List.not_mem_nil, or_false] at hy
            rw [hy]
            exact unhide HNE
        case measure => (have := unhide HLT; simp [intOf]; omega)
    · have hke : k = Z.length := by omega
      subst hke
      rw [List.take_length] at hno
      have HN := hide (unhide HNO hno.out)
      obtain ⟨x0, x1, x2, xf⟩ := three_cells (unhide HRES)
      have xf0 := xf 0
      have xf1 := xf 1
      have xf2 := xf 2
      clear hk hlt hno xf
      go_wp2_with fail
      obtain ⟨s3, K3⟩ := set_three (x := .int .i64 0) (y := .slice none 0 0) (z := .slice none 0 0) (unhide HRES)
      obtain ⟨t0, t1, t2, _⟩ := three_cells s3
      refine bodyPost_ret (v := .tuple #[.agg #[.int .i64 0, .slice none 0 0, .slice none 0 0], .int .i64 6]) (by simp [results, Tryz.results61, go_sem, t0, t1, t2]) rfl ⟨_, _, _, _, rfl, _, _, unhide HN, World.ownsRow_nil _ _ _ _, World.ownsRow_nil _ _ _ _, ?_⟩
      exact (unhide HB1).trans (K3.below (unhide HB1).size (fun k' e => by omega))
end Go.Proofs.YtlbhhdldeaehkaaGreat
