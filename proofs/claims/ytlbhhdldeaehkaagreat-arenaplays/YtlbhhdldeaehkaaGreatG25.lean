/- Texts of ours, one behind the other: ArRef1, ArRef2, ArRef3, ArRef4. -/
import Derived.Test.YtlbhhdldeaehkaaGreatG5
import Derived.Test.YtlbhhdldeaehkaaGreatG6
import Derived.Test.YtlbhhdldeaehkaaGreatG14
import Derived.Test.YtlbhhdldeaehkaaGreatG16
import Derived.Test.YtlbhhdldeaehkaaGreatG20
import Derived.Test.YtlbhhdldeaehkaaGreatG21
import Derived.Test.YtlbhhdldeaehkaaGreatG22
import Derived.Test.YtlbhhdldeaehkaaGreatG24
import Derived.Test.YtlbhhdldeaehkaaGreatG27
import Derived.Deep.RegionHeld3
/- The reference's arena in memory; its small questions. -/
namespace Go.Proofs.YtlbhhdldeaehkaaGreat
open Go.RowKit

/-- An arena of the reference: a block with how many words, the words' row, sixteen roots. -/
structure RAt (w : World) (g : Nat) (wv : Value) (n : Nat) (ws rs : List Int) : Prop where
  blk : w.heap[g]? = some (.cells (.int .i64 (n : Int) :: wv :: Iw rs).toArray 50 (0, 0))
  wown : w.ownsRow 0 31 1 wv ws.length (Uw ws)
  ok : AOk n ws rs
def RA (F : Nat → Prop) (w : World) (g n : Nat) (ws rs : List Int) : Prop := ∃ wv, RAt w g wv n ws rs ∧ ∀ k, F k ↔ k = g ∨ wv.ownBlock = some k
theorem RAt.cells {w : World} {g : Nat} {wv : Value} {n : Nat} {ws rs : List Int} (h : RAt w g wv n ws rs) : w.cell? ⟨g, 0, none⟩ = some (.int .i64 (n : Int)) ∧ w.cell? ⟨g, 1, none⟩ = some wv ∧ (∀ j, j < 16 → w.cell? ⟨g, 2 + j, none⟩ = some (.int .i64 (wd rs j))) ∧ ∀ j, w.frozen? ⟨g, j, none⟩ = false := by
  refine ⟨by rw [cell_of_row _ _ _ _ _ (0, 0) h.blk]; rfl, by rw [cell_of_row _ _ _ _ _ (0, 0) h.blk]; rfl, fun j hj => ?_, fun j => frozen_of_block h.blk⟩
  rw [cell_of_row _ _ _ _ _ (0, 0) h.blk]
  have hl := h.ok.slots
  rw [List.getElem?_toArray, show 2 + j = j + 1 + 1 by omega, List.getElem?_cons_succ, List.getElem?_cons_succ, List.getElem?_map, wd_get (by omega)]
  rfl
theorem RAt.wrow {w : World} {g : Nat} {wv : Value} {n : Nat} {ws rs : List Int} (h : RAt w g wv n ws rs) : VRow w wv (Uw ws) := ownsV_row h.wown (by simp)
theorem RAt.rrow {w : World} {g : Nat} {wv : Value} {n : Nat} {ws rs : List Int} (h : RAt w g wv n ws rs) : VRow w (.slice (some ⟨g, 2, none⟩) 16 16) (Iw rs) := by
  have hl := h.ok.slots
  refine ⟨some ⟨g, 2, none⟩, 16, by simp [hl], by simp [hl], by unfold maxLen; omega, fun e => (by cases e), Or.inr ⟨g, 2, rfl, fun j u hu => ?_⟩⟩
  rw [List.getElem?_map] at hu
  by_cases hj : j < 16
  · rw [wd_get (by omega)] at hu
    simp only [Option.map_some, Option.some.injEq] at hu
    rw [← hu]
    exact h.cells.2.2.1 j hj
  · rw [List.getElem?_eq_none (by omega)] at hu
    cases hu
theorem RAt.apart {w : World} {g : Nat} {wv : Value} {n : Nat} {ws rs : List Int} (h : RAt w g wv n ws rs) : wv.ownBlock ≠ some g := own_type h.wown h.blk (by decide)
theorem RAt.keep {G : Nat → Prop} {w w' : World} {g : Nat} {wv : Value} {n : Nat} {ws rs : List Int} (h : RAt w g wv n ws rs) (hk : Keep G w w') (h1 : ¬ G g) (h2 : ∀ k, wv.ownBlock = some k → ¬ G k) : RAt w' g wv n ws rs :=
  ⟨(hk.block g (Array.getElem?_eq_some_iff.1 h.blk).1 h1).trans h.blk, ownsV_keep h.wown hk h2, h.ok⟩
theorem RAt.below {w w' : World} {g : Nat} {wv : Value} {n : Nat} {ws rs : List Int} (h : RAt w g wv n ws rs) (hb : Below w.heap.size w w') : RAt w' g wv n ws rs := h.keep (Keep.of_below (F := fun _ => False) hb) id (fun _ _ => id)
theorem RA.owok (g n : Nat) (ws rs : List Int) : OwOk (fun F w => RA F w g n ws rs) where
  stays := fun _ _ _ _ ⟨wv, h1, h2⟩ hk hn => ⟨wv, h1.keep hk (hn g ((h2 g).2 (Or.inl rfl))) (fun k hv => hn k ((h2 k).2 (Or.inr hv))), h2⟩
  lt := fun _ _ ⟨wv, h1, h2⟩ k hk => by
    rcases (h2 k).1 hk with rfl | h
    · exact (Array.getElem?_eq_some_iff.1 h1.blk).1
    · exact (h1.wown.lt k h).2
theorem RA.ok {F : Nat → Prop} {w : World} {g n : Nat} {ws rs : List Int} (h : RA F w g n ws rs) : AOk n ws rs := by
  obtain ⟨wv, h, _⟩ := h
  exact h.ok

theorem rnew_arg (n : Int) (w : World) (h : n < 16 ∨ 1048576 < n) : Calls Tryz.prog 5 #[.int .i64 n] w fun e w' => e = .returned (.tuple #[.pointer none, .int .i64 1]) ∧ w' = w := by
  by_cases h1 : n < 16
  · clear h
    go_enter Tryz.func5, Tryz.ntmps5
    go_wp2_with fail
    go_ret2
    exact ⟨rfl, rfl⟩
  · have h2 : 1048576 < n := by omega
    have h3 : (16 : Int) ≤ n := by omega
    clear h h1
    go_enter Tryz.func5, Tryz.ntmps5
    go_wp2_with fail
    go_ret2
    exact ⟨rfl, rfl⟩
set_option maxRecDepth 20000 in
theorem rnew_any (n : Nat) (w : World) (h1 : 16 ≤ n) (h2 : n ≤ 1048576) : Calls Tryz.prog 5 #[.int .i64 (n : Int)] w fun e w' => ∃ g F, e = .returned (.tuple #[.pointer (some ⟨g, 0, none⟩), .int .i64 0]) ∧ RA F w' g n [0] (List.replicate 16 0) ∧ (∀ k, F k → w.heap.size ≤ k) ∧ Below w.heap.size w w' := by
  have HOK := hide (AOk.new h1 h2)
  have q1 : (16 : Int) ≤ (n : Int) := by omega
  have q2 : (n : Int) ≤ 1048576 := by omega
  clear h1 h2
  go_enter Tryz.func5, Tryz.ntmps5
  go_wp2_with fail
  go_ret2
  have hb1 : Below w.heap.size w (w.alloc (.cells #[.int .u32 0] 31)) := (Below.refl _ _).alloc (Nat.le_refl _) _
  have hs1 : (w.alloc (.cells #[.int .u32 0] 31)).heap.size = w.heap.size + 1 := World.size_alloc _ _
  have hnw := World.alloc_heap_new (w.alloc (.cells #[.int .u32 0] 31)) (.cells (.int .i64 (n : Int) :: .slice (some ⟨w.heap.size, 0, none⟩) 1 1 :: Iw (List.replicate 16 0)).toArray 50)
  rw [hs1] at hnw
  have hb2 : Below w.heap.size w ((w.alloc (.cells #[.int .u32 0] 31)).alloc (.cells (.int .i64 (n : Int) :: .slice (some ⟨w.heap.size, 0, none⟩) 1 1 :: Iw (List.replicate 16 0)).toArray 50)) := hb1.alloc (by omega) _
  have how := ownsV_keep (F := fun _ => False) (own_word w) (Keep.of_below ((Below.refl _ _).alloc (Nat.le_refl _) (.cells (.int .i64 (n : Int) :: .slice (some ⟨w.heap.size, 0, none⟩) 1 1 :: Iw (List.replicate 16 0)).toArray 50))) (fun _ _ => id)
  refine ⟨w.heap.size + 1, fun k => k = w.heap.size + 1 ∨ k = w.heap.size, rfl, ⟨.slice (some ⟨w.heap.size, 0, none⟩) 1 1, ⟨hnw, ownsV_base how (Nat.zero_le _), unhide HOK⟩, fun k => by simp [Value.ownBlock, eq_comm]⟩, fun k hk => by omega, hb2⟩

set_option maxRecDepth 20000 in
theorem ris16_any (w : World) (g : Nat) (wv : Value) (n : Nat) (ws rs : List Int) (a : Int) (h : RAt w g wv n ws rs) :
    Calls Tryz.prog 65 #[.pointer (some ⟨g, 0, none⟩), .int .i64 a] w fun e w' => e = .returned (.bool (mayB ws a)) ∧ Below w.heap.size w w' := by
  obtain ⟨c0, c1, _, _⟩ := h.cells
  have HAT := hide (fun (W : World) (hb : Below w.heap.size w W) => rat_any wv ws a W (h.wrow.below hb) h.ok.u32 (by have := h.ok.len; omega))
  obtain ⟨pw, cw, rfl⟩ := ownsV_shape h.wown
  by_cases h0 : a = 0
  · subst h0
    rw [show mayB ws 0 = true by simp [mayB]]
    clear h HAT c0 c1
    go_enter Tryz.func65, Tryz.ntmps65
    go_wp2_with fail
    go_ret
    exact ⟨rfl, Below.refl _ _⟩
  · have hb0 : (a == 0) = false := by simp [h0]
    have hres : mayB ws a = ((atR ws a).2.2.2 == 0) := by
      by_cases ho : isOb ws a
      · rw [atR_is ho]; simp [mayB, ho]
      · rw [atR_not ho]; simp [mayB, ho, h0]
    have HRES := hide hres
    clear h hres
    go_enter Tryz.func65, Tryz.ntmps65
    go_wp2_with fail
    refine Calls.mono (unhide HAT _ (Below.refl _ _)) ?_
    rintro e w1 ⟨p, d, kd, er, rfl, ps, ds, heq, op, od, b1⟩
    have HB := hide (And.intro b1 heq)
    obtain ⟨pp, pc, rfl⟩ := ownsV_shape op
    obtain ⟨dp, dc, rfl⟩ := ownsV_shape od
    clear b1 heq op od
    go_wp2_with fail
    go_ret
    exact ⟨by rw [unhide HRES, (unhide HB).2]; rfl, (unhide HB).1.trans ((Below.refl _ _).alloc (unhide HB).1.size _)⟩
set_option maxRecDepth 20000 in
theorem rat16_any (w : World) (g : Nat) (wv : Value) (n : Nat) (ws rs : List Int) (a : Int) (h : RAt w g wv n ws rs) :
    Calls Tryz.prog 24 #[.pointer (some ⟨g, 0, none⟩), .int .i64 a] w fun e w' => ∃ p d kd er, e = .returned (.tuple #[.agg #[.int .i64 kd, p, d], .int .i64 er]) ∧ ∃ ps ds, atR ws a = (kd, ps, ds, er) ∧ w'.ownsRow w.heap.size 3 1 p ps.length (Iw ps) ∧ w'.ownsRow w.heap.size 31 1 d ds.length (Uw ds) ∧ Below w.heap.size w w' := by
  have hb0 : Below w.heap.size w (w.alloc (.cells #[.int .i64 0, .slice none 0 0, .slice none 0 0] 66)) := (Below.refl _ w).alloc (Nat.le_refl _) _
  have h0 := h.below hb0
  obtain ⟨c0, c1, _, _⟩ := h0.cells
  have HAT := hide (rat_any wv ws a _ h0.wrow h.ok.u32 (by have := h.ok.len; omega))
  have HB0 := hide hb0
  have hx := World.alloc_heap_new w (.cells #[.int .i64 0, .slice none 0 0, .slice none 0 0] 66)
  have HX := hide hx
  obtain ⟨pw, cw, rfl⟩ := ownsV_shape h.wown
  clear h h0 hb0 hx
  go_enter Tryz.func24, Tryz.ntmps24
  go_wp2_with fail
  refine Calls.mono (unhide HAT) ?_
  rintro e w1 ⟨p, d, kd, er, rfl, ps, ds, heq, op, od, b1⟩
  have H := hide (And.intro heq (And.intro op (And.intro od b1)))
  have h3 := (b1.block _ (Array.getElem?_eq_some_iff.1 (unhide HX)).1).trans (unhide HX)
  obtain ⟨y0, y1, y2, yf⟩ := three_cells h3
  have yf0 := yf 0
  have yf1 := yf 1
  have yf2 := yf 2
  have HY := hide h3
  obtain ⟨pp, pc, rfl⟩ := ownsV_shape op
  obtain ⟨dp, dc, rfl⟩ := ownsV_shape od
  clear heq op od b1 h3 yf
  go_wp2_with fail
  obtain ⟨h1, h2, h4, h5⟩ := unhide H
  obtain ⟨s3, K3⟩ := set_three (x := .int .i64 kd) (y := .slice pp ps.length pc) (z := .slice dp ds.length dc) (unhide HY)
  have hsz := (unhide HB0).size
  have hsx : (w.alloc (.cells #[.int .i64 0, .slice none 0 0, .slice none 0 0] 66)).heap.size = w.heap.size + 1 := World.size_alloc _ _
  have r1 := ownsV_base (ownsV_keep h2 K3 (fun k hk e => by have := (h2.lt k hk).1; omega)) hsz
  have r2 := ownsV_base (ownsV_keep h4 K3 (fun k hk e => by have := (h4.lt k hk).1; omega)) hsz
  have hB1 := (unhide HB0).trans (h5.mono hsz)
  have hB := hB1.trans (K3.below hB1.size (fun k e => by omega))
  obtain ⟨z0, z1, z2, _⟩ := three_cells s3
  refine bodyPost_ret (v := .tuple #[.agg #[.int .i64 kd, .slice pp ps.length pc, .slice dp ds.length dc], .int .i64 er]) (by simp [results, Tryz.results24, go_sem, z0, z1, z2]) rfl ?_
  exact ⟨_, _, _, _, rfl, ps, ds, h1, r1, r2, hB⟩
set_option maxRecDepth 20000 in
theorem rroot16_any (w : World) (g : Nat) (wv : Value) (n : Nat) (ws rs : List Int) (s : Int) (h : RAt w g wv n ws rs) :
    Calls Tryz.prog 31 #[.pointer (some ⟨g, 0, none⟩), .int .i64 s] w fun e w' => e = .returned (.int .i64 (rootP rs s)) ∧ w' = w := by
  obtain ⟨_, _, c2, _⟩ := h.cells
  have hu := Tryz.underlying48
  by_cases hs : 0 ≤ s ∧ s < 16
  · unfold rootP
    rw [if_pos hs]
    obtain ⟨k, rfl⟩ := Int.eq_ofNat_of_zero_le hs.1
    have hk : (k : Int) < 16 := hs.2
    have ck := c2 k (by omega)
    rw [Int.toNat_natCast]
    generalize wd rs k = x at *
    clear h c2 hs
    go_enter Tryz.func31, Tryz.ntmps31
    go_wp2_with fail
    go_ret
    exact ⟨rfl, rfl⟩
  · unfold rootP
    rw [if_neg hs]
    clear h c2
    by_cases h0 : s < 0
    · clear hs
      go_enter Tryz.func31, Tryz.ntmps31
      go_wp2_with fail
      go_ret
      exact ⟨rfl, rfl⟩
    · have h1 : (0 : Int) ≤ s := by omega
      have h2 : (16 : Int) ≤ s := by omega
      clear hs h0
      go_enter Tryz.func31, Tryz.ntmps31
      go_wp2_with fail
      go_ret
      exact ⟨rfl, rfl⟩
set_option maxRecDepth 20000 in
theorem rlive16_any (w : World) (g : Nat) (wv : Value) (n : Nat) (ws rs : List Int) (h : RAt w g wv n ws rs) :
    Calls Tryz.prog 43 #[.pointer (some ⟨g, 0, none⟩)] w fun e w' => ∃ l, e = .returned (.int .i64 ((sums ws l : Nat) : Int)) ∧ LiveIs ws rs l ∧ Below w.heap.size w w' := by
  obtain ⟨c0, c1, _, _⟩ := h.cells
  have hu := Tryz.underlying48
  have HW := hide (fun (W : World) (hb : Below w.heap.size w W) => rwords14_any wv (.slice (some ⟨g, 2, none⟩) 16 16) ws rs W (h.wrow.below hb) (h.rrow.below hb) h.ok.u32)
  have HC := hide (fun (W : World) (hb : Below w.heap.size w W) => And.intro (h.below hb).cells.1 (h.below hb).cells.2.1)
  have HR := hide h.ok.right
  have HU := hide h.ok.u32
  obtain ⟨pw, cw, rfl⟩ := ownsV_shape h.wown
  clear h
  have hmx : Tryz.prog.follows .mixedOrders = true := by kernel_rfl
  go_enter Tryz.func43, Tryz.ntmps43
  go_wp2_with fail
  go_region_held3 (fun w' => w'.cell? ⟨g, 1, none⟩ = some (.slice pw ws.length cw)) (first | assumption | go_keep) (first
    | (go_at_call 74; refine Calls.mono (unhide HW _ ((Below.refl _ _).drew)) ?_; rintro e w2 ⟨l, rfl, hl, b2⟩; have hS2 := (unhide HC w2 (((Below.refl _ _).drew).trans b2)).2; have HL := hide (And.intro hl b2); clear hl b2))
  clear hS2
  go_wp2_with fail
  go_ret
  rw [sums_int (unhide HU)]
  exact ⟨l, rfl, (unhide HL).1.1 (unhide HR), ((Below.refl _ _).drew).trans (unhide HL).2⟩
end Go.Proofs.YtlbhhdldeaehkaaGreat

/- The reference's arena: Set, SetRoot. -/
namespace Go.Proofs.YtlbhhdldeaehkaaGreat
open Go.RowKit

theorem RAt.set {w : World} {g b c n : Nat} {ws rs : List Int} {a v : Int} {k : Nat} (h : RAt w g (.slice (some ⟨b, 0, none⟩) ws.length c) n ws rs) (ho : isOb ws a) (hk : k < (dtA ws a).length) (h0 : 0 ≤ v) (h1 : v < 4294967296) :
    RAt (w.setCell ⟨b, a.toNat + 1 + ptN (wd ws a.toNat) + k, none⟩ (.int .u32 v)) g (.slice (some ⟨b, 0, none⟩) ws.length c) n (setW ws a k v) rs := by
  have K := keep_set w b (a.toNat + 1 + ptN (wd ws a.toNat) + k) (.int .u32 v)
  have hb : g ≠ b := fun e => h.apart (by rw [e]; rfl)
  refine ⟨(K.block g (Array.getElem?_eq_some_iff.1 h.blk).1 hb).trans h.blk, ?_, (h.ok.set ho hk h0 h1).1⟩
  have := owns_set h.wown (a.toNat + 1 + ptN (wd ws a.toNat) + k) (.int .u32 v)
  unfold setW
  rw [List.length_set, Uw, List.map_set]
  exact this

set_option maxRecDepth 20000 in
set_option maxHeartbeats 2000000 in
theorem rset16_any (F : Nat → Prop) (w : World) (g n : Nat) (ws rs : List Int) (a i v : Int) (hA : RA F w g n ws rs) (h0 : 0 ≤ v) (h1 : v < 4294967296) :
    Calls Tryz.prog 27 #[.pointer (some ⟨g, 0, none⟩), .int .i64 a, .int .i64 i, .int .u32 v] w fun e w' => e = .returned (.int .i64 (setP ws a i v).1) ∧ RA F w' g n (setP ws a i v).2 rs ∧ Keep F w w' := by
  obtain ⟨wv, h, hF⟩ := hA
  obtain ⟨c0, c1, _, _⟩ := h.cells
  have HAT := hide (rat_any wv ws a w h.wrow h.ok.u32 (by have := h.ok.len; omega))
  have HF := hide hF
  have HV := hide (And.intro h0 h1)
  have hpos := h.ok.pos
  have hlen := h.ok.len
  obtain ⟨b, c, rfl⟩ : ∃ b c, wv = .slice (some ⟨b, 0, none⟩) ws.length c := by
    rcases h.wown.2 with ⟨_, h0⟩ | ⟨b, cap, cur, h0, _⟩
    · omega
    · exact ⟨b, cap, h0⟩
  have HH := hide h
  unfold setP
  by_cases ho : isOb ws a
  · rw [if_pos ho]
    rw [atR_is ho] at HAT
    obtain ⟨s1, s2, s3, s4⟩ := isOb_size ho
    have hdl := dtA_len ho
    have hpl := ptsA_len ho
    unfold szA at hdl
    have ha0 := ho.1
    by_cases hi : 0 ≤ i ∧ i < (dtA ws a).length
    · rw [if_pos hi]
      obtain ⟨i0, i1⟩ := hi
      obtain ⟨k, rfl⟩ := Int.eq_ofNat_of_zero_le i0
      rw [Int.toNat_natCast]
      have hk : k < (dtA ws a).length := by omega
      have hj : a.toNat + 1 + ptN (wd ws a.toNat) + k < ws.length := by omega
      have HK := hide hk
      have hcell := fun (W : World) (hb : Below w.heap.size w W) => (show W.cell? ⟨b, a.toNat + 1 + ptN (wd ws a.toNat) + k, none⟩ = some (.int .u32 (wd ws (a.toNat + 1 + ptN (wd ws a.toNat) + k))) ∧ W.frozen? ⟨b, a.toNat + 1 + ptN (wd ws a.toNat) + k, none⟩ = false ∧ W.cell? ⟨g, 1, none⟩ = some (.slice (some ⟨b, 0, none⟩) ws.length c) from by
        have h2 := h.below hb
        have hc := h2.wown.cells (g := b) rfl (a.toNat + 1 + ptN (wd ws a.toNat) + k) (.int .u32 (wd ws (a.toNat + 1 + ptN (wd ws a.toNat) + k))) (by rw [List.getElem?_map, wd_get hj]; rfl)
        rw [Addr.add_lit, Nat.zero_add] at hc
        refine ⟨hc, ?_, h2.cells.2.1⟩
        rcases h2.wown.2 with ⟨e, _⟩ | ⟨b', cap, cur, e, _, hb, _⟩
        · cases e
        · simp only [Value.slice.injEq, Option.some.injEq, Addr.mk.injEq] at e
          obtain ⟨⟨rfl, _⟩, _⟩ := e
          exact frozen_of_block hb)
      have HCELL := hide hcell
      have e1 : wrap64 (wrap64 (wrap64 (a + 1) + ((ptsA ws a).length : Int)) + (k : Int)) = ((a.toNat + 1 + ptN (wd ws a.toNat) + k : Nat) : Int) := by unfold wrap64; omega
      have e2 : IntKind.i64.wrap (IntKind.i64.wrap (IntKind.i64.wrap (a + 1) + ((ptsA ws a).length : Int)) + (k : Int)) = ((a.toNat + 1 + ptN (wd ws a.toNat) + k : Nat) : Int) := by simp only [IntKind.wrap_i64]; omega
      have hJI : ((a.toNat + 1 + ptN (wd ws a.toNat) + k : Nat) : Int) < (ws.length : Int) := by omega
      have HFIN := hide (fun (W : World) (hb : Below w.heap.size w W) => show RA F (W.setCell ⟨b, a.toNat + 1 + ptN (wd ws a.toNat) + k, none⟩ (.int .u32 v)) g n (setW ws a k v) rs ∧ Keep F w (W.setCell ⟨b, a.toNat + 1 + ptN (wd ws a.toNat) + k, none⟩ (.int .u32 v)) from
        ⟨⟨_, (h.below hb).set (v := v) ho hk h0 h1, hF⟩, (Keep.of_below hb).trans (keep_set W b _ _) (fun x hx => Or.inl ((hF x).2 (Or.inr (by rw [hx]; rfl))))⟩)
      generalize a.toNat + 1 + ptN (wd ws a.toNat) + k = J at *
      generalize wd ws J = y at *
      generalize setW ws a k v = ws2 at *
      generalize wd ws a.toNat % 16 = kd at *
      have hkI : (k : Int) < ((dtA ws a).length : Int) := i1
      generalize ptsA ws a = ps at *
      generalize dtA ws a = ds at *
      clear h hF ho s1 s2 s3 s4 hdl hpl hj hk i0 i1 h0 h1 hcell hpos hlen ha0
      go_enter Tryz.func27, Tryz.ntmps27
      go_wp2_with fail
      refine Calls.mono (unhide HAT) ?_
      rintro e w1 ⟨p, d, kd', er, rfl, ps', ds', heq, op, od, b1⟩
      simp only [Prod.mk.injEq] at heq
      obtain ⟨rfl, rfl, rfl, rfl⟩ := heq
      obtain ⟨pp, pc, rfl⟩ := ownsV_shape op
      obtain ⟨dp, dc, rfl⟩ := ownsV_shape od
      obtain ⟨W2, hW2⟩ : ∃ W2, w1.alloc (.cells #[.int .i64 kd, .slice pp ps.length pc, .slice dp ds.length dc] 66) = W2 := ⟨_, rfl⟩
      have hb2 : Below w.heap.size w W2 := by rw [← hW2]; exact b1.trans (((Below.refl _ _).alloc (Nat.le_refl _) _).mono b1.size)
      have hx3 : W2.heap[w1.heap.size]? = some (.cells #[.int .i64 kd, .slice pp ps.length pc, .slice dp ds.length dc] 66 (0, 0)) := by rw [← hW2]; exact World.alloc_heap_new _ _
      obtain ⟨x0, x1, x2, _⟩ := three_cells hx3
      obtain ⟨y0, y1, y2⟩ := unhide HCELL W2 hb2
      have HB := hide hb2
      clear op od b1 hb2 hx3
      go_wp2_with fail
      have hmx : Tryz.prog.follows .mixedOrders = true := by kernel_rfl
      refine wp_region_still_tail 14 hmx (by kernel_rfl) ?_
      simp only [List.take_succ_cons, List.take_zero, List.drop_succ_cons, List.drop_zero]
      repeat (first | still_step)
      refine wpStill_nil ?_
      go_wp2_with fail
      go_ret
      have := unhide HFIN _ ((unhide HB).trans ((Below.refl _ W2).drew.mono (unhide HB).size))
      exact ⟨rfl, this.1, this.2⟩
    · rw [if_neg hi]
      have HFIN := hide (fun (W : World) (hb : Below w.heap.size w W) => show RA F W g n ws rs ∧ Keep F w W from ⟨(RA.owok g n ws rs).below ⟨_, h, hF⟩ hb, Keep.of_below hb⟩)
      generalize wd ws a.toNat % 16 = kd at *
      generalize ptsA ws a = ps at *
      generalize dtA ws a = ds at *
      by_cases hi0 : 0 ≤ i
      all_goals
        first
        | have hi1 : (ds.length : Int) ≤ i := by
            have : ¬ i < (ds.length : Int) := fun h => hi ⟨hi0, h⟩
            omega
        | have hi1 : i < 0 := by omega
        clear h hF ho s1 s2 s3 s4 hdl hpl h0 h1 hpos hlen ha0 hi
        go_enter Tryz.func27, Tryz.ntmps27
        go_wp2_with fail
        refine Calls.mono (unhide HAT) ?_
        rintro e w1 ⟨p, d, kd', er, rfl, ps', ds', heq, op, od, b1⟩
        simp only [Prod.mk.injEq] at heq
        obtain ⟨rfl, rfl, rfl, rfl⟩ := heq
        obtain ⟨pp, pc, rfl⟩ := ownsV_shape op
        obtain ⟨dp, dc, rfl⟩ := ownsV_shape od
        have HB := hide b1
        clear op od b1
        go_wp2_with fail
        go_ret
        have := unhide HFIN _ ((unhide HB).trans (((Below.refl _ w1).alloc (Nat.le_refl _) (.cells #[.int .i64 kd, .slice pp ps.length pc, .slice dp ds.length dc] 66)).mono (unhide HB).size))
        exact ⟨rfl, this.1, this.2⟩
  · rw [if_neg ho]
    rw [atR_not ho] at HAT
    have HFIN := hide (fun (W : World) (hb : Below w.heap.size w W) => show RA F W g n ws rs ∧ Keep F w W from ⟨(RA.owok g n ws rs).below ⟨_, h, hF⟩ hb, Keep.of_below hb⟩)
    clear h hF h0 h1 hpos hlen ho
    go_enter Tryz.func27, Tryz.ntmps27
    go_wp2_with fail
    refine Calls.mono (unhide HAT) ?_
    rintro e w1 ⟨p, d, kd', er, rfl, ps', ds', heq, op, od, b1⟩
    simp only [Prod.mk.injEq] at heq
    obtain ⟨rfl, rfl, rfl, rfl⟩ := heq
    obtain ⟨pp, pc, rfl⟩ := ownsV_shape op
    obtain ⟨dp, dc, rfl⟩ := ownsV_shape od
    have HB := hide b1
    clear op od b1
    go_wp2_with fail
    go_ret
    have := unhide HFIN _ ((unhide HB).trans (((Below.refl _ w1).alloc (Nat.le_refl _) (.cells #[.int .i64 0, .slice pp 0 pc, .slice dp 0 dc] 66)).mono (unhide HB).size))
    exact ⟨rfl, this.1, this.2⟩

set_option maxRecDepth 20000 in
set_option maxHeartbeats 2000000 in
theorem rsetroot16_any (F : Nat → Prop) (w : World) (g n : Nat) (ws rs : List Int) (s a : Int) (hA : RA F w g n ws rs) :
    Calls Tryz.prog 29 #[.pointer (some ⟨g, 0, none⟩), .int .i64 s, .int .i64 a] w fun e w' => e = .returned (.int .i64 (setRP ws rs s a).1) ∧ RA F w' g n ws (setRP ws rs s a).2 ∧ Keep F w w' := by
  obtain ⟨wv, h, hF⟩ := hA
  have hu := Tryz.underlying48
  have HIS := hide (fun (W : World) (hb : Below w.heap.size w W) => ris16_any W g wv n ws rs a (h.below hb))
  have HST := hide (fun (W : World) (hb : Below w.heap.size w W) => show RA F W g n ws rs ∧ Keep F w W from ⟨(RA.owok g n ws rs).below ⟨_, h, hF⟩ hb, Keep.of_below hb⟩)
  unfold setRP
  by_cases hs : 0 ≤ s ∧ s < 16
  · obtain ⟨k, rfl⟩ := Int.eq_ofNat_of_zero_le hs.1
    have hk : (k : Int) < 16 := hs.2
    by_cases ha : a = 0 ∨ isOb ws a
    · rw [if_pos ⟨hs, ha⟩]
      have hm : mayB ws a = true := by simp [mayB, ha]
      rw [hm] at HIS
      have HFIN := hide (fun (W : World) (hb : Below w.heap.size w W) => show (W.cell? ⟨g, 2 + k, none⟩ = some (.int .i64 (wd rs k)) ∧ W.frozen? ⟨g, 2 + k, none⟩ = false) ∧ RA F (W.setCell ⟨g, 2 + k, none⟩ (.int .i64 a)) g n ws (rs.set k a) ∧ Keep F w (W.setCell ⟨g, 2 + k, none⟩ (.int .i64 a)) from by
        have h2 := h.below hb
        refine ⟨⟨h2.cells.2.2.1 k (by omega), h2.cells.2.2.2 _⟩, ⟨wv, ⟨?_, ownsV_keep h2.wown (keep_set W g (2 + k) (.int .i64 a)) (fun x hx e => h2.apart (e ▸ hx)), h.ok.root k ha⟩, hF⟩, (Keep.of_below hb).trans (keep_set W g _ _) (fun x hx => Or.inl ((hF x).2 (Or.inl hx)))⟩
        rw [heap_setCell_same W g (2 + k) _ _ (.int .i64 a) h2.blk]
        congr 2
        rw [List.setIfInBounds_toArray, show 2 + k = k + 1 + 1 by omega, List.set_cons_succ, List.set_cons_succ, show Iw (rs.set k a) = (Iw rs).set k (.int .i64 a) from List.map_set])
      rw [Int.toNat_natCast]
      clear h hF hs ha hm HST
      go_enter Tryz.func29, Tryz.ntmps29
      go_wp2_with fail
      refine Calls.mono (unhide HIS _ (Below.refl _ _)) ?_
      rintro e w1 ⟨rfl, b1⟩
      obtain ⟨⟨y0, y1⟩, _⟩ := unhide HFIN w1 b1
      have HB := hide b1
      clear b1
      go_wp2_with fail
      go_ret
      have := (unhide HFIN w1 (unhide HB)).2
      exact ⟨rfl, this.1, this.2⟩
    · rw [if_neg (fun hh => ha hh.2)]
      have hm : mayB ws a = false := by simp [mayB, ha]
      rw [hm] at HIS
      clear h hF hs ha hm
      go_enter Tryz.func29, Tryz.ntmps29
      go_wp2_with fail
      refine Calls.mono (unhide HIS _ (Below.refl _ _)) ?_
      rintro e w1 ⟨rfl, b1⟩
      have := unhide HST w1 b1
      have HB := hide this
      clear b1 this
      go_wp2_with fail
      go_ret
      exact ⟨rfl, unhide HB⟩
  · rw [if_neg (fun hh => hs hh.1)]
    have HB := hide (unhide HST w (Below.refl _ _))
    clear h hF HIS HST
    rcases Decidable.em (s < 0) with h0 | h0
    · clear hs
      go_enter Tryz.func29, Tryz.ntmps29
      go_wp2_with fail
      go_ret
      exact ⟨rfl, unhide HB⟩
    · have h1 : (0 : Int) ≤ s := by omega
      have h2 : (16 : Int) ≤ s := by omega
      clear hs h0
      go_enter Tryz.func29, Tryz.ntmps29
      go_wp2_with fail
      go_ret
      exact ⟨rfl, unhide HB⟩
end Go.Proofs.YtlbhhdldeaehkaaGreat

/- The reference's arena: Pack. -/
namespace Go.Proofs.YtlbhhdldeaehkaaGreat
open Go.RowKit

theorem set_mid' (ns T : List Int) (q n : Int) (K : Nat) (h : ns.length = K) : (Iw (ns ++ q :: T)).set K (.int .i64 n) = Iw (ns ++ [n] ++ T) := by
  subst h
  simp [List.map_append]
theorem take_step {R S : List Int} {K : Nat} (h1 : K < R.length) (h2 : R.length = S.length) : (Iw (R.take K ++ S.drop K)).set K (.int .i64 (wd R K)) = Iw (R.take (K + 1) ++ S.drop (K + 1)) := by
  rw [List.take_succ_eq_append_getElem h1, List.drop_eq_getElem_cons (show K < S.length by omega)]
  have hw : wd R K = R[K] := by unfold wd; rw [List.getElem?_eq_getElem h1]; rfl
  rw [hw]
  have hl : (R.take K).length = K := by rw [List.length_take]; omega
  exact set_mid' _ _ _ _ _ hl

set_option maxRecDepth 20000 in
set_option maxHeartbeats 2000000 in
theorem rpack16_any (F : Nat → Prop) (w : World) (g n : Nat) (ws rs : List Int) (hA : RA F w g n ws rs) :
    Calls Tryz.prog 32 #[.pointer (some ⟨g, 0, none⟩)] w fun e w' => ∃ l, e = .returned (.int .i64 ((ws.length : Int) - ((cW ws l).length : Int))) ∧ LiveIs ws rs l ∧ ∃ F', RA F' w' g n (cW ws l) (cR ws l rs) ∧ Moves F F' w w' := by
  obtain ⟨wv, h, hF⟩ := hA
  have hu := Tryz.underlying48
  obtain ⟨c0, c1, _, _⟩ := h.cells
  have HC := hide (rcompact_any wv (.slice (some ⟨g, 2, none⟩) 16 16) ws rs w.drew (h.below ((Below.refl _ w).drew)).wrow (h.below ((Below.refl _ w).drew)).rrow h.ok.u32)
  have HKB := hide (fun W (hb : Below w.drew.heap.size w.drew W) => (h.below (((Below.refl _ w).drew).trans hb)).cells.2.1)
  have HH := hide h
  have HF := hide hF
  obtain ⟨pw, cw, rfl⟩ := ownsV_shape h.wown
  clear h hF
  go_enter Tryz.func32, Tryz.ntmps32
  go_wp2_with fail
  go_region_held3 (fun w' => w'.cell? ⟨g, 1, none⟩ = some (.slice pw ws.length cw)) (first | assumption | go_keep) (first
    | (go_at_call 66; refine Calls.mono (unhide HC) ?_; rintro e w2 ⟨vo, vr, vp, l, rfl, hl, hc, b2⟩; have hS2 := unhide HKB w2 b2; have HL := hide (And.intro hl (And.intro hc b2)); have hc3 := hc; obtain ⟨po, co, rfl⟩ := ownsV_shape hc3.1; obtain ⟨pq, cq, rfl⟩ := ownsV_shape hc3.2.1; obtain ⟨pp, cp, rfl⟩ := ownsV_shape hc3.2.2; clear hl hc hc3))
  obtain ⟨hl0, hc, b2'⟩ := unhide HL
  have h := unhide HH
  have hRt := h.ok.right
  have hl := hl0.1 hRt
  have hpk := h.ok.pack hl
  unfold CmpD outW outR at hc
  rw [if_pos hRt, if_pos hRt] at hc
  obtain ⟨hc1, hc2, _⟩ := hc
  have eW : outW ws rs l = cW ws l := by unfold outW; rw [if_pos hRt]
  have eR : outR ws rs l = cR ws l rs := by unfold outR; rw [if_pos hRt]
  rw [eW, eR] at *
  have B2 := ((Below.refl _ w).drew).trans b2'
  have h2 := h.below B2
  have hsl : (cR ws l rs).length = 16 := hpk.1.slots
  have hsl0 := h.ok.slots
  have hlen := h.ok.len
  have hlen2 := hpk.1.len
  generalize hWg : cW ws l = W at *
  generalize hRg : cR ws l rs = R at *
  obtain ⟨z0, z1, z2, zf⟩ := h2.cells
  have zf1 := zf 1
  have e3 : wrap64 ((ws.length : Int) - (W.length : Int)) = (ws.length : Int) - (W.length : Int) := by unfold wrap64; omega
  have hblk3 : (w2.setCell ⟨g, 1, none⟩ (.slice po W.length co)).heap[g]? = some (.cells (.int .i64 (n : Int) :: .slice po W.length co :: Iw rs).toArray 50 (0, 0)) := by
    rw [heap_setCell_same w2 g 1 _ _ (.slice po W.length co) h2.blk]
    rfl
  have K3 := keep_set w2 g 1 (.slice po W.length co)
  have n1 : ∀ k, (.slice po W.length co : Value).ownBlock = some k → ¬ k = g := fun k hk e => own_type hc1 h2.blk (by decide) (e ▸ hk)
  have n2 : ∀ k, (.slice pq R.length cq : Value).ownBlock = some k → ¬ k = g := fun k hk e => own_type hc2 h2.blk (by decide) (e ▸ hk)
  have o1 := ownsV_keep hc1 K3 n1
  have o2 := ownsV_keep hc2 K3 n2
  have HX := hide (And.intro hl (And.intro hpk.1 (And.intro o1 (And.intro o2 (And.intro hblk3 (And.intro B2 (And.intro n1 n2)))))))
  have HRL := hide (And.intro hsl hsl0)
  have HE3 := hide e3
  rw [hsl]
  clear hl0 hc1 hc2 hpk hl h2 B2 b2' hRt HL eW eR h zf z2 hblk3 K3 n1 n2 o1 o2 hlen hlen2 HC HKB HH hS2 c0 c1 e3 hsl hsl0
  go_wp2_with fail
  obtain ⟨W3, hW3⟩ : ∃ W3, w2.setCell ⟨g, 1, none⟩ (.slice po W.length co) = W3 := ⟨_, rfl⟩
  rw [hW3] at HX ⊢
  have HSZ := hide (show w2.heap.size ≤ W3.heap.size ∧ Keep (fun k => k = g) w2 W3 from by rw [← hW3]; exact ⟨(keep_set w2 g 1 _).size, keep_set w2 g 1 _⟩)
  clear hW3 zf1 z0 z1
  have hmx : Tryz.prog.follows .mixedOrders = true := by kernel_rfl
  go_loopw [8] (fun iv wr => ∃ K : Nat, iv = .int .i64 (K : Int) ∧ K ≤ 16 ∧ wr.heap[g]? = some (.cells (.int .i64 (n : Int) :: .slice po W.length co :: Iw (R.take K ++ rs.drop K)).toArray 50 (0, 0)) ∧ Keep (fun k => k = g) W3 wr) (fun iv _ => 16 - (intOf iv).toNat)
  case atStart => exact ⟨0, rfl, Nat.zero_le _, (unhide HX).2.2.2.2.1, Keep.refl _ _⟩
  case round =>
    obtain ⟨K, rfl, hK, hblk, hkp⟩ := hrel
    obtain ⟨hl, hok, o1, o2, hb3, B2, n1, n2⟩ := unhide HX
    obtain ⟨l1, l2⟩ := unhide HRL
    by_cases hlt : K < 16
    · have hKI : (K : Int) < 16 := by omega
      have hr2 := ownsV_keep o2 hkp n2
      have hrow : VRow wr (.slice pq R.length cq) (Iw R) := ownsV_row hr2 (by simp)
      rw [l1] at hrow
      obtain ⟨b5, f5, c5, e5, _, _, hcl5⟩ := hrow.open (by intro e; have := congrArg List.length e; simp [l1] at this)
      simp only [Value.slice.injEq] at e5
      obtain ⟨rfl, e51, rfl⟩ := e5
      have hcK := hcl5 K (.int .i64 (wd R K)) (by rw [List.getElem?_map, wd_get (by omega)]; rfl)
      have hcg : wr.cell? ⟨g, 2 + K, none⟩ = some (.int .i64 (wd rs K)) := by
        rw [cell_of_row _ _ _ _ _ (0, 0) hblk, List.getElem?_toArray, show 2 + K = K + 1 + 1 by omega, List.getElem?_cons_succ, List.getElem?_cons_succ, List.getElem?_map, List.getElem?_append_right (by rw [List.length_take]; omega), List.length_take, Nat.min_eq_left (by omega), Nat.sub_self, List.getElem?_drop, Nat.add_zero, wd_get (by omega)]
        rfl
      have hfg : wr.frozen? ⟨g, 2 + K, none⟩ = false := frozen_of_block hblk
      have hknw : IntKind.i64.wrap ((K : Int) + 1) = (K : Int) + 1 := by rw [IntKind.wrap_i64]; omega
      have HN2 := hide (show (wr.drew.setCell ⟨g, 2 + K, none⟩ (.int .i64 (wd R K))).heap[g]? = some (.cells (.int .i64 (n : Int) :: .slice po W.length co :: Iw (R.take (K + 1) ++ rs.drop (K + 1))).toArray 50 (0, 0)) ∧ Keep (fun k => k = g) W3 (wr.drew.setCell ⟨g, 2 + K, none⟩ (.int .i64 (wd R K))) ∧ K < 16 from by
        refine ⟨?_, (hkp.trans (Keep.of_below (F := fun k => k = g) ((Below.refl _ wr).drew)) (fun k h => Or.inl h)).trans (keep_set wr.drew g _ _) (fun k h => Or.inl h), hlt⟩
        rw [heap_setCell_same wr.drew g (2 + K) _ _ (.int .i64 (wd R K)) hblk, List.setIfInBounds_toArray, show 2 + K = K + 1 + 1 by omega, List.set_cons_succ, List.set_cons_succ, take_step (by omega) (by omega)])
      clear hl hok o1 o2 hb3 B2 n1 n2 hr2 hrow hcl5 e51 hblk hkp hK hlt l1 l2
      generalize wd R K = x at *
      generalize wd rs K = y at *
      go_wp2_with fail
      refine wp_region_still_tail 9 hmx (by kernel_rfl) ?_
      simp only [List.take_succ_cons, List.take_zero, List.drop_succ_cons, List.drop_zero]
      repeat (first | still_step)
      refine wpStill_nil ?_
      go_wp2_with fail
      go_roundw
      case rel => exact ⟨K + 1, by go_num, (unhide HN2).2.2, (unhide HN2).1, (unhide HN2).2.1⟩
      case measure => (have := (unhide HN2).2.2; simp [intOf]; omega)
    · have hKe : K = 16 := by omega
      subst hKe
      rw [List.take_of_length_le (by omega), List.drop_eq_nil_of_le (by omega), List.append_nil] at hblk
      have HFIN : Hid (∃ F', RA F' wr g n W R ∧ Moves F F' w wr) := by
        have hF' := unhide HF
        have q1 := ownsV_keep (ownsV_base o1 (Nat.zero_le _)) hkp n1
        have B2' : Below w.heap.size w w2 := B2
        refine ⟨fun k => k = g ∨ (.slice po W.length co : Value).ownBlock = some k, ⟨.slice po W.length co, ⟨hblk, q1, hok⟩, fun _ => Iff.rfl⟩, ?_, fun k hk => ?_⟩
        · have K1 : Keep (fun k => k = g) w W3 := (Keep.of_below B2').trans (unhide HSZ).2 (fun k h => Or.inl h)
          exact (K1.trans hkp (fun k h => Or.inl h)).weak (fun k h => (hF' k).2 (Or.inl h))
        · rcases hk with h | h
          · exact Or.inl ((hF' k).2 (Or.inl h))
          · exact Or.inr (o1.lt k h).1
      have HLI := hide hl
      clear hl hok o1 o2 hb3 B2 n1 n2 hblk hkp hK hlt l1 l2
      go_wp2_with fail
      go_ret
      exact ⟨l, by rw [hWg]; exact congrArg (fun x => Ending.returned (Value.int .i64 x)) (unhide HE3), unhide HLI, by rw [hWg, hRg]; exact unhide HFIN⟩
end Go.Proofs.YtlbhhdldeaehkaaGreat

/- The reference's arena: Make. -/
namespace Go.Proofs.YtlbhhdldeaehkaaGreat
open Go.RowKit

/-- The reference's arena in memory while it grows. -/
structure RW (w : World) (g : Nat) (wv : Value) (n : Nat) (ts rs : List Int) : Prop where
  blk : w.heap[g]? = some (.cells (.int .i64 (n : Int) :: wv :: Iw rs).toArray 50 (0, 0))
  wown : w.ownsRow 0 31 1 wv ts.length (Uw ts)
def RF (g : Nat) (wv : Value) (k : Nat) : Prop := k = g ∨ wv.ownBlock = some k
theorem RW.below {w w' : World} {g n : Nat} {wv : Value} {ts rs : List Int} (h : RW w g wv n ts rs) (hb : Below w.heap.size w w') : RW w' g wv n ts rs :=
  ⟨(hb.block _ (Array.getElem?_eq_some_iff.1 h.blk).1).trans h.blk, ownsV_keep (F := fun _ => False) h.wown (Keep.of_below hb) (fun _ _ => id)⟩
theorem rblk_cells {w : World} {g n : Nat} {wv : Value} {rs : List Int} (h : w.heap[g]? = some (.cells (.int .i64 (n : Int) :: wv :: Iw rs).toArray 50 (0, 0))) : w.cell? ⟨g, 0, none⟩ = some (.int .i64 (n : Int)) ∧ w.cell? ⟨g, 1, none⟩ = some wv ∧ w.frozen? ⟨g, 1, none⟩ = false :=
  ⟨by rw [cell_of_row _ _ _ _ _ (0, 0) h]; rfl, by rw [cell_of_row _ _ _ _ _ (0, 0) h]; rfl, frozen_of_block h⟩
theorem RW.words {w wx w2 : World} {g n : Nat} {wv v2 : Value} {ts rs us : List Int} (h : RW w g wv n ts rs) (hx : Below w.heap.size w wx) (hown : w2.ownsRow 0 31 1 v2 (ts.length + us.length) (Uw ts ++ Uw us)) (hg : wx.grownBy w2 wv.ownBlock)
    (hob : v2.ownBlock = wv.ownBlock ∨ v2.ownBlock = some wx.heap.size) : w2.heap[g]? = some (.cells (.int .i64 (n : Int) :: wv :: Iw rs).toArray 50 (0, 0)) ∧ RW (w2.setCell ⟨g, 1, none⟩ v2) g v2 n (ts ++ us) rs ∧ Moves (RF g wv) (RF g v2) w (w2.setCell ⟨g, 1, none⟩ v2) := by
  have hX := h.below hx
  have hgl : g < wx.heap.size := (Array.getElem?_eq_some_iff.1 hX.blk).1
  have n1 : wv.ownBlock ≠ some g := own_type hX.wown hX.blk (by decide)
  have b2 := (hg.block g hgl (fun e => n1 e.symm)).trans hX.blk
  have K2 : Keep (fun k => wv.ownBlock = some k) wx w2 := ⟨hg.os, hg.tape, hg.output, hg.size, fun k hk hn => hg.block k hk (fun e => hn e.symm)⟩
  have n2 : v2.ownBlock ≠ some g := own_type hown b2 (by decide)
  have K3 := keep_set w2 g 1 v2
  have g3 := heap_setCell_same w2 g 1 _ _ v2 b2
  refine ⟨b2, ⟨by rw [g3]; rfl, ?_⟩, ?_, ?_⟩
  · have := ownsV_keep hown K3 (fun k hk e => n2 (e ▸ hk))
    rw [List.length_append, Uw, List.map_append]
    exact this
  · exact ((Keep.of_below (F := RF g wv) hx).trans K2 (fun x hx => Or.inl (Or.inr hx))).trans K3 (fun x hx => Or.inl (Or.inl hx))
  · rintro k (hk | hk)
    · exact Or.inl (Or.inl hk)
    · rcases hob with e | e
      · exact Or.inl (Or.inr (e ▸ hk))
      · rw [e] at hk; simp only [Option.some.injEq] at hk; exact Or.inr (by have := hx.size; omega)

theorem one_cell (W : World) (hd : Int) : ∀ (j : Nat) (u : Value), [Value.int .u32 hd][j]? = some u → (W.alloc (.cells #[.int .u32 hd] 31)).cell? ((⟨W.heap.size, 0, none⟩ : Addr).add j) = some u := fun j u hj => by match j, hj with | 0, hj => (simp at hj; subst hj; simp [Addr.add])
set_option maxRecDepth 20000 in
set_option maxHeartbeats 4000000 in
theorem rmake16_any (F : Nat → Prop) (w : World) (g n : Nat) (ws rs ps ds : List Int) (kd : Int) (s d : Value) (hA : RA F w g n ws rs) (hs : VRow w s (Iw ps)) (hd : VRow w d (Uw ds)) (hU : U32 ds) (hsf : ps ≠ [] → ∀ k, F k → s.ownBlock ≠ some k) (hdf : ds ≠ [] → ∀ k, F k → d.ownBlock ≠ some k)
    (hl1 : ps.length < 35184372088832) (hl2 : ds.length < 70368744177664) :
    Calls Tryz.prog 35 #[.pointer (some ⟨g, 0, none⟩), .int .i64 kd, s, d] w fun e w' => e = .returned (.tuple #[.int .i64 (makeP n ws (kd, ps, ds)).1.1, .int .i64 (makeP n ws (kd, ps, ds)).1.2]) ∧ ∃ F', RA F' w' g n (makeP n ws (kd, ps, ds)).2 rs ∧ Moves F F' w w' := by
  have HA := hide hA
  obtain ⟨wv, h, hF⟩ := hA
  obtain ⟨c0, c1, _, _⟩ := h.cells
  obtain ⟨iu, hiu, hu0, hu1, hu2⟩ := info_parts Tryz.infoU32
  obtain ⟨pw, cw, rfl⟩ := ownsV_shape h.wown
  obtain ⟨a1, cap1, rfl, _, _, _⟩ := hs.shape
  obtain ⟨a2, cap2, rfl, _, _, _⟩ := hd.shape
  have hlp : (Iw ps).length = ps.length := by simp
  have hld : (Uw ds).length = ds.length := by simp
  rw [hlp] at hs hsf ⊢
  rw [hld] at hd hdf ⊢
  by_cases hk : 0 ≤ kd ∧ kd ≤ 15 ∧ ps.length ≤ 255
  · obtain ⟨k0, k1, k2⟩ := hk
    have hk2I : (ps.length : Int) ≤ 255 := by omega
    have HIS := hide (fun (W : World) (hb : Below w.heap.size w W) (a : Int) => ris16_any W g _ n ws rs a (h.below hb))
    have HKEEP := hide (fun (W : World) (hb : Below w.heap.size w W) => And.intro ((h.below hb).cells.1) (And.intro ((h.below hb).cells.2.1) (And.intro (hs.below hb) (hd.below hb))))
    have HL := hide (And.intro hl1 hl2)
    have HH := hide (And.intro h hF)
    have HS := hide (And.intro hs hsf)
    have HD := hide (And.intro hd hdf)
    have HU := hide hU
    clear h hF hs hsf hd hdf hl1 hl2 hU hlp hld
    go_enter Tryz.func35, Tryz.ntmps35
    go_wp2_with fail
    go_loopw [10] (fun iv wr => ∃ k : Nat, iv = .int .i64 (k : Int) ∧ k ≤ ps.length ∧ Hid ((ps.take k).all (mayB ws) = true) ∧ Below w.heap.size w wr) (fun iv _ => ps.length - (intOf iv).toNat)
    case atStart => exact ⟨0, rfl, Nat.zero_le _, by simp [Hid], Below.refl _ _⟩
    case round =>
      obtain ⟨k, rfl, hk, hall, hb⟩ := hrel
      obtain ⟨c0r, c1r, hsr, hdr⟩ := unhide HKEEP wr hb
      by_cases hlt : k < ps.length
      · have hkI : (k : Int) < (ps.length : Int) := by omega
        obtain ⟨b, off, cap', e0, _, _, hcl⟩ := hsr.open (by intro e; have := congrArg List.length e; simp at this; rw [this] at hlt; simp at hlt)
        simp only [Value.slice.injEq, List.length_map] at e0
        obtain ⟨rfl, e1, rfl⟩ := e0
        have hc := hcl k _ (by rw [List.getElem?_map, List.getElem?_eq_getElem hlt]; rfl)
        have HT := hide (show (ps.take (k + 1)).all (mayB ws) = mayB ws ps[k] by rw [List.take_succ_eq_append_getElem hlt, List.all_append, hall.out]; simp)
        have HAF := hide (show mayB ws ps[k] = false → makeP n ws (kd, ps, ds) = ((0, 1), ws) by
          intro h
          have : ps.all (mayB ws) = false := by
            rw [List.all_eq_false]
            exact ⟨ps[k], List.getElem_mem hlt, by simp [h]⟩
          unfold makeP
          rw [if_neg (fun hh => by rw [this] at hh; cases hh.2)])
        have HLT := hide hlt
        have hknw : IntKind.i64.wrap ((k : Int) + 1) = (k : Int) + 1 := by have := unhide HL; rw [IntKind.wrap_i64]; omega
        have HC2 := hide (unhide HIS wr hb ps[k])
        have HB := hide hb
        generalize ps[k] = x at *
        clear e1 hcl hlt hk hall hb hsr hdr HIS HKEEP c0 c1 k0 k1 k2 hk2I c0r
        go_wp2_with fail
        refine Calls.mono (unhide HC2) ?_
        rintro e w1 ⟨rfl, b1⟩
        cases hx : mayB ws x with
        | true =>
          have HB1 := hide ((unhide HB).trans (b1.mono (unhide HB).size))
          clear b1
          go_wp2_with fail
          go_roundw
          case rel => exact ⟨k + 1, by go_num, unhide HLT, by rw [Hid, unhide HT, hx], unhide HB1⟩
          case measure => (have := unhide HLT; simp [intOf]; omega)
        | false =>
          have HB1 := hide ((unhide HB).trans (b1.mono (unhide HB).size))
          have HF1 := hide (unhide HAF hx)
          clear b1 hx
          go_wp2_with fail
          go_ret2
          rw [unhide HF1]
          exact ⟨rfl, F, (RA.owok g n ws rs).below (unhide HA) (unhide HB1), Moves.of_below (unhide HB1)⟩
      · have hke : k = ps.length := by omega
        subst hke
        rw [List.take_length] at hall
        have hall2 := hall.out
        have hpt := mayB_all hall2
        have HB := hide hb
        have e1 : IntKind.i64.wrap (1 + (ps.length : Int)) = 1 + (ps.length : Int) := by rw [IntKind.wrap_i64]; omega
        have hq := unhide HL
        have e2 : IntKind.i64.wrap (1 + (ps.length : Int) + (ds.length : Int)) = 1 + (ps.length : Int) + (ds.length : Int) := by rw [IntKind.wrap_i64]; omega
        have hwl := (unhide HH).1.ok.fit
        have hwn := (unhide HH).1.ok.hi
        have e3 : IntKind.i64.wrap ((ws.length : Int) + 1) = (ws.length : Int) + 1 := by rw [IntKind.wrap_i64]; omega
        have e4 : IntKind.i64.wrap ((ws.length : Int) + 1 + (ps.length : Int)) = (ws.length : Int) + 1 + (ps.length : Int) := by rw [IntKind.wrap_i64]; omega
        have e5 : IntKind.i64.wrap ((ws.length : Int) + 1 + (ps.length : Int) + (ds.length : Int)) = (ws.length : Int) + 1 + (ps.length : Int) + (ds.length : Int) := by rw [IntKind.wrap_i64]; omega
        by_cases hg : goodO (kd, ps, ds)
        · have hx := hg
          obtain ⟨g1, g2, g3, g4⟩ := hg
          dsimp only at g1 g2 g3 g4
          have HHD := hide (fun w => rhead_t (1 + (ps.length : Int) + (ds.length : Int)) (ps.length : Int) kd w (by omega) (by omega) g2 g3 (by omega) (by omega))
          obtain ⟨p1, p2, p3, p4, p5⟩ := hdO_parts hx
          have hhd : (1 + (ps.length : Int) + (ds.length : Int)) * 4096 + (ps.length : Int) * 16 + kd = hdO (kd, ps, ds) := rfl
          rw [hhd] at HHD
          by_cases hf : ws.length + (1 + ps.length + ds.length) ≤ n
          · have hmk : makeP n ws (kd, ps, ds) = (((ws.length : Int), 0), addW ws (kd, ps, ds)) := by
              unfold makeP
              rw [if_pos ⟨hx, hall2⟩, if_pos hf]
            have hWE : ws ++ hdO (kd, ps, ds) :: (w32 ps ++ ds) = addW ws (kd, ps, ds) := by unfold addW; rw [wrdO_good hx]
            have HOK := hide ((unhide HH).1.ok.add hx hpt (unhide HU) hf)
            rw [← hWE] at HOK hmk
            have HMK := hide hmk
            have HHH := hide (And.intro p1 p2)
            have hfI : ¬ (n : Int) < (ws.length : Int) + 1 + (ps.length : Int) + (ds.length : Int) := by omega
            have hmx : Tryz.prog.follows .mixedOrders = true := by kernel_rfl
            have hbd : Below w.heap.size w wr.drew := hb.trans ((Below.refl _ wr).drew.mono hb.size)
            have HB := hide hbd
            have HR : RW wr.drew g (.slice pw ws.length cw) n ws rs := ⟨((unhide HH).1.below hbd).blk, ((unhide HH).1.below hbd).wown⟩
            have HB1 := hide ((Below.refl _ wr.drew).alloc (Nat.le_refl _) (.cells #[.int .u32 (hdO (kd, ps, ds))] 31))
            have HOW := hide (HR.below (unhide HB1)).wown
            have HR := hide HR
            have HLN := hide (show ws.length + (1 + ps.length + ds.length) ≤ 1048576 by omega)
            generalize hdO (kd, ps, ds) = hd at *
            have HNW := hide (one_cell wr.drew hd)
            have HL1 := hide (show ws.length + 1 ≤ maxLen by unfold maxLen; omega)
            have HL2 := hide (show (ws.length + 1) * 4 ≤ 140737488355328 by omega)
            clear hx g1 g2 g3 g4 p1 p2 p3 p4 p5 hhd hf hmk hWE hwl hwn hq hall hall2 hpt hb hbd hk hlt hsr hdr HIS c0 c1 k0 k1 k2 hk2I
            go_wp2_with fail
            refine Calls.mono (unhide HHD _) ?_
            rintro e w1 ⟨rfl, rfl⟩
            go_wp2_with fail
            refine wp_region_still_lit hmx (by kernel_rfl) ?_
            repeat (first | still_step)
            refine wpStill_nil ?_
            go_wp2_with (first
              | (at_builtin; refine wpList_append_gen rfl _ _ 33 rfl 0 31 iu (.int .u32 0) Tryz.underlying33 hiu hu0 1 4 (by omega) hu1 hu2 rfl (.slice pw ws.length cw) ws.length (Uw ws) rfl (unhide HOW) ⟨w1.heap.size, 0, none⟩ 1 1 [.int .u32 hd] rfl rfl (unhide HNW) (by intro u hu; simp at hu; subst hu; rfl) (unhide HL1) (unhide HL2) (Nat.zero_le _) ?_))
            intro v2 w2 hown2 hgrow2 hob2
            have hq := (unhide HR).words (us := [hd]) (unhide HB1) (by simpa [Uw] using hown2) hgrow2 (by rw [World.size_alloc]; exact hob2)
            obtain ⟨f0, f1, f2⟩ := rblk_cells hq.1
            have HQ := hide hq.2
            obtain ⟨p2, c2', rfl⟩ := ownsV_shape hown2
            have HM1 := hide ((Moves.of_below (F := RF g (.slice pw ws.length cw)) (unhide HB)).trans (unhide HQ).2)
            clear hown2 hgrow2 hob2 hq
            go_wp2_with fail
            go_loopw [14] (fun iv wr' => ∃ (k : Nat) (wv' : Value) (T : List Int), iv = .int .i64 (k : Int) ∧ k ≤ ps.length ∧ Hid (T = ws ++ hd :: w32 (ps.take k)) ∧ RW wr' g wv' n T rs ∧ Moves (RF g (.slice pw ws.length cw)) (RF g wv') w wr') (fun iv _ => ps.length - (intOf iv).toNat)
            case atStart => exact ⟨0, _, ws ++ [hd], rfl, Nat.zero_le _, by unfold Hid; simp [w32], (unhide HQ).1, unhide HM1⟩
            case round =>
              obtain ⟨k, wv', T, rfl, hk, hT, hA, hM⟩ := hrel
              have hTl : T.length = ws.length + 1 + k := by rw [unhide hT]; simp [w32_len]; omega
              have hlt0 := unhide HLN
              have hF := (unhide HH).2
              obtain ⟨pt, ct, rfl⟩ := ownsV_shape hA.wown
              obtain ⟨c0, c1, cf1⟩ := rblk_cells hA.blk
              have hSr := (unhide HS).1.keep hM.keep (fun b off c e hne hf => (unhide HS).2 (fun h => hne (by rw [h]; rfl)) b ((hF b).2 hf) (by rw [e]; rfl))
              have hDr := (unhide HD).1.keep hM.keep (fun b off c e hne hf => (unhide HD).2 (fun h => hne (by rw [h]; rfl)) b ((hF b).2 hf) (by rw [e]; rfl))
              by_cases hlt : k < ps.length
              · have hkI : (k : Int) < (ps.length : Int) := by omega
                obtain ⟨b, off, cap', e0, _, _, hcl⟩ := hSr.open (by intro e; have := congrArg List.length e; simp at this; rw [this] at hlt; simp at hlt)
                simp only [Value.slice.injEq, List.length_map] at e0
                obtain ⟨rfl, e1, rfl⟩ := e0
                have hc := hcl k _ (by rw [List.getElem?_map, List.getElem?_eq_getElem hlt]; rfl)
                have HT := hide (show T ++ [IntKind.u32.wrap ps[k]] = ws ++ hd :: w32 (ps.take (k + 1)) by
                  rw [List.take_succ_eq_append_getElem hlt, unhide hT]
                  simp only [w32, List.map_append, List.map_cons, List.map_nil, List.append_assoc, List.cons_append])
                have HLT := hide hlt
                have hknw : IntKind.i64.wrap ((k : Int) + 1) = (k : Int) + 1 := by rw [IntKind.wrap_i64]; omega
                have hx0 : 0 ≤ IntKind.u32.wrap ps[k] := by rw [IntKind.wrap_u32]; omega
                generalize ps[k] = x at *
                have HL31 := hide (show T.length + 1 ≤ maxLen by unfold maxLen; omega)
                have HL32 := hide (show (T.length + 1) * 4 ≤ 140737488355328 by omega)
                have hcb := fun (Xi : World) (hk : Keep (fun k => (.slice pt T.length ct : Value).ownBlock = some k) wr Xi) => (show Xi.cell? ⟨g, 1, none⟩ = some (.slice pt T.length ct) ∧ Xi.cell? ⟨b, off + k, none⟩ = some (.int .i64 x) from by
                  have e1 := (hk.block _ (Array.getElem?_eq_some_iff.1 hA.blk).1 (own_type hA.wown hA.blk (by decide))).trans hA.blk
                  have hnb : ¬ (.slice pt T.length ct : Value).ownBlock = some b := fun e => by
                    rcases hM.sub b (Or.inr e) with hf | hf
                    · exact (unhide HS).2 (fun h => by rw [h] at hlt; simp at hlt) b ((hF b).2 hf) rfl
                    · have h1 := hs_block (unhide HS).1 (by intro h; have := congrArg List.length h; simp at this; rw [this] at hlt; simp at hlt) b rfl
                      omega
                  exact ⟨(rblk_cells e1).2.1, (hk.cell (World.block_lt_of_cell? wr _ hc) hnb).trans hc⟩)
                have HCB := hide hcb
                have HA' := hide hA
                have HM := hide hM
                clear e1 hcl hlt hk hT hTl hlt0 hSr hDr hA hM HQ hcb
                go_wp2_with fail
                refine region_acts 12 (fun i => i == 10 || i == 11) (fun s u Xi => Keep (fun k => (.slice pt T.length ct : Value).ownBlock = some k) wr Xi ∧ (s 11 = false → Below wr.heap.size wr Xi) ∧
                  (s 10 = true → s 11 = false → ∃ x2, u 10 = .slice (some ⟨x2, 0, none⟩) 1 1 ∧ Xi.heap[x2]? = some (.cells #[.int .u32 (IntKind.u32.wrap x)] 31 (0, 0))) ∧
                  (s 11 = true → s 10 = true ∧ ∃ Xa, Below wr.heap.size wr Xa ∧ Xi.ownsRow 0 31 1 (u 11) (T.length + 1) (Uw T ++ [.int .u32 (IntKind.u32.wrap x)]) ∧ Xa.grownBy Xi (.slice pt T.length ct : Value).ownBlock ∧ ((u 11).ownBlock = (.slice pt T.length ct : Value).ownBlock ∨ (u 11).ownBlock = some Xa.heap.size))) hmx (by kernel_rfl) ?i0 ?_
                case i0 => exact ⟨Keep.of_below ((Below.refl _ wr).drew), fun _ => (Below.refl _ wr).drew, fun h => (by cases h), fun h => (by cases h)⟩
                intro u
                simp only [List.take_succ_cons, List.take_zero]
                refine lexM_still (.pointer (some ⟨g, 0, none⟩)) rfl (by kernel_rfl) (fun s u Xi hi => by go_simp) ?_
                simp only [Act.put, List.setIfInBounds_toArray, List.set_cons_zero, List.set_cons_succ]
                refine lexM_still (.pointer (some ⟨g, 0, none⟩)) rfl (by kernel_rfl) (fun s u Xi hi => by go_simp) ?_
                simp only [Act.put, List.setIfInBounds_toArray, List.set_cons_zero, List.set_cons_succ]
                refine lexM_still (.pointer (some ⟨g, 0, none⟩)) rfl (by kernel_rfl) (fun s u Xi hi => by go_simp) ?_
                simp only [Act.put, List.setIfInBounds_toArray, List.set_cons_zero, List.set_cons_succ]
                refine lexM_still (.pointer (some ⟨g, 1, none⟩)) rfl (by kernel_rfl) (fun s u Xi hi => by go_simp) ?_
                simp only [Act.put, List.setIfInBounds_toArray, List.set_cons_zero, List.set_cons_succ]
                refine lexM_still (.slice pt T.length ct) rfl (by kernel_rfl) (fun s u Xi hi => ?_) ?_
                · obtain ⟨z1, z2⟩ := unhide HCB Xi hi.1
                  go_simp
                simp only [Act.put, List.setIfInBounds_toArray, List.set_cons_zero, List.set_cons_succ]
                refine lexM_still (.slice (some ⟨b, off, none⟩) ps.length cap1) rfl (by kernel_rfl) (fun s u Xi hi => by go_simp) ?_
                simp only [Act.put, List.setIfInBounds_toArray, List.set_cons_zero, List.set_cons_succ]
                refine lexM_still (.int .i64 (k : Int)) rfl (by kernel_rfl) (fun s u Xi hi => by go_simp) ?_
                simp only [Act.put, List.setIfInBounds_toArray, List.set_cons_zero, List.set_cons_succ]
                refine lexM_still (.pointer (some ⟨b, off + k, none⟩)) rfl (by kernel_rfl) (fun s u Xi hi => by go_simp) ?_
                simp only [Act.put, List.setIfInBounds_toArray, List.set_cons_zero, List.set_cons_succ]
                refine lexM_still (.int .i64 x) rfl (by kernel_rfl) (fun s u Xi hi => ?_) ?_
                · obtain ⟨z1, z2⟩ := unhide HCB Xi hi.1
                  go_simp
                simp only [Act.put, List.setIfInBounds_toArray, List.set_cons_zero, List.set_cons_succ]
                refine lexM_still (.int .u32 (IntKind.u32.wrap x)) rfl (by kernel_rfl) (fun s u Xi hi => by go_simp) ?_
                simp only [Act.put, List.setIfInBounds_toArray, List.set_cons_zero, List.set_cons_succ]
                refine lexM_act (k := 10) rfl (by kernel_rfl) (fun s Xi hs hd hi => ?_) ?_
                · go_simp
                  obtain ⟨hk, h1, h2, h3⟩ := hi
                  have hb : Below Xi.heap.size Xi (Xi.alloc (.cells #[.int .u32 (IntKind.u32.wrap x)] 31)) := (Below.refl _ _).alloc (Nat.le_refl _) _
                  refine actUpon_value ?_
                  rw [upd_ne (show (11 : Nat) ≠ 10 by decide), upd_at, upd_at, upd_ne (show (11 : Nat) ≠ 10 by decide)]
                  exact ⟨hk.trans (Keep.of_below hb) (fun k h => Or.inl h), fun h => (h1 h).trans (hb.mono (h1 h).size), fun _ _ => ⟨Xi.heap.size, rfl, World.alloc_heap_new _ _⟩, fun h => by have := (h3 h).1; rw [hs] at this; cases this⟩
                simp only [Act.put, List.setIfInBounds_toArray, List.set_cons_zero, List.set_cons_succ]
                refine lexM_act (k := 11) rfl (by kernel_rfl) (fun s Xi hs hd hi => ?_) ?_
                · obtain ⟨hk, h1, h2, h3⟩ := hi
                  have s2 : s 10 = true := hd { on := 10, ground := .data } (by simp) (by rfl) (by rfl)
                  obtain ⟨x2, e1, e3⟩ := h2 s2 hs
                  have hx0 : Xi.cell? ⟨x2, 0, none⟩ = some (.int .u32 (IntKind.u32.wrap x)) := by rw [cell_of_row _ _ _ _ _ (0, 0) e3]; rfl
                  have hbl := h1 hs
                  refine act_append_any (.tmp 96) (.tmp 102) 33 rfl 0 31 iu (.int .u32 0) Tryz.underlying33 hiu hu0 1 4 (by omega) hu1 hu2 rfl (.slice pt T.length ct) T.length (Uw T) rfl (((unhide HA').below hbl).wown) ⟨x2, 0, none⟩ 1 1 [.int .u32 (IntKind.u32.wrap x)] e1 rfl (by intro j u hj; match j, hj with | 0, hj => (simp at hj; subst hj; simpa [Addr.add] using hx0)) (by intro u hu; simp at hu; subst hu; rfl) (unhide HL31) (unhide HL32) (Nat.zero_le _) ?_
                  intro v3 w3 hown hg hob
                  have hkg := grown_keep hg
                  rw [upd_at, upd_ne (show (10 : Nat) ≠ 11 by decide), upd_at, upd_ne (show (10 : Nat) ≠ 11 by decide)]
                  exact ⟨hk.trans hkg (fun k h => Or.inl h), fun h => (by cases h), fun _ h => (by cases h), fun _ => ⟨s2, Xi, hbl, hown, hg, hob⟩⟩
                simp only [Act.put, List.setIfInBounds_toArray, List.set_cons_zero, List.set_cons_succ]
                refine lexM_nil fun w3 hi => ?_
                simp only [List.drop_succ_cons, List.drop_zero]
                obtain ⟨_, _, _, h3⟩ := hi
                obtain ⟨_, Xa, hbl, hown3, hgrow3, hob3⟩ := h3 (by rfl)
                have hq := (unhide HA').words (us := [IntKind.u32.wrap x]) hbl (by simpa [Uw] using hown3) hgrow3 hob3
                obtain ⟨f0, f1, f2⟩ := rblk_cells hq.1
                have HQ3 := hide hq
                obtain ⟨p3, c3', e3'⟩ := ownsV_shape hown3
                generalize hu11 : u 11 = t11 at *
                subst e3'
                clear hown3 hgrow3 hob3 hq c0 c1 cf1 h3
                go_wp2_with fail
                go_roundw
                case rel => exact ⟨k + 1, _, _, by go_num, unhide HLT, HT, (unhide HQ3).2.1, (unhide HM).trans (unhide HQ3).2.2⟩
                case measure => (have := unhide HLT; simp [intOf]; omega)
              · have hke : k = ps.length := by omega
                subst hke
                rw [List.take_length] at hT
                have HT := hide (unhide hT)
                have HA' := hide hA
                have HM := hide hM
                have HDR := hide hDr
                have HOW4 := hide hA.wown
                have HONE := hide (show ∀ u ∈ Uw ds, u.oneCell' = true from fun u hu => by obtain ⟨x, _, rfl⟩ := List.mem_map.1 hu; rfl)
                have HL41 := hide (show T.length + ds.length ≤ maxLen by unfold maxLen; omega)
                have HL42 := hide (show (T.length + ds.length) * 4 ≤ 140737488355328 by omega)
                clear hlt hk hT hTl hlt0 hSr hDr hA hM HQ
                go_wp2_with (first
                  | (at_builtin; refine wpList_append_vrow rfl _ _ 33 rfl 0 31 iu (.int .u32 0) Tryz.underlying33 hiu hu0 4 hu1 hu2 rfl (.slice pt T.length ct) T.length (Uw T) rfl (unhide HOW4) a2 ds.length cap2 (Uw ds) rfl (unhide HDR) (unhide HONE) (unhide HL41) (unhide HL42) (Nat.zero_le _) ?_))
                intro v3 w3 hown3 hgrow3 hob3
                have hq := (unhide HA').words (us := ds) (Below.refl _ _) hown3 hgrow3 hob3
                obtain ⟨f0, f1, f2⟩ := rblk_cells hq.1
                have HQ3 := hide hq.2
                obtain ⟨p3, c3', rfl⟩ := ownsV_shape hown3
                clear hown3 hgrow3 hob3 hq c0 c1 cf1
                go_wp2_with fail
                go_ret2
                rw [unhide HMK]
                obtain ⟨hA2, hM2⟩ := unhide HQ3
                have hF := (unhide HH).2
                have eT : T ++ ds = ws ++ hd :: (w32 ps ++ ds) := by rw [unhide HT]; simp
                rw [eT] at hA2
                have hM3 := (unhide HM).trans hM2
                exact ⟨rfl, RF g _, ⟨_, ⟨hA2.blk, hA2.wown, unhide HOK⟩, fun _ => Iff.rfl⟩, hM3.keep.weak (fun x hx => (hF x).2 hx), fun x hx => (hM3.sub x hx).imp_left (fun h => (hF x).2 h)⟩
          · have hmk : makeP n ws (kd, ps, ds) = ((0, 3), ws) := by
              unfold makeP
              rw [if_pos ⟨hx, hall2⟩, if_neg hf]
            have HMK := hide hmk
            have hmx : Tryz.prog.follows .mixedOrders = true := by kernel_rfl
            have hfI : (n : Int) < (ws.length : Int) + 1 + (ps.length : Int) + (ds.length : Int) := by omega
            generalize hdO (kd, ps, ds) = H at *
            clear hx g1 g2 g3 g4 p1 p2 p3 p4 p5 hhd hf hmk hwl hwn hq hall hall2 hpt hb hk hlt hsr hdr HIS HKEEP c0 c1 k0 k1 k2 hk2I
            go_wp2_with fail
            refine Calls.mono (unhide HHD _) ?_
            rintro e w1 ⟨rfl, rfl⟩
            go_wp2_with fail
            refine wp_region_still_lit hmx (by kernel_rfl) ?_
            repeat (first | still_step)
            refine wpStill_nil ?_
            go_wp2_with fail
            go_ret2
            rw [unhide HMK]
            exact ⟨rfl, F, (RA.owok g n ws rs).below (unhide HA) ((unhide HB).trans ((Below.refl _ w1).drew.mono (unhide HB).size)), Moves.of_below ((unhide HB).trans ((Below.refl _ w1).drew.mono (unhide HB).size))⟩
        · have hmk : makeP n ws (kd, ps, ds) = ((0, 1), ws) := by
            unfold makeP
            rw [if_neg (fun hh => hg hh.1)]
          have HMK := hide hmk
          have HHD := hide (fun w => rhead_f (1 + (ps.length : Int) + (ds.length : Int)) (ps.length : Int) kd w (fun hh => hg ⟨by dsimp only; omega, by dsimp only; omega, by dsimp only; omega, by dsimp only; omega⟩))
          clear hg hmk hwl hwn hq hall hall2 hpt hb hk hlt hsr hdr HIS HKEEP c0 c1 k0 k1 k2 hk2I
          go_wp2_with fail
          refine Calls.mono (unhide HHD _) ?_
          rintro e w1 ⟨rfl, rfl⟩
          go_wp2_with fail
          go_ret2
          rw [unhide HMK]
          exact ⟨rfl, F, (RA.owok g n ws rs).below (unhide HA) (unhide HB), Moves.of_below (unhide HB)⟩
  · have HFIN : Hid ((makeP n ws (kd, ps, ds)) = ((0, 1), ws)) := by
      unfold makeP
      rw [if_neg (fun hh => hk ⟨hh.1.2.1, hh.1.2.2.1, hh.1.1⟩)]
      rfl
    have hc : kd < 0 ∨ (0 ≤ kd ∧ 15 < kd) ∨ (0 ≤ kd ∧ kd ≤ 15 ∧ 255 < (ps.length : Int)) := by omega
    rw [unhide HFIN]
    clear hk h hF hs hsf hd hdf hl1 hl2 hU hlp hld HFIN
    rcases hc with q | ⟨q1, q⟩ | ⟨q1, q2, q⟩
    all_goals
      go_enter Tryz.func35, Tryz.ntmps35
      go_wp2_with fail
      go_ret2
      exact ⟨rfl, F, unhide HA, Moves.refl _ _⟩
end Go.Proofs.YtlbhhdldeaehkaaGreat
