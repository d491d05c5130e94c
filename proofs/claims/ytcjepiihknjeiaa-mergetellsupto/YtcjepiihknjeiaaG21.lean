/- Texts of ours, one behind the other: MgAll2, MgMerge, MgWalk1, MgRef5, MgWalk2. -/
import Derived.Test.YtcjepiihknjeiaaG13
import Derived.Test.YtcjepiihknjeiaaG16
import Derived.Test.YtcjepiihknjeiaaG18
import Derived.Test.YtcjepiihknjeiaaG19
import Derived.Test.YtcjepiihknjeiaaG20
/- Package merge as landed: All; what is collected of a sequence; Merge. -/
namespace Go.Proofs.Ytcjepiihknjeiaa.QH
open Go.RowKit Go.Shelf
attribute [local go_sem] Oper.semAt_some

/-- What lies beneath a sequence of heads: it stands, whatever else moves. -/
structure Lies (F : Nat → Prop) (D : World → Prop) (b : Nat) (w : World) : Prop where
  at_ : D w
  stays : ∀ W W' G, D W → Keep G W W' → (∀ k, F k → ¬ G k) → D W'
  low : ∀ k, F k → b ≤ k
  lt : ∀ k, F k → k < w.heap.size
theorem Lies.move {F : Nat → Prop} {D : World → Prop} {b : Nat} {w w' : World} {G : Nat → Prop} (h : Lies F D b w) (hk : Keep G w w') (hn : ∀ k, F k → ¬ G k) : Lies F D b w' :=
  ⟨h.stays _ _ G h.at_ hk hn, h.stays, h.low, fun k hf => Nat.lt_of_lt_of_le (h.lt k hf) hk.size⟩
theorem Lies.below {F : Nat → Prop} {D : World → Prop} {b : Nat} {w w' : World} (h : Lies F D b w) (hb : Below w.heap.size w w') : Lies F D b w' := h.move (G := fun _ => False) (Keep.of_below hb) (fun _ _ => id)
/-- A sequence of entries. -/
def AllS (Z : List En) (b : Nat) (f : Value) (w : World) : Prop :=
  ∃ (Hn : Nat) (F : Nat → Prop) (D : World → Prop), f = .func (.func 34) #[] #[.pointer (some ⟨Hn, 0, none⟩)] ∧ SeqH 34 #[.pointer (some ⟨Hn, 0, none⟩)] encE Z F D ∧ Lies F D b w
theorem AllS.below {Z : List En} {b : Nat} {f : Value} {w w' : World} (h : AllS Z b f w) (hb : Below w.heap.size w w') : AllS Z b f w' := by
  obtain ⟨Hn, F, D, e, h1, h2⟩ := h
  exact ⟨Hn, F, D, e, h1, h2.below hb⟩
theorem AllS.move {Z : List En} {b : Nat} {f : Value} {w w' : World} {G : Nat → Prop} (h : AllS Z b f w) (hk : Keep G w w') (hn : ∀ k, G k → k < b) : AllS Z b f w' := by
  obtain ⟨Hn, F, D, e, h1, h2⟩ := h
  exact ⟨Hn, F, D, e, h1, h2.move hk fun k hf hg => by have := h2.low k hf; have := hn k hg; omega⟩
/-- The rows that begin's heads make, and what lies beneath them. -/
theorem rows_of {LL : List (List En)} {b : Nat} {e : Ending} {w' : World} (h : BegD LL b e w') (ht : totE LL ≤ 4398046511104) (hL : ∀ l ∈ LL, rightE l = true → SE l) :
    ∃ (p : Option Addr) (R : List (List (Nat × En))) (Fe : Nat → Prop) (De : World → Prop), e = .returned (.tuple #[.pointer p, .int .i64 (mrgR LL).2]) ∧ R = (if (mrgR LL).2 = 0 then rowsS (totS LL) LL else []) ∧
      (∀ Bn, SeqH 40 #[.pointer (some ⟨Bn, 0, none⟩)] encR R (fun k => k = Bn ∨ Fe k) (fun W => W.cell? ⟨Bn, 0, none⟩ = some (.pointer p) ∧ De W)) ∧ (De w' ∧ (∀ W W' G, De W → Keep G W W' → (∀ k, Fe k → ¬ G k) → De W') ∧ (∀ k, Fe k → b ≤ k) ∧ ∀ k, Fe k → k < w'.heap.size) := by
  unfold BegD at h
  by_cases hz : (mrgR LL).2 = 0
  · rw [if_pos hz] at h
    obtain ⟨q, Fq, Z, n, e1, hq, hs, hn, h1, h2⟩ := h
    have hse : ∀ l ∈ LL, SE l := fun l hl => by
      refine hL l hl ?_
      unfold mrgR at hz
      split at hz
      · cases hz
      · split at hz
        · rename_i h9; exact List.all_eq_true.1 h9 l hl
        · cases hz
    have htt : totS LL ≤ 4398046511104 := ht
    refine ⟨some ⟨q, 0, none⟩, rowsS (totS LL) LL, fun k => Fq k ∨ ∃ x ∈ Z, x.blk k, fun W => QA Fq W q Z n, by rw [e1, hz], by rw [if_pos hz], fun Bn => ?_, hq, fun W W' G hd hk hg => hd.keep hk (fun k hf => hg k (Or.inl hf)) (fun x hx k hb => hg k (Or.inr ⟨x, hx, hb⟩)), fun k hk => ?_, fun k hk => ?_⟩
    · exact rows_seq Bn q (n + totS LL) Fq Z LL n hs hse (Nat.le_refl _) (by omega)
    · rcases hk with hk | ⟨x, hx, hk⟩
      · exact h1 k hk
      · exact h2 x hx k hk
    · rcases hk with hk | ⟨x, hx, hk⟩
      · exact hq.lt k hk
      · exact (hq.heads x hx).1.lt k hk
  · rw [if_neg hz] at h
    exact ⟨none, [], fun _ => False, fun _ => True, h, by rw [if_neg hz], fun Bn => rows_nil Bn, trivial, fun _ _ _ _ _ _ => trivial, fun _ h => h.elim, fun _ h => h.elim⟩
theorem mrgR_rows {LL : List (List En)} (hL : ∀ l ∈ LL, rightE l = true → SE l) : (if (mrgR LL).2 = 0 then rowsS (totS LL) LL else []).map firstR = (mrgR LL).1 := by
  unfold mrgR
  split
  · rfl
  · split
    · rename_i h9
      rw [if_pos rfl]
      exact rows_first _ _ (fun l hl => hL l hl (List.all_eq_true.1 h9 l hl)) (Nat.le_refl _)
    · rfl
set_option maxRecDepth 20000 in
set_option maxHeartbeats 2000000 in
theorem mall_any (v : Value) (LL : List (List En)) (w : World) (h : LR w v LL) (hl : ∀ l ∈ LL, l.length * 40 ≤ 140737488355328) (ht : totE LL ≤ 4398046511104) :
    Calls Try.prog 21 #[v] w fun r w' => ∃ f, r = .returned (.tuple #[f, .int .i64 (mrgR LL).2]) ∧ AllS (mrgR LL).1 w.heap.size f w' ∧ Below w.heap.size w w' := by
  have hmf : ∀ (fn : Fn) (first cap : Array Value) (w : World), (Instr.makeFunc fn first cap).run Try.prog w = .ok (.func fn first cap) w := fun _ _ _ _ => rfl
  have HBG := hide (begin_any v LL w h hl)
  have HT := hide ht
  have HG := hide (show ∀ l ∈ LL, rightE l = true → SE l from fun l _ hr => (rightE_SE hr).1)
  obtain ⟨p, c, rfl⟩ : ∃ p c, v = .slice p LL.length c := by
    obtain ⟨vs, h1, h2, _⟩ := h
    obtain ⟨p, c, e, _⟩ := h2.shape
    exact ⟨p, c, by rw [e, h1]⟩
  obtain ⟨er, her⟩ : ∃ er, er = (mrgR LL).2 := ⟨_, rfl⟩
  rw [← her]
  have HER := hide her
  clear h hl ht her
  go_enter Try.func21, Try.ntmps21
  go_wp2_with fail
  refine Calls.mono (unhide HBG) ?_
  rintro e w1 ⟨hbd, b1⟩
  obtain ⟨hp, R, Fe, De, rfl, hR, hrows, hD, hst, hlow, hlt⟩ := rows_of hbd (unhide HT) (unhide HG)
  have hmr := mrgR_rows (unhide HG)
  rw [← hR] at hmr
  have hsq := fun Hn => mall_seq Hn hp R Fe De hrows (fun W W' h hb => hst W W' (fun _ => False) h (Keep.of_below hb) (fun _ _ => id)) (fun r hr => by
    rw [hR] at hr
    split at hr
    · exact rowsS_ne _ _ r hr
    · cases hr)
  have HF := hide (And.intro hmr (And.intro hD (And.intro hst (And.intro hlow (And.intro hlt (And.intro b1 hsq))))))
  clear hbd hR hrows hD hst hlow hlt hmr hsq b1
  rw [← unhide HER]
  go_wp2_with fail
  go_ret2
  obtain ⟨hmr, hD, hst, hlow, hlt, b1, hsq⟩ := unhide HF
  have hb2 : Below w1.heap.size w1 (w1.alloc (.cells #[.pointer hp] 62)) := (Below.refl _ _).alloc (Nat.le_refl _) _
  have hn := World.alloc_heap_new w1 (.cells #[.pointer hp] 62)
  have hs := b1.size
  refine ⟨_, rfl, ⟨w1.heap.size, fun k => k = w1.heap.size ∨ Fe k, fun W => W.cell? ⟨w1.heap.size, 0, none⟩ = some (.pointer hp) ∧ De W, rfl, by rw [← hmr]; exact hsq w1.heap.size, ⟨⟨by rw [cell_of_row _ _ _ _ _ (0, 0) hn]; rfl, hst _ _ (fun _ => False) hD (Keep.of_below hb2) (fun _ _ => id)⟩, fun W W' G hd hk hg => ⟨?_, hst _ _ G hd.2 hk (fun k hf => hg k (Or.inr hf))⟩, fun k hk => ?_, fun k hk => ?_⟩⟩, b1.trans (hb2.mono b1.size)⟩
  · have hl := World.block_lt_of_cell? _ _ hd.1
    exact (hk.cell (p := ⟨w1.heap.size, 0, none⟩) hl (hg _ (Or.inl rfl))).trans hd.1
  · rcases hk with rfl | hk
    · exact hs
    · exact hlow k hk
  · rw [World.size_alloc]
    rcases hk with rfl | hk
    · omega
    · have := hlt k hk; omega

/-- A row that grows, in a variable: so many entries. -/
def EnI (B : Nat) (pre : List En) (C : Nat → Prop) (W : World) : Prop := GR B 24 37 4 pre.length (pre.flatMap eC) C W
theorem EnI.ok (B b : Nat) : SOk b (EnI B) := ⟨fun _ _ _ _ _ h hk hn _ => GR.stays h hk hn, fun _ _ _ h k hc => GR.lt h k hc⟩

set_option maxRecDepth 20000 in
set_option maxHeartbeats 4000000 in
theorem appseq_any (f : Value) (Z : List En) (b : Nat) (w : World) (h : AllS Z b f w) (hl : Z.length * 40 ≤ 140737488355328) :
    Calls Try.prog 35 #[.slice none 0 0, f] w fun r w' => ∃ v, r = .returned v ∧ w'.ownsRow 0 37 4 v Z.length (Z.flatMap eC) ∧ (∀ k, v.ownBlock = some k → w.heap.size ≤ k) ∧ Below w.heap.size w w' := by
  refine (callsIn_wide (n := 5)).1 ?_
  refine callsIn_of_wp_marks Try.func35 rfl trivial ?_ rfl
  simp only [Try.ntmps35, List.size_toArray, List.length_cons, List.length_nil, Nat.reduceAdd, Nat.reduceSub, Array.replicate_succ, Array.replicate_zero, List.push_toArray, List.append_toArray, List.nil_append, List.cons_append]
  obtain ⟨is, his, hs0, hs1, hs2⟩ := info_parts Try.infoEnt
  obtain ⟨Hn, F, D, rfl, hsq, hli⟩ := h
  have HSQ := hide hsq
  have HLI := hide hli
  have HL := hide hl
  clear hsq hli hl
  have hb0 : Below w.heap.size w (w.alloc (.cells #[.slice none 0 0] 24)) := (Below.refl _ _).alloc (Nat.le_refl _) _
  have HB0 := hide hb0
  have HN := hide (World.alloc_heap_new w (.cells #[.slice none 0 0] 24))
  have HSZ := hide (show (w.alloc (.cells #[.slice none 0 0] 24)).heap.size = w.heap.size + 1 by simp)
  clear hb0
  gi_wp2_with fail
  generalize w.alloc (.cells #[.slice none 0 0] 24) = w0 at *
  have hmx : Try.prog.follows .mixedOrders = true := by kernel_rfl
  have hLi := (unhide HLI).below (unhide HB0)
  have HST : Hid (EnI w.heap.size [] (VF w.heap.size (.slice none 0 0)) w0) := ⟨_, unhide HN, World.ownsRow_nil _ _ _ _, by simp [Value.ownBlock], fun _ => Iff.rfl⟩
  refine wpIn_seqHR (C0 := VF w.heap.size (.slice none 0 0)) (unhide HSQ) rfl (fun _ _ => by kernel_rfl) (fun _ _ _ _ _ h => by rw [h]; rfl)
    (EnI w.heap.size) (fun _ _ _ _ => False) (EnI.ok _ _) (fun _ => SOk.none _) (unhide HST) ?data ?apart ?round ?done ?stop
  case data =>
    intro X hb
    exact hLi.stays _ _ (fun _ => False) hLi.at_ (Keep.of_below hb) (fun _ _ => id)
  case apart =>
    intro k hk
    have h1 := hLi.lt k hk
    have h2 := (unhide HLI).lt k hk
    refine ⟨fun hc => ?_, h1⟩
    rcases hc with hc | hc
    · omega
    · cases hc
  case round =>
    rintro l2 pre x rest C W3 WB vs hZ hi3 hm hlt3 hbB hen
    unfold encE at hen
    subst hen
    have HZ := hide hZ
    have HI := hide (show EnI w.heap.size pre C WB from GR.stays hi3 (Keep.of_below hbB) (fun _ _ h => h) (G := fun _ => False))
    have HMB := hide (Moves.of_below (F := C) hbB)
    have HSB := hide (Nat.lt_of_lt_of_le hlt3 hbB.size)
    have HNB := hide (World.alloc_heap_new WB (.cells #[.string x.1, .int .u64 x.2.1, .int .i64 x.2.2.1, .int .i64 x.2.2.2] 37))
    unfold eV
    clear hZ hi3 hm hbB hlt3
    have hbn : Below WB.heap.size WB (WB.alloc (.cells #[.string x.1, .int .u64 x.2.1, .int .i64 x.2.2.1, .int .i64 x.2.2.2] 37)) := (Below.refl _ _).alloc (Nat.le_refl _) _
    have HI2 := hide (And.intro (show EnI w.heap.size pre C (WB.alloc (.cells #[.string x.1, .int .u64 x.2.1, .int .i64 x.2.2.1, .int .i64 x.2.2.2] 37)) from GR.stays (unhide HI) (Keep.of_below hbn) (fun _ _ h => h) (G := fun _ => False)) (unhide HNB))
    have HM2 := hide ((unhide HMB).trans (Moves.of_below (F := C) hbn))
    clear hbn
    gi_wp2
    refine ⟨fun C' X => EnI w.heap.size pre C' X ∧ X.heap[WB.heap.size]? = some (.cells #[.string x.1, .int .u64 x.2.1, .int .i64 x.2.2.1, .int .i64 x.2.2.2] 37 (0, 0)), C, ?put, unhide HI2, unhide HM2, fun W4 hi4 hm4 => ?_⟩
    case put =>
      rintro hn X o ⟨h1, h2⟩
      refine ⟨GR.stays h1 (keep_put X (w0.heap.size + 1) o) (fun k hc e => hn (e ▸ hc)), ((keep_put X (w0.heap.size + 1) o).block _ (Array.getElem?_eq_some_iff.1 h2).1 (fun e => by have := unhide HSB; omega)).trans h2⟩
    obtain ⟨⟨v, k1, k2, k3, k4⟩, hx4⟩ := hi4
    obtain ⟨y0, y1, y2, y3, _⟩ := ecells hx4
    have d0 : W4.cell? ⟨w.heap.size, 0, none⟩ = some v := by rw [cell_of_row W4 _ _ _ _ (0, 0) k1]; rfl
    have hlen : (pre.length + 1) * 40 ≤ 140737488355328 := by
      have h1 := unhide HL
      rw [unhide HZ, List.length_append, List.length_cons] at h1
      omega
    have HLEN := hide (show pre.length + 1 ≤ maxLen ∧ (pre.length + 1) * 40 ≤ 140737488355328 from ⟨by unfold maxLen; omega, hlen⟩)
    obtain ⟨W5, hW5⟩ : ∃ W5, W4.alloc (.cells #[.string x.1, .int .u64 x.2.1, .int .i64 x.2.2.1, .int .i64 x.2.2.2] 37) = W5 := ⟨_, rfl⟩
    have hb5 : Below W4.heap.size W4 W5 := by rw [← hW5]; exact (Below.refl _ _).alloc (Nat.le_refl _) _
    have HNEW : Hid (∀ (j : Nat) (u : Value), [Value.string x.1, .int .u64 x.2.1, .int .i64 x.2.2.1, .int .i64 x.2.2.2][j]? = some u → W5.cell? ((⟨W4.heap.size, 0, none⟩ : Addr).add j) = some u) := by unfold Hid; rw [← hW5]; exact four_new W4 _ _ _ _ _
    have HK2 := hide (ownsV_keep (F := fun _ => False) k2 (Keep.of_below hb5) (fun _ _ => id))
    have HG := hide (fun (v2 : Value) (w2 : World) (h1 : w2.ownsRow 0 37 4 v2 (pre.length + 1) (pre.flatMap eC ++ [.string x.1, .int .u64 x.2.1, .int .i64 x.2.2.1, .int .i64 x.2.2.2])) (h2 : W5.grownBy w2 v.ownBlock) (h3 : v2.ownBlock = v.ownBlock ∨ v2.ownBlock = some W5.heap.size) => GR.more (C := C) k1 k3 (fun k hk => (k4 k).2 hk) hb5 h1 h2 h3)
    have HCE := hide (fun (w2 : World) (hg : W5.grownBy w2 v.ownBlock) => show w2.frozen? ⟨w.heap.size, 0, none⟩ = false ∧ w2.cell? ⟨w.heap.size, 0, none⟩ = some v from by
      have hB := (hg.block w.heap.size (Nat.lt_of_lt_of_le (Array.getElem?_eq_some_iff.1 k1).1 hb5.size) (fun e => k3 e.symm)).trans ((hb5.block _ (Array.getElem?_eq_some_iff.1 k1).1).trans k1)
      exact ⟨frozen_of_block hB, by rw [cell_of_row w2 _ _ _ _ (0, 0) hB]; rfl⟩)
    obtain ⟨pv, cv, rfl⟩ := ownsV_shape k2
    have HFL : Hid ((pre ++ [x]).flatMap eC = pre.flatMap eC ++ [.string x.1, .int .u64 x.2.1, .int .i64 x.2.2.1, .int .i64 x.2.2.2] ∧ (pre ++ [x]).length = pre.length + 1) := hide ⟨by rw [List.flatMap_append]; rfl, by simp⟩
    clear k1 k2 k3 k4 hx4 hm4 hlen HI2 HM2
    gi_wp2_with (first
      | (gi_at_builtin; refine wpListIn_append_any rfl (.tmp 8) (.tmp 10) 24 rfl 0 37 is _ Try.underlying24 his hs0 4 40 (by omega) hs1 hs2 rfl (.slice pv pre.length cv) pre.length (pre.flatMap eC) rfl (unhide HK2) ⟨W4.heap.size, 0, none⟩ 1 1 [.string x.1, .int .u64 x.2.1, .int .i64 x.2.2.1, .int .i64 x.2.2.2] rfl rfl (unhide HNEW) (by intro u hu; simp at hu; rcases hu with rfl | rfl | rfl | rfl <;> rfl) (unhide HLEN).1 (unhide HLEN).2 (Nat.zero_le _) ?_))
    intro v2 w2 hown hg hob
    obtain ⟨yf, yc⟩ := unhide HCE w2 hg
    have HFIN := hide (unhide HG v2 w2 hown hg hob)
    obtain ⟨p7, n7, rfl⟩ := ownsV_shape hown
    clear hown hg hob
    gi_wp2_with fail
    refine ⟨_, ?_, (unhide HFIN).2⟩
    unfold EnI
    rw [(unhide HFL).1, (unhide HFL).2]
    exact (unhide HFIN).1
  case done =>
    rintro dd C W5 hdd ⟨v, k1, k2, k3, k4⟩ hm hnc hK
    have y1 : W5.cell? ⟨w.heap.size, 0, none⟩ = some v := by rw [cell_of_row W5 _ _ _ _ (0, 0) k1]; rfl
    have HE := hide (And.intro k2 (And.intro k4 (And.intro hm (And.intro hnc hdd))))
    have HK := hide hK
    obtain ⟨q1, n1, rfl⟩ := ownsV_shape k2
    clear k1 k2 k3 k4 hm hnc hK hdd
    gi_wp2_with fail
    refine ⟨by simp, .inl ⟨_, _, rfl, run_takeDeferred (unhide HK), ?_⟩⟩
    obtain ⟨k2, k4, hm, hnc, hdd⟩ := unhide HE
    have hp := keep_put W5 dd (.deferred none)
    have hown : ∀ k, (.slice q1 Z.length n1 : Value).ownBlock = some k → ¬ k = dd := fun k hk e => hnc ((k4 dd).2 (Or.inr (e ▸ hk)))
    refine ⟨.slice q1 Z.length n1, by simp [results, Try.results35, go_sem], .slice q1 Z.length n1, rfl, ownsV_keep k2 hp hown, fun k hk => ?_, ?_⟩
    · rcases hm.sub k ((k4 k).2 (Or.inr hk)) with h | h
      · rcases h with h | h
        · omega
        · cases h
      · have := (unhide HB0).size; omega
    · exact below_put (unhide HB0) hm (fun k hk => by
        rcases hk with h | h
        · omega
        · cases h) hdd _
  case stop =>
    rintro dd c pre x rest C W _ _ h
    exact h.elim
end Go.Proofs.Ytcjepiihknjeiaa.QH

/- Package merge as landed: Merge; the statements' own awake. -/
namespace Go.Proofs.Ytcjepiihknjeiaa.QH
open Go.RowKit

set_option maxRecDepth 20000 in
theorem collect_any (f : Value) (Z : List En) (b : Nat) (w : World) (h : AllS Z b f w) (hl : Z.length * 40 ≤ 140737488355328) :
    Calls Try.prog 22 #[f] w fun r w' => ∃ v, r = .returned v ∧ w'.ownsRow 0 37 4 v Z.length (Z.flatMap eC) ∧ (∀ k, v.ownBlock = some k → w.heap.size ≤ k) ∧ Below w.heap.size w w' := by
  have HA := hide (appseq_any f Z b w h hl)
  obtain ⟨Hn, F, D, rfl, _⟩ := h
  clear hl
  go_enter Try.func22, Try.ntmps22
  go_wp2_with fail
  refine Calls.mono (unhide HA) ?_
  rintro e w1 ⟨v, rfl, h1, h2, h3⟩
  have HV := hide (And.intro h1 (And.intro h2 h3))
  obtain ⟨p, c, rfl⟩ := ownsV_shape h1
  clear h1 h2 h3
  go_wp2_with fail
  go_ret
  exact ⟨_, rfl, unhide HV⟩
theorem mrgR_len (LL : List (List En)) : (mrgR LL).1.length ≤ totE LL := by
  unfold mrgR
  split
  · exact Nat.zero_le _
  · split
    · exact mrgE_len LL
    · exact Nat.zero_le _
theorem len_tot : ∀ {LL : List (List En)} {l : List En}, l ∈ LL → l.length ≤ totE LL
  | [], _, h => by cases h
  | m :: LL, l, h => by
    rw [totE_cons]
    rcases List.mem_cons.1 h with rfl | h
    · omega
    · have := len_tot h; omega
set_option maxRecDepth 20000 in
set_option maxHeartbeats 2000000 in
theorem merge_any (v : Value) (LL : List (List En)) (w : World) (h : LR w v LL) (hl : totE LL * 40 ≤ 140737488355328) :
    Calls Try.prog 10 #[v] w fun r w' => ∃ v', r = .returned (.tuple #[v', .int .i64 (mrgR LL).2]) ∧ w'.ownsRow 0 37 4 v' (mrgR LL).1.length ((mrgR LL).1.flatMap eC) ∧ (∀ k, v'.ownBlock = some k → w.heap.size ≤ k) ∧ Below w.heap.size w w' := by
  have HA := hide (mall_any v LL w h (fun l hl2 => by have := len_tot hl2; omega) (by omega))
  have HM := hide (show (mrgR LL).1.length * 40 ≤ 140737488355328 by have := mrgR_len LL; omega)
  obtain ⟨p, c, rfl⟩ : ∃ p c, v = .slice p LL.length c := by
    obtain ⟨vs, h1, h2, _⟩ := h
    obtain ⟨p, c, e, _⟩ := h2.shape
    exact ⟨p, c, by rw [e, h1]⟩
  clear h hl
  obtain ⟨er, her⟩ : ∃ er, er = (mrgR LL).2 := ⟨_, rfl⟩
  rw [← her] at HA ⊢
  clear her
  go_enter Try.func10, Try.ntmps10
  go_wp2_with fail
  refine Calls.mono (unhide HA) ?_
  rintro e w1 ⟨f, rfl, hf, b1⟩
  have HC := hide (collect_any f _ _ w1 hf (unhide HM))
  have HB := hide b1
  obtain ⟨Hn, F, D, rfl, _⟩ := hf
  clear b1
  go_wp2_with fail
  refine Calls.mono (unhide HC) ?_
  rintro e w2 ⟨v2, rfl, h1, h2, h3⟩
  have HV := hide (And.intro h1 (And.intro h2 h3))
  obtain ⟨p2, c2, rfl⟩ := ownsV_shape h1
  generalize hN : (mrgR LL).1.length = N at *
  have HN := hide hN
  clear h1 h2 h3 hN
  go_wp2_with fail
  go_ret2
  rw [unhide HN]
  exact ⟨_, rfl, (unhide HV).1, fun k hk => Nat.le_trans (unhide HB).size ((unhide HV).2.1 k hk), (unhide HB).trans ((unhide HV).2.2.mono (unhide HB).size)⟩

/-- A slice of lists, as it is written down. -/
theorem lr_lit {W : World} {B T : Nat} {vs : List Value} {LL : List (List En)} (h : W.heap[B]? = some (.cells vs.toArray T (0, 0))) (hlen : vs.length = LL.length) (hm : vs.length ≤ maxLen) (he : ∀ (j : Nat) (s : Value) (l : List En), vs[j]? = some s → LL[j]? = some l → ER W s l) : LR W (.slice (some ⟨B, 0, none⟩) vs.length vs.length) LL :=
  ⟨vs, hlen, ⟨_, _, rfl, Nat.le_refl _, hm, fun e => (by cases e), Or.inr ⟨B, 0, rfl, fun j v hv => by
    rw [cell_of_row W B _ _ T (0, 0) h, Nat.zero_add]
    simpa using hv⟩⟩, he⟩
theorem er_one {W : World} {B T : Nat} {x : En} (h : W.heap[B]? = some (.cells #[.string x.1, .int .u64 x.2.1, .int .i64 x.2.2.1, .int .i64 x.2.2.2] T (0, 0))) : ER W (.slice (some ⟨B, 0, none⟩) 1 1) [x] :=
  ⟨_, _, rfl, Nat.le_refl _, by unfold maxLen; omega, fun e => (by cases e), rfl, Or.inr ⟨B, 0, rfl, fun j v hv => by
    rw [cell_of_row W B _ _ T (0, 0) h, Nat.zero_add]
    simpa [eC] using hv⟩⟩
def eB : En := (⟨#[98]⟩, 0, 0, 0)
def eA : En := (⟨#[97]⟩, 0, 0, 0)
theorem awk_mrg : mrgR [[eB], [eA]] = ([eA, eB], 0) := by kernel_rfl

set_option maxRecDepth 20000 in
set_option maxHeartbeats 2000000 in
theorem mawake12_any (w : World) : Calls Try.prog 13 #[] w fun e w' => e = .returned (.bool true) ∧ Below w.heap.size w w' := by
  obtain ⟨W1, hW1⟩ : ∃ W1, w.alloc (.cells #[.string ⟨#[98]⟩, .int .u64 0, .int .i64 0, .int .i64 0] 37) = W1 := ⟨_, rfl⟩
  obtain ⟨W2, hW2⟩ : ∃ W2, W1.alloc (.cells #[.string ⟨#[97]⟩, .int .u64 0, .int .i64 0, .int .i64 0] 37) = W2 := ⟨_, rfl⟩
  obtain ⟨W3, hW3⟩ : ∃ W3, W2.alloc (.cells #[.slice (some ⟨w.heap.size, 0, none⟩) 1 1, .slice (some ⟨w.heap.size + 1, 0, none⟩) 1 1] 24) = W3 := ⟨_, rfl⟩
  have h1 : W1.heap[w.heap.size]? = some (.cells #[.string ⟨#[98]⟩, .int .u64 0, .int .i64 0, .int .i64 0] 37 (0, 0)) := by rw [← hW1]; exact World.alloc_heap_new _ _
  have s1 : W1.heap.size = w.heap.size + 1 := by rw [← hW1]; simp
  have s2 : W2.heap.size = w.heap.size + 1 + 1 := by rw [← hW2]; simp [s1]
  have h2 : W2.heap[w.heap.size + 1]? = some (.cells #[.string ⟨#[97]⟩, .int .u64 0, .int .i64 0, .int .i64 0] 37 (0, 0)) := by rw [← hW2, ← s1]; exact World.alloc_heap_new _ _
  have h3 : W3.heap[w.heap.size + 1 + 1]? = some (.cells #[.slice (some ⟨w.heap.size, 0, none⟩) 1 1, .slice (some ⟨w.heap.size + 1, 0, none⟩) 1 1] 24 (0, 0)) := by rw [← hW3, ← s2]; exact World.alloc_heap_new _ _
  have b1 : Below w.heap.size w W1 := by rw [← hW1]; exact (Below.refl _ _).alloc (Nat.le_refl _) _
  have b2 : Below W1.heap.size W1 W2 := by rw [← hW2]; exact (Below.refl _ _).alloc (Nat.le_refl _) _
  have b3 : Below W2.heap.size W2 W3 := by rw [← hW3]; exact (Below.refl _ _).alloc (Nat.le_refl _) _
  have b23 := b2.trans (b3.mono b2.size)
  have hlr : LR W3 (.slice (some ⟨w.heap.size + 1 + 1, 0, none⟩) 2 2) [[eB], [eA]] := lr_lit (vs := [.slice (some ⟨w.heap.size, 0, none⟩) 1 1, .slice (some ⟨w.heap.size + 1, 0, none⟩) 1 1]) h3 rfl (by simp [maxLen]) (fun j s l hs hl => by
    match j, hs, hl with
    | 0, hs, hl =>
      simp only [List.getElem?_cons_zero, Option.some.injEq] at hs hl
      subst hs; subst hl
      exact er_one (x := eB) ((b23.block _ (by omega)).trans h1)
    | 1, hs, hl =>
      simp only [List.getElem?_cons_succ, List.getElem?_cons_zero, Option.some.injEq] at hs hl
      subst hs; subst hl
      exact er_one (x := eA) ((b3.block _ (by omega)).trans h2))
  have HB := hide (b1.trans (b23.mono b1.size))
  have hme := merge_any _ _ W3 hlr (by simp [totE])
  rw [awk_mrg] at hme
  have HM := hide hme
  have HW := hide (And.intro hW1 (And.intro hW2 hW3))
  have hw3 : (((w.alloc (.cells #[.string ⟨#[98]⟩, .int .u64 0, .int .i64 0, .int .i64 0] 37)).alloc (.cells #[.string ⟨#[97]⟩, .int .u64 0, .int .i64 0, .int .i64 0] 37)).alloc (.cells #[.slice (some ⟨w.heap.size, 0, none⟩) 1 1, .slice (some ⟨w.heap.size + 1, 0, none⟩) 1 1] 24)) = W3 := by rw [hW1, hW2, hW3]
  clear hW1 hW2 hW3 h1 s1 s2 h2 h3 b1 b2 b3 b23 hlr hme HW
  have HW3 := hide hw3
  clear hw3
  go_enter Try.func13, Try.ntmps13
  go_wp2_with fail
  rw [unhide HW3]
  refine Calls.mono (unhide HM) ?_
  rintro e w4 ⟨v4, rfl, o4, n4, b4⟩
  have HBW := hide ((unhide HB).trans (b4.mono (unhide HB).size))
  obtain ⟨g, c4, rfl, y0⟩ : ∃ g c4, v4 = .slice (some ⟨g, 0, none⟩) 2 c4 ∧ w4.cell? ⟨g, 0, none⟩ = some (.string ⟨#[97]⟩) := by
    rcases o4.2 with ⟨_, h0⟩ | ⟨g, cap, cur, hv, _⟩
    · cases h0
    · have q0 := o4.cells (g := g) (by rw [hv]; rfl) 0 (.string ⟨#[97]⟩) rfl
      rw [Addr.add_lit] at q0
      exact ⟨g, cap, hv, q0⟩
  have hmx : Try.prog.follows .mixedOrders = true := by kernel_rfl
  clear o4 n4 b4 HM HW3
  go_wp2_with fail
  go_ret
  exact ⟨rfl, unhide HBW⟩
end Go.Proofs.Ytcjepiihknjeiaa.QH

/- Package merge as landed: what the sequence of Walk tells. -/
namespace Go.Proofs.Ytcjepiihknjeiaa.QH
open Go.RowKit Go.Shelf
attribute [local go_sem] Oper.semAt_some

theorem lookR_new {i : Nat} {e : En} : ∀ {l : List (Nat × En)}, (∀ z ∈ l, z.1 ≠ i) → lookR i (l ++ [(i, e)]) = e
  | [], _ => by simp [lookR]
  | z :: l, h => by
    show (if z.1 = i then z.2 else lookR i (l ++ [(i, e)])) = e
    rw [if_neg (h z (by simp))]
    exact lookR_new fun y hy => h y (by simp [hy])
theorem lookR_old {i k : Nat} {e : En} (hk : i ≠ k) : ∀ (l : List (Nat × En)), lookR k (l ++ [(i, e)]) = lookR k l
  | [] => by simp [lookR, hk]
  | z :: l => by
    show (if z.1 = k then z.2 else lookR k (l ++ [(i, e)])) = (if z.1 = k then z.2 else lookR k l)
    rw [lookR_old hk l]
/-- What a caller has between two rounds of the range within. -/
def MwJ (J : List (En × En) → (Nat → Prop) → World → Prop) (C0 : Nat → Prop) (W : World) (pre : List (List (Nat × En))) (C : Nat → Prop) (W' : World) : Prop := J (pre.map pairR) C W' ∧ Moves C0 C W W'
theorem MwJ.ok {J : List (En × En) → (Nat → Prop) → World → Prop} {C0 : Nat → Prop} {W : World} {b : Nat} (h : SOk W.heap.size J) (hb : W.heap.size ≤ b) : SOk b (MwJ J C0 W) :=
  ⟨fun _ C X X' G ⟨h1, h2⟩ hk hn hg => ⟨(h.from hb).stays _ C X X' G h1 hk hn hg, h2.keep.trans hk (fun k hk => Or.inr (Nat.le_trans hb (hg k hk))), h2.sub⟩, fun _ C X ⟨h1, _⟩ => h.lt _ C X h1⟩
theorem MwJ.okx {J : List (En × En) → (Nat → Prop) → World → Prop} {C0 : Nat → Prop} {W : World} {b : Nat} {c : Code} (h : SOk W.heap.size J) (hb : W.heap.size ≤ b) : SOk b (fun pre C X => c = .ret ∧ MwJ J C0 W pre C X) :=
  ⟨fun pre C X X' G ⟨h0, h1⟩ hk hn hg => ⟨h0, (MwJ.ok h hb).stays pre C X X' G h1 hk hn hg⟩, fun pre C X ⟨_, h1⟩ => (MwJ.ok (C0 := C0) h hb).lt pre C X h1⟩
def encW (_ : Nat → Prop) (_ : World) (x : En × En) (vs : Array Value) (_ : World) : Prop := vs = #[eV x.1, eV x.2]

/-- The two entries of a row, as far as it was gone through. -/
def eCs (a b : En) : Array Value := #[.string a.1, .int .u64 a.2.1, .int .i64 a.2.2.1, .int .i64 a.2.2.2, .string b.1, .int .u64 b.2.1, .int .i64 b.2.2.1, .int .i64 b.2.2.2]
def bothAt (w : World) (B : Nat) (r : List (Nat × En)) (X : World) : Prop := X.heap[B]? = some (.cells (eCs (lookR 0 r) (lookR 1 r)) 69 (0, 0)) ∧ Below w.heap.size w X
theorem both_set {B : Nat} {a b x : En} {X : World} (h : X.heap[B]? = some (.cells (eCs a b) 69 (0, 0))) :
    ((((X.setCell ⟨B, 0, none⟩ (.string x.1)).setCell ⟨B, 1, none⟩ (.int .u64 x.2.1)).setCell ⟨B, 2, none⟩ (.int .i64 x.2.2.1)).setCell ⟨B, 3, none⟩ (.int .i64 x.2.2.2)).heap[B]? = some (.cells (eCs x b) 69 (0, 0)) ∧
    ((((X.setCell ⟨B, 4, none⟩ (.string x.1)).setCell ⟨B, 5, none⟩ (.int .u64 x.2.1)).setCell ⟨B, 6, none⟩ (.int .i64 x.2.2.1)).setCell ⟨B, 7, none⟩ (.int .i64 x.2.2.2)).heap[B]? = some (.cells (eCs a x) 69 (0, 0)) := by
  constructor
  · have h1 := heap_setCell_same X B 0 _ _ (.string x.1) h
    have h2 := heap_setCell_same _ B 1 _ _ (.int .u64 x.2.1) h1
    have h3 := heap_setCell_same _ B 2 _ _ (.int .i64 x.2.2.1) h2
    rw [heap_setCell_same _ B 3 _ _ (.int .i64 x.2.2.2) h3]; rfl
  · have h1 := heap_setCell_same X B 4 _ _ (.string x.1) h
    have h2 := heap_setCell_same _ B 5 _ _ (.int .u64 x.2.1) h1
    have h3 := heap_setCell_same _ B 6 _ _ (.int .i64 x.2.2.1) h2
    rw [heap_setCell_same _ B 7 _ _ (.int .i64 x.2.2.2) h3]; rfl
theorem set4_below {w X : World} {B o : Nat} (h : Below w.heap.size w X) (hB : w.heap.size ≤ B) (a b c d : Value) : Below w.heap.size w ((((X.setCell ⟨B, o, none⟩ a).setCell ⟨B, o + 1, none⟩ b).setCell ⟨B, o + 2, none⟩ c).setCell ⟨B, o + 3, none⟩ d) :=
  (((h.setCell (p := ⟨B, o, none⟩) hB _).setCell (p := ⟨B, o + 1, none⟩) hB _).setCell (p := ⟨B, o + 2, none⟩) hB _).setCell (p := ⟨B, o + 3, none⟩) hB _
theorem two_le {r : List (Nat × En)} (h : r.Pairwise fun a b => a.1 < b.1) (h2 : ∀ y ∈ r, y.1 < 2) : r.length ≤ 2 := by
  match r, h, h2 with
  | [], _, _ => exact Nat.zero_le _
  | [_], _, _ => exact Nat.succ_le_succ (Nat.zero_le _)
  | [_, _], _, _ => exact Nat.le_refl _
  | a :: b :: c :: t, h, h2 =>
    obtain ⟨h3, h4⟩ := List.pairwise_cons.1 h
    obtain ⟨h5, _⟩ := List.pairwise_cons.1 h4
    have := h3 b (by simp)
    have := h5 c (by simp)
    have := h2 c (by simp)
    omega
set_option maxRecDepth 20000 in
set_option maxHeartbeats 4000000 in
theorem mwalk_seq (Hn : Nat) (p : Option Addr) (R : List (List (Nat × En))) (Fe : Nat → Prop) (De : World → Prop)
    (hrows : ∀ Bn, SeqH 40 #[.pointer (some ⟨Bn, 0, none⟩)] encR R (fun k => k = Bn ∨ Fe k) (fun W => W.cell? ⟨Bn, 0, none⟩ = some (.pointer p) ∧ De W)) (hDe : ∀ W W', De W → Below W.heap.size W W' → De W') (hne : ∀ r ∈ R, (r.Pairwise fun a b => a.1 < b.1) ∧ ∀ y ∈ r, y.1 < 2) :
    SeqH 31 #[.pointer (some ⟨Hn, 0, none⟩)] encW (R.map pairR) (fun k => k = Hn ∨ Fe k) (fun W => W.cell? ⟨Hn, 0, none⟩ = some (.pointer p) ∧ De W) := by
  intro J Jx l m C0 W hJ hJx hY h0 hD hF
  obtain ⟨hB, hDW⟩ := hD
  refine callsIn_of_wp_marks Try.func31 rfl trivial ?_ rfl
  simp only [Try.ntmps31, List.size_toArray, List.length_cons, List.length_nil, Nat.reduceAdd, Nat.reduceSub, Array.replicate_succ, Array.replicate_zero, List.push_toArray, List.append_toArray, List.nil_append, List.cons_append]
  have HY := hide hY
  have HF := hide hF
  have HJ := hide (And.intro hJ hJx)
  have H0 := hide h0
  have HDE := hide (And.intro hDe (And.intro hDW hne))
  have HR := hide hrows
  have HRA := hide (fun w => rows_any w p)
  have hbY : Below W.heap.size W (W.alloc (.cells #[.func (.yield l) #[] #[]] 59)) := (Below.refl _ W).alloc (Nat.le_refl _) _
  have hB0 := (hbY.cell (p := ⟨Hn, 0, none⟩) (unhide HF Hn (Or.inl rfl)).2).trans hB
  have HBY := hide hbY
  clear hY hF hJ hJx h0 hDe hDW hne hrows hbY
  gi_wp2_with fail
  refine ⟨trivial, (fun h => (by cases h)), (callsIn_wide.2 (unhide HRA _)).mono ?_⟩
  rintro e w1 ⟨rfl, rfl⟩
  gi_wp2_with fail
  have hbW : Below W.heap.size W ((W.alloc (.cells #[.func (.yield l) #[] #[]] 59)).alloc (.cells #[.pointer p] 62)) := ((Below.refl _ W).alloc (Nat.le_refl _) _).alloc (by simp) _
  have HBW := hide hbW
  have HYN : Hid (((W.alloc (.cells #[.func (.yield l) #[] #[]] 59)).alloc (.cells #[.pointer p] 62)).heap[W.heap.size]? = some (.cells #[.func (.yield l) #[] #[]] 59 (0, 0)) ∧ ((W.alloc (.cells #[.func (.yield l) #[] #[]] 59)).alloc (.cells #[.pointer p] 62)).heap[W.heap.size + 1]? = some (.cells #[.pointer p] 62 (0, 0))) := hide ⟨(Below.heap_alloc _ _ _ (by simp)).trans (World.alloc_heap_new W _), by
    have := World.alloc_heap_new (W.alloc (.cells #[.func (.yield l) #[] #[]] 59)) (.cells #[.pointer p] 62); rwa [World.size_alloc] at this⟩
  have hsz : ((W.alloc (.cells #[.func (.yield l) #[] #[]] 59)).alloc (.cells #[.pointer p] 62)).heap.size = W.heap.size + 2 := by simp
  have HSZ := hide hsz
  generalize (W.alloc (.cells #[.func (.yield l) #[] #[]] 59)).alloc (.cells #[.pointer p] 62) = W1 at *
  clear hbW hsz hB0 hB
  refine wpIn_seqHR (C0 := C0) (unhide HR (W.heap.size + 1)) rfl (fun _ _ => by kernel_rfl) (fun _ _ _ _ _ h => by obtain ⟨v, hs, e, _⟩ := h; rw [e]; rfl)
    (MwJ J C0 W) (fun c pre C W' => c = .ret ∧ MwJ Jx C0 W pre C W') (MwJ.ok (unhide HJ).1 (unhide HBW).size) (fun c => MwJ.okx (unhide HJ).2 (unhide HBW).size) ⟨(unhide HJ).1.below (unhide H0) (unhide HBW), Moves.of_below (unhide HBW)⟩ ?data ?apart ?round ?done ?stop
  case data =>
    intro X hb
    have h2 := (unhide HYN).2
    have l2 := (Array.getElem?_eq_some_iff.1 h2).1
    have c1 : W1.cell? ⟨W.heap.size + 1, 0, none⟩ = some (.pointer p) := by rw [cell_of_row W1 _ _ _ _ (0, 0) h2]; rfl
    exact ⟨(hb.cell (p := ⟨W.heap.size + 1, 0, none⟩) l2).trans c1, (unhide HDE).1 _ _ ((unhide HDE).1 _ _ (unhide HDE).2.1 (unhide HBW)) hb⟩
  case apart =>
    intro k hk
    have hlt : ∀ k, C0 k → k < W.heap.size := fun k hk => (unhide HJ).1.lt _ _ _ (unhide H0) k hk
    have hs := unhide HSZ
    rcases hk with rfl | hk
    · exact ⟨fun hc => by have := hlt _ hc; omega, by omega⟩
    · obtain ⟨h1, h2⟩ := unhide HF k (Or.inr hk)
      exact ⟨h1, by omega⟩
  case round =>
    rintro l2 pre r rest C W3 WB vs hZ ⟨hj3, hm3⟩ hm _ hbB ⟨v, hs, rfl, hr, hrow, hvC, hhs⟩
    have hs2 := unhide HSZ
    have hrowat : RowAt v hs (fun k => C k ∨ k = W1.heap.size ∨ k = W1.heap.size + 1) WB := ⟨hrow, fun y hy => (hhs y hy).1, hvC, fun y hy => (hhs y hy).2.1⟩
    have hj4 : MwJ J C0 W pre C WB := ⟨(unhide HJ).1.below hj3 hbB, hm3.trans (Moves.of_below hbB)⟩
    have HJ4 := hide (And.intro hj4 hrowat)
    have HZ := hide hZ
    have HRR := hide hr
    have HOF := hide (fun y hy => (hhs y hy).2.2)
    have HMB := hide (Moves.of_below (F := C) hbB)
    clear hZ hj3 hm3 hm hbB hr hrow hvC hhs hj4 hrowat
    gi_wp2
    refine ⟨fun C' X => MwJ J C0 W pre C' X ∧ RowAt v hs (fun k => C k ∨ k = W1.heap.size ∨ k = W1.heap.size + 1) X, C, ?put, unhide HJ4, unhide HMB, fun W4 hi4 hm4 => ?_⟩
    case put =>
      rintro hn X o ⟨h1, h2⟩
      refine ⟨(MwJ.ok (unhide HJ).1 (unhide HBW).size).stays _ _ _ _ _ h1 (keep_put X (W1.heap.size + 1) o) (fun k hc e => hn (e ▸ hc)) (fun k e => by omega), h2.keep (keep_put X (W1.heap.size + 1) o) (fun k e => Or.inr (Or.inr e))⟩
    have hmx : Try.prog.follows .mixedOrders = true := by kernel_rfl
    obtain ⟨hrp, hr2⟩ := (unhide HDE).2.2 r (by rw [unhide HZ]; simp)
    obtain ⟨hj4, hro4⟩ := hi4
    have HRP := hide (And.intro hrp hr2)
    have HRO4 := hide hro4
    have HI4 := hide hj4
    have HM4 := hide hm4
    obtain ⟨pv, cv, rfl, _⟩ := hro4.1.shape
    have hAlen : ((hs.length : Nat) : Int) ≤ 4611686018427387904 := by
      have h1 := two_le hrp hr2
      rw [← unhide HRR, List.length_map] at h1
      omega
    have HST := hide (show bothAt W4 W4.heap.size [] (W4.alloc (.cells #[.string ⟨#[]⟩, .int .u64 0, .int .i64 0, .int .i64 0, .string ⟨#[]⟩, .int .u64 0, .int .i64 0, .int .i64 0] 69)) from ⟨World.alloc_heap_new _ _, (Below.refl _ _).alloc (Nat.le_refl _) _⟩)
    clear hrp hr2 hj4 hro4 hm4 HJ4
    gi_wp2_with fail
    gi_loopw [12] (fun iv wr => ∃ j : Nat, iv = .int .i64 (j : Int) ∧ j ≤ hs.length ∧ Hid (bothAt W4 W4.heap.size (r.take j) wr)) (fun iv _ => hs.length - (intOf iv).toNat)
    case atStart => exact ⟨0, rfl, Nat.zero_le _, unhide HST⟩
    case round =>
      obtain ⟨j, rfl, hj, hbo⟩ := hrel
      by_cases hlt : j < hs.length
      · have hjI : (j : Int) < ((hs.length : Nat) : Int) := by omega
        obtain ⟨hbb, hbl⟩ := unhide hbo
        have hro := (unhide HRO4).below hbl
        obtain ⟨g, o, c, hv, hc1, hc2, hcl⟩ := KRow.open hro.1 (by omega)
        have r0 : wr.cell? ⟨g, o + j * 2, none⟩ = some (.int .i64 hs[j].of) := by have := hcl (j * 2 + 0) (.int .i64 hs[j].of) (by rw [flat_get hC_len hs j hlt 0 (by omega)]; rfl); simpa using this
        have r1 : wr.cell? ⟨g, o + j * 2 + 1, none⟩ = some (.slice hs[j].p hs[j].n hs[j].c) := by have := hcl (j * 2 + 1) (.slice hs[j].p hs[j].n hs[j].c) (by rw [flat_get hC_len hs j hlt 1 (by omega)]; rfl); rwa [← Nat.add_assoc] at this
        simp only [Value.slice.injEq] at hv
        obtain ⟨rfl, _, rfl⟩ := hv
        have hyr : r[j]? = some (hE hs[j]) := by rw [← unhide HRR, List.getElem?_map, List.getElem?_eq_getElem hlt]; rfl
        have hjr : j < r.length := (List.getElem?_eq_some_iff.1 hyr).1
        have hye : r[j] = hE hs[j] := (List.getElem?_eq_some_iff.1 hyr).2
        have htk : r.take (j + 1) = r.take j ++ [hE hs[j]] := by rw [List.take_succ_eq_append_getElem hjr, hye]
        have hof : hs[j].of = 0 ∨ hs[j].of = 1 := by
          have h1 := (unhide HRP).2 _ (List.mem_of_getElem? hyr)
          have h2 := (unhide HOF) hs[j] (List.getElem_mem hlt)
          have h3 : hs[j].of.toNat < 2 := h1
          omega
        have hnot : ∀ z ∈ r.take j, z.1 ≠ hs[j].of.toNat := fun z hz => by
          obtain ⟨i, hi, rfl⟩ := List.mem_iff_getElem.1 hz
          rw [List.length_take] at hi
          have h1 := List.pairwise_iff_getElem.1 (unhide HRP).1 i j (by omega) hjr (by omega)
          rw [hye] at h1
          rw [List.getElem_take]
          have h2 : r[i].1 < hs[j].of.toNat := h1
          omega
        have HHE := hide (hro.2.1 hs[j] (List.getElem_mem hlt))
        have HTK := hide (And.intro htk hnot)
        have HLT := hide hlt
        have HBO := hide (And.intro hbb hbl)
        have hjw : IntKind.i64.wrap ((j : Int) + 1) = (j : Int) + 1 := by rw [IntKind.wrap_i64]; omega
        have hmx : Try.prog.follows .mixedOrders = true := by kernel_rfl
        clear hyr hjr hye htk hnot hro hbb hbl hcl hc1 hc2 hbo hj
        generalize hs[j] = y at *
        obtain ⟨of, yp, yn, yc, yes⟩ := y
        clear hlt
        simp only at r0 r1 hof
        rcases hof with rfl | rfl
        · have hnew := World.alloc_heap_new wr (.cells #[.int .i64 0, .slice yp yn yc] 71)
          have hbn : Below wr.heap.size wr (wr.alloc (.cells #[.int .i64 0, .slice yp yn yc] 71)) := (Below.refl _ _).alloc (Nat.le_refl _) _
          gi_wp2_with fail
          obtain ⟨Wn, hWn⟩ : ∃ Wn, wr.alloc (.cells #[.int .i64 0, .slice yp yn yc] 71) = Wn := ⟨_, rfl⟩
          rw [hWn] at hnew hbn ⊢
          have HB5 := hide (show bothAt W4 W4.heap.size (r.take j) Wn.drew ∧ wr.heap.size ≤ Wn.heap.size from ⟨by
            obtain ⟨h1, h2⟩ := unhide HBO
            have h3 := hbn.drew
            exact ⟨(h3.block _ (Array.getElem?_eq_some_iff.1 h1).1).trans h1, h2.trans (h3.mono h2.size)⟩, hbn.size⟩)
          have HHE2 := hide ((unhide HHE).below hbn.drew)
          have HI0 : Hid (∀ X, Below Wn.drew.heap.size Wn.drew X → X.cell? ⟨wr.heap.size, 0, none⟩ = some (.int .i64 0) ∧ X.cell? ⟨wr.heap.size, 1, none⟩ = some (.slice yp yn yc)) := fun X hb => by
            have h1 := (hb.block _ (show wr.heap.size < Wn.drew.heap.size from (Array.getElem?_eq_some_iff.1 hnew).1)).trans (show Wn.drew.heap[wr.heap.size]? = _ from hnew)
            exact ⟨by rw [cell_of_row X _ _ _ _ (0, 0) h1]; rfl, by rw [cell_of_row X _ _ _ _ (0, 0) h1]; rfl⟩
          clear hnew hbn hWn r0 r1
          refine region_actW 3 _ (fun X => X = Wn.drew) (fun v X => v = eV (Hd.fst ⟨0, yp, yn, yc, yes⟩) ∧ Below Wn.drew.heap.size Wn.drew X)
            (fun C => ∀ X, C X → X.cell? ⟨wr.heap.size, 0, none⟩ = some (.int .i64 0) ∧ X.cell? ⟨wr.heap.size, 1, none⟩ = some (.slice yp yn yc)) hmx (by kernel_rfl) rfl rfl (by kernel_rfl) (by simp) ?hlo ?i0 ?i1 rfl ?_
          case hlo => rintro ⟨a5, w5, h5⟩; exact h5
          case i0 => rintro X rfl; exact unhide HI0 _ (Below.refl _ _)
          case i1 => rintro v X ⟨rfl, hb⟩; exact unhide HI0 _ hb
          apply Exists.intro
          refine ⟨fun C hC => ?_, fun X hX => ?_, fun v X hX => ?_⟩
          · simp only [List.take_succ_cons, List.take_zero]
            repeat (first
              | go_big_quiet_skip
              | (go_big_quiet_want
                 apply Exists.intro
                 refine ⟨fun w' hw' => ?_, ?_⟩
                 · obtain ⟨z0, z1⟩ := hC w' hw'
                   go_simp
                   first | done | rfl
                 simp only [Act.put, List.setIfInBounds_toArray, List.set_cons_zero, List.set_cons_succ]
                 go_big_quiet_on))
            refine wpQuiet_nil ?_
            rfl
          · subst hX
            go_simp
            refine Calls.mono (hentry_any Wn.drew ⟨0, yp, yn, yc, yes⟩ (unhide HHE2)) ?_
            rintro e X ⟨rfl, b2⟩
            exact ⟨_, rfl, rfl, b2⟩
          · obtain ⟨rfl, b2⟩ := hX
            have hbX : bothAt W4 W4.heap.size (r.take j) X := by
              obtain ⟨h1, h2⟩ := (unhide HB5).1
              exact ⟨(b2.block _ (Array.getElem?_eq_some_iff.1 h1).1).trans h1, h2.trans (b2.mono h2.size)⟩
            obtain ⟨hx1, hx2⟩ := hbX
            have y0 : ∀ k (hk : k < 8), X.cell? ⟨W4.heap.size, k, none⟩ = some ((eCs (lookR 0 (r.take j)) (lookR 1 (r.take j)))[k]'hk) := fun k hk => by
              rw [cell_of_row X _ k _ _ (0, 0) hx1]; exact Array.getElem?_eq_getElem hk
            have f0 : ∀ k, X.frozen? ⟨W4.heap.size, k, none⟩ = false := fun k => frozen_of_block hx1
            have q0 := y0 0 (by omega)
            have q1 := y0 1 (by omega)
            have q2 := y0 2 (by omega)
            have q3 := y0 3 (by omega)
            have g0 := f0 0
            have g1 := f0 1
            have g2 := f0 2
            have g3 := f0 3
            have HFIN := hide (show bothAt W4 W4.heap.size (r.take (j + 1)) ((((X.setCell ⟨W4.heap.size, 0, none⟩ (.string (Hd.fst ⟨0, yp, yn, yc, yes⟩).1)).setCell ⟨W4.heap.size, 1, none⟩ (.int .u64 (Hd.fst ⟨0, yp, yn, yc, yes⟩).2.1)).setCell ⟨W4.heap.size, 2, none⟩ (.int .i64 (Hd.fst ⟨0, yp, yn, yc, yes⟩).2.2.1)).setCell ⟨W4.heap.size, 3, none⟩ (.int .i64 (Hd.fst ⟨0, yp, yn, yc, yes⟩).2.2.2)) from by
              obtain ⟨t1, t2⟩ := unhide HTK
              refine ⟨?_, set4_below (o := 0) hx2 (Nat.le_refl _) _ _ _ _⟩
              rw [t1]
              have e0 : lookR 0 (r.take j ++ [hE ⟨0, yp, yn, yc, yes⟩]) = Hd.fst ⟨0, yp, yn, yc, yes⟩ := lookR_new (i := 0) t2
              have e1 : lookR 1 (r.take j ++ [hE ⟨0, yp, yn, yc, yes⟩]) = lookR 1 (r.take j) := lookR_old (i := 0) (by omega) _
              rw [e0, e1]
              exact (both_set hx1).1)
            generalize Hd.fst ⟨0, yp, yn, yc, yes⟩ = E at *
            clear hx1 hx2 y0 f0 b2
            simp only [List.drop_succ_cons, List.drop_zero, Act.put, List.setIfInBounds_toArray, List.set_cons_zero, List.set_cons_succ]
            unfold eV
            gi_wp2_with fail
            refine ⟨⟨j + 1, by go_num, unhide HLT, unhide HFIN⟩, ?_⟩
            have := unhide HLT
            simp [intOf]
            omega
        · have hnew := World.alloc_heap_new wr (.cells #[.int .i64 1, .slice yp yn yc] 71)
          have hbn : Below wr.heap.size wr (wr.alloc (.cells #[.int .i64 1, .slice yp yn yc] 71)) := (Below.refl _ _).alloc (Nat.le_refl _) _
          gi_wp2_with fail
          obtain ⟨Wn, hWn⟩ : ∃ Wn, wr.alloc (.cells #[.int .i64 1, .slice yp yn yc] 71) = Wn := ⟨_, rfl⟩
          rw [hWn] at hnew hbn ⊢
          have HB5 := hide (show bothAt W4 W4.heap.size (r.take j) Wn.drew ∧ wr.heap.size ≤ Wn.heap.size from ⟨by
            obtain ⟨h1, h2⟩ := unhide HBO
            have h3 := hbn.drew
            exact ⟨(h3.block _ (Array.getElem?_eq_some_iff.1 h1).1).trans h1, h2.trans (h3.mono h2.size)⟩, hbn.size⟩)
          have HHE2 := hide ((unhide HHE).below hbn.drew)
          have HI0 : Hid (∀ X, Below Wn.drew.heap.size Wn.drew X → X.cell? ⟨wr.heap.size, 0, none⟩ = some (.int .i64 1) ∧ X.cell? ⟨wr.heap.size, 1, none⟩ = some (.slice yp yn yc)) := fun X hb => by
            have h1 := (hb.block _ (show wr.heap.size < Wn.drew.heap.size from (Array.getElem?_eq_some_iff.1 hnew).1)).trans (show Wn.drew.heap[wr.heap.size]? = _ from hnew)
            exact ⟨by rw [cell_of_row X _ _ _ _ (0, 0) h1]; rfl, by rw [cell_of_row X _ _ _ _ (0, 0) h1]; rfl⟩
          clear hnew hbn hWn r0 r1
          refine region_actW 3 _ (fun X => X = Wn.drew) (fun v X => v = eV (Hd.fst ⟨1, yp, yn, yc, yes⟩) ∧ Below Wn.drew.heap.size Wn.drew X)
            (fun C => ∀ X, C X → X.cell? ⟨wr.heap.size, 0, none⟩ = some (.int .i64 1) ∧ X.cell? ⟨wr.heap.size, 1, none⟩ = some (.slice yp yn yc)) hmx (by kernel_rfl) rfl rfl (by kernel_rfl) (by simp) ?hlo ?i0 ?i1 rfl ?_
          case hlo => rintro ⟨a5, w5, h5⟩; exact h5
          case i0 => rintro X rfl; exact unhide HI0 _ (Below.refl _ _)
          case i1 => rintro v X ⟨rfl, hb⟩; exact unhide HI0 _ hb
          apply Exists.intro
          refine ⟨fun C hC => ?_, fun X hX => ?_, fun v X hX => ?_⟩
          · simp only [List.take_succ_cons, List.take_zero]
            repeat (first
              | go_big_quiet_skip
              | (go_big_quiet_want
                 apply Exists.intro
                 refine ⟨fun w' hw' => ?_, ?_⟩
                 · obtain ⟨z0, z1⟩ := hC w' hw'
                   go_simp
                   first | done | rfl
                 simp only [Act.put, List.setIfInBounds_toArray, List.set_cons_zero, List.set_cons_succ]
                 go_big_quiet_on))
            refine wpQuiet_nil ?_
            rfl
          · subst hX
            go_simp
            refine Calls.mono (hentry_any Wn.drew ⟨1, yp, yn, yc, yes⟩ (unhide HHE2)) ?_
            rintro e X ⟨rfl, b2⟩
            exact ⟨_, rfl, rfl, b2⟩
          · obtain ⟨rfl, b2⟩ := hX
            have hbX : bothAt W4 W4.heap.size (r.take j) X := by
              obtain ⟨h1, h2⟩ := (unhide HB5).1
              exact ⟨(b2.block _ (Array.getElem?_eq_some_iff.1 h1).1).trans h1, h2.trans (b2.mono h2.size)⟩
            obtain ⟨hx1, hx2⟩ := hbX
            have y0 : ∀ k (hk : k < 8), X.cell? ⟨W4.heap.size, k, none⟩ = some ((eCs (lookR 0 (r.take j)) (lookR 1 (r.take j)))[k]'hk) := fun k hk => by
              rw [cell_of_row X _ k _ _ (0, 0) hx1]; exact Array.getElem?_eq_getElem hk
            have f0 : ∀ k, X.frozen? ⟨W4.heap.size, k, none⟩ = false := fun k => frozen_of_block hx1
            have q0 := y0 4 (by omega)
            have q1 := y0 5 (by omega)
            have q2 := y0 6 (by omega)
            have q3 := y0 7 (by omega)
            have g0 := f0 4
            have g1 := f0 5
            have g2 := f0 6
            have g3 := f0 7
            have HFIN := hide (show bothAt W4 W4.heap.size (r.take (j + 1)) ((((X.setCell ⟨W4.heap.size, 4, none⟩ (.string (Hd.fst ⟨1, yp, yn, yc, yes⟩).1)).setCell ⟨W4.heap.size, 5, none⟩ (.int .u64 (Hd.fst ⟨1, yp, yn, yc, yes⟩).2.1)).setCell ⟨W4.heap.size, 6, none⟩ (.int .i64 (Hd.fst ⟨1, yp, yn, yc, yes⟩).2.2.1)).setCell ⟨W4.heap.size, 7, none⟩ (.int .i64 (Hd.fst ⟨1, yp, yn, yc, yes⟩).2.2.2)) from by
              obtain ⟨t1, t2⟩ := unhide HTK
              refine ⟨?_, set4_below (o := 4) hx2 (Nat.le_refl _) _ _ _ _⟩
              rw [t1]
              have e0 : lookR 1 (r.take j ++ [hE ⟨1, yp, yn, yc, yes⟩]) = Hd.fst ⟨1, yp, yn, yc, yes⟩ := lookR_new (i := 1) t2
              have e1 : lookR 0 (r.take j ++ [hE ⟨1, yp, yn, yc, yes⟩]) = lookR 0 (r.take j) := lookR_old (i := 1) (by omega) _
              rw [e0, e1]
              exact (both_set hx1).2)
            generalize Hd.fst ⟨1, yp, yn, yc, yes⟩ = E at *
            clear hx1 hx2 y0 f0 b2
            simp only [List.drop_succ_cons, List.drop_zero, Act.put, List.setIfInBounds_toArray, List.set_cons_zero, List.set_cons_succ]
            unfold eV
            gi_wp2_with fail
            refine ⟨⟨j + 1, by go_num, unhide HLT, unhide HFIN⟩, ?_⟩
            have := unhide HLT
            simp [intOf]
            omega
      · have hje : ¬ (j : Int) < ((hs.length : Nat) : Int) := by omega
        have hjl : r.take j = r := List.take_of_length_le (by rw [← unhide HRR, List.length_map]; omega)
        have HBO := hbo
        rw [hjl] at HBO
        obtain ⟨hb1, hb2⟩ := unhide HBO
        have y0 : ∀ k (hk : k < 8), wr.cell? ⟨W4.heap.size, k, none⟩ = some ((eCs (lookR 0 r) (lookR 1 r))[k]'hk) := fun k hk => by
          rw [cell_of_row wr _ k _ _ (0, 0) hb1]; exact Array.getElem?_eq_getElem hk
        obtain ⟨hyw, _⟩ := unhide HYN
        have hC0 : ∀ k, C0 k → k < W.heap.size := fun k hk => (unhide HJ).1.lt _ _ _ (unhide H0) k hk
        have hyb4 := ((unhide HM4).keep.block W.heap.size (by omega) (fun hc => by have := hC0 _ hc; omega)).trans hyw
        have hyb5 := (hb2.block _ (Array.getElem?_eq_some_iff.1 hyb4).1).trans hyb4
        have hcY : wr.cell? ⟨W.heap.size, 0, none⟩ = some (.func (.yield l) #[] #[]) := by rw [cell_of_row wr _ _ _ _ (0, 0) hyb5]; rfl
        obtain ⟨fn, tmps, assign, body, hy, hRo⟩ := unhide HY (pre.map pairR) (pairR r) (rest.map pairR) C W4 wr #[eV (lookR 0 r), eV (lookR 1 r)] (by rw [unhide HZ]; simp) (unhide HI4).1 (unhide HI4).2 hb2 rfl
        have HRO := hide (roundIn_wide (n' := m - 1 - 1 - 1) (l' := l2) hRo)
        have HMAP : Hid (∀ xs : List (List (Nat × En)), (xs ++ [r]).map pairR = xs.map pairR ++ [pairR r]) := fun xs => by simp
        have q0 : wr.cell? ⟨W4.heap.size, 0, none⟩ = some (.string (lookR 0 r).1) := y0 0 (by omega)
        have q1 : wr.cell? ⟨W4.heap.size, 1, none⟩ = some (.int .u64 (lookR 0 r).2.1) := y0 1 (by omega)
        have q2 : wr.cell? ⟨W4.heap.size, 2, none⟩ = some (.int .i64 (lookR 0 r).2.2.1) := y0 2 (by omega)
        have q3 : wr.cell? ⟨W4.heap.size, 3, none⟩ = some (.int .i64 (lookR 0 r).2.2.2) := y0 3 (by omega)
        have q4 : wr.cell? ⟨W4.heap.size, 4, none⟩ = some (.string (lookR 1 r).1) := y0 4 (by omega)
        have q5 : wr.cell? ⟨W4.heap.size, 5, none⟩ = some (.int .u64 (lookR 1 r).2.1) := y0 5 (by omega)
        have q6 : wr.cell? ⟨W4.heap.size, 6, none⟩ = some (.int .i64 (lookR 1 r).2.2.1) := y0 6 (by omega)
        have q7 : wr.cell? ⟨W4.heap.size, 7, none⟩ = some (.int .i64 (lookR 1 r).2.2.2) := y0 7 (by omega)
        clear hlt hbo hj hjl hb1 hb2 y0 hyw hC0 hyb4 hyb5 hRo
        unfold eV at hy
        generalize lookR 0 r = e0 at *
        generalize lookR 1 r = e1 at *
        gi_wp2_with fail
        refine ⟨(fun h => (by cases h)), (unhide HRO).mono ?_⟩
        rintro e w2 (⟨rfl, C', j2, mv2⟩ | ⟨rfl, C', jx2, mv2⟩)
        · have HE := hide (And.intro j2 mv2)
          clear j2 mv2
          gi_wp2_with fail
          exact ⟨C', ⟨by rw [unhide HMAP]; exact (unhide HE).1, (unhide HI4).2.trans (unhide HE).2⟩, (unhide HE).2⟩
        · have HE := hide (And.intro jx2 mv2)
          clear jx2 mv2
          gi_wp2_with fail
          exact ⟨C', ⟨rfl, by rw [unhide HMAP]; exact (unhide HE).1, (unhide HI4).2.trans (unhide HE).2⟩, (unhide HE).2⟩
  case done =>
    rintro dd C W5 hdd ⟨hj, hm5⟩ hm hnc hK
    have HE := hide (And.intro hj hm5)
    have HK := hide hK
    have HNC := hide hnc
    have HD := hide (Nat.le_trans (unhide HBW).size hdd)
    clear hj hm5 hm hnc hK
    gi_wp2_with fail
    refine ⟨by simp, .inl ⟨_, _, rfl, run_takeDeferred (unhide HK), ?_⟩⟩
    refine ⟨_, results_none rfl _ _ _, ⟨_, rfl⟩, Or.inl ⟨C, ?_, ?_⟩⟩
    · exact (unhide HJ).1.stays _ _ _ _ _ (unhide HE).1 (keep_put W5 dd _) (fun k hc e => unhide HNC (e ▸ hc)) (fun k e => by have := unhide HD; omega)
    · exact ⟨(unhide HE).2.keep.trans (keep_put W5 dd _) (fun k e => Or.inr (by have := unhide HD; omega)), (unhide HE).2.sub⟩
  case stop =>
    rintro dd c pre x rest C W5 hdd hZ ⟨rfl, hj, hm5⟩ hm hnc hK
    have HE := hide (And.intro hj hm5)
    have HK := hide hK
    have HNC := hide hnc
    have HZ := hide (show R.map pairR = pre.map pairR ++ pairR x :: rest.map pairR by rw [hZ]; simp)
    have HD := hide (Nat.le_trans (unhide HBW).size hdd)
    have HMAP : Hid (∀ xs : List (List (Nat × En)), (xs ++ [x]).map pairR = xs.map pairR ++ [pairR x]) := fun xs => by simp
    clear hj hm5 hm hnc hK hZ
    gi_wp2_with fail
    refine ⟨by simp, .inl ⟨_, _, rfl, run_takeDeferred (unhide HK), ?_⟩⟩
    refine ⟨_, results_none rfl _ _ _, ⟨_, rfl⟩, Or.inr ⟨pre.map pairR, pairR x, rest.map pairR, C, unhide HZ, ?_, ?_⟩⟩
    · exact (unhide HJ).2.stays _ _ _ _ _ (by rw [← unhide HMAP]; exact (unhide HE).1) (keep_put W5 dd _) (fun k hc e => unhide HNC (e ▸ hc)) (fun k e => by have := unhide HD; omega)
    · exact ⟨(unhide HE).2.keep.trans (keep_put W5 dd _) (fun k e => Or.inr (by have := unhide HD; omega)), (unhide HE).2.sub⟩
end Go.Proofs.Ytcjepiihknjeiaa.QH

/- The document's own answer of layer 12: Walk. -/
namespace Go.Proofs.Ytcjepiihknjeiaa
open Go.RowKit

/-- Two lists side by side: what is told of each, of a list's keys. -/
def sidX (a : List En) (all : List En) : List En := all.map fun x => (ofE a x.1).getD e0

/-- Two rows that grow side by side. -/
structure SdI (w : World) (a b all : List En) (k : Nat) (vx vy : Value) (wr : World) : Prop where
  x : wr.ownsRow w.heap.size 37 4 vx k ((sidX a (all.take k)).flatMap eC)
  y : wr.ownsRow w.heap.size 37 4 vy k ((sidX b (all.take k)).flatMap eC)
  dis : ∀ j, vx.ownBlock = some j → vy.ownBlock ≠ some j
  low : Below w.heap.size w wr
theorem SdI.calm {w wr w' : World} {a b all : List En} {k : Nat} {vx vy : Value} (h : SdI w a b all k vx vy wr) (hb : Below wr.heap.size wr w') : SdI w a b all k vx vy w' :=
  ⟨ownsV_keep (F := fun _ => False) h.x (Keep.of_below hb) (fun _ _ => id), ownsV_keep (F := fun _ => False) h.y (Keep.of_below hb) (fun _ _ => id), h.dis, h.low.trans (hb.mono h.low.size)⟩

set_option maxRecDepth 20000 in
set_option maxHeartbeats 4000000 in
theorem ewalk_any (v1 v2 : Value) (a b : List En) (w : World) (h1 : ER w v1 a) (h2 : ER w v2 b) (hks : ∀ l ∈ [a, b], ∀ x ∈ l, x.1.size ≤ 140737488351232) (hl : (totE [a, b] + 1) * 40 ≤ 140737488355328) :
    Calls Try.prog 19 #[v1, v2] w fun r w' => ∃ x y, r = .returned (.tuple #[x, y, .int .i64 (mrgR [a, b]).2]) ∧ ER w' x (sidX a (mrgR [a, b]).1) ∧ ER w' y (sidX b (mrgR [a, b]).1) ∧ Below w.heap.size w w' := by
  have HR1 := hide (fun W (hb : Below w.heap.size w W) => eright_any v1 a W (h1.below hb) (hks a (by simp)))
  have HR2 := hide (fun W (hb : Below w.heap.size w W) => eright_any v2 b W (h2.below hb) (hks b (by simp)))
  have HO1 := hide (fun key W (hb : Below w.heap.size w W) => eof_any v1 a key W (h1.below hb))
  have HO2 := hide (fun key W (hb : Below w.heap.size w W) => eof_any v2 b key W (h2.below hb))
  obtain ⟨p1, c1, rfl, _⟩ := h1.shape
  obtain ⟨p2, c2, rfl, _⟩ := h2.shape
  have H1 := hide (And.intro h1 h2)
  have HKL := hide (And.intro hks hl)
  have hmx : Try.prog.follows .mixedOrders = true := by kernel_rfl
  obtain ⟨ie, hie, he0, he1, he2⟩ := info_parts Try.infoEnt
  clear h1 h2 hks hl
  have HMR : Hid (mrgR [a, b] = if rightE a = true ∧ rightE b = true then (mrgE [a, b], 0) else ([], 11)) := by
    unfold Hid mrgR
    rw [if_neg (by simp)]
    simp
  go_enter Try.func19, Try.ntmps19
  go_wp2_with fail
  refine Calls.mono (unhide HR1 _ (Below.refl _ _)) ?_
  rintro e w1 ⟨rfl, b1⟩
  have HB1 := hide b1
  clear b1
  cases hra : rightE a with
  | false =>
    have HM : Hid (mrgR [a, b] = ([], 11)) := by unfold Hid; rw [unhide HMR, hra]; simp
    clear hra
    go_wp2_with fail
    refine bodyPost_ret (v := .tuple #[.slice none 0 0, .slice none 0 0, .int .i64 11]) (by simp [results, Try.results19, go_sem]) rfl ?_
    rw [unhide HM]
    exact ⟨_, _, rfl, KRow.nil 4 _, KRow.nil 4 _, unhide HB1⟩
  | true =>
    have HRA := hide hra
    clear hra
    go_wp2_with fail
    refine Calls.mono (unhide HR2 _ (unhide HB1)) ?_
    rintro e w2 ⟨rfl, b2⟩
    have HB2 := hide ((unhide HB1).trans (b2.mono (unhide HB1).size))
    clear b2
    cases hrb : rightE b with
    | false =>
      have HM : Hid (mrgR [a, b] = ([], 11)) := by unfold Hid; rw [unhide HMR, hrb]; simp
      clear hrb
      go_wp2_with fail
      refine bodyPost_ret (v := .tuple #[.slice none 0 0, .slice none 0 0, .int .i64 11]) (by simp [results, Try.results19, go_sem]) rfl ?_
      rw [unhide HM]
      exact ⟨_, _, rfl, KRow.nil 4 _, KRow.nil 4 _, unhide HB2⟩
    | true =>
      have HM : Hid (mrgR [a, b] = (mrgE [a, b], 0)) := by unfold Hid; rw [unhide HMR, hrb, unhide HRA]; simp
      clear hrb
      have hb3 : Below w2.heap.size w2 (w2.alloc (.cells #[.slice p1 a.length c1, .slice p2 b.length c2] 24)) := (Below.refl _ _).alloc (Nat.le_refl _) _
      have hlr : LR (w2.alloc (.cells #[.slice p1 a.length c1, .slice p2 b.length c2] 24)) (.slice (some ⟨w2.heap.size, 0, none⟩) 2 2) [a, b] := QH.lr_lit (vs := [.slice p1 a.length c1, .slice p2 b.length c2]) (World.alloc_heap_new _ _) rfl (by simp [maxLen]) (fun j s l hs hl => by
        have h1 := ((unhide H1).1.below (unhide HB2)).below hb3
        have h2 := ((unhide H1).2.below (unhide HB2)).below hb3
        match j, hs, hl with
        | 0, hs, hl =>
          simp only [List.getElem?_cons_zero, Option.some.injEq] at hs hl
          subst hs; subst hl
          exact h1
        | 1, hs, hl =>
          simp only [List.getElem?_cons_succ, List.getElem?_cons_zero, Option.some.injEq] at hs hl
          subst hs; subst hl
          exact h2)
      have hme := emerge_any _ [a, b] _ hlr (unhide HKL).1 (unhide HKL).2
      rw [unhide HM] at hme
      have HME := hide hme
      have HB3 := hide ((unhide HB2).trans (hb3.mono (unhide HB2).size))
      have hml := mrgE_len [a, b]
      have HML := hide (show (mrgE [a, b]).length * 40 + 40 ≤ 140737488355328 by have := (unhide HKL).2; omega)
      clear hlr hme hb3 hml
      go_wp2_with fail
      refine Calls.mono (unhide HME) ?_
      rintro e w4 ⟨va, rfl, ho4, b4⟩
      have HB4 := hide ((unhide HB3).trans (b4.mono (unhide HB3).size))
      have HE4 := hide (er_of_own ho4)
      have HB4w := hide b4
      obtain ⟨pa, ca, rfl⟩ := ownsV_shape ho4
      generalize mrgE [a, b] = all at *
      clear ho4 b4
      go_wp2_with fail
      go_loopw [9, 10, 11] (fun t9 t10 t11 wr => ∃ k : Nat, t11 = .int .i64 (k : Int) ∧ k ≤ all.length ∧ SdI w4 a b all k t9 t10 wr) (fun _ _ t11 _ => all.length - (intOf t11).toNat)
      case atStart => exact ⟨0, rfl, Nat.zero_le _, ⟨World.ownsRow_nil _ _ _ _, World.ownsRow_nil _ _ _ _, fun j h => (by cases h), Below.refl _ _⟩⟩
      case round =>
        obtain ⟨k, rfl, hk, hsd⟩ := hrel
        obtain ⟨px, cx, rfl⟩ := ownsV_shape hsd.x
        obtain ⟨py, cy, rfl⟩ := ownsV_shape hsd.y
        by_cases hlt : k < all.length
        · have hkI : (k : Int) < (all.length : Int) := by omega
          obtain ⟨e, he⟩ : ∃ e, all[k]? = some e := ⟨_, List.getElem?_eq_getElem hlt⟩
          obtain ⟨g, o, c', e1, _, _, hsn⟩ := (unhide HE4).seen (by omega)
          simp only [Value.slice.injEq] at e1
          obtain ⟨rfl, _, rfl⟩ := e1
          obtain ⟨y0, _⟩ := hsn k e he wr hsd.low
          have hbw := (unhide HB4).trans (hsd.low.mono (unhide HB4).size)
          have HSD := hide hsd
          have HK := hide (And.intro hlt he)
          have HBW := hide hbw
          have hknw : IntKind.i64.wrap ((k : Int) + 1) = (k : Int) + 1 := by have := unhide HML; rw [IntKind.wrap_i64]; omega
          have HQ1 := hide (unhide HO1 e.1 wr hbw)
          have HSNK := hide (fun W hb => (hsn k e he W hb).1)
          clear hsd hlt he hsn hbw hk
          obtain ⟨P, hP⟩ : ∃ P, P = (ofE a e.1).getD e0 := ⟨_, rfl⟩
          obtain ⟨Q, hQ⟩ : ∃ Q, Q = (ofE b e.1).getD e0 := ⟨_, rfl⟩
          have HPQ := hide (And.intro hP hQ)
          rw [← hP] at HQ1
          generalize (ofE a e.1).isSome = sa at *
          unfold eV at HQ1
          clear hP hQ
          go_wp2_with fail
          refine Calls.mono (unhide HQ1) ?_
          rintro r w5 ⟨rfl, b5⟩
          have HB5 := hide b5
          have y0 := unhide HSNK w5 ((unhide HSD).low.trans (b5.mono (unhide HSD).low.size))
          clear b5
          have hb6 : Below w5.heap.size w5 (w5.alloc (.cells #[.string P.1, .int .u64 P.2.1, .int .i64 P.2.2.1, .int .i64 P.2.2.2] 37)) := (Below.refl _ _).alloc (Nat.le_refl _) _
          have y1 := unhide HSNK _ (((unhide HSD).low.trans ((unhide HB5).mono (unhide HSD).low.size)).trans (hb6.mono (Nat.le_trans (unhide HSD).low.size (unhide HB5).size)))
          have HQ2 := hide (unhide HO2 e.1 _ (((unhide HBW).trans ((unhide HB5).mono (unhide HBW).size)).trans (hb6.mono (Nat.le_trans (unhide HBW).size (unhide HB5).size))))
          rw [← (unhide HPQ).2] at HQ2
          unfold eV at HQ2
          generalize (ofE b e.1).isSome = sb at *
          go_wp2_with fail
          refine Calls.mono (unhide HQ2) ?_
          rintro r w7 ⟨rfl, b7⟩
          have hb8 : Below w7.heap.size w7 (w7.alloc (.cells #[.string Q.1, .int .u64 Q.2.1, .int .i64 Q.2.2.1, .int .i64 Q.2.2.2] 37)) := (Below.refl _ _).alloc (Nat.le_refl _) _
          obtain ⟨X, hX⟩ : ∃ X, w7.alloc (.cells #[.string Q.1, .int .u64 Q.2.1, .int .i64 Q.2.2.1, .int .i64 Q.2.2.2] 37) = X := ⟨_, rfl⟩
          have hP6 := (b7.block w5.heap.size (by simp)).trans (World.alloc_heap_new w5 (.cells #[.string P.1, .int .u64 P.2.1, .int .i64 P.2.2.1, .int .i64 P.2.2.2] 37))
          have hP7 := (hb8.block _ (Array.getElem?_eq_some_iff.1 hP6).1).trans hP6
          have hQ7 := World.alloc_heap_new w7 (.cells #[.string Q.1, .int .u64 Q.2.1, .int .i64 Q.2.2.1, .int .i64 Q.2.2.2] 37)
          rw [hX] at hb8 hP7 hQ7
          have HSX := hide (((((unhide HSD).calm (unhide HB5)).calm hb6).calm b7).calm hb8)
          have HPQX := hide (And.intro hP7 hQ7)
          have HFIT := hide (show k + 1 ≤ maxLen ∧ (k + 1) * 40 ≤ 140737488355328 from by
            have h1 := unhide HML
            have h2 := (unhide HK).1
            unfold maxLen
            constructor <;> omega)
          have HCO := hide (fun (Xi : World) (hk : Keep (fun j => (.slice px k cx : Value).ownBlock = some j) X Xi) => show (Xi.cell? ⟨w5.heap.size, 0, none⟩ = some (.string P.1) ∧ Xi.cell? ⟨w5.heap.size, 1, none⟩ = some (.int .u64 P.2.1) ∧ Xi.cell? ⟨w5.heap.size, 2, none⟩ = some (.int .i64 P.2.2.1) ∧ Xi.cell? ⟨w5.heap.size, 3, none⟩ = some (.int .i64 P.2.2.2)) ∧ Xi.cell? ⟨w7.heap.size, 0, none⟩ = some (.string Q.1) ∧ Xi.cell? ⟨w7.heap.size, 1, none⟩ = some (.int .u64 Q.2.1) ∧ Xi.cell? ⟨w7.heap.size, 2, none⟩ = some (.int .i64 Q.2.2.1) ∧ Xi.cell? ⟨w7.heap.size, 3, none⟩ = some (.int .i64 Q.2.2.2) from by
            have hlx : ∀ j, (.slice px k cx : Value).ownBlock = some j → j < w5.heap.size := fun j hj => Nat.lt_of_lt_of_le ((unhide HSD).x.lt j hj).2 (unhide HB5).size
            have h57 : w5.heap.size ≤ w7.heap.size := Nat.le_trans hb6.size b7.size
            have e1 := (hk.block _ (Array.getElem?_eq_some_iff.1 hP7).1 (fun h => by have := hlx _ h; omega)).trans hP7
            have e2 := (hk.block _ (Array.getElem?_eq_some_iff.1 hQ7).1 (fun h => by have := hlx _ h; omega)).trans hQ7
            obtain ⟨t0, t1, t2, t3, _⟩ := ecells e1
            obtain ⟨v0, v1, v2, v3, _⟩ := ecells e2
            exact ⟨⟨t0, t1, t2, t3⟩, v0, v1, v2, v3⟩)
          have HXS := hide (show w4.heap.size ≤ X.heap.size from (unhide HSX).low.size)
          clear b7 hb6 hb8 hP6 hP7 hQ7 y0 y1
          go_wp2_with fail
          clear hX
          refine region_acts 7 (fun i => i == 2 || i == 3 || i == 6) (fun s u Xi => Keep (fun j => (.slice px k cx : Value).ownBlock = some j) X Xi ∧
            (s 2 = true → ∃ x2, u 2 = .slice (some ⟨x2, 0, none⟩) 1 1 ∧ X.heap.size ≤ x2 ∧ Xi.heap[x2]? = some (.cells #[.string P.1, .int .u64 P.2.1, .int .i64 P.2.2.1, .int .i64 P.2.2.2] 37 (0, 0))) ∧
            (s 3 = false → Xi.ownsRow w4.heap.size 37 4 (.slice px k cx) k ((sidX a (all.take k)).flatMap eC)) ∧
            (s 3 = true → Xi.ownsRow w4.heap.size 37 4 (u 3) (k + 1) ((sidX a (all.take k)).flatMap eC ++ [Value.string P.1, .int .u64 P.2.1, .int .i64 P.2.2.1, .int .i64 P.2.2.2]) ∧ ((u 3).ownBlock = (.slice px k cx : Value).ownBlock ∨ ∀ j, (u 3).ownBlock = some j → X.heap.size ≤ j)) ∧
            (s 6 = true → ∃ x6, u 6 = .slice (some ⟨x6, 0, none⟩) 1 1 ∧ X.heap.size ≤ x6 ∧ Xi.heap[x6]? = some (.cells #[.string Q.1, .int .u64 Q.2.1, .int .i64 Q.2.2.1, .int .i64 Q.2.2.2] 37 (0, 0)))) hmx (by kernel_rfl) ?i0 ?_
          case i0 => exact ⟨Keep.of_below ((Below.refl _ X).drew), fun h => (by cases h), fun _ => ownsV_keep (F := fun _ => False) (unhide HSX).x (Keep.of_below ((Below.refl _ X).drew)) (fun _ _ => id), fun h => (by cases h), fun h => (by cases h)⟩
          intro u
          simp only [List.take_succ_cons, List.take_zero]
          -- the first row
          refine lexM_still (.slice px k cx) rfl (by kernel_rfl) (fun s u Xi hi => ?_) ?_
          · go_simp
          simp only [Act.put, List.setIfInBounds_toArray, List.set_cons_zero, List.set_cons_succ]
          refine lexM_still (.agg #[.string P.1, .int .u64 P.2.1, .int .i64 P.2.2.1, .int .i64 P.2.2.2]) rfl (by kernel_rfl) (fun s u Xi hi => ?_) ?_
          · obtain ⟨⟨z1, z2, z3, z4⟩, _⟩ := unhide HCO Xi hi.1
            go_simp
          simp only [Act.put, List.setIfInBounds_toArray, List.set_cons_zero, List.set_cons_succ]
          refine lexM_act (k := 2) rfl (by kernel_rfl) (fun s Xi hs hd hi => ?_) ?_
          · go_simp
            obtain ⟨hk, h2, h3f, h3t, h6⟩ := hi
            have hb : Below Xi.heap.size Xi (Xi.alloc (.cells #[.string P.1, .int .u64 P.2.1, .int .i64 P.2.2.1, .int .i64 P.2.2.2] 37)) := (Below.refl _ _).alloc (Nat.le_refl _) _
            refine actUpon_value ?_
            rw [upd_at, upd_ne (show (3 : Nat) ≠ 2 by decide), upd_ne (show (6 : Nat) ≠ 2 by decide), upd_at, upd_ne (show (3 : Nat) ≠ 2 by decide), upd_ne (show (6 : Nat) ≠ 2 by decide)]
            refine ⟨hk.trans (Keep.of_below hb) (fun k h => Or.inl h), fun _ => ⟨Xi.heap.size, rfl, hk.size, World.alloc_heap_new _ _⟩, fun h => ownsV_keep (F := fun _ => False) (h3f h) (Keep.of_below hb) (fun _ _ => id), fun h => ⟨ownsV_keep (F := fun _ => False) (h3t h).1 (Keep.of_below hb) (fun _ _ => id), (h3t h).2⟩, fun h => ?_⟩
            obtain ⟨x6, e1, e2, e3⟩ := h6 h
            exact ⟨x6, e1, e2, (hb.block x6 (Array.getElem?_eq_some_iff.1 e3).1).trans e3⟩
          simp only [Act.put, List.setIfInBounds_toArray, List.set_cons_zero, List.set_cons_succ]
          refine lexM_act (k := 3) rfl (by kernel_rfl) (fun s Xi hs hd hi => ?_) ?_
          · obtain ⟨hk, h2, h3f, h3t, h6⟩ := hi
            have s2 : s 2 = true := hd { on := 2, ground := .data } (by simp) (by rfl) (by rfl)
            obtain ⟨x2, e1, e2, e3⟩ := h2 s2
            obtain ⟨hx0, hx1, hx2, hx3, _⟩ := ecells e3
            have hlv : ∀ j, (.slice px k cx : Value).ownBlock = some j → j < X.heap.size := fun j hj => ((unhide HSX).x.lt j hj).2
            refine act_append_any (.tmp 57) (.tmp 59) 24 rfl w4.heap.size 37 ie (.agg #[.string ⟨#[]⟩, .int .u64 0, .int .i64 0, .int .i64 0]) Try.underlying24 hie he0 4 40 (by omega) he1 he2 rfl (.slice px k cx) k ((sidX a (all.take k)).flatMap eC) rfl (h3f hs) ⟨x2, 0, none⟩ 1 1 [Value.string P.1, .int .u64 P.2.1, .int .i64 P.2.2.1, .int .i64 P.2.2.2] e1 rfl (by intro j u hj; match j, hj with | 0, hj => (simp at hj; subst hj; simpa [Addr.add] using hx0) | 1, hj => (simp at hj; subst hj; simpa [Addr.add] using hx1) | 2, hj => (simp at hj; subst hj; simpa [Addr.add] using hx2) | 3, hj => (simp at hj; subst hj; simpa [Addr.add] using hx3)) (by intro u hu; simp at hu; rcases hu with rfl | rfl | rfl | rfl <;> rfl) (unhide HFIT).1 (unhide HFIT).2 (Nat.le_trans (unhide HXS) hk.size) ?_
            intro v3 w3 hown hg hob
            have hkg := grown_keep hg
            have hkg' := hkg.size
            have hk' := hk.size
            rw [upd_ne (show (2 : Nat) ≠ 3 by decide), upd_at, upd_ne (show (6 : Nat) ≠ 3 by decide), upd_at, upd_ne (show (2 : Nat) ≠ 3 by decide), upd_ne (show (6 : Nat) ≠ 3 by decide)]
            refine ⟨hk.trans hkg (fun k h => Or.inl h), fun h => ?_, fun h => (by cases h), fun _ => ⟨hown, ?_⟩, fun h => ?_⟩
            · exact ⟨x2, e1, e2, (hkg.block x2 (Array.getElem?_eq_some_iff.1 e3).1 (fun h => by have := hlv _ h; omega)).trans e3⟩
            · rcases hob with h | h
              · exact Or.inl h
              · exact Or.inr (fun k hk2 => by rw [h] at hk2; simp only [Option.some.injEq] at hk2; omega)
            · obtain ⟨x6, f1, f2, f3⟩ := h6 h
              exact ⟨x6, f1, f2, (hkg.block x6 (Array.getElem?_eq_some_iff.1 f3).1 (fun h => by have := hlv _ h; omega)).trans f3⟩
          simp only [Act.put, List.setIfInBounds_toArray, List.set_cons_zero, List.set_cons_succ]
          refine lexM_still (.slice py k cy) rfl (by kernel_rfl) (fun s u Xi hi => ?_) ?_
          · go_simp
          simp only [Act.put, List.setIfInBounds_toArray, List.set_cons_zero, List.set_cons_succ]
          refine lexM_still (.agg #[.string Q.1, .int .u64 Q.2.1, .int .i64 Q.2.2.1, .int .i64 Q.2.2.2]) rfl (by kernel_rfl) (fun s u Xi hi => ?_) ?_
          · obtain ⟨_, z1, z2, z3, z4⟩ := unhide HCO Xi hi.1
            go_simp
          simp only [Act.put, List.setIfInBounds_toArray, List.set_cons_zero, List.set_cons_succ]
          refine lexM_act (k := 6) rfl (by kernel_rfl) (fun s Xi hs hd hi => ?_) ?_
          · go_simp
            obtain ⟨hk, h2, h3f, h3t, h6⟩ := hi
            have hb : Below Xi.heap.size Xi (Xi.alloc (.cells #[.string Q.1, .int .u64 Q.2.1, .int .i64 Q.2.2.1, .int .i64 Q.2.2.2] 37)) := (Below.refl _ _).alloc (Nat.le_refl _) _
            refine actUpon_value ?_
            rw [upd_ne (show (2 : Nat) ≠ 6 by decide), upd_ne (show (3 : Nat) ≠ 6 by decide), upd_at, upd_ne (show (2 : Nat) ≠ 6 by decide), upd_ne (show (3 : Nat) ≠ 6 by decide), upd_at]
            refine ⟨hk.trans (Keep.of_below hb) (fun k h => Or.inl h), fun h => ?_, fun h => ownsV_keep (F := fun _ => False) (h3f h) (Keep.of_below hb) (fun _ _ => id), fun h => ⟨ownsV_keep (F := fun _ => False) (h3t h).1 (Keep.of_below hb) (fun _ _ => id), (h3t h).2⟩, fun _ => ⟨Xi.heap.size, rfl, hk.size, World.alloc_heap_new _ _⟩⟩
            obtain ⟨x2, e1, e2, e3⟩ := h2 h
            exact ⟨x2, e1, e2, (hb.block x2 (Array.getElem?_eq_some_iff.1 e3).1).trans e3⟩
          simp only [Act.put, List.setIfInBounds_toArray, List.set_cons_zero, List.set_cons_succ]
          refine lexM_nil fun Xi hi => ?_
          simp only [List.drop_succ_cons, List.drop_zero]
          obtain ⟨hk, _, _, h3t, h6⟩ := hi
          obtain ⟨r3, b3⟩ := h3t (by rfl)
          obtain ⟨x6, f1, f2, f3⟩ := h6 (by rfl)
          obtain ⟨p3, n3, e3⟩ := ownsV_shape r3
          obtain ⟨z0, z1, z2, z3, _⟩ := ecells f3
          have hvy : ∀ j, (.slice py k cy : Value).ownBlock = some j → ¬ (.slice px k cx : Value).ownBlock = some j := fun j hj hx => (unhide HSX).dis j hx hj
          have HYR := hide (ownsV_keep (unhide HSX).y hk hvy)
          have HNW : Hid (∀ (j : Nat) (u : Value), [Value.string Q.1, .int .u64 Q.2.1, .int .i64 Q.2.2.1, .int .i64 Q.2.2.2][j]? = some u → Xi.cell? ((⟨x6, 0, none⟩ : Addr).add j) = some u) := fun j u hj => by
            match j, hj with
            | 0, hj => simp at hj; subst hj; simpa [Addr.add] using z0
            | 1, hj => simp at hj; subst hj; simpa [Addr.add] using z1
            | 2, hj => simp at hj; subst hj; simpa [Addr.add] using z2
            | 3, hj => simp at hj; subst hj; simpa [Addr.add] using z3
          have HBS := hide (Nat.le_trans (unhide HXS) hk.size)
          have HR3 := hide (And.intro hk (And.intro r3 b3))
          generalize hu3 : u 3 = t3 at *
          generalize hu6 : u 6 = t6 at *
          generalize hu2 : u 2 = t2 at *
          subst f1 e3
          clear z0 z1 z2 z3 hk r3 b3 f3 h3t h6 hvy
          go_wp2_with (first
            | (with_reducible show wpList _ _ _ (Oper.mk _ (Op.call _) _ _ _ _ :: _) _ _
               refine wpList_append_gen rfl _ _ 24 rfl w4.heap.size 37 ie (.agg #[.string ⟨#[]⟩, .int .u64 0, .int .i64 0, .int .i64 0]) Try.underlying24 hie he0 4 40 (by omega) he1 he2 rfl (.slice py k cy) k ((sidX b (all.take k)).flatMap eC) rfl (unhide HYR) ⟨x6, 0, none⟩ 1 1 [Value.string Q.1, .int .u64 Q.2.1, .int .i64 Q.2.2.1, .int .i64 Q.2.2.2] rfl rfl (unhide HNW) (by intro u hu; simp at hu; rcases hu with rfl | rfl | rfl | rfl <;> rfl) (unhide HFIT).1 (unhide HFIT).2 (unhide HBS) ?_))
          intro v9 w9 hown9 hg9 hob9
          have HFIN := hide (show SdI w4 a b all (k + 1) (.slice p3 (k + 1) n3) v9 w9 from by
            obtain ⟨hk, r3, b3⟩ := unhide HR3
            have hx := unhide HSX
            have hlx : ∀ j, (.slice px k cx : Value).ownBlock = some j → j < X.heap.size := fun j hj => (hx.x.lt j hj).2
            have hly : ∀ j, (.slice py k cy : Value).ownBlock = some j → j < X.heap.size := fun j hj => (hx.y.lt j hj).2
            have hks := hk.size
            have hkg := grown_keep hg9
            have hl3 : ∀ j, (.slice p3 (k + 1) n3 : Value).ownBlock = some j → j < Xi.heap.size := fun j hj => (r3.lt j hj).2
            have hn3 : ∀ j, (.slice p3 (k + 1) n3 : Value).ownBlock = some j → ¬ (.slice py k cy : Value).ownBlock = some j := fun j hj hy => by
              rcases b3 with h | h
              · exact hx.dis j (h ▸ hj) hy
              · have := h j hj; have := hly j hy; omega
            obtain ⟨hlt, he⟩ := unhide HK
            have htk : ∀ l : List En, sidX l (all.take (k + 1)) = sidX l (all.take k) ++ [(ofE l e.1).getD e0] := fun l => by
              rw [List.take_succ_eq_append_getElem hlt]
              unfold sidX
              rw [List.map_append, (List.getElem?_eq_some_iff.1 he).2]
              rfl
            obtain ⟨hP, hQ⟩ := unhide HPQ
            refine ⟨?_, ?_, fun j hj hj9 => ?_, ?_⟩
            · rw [htk, ← hP, List.flatMap_append]
              exact ownsV_keep r3 hkg hn3
            · rw [htk, ← hQ, List.flatMap_append]
              exact hown9
            · rcases hob9 with h | h
              · exact hn3 j hj (h ▸ hj9)
              · rw [h] at hj9; simp only [Option.some.injEq] at hj9; have := hl3 j hj; omega
            · have k1 := hk.below hx.low.size (fun j hj => (hx.x.lt j hj).1)
              have k2 := hkg.below (b := w4.heap.size) (Nat.le_trans hx.low.size hks) (fun j hj => (hx.y.lt j hj).1)
              exact (hx.low.trans k1).trans k2)
          clear hown9 hg9 hob9
          obtain ⟨p9, n9, rfl⟩ := ownsV_shape (unhide HFIN).y
          go_wp2_with fail
          refine ⟨⟨k + 1, by go_num, (unhide HK).1, unhide HFIN⟩, ?_⟩
          have := (unhide HK).1
          simp [intOf]
          omega
        · have hke : k = all.length := by omega
          subst hke
          have HSD := hide hsd
          have hge : ¬ (all.length : Int) < (all.length : Int) := by omega
          clear hlt hsd hk
          go_wp2_with fail
          refine bodyPost_ret (v := .tuple #[.slice px all.length cx, .slice py all.length cy, .int .i64 0]) (by simp [results, Try.results19, go_sem]) rfl ?_
          rw [unhide HM]
          have h := unhide HSD
          have hl : ∀ l : List En, (sidX l all).length = all.length := fun l => by unfold sidX; rw [List.length_map]
          exact ⟨_, _, rfl, er_of_own (by rw [hl]; have := h.x; rw [List.take_length] at this; exact this), er_of_own (by rw [hl]; have := h.y; rw [List.take_length] at this; exact this), (unhide HB4).trans (h.low.mono (unhide HB4).size)⟩
end Go.Proofs.Ytcjepiihknjeiaa

/- Package merge as landed: Walk. -/
namespace Go.Proofs.Ytcjepiihknjeiaa.QH
open Go.RowKit

/-- A sequence of two entries each. -/
def WalkS (Z : List (En × En)) (b : Nat) (f : Value) (w : World) : Prop :=
  ∃ (Hn : Nat) (F : Nat → Prop) (D : World → Prop), f = .func (.func 31) #[] #[.pointer (some ⟨Hn, 0, none⟩)] ∧ SeqH 31 #[.pointer (some ⟨Hn, 0, none⟩)] encW Z F D ∧ Lies F D b w
theorem WalkS.below {Z : List (En × En)} {b : Nat} {f : Value} {w w' : World} (h : WalkS Z b f w) (hb : Below w.heap.size w w') : WalkS Z b f w' := by
  obtain ⟨Hn, F, D, e, h1, h2⟩ := h
  exact ⟨Hn, F, D, e, h1, h2.below hb⟩
theorem WalkS.move {Z : List (En × En)} {b : Nat} {f : Value} {w w' : World} {G : Nat → Prop} (h : WalkS Z b f w) (hk : Keep G w w') (hn : ∀ k, G k → k < b) : WalkS Z b f w' := by
  obtain ⟨Hn, F, D, e, h1, h2⟩ := h
  exact ⟨Hn, F, D, e, h1, h2.move hk fun k hf hg => by have := h2.low k hf; have := hn k hg; omega⟩
theorem rowsS_two : ∀ (n : Nat) (S : List (List En)), S.length = 2 → ∀ r ∈ rowsS n S, (r.Pairwise fun a b => a.1 < b.1) ∧ ∀ y ∈ r, y.1 < 2
  | 0, _, _, _, h => by cases h
  | n + 1, S, hS, r, h => by
    unfold rowsS at h
    cases hl : leastE S with
    | none => rw [hl] at h; cases h
    | some x =>
      rw [hl] at h
      rcases List.mem_cons.1 h with rfl | h
      · refine ⟨hdK_sorted _ _ _, fun y hy => ?_⟩
        obtain ⟨t, _, h2, _⟩ := (hdK_mem x.1 S 0 y.1 y.2).1 hy
        have := (List.getElem?_eq_some_iff.1 h2).1
        omega
      · exact rowsS_two n _ (by rw [List.length_map]; exact hS) r h
/-- What Walk tells. -/
def sideR (a b : List En) : List (En × En) := (mrgR [a, b]).1.map (sideE a b)
theorem mrgR_pairs {a b : List En} : (if (mrgR [a, b]).2 = 0 then rowsS (totS [a, b]) [a, b] else []).map pairR = sideR a b := by
  by_cases h : [a, b].all rightE = true
  · have e : mrgR [a, b] = (mrgE [a, b], 0) := by unfold mrgR; rw [if_neg (by simp), if_pos h]
    unfold sideR
    rw [e, if_pos rfl]
    have h2 := List.all_eq_true.1 h
    exact rows_pairs _ a b (rightE_SE (h2 a (by simp))).1 (rightE_SE (h2 b (by simp))).1 (Nat.le_refl _)
  · have e : mrgR [a, b] = ([], 11) := by unfold mrgR; rw [if_neg (by simp), if_neg h]
    unfold sideR
    rw [e, if_neg (by decide)]
    rfl
theorem side_sid (a b : List En) : sideR a b = List.zip (sidX a (mrgR [a, b]).1) (sidX b (mrgR [a, b]).1) := by
  unfold sideR sidX
  generalize (mrgR [a, b]).1 = l
  induction l with
  | nil => rfl
  | cons x l ih => simp only [List.map_cons, List.zip_cons_cons, ih]; rfl
set_option maxRecDepth 20000 in
set_option maxHeartbeats 2000000 in
theorem mwalk_any (v1 v2 : Value) (a b : List En) (w : World) (h1 : ER w v1 a) (h2 : ER w v2 b) (hl : totE [a, b] * 40 ≤ 140737488355328) :
    Calls Try.prog 18 #[v1, v2] w fun r w' => ∃ f, r = .returned (.tuple #[f, .int .i64 (mrgR [a, b]).2]) ∧ WalkS (sideR a b) w.heap.size f w' ∧ Below w.heap.size w w' := by
  have hmf : ∀ (fn : Fn) (first cap : Array Value) (w : World), (Instr.makeFunc fn first cap).run Try.prog w = .ok (.func fn first cap) w := fun _ _ _ _ => rfl
  have hb0 : Below w.heap.size w (w.alloc (.cells #[v1, v2] 24)) := (Below.refl _ _).alloc (Nat.le_refl _) _
  have hlr : LR (w.alloc (.cells #[v1, v2] 24)) (.slice (some ⟨w.heap.size, 0, none⟩) 2 2) [a, b] := lr_lit (vs := [v1, v2]) (World.alloc_heap_new _ _) rfl (by simp [maxLen]) (fun j s l hs hl => by
    match j, hs, hl with
    | 0, hs, hl =>
      simp only [List.getElem?_cons_zero, Option.some.injEq] at hs hl
      subst hs; subst hl
      exact h1.below hb0
    | 1, hs, hl =>
      simp only [List.getElem?_cons_succ, List.getElem?_cons_zero, Option.some.injEq] at hs hl
      subst hs; subst hl
      exact h2.below hb0)
  have HBG := hide (begin_any _ [a, b] _ hlr (fun l hl2 => by have := len_tot hl2; omega))
  have HB0 := hide hb0
  have HT := hide (show totE [a, b] ≤ 4398046511104 by omega)
  obtain ⟨p1, c1, rfl, _⟩ := h1.shape
  obtain ⟨p2, c2, rfl, _⟩ := h2.shape
  obtain ⟨er, her⟩ : ∃ er, er = (mrgR [a, b]).2 := ⟨_, rfl⟩
  rw [← her]
  have HER := hide her
  clear h1 h2 hl her hb0 hlr
  go_enter Try.func18, Try.ntmps18
  go_wp2_with fail
  refine Calls.mono (unhide HBG) ?_
  rintro e w1 ⟨hbd, b1⟩
  obtain ⟨hp, R, Fe, De, rfl, hR, hrows, hD, hst, hlow, hlt⟩ := rows_of hbd (unhide HT) (fun l _ hr => (rightE_SE hr).1)
  have hmr := mrgR_pairs (a := a) (b := b)
  rw [← hR] at hmr
  have hsq := fun Hn => mwalk_seq Hn hp R Fe De hrows (fun W W' h hb => hst W W' (fun _ => False) h (Keep.of_below hb) (fun _ _ => id)) (fun r hr => by
    rw [hR] at hr
    split at hr
    · exact rowsS_two _ _ rfl r hr
    · cases hr)
  have HF := hide (And.intro hmr (And.intro hD (And.intro hst (And.intro hlow (And.intro hlt (And.intro ((unhide HB0).trans (b1.mono (unhide HB0).size)) (And.intro hsq (unhide HB0).size)))))))
  clear hbd hR hrows hD hst hlow hlt hmr hsq b1
  rw [← unhide HER]
  go_wp2_with fail
  go_ret2
  obtain ⟨hmr, hD, hst, hlow, hlt, b1, hsq, hs0⟩ := unhide HF
  have hb2 : Below w1.heap.size w1 (w1.alloc (.cells #[.pointer hp] 62)) := (Below.refl _ _).alloc (Nat.le_refl _) _
  have hn := World.alloc_heap_new w1 (.cells #[.pointer hp] 62)
  have hs := b1.size
  refine ⟨_, rfl, ⟨w1.heap.size, fun k => k = w1.heap.size ∨ Fe k, fun W => W.cell? ⟨w1.heap.size, 0, none⟩ = some (.pointer hp) ∧ De W, rfl, by rw [← hmr]; exact hsq w1.heap.size, ⟨⟨by rw [cell_of_row _ _ _ _ _ (0, 0) hn]; rfl, hst _ _ (fun _ => False) hD (Keep.of_below hb2) (fun _ _ => id)⟩, fun W W' G hd hk hg => ⟨?_, hst _ _ G hd.2 hk (fun k hf => hg k (Or.inr hf))⟩, fun k hk => ?_, fun k hk => ?_⟩⟩, b1.trans (hb2.mono b1.size)⟩
  · have hl := World.block_lt_of_cell? _ _ hd.1
    exact (hk.cell (p := ⟨w1.heap.size, 0, none⟩) hl (hg _ (Or.inl rfl))).trans hd.1
  · rcases hk with rfl | hk
    · exact hs
    · exact Nat.le_trans hs0 (hlow k hk)
  · rw [World.size_alloc]
    rcases hk with rfl | hk
    · omega
    · have := hlt k hk; omega
end Go.Proofs.Ytcjepiihknjeiaa.QH
