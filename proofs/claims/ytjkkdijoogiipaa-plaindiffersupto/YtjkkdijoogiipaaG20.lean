/- Texts of ours, one behind the other: PlOwn3, PlDif2, PlDif3, PlOwn4, PlOwn5. -/
import Derived.Test.YtjkkdijoogiipaaG14
import Derived.Test.YtjkkdijoogiipaaG15
import Derived.Test.YtjkkdijoogiipaaG19
/- Package plain as landed: copied, Bytes. -/
namespace Go.Proofs.Ytjkkdijoogiipaa
open Go.RowKit

set_option maxRecDepth 20000 in
set_option maxHeartbeats 4000000 in
theorem copied_any (v : Value) (L : List El) (w : World) (h : EL 2 prC w v L) (hroom : L.length * 40 ≤ 140737488355328) (hv : ∀ x ∈ L, x.2.length ≤ 140737488351232) :
    Calls Try.prog 31 #[v] w fun e w' => ∃ v' L', e = .returned v' ∧ pdat L' = pdat L ∧ OO 34 2 prC w' w.heap.size v' L' ∧ Below w.heap.size w w' := by
  by_cases h0 : L.length = 0
  · obtain ⟨p1, c1, rfl, _⟩ := h.shape
    obtain rfl : L = [] := List.eq_nil_of_length_eq_zero h0
    go_enter Try.func31, Try.ntmps31
    go_wp2
    refine wp_loop_rounds 1 ?_
    rw [rounds_succ]
    go_wp2
    go_ret
    exact ⟨_, [], rfl, rfl, OO.nil _ _ _ _ _, Below.refl _ _⟩
  obtain ⟨b1, o1, c1, rfl, k1, k2, hsn⟩ := h.seenP (by omega)
  obtain ⟨l, hl⟩ : ∃ l, l = L.length := ⟨_, rfl⟩
  rw [← hl] at k1 ⊢
  unfold maxLen at k2
  have hl0 : (l : Int) ≤ 9223372036854775807 := by omega
  obtain ⟨i0, hi, hz0, hz1, hz2⟩ := info_parts Try.info34
  have HST := hide hsn
  have HVL := hide hv
  have HLN := hide hl
  have HRM := hide hroom
  clear h hsn k1 k2 hl h0 hv hroom
  go_enter Try.func31, Try.ntmps31
  go_wp2
  go_loopw [3, 8] (fun ov i wr => ∃ (k : Nat) (L' : List El), k ≤ l ∧ i = .int .i64 k ∧ L'.length = k ∧ Hid (pdat L' = (pdat L).take k ∧ OO 34 2 prC wr w.heap.size ov L' ∧ Below w.heap.size w wr)) (fun _ i _ => l - (intOf i).toNat)
  case atStart => exact ⟨0, [], Nat.zero_le _, rfl, rfl, rfl, OO.nil _ _ _ _ _, Below.refl _ _⟩
  case round =>
    obtain ⟨k, L', hk, rfl, hkl, hst⟩ := hrel
    obtain ⟨hd, hoo, hb⟩ := unhide hst
    obtain ⟨vp, vc, hve⟩ := hoo.1.shape
    rw [hkl] at hve
    subst hve
    have HKL := hide hkl
    have HOW := hide hoo.1.1
    rw [hkl] at HOW
    clear hkl
    by_cases hlt : (k : Int) < (l : Int)
    · have hl := unhide HLN
      have hrm := unhide HRM
      have hkL : k < L.length := by omega
      obtain ⟨a1, a2, _⟩ := unhide HST k hkL wr hb
      have hdl := unhide HVL _ (List.getElem_mem hkL)
      have hdk : (pdat L).take (k + 1) = (pdat L).take k ++ [(L[k].1.key, L[k].2)] := by
        rw [List.take_succ_eq_append_getElem (by rw [pdat_len]; exact hkL), pdat_get L k hkL]
      have HSW := hide (fun W hW => unhide HST k hkL W hW)
      generalize L[k] = x at *
      obtain ⟨⟨ak, ap, an, ac, ad⟩, av⟩ := x
      unfold vof at *
      simp only at *
      obtain ⟨W1, hW1⟩ : ∃ W1, W1 = wr.alloc (.cells #[.string ak, .slice ap an ac] 34) := ⟨_, rfl⟩
      have hb1 : Below wr.heap.size wr W1 := by rw [hW1]; exact (Below.refl _ _).alloc (Nat.le_refl _) _
      have hbd : Below wr.heap.size wr W1.drew := hb1.drew
      have hn5 : W1.drew.cell? ⟨wr.heap.size, 0, none⟩ = some (.string ak) := by
        show W1.cell? _ = _
        rw [hW1]; simp
      have hn6 : W1.drew.cell? ⟨wr.heap.size, 1, none⟩ = some (.slice ap an ac) := by
        show W1.cell? _ = _
        rw [hW1]; simp
      have hbw := hb.trans (hbd.mono hb.size)
      have hcb := clone_any _ _ W1.drew (unhide HSW W1.drew hbw).2.2 hdl
      have hsz1 : wr.heap.size ≤ W1.drew.heap.size := hbd.size
      have HCH : Hid (Calls Try.prog 16 #[.slice ap an ac] W1.drew fun e w5 => ∃ tp tn tc, e = .returned (.slice tp tn tc) ∧ w5.cell? ⟨wr.heap.size, 0, none⟩ = some (.string ak) ∧ Hid (Mine w5 wr.heap.size (.slice tp tn tc) av ∧ Below wr.heap.size wr w5)) := by
        refine hcb.mono ?_
        rintro e w5 ⟨t, rfl, ho5, hb5⟩
        obtain ⟨tp, tn, tc, rfl⟩ := mine_opv ho5
        exact ⟨tp, tn, tc, rfl, (hb5.cell (World.block_lt_of_cell? W1.drew _ hn5)).trans hn5, ho5.base hsz1, hbd.trans (hb5.mono hsz1)⟩
      have HA := hide (And.intro hd (And.intro hoo (And.intro hb hdk)))
      have hsz : w.heap.size ≤ wr.heap.size := hb.size
      have HW1 := hide hW1
      clear hd hoo hb hl hrm hkL hdl hcb hdk hst hW1 hb1 hbd hbw hsz1
      go_wp2_with fail
      rw [← unhide HW1]
      go_region_law (first
        | (go_simp; go_at_call 16; refine Calls.mono (unhide HCH) ?_; rintro x w5 ⟨tp, tn, tc, rfl, y0, HB6⟩; dsimp only)
        | (refine step_append_gen rfl _ _ 22 rfl w.heap.size 34 i0 (.agg #[.string ⟨#[]⟩, .slice none 0 0]) Try.underlying22 hi hz0 2 40 (by omega) hz1 hz2 rfl (.slice vp k vc) k (elC prC L') (by simp [Act.eval]) (World.ownsRow.alloc (owns_below4 (unhide HOW) (unhide HB6).2) _) ⟨w5.heap.size, 0, none⟩ 1 (prC ⟨ak, tp, tn, tc, false⟩) (by simp [Act.eval]) rfl (by intro j u hj; match j, hj with | 0, hj => (simp [prC] at hj; subst hj; simp [Addr.add]) | 1, hj => (simp [prC] at hj; subst hj; simp [Addr.add])) (prC_one _) (by have h9 := unhide HLN; have h8 := unhide HRM; unfold maxLen; omega) (by have h9 := unhide HLN; have h8 := unhide HRM; omega) (by have h9 := (unhide HB6).2.size; simp; omega) ?_; intro v2 w6 hown6 hgrow6 hob6; have hmr := OO.push (x := (⟨ak, tp, tn, tc, false⟩, av)) (unhide HA).2.1 ((unhide HB6).2.alloc (by have h9 := (unhide HB6).2.size; omega) _) ((unhide HB6).1.below ((Below.refl _ _).alloc (Nat.le_refl _) _)) hsz (by rw [unhide HKL]; exact hown6) hgrow6 hob6; have hbw := ((unhide HA).2.2.1.trans (((unhide HB6).2.alloc (by have h9 := (unhide HB6).2.size; omega) _).mono hsz)).grown hgrow6 (by have h9 := (unhide HB6).2.size; simp; omega) (fun q hq => ((unhide HA).2.1.1.1.lt q hq).1); have HJ := hide (And.intro hmr hbw); clear hmr hbw; rcases hown6.2 with ⟨_, hz9⟩ | ⟨g2, cap2, cur2, e2, _⟩; (exact absurd hz9 (by omega)); subst e2; clear hown6 hgrow6 hob6))
      all_goals
        go_wp2
        go_roundw
        case rel =>
          obtain ⟨hd, _, _, hdk⟩ := unhide HA
          refine ⟨k + 1, L' ++ [(⟨ak, tp, tn, tc, false⟩, av)], by omega, by go_num, by rw [List.length_append, unhide HKL]; rfl, ?_, (unhide HJ).1, (unhide HJ).2⟩
          rw [hdk, pdat_app, hd]
          rfl
        case measure => simp [intOf]; omega
    · have hlk : k = l := by omega
      have HA := hide (And.intro hd (And.intro hoo (And.intro hb hlk)))
      clear hd hoo hb hlk hst
      go_wp2
      go_ret
      obtain ⟨hd, hoo, hb, hlk⟩ := unhide HA
      refine ⟨_, rfl, L', ?_, hoo, hb⟩
      rw [hd, hlk, unhide HLN, ← pdat_len, List.take_length]

set_option maxRecDepth 20000 in
set_option maxHeartbeats 2000000 in
theorem pbytes_any (v : Value) (L : List El) (w : World) (h : EL 2 prC w v L) (hroom : L.length * 40 ≤ 140737488355328) :
    Calls Try.prog 18 #[v] w fun e w' => e = .returned (.int .i64 (if rightD (pdat L) then (bytesP (pdat L) : Int) else 0)) ∧ Below w.heap.size w w' := by
  have HCK := hide (pcheck_any v L w h)
  cases hR : rightD (pdat L) with
  | false =>
    rw [hR] at HCK
    obtain ⟨p1, c1, rfl, _⟩ := h.shape
    clear h
    go_enter Try.func18, Try.ntmps18
    go_wp2_with (go_at_call 12; refine Calls.mono (unhide HCK) ?_; rintro e w2 ⟨rfl, hb2⟩; have HB2 := hide hb2; clear hb2)
    go_ret
    exact ⟨rfl, unhide HB2⟩
  | true =>
    rw [hR] at HCK
    have hmy := ((right_iff _).1 hR).2
    have hbd : ∀ x ∈ L, x.1.key.size + x.2.length ≤ 4160 := by
      intro x hx
      have := hmy (x.1.key, x.2) (List.mem_map.2 ⟨x, hx, rfl⟩)
      unfold pmay kmay at this
      simp only [Bool.and_eq_true, decide_eq_true_eq] at this
      omega
    have hsum : ∀ k, k ≤ L.length → bytesP ((pdat L).take k) ≤ k * 4160 := by
      intro k
      induction k with
      | zero => intro _; simp [bytesP]
      | succ k ih =>
        intro hk
        rw [bytesP_take _ k (by rw [pdat_len]; omega), pdat_get L k (by omega)]
        have a := ih (by omega)
        have b := hbd _ (List.getElem_mem (show k < L.length by omega))
        simp only
        omega
    by_cases h0 : L.length = 0
    · obtain ⟨p1, c1, rfl, _⟩ := h.shape
      obtain rfl : L = [] := List.eq_nil_of_length_eq_zero h0
      clear h
      go_enter Try.func18, Try.ntmps18
      go_wp2_with (go_at_call 12; refine Calls.mono (unhide HCK) ?_; rintro e w2 ⟨rfl, hb2⟩; have HB2 := hide hb2; clear hb2)
      refine wp_loop_rounds 1 ?_
      rw [rounds_succ]
      go_wp2
      go_ret
      exact ⟨rfl, unhide HB2⟩
    obtain ⟨b1, o1, c1, rfl, k1, k2, hsn⟩ := h.seenP (by omega)
    obtain ⟨l, hl⟩ : ∃ l, l = L.length := ⟨_, rfl⟩
    rw [← hl] at k1 HCK ⊢
    unfold maxLen at k2
    have hl0 : (l : Int) ≤ 9223372036854775807 := by omega
    have HSN := hide hsn
    have HLN := hide (And.intro hl hroom)
    have HBD := hide (And.intro hbd hsum)
    obtain ⟨N, hN⟩ : ∃ N, N = bytesP (pdat L) := ⟨_, rfl⟩
    rw [← hN]
    have HN := hide hN
    simp only [if_true] at HCK ⊢
    clear h hsn k1 k2 hl h0 hN hR hmy hbd hsum hroom
    go_enter Try.func18, Try.ntmps18
    go_wp2_with (go_at_call 12; refine Calls.mono (unhide HCK) ?_; rintro e w2 ⟨rfl, hb2⟩; have HB2 := hide hb2; clear hb2)
    go_loopw [3, 11] (fun s i wr => ∃ k n : Nat, k ≤ l ∧ i = .int .i64 k ∧ s = .int .i64 n ∧ Hid (n = bytesP ((pdat L).take k) ∧ Below w.heap.size w wr)) (fun _ i _ => l - (intOf i).toNat)
    case atStart => exact ⟨0, 0, Nat.zero_le _, rfl, rfl, by simp [bytesP], unhide HB2⟩
    case round =>
      obtain ⟨k, n, hk, rfl, rfl, hst⟩ := hrel
      obtain ⟨hn, hb⟩ := unhide hst
      by_cases hlt : (k : Int) < (l : Int)
      · obtain ⟨hl, hroom⟩ := unhide HLN
        have hkL : k < L.length := by omega
        obtain ⟨a1, a2, ar⟩ := unhide HSN k hkL wr hb
        have hkz := (unhide HBD).1 _ (List.getElem_mem hkL)
        have hs0 := (unhide HBD).2 k (by omega)
        have hst' := bytesP_take (pdat L) k (by rw [pdat_len]; exact hkL)
        rw [pdat_get L k hkL] at hst'
        obtain ⟨rn, rl⟩ := row_n ar
        generalize L[k] = x at *
        obtain ⟨⟨ak, ap, an, ac, ad⟩, av⟩ := x
        unfold vof at *
        simp only at *
        subst rn
        have hl1 : (av.length : Int) ≤ 9223372036854775807 := by omega
        have w1 : IntKind.i64.wrap ((ak.size : Int) + (av.length : Int)) = ((ak.size + av.length : Nat) : Int) := by rw [IntKind.wrap_i64]; omega
        have w2 : IntKind.i64.wrap ((n : Int) + ((ak.size + av.length : Nat) : Int)) = ((n + (ak.size + av.length) : Nat) : Int) := by rw [IntKind.wrap_i64]; omega
        have w3 : IntKind.i64.wrap ((n : Int) + ((ak.size : Int) + (av.length : Int))) = ((n + (ak.size + av.length) : Nat) : Int) := by rw [IntKind.wrap_i64]; omega
        have HA := hide (And.intro hn (And.intro hst' hb))
        clear hn hb hkL ar hkz hst' rl hst hl hroom hs0
        go_wp2
        obtain ⟨hn, hst', hb⟩ := unhide HA
        go_roundw
        case rel => exact ⟨k + 1, n + (ak.size + av.length), by omega, by go_num, by first | rfl | (congr 1; omega), by rw [hst']; omega, hb.alloc hb.size _⟩
        case measure => simp [intOf]; omega
      · have HA := hide (And.intro hn hb)
        clear hn hb hst
        go_wp2
        go_ret
        obtain ⟨hn, hb⟩ := unhide HA
        refine ⟨?_, hb⟩
        have e : n = N := by
          rw [unhide HN, hn]
          have hkl : k = L.length := by have := (unhide HLN).1; omega
          rw [hkl, ← pdat_len, List.take_length]
        subst e
        rfl
end Go.Proofs.Ytjkkdijoogiipaa

/- Package plain as landed: Differ; rows of differences in memory. -/
namespace Go.Proofs.Ytjkkdijoogiipaa
open Go.RowKit

/-- A difference in memory. -/
structure Dv where
  key : ByteArray
  was : Bool
  is : Bool
  op : Option Addr
  on : Nat
  oc : Nat
  np : Option Addr
  nn : Nat
  nc : Nat
abbrev Dm := Dv × List UInt8 × List UInt8
def oldE (x : Dm) : El := (⟨x.1.key, x.1.op, x.1.on, x.1.oc, false⟩, x.2.1)
def newE (x : Dm) : El := (⟨x.1.key, x.1.np, x.1.nn, x.1.nc, false⟩, x.2.2)
def dfC (o : Dv) : List Value := [.string o.key, .bool o.was, .bool o.is, .slice o.op o.on o.oc, .slice o.np o.nn o.nc]
def dfl (D : List Dm) : List Value := D.flatMap fun x => dfC x.1
def vals (D : List Dm) : List El := D.flatMap fun x => [oldE x, newE x]
def ddat (D : List Dm) : List Df := D.map fun x => (x.1.key, x.1.was, x.1.is, x.2.1, x.2.2)
theorem ddat_app (D E : List Dm) : ddat (D ++ E) = ddat D ++ ddat E := by simp [ddat]
theorem ddat_len (D : List Dm) : (ddat D).length = D.length := by simp [ddat]
theorem dfl_snoc (D : List Dm) (x : Dm) : dfl (D ++ [x]) = dfl D ++ dfC x.1 := by simp [dfl]
theorem vals_snoc (D : List Dm) (x : Dm) : vals (D ++ [x]) = vals D ++ [oldE x] ++ [newE x] := by simp [vals]
theorem dfC_one (o : Dv) : ∀ u ∈ dfC o, u.oneCell' = true := by
  intro u hu
  simp only [dfC, List.mem_cons, List.not_mem_nil, or_false] at hu
  rcases hu with rfl | rfl | rfl | rfl | rfl <;> rfl
/-- A row of differences of the call's own, whose values are new, each in a block of its own. -/
def DR (w : World) (base : Nat) (v : Value) (D : List Dm) : Prop :=
  w.ownsRow base 31 5 v D.length (dfl D) ∧ (∀ x ∈ vals D, Mine w base (vof x.1) x.2 ∧ ∀ b off, x.1.p = some ⟨b, off, none⟩ → x.2 ≠ [] → v.ownBlock ≠ some b) ∧ Dif (vals D)
theorem DR.nil (w : World) (base : Nat) : DR w base (.slice none 0 0) [] := ⟨World.ownsRow_nil _ _ _ _, fun x hx => (by cases hx), Dif.nil⟩
theorem DR.below {w w' : World} {base : Nat} {v : Value} {D : List Dm} (h : DR w base v D) (hb : Below w.heap.size w w') : DR w' base v D :=
  ⟨owns_below4 h.1 hb, fun x hx => ⟨(h.2.1 x hx).1.below hb, (h.2.1 x hx).2⟩, h.2.2⟩
theorem DR.shape {w : World} {base : Nat} {v : Value} {D : List Dm} (h : DR w base v D) : ∃ p c, v = .slice p D.length c := by
  rcases h.1.2 with ⟨e, h0⟩ | ⟨g', cap', cur, e, _⟩
  · exact ⟨none, 0, by rw [e, h0]⟩
  · exact ⟨_, _, e⟩
/-- One more, whose values were made since w. -/
theorem DR.push {w W w2 : World} {base : Nat} {v v' : Value} {D : List Dm} {x : Dm} (h : DR w base v D) (hwW : Below w.heap.size w W) (n1 : Nat) (hs1 : w.heap.size ≤ n1) (ho : Mine W w.heap.size (vof (oldE x).1) x.2.1) (ho1 : ∀ b off, x.1.op = some ⟨b, off, none⟩ → x.2.1 ≠ [] → b < n1) (hn : Mine W n1 (vof (newE x).1) x.2.2) (hb : base ≤ w.heap.size)
    (hown : w2.ownsRow base 31 5 v' (D.length + 1) (dfl D ++ dfC x.1)) (hg : W.grownBy w2 v.ownBlock) (hv : v'.ownBlock = v.ownBlock ∨ v'.ownBlock = some W.heap.size) : DR w2 base v' (D ++ [x]) := by
  have hn' : Mine W w.heap.size (vof (newE x).1) x.2.2 := hn.base hs1
  have hap : ∀ y : El, Mine W w.heap.size (vof y.1) y.2 → ∀ b off, y.1.p = some ⟨b, off, none⟩ → y.2 ≠ [] → v.ownBlock ≠ some b := fun y hy b off e hne ho => by
    have h1 := hy.blk b off hne e
    have h2 := (h.1.lt b ho).2
    omega
  have hold : ∀ y ∈ vals D, ∀ b off, y.2 ≠ [] → y.1.p = some ⟨b, off, none⟩ → b < w.heap.size := fun y hy b off hne e => row_lt (h.2.1 y hy).1.1 e hne
  have hall : ∀ y ∈ vals (D ++ [x]), Mine W base (vof y.1) y.2 ∧ ∀ b off, y.1.p = some ⟨b, off, none⟩ → y.2 ≠ [] → v.ownBlock ≠ some b := fun y hy => by
    rw [vals_snoc, List.mem_append, List.mem_append, List.mem_singleton, List.mem_singleton] at hy
    rcases hy with (hy | rfl) | rfl
    · exact ⟨(h.2.1 y hy).1.below hwW, (h.2.1 y hy).2⟩
    · exact ⟨ho.base hb, hap (oldE x) ho⟩
    · exact ⟨hn'.base hb, hap (newE x) hn'⟩
  refine ⟨by rw [List.length_append, dfl_snoc]; exact hown, fun y hy => ?_, ?_⟩
  · obtain ⟨h1, h2⟩ := hall y hy
    refine ⟨h1.grown hg (fun b off e hne => h2 b off e hne), fun b off e hne => ?_⟩
    rcases hv with hv | hv
    · rw [hv]; exact h2 b off e hne
    · rw [hv]
      have := row_lt h1.1 e hne
      intro e
      simp only [Option.some.injEq] at e
      omega
  · rw [vals_snoc]
    refine (h.2.2.more w.heap.size hold (fun b off hne e => ho.blk b off hne e)).more n1 (fun y hy b off hne e => ?_) (fun b off hne e => hn.blk b off hne e)
    rcases List.mem_append.1 hy with hy | hy
    · have := hold y hy b off hne e; omega
    · rw [List.mem_singleton.1 hy] at e hne
      exact ho1 b off e hne
/-- The five parts of a difference's variable. -/
theorem five_cells {w : World} {g : Nat} {a b c d e : Value} (h : w.heap[g]? = some (.cells #[a, b, c, d, e] 31 (0, 0))) : w.cell? ⟨g, 0, none⟩ = some a ∧ w.cell? ⟨g, 1, none⟩ = some b ∧ w.cell? ⟨g, 2, none⟩ = some c ∧ w.cell? ⟨g, 3, none⟩ = some d ∧ w.cell? ⟨g, 4, none⟩ = some e ∧ ∀ j, w.frozen? ⟨g, j, none⟩ = false := by
  refine ⟨?_, ?_, ?_, ?_, ?_, fun j => frozen_of_block h⟩ <;> (rw [cell_of_row w g _ _ _ (0, 0) h]; rfl)
theorem mkeep7 {F : Nat → Prop} {w w' : World} {base : Nat} {t : Value} {bs : List UInt8} (h : Mine w base t bs) (hk : Keep F w w') (hn : ∀ b, base ≤ b → ¬ F b) : Mine w' base t bs := by
  by_cases hne : bs = []
  · subst hne
    exact ⟨h.1.keep hk (fun _ _ _ _ h => absurd rfl h), Or.inl rfl⟩
  · rcases h.2 with h2 | ⟨g, off, cap, e, cur, ht, hg, hh⟩
    · exact absurd h2 hne
    · refine ⟨h.1.keep hk (fun b off' c' e' _ => ?_), Or.inr ⟨g, off, cap, e, cur, ht, hg, (hk.block g (Array.getElem?_eq_some_iff.1 hh).1 (hn g hg)).trans hh⟩⟩
      rw [ht] at e'
      simp only [Value.slice.injEq, Option.some.injEq, Addr.mk.injEq, and_true] at e'
      rw [← e'.1.1]
      exact hn g hg
theorem kset7 {w : World} {g j : Nat} {v : Value} : Keep (fun k => k = g) w (w.setCell ⟨g, j, none⟩ v) :=
  ⟨rfl, rfl, rfl, by simp [World.setCell], fun k _ hk => heap_setCell_other w ⟨g, j, none⟩ k _ (fun e => hk (by simp at e; exact e.symm ▸ rfl))⟩
theorem set_was {w : World} {g : Nat} {a b c d e x y : Value} (h : w.heap[g]? = some (.cells #[a, b, c, d, e] 31 (0, 0))) : ((w.setCell ⟨g, 3, none⟩ y).setCell ⟨g, 1, none⟩ x).heap[g]? = some (.cells #[a, x, c, y, e] 31 (0, 0)) ∧ Keep (fun k => k = g) w ((w.setCell ⟨g, 3, none⟩ y).setCell ⟨g, 1, none⟩ x) := by
  have h1 := heap_setCell_same w g 3 _ _ y h
  exact ⟨heap_setCell_same _ g 1 _ _ x h1, kset7.trans kset7 (fun _ h => Or.inl h)⟩
theorem set_is {w : World} {g : Nat} {a b c d e x y : Value} (h : w.heap[g]? = some (.cells #[a, b, c, d, e] 31 (0, 0))) : ((w.setCell ⟨g, 4, none⟩ y).setCell ⟨g, 2, none⟩ x).heap[g]? = some (.cells #[a, b, x, d, y] 31 (0, 0)) ∧ Keep (fun k => k = g) w ((w.setCell ⟨g, 4, none⟩ y).setCell ⟨g, 2, none⟩ x) := by
  have h1 := heap_setCell_same w g 4 _ _ y h
  exact ⟨heap_setCell_same _ g 2 _ _ x h1, kset7.trans kset7 (fun _ h => Or.inl h)⟩
theorem set_both {w : World} {g : Nat} {a b c d e x y : Value} (h : w.heap[g]? = some (.cells #[a, b, c, d, e] 31 (0, 0))) : ((w.setCell ⟨g, 3, none⟩ x).setCell ⟨g, 4, none⟩ y).heap[g]? = some (.cells #[a, b, c, x, y] 31 (0, 0)) ∧ Keep (fun k => k = g) w ((w.setCell ⟨g, 3, none⟩ x).setCell ⟨g, 4, none⟩ y) := by
  have h1 := heap_setCell_same w g 3 _ _ x h
  exact ⟨heap_setCell_same _ g 4 _ _ y h1, kset7.trans kset7 (fun _ h => Or.inl h)⟩
theorem Try.infoDiff : (Try.prog.info? 31).map (fun i => (i.zero, i.size, i.bytes)) = some (some (.agg #[.string ⟨#[]⟩, .bool false, .bool false, .slice none 0 0, .slice none 0 0]), 5, 72) := by kernel_rfl

set_option maxRecDepth 20000 in
set_option maxHeartbeats 4000000 in
theorem differ_any (va vb : Value) (A B : List El) (w : World) (ha : EL 2 prC w va A) (hb : EL 2 prC w vb B) (hla : A.length ≤ 1048576) (hlb : B.length ≤ 1048576) (hA : rightD (pdat A) = true) (hB : rightD (pdat B) = true) :
    Calls Try.prog 5 #[va, vb] w fun e w' => ∃ v D, e = .returned v ∧ DR w' w.heap.size v D ∧ ddat D = difD (pdat A) (pdat B) ∧ Below w.heap.size w w' := by
  obtain ⟨i0, hi, hz0, hz1, hz2⟩ := info_parts Try.infoDiff
  have HCA := hide (pcheck_any va A w ha)
  rw [hA] at HCA
  have HCB := hide (fun W (h : Below w.heap.size w W) => pcheck_any vb B W (hb.below h))
  rw [hB] at HCB
  have HA := hide ha
  have HB := hide hb
  obtain ⟨pa, ca, rfl, _⟩ := ha.shape
  obtain ⟨pb, cb, rfl, _⟩ := hb.shape
  have HLA := hide hla
  have HLB := hide hlb
  clear ha hb hla hlb
  go_enter Try.func5, Try.ntmps5
  go_wp2_with fail
  refine Calls.mono (unhide HCA) ?_
  rintro e w1 ⟨rfl, b1⟩
  have HB1 := hide b1
  clear b1
  go_wp2_with fail
  refine Calls.mono (unhide HCB w1 (unhide HB1)) ?_
  rintro e w2 ⟨rfl, b2⟩
  have HB2 := hide ((unhide HB1).trans (b2.mono (unhide HB1).size))
  clear b2
  go_wp2_with fail
  have HVA := hide (show ∀ x ∈ A, x.2.length ≤ 4096 from fun x hx => by
    have := ((right_iff _).1 hA).2 (x.1.key, x.2) (List.mem_map.2 ⟨x, hx, rfl⟩)
    unfold pmay at this
    simp only [Bool.and_eq_true, decide_eq_true_eq] at this
    exact this.2)
  have HVB := hide (show ∀ x ∈ B, x.2.length ≤ 4096 from fun x hx => by
    have := ((right_iff _).1 hB).2 (x.1.key, x.2) (List.mem_map.2 ⟨x, hx, rfl⟩)
    unfold pmay at this
    simp only [Bool.and_eq_true, decide_eq_true_eq] at this
    exact this.2)
  clear hA hB
  go_loopw [0, 1, 5] (fun av bv dv wr => ∃ (f : Nat) (A' B' : List El) (D : List Dm), Hid (EL 2 prC w av A' ∧ EL 2 prC w bv B' ∧ (∀ y ∈ A', y ∈ A) ∧ (∀ y ∈ B', y ∈ B)) ∧ Hid (A'.length + B'.length ≤ f ∧ D.length + (A'.length + B'.length) ≤ A.length + B.length) ∧ Hid (ddat D ++ difF f (pdat A') (pdat B') = difD (pdat A) (pdat B)) ∧ Hid (DR wr w.heap.size dv D) ∧ Hid (Below w.heap.size w wr) ∧ ∃ pa' ca' pb' cb', av = .slice pa' A'.length ca' ∧ bv = .slice pb' B'.length cb') (fun av bv _ _ => (match av with | .slice _ n _ => n | _ => 0) + (match bv with | .slice _ n _ => n | _ => 0))
  case atStart => exact ⟨A.length + B.length, A, B, [], ⟨unhide HA, unhide HB, fun _ h => h, fun _ h => h⟩, ⟨Nat.le_refl _, by simp⟩, by simp [Hid, ddat, difD, pdat_len], DR.nil _ _, unhide HB2, pa, ca, pb, cb, rfl, rfl⟩
  case round =>
    obtain ⟨f, A', B', D, h1, h2, h3, h4, h5, pa', ca', pb', cb', rfl, rfl⟩ := hrel
    obtain ⟨dp, dc, rfl⟩ := (unhide h4).shape
    by_cases hz : A'.length = 0 ∧ B'.length = 0
    · obtain ⟨z1, z2⟩ := hz
      have e1 : A' = [] := List.length_eq_zero_iff.1 z1
      have e2 : B' = [] := List.length_eq_zero_iff.1 z2
      have HEND := hide (show ddat D = difD (pdat A) (pdat B) by
        have := unhide h3
        rw [e1, e2] at this
        simpa [pdat, difF_nil] using this)
      rw [z1, z2]
      clear h1 h2 h3 e1 e2
      go_wp2_with fail
      go_ret
      exact ⟨_, D, rfl, unhide h4, unhide HEND, unhide h5⟩
    · have hne : 0 < A'.length ∨ 0 < B'.length := by omega
      have HLE := hide (least_any _ _ A' B' wr ((unhide h1).1.below (unhide h5)) ((unhide h1).2.1.below (unhide h5)) hne)
      obtain ⟨f', rfl⟩ : ∃ f', f = f' + 1 := ⟨f - 1, by have := (unhide h2).1; omega⟩
      have HLS := hide (dif_less (pdat A') (pdat B') (by rw [pdat_len, pdat_len]; exact hne))
      have HNE := hide (show ((pdat A').isEmpty && (pdat B').isEmpty) = false by
        cases A' with
        | nil => cases B' with
          | nil => simp at hne
          | cons y B' => rfl
        | cons x A' => rfl)
      obtain ⟨ky, hky⟩ : ∃ ky, ky = lstK (pdat A') (pdat B') := ⟨_, rfl⟩
      rw [← hky] at HLE
      have HKY := hide hky
      obtain ⟨na, hna⟩ : ∃ na, na = A'.length := ⟨_, rfl⟩
      obtain ⟨nb, hnb⟩ : ∃ nb, nb = B'.length := ⟨_, rfl⟩
      rw [← hna, ← hnb] at HLE ⊢
      have HEA := hide (unhide h1).1
      have HEB := hide (unhide h1).2.1
      have HSA := hide (unhide h1).2.2.1
      have HSB := hide (unhide h1).2.2.2
      rw [← hna] at HEA
      rw [← hnb] at HEB
      have HNA := hide hna
      have HNB := hide hnb
      have hcs : 0 < na ∨ (na = 0 ∧ 0 < nb) := by omega
      clear h1 hky hna hnb hz hne
      rcases hcs with hc1 | ⟨rfl, hc1⟩
      all_goals
        go_wp2_with fail
        refine Calls.mono (unhide HLE) ?_
        rintro e w3 ⟨rfl, b3⟩
        have hb3 := (unhide h5).trans (b3.mono (unhide h5).size)
        obtain ⟨X0, hX0⟩ : ∃ X0, w3.alloc (.cells #[.string ky, .bool false, .bool false, .slice none 0 0, .slice none 0 0] 31) = X0 := ⟨_, rfl⟩
        obtain ⟨g, hg⟩ : ∃ g, w3.heap.size = g := ⟨_, rfl⟩
        have hg0 : X0.heap[g]? = some (.cells #[.string ky, .bool false, .bool false, .slice none 0 0, .slice none 0 0] 31 (0, 0)) := by rw [← hX0, ← hg]; exact heap_alloc_new _ _
        have hr0 : Below wr.heap.size wr X0 := b3.trans (((Below.refl _ w3).alloc (Nat.le_refl _) (.cells #[.string ky, .bool false, .bool false, .slice none 0 0, .slice none 0 0] 31)).mono b3.size |> fun h => by rw [← hX0]; exact h)
        have hgr : wr.heap.size ≤ g := by rw [← hg]; exact b3.size
        have HX0 := hide hX0
        have HG := hide hg
        have HG0 := hide hg0
        have HR0 := hide hr0
        have HGR := hide hgr
        clear b3 hb3 hX0 hg hg0 hr0 hgr
        go_wp2_with fail
        rw [unhide HX0, unhide HG]
        refine Calls.mono (taken_any _ A' ky w X0 (unhide HEA) ((unhide h5).trans ((unhide HR0).mono (unhide h5).size))) ?_
        rintro e w4 ⟨op, on, oc, ob, wsB, av', A'', rfl, ea1, ra1, ta1, sa1, va1, b4⟩
        have hg4 := (b4.block g (Array.getElem?_eq_some_iff.1 (unhide HG0)).1).trans (unhide HG0)
        obtain ⟨y0, y1, y2, y3, y4, yf⟩ := five_cells hg4
        have yf1 := yf 1
        have yf3 := yf 3
        obtain ⟨x1, K1⟩ := set_was (x := .bool wsB) (y := .slice op on oc) hg4
        have HK1 := hide (And.intro x1 ((Keep.of_below (F := fun k => k = g) ((unhide HR0).trans (b4.mono (unhide HR0).size))).trans K1 (fun _ h => Or.inl h)))
        have HT1 := hide (And.intro ea1 (And.intro ra1 (And.intro ta1 (And.intro sa1 va1))))
        clear b4 hg4 yf x1 K1 ea1 ra1 ta1 sa1 va1
        go_wp2_with fail
        obtain ⟨X1, hX1⟩ : ∃ X1, (w4.setCell ⟨g, 3, none⟩ (.slice op on oc)).setCell ⟨g, 1, none⟩ (.bool wsB) = X1 := ⟨_, rfl⟩
        rw [hX1] at HK1 ⊢
        clear hX1 y0 y1 y2 y3 y4 yf1 yf3
        have HR1 := hide (show Below wr.heap.size wr X1 from (unhide HK1).2.below (Nat.le_refl _) (fun k e => by rw [e]; exact unhide HGR))
        refine Calls.mono (taken_any _ B' ky w X1 (unhide HEB) ((unhide h5).trans ((unhide HR1).mono (unhide h5).size))) ?_
        rintro e w5 ⟨np, nn, nc, nb', isB, bv', B'', rfl, ea1, ra1, ta1, sa1, va1, b5⟩
        have hg5 := (b5.block g (Array.getElem?_eq_some_iff.1 (unhide HK1).1).1).trans (unhide HK1).1
        obtain ⟨y0, y1, y2, y3, y4, yf⟩ := five_cells hg5
        have yf2 := yf 2
        have yf4 := yf 4
        obtain ⟨x1, K1⟩ := set_is (x := .bool isB) (y := .slice np nn nc) hg5
        have HK2 := hide (And.intro x1 ((Keep.of_below (F := fun k => k = g) ((unhide HR1).trans (b5.mono (unhide HR1).size))).trans K1 (fun _ h => Or.inl h)))
        have HT2 := hide (And.intro ea1 (And.intro ra1 (And.intro ta1 (And.intro sa1 va1))))
        obtain ⟨X2, hX2⟩ : ∃ X2, (w5.setCell ⟨g, 4, none⟩ (.slice np nn nc)).setCell ⟨g, 2, none⟩ (.bool isB) = X2 := ⟨_, rfl⟩
        rw [hX2] at HK2
        obtain ⟨z0, z1, z2, z3, z4, zf⟩ := five_cells (unhide HK2).1
        have HR2 := hide (show Below wr.heap.size wr X2 from (unhide HK2).2.below (Nat.le_refl _) (fun k e => by rw [e]; exact unhide HGR))
        have hw2 := (unhide h5).trans ((unhide HR2).mono (unhide h5).size)
        have HW2 := hide hw2
        have HQ := hide (bequal_any _ _ ob nb' X2 ((unhide HT1).2.1.below hw2) ((unhide HT2).2.1.below hw2))
        have HSTEP := hide (show difF (f' + 1) (pdat A') (pdat B') = if (wsB == isB) && (ob == nb') then difF f' (pdat A'') (pdat B'') else (ky, wsB, isB, ob, nb') :: difF f' (pdat A'') (pdat B'') by
          have t1 := (unhide HT1).2.2.1
          have t2 := (unhide HT2).2.2.1
          have n1 := unhide HNE
          rw [unhide HKY] at t1 t2 ⊢
          rw [difF_step _ _ _ n1, t1, t2])
        have HLS2 := hide (show A''.length + B''.length + 1 ≤ A'.length + B'.length by
          have t1 := (unhide HT1).2.2.1
          have t2 := (unhide HT2).2.2.1
          have n1 := unhide HLS
          rw [← unhide HKY, t1, t2] at n1
          simpa [pdat_len] using n1)
        obtain ⟨pa2, ca2, rfl, _⟩ := (unhide HT1).1.shape
        obtain ⟨pb2, cb2, rfl, _⟩ := ea1.shape
        have HX2 := hide hX2
        rename_i hja hjb
        have zf3 := zf 3
        have zf4 := zf 4
        clear b5 hg5 yf x1 K1 ra1 ta1 sa1 va1 hw2 hX2 zf hja hjb ea1
        have hB3 := (unhide h2).2
        by_cases hct : ((wsB == isB) && (ob == nb')) = true
        · have hws : (wsB == isB) = true := by rw [Bool.and_eq_true] at hct; exact hct.1
          have hoe : (ob == nb') = true := by rw [Bool.and_eq_true] at hct; exact hct.2
          rw [hoe] at HQ
          have HST := hide (unhide HSTEP)
          rw [hct] at HST
          clear hct hoe hB3
          go_wp2_with fail
          rw [unhide HX2]
          refine Calls.mono (unhide HQ) ?_
          rintro e w6 ⟨rfl, hw6⟩
          obtain rfl : X2 = w6 := hw6.symm
          clear hw6
          go_wp2_with fail
          go_roundw
          case rel =>
            refine ⟨f', A'', B'', D, ⟨(unhide HT1).1, (unhide HT2).1, fun y hy => unhide HSA y ((unhide HT1).2.2.2.1 y hy), fun y hy => unhide HSB y ((unhide HT2).2.2.2.1 y hy)⟩, ⟨?_, ?_⟩, ?_, (unhide h4).below (unhide HR2), unhide HW2, _, _, _, _, rfl, rfl⟩
            · have := (unhide h2).1; have := unhide HLS2; omega
            · have := (unhide h2).2; have := unhide HLS2; omega
            · have h9 := unhide h3
              rw [unhide HST] at h9
              simp only [if_true] at h9
              exact h9
          case measure => (have := unhide HLS2; have := unhide HNA; have := unhide HNB; simp only []; omega)
        · have HST := hide (unhide HSTEP)
          rw [if_neg hct] at HST
          have hsp : ((wsB == isB) = true ∧ (ob == nb') = false) ∨ (wsB == isB) = false := by
            cases h7 : (wsB == isB) <;> cases h8 : (ob == nb') <;> simp_all
          have hvo : ob.length ≤ 140737488351232 := by
            rcases (unhide HT1).2.2.2.2 with e | ⟨y, hy, e⟩
            · rw [e]; simp
            · rw [e]; have := unhide HVA y (unhide HSA y hy); omega
          have hvn : nb'.length ≤ 140737488351232 := by
            rcases (unhide HT2).2.2.2.2 with e | ⟨y, hy, e⟩
            · rw [e]; simp
            · rw [e]; have := unhide HVB y (unhide HSB y hy); omega
          have hd2 : Below X2.heap.size X2 X2.drew := (Below.refl _ _).drew
          have hwd2 := (unhide HW2).trans (hd2.mono (unhide HW2).size)
          have hcx := (unhide HK2).1
          have hgl := (Array.getElem?_eq_some_iff.1 hcx).1
          have HC1 : Hid (Calls Try.prog 16 #[.slice op on oc] X2.drew fun e w7 => ∃ tp tn tc, e = .returned (.slice tp tn tc) ∧ w7.cell? ⟨g, 4, none⟩ = some (.slice np nn nc) ∧ Hid (Mine w7 X2.heap.size (.slice tp tn tc) ob ∧ Below X2.heap.size X2 w7)) := by
            refine (clone_any _ ob X2.drew ((unhide HT1).2.1.below hwd2) hvo).mono ?_
            rintro e w7 ⟨t7, rfl, m7, b7⟩
            obtain ⟨tp, tn, tc, rfl⟩ := mine_opv m7
            exact ⟨tp, tn, tc, rfl, (five_cells ((b7.block g hgl).trans hcx)).2.2.2.2.1, m7, hd2.trans (b7.mono hd2.size)⟩
          have HC2 : Hid (∀ w7, Below X2.heap.size X2 w7 → Calls Try.prog 16 #[.slice np nn nc] w7 fun e w8 => ∃ sp sn sc, e = .returned (.slice sp sn sc) ∧ w8.cell? ⟨g, 3, none⟩ = some (.slice op on oc) ∧ w8.frozen? ⟨g, 3, none⟩ = false ∧ w8.cell? ⟨g, 4, none⟩ = some (.slice np nn nc) ∧ w8.frozen? ⟨g, 4, none⟩ = false ∧ Hid (w8.heap[g]? = some (.cells #[.string ky, .bool wsB, .bool isB, .slice op on oc, .slice np nn nc] 31 (0, 0)) ∧ Mine w8 w7.heap.size (.slice sp sn sc) nb' ∧ Below w7.heap.size w7 w8)) := by
            intro w7 b7
            have hw7 := (unhide HW2).trans (b7.mono (unhide HW2).size)
            refine (clone_any _ nb' w7 ((unhide HT2).2.1.below hw7) hvn).mono ?_
            rintro e w8 ⟨t8, rfl, m8, b8⟩
            obtain ⟨sp, sn, sc, rfl⟩ := mine_opv m8
            have hb8 := (b8.block g (Nat.lt_of_lt_of_le hgl b7.size)).trans ((b7.block g hgl).trans hcx)
            obtain ⟨u0, u1, u2, u3, u4, uf⟩ := five_cells hb8
            exact ⟨sp, sn, sc, rfl, u3, uf 3, u4, uf 4, hb8, m8, b8⟩
          clear hct hB3 hvo hvn hd2 hwd2 hcx hgl
          rcases hsp with ⟨hws, hoe⟩ | hws
          · rw [hoe] at HQ
            clear hoe
            go_wp2_with fail
            rw [unhide HX2]
            refine Calls.mono (unhide HQ) ?_
            rintro e w6 ⟨rfl, hw6⟩
            obtain rfl : X2 = w6 := hw6.symm
            clear hw6
            go_wp2_with fail
            go_region_law (first
              | (go_simp; go_at_call 16; refine Calls.mono (unhide HC1) ?_; rintro x w7 ⟨tp, tn, tc, rfl, v4, H7⟩; dsimp only)
              | (go_simp; go_at_call 16; refine Calls.mono (unhide HC2 _ (unhide H7).2) ?_; rintro x w8 ⟨sp, sn, sc, rfl, v3, f3, v5, f4, H8⟩; dsimp only))
            all_goals
              obtain ⟨hb8, m8, b8⟩ := unhide H8
              obtain ⟨m7, b7⟩ := unhide H7
              obtain ⟨x9, K9⟩ := set_both (x := .slice tp tn tc) (y := .slice sp sn sc) hb8
              obtain ⟨Y, hY⟩ : ∃ Y, (w8.setCell ⟨g, 3, none⟩ (.slice tp tn tc)).setCell ⟨g, 4, none⟩ (.slice sp sn sc) = Y := ⟨_, rfl⟩
              rw [hY] at x9 K9 ⊢
              obtain ⟨u0, u1, u2, u3, u4, _⟩ := five_cells x9
              obtain ⟨W9, hW9⟩ : ∃ W9, Y.alloc (.cells #[.string ky, .bool wsB, .bool isB, .slice tp tn tc, .slice sp sn sc] 31) = W9 := ⟨_, rfl⟩
              have bYW : Below Y.heap.size Y W9 := by rw [← hW9]; exact (Below.refl _ _).alloc (Nat.le_refl _) _
              have hnew : W9.heap[Y.heap.size]? = some (.cells #[.string ky, .bool wsB, .bool isB, .slice tp tn tc, .slice sp sn sc] 31 (0, 0)) := by rw [← hW9]; exact heap_alloc_new _ _
              have hgl := (Array.getElem?_eq_some_iff.1 (unhide HK2).1).1
              have hgr := unhide HGR
              have s7 := b7.size
              have s8 := b8.size
              have b28 : Below X2.heap.size X2 w8 := b7.trans (b8.mono b7.size)
              have br8 : Below wr.heap.size wr w8 := (unhide HR2).trans (b28.mono (unhide HR2).size)
              have brY : Below wr.heap.size wr Y := br8.trans (K9.below br8.size (fun k e => by rw [e]; exact hgr))
              have brW : Below wr.heap.size wr W9 := brY.trans (bYW.mono brY.size)
              have mo : Mine W9 X2.heap.size (.slice tp tn tc) ob := (mkeep7 (m7.below b8) K9 (fun b hb e => by omega)).below bYW
              have mn : Mine W9 w7.heap.size (.slice sp sn sc) nb' := (mkeep7 m8 K9 (fun b hb e => by omega)).below bYW
              have hol : ∀ b off, tp = some ⟨b, off, none⟩ → ob ≠ [] → b < w7.heap.size := fun b off e hne => row_lt (o := ⟨ky, tp, tn, tc, false⟩) m7.1 e hne
              have hrs := (unhide HR2).size
              have HMO := hide (And.intro (mo.base hrs) (And.intro mn (And.intro hol (Nat.le_trans hrs s7))))
              have HBW := hide brW
              have hd9 := (unhide h4).below brW
              have HOW := hide hd9.1
              have HN9 := hide (five_cells hnew)
              have hbs : w.heap.size ≤ W9.heap.size := Nat.le_trans (unhide h5).size brW.size
              have HBS := hide hbs
              have HDL := hide (show D.length + 1 ≤ 2097153 by have := (unhide h2).2; have := unhide HLA; have := unhide HLB; omega)
              have HW9 := hide hW9
              clear hb8 m8 b8 m7 b7 x9 K9 hY bYW hnew hgl hgr s7 s8 b28 br8 brY brW mo mn hol hrs hd9 hbs hW9 v3 f3 v5 f4 v4
              go_wp2_with (first
                | (at_builtin; rw [unhide HW9]; refine wpList_append_gen rfl _ _ 24 rfl w.heap.size 31 i0 (.agg #[.string ⟨#[]⟩, .bool false, .bool false, .slice none 0 0, .slice none 0 0]) Try.underlying24 hi hz0 5 72 (by omega) hz1 hz2 rfl (.slice dp D.length dc) D.length (dfl D) rfl (unhide HOW) ⟨Y.heap.size, 0, none⟩ 1 1 (dfC ⟨ky, wsB, isB, tp, tn, tc, sp, sn, sc⟩) rfl rfl ?cells (dfC_one _) (by have := unhide HDL; unfold maxLen; omega) (by have := unhide HDL; omega) (unhide HBS) ?_))
              case cells =>
                obtain ⟨q0, q1, q2, q3, q4, _⟩ := unhide HN9
                intro j u hj
                match j, hj with
                | 0, hj => (simp [dfC] at hj; subst hj; simpa [Addr.add] using q0)
                | 1, hj => (simp [dfC] at hj; subst hj; simpa [Addr.add] using q1)
                | 2, hj => (simp [dfC] at hj; subst hj; simpa [Addr.add] using q2)
                | 3, hj => (simp [dfC] at hj; subst hj; simpa [Addr.add] using q3)
                | 4, hj => (simp [dfC] at hj; subst hj; simpa [Addr.add] using q4)
              intro v10 w10 hown10 hgrow10 hob10
              obtain ⟨mo, mn, hol, hs7⟩ := unhide HMO
              have hdr := (unhide h4).push (x := (⟨ky, wsB, isB, tp, tn, tc, sp, sn, sc⟩, ob, nb')) (unhide HBW) w7.heap.size hs7 mo hol mn (unhide h5).size hown10 hgrow10 hob10
              have hbW := (unhide h5).trans ((unhide HBW).mono (unhide h5).size)
              have HJ := hide (And.intro hdr (hbW.grown hgrow10 hbW.size (fun k e => ((unhide HOW).lt k e).1)))
              clear hown10 hgrow10 hob10 mo mn hol hs7 hdr hbW
              go_wp2_with fail
              go_roundw
              case rel =>
                refine ⟨f', A'', B'', D ++ [((⟨ky, wsB, isB, tp, tn, tc, sp, sn, sc⟩ : Dv), ob, nb')], ⟨(unhide HT1).1, (unhide HT2).1, fun y hy => unhide HSA y ((unhide HT1).2.2.2.1 y hy), fun y hy => unhide HSB y ((unhide HT2).2.2.2.1 y hy)⟩, ⟨?_, ?_⟩, ?_, hide (unhide HJ).1, hide (unhide HJ).2, _, _, _, _, rfl, rfl⟩
                · have := (unhide h2).1; have := unhide HLS2; omega
                · have := (unhide h2).2; have := unhide HLS2; rw [List.length_append]; simp only [List.length_cons, List.length_nil]; omega
                · have h9 := unhide h3
                  rw [unhide HST] at h9
                  unfold Hid
                  rw [ddat_app]
                  simpa [ddat] using h9
              case measure => (have := unhide HLS2; have := unhide HNA; have := unhide HNB; simp only []; omega)
          · clear HQ
            go_wp2_with fail
            rw [unhide HX2]
            go_region_law (first
              | (go_simp; go_at_call 16; refine Calls.mono (unhide HC1) ?_; rintro x w7 ⟨tp, tn, tc, rfl, v4, H7⟩; dsimp only)
              | (go_simp; go_at_call 16; refine Calls.mono (unhide HC2 _ (unhide H7).2) ?_; rintro x w8 ⟨sp, sn, sc, rfl, v3, f3, v5, f4, H8⟩; dsimp only))
            all_goals
              obtain ⟨hb8, m8, b8⟩ := unhide H8
              obtain ⟨m7, b7⟩ := unhide H7
              obtain ⟨x9, K9⟩ := set_both (x := .slice tp tn tc) (y := .slice sp sn sc) hb8
              obtain ⟨Y, hY⟩ : ∃ Y, (w8.setCell ⟨g, 3, none⟩ (.slice tp tn tc)).setCell ⟨g, 4, none⟩ (.slice sp sn sc) = Y := ⟨_, rfl⟩
              rw [hY] at x9 K9 ⊢
              obtain ⟨u0, u1, u2, u3, u4, _⟩ := five_cells x9
              obtain ⟨W9, hW9⟩ : ∃ W9, Y.alloc (.cells #[.string ky, .bool wsB, .bool isB, .slice tp tn tc, .slice sp sn sc] 31) = W9 := ⟨_, rfl⟩
              have bYW : Below Y.heap.size Y W9 := by rw [← hW9]; exact (Below.refl _ _).alloc (Nat.le_refl _) _
              have hnew : W9.heap[Y.heap.size]? = some (.cells #[.string ky, .bool wsB, .bool isB, .slice tp tn tc, .slice sp sn sc] 31 (0, 0)) := by rw [← hW9]; exact heap_alloc_new _ _
              have hgl := (Array.getElem?_eq_some_iff.1 (unhide HK2).1).1
              have hgr := unhide HGR
              have s7 := b7.size
              have s8 := b8.size
              have b28 : Below X2.heap.size X2 w8 := b7.trans (b8.mono b7.size)
              have br8 : Below wr.heap.size wr w8 := (unhide HR2).trans (b28.mono (unhide HR2).size)
              have brY : Below wr.heap.size wr Y := br8.trans (K9.below br8.size (fun k e => by rw [e]; exact hgr))
              have brW : Below wr.heap.size wr W9 := brY.trans (bYW.mono brY.size)
              have mo : Mine W9 X2.heap.size (.slice tp tn tc) ob := (mkeep7 (m7.below b8) K9 (fun b hb e => by omega)).below bYW
              have mn : Mine W9 w7.heap.size (.slice sp sn sc) nb' := (mkeep7 m8 K9 (fun b hb e => by omega)).below bYW
              have hol : ∀ b off, tp = some ⟨b, off, none⟩ → ob ≠ [] → b < w7.heap.size := fun b off e hne => row_lt (o := ⟨ky, tp, tn, tc, false⟩) m7.1 e hne
              have hrs := (unhide HR2).size
              have HMO := hide (And.intro (mo.base hrs) (And.intro mn (And.intro hol (Nat.le_trans hrs s7))))
              have HBW := hide brW
              have hd9 := (unhide h4).below brW
              have HOW := hide hd9.1
              have HN9 := hide (five_cells hnew)
              have hbs : w.heap.size ≤ W9.heap.size := Nat.le_trans (unhide h5).size brW.size
              have HBS := hide hbs
              have HDL := hide (show D.length + 1 ≤ 2097153 by have := (unhide h2).2; have := unhide HLA; have := unhide HLB; omega)
              have HW9 := hide hW9
              clear hb8 m8 b8 m7 b7 x9 K9 hY bYW hnew hgl hgr s7 s8 b28 br8 brY brW mo mn hol hrs hd9 hbs hW9 v3 f3 v5 f4 v4
              go_wp2_with (first
                | (at_builtin; rw [unhide HW9]; refine wpList_append_gen rfl _ _ 24 rfl w.heap.size 31 i0 (.agg #[.string ⟨#[]⟩, .bool false, .bool false, .slice none 0 0, .slice none 0 0]) Try.underlying24 hi hz0 5 72 (by omega) hz1 hz2 rfl (.slice dp D.length dc) D.length (dfl D) rfl (unhide HOW) ⟨Y.heap.size, 0, none⟩ 1 1 (dfC ⟨ky, wsB, isB, tp, tn, tc, sp, sn, sc⟩) rfl rfl ?cells (dfC_one _) (by have := unhide HDL; unfold maxLen; omega) (by have := unhide HDL; omega) (unhide HBS) ?_))
              case cells =>
                obtain ⟨q0, q1, q2, q3, q4, _⟩ := unhide HN9
                intro j u hj
                match j, hj with
                | 0, hj => (simp [dfC] at hj; subst hj; simpa [Addr.add] using q0)
                | 1, hj => (simp [dfC] at hj; subst hj; simpa [Addr.add] using q1)
                | 2, hj => (simp [dfC] at hj; subst hj; simpa [Addr.add] using q2)
                | 3, hj => (simp [dfC] at hj; subst hj; simpa [Addr.add] using q3)
                | 4, hj => (simp [dfC] at hj; subst hj; simpa [Addr.add] using q4)
              intro v10 w10 hown10 hgrow10 hob10
              obtain ⟨mo, mn, hol, hs7⟩ := unhide HMO
              have hdr := (unhide h4).push (x := (⟨ky, wsB, isB, tp, tn, tc, sp, sn, sc⟩, ob, nb')) (unhide HBW) w7.heap.size hs7 mo hol mn (unhide h5).size hown10 hgrow10 hob10
              have hbW := (unhide h5).trans ((unhide HBW).mono (unhide h5).size)
              have HJ := hide (And.intro hdr (hbW.grown hgrow10 hbW.size (fun k e => ((unhide HOW).lt k e).1)))
              clear hown10 hgrow10 hob10 mo mn hol hs7 hdr hbW
              go_wp2_with fail
              go_roundw
              case rel =>
                refine ⟨f', A'', B'', D ++ [((⟨ky, wsB, isB, tp, tn, tc, sp, sn, sc⟩ : Dv), ob, nb')], ⟨(unhide HT1).1, (unhide HT2).1, fun y hy => unhide HSA y ((unhide HT1).2.2.2.1 y hy), fun y hy => unhide HSB y ((unhide HT2).2.2.2.1 y hy)⟩, ⟨?_, ?_⟩, ?_, hide (unhide HJ).1, hide (unhide HJ).2, _, _, _, _, rfl, rfl⟩
                · have := (unhide h2).1; have := unhide HLS2; omega
                · have := (unhide h2).2; have := unhide HLS2; rw [List.length_append]; simp only [List.length_cons, List.length_nil]; omega
                · have h9 := unhide h3
                  rw [unhide HST] at h9
                  unfold Hid
                  rw [ddat_app]
                  simpa [ddat] using h9
              case measure => (have := unhide HLS2; have := unhide HNA; have := unhide HNB; simp only []; omega)
end Go.Proofs.Ytjkkdijoogiipaa

/- Package plain as landed: Differ of lists that are not right; the helpers Diff, Same, Diffs. -/
namespace Go.Proofs.Ytjkkdijoogiipaa
open Go.RowKit

set_option maxRecDepth 20000 in
theorem differ_no (va vb : Value) (A B : List El) (w : World) (ha : EL 2 prC w va A) (hb : EL 2 prC w vb B) (hn : rightD (pdat A) = false ∨ rightD (pdat A) = true ∧ rightD (pdat B) = false) :
    Calls Try.prog 5 #[va, vb] w fun e w' => e = .returned (.slice none 0 0) ∧ Below w.heap.size w w' := by
  have HCA := hide (pcheck_any va A w ha)
  have HCB := hide (fun W (h : Below w.heap.size w W) => pcheck_any vb B W (hb.below h))
  obtain ⟨pa, ca, rfl, _⟩ := ha.shape
  obtain ⟨pb, cb, rfl, _⟩ := hb.shape
  clear ha hb
  rcases hn with hA | ⟨hA, hB⟩
  · rw [hA] at HCA
    go_enter Try.func5, Try.ntmps5
    go_wp2_with fail
    refine Calls.mono (unhide HCA) ?_
    rintro e w1 ⟨rfl, b1⟩
    have HB1 := hide b1
    clear b1
    go_wp2_with fail
    go_ret
    exact ⟨rfl, unhide HB1⟩
  · rw [hA] at HCA
    rw [hB] at HCB
    go_enter Try.func5, Try.ntmps5
    go_wp2_with fail
    refine Calls.mono (unhide HCA) ?_
    rintro e w1 ⟨rfl, b1⟩
    have HB1 := hide b1
    clear b1
    go_wp2_with fail
    refine Calls.mono (unhide HCB w1 (unhide HB1)) ?_
    rintro e w2 ⟨rfl, b2⟩
    have HB2 := hide ((unhide HB1).trans (b2.mono (unhide HB1).size))
    clear b2
    go_wp2_with fail
    go_ret
    exact ⟨rfl, unhide HB2⟩

/-- A slice value that reads as these differences. -/
def DL (w : World) (v : Value) (D : List Dm) : Prop := KRow 5 w v D.length (dfl D) ∧ ∀ x ∈ D, Row w (vof (oldE x).1) x.2.1 ∧ Row w (vof (newE x).1) x.2.2
theorem dfl_len (D : List Dm) : (dfl D).length = D.length * 5 := flat_len (f := fun x : Dm => dfC x.1) (fun _ => rfl) D
theorem dfl_get (D : List Dm) (j : Nat) (h : j < D.length) (i : Nat) (hi : i < 5) : (dfl D)[j * 5 + i]? = (dfC D[j].1)[i]? := flat_get (f := fun x : Dm => dfC x.1) (fun _ => rfl) D j h i hi
theorem DR.dl {w : World} {base : Nat} {v : Value} {D : List Dm} (h : DR w base v D) : DL w v D :=
  ⟨krow_of_owns h.1 (dfl_len D), fun x hx => ⟨(h.2.1 (oldE x) (List.mem_flatMap.2 ⟨x, hx, by simp⟩)).1.1, (h.2.1 (newE x) (List.mem_flatMap.2 ⟨x, hx, by simp⟩)).1.1⟩⟩
theorem DL.below {w w' : World} {v : Value} {D : List Dm} (h : DL w v D) (hb : Below w.heap.size w w') : DL w' v D := ⟨h.1.below hb, fun x hx => ⟨(h.2 x hx).1.below hb, (h.2 x hx).2.below hb⟩⟩
theorem DL.shape {w : World} {v : Value} {D : List Dm} (h : DL w v D) : ∃ (p : Option Addr) (c : Nat), v = .slice p D.length c ∧ D.length ≤ c ∧ c ≤ maxLen ∧ (p = none → c = 0) := h.1.shape
theorem DL.at {w : World} {v : Value} {D : List Dm} (h : DL w v D) (hne : 0 < D.length) : ∃ b o c, v = .slice (some ⟨b, o, none⟩) D.length c ∧ D.length ≤ c ∧ c ≤ maxLen ∧ ∀ k (hk : k < D.length) (W : World), Below w.heap.size w W →
    W.cell? ⟨b, o + k * 5, none⟩ = some (.string D[k].1.key) ∧ W.cell? ⟨b, o + k * 5 + 1, none⟩ = some (.bool D[k].1.was) ∧ W.cell? ⟨b, o + k * 5 + 2, none⟩ = some (.bool D[k].1.is) ∧ W.cell? ⟨b, o + k * 5 + 3, none⟩ = some (.slice D[k].1.op D[k].1.on D[k].1.oc) ∧ W.cell? ⟨b, o + k * 5 + 4, none⟩ = some (.slice D[k].1.np D[k].1.nn D[k].1.nc) := by
  obtain ⟨b, off, cap, e, h1, h2, hc⟩ := h.1.open hne
  refine ⟨b, off, cap, e, h1, h2, fun k hk W hw => ?_⟩
  have hx : ∀ i u, i < 5 → (dfC D[k].1)[i]? = some u → W.cell? ⟨b, off + k * 5 + i, none⟩ = some u := fun i u hi hu => by
    have := hc (k * 5 + i) u (by rw [dfl_get D k hk i hi]; exact hu)
    rw [← Nat.add_assoc] at this
    exact (hw.cell (World.block_lt_of_cell? w _ this)).trans this
  exact ⟨hx 0 _ (by omega) rfl, hx 1 _ (by omega) rfl, hx 2 _ (by omega) rfl, hx 3 _ (by omega) rfl, hx 4 _ (by omega) rfl⟩

def dfA (o : Dv) : Array Value := #[.string o.key, .bool o.was, .bool o.is, .slice o.op o.on o.oc, .slice o.np o.nn o.nc]
set_option maxRecDepth 20000 in
set_option maxHeartbeats 2000000 in
theorem hdiff_any (x y : Dm) (w : World) (hx : Row w (vof (oldE x).1) x.2.1 ∧ Row w (vof (newE x).1) x.2.2) (hy : Row w (vof (oldE y).1) y.2.1 ∧ Row w (vof (newE y).1) y.2.2) (he : (x.1.key, x.1.was, x.1.is, x.2.1, x.2.2) = (y.1.key, y.1.was, y.1.is, y.2.1, y.2.2)) :
    Calls Try.prog 20 #[.agg (dfA x.1), .agg (dfA y.1)] w fun e w' => e = .returned (.bool true) ∧ Below w.heap.size w w' := by
  obtain ⟨⟨ak, aw, ai, ap, an, ac, aq, am, ad⟩, av, au⟩ := x
  obtain ⟨⟨bk, bw, bi, bp, bn, bc, bq, bm, bd⟩, bv, bu⟩ := y
  simp only [Prod.mk.injEq] at he
  obtain ⟨rfl, rfl, rfl, rfl, rfl⟩ := he
  unfold vof oldE newE at hx hy
  unfold dfA
  simp only at hx hy ⊢
  have HB := hide (fun (o1 o2 : Obj) => ((Below.refl w.heap.size w).alloc (Nat.le_refl _) o1).alloc (by simp) o2)
  have H1 := hide (fun (o1 o2 : Obj) => bytes_any _ _ av av ((w.alloc o1).alloc o2) (hx.1.below (unhide HB o1 o2)) (hy.1.below (unhide HB o1 o2)))
  have H2 := hide (fun (o1 o2 : Obj) => bytes_any _ _ au au ((w.alloc o1).alloc o2) (hx.2.below (unhide HB o1 o2)) (hy.2.below (unhide HB o1 o2)))
  have e1 : (av == av) = true := by simp
  have e2 : (au == au) = true := by simp
  rw [e1] at H1
  rw [e2] at H2
  clear hx hy e1 e2
  go_enter Try.func20, Try.ntmps20
  go_wp2_with fail
  refine Calls.mono (unhide H1 _ _) ?_
  rintro e w1 ⟨rfl, rfl⟩
  go_wp2_with fail
  refine Calls.mono (unhide H2 _ _) ?_
  rintro e w1 ⟨rfl, rfl⟩
  go_wp2_with fail
  go_ret
  exact ⟨rfl, unhide HB _ _⟩

set_option maxRecDepth 20000 in
set_option maxHeartbeats 2000000 in
theorem hsamediffs_any (v1 v2 : Value) (L M : List Dm) (w : World) (h1 : DL w v1 L) (h2 : DL w v2 M) (he : ddat L = ddat M) :
    Calls Try.prog 19 #[v1, v2, .func (.func 20) #[] #[]] w fun e w' => e = .returned (.bool true) ∧ Below w.heap.size w w' := by
  have hlen : L.length = M.length := by rw [← ddat_len, ← ddat_len, he]
  by_cases h0 : L.length = 0
  · obtain ⟨p1, c1, rfl, _⟩ := h1.shape
    obtain ⟨p2, c2, rfl, _⟩ := h2.shape
    rw [← hlen, h0]
    go_enter Try.func19, Try.ntmps19
    go_wp2
    refine wp_loop_rounds 1 ?_
    rw [rounds_succ]
    go_wp2
    go_ret
    exact ⟨rfl, Below.refl _ _⟩
  obtain ⟨b1, o1, c1, rfl, k1, k2, hc1⟩ := h1.at (by omega)
  obtain ⟨b2, o2, c2, rfl, k3, k4, hc2⟩ := h2.at (by omega)
  rw [← hlen]
  obtain ⟨l, hl⟩ : ∃ l, l = L.length := ⟨_, rfl⟩
  rw [← hl] at k1 ⊢
  unfold maxLen at k2
  have hl0 : (l : Int) ≤ 9223372036854775807 := by omega
  have HCL : Hid (∀ (k : Nat) (hk : k < L.length) (hk' : k < M.length) (wr : World), Below w.heap.size w wr → ∃ CC : World → Prop, CC { wr with drawn := wr.drawn + 1 } ∧
      (∀ w', CC w' → Below w.heap.size w w') ∧
      (∀ w', CC w' → Calls Try.prog 20 #[.agg (dfA L[k].1), .agg (dfA M[k].1)] w' fun e w'' => e = .returned (.bool true) ∧ CC w'')) := by
    intro k hk hk' wr hb
    refine ⟨fun w' => Below w.heap.size w w', hb.drew, fun w' hw => hw, fun w' hw => ?_⟩
    have e : (ddat L)[k]? = (ddat M)[k]? := by rw [he]
    simp only [ddat, List.getElem?_map, List.getElem?_eq_getElem hk, List.getElem?_eq_getElem hk', Option.map_some, Option.some.injEq] at e
    have g1 := h1.2 _ (List.getElem_mem hk)
    have g2 := h2.2 _ (List.getElem_mem hk')
    exact (hdiff_any L[k] M[k] w' ⟨g1.1.below hw, g1.2.below hw⟩ ⟨g2.1.below hw, g2.2.below hw⟩ e).mono fun e w'' hx => ⟨hx.1, hw.trans (hx.2.mono hw.size)⟩
  have HLN := hide (And.intro hl hlen)
  have HX1 := hide hc1
  have HX2 := hide hc2
  clear h1 h2 hc1 hc2 k1 k2 k3 k4 hl hlen h0 he
  go_enter Try.func19, Try.ntmps19
  go_wp2
  go_loopw [7] (fun i wr => ∃ k : Nat, k ≤ l ∧ i = .int .i64 k ∧ Hid (Below w.heap.size w wr)) (fun i _ => l - (intOf i).toNat)
  case atStart => exact ⟨0, Nat.zero_le _, rfl, Below.refl _ _⟩
  case round =>
    obtain ⟨k, hk, rfl, hb⟩ := hrel
    by_cases hlt : (k : Int) < (l : Int)
    · obtain ⟨hl, hlen⟩ := unhide HLN
      obtain ⟨CC, hC0, hCW, hCL⟩ := unhide HCL k (by omega) (by omega) wr (unhide hb)
      have HCC := hide (fun w' (h : CC w') => And.intro (unhide HX1 k (by omega) w' (hCW w' h)) (unhide HX2 k (by omega) w' (hCW w' h)))
      generalize L[k]'(by omega) = x at *
      generalize M[k]'(by omega) = y at *
      obtain ⟨⟨ak, aw, ai, ap, an, ac, aq, am, ad⟩, av, au⟩ := x
      obtain ⟨⟨bk, bw, bi, bp, bn, bc, bq, bm, bd⟩, bv, bu⟩ := y
      unfold dfA at hCL
      simp only at hCL HCC
      have HC0 := hide hC0
      have HCW := hide hCW
      have HCL := hide hCL
      clear hl hlen hC0 hCW hCL hb
      go_wp2_with fail
      refine region_pair CC (by kernel_rfl) (by kernel_rfl) (unhide HC0) ?_
      repeat (first
        | go_big_quiet_skip
        | (go_big_quiet_want
           apply Exists.intro
           refine ⟨fun w' hw' => ?_, ?_⟩
           · obtain ⟨⟨c0, c1, c2, c3, c4⟩, d0, d1, d2, d3, d4⟩ := unhide HCC w' hw'
             go_simp
             first | done | rfl | exact unhide HCL w' hw'
           simp only [Act.put, List.setIfInBounds_toArray, List.set_cons_zero, List.set_cons_succ]
           go_big_quiet_on))
      refine wpQuiet_nil ?_
      intro w' hw'
      have HBW := hide (unhide HCW w' hw')
      clear hw' HCC HCL HC0
      go_wp2
      go_roundw
      case rel => exact ⟨k + 1, by omega, by go_num, unhide HBW⟩
      case measure => simp [intOf]; omega
    · go_wp2
      go_ret
      exact ⟨rfl, unhide hb⟩

theorem hdiffs_any (v1 v2 : Value) (L M : List Dm) (w : World) (h1 : DL w v1 L) (h2 : DL w v2 M) (he : ddat L = ddat M) :
    Calls Try.prog 7 #[v1, v2] w fun e w' => e = .returned (.bool true) ∧ Below w.heap.size w w' := by
  have HC := hide (hsamediffs_any v1 v2 L M w h1 h2 he)
  clear h1 h2 he
  go_enter Try.func7, Try.ntmps7
  go_wp2_with (go_at_call 19; refine Calls.mono (unhide HC) ?_; rintro e w2 ⟨rfl, hx2⟩; have HX2 := hide hx2; clear hx2)
  go_ret
  exact ⟨rfl, unhide HX2⟩
end Go.Proofs.Ytjkkdijoogiipaa

/- Package plain as landed: Get, Scan. -/
namespace Go.Proofs.Ytjkkdijoogiipaa
open Go.RowKit

theorem look_plc {l : List Pd} (h : SP l) (k : List UInt8) : look l k = match l[plc l k]? with | some x => (if kP x = k then some x.2 else none) | none => none := by
  obtain ⟨A, B, hl, hA, hB, hlen, sA, sB, a1, b1, ab⟩ := plc_parts h k
  have hat : l[plc l k]? = B.head? := by rw [hB, List.head?_drop]
  have lA : look A k = none := look_none fun x hx => tl_ne (a1 x hx)
  rw [hat]
  conv => lhs; rw [hl, look_app, lA]
  cases B with
  | nil => rfl
  | cons b B =>
    simp only [List.head?_cons, Option.none_or, look_cons]
    by_cases hk : kP b = k
    · rw [if_pos hk, if_pos hk]
    · rw [if_neg hk, if_neg hk]
      obtain ⟨hb1, hb2⟩ := List.pairwise_cons.1 sB
      have hkb : tl k (kP b) = true := by
        cases ht : tl k (kP b) with
        | true => rfl
        | false => exact absurd (tl_total _ _ (b1 b (by simp)) ht) hk
      exact look_none fun x hx => (tl_ne (tl_trans _ _ _ hkb (hb1 x hx))).symm
/-- What Get answers. -/
def getR (l : List Pd) (k : List UInt8) : Option (List UInt8) := if rightD l then look l k else none

end Go.Proofs.Ytjkkdijoogiipaa

/- Package plain as landed: Scan. -/
namespace Go.Proofs.Ytjkkdijoogiipaa
open Go.RowKit

/-- min of two numbers, as a step of a walk. -/
theorem wpList_min2 {P : Program} {w : World} {ops : Array Oper} {rest : List Oper} {o : Oper} {a : Act} {Q : Exit → Act → World → Prop} (hgd : o.guard = none) (x y : Operand) (ts : Array TypeId)
    (ho : o.op = .call { callee := .builtin .min, args := #[x, y], argTypes := ts }) (m R M : Nat) (hx : a.eval x = .int .i64 (m : Int)) (hy : a.eval y = .int .i64 (R : Int)) (hM : M = min m R)
    (h : wpList P ops Q rest (a.put o.dst (.int .i64 (M : Int))) w) : wpList P ops Q (o :: rest) a w := by
  have e : (if (R : Int) < (m : Int) then (R : Int) else (m : Int)) = (M : Int) := by rw [hM]; split <;> omega
  refine wpList_plain hgd fun K hK => ?_
  unfold Oper.wp execOp
  simp only [ho, resolve, invoke, builtin, Sem.run_bind, Sem.run_pure, Result.andThen_ok, List.map_toArray, List.map_cons, List.map_nil, hx, hy, run_min_int2, e]
  exact hK _ _ h

end Go.Proofs.Ytjkkdijoogiipaa
