/- Texts of ours, one behind the other: SecRef2. -/
import Derived.Test.YtpkpjmebkikgdaaG4
import Derived.Test.YtpkpjmebkikgdaaG7
import Derived.Test.YtpkpjmebkikgdaaG12
import Derived.Test.YtpkpjmebkikgdaaG16
/- What the reference of package sector does: Open. -/
namespace Go.Proofs.Ytpkpjmebkikgdaa
open Go.RowKit

set_option maxRecDepth 20000 in
theorem ropen_arg (s : Value) (b : List UInt8) (w : World) (hs : Row w s b) (hl : b.length ≠ 512) :
    Calls Try.prog 25 #[s] w fun e w' => e = .returned (.tuple #[.agg #[.int .u8 0, .int .u64 0, .slice none 0 0], .int .i64 1]) ∧ Below w.heap.size w w' := by
  obtain ⟨q, c, l, rfl, hl2⟩ := hs.shape
  subst hl2
  clear hs
  have hd : ((b.length : Int) != 512) = true := by rw [bne_iff_ne]; omega
  go_enter Try.func25, Try.ntmps25
  go_wp2
  refine bodyPost_ret (v := .tuple #[.agg #[.int .u8 0, .int .u64 0, .slice none 0 0], .int .i64 1]) (by simp [results, Try.results25, go_sem]) rfl ⟨rfl, (Below.refl _ _).alloc (Nat.le_refl _) _⟩

set_option maxRecDepth 20000 in
theorem ropen_blank (g off cap : Nat) (b : List UInt8) (w : World) (hs : Row w (.slice (some ⟨g, off, none⟩) 512 cap) b) (hz : b.all (· == 0) = true) :
    Calls Try.prog 25 #[.slice (some ⟨g, off, none⟩) 512 cap] w fun e w' => e = .returned (.tuple #[.agg #[.int .u8 0, .int .u64 0, .slice none 0 0], .int .i64 0]) ∧ Below w.heap.size w w' := by
  have bel := (Below.refl w.heap.size w).alloc (Nat.le_refl _) (.cells #[.int .u8 0, .int .u64 0, .slice none 0 0] 74)
  have HS := hide (hs.below bel)
  clear hs
  go_enter Try.func25, Try.ntmps25
  go_wp2_with fail
  refine (rzero_any _ b _ (unhide HS)).mono ?_
  rintro e w1 ⟨rfl, rfl⟩
  rw [hz]
  go_wp2
  refine bodyPost_ret (v := .tuple #[.agg #[.int .u8 0, .int .u64 0, .slice none 0 0], .int .i64 0]) (by simp [results, Try.results25, go_sem]) rfl ⟨rfl, bel⟩

/-- What a struct's variable holds in its three cells. -/
theorem three_cells {w : World} {g e : Nat} {x y z : Value} (h : w.heap[g]? = some (.cells #[x, y, z] e (0, 0))) :
    w.cell? ⟨g, 0, none⟩ = some x ∧ w.cell? ⟨g, 1, none⟩ = some y ∧ w.cell? ⟨g, 2, none⟩ = some z ∧ w.frozen? ⟨g, 0, none⟩ = false ∧ w.frozen? ⟨g, 1, none⟩ = false ∧ w.frozen? ⟨g, 2, none⟩ = false := by
  refine ⟨?_, ?_, ?_, ?_, ?_, ?_⟩
  · rw [cell_of_row w g 0 _ e (0, 0) h]; rfl
  · rw [cell_of_row w g 1 _ e (0, 0) h]; rfl
  · rw [cell_of_row w g 2 _ e (0, 0) h]; rfl
  · simp [World.frozen?, h]
  · simp [World.frozen?, h]
  · simp [World.frozen?, h]

theorem numAt_lt (b : List UInt8) (a n : Nat) : numAt b a n < 256 ^ n := by
  have h1 := num_lt ((b.drop a).take n)
  have h2 : ((b.drop a).take n).length ≤ n := by simp; omega
  exact Nat.lt_of_lt_of_le h1 (Nat.pow_le_pow_right (by omega) h2)

set_option maxRecDepth 20000 in
set_option maxHeartbeats 1000000 in
theorem ropen_good (g off cap : Nat) (b : List UInt8) (w : World) (hs : Row w (.slice (some ⟨g, off, none⟩) 512 cap) b) (hb : b.length = 512) (hcap : 512 ≤ cap) (hz : b.all (· == 0) = false) :
    Calls Try.prog 25 #[.slice (some ⟨g, off, none⟩) 512 cap] w fun e w' => ∃ t, e = .returned (.tuple #[.agg #[.int .u8 ((openR b).1.toNat : Int), .int .u64 ((openR b).2.1 : Nat), t], .int .i64 (openR b).2.2.2]) ∧ w'.ownsRow (w.heap.size + 1) 5 1 t (openR b).2.2.1.length ((openR b).2.2.1.map B) ∧ Below w.heap.size w w' := by
  obtain ⟨i0, hi, hz0, hz1, hz2⟩ := info_parts Try.info5
  have hB : ∀ j (h : j < b.length), w.cell? ⟨g, off + j, none⟩ = some (B b[j]) := by
    obtain ⟨b', o', c', e', _, _, hc'⟩ := hs.open (by intro e; rw [e] at hb; simp at hb)
    simp only [Value.slice.injEq, Option.some.injEq, Addr.mk.injEq, and_true] at e'
    obtain ⟨⟨rfl, rfl⟩, _, rfl⟩ := e'
    exact hc'
  have hm : cap ≤ maxLen := by
    obtain ⟨_, _, e', _, h2, _⟩ := hs
    simp only [Value.slice.injEq] at e'
    obtain ⟨_, _, rfl⟩ := e'
    exact h2
  have bel := (Below.refl w.heap.size w).alloc (Nat.le_refl _) (.cells #[.int .u8 0, .int .u64 0, .slice none 0 0] 74)
  have HS := hide (hs.below bel)
  have HG := hide (rget_ok _ b 508 4 _ (hs.below bel) (by omega) (by omega) (by omega))
  have HG2 := hide (rget_ok _ b 2 2 _ (hs.below bel) (by omega) (by omega) (by omega))
  have HG4 := hide (rget_ok _ b 4 8 _ (hs.below bel) (by omega) (by omega) (by omega))
  have HR508 := hide ((Row.cut hB 0 508 cap (by omega) (by omega) hm).below bel)
  have n4 := numAt_lt b 508 4
  have n2 := numAt_lt b 2 2
  have n8 := numAt_lt b 4 8
  have c0 : (w.alloc (.cells #[.int .u8 0, .int .u64 0, .slice none 0 0] 74)).cell? ⟨g, off, none⟩ = some (.int .u8 ((b.getD 0 0).toNat : Int)) := by
    have h := hB 0 (by omega)
    rw [Nat.add_zero] at h
    rw [bel.cell (World.block_lt_of_cell? w _ h), h]
    simp [B, List.getD, List.getElem?_eq_getElem (show 0 < b.length by omega)]
  have c1 : (w.alloc (.cells #[.int .u8 0, .int .u64 0, .slice none 0 0] 74)).cell? ⟨g, off + 1, none⟩ = some (.int .u8 ((b.getD 1 0).toNat : Int)) := by
    have h := hB 1 (by omega)
    rw [bel.cell (World.block_lt_of_cell? w _ h), h]
    simp [B, List.getD, List.getElem?_eq_getElem (show 1 < b.length by omega)]
  have HB := hide hB
  have e1 : num ((b.drop 508).take 4) = numAt b 508 4 := rfl
  have e2 : num ((b.drop 2).take 2) = numAt b 2 2 := rfl
  have e3 : num ((b.drop 4).take 8) = numAt b 4 8 := rfl
  rw [e1] at HG
  rw [e2] at HG2
  rw [e3] at HG4
  have hsl : more 0 (b.take 508) < 4294967296 := Nat.xor_lt_two_pow (n := 32) (raw_lt _ _ (by decide)) (by omega)
  have HO : Hid (openR b = if numAt b 508 4 ≠ more 0 (b.take 508) then (0, 0, [], 30)
      else if knownB (b.getD 0 0) = false ∨ b.getD 1 0 ≠ 0 ∨ 496 < numAt b 2 2 then (0, 0, [], 11)
      else if ((b.drop (12 + numAt b 2 2)).take (496 - numAt b 2 2)).all (· == 0) = false then (0, 0, [], 11)
      else (b.getD 0 0, numAt b 4 8, (b.drop 12).take (numAt b 2 2), 0)) := by
    unfold Hid openR
    rw [if_neg (show ¬ b.length ≠ 512 by omega), hz, if_neg (show ¬ (false = true) by decide)]
  have HSB := hide hs
  clear hs hB e1 e2 e3
  generalize numAt b 508 4 = v4 at *
  generalize numAt b 2 2 = v2 at *
  generalize numAt b 4 8 = v8 at *
  generalize b.getD 0 0 = k0 at *
  generalize b.getD 1 0 = k1 at *
  go_enter Try.func25, Try.ntmps25
  go_wp2_with fail
  refine (rzero_any _ b _ (unhide HS)).mono ?_
  rintro e w1 ⟨rfl, rfl⟩
  rw [hz]
  go_wp2_with fail
  refine Calls.mono (unhide HG) ?_
  rintro e w1 ⟨rfl, rfl⟩
  go_wp2_with fail
  refine (rsum_any _ (b.take 508) _ (unhide HR508) (by simp; omega)).mono ?_
  rintro e w1 ⟨rfl, rfl⟩
  by_cases hsum : v4 = more 0 (b.take 508)
  · have hd : ((v4 : Int) != ((more 0 (b.take 508) : Nat) : Int)) = false := by rw [hsum]; simp
    rw [if_neg (by simpa using hsum)] at HO
    have HSUM := hide hsum
    clear hsum
    go_wp2_with fail
    refine Calls.mono (unhide HG2) ?_
    rintro e w1 ⟨rfl, rfl⟩
    go_wp2_with fail
    refine Calls.mono (unhide HG4) ?_
    rintro e w1 ⟨rfl, rfl⟩
    clear HG HG2 HG4 hd
    go_wp2_with fail
    refine (rknown_any k0 _).mono ?_
    rintro e w1 ⟨rfl, rfl⟩
    by_cases hf : knownB k0 = false ∨ k1 ≠ 0 ∨ 496 < v2
    · rw [if_pos hf] at HO
      have HE : Hid ((openR b).1 = 0 ∧ (openR b).2.1 = 0 ∧ (openR b).2.2.1 = [] ∧ (openR b).2.2.2 = 11) := by unfold Hid; rw [unhide HO]; exact ⟨rfl, rfl, rfl, rfl⟩
      clear HO
      cases hkn : knownB k0 with
      | false =>
        clear hf
        go_wp2
        refine bodyPost_ret (v := .tuple #[.agg #[.int .u8 0, .int .u64 0, .slice none 0 0], .int .i64 11]) (by simp [results, Try.results25, go_sem]) rfl ⟨.slice none 0 0, ?_, ?_, bel⟩
        · rw [(unhide HE).1, (unhide HE).2.1, (unhide HE).2.2.2]; rfl
        · rw [(unhide HE).2.2.1]; exact World.ownsRow_nil _ _ _ _
      | true =>
        by_cases h1 : k1 = 0
        · have hd1 : ((k1.toNat : Int) != 0) = false := by rw [h1]; rfl
          have hv : (496 : Int) < v2 := by
            rcases hf with h | h | h
            · rw [hkn] at h; cases h
            · exact absurd h1 h
            · omega
          clear hf h1
          go_wp2
          refine bodyPost_ret (v := .tuple #[.agg #[.int .u8 0, .int .u64 0, .slice none 0 0], .int .i64 11]) (by simp [results, Try.results25, go_sem]) rfl ⟨.slice none 0 0, ?_, ?_, bel⟩
          · rw [(unhide HE).1, (unhide HE).2.1, (unhide HE).2.2.2]; rfl
          · rw [(unhide HE).2.2.1]; exact World.ownsRow_nil _ _ _ _
        · have hd1 : ((k1.toNat : Int) != 0) = true := by rw [bne, beq_byte]; simp [h1]
          clear hf h1
          go_wp2
          refine bodyPost_ret (v := .tuple #[.agg #[.int .u8 0, .int .u64 0, .slice none 0 0], .int .i64 11]) (by simp [results, Try.results25, go_sem]) rfl ⟨.slice none 0 0, ?_, ?_, bel⟩
          · rw [(unhide HE).1, (unhide HE).2.1, (unhide HE).2.2.2]; rfl
          · rw [(unhide HE).2.2.1]; exact World.ownsRow_nil _ _ _ _
    · rw [if_neg hf] at HO
      have hkn : knownB k0 = true := by cases h : knownB k0 <;> simp_all
      have hk1 : ((k1.toNat : Int) != 0) = false := by
        have : k1 = 0 := Decidable.byContradiction fun h => hf (Or.inr (Or.inl h))
        rw [this]; rfl
      have hv2 : v2 ≤ 496 := by omega
      have hv : ¬ (496 : Int) < v2 := by omega
      clear hf
      rw [hkn]
      have hv3 : (v2 : Int) ≤ 496 := by omega
      have HRT := hide ((Row.cut (unhide HB) (12 + v2) (508 - (12 + v2)) (cap - (12 + v2)) (by omega) (by omega) (by unfold maxLen at hm ⊢; omega)).below bel)
      have HRP := hide ((Row.cut (unhide HB) 12 v2 (cap - 12) (by omega) (by omega) (by unfold maxLen at hm ⊢; omega)).below bel)
      rw [show 496 - v2 = 508 - (12 + v2) by omega] at HO
      go_wp2_with fail
      refine (rzero_any _ _ _ (unhide HRT)).mono ?_
      rintro e w1 ⟨rfl, rfl⟩
      cases hza : ((b.drop (12 + v2)).take (508 - (12 + v2))).all (· == 0) with
      | false =>
        rw [hza, if_pos rfl] at HO
        clear HRT HRP
        go_wp2
        refine bodyPost_ret (v := .tuple #[.agg #[.int .u8 0, .int .u64 0, .slice none 0 0], .int .i64 11]) (by simp [results, Try.results25, go_sem]) rfl ⟨.slice none 0 0, ?_, ?_, bel⟩
        · rw [unhide HO]; rfl
        · rw [unhide HO]; exact World.ownsRow_nil _ _ _ _
      | true =>
        rw [hza, if_neg (show ¬ (true = false) by decide)] at HO
        clear HRT
        have HRD := hide ((unhide HRP).below ((Below.refl _ _).drew))
        have S1 : w.heap.size + 1 ≤ (w.alloc (.cells #[.int .u8 0, .int .u64 0, .slice none 0 0] 74)).drew.heap.size := by simp
        have hgl : g < w.heap.size := World.block_lt_of_cell? w _ (unhide HB 0 (by omega))
        have BD : Below (w.heap.size + 1) (w.alloc (.cells #[.int .u8 0, .int .u64 0, .slice none 0 0] 74)) (w.alloc (.cells #[.int .u8 0, .int .u64 0, .slice none 0 0] 74)).drew := (Below.refl _ _).drew
        obtain ⟨N, hN⟩ : ∃ N, N = 12 + v2 := ⟨_, rfl⟩
        have hw1 : IntKind.i64.wrap (v2 : Int) = (v2 : Int) := by rw [IntKind.wrap_i64]; omega
        have hw2 : IntKind.i64.wrap (12 + (v2 : Int)) = (N : Int) := by rw [IntKind.wrap_i64]; omega
        have hN1 : N ≤ cap := by omega
        have hN2 : 12 ≤ N := by omega
        have hN3 : N - 12 = v2 := by omega
        have hN4 : ¬ cap = 12 := by omega
        have hN5 : (12 : Int) ≤ N := by omega
        clear hN
        have hlp : ((b.drop 12).take v2).length = v2 := by simp; omega
        go_wp2_with fail
        generalize hpl : (b.drop 12).take v2 = pl at *
        have HPL := hide hpl
        clear hpl
        go_region_law (refine step_append_row rfl _ _ 31 rfl (w.heap.size + 1) 5 i0 (.int .u8 0) Try.underlying31 hi hz0 hz1 hz2 rfl _ 0 [] (by simp [Act.eval]) (World.ownsRow_nil _ _ _ _) _ pl (by simp [Act.eval, Act.put]) (unhide HRD) (by rw [hlp]; omega) S1 ?_; intro v' w' hown' hgrow'; have B' := BD.grown hgrow' S1 (fun k hk => by cases hk); have c0' := (B'.cell (show g < w.heap.size + 1 by omega)).trans c0; have hx' := three_cells ((B'.block w.heap.size (by omega)).trans (heap_alloc_new _ _)); obtain ⟨x1, x2, x3, x4, x5, x6⟩ := hx'; have O' : w'.ownsRow (w.heap.size + 1) 5 1 v' pl.length (pl.map B) := (by simpa using hown'); obtain ⟨pp, cc, ll, e', hll⟩ := (row_of_owns O').shape; have HO' := hide O'; have HB' := hide B'; clear hown' hgrow' O' B'; subst e')
        all_goals
          go_wp2
          refine bodyPost_ret (v := .tuple #[.agg #[.int .u8 (k0.toNat : Int), .int .u64 (v8 : Nat), .slice pp ll cc], .int .i64 0]) (by simp [results, Try.results25, go_sem, *]) rfl ⟨.slice pp ll cc, ?_, ?_, ?_⟩
          · rw [unhide HO]
          · rw [unhide HO]
            exact ownsRow_setCell_below (ownsRow_setCell_below (ownsRow_setCell_below (unhide HO') (by simp) _) (by simp) _) (by simp) _
          · exact (((bel.trans ((unhide HB').mono (by omega))).setCell (Nat.le_refl _) _).setCell (Nat.le_refl _) _).setCell (Nat.le_refl _) _
  · have hd : ((v4 : Int) != ((more 0 (b.take 508) : Nat) : Int)) = true := by rw [bne_iff_ne]; omega
    rw [if_pos (by simpa using hsum)] at HO
    clear hsum
    go_wp2
    refine bodyPost_ret (v := .tuple #[.agg #[.int .u8 0, .int .u64 0, .slice none 0 0], .int .i64 30]) (by simp [results, Try.results25, go_sem]) rfl ⟨.slice none 0 0, ?_, ?_, bel⟩
    · rw [unhide HO]; rfl
    · rw [unhide HO]; exact World.ownsRow_nil _ _ _ _

theorem sowns_base {w : World} {base base' e n : Nat} {v : Value} {xs : List Value} (h : w.ownsRow base e 1 v n xs) (hb : base' ≤ base) : w.ownsRow base' e 1 v n xs :=
  ⟨h.1, h.2.elim Or.inl (fun ⟨g, cap, cur, hv, hg, r⟩ => Or.inr ⟨g, cap, cur, hv, Nat.le_trans hb hg, r⟩)⟩

theorem ropen_any (s : Value) (b : List UInt8) (w : World) (hs : Row w s b) :
    Calls Try.prog 25 #[s] w fun e w' => ∃ t, e = .returned (.tuple #[.agg #[.int .u8 ((openR b).1.toNat : Int), .int .u64 ((openR b).2.1 : Nat), t], .int .i64 (openR b).2.2.2]) ∧ w'.ownsRow w.heap.size 5 1 t (openR b).2.2.1.length ((openR b).2.2.1.map B) ∧ Below w.heap.size w w' := by
  by_cases hl : b.length = 512
  · obtain ⟨g, off, cap, rfl, hc, hm, hcell⟩ := hs.open (by intro e; rw [e] at hl; simp at hl)
    rw [hl] at hs hc ⊢
    cases hz : b.all (· == 0) with
    | true =>
      have e : openR b = (0, 0, [], 0) := by unfold openR; rw [if_neg (by omega), hz, if_pos rfl]
      rw [e]
      refine (ropen_blank g off cap b w hs hz).mono ?_
      rintro e w' ⟨rfl, hb⟩
      exact ⟨_, rfl, World.ownsRow_nil _ _ _ _, hb⟩
    | false =>
      refine (ropen_good g off cap b w hs hl hc hz).mono ?_
      rintro e w' ⟨t, rfl, ho, hb⟩
      exact ⟨t, rfl, sowns_base ho (by omega), hb⟩
  · have e : openR b = (0, 0, [], 1) := by unfold openR; rw [if_pos hl]
    rw [e]
    refine (ropen_arg s b w hs hl).mono ?_
    rintro e w' ⟨rfl, hb⟩
    exact ⟨_, rfl, World.ownsRow_nil _ _ _ _, hb⟩
end Go.Proofs.Ytpkpjmebkikgdaa
