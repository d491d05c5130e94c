/- The walk of the law BatchFits, of the landed package batch. -/
import Derived.Test.YtehnjanllemnlaaG13
import Derived.Test.YtehnjanllemnlaaG33
import Derived.Test.YtehnjanllemnlaaG34
import Derived.Test.YtehnjanllemnlaaG35
import Derived.Test.YtehnjanllemnlaaG36
import Derived.Deep.CutBlock
import Derived.Deep.CutRange
namespace Go.Proofs.Ytehnjanllemnlaa
open Go.RowKit

/-- The record that is being made, with the row of its changes. -/
structure FT (w2 wr : World) (rb : Nat) (seq : Nat) (cv : Value) (cs : List Chg) : Prop where
  rec_ : wr.heap[rb]? = some (.cells #[.int .i64 1, .int .u64 (seq : Int), cv, .int .u64 0, .int .i64 0, .int .i64 0, .int .i64 0] 39 (0, 0))
  row : wr.ownsRow (rb + 1) 54 5 cv cs.length (cs.flatMap chgC)
  ge : w2.heap.size ≤ rb
  bel : Below w2.heap.size w2 wr
theorem FT.below {w2 wr w' : World} {rb seq : Nat} {cv : Value} {cs : List Chg} (h : FT w2 wr rb seq cv cs) (hb : Below wr.heap.size wr w') : FT w2 w' rb seq cv cs :=
  ⟨(hb.block _ (Array.getElem?_eq_some_iff.1 h.rec_).1).trans h.rec_, owns_below4 h.row hb, h.ge, h.bel.trans (hb.mono h.bel.size)⟩
/-- A change more. -/
theorem FT.push {w2 W w9 : World} {rb seq : Nat} {cv cv' : Value} {cs : List Chg} {c : Chg} (h : FT w2 W rb seq cv cs) (hown : w9.ownsRow (rb + 1) 54 5 cv' (cs.length + 1) (cs.flatMap chgC ++ chgC c)) (hg : W.grownBy w9 cv.ownBlock) :
    FT w2 (w9.setCell ⟨rb, 2, none⟩ cv') rb seq cv' (cs ++ [c]) := by
  have hne : cv.ownBlock ≠ some rb := fun e => by have := (h.row.lt rb e).1; omega
  have hne' : ∀ k, cv'.ownBlock = some k → k ≠ rb := fun k e => by have := (hown.lt k e).1; omega
  have hr9 := (hg.block rb (Array.getElem?_eq_some_iff.1 h.rec_).1 (fun e => hne e.symm)).trans h.rec_
  refine ⟨?_, ?_, h.ge, ?_⟩
  · have := heap_setCell_same w9 rb 2 _ _ cv' hr9
    simpa using this
  · have hk : Keep (fun k => k = rb) w9 (w9.setCell ⟨rb, 2, none⟩ cv') := keep_set5
    have h2 := hown
    rw [List.length_append, List.flatMap_append]
    simp only [List.flatMap_cons, List.flatMap_nil, List.append_nil, List.length_cons, List.length_nil]
    refine ⟨h2.1, ?_⟩
    rcases h2.2 with h3 | ⟨g, cap, cur, hv, hgb, hh, r⟩
    · exact Or.inl h3
    · exact Or.inr ⟨g, cap, cur, hv, hgb, (hk.block g (Array.getElem?_eq_some_iff.1 hh).1 (fun e => by omega)).trans hh, r⟩
  · exact (h.bel.grown hg h.bel.size (fun k hk => by have := (h.row.lt k hk).1; have := h.ge; omega)).setCell h.ge _

theorem var_set {w : World} {vb T : Nat} {a b c d e : Value} (h : w.heap[vb]? = some (.cells #[a, b, c, d, e] T (0, 0))) (b' c' d' : Value) :
    (((w.setCell ⟨vb, 1, none⟩ b').setCell ⟨vb, 2, none⟩ c').setCell ⟨vb, 3, none⟩ d').heap[vb]? = some (.cells #[a, b', c', d', e] T (0, 0)) := by
  have h1 := heap_setCell_same w vb 1 _ _ b' h
  have h2 := heap_setCell_same _ vb 2 _ _ c' h1
  have h3 := heap_setCell_same _ vb 3 _ _ d' h2
  simpa using h3

set_option maxRecDepth 20000 in
set_option maxHeartbeats 4000000 in
theorem bfits_any (v rv : Value) (L : List El) (rs : List Rf) (seq : Nat) (w : World) (h : EL 3 opC w v L) (hr : RefL w rv rs) (hv : ∀ x ∈ L, x.2.length ≤ 140737488351232) (hks : ∀ x ∈ L, x.1.key.size ≤ 140737488351232) (hroom : L.length * 48 ≤ 140737488355328) (hs : seq < 18446744073709551616) :
    Calls Try.prog 6 #[v, .int .u64 (seq : Int), rv] w fun e w' => e = .returned (.bool true) ∧ Below w.heap.size w w' := by
  have HCK : Hid (∀ W, Below w.heap.size w W → Calls Try.prog 10 #[v] W fun e w' => e = .returned (.int .i64 (chkE (dat L))) ∧ Below W.heap.size W w') := fun W hb => bcheck_any v L W (h.below hb) hks
  have HLS := hide (fun W hb => blast_any v L W (h.below hb) hroom hv)
  have HRF : Hid (∀ W, Below w.heap.size w W → RefL W rv rs) := fun W hb => hr.below hb
  obtain ⟨p1, c1, rfl, _⟩ := h.shape
  obtain ⟨p2, c2, rfl, _, hrmx, _⟩ := hr.1.shape
  unfold maxLen at hrmx
  have hrl0 : (rs.length : Int) ≤ 9223372036854775807 := by omega
  obtain ⟨i0, hi, hz0, hz1, hz2⟩ := info_parts Try.info54
  clear hrmx
  generalize hE : chkE (dat L) = E at *
  have HE := hide hE
  have HSQ := hide hs
  clear h hr hv hks hroom hE
  by_cases hE0 : E = 0
  · subst hE0
    by_cases hs1 : (seq : Int) < 1
    · go_enter Try.func6, Try.ntmps6
      go_wp2_with fail
      refine Calls.mono (bawake_any _) ?_
      rintro e w2 ⟨rfl, hb2⟩
      have HB2 := hide hb2
      clear hb2
      go_wp2_with fail
      refine Calls.mono (unhide HCK _ (unhide HB2)) ?_
      rintro e w3 ⟨rfl, hb3⟩
      have HB3 := hide ((unhide HB2).trans (hb3.mono (unhide HB2).size))
      clear hb3
      go_wp2_with fail
      refine Calls.mono (bawake_any _) ?_
      rintro e w4 ⟨rfl, hb4⟩
      have HB4 := hide ((unhide HB3).trans (hb4.mono (unhide HB3).size))
      clear hb4
      go_wp2
      go_ret
      exact ⟨rfl, unhide HB4⟩
    · have hsd : decide ((seq : Int) < 1) = false := decide_eq_false hs1
      have HS1 := hide hs1
      clear hs1
      go_enter Try.func6, Try.ntmps6
      go_wp2_with fail
      refine Calls.mono (bawake_any _) ?_
      rintro e w2 ⟨rfl, hb2⟩
      have HB2 := hide hb2
      clear hb2
      go_wp2_with fail
      refine Calls.mono (unhide HCK _ (unhide HB2)) ?_
      rintro e w3 ⟨rfl, hb3⟩
      have HB3 := hide ((unhide HB2).trans (hb3.mono (unhide HB2).size))
      clear hb3
      go_wp2_with fail
      refine Calls.mono (unhide HLS _ (unhide HB3)) ?_
      rintro e w4 ⟨vl, Ll, rfl, hdl, hll, hool, hb4⟩
      obtain ⟨pl, cl, rfl⟩ := hool.1.shape
      have hell := hool.1.el opC_len
      have hb4w := (unhide HB3).trans (hb4.mono (unhide HB3).size)
      obtain ⟨ob, hob⟩ : ∃ ob, ob = Obj.cells #[.int .i64 1, .int .u64 (seq : Int), .slice none 0 0, .int .u64 0, .int .i64 0, .int .i64 0, .int .i64 0] 39 := ⟨_, rfl⟩
      have hft : FT w4 (w4.alloc ob) w4.heap.size seq (.slice none 0 0) [] := by
        rw [hob]
        exact ⟨heap_alloc_new _ _, World.ownsRow_nil _ _ _ _, Nat.le_refl _, (Below.refl _ _).alloc (Nat.le_refl _) _⟩
      rw [hob] at hft
      have HFT := hide hft
      have HEL : Hid (∀ W, Below w4.heap.size w4 W → EL 3 opC W (.slice pl Ll.length cl) Ll) := fun W hb => hell.below hb
      have HB4 := hide hb4w
      have HD := hide (And.intro hdl hll)
      obtain ⟨ll, hlle⟩ : ∃ ll, ll = Ll.length := ⟨_, rfl⟩
      have HLE := hide hlle
      rw [← hlle] at HEL ⊢
      have hll0 : (ll : Int) ≤ 32 := by
        have hc := unhide HE
        unfold chkE at hc
        rw [dat_len] at hc
        split at hc
        · omega
        · split at hc
          · omega
          · split at hc
            · omega
            · omega
      clear hdl hll hool hb4 hell hb4w hft hob hlle HLS HCK HB3 HB2
      go_wp2
      go_loopw [9] (fun ii wr => ∃ (i : Nat) (cv : Value) (cs : List Chg), i ≤ ll ∧ ii = .int .i64 i ∧ cs.length = i ∧ Hid (FT w4 wr w4.heap.size seq cv cs ∧ ∀ (j : Nat) (c : Chg) (d : Dat), cs[j]? = some c → (dat Ll)[j]? = some d → FitC c d)) (fun ii _ => ll - (intOf ii).toNat)
      case atStart => exact ⟨0, _, [], Nat.zero_le _, rfl, rfl, unhide HFT, fun j c d hc => by simp at hc⟩
      case round =>
        obtain ⟨i, cv, cs, hil, rfl, hcs, hst⟩ := hrel
        clear HFT
        obtain ⟨hft, hfit⟩ := unhide hst
        by_cases hlt : (i : Int) < (ll : Int)
        · have hlle := unhide HLE
          have i1 : i < Ll.length := by omega
          have hell := unhide HEL w4 (Below.refl _ _)
          rw [hlle] at hell
          obtain ⟨bl, ol, cl', e1, _, _, hsl⟩ := hell.seen (by omega)
          simp only [Value.slice.injEq] at e1
          obtain ⟨rfl, _, rfl⟩ := e1
          have HSL : Hid (∀ W, Below w4.heap.size w4 W → W.cell? ⟨bl, ol + i * 3, none⟩ = some (.string Ll[i].1.key) ∧ W.cell? ⟨bl, ol + i * 3 + 1, none⟩ = some (vof Ll[i].1) ∧ W.cell? ⟨bl, ol + i * 3 + 2, none⟩ = some (.bool Ll[i].1.del)) := fun W hW => ⟨(hsl i i1 W hW).1, (hsl i i1 W hW).2.1, (hsl i i1 W hW).2.2.1⟩
          have hrn := row_n (hsl i i1 w4 (Below.refl _ _)).2.2.2
          have hdi : (dat Ll)[i]? = some (datOf Ll[i]) := by rw [List.getElem?_eq_getElem (by rw [dat_len]; exact i1), dat_at Ll i i1]
          have hlen : Ll[i].2.length ≤ 4096 := by
            have hm : datOf Ll[i] ∈ dat Ll := List.mem_of_getElem? hdi
            rw [(unhide HD).1] at hm
            obtain ⟨t, ht, _⟩ := ((lastD_all (dat L)).2 _).1 hm
            have hm2 := List.mem_of_getElem? ht
            have hc := unhide HE
            unfold chkE at hc
            split at hc
            · omega
            · split at hc
              · omega
              · split at hc
                · omega
                · split at hc
                  · omega
                  · rename_i h4
                    rcases Nat.lt_or_ge 4096 Ll[i].2.length with g | g
                    · exact absurd (List.any_eq_true.2 ⟨_, hm2, decide_eq_true g⟩) h4
                    · exact g
          obtain ⟨hs1, hs2, hs3⟩ := unhide HSL wr hft.bel
          have hal : ∀ o, (wr.alloc o).cell? ⟨bl, ol + i * 3, none⟩ = some (.string Ll[i].1.key) ∧ (wr.alloc o).cell? ⟨bl, ol + i * 3 + 2, none⟩ = some (.bool Ll[i].1.del) := fun o => by
            obtain ⟨q1, _, q3⟩ := unhide HSL (wr.alloc o) (hft.bel.alloc hft.bel.size _)
            exact ⟨q1, q3⟩
          generalize Ll[i] = x at *
          obtain ⟨⟨xk, xp, xn, xc, xd⟩, xv⟩ := x
          unfold vof at *
          simp only at *
          obtain ⟨rn, _⟩ := hrn
          subst rn
          have HA := hide (And.intro hft (And.intro hfit (And.intro hcs (And.intro hdi hlen))))
          clear hft hfit hcs hdi hlen hlle hell hsl i1 hst
          cases xd with
          | true =>
            obtain ⟨W8, hW8⟩ : ∃ W8, W8 = (wr.alloc (.cells #[.string xk, .int .u64 0, .int .i64 0, .int .i64 0, .bool true] 54)).drew := ⟨_, rfl⟩
            have hb8 : Below wr.heap.size wr W8 := by rw [hW8]; exact ((Below.refl _ _).alloc (Nat.le_refl _) _).drew
            have hv8 : W8.heap[wr.heap.size]? = some (.cells #[.string xk, .int .u64 0, .int .i64 0, .int .i64 0, .bool true] 54 (0, 0)) := by rw [hW8]; exact heap_alloc_new _ _
            have HW8 := hide hW8
            have HB8 := hide hb8
            have HV8 := hide hv8
            clear hW8 hb8 hv8
            go_wp2_with fail
            go_region
            rw [← unhide HW8]
            clear hal
            have hvc := unhide HV8
            have hbc := unhide HB8
            obtain ⟨Wc, hWc⟩ : ∃ Wc, Hid (Wc = W8) := ⟨_, rfl⟩
            rw [← unhide hWc] at hvc hbc ⊢
            have HFIT : Hid (FitC (⟨xk, 0, 0, 0, true⟩ : Chg) (datOf (⟨xk, xp, xv.length, xc, true⟩, xv))) := ⟨rfl, rfl, fun _ => ⟨rfl, rfl, rfl⟩, fun h => (by cases h), (by simp)⟩
            -- Wc: the world; hvc: its variable; hbc: since the round began; HFIT: the change fits
            obtain ⟨u0, u1, u2, u3, u4, _⟩ := five_cells hvc
            have hftc := (unhide HA).1.below hbc
            have r2 := (seven_cells hftc.rec_).2.2.1
            have hrw := hftc.row
            have hcs := (unhide HA).2.2.1
            rw [hcs] at hrw
            obtain ⟨cp, cc, hcv⟩ : ∃ cp cc, cv = .slice cp i cc := by
              rcases hrw.2 with ⟨e, h0⟩ | ⟨g', cap', cur, e, _⟩
              · exact ⟨none, 0, by rw [e, h0]⟩
              · exact ⟨_, _, e⟩
            rw [hcv] at r2 hrw
            have HCV := hide hcv
            have hba : Below Wc.heap.size Wc (Wc.alloc (.cells #[.string xk, .int .u64 0, .int .i64 0, .int .i64 0, .bool true] 54)) := (Below.refl _ _).alloc (Nat.le_refl _) _
            have how := owns_below4 hrw hba
            have hn9 : (Wc.alloc (.cells #[.string xk, .int .u64 0, .int .i64 0, .int .i64 0, .bool true] 54)).heap[Wc.heap.size]? = some (.cells #[.string xk, .int .u64 0, .int .i64 0, .int .i64 0, .bool true] 54 (0, 0)) := heap_alloc_new _ _
            have hc9 : ∀ q u, (chgC (⟨xk, 0, 0, 0, true⟩ : Chg))[q]? = some u → (Wc.alloc (.cells #[.string xk, .int .u64 0, .int .i64 0, .int .i64 0, .bool true] 54)).cell? ((⟨Wc.heap.size, 0, none⟩ : Addr).add q) = some u := by
              intro q u hq
              rw [Addr.add_lit, Nat.zero_add, cell_of_row _ Wc.heap.size q _ _ (0, 0) hn9]
              simpa [chgC] using hq
            have hs9 : w4.heap.size + 1 ≤ (Wc.alloc (.cells #[.string xk, .int .u64 0, .int .i64 0, .int .i64 0, .bool true] 54)).heap.size := by
              have h1 := (Array.getElem?_eq_some_iff.1 hftc.rec_).1
              simp
              omega
            have HFC := hide (hftc.below hba)
            have HC1 : Hid (i + 1 ≤ maxLen ∧ (i + 1) * 48 ≤ 140737488355328) := by unfold Hid maxLen; omega
            clear hftc hrw hba hn9 hbc hvc hcs hcv
            go_wp2_with (at_builtin; refine wpList_append_gen rfl _ _ 35 rfl (w4.heap.size + 1) 54 i0 (.agg #[.string ⟨#[]⟩, .int .u64 0, .int .i64 0, .int .i64 0, .bool false]) Try.underlying35 hi hz0 5 48 (by omega) hz1 hz2 rfl (.slice cp i cc) i (cs.flatMap chgC) rfl how ⟨Wc.heap.size, 0, none⟩ 1 1 (chgC (⟨xk, 0, 0, 0, true⟩ : Chg)) rfl rfl hc9 (by intro u hu; simp [chgC] at hu; rcases hu with rfl | rfl | rfl | rfl | rfl <;> rfl) (unhide HC1).1 (unhide HC1).2 hs9 ?_)
            intro v9 w9 hown9 hgrow9 _
            have hnr : (Value.slice cp i cc).ownBlock ≠ some w4.heap.size := fun e => by have := (how.lt _ e).1; omega
            have hr9 := (hgrow9.block w4.heap.size (Array.getElem?_eq_some_iff.1 (unhide HFC).rec_).1 (fun e => hnr e.symm)).trans (unhide HFC).rec_
            have hf9 : w9.frozen? ⟨w4.heap.size, 2, none⟩ = false := frozen_of_block hr9
            have hq9 := (seven_cells hr9).2.2.1
            have HP : Hid (FT w4 (w9.setCell ⟨w4.heap.size, 2, none⟩ v9) w4.heap.size seq v9 (cs ++ [(⟨xk, 0, 0, 0, true⟩ : Chg)])) := by
              have hcs := (unhide HA).2.2.1
              refine (unhide HFC).push (by rw [hcs]; exact hown9) ?_
              rw [unhide HCV]
              exact hgrow9
            have hsh : ∃ g2 cap2, v9 = .slice (some ⟨g2, 0, none⟩) (i + 1) cap2 := by
              rcases hown9.2 with ⟨_, hz9⟩ | ⟨g2, cap2, cur2, e2, _⟩
              · exact absurd hz9 (by omega)
              · exact ⟨g2, cap2, e2⟩
            obtain ⟨g2, cap2, rfl⟩ := hsh
            clear hown9 hgrow9 hr9 hnr how hc9 hs9
            go_wp2
            obtain ⟨_, hfit, hcs, hdi, _⟩ := unhide HA
            go_roundw
            case rel =>
              refine ⟨i + 1, _, cs ++ [(⟨xk, 0, 0, 0, true⟩ : Chg)], by omega, by go_num, by rw [List.length_append, hcs]; rfl, unhide HP, ?_⟩
              intro j c d hc hd
              rw [List.getElem?_append] at hc
              split at hc
              · exact hfit j c d hc hd
              · rename_i hj
                obtain ⟨hq, e⟩ := List.getElem?_eq_some_iff.1 hc
                simp only [List.length_cons, List.length_nil] at hq
                have hji : j = i := by omega
                subst hji
                rw [hdi, Option.some.injEq] at hd
                have : j - cs.length = 0 := by omega
                simp only [this, List.getElem_cons_zero] at e
                rw [← e, ← hd]
                exact unhide HFIT
            case measure => simp [intOf]; omega
          | false =>
            obtain ⟨W8, hW8⟩ : ∃ W8, W8 = (wr.alloc (.cells #[.string xk, .int .u64 0, .int .i64 0, .int .i64 0, .bool false] 54)).drew := ⟨_, rfl⟩
            have hb8 : Below wr.heap.size wr W8 := by rw [hW8]; exact ((Below.refl _ _).alloc (Nat.le_refl _) _).drew
            have hv8 : W8.heap[wr.heap.size]? = some (.cells #[.string xk, .int .u64 0, .int .i64 0, .int .i64 0, .bool false] 54 (0, 0)) := by rw [hW8]; exact heap_alloc_new _ _
            have HW8 := hide hW8
            have HB8 := hide hb8
            have HV8 := hide hv8
            clear hW8 hb8 hv8
            go_wp2_with fail
            go_region
            rw [← unhide HW8]
            clear hal
            have hb8 := unhide HB8
            obtain ⟨k0, k1, k2, k3, k4, kf⟩ := five_cells (unhide HV8)
            have kf1 := kf 1
            have kf2 := kf 2
            have kf3 := kf 3
            obtain ⟨s1, s2, s3⟩ := unhide HSL W8 ((unhide HA).1.bel.trans (hb8.mono (unhide HA).1.bel.size))
            obtain ⟨N, hN⟩ : ∃ N : Nat, N = xv.length := ⟨_, rfl⟩
            rw [← hN] at s2
            have HN : Hid (N ≤ 4096) := by have := (unhide HA).2.2.2.2; unfold Hid; omega
            have HFIT : Hid (FitC (⟨xk, 18446744073709551615, 65536, (N : Int), false⟩ : Chg) (datOf (⟨xk, xp, xv.length, xc, false⟩, xv))) := by
              have := unhide HN
              refine ⟨rfl, rfl, fun h => (by cases h), fun _ => ?_, (by simp)⟩
              unfold mayRef
              simp
              omega
            obtain ⟨W10, hW10⟩ : ∃ W10, W10 = ((W8.setCell ⟨wr.heap.size, 1, none⟩ (.int .u64 18446744073709551615)).setCell ⟨wr.heap.size, 2, none⟩ (.int .i64 65536)).setCell ⟨wr.heap.size, 3, none⟩ (.int .i64 (N : Int)) := ⟨_, rfl⟩
            have hb10 : Below wr.heap.size wr W10 := by rw [hW10]; exact ((hb8.setCell (Nat.le_refl _) _).setCell (Nat.le_refl _) _).setCell (Nat.le_refl _) _
            have hv10 : W10.heap[wr.heap.size]? = some (.cells #[.string xk, .int .u64 18446744073709551615, .int .i64 65536, .int .i64 (N : Int), .bool false] 54 (0, 0)) := by rw [hW10]; exact var_set (unhide HV8) _ _ _
            have HW10 := hide hW10
            have HB10 := hide hb10
            have HV10 := hide hv10
            have hNI : (N : Int) ≤ 4096 := by have := unhide HN; omega
            clear hb8 hW10 hb10 hv10 kf hN
            by_cases hir : (i : Int) < (rs.length : Int)
            · have hrl := unhide HRF W10 ((unhide HB4).trans (((unhide HA).1.bel.trans ((unhide HB10).mono (unhide HA).1.bel.size)).mono (unhide HB4).size))
              have i2 : i < rs.length := by omega
              obtain ⟨rb2, ro2, rc2, re2, _, _, hrc⟩ := hrl.open (by omega)
              simp only [Value.slice.injEq] at re2
              obtain ⟨rfl, _, rfl⟩ := re2
              obtain ⟨t1, t2, t3⟩ := hrc i i2
              have hr64 := hrl.2 _ (List.getElem_mem i2)
              have hmr := rmayref_any rs[i].1 rs[i].2.1 rs[i].2.2 W10
              generalize rs[i] = r at *
              obtain ⟨rs1, rs2, rs3⟩ := r
              simp only at t1 t2 t3 hr64 hmr
              have hmb : mayRef rs1 rs2 rs3 = true ∨ mayRef rs1 rs2 rs3 = false := by cases mayRef rs1 rs2 rs3 <;> simp
              have HMR := hide hmr
              have HR64 := hide hr64
              have HT := hide (And.intro t1 (And.intro t2 t3))
              rw [unhide HW10] at t1 t2 t3
              clear hrl hrc hr64 hmr i2
              rcases hmb with hmb | hmb
              · rw [hmb] at HMR
                have HMB := hide hmb
                clear hmb
                go_wp2_with fail
                rw [← unhide HW10]
                refine Calls.mono (unhide HMR) ?_
                rintro e w11 ⟨rfl, hb11⟩
                have hv11 := (hb11.block _ (Array.getElem?_eq_some_iff.1 (unhide HV10)).1).trans (unhide HV10)
                have hbc0 := (unhide HB10).trans (hb11.mono (unhide HB10).size)
                obtain ⟨q0, q1, q2, q3, q4, qf⟩ := five_cells hv11
                have qf1 := qf 1
                have qf2 := qf 2
                have qf3 := qf 3
                obtain ⟨t1', t2', t3'⟩ := unhide HT
                have y1 := (hb11.cell (World.block_lt_of_cell? _ _ t1')).trans t1'
                have y2 := (hb11.cell (World.block_lt_of_cell? _ _ t2')).trans t2'
                have y3 := (hb11.cell (World.block_lt_of_cell? _ _ t3')).trans t3'
                obtain ⟨Wc, hWc⟩ : ∃ Wc, Wc = ((w11.setCell ⟨wr.heap.size, 1, none⟩ (.int .u64 (rs1 : Int))).setCell ⟨wr.heap.size, 2, none⟩ (.int .i64 rs2)).setCell ⟨wr.heap.size, 3, none⟩ (.int .i64 rs3) := ⟨_, rfl⟩
                have hbc : Below wr.heap.size wr Wc := by rw [hWc]; exact ((hbc0.setCell (Nat.le_refl _) _).setCell (Nat.le_refl _) _).setCell (Nat.le_refl _) _
                have hvc : Wc.heap[wr.heap.size]? = some (.cells #[.string xk, .int .u64 (rs1 : Int), .int .i64 rs2, .int .i64 rs3, .bool false] 54 (0, 0)) := by rw [hWc]; exact var_set hv11 _ _ _
                have HFIT2 : Hid (FitC (⟨xk, rs1, rs2, rs3, false⟩ : Chg) (datOf (⟨xk, xp, xv.length, xc, false⟩, xv))) := ⟨rfl, rfl, fun h => (by cases h), fun _ => unhide HMB, unhide HR64⟩
                clear HFIT
                have HFIT := HFIT2
                have HWc := hide hWc
                clear hWc hbc0 hv11 hb11 t1 t2 t3 t1' t2' t3' qf HFIT2
                have hrz := hide (And.intro hvc hbc)
                clear hvc hbc
                go_upto_region 13 with fail
                rw [← unhide HWc]
                obtain ⟨hvc, hbc⟩ := unhide hrz
                clear hrz HWc q0 q1 q2 q3 q4 qf1 qf2 qf3 y1 y2 y3
                -- Wc: the world; hvc: its variable; hbc: since the round began; HFIT: the change fits
                obtain ⟨u0, u1, u2, u3, u4, _⟩ := five_cells hvc
                have hftc := (unhide HA).1.below hbc
                have r2 := (seven_cells hftc.rec_).2.2.1
                have hrw := hftc.row
                have hcs := (unhide HA).2.2.1
                rw [hcs] at hrw
                obtain ⟨cp, cc, hcv⟩ : ∃ cp cc, cv = .slice cp i cc := by
                  rcases hrw.2 with ⟨e, h0⟩ | ⟨g', cap', cur, e, _⟩
                  · exact ⟨none, 0, by rw [e, h0]⟩
                  · exact ⟨_, _, e⟩
                rw [hcv] at r2 hrw
                have HCV := hide hcv
                have hba : Below Wc.heap.size Wc (Wc.alloc (.cells #[.string xk, .int .u64 (rs1 : Int), .int .i64 rs2, .int .i64 rs3, .bool false] 54)) := (Below.refl _ _).alloc (Nat.le_refl _) _
                have how := owns_below4 hrw hba
                have hn9 : (Wc.alloc (.cells #[.string xk, .int .u64 (rs1 : Int), .int .i64 rs2, .int .i64 rs3, .bool false] 54)).heap[Wc.heap.size]? = some (.cells #[.string xk, .int .u64 (rs1 : Int), .int .i64 rs2, .int .i64 rs3, .bool false] 54 (0, 0)) := heap_alloc_new _ _
                have hc9 : ∀ q u, (chgC (⟨xk, rs1, rs2, rs3, false⟩ : Chg))[q]? = some u → (Wc.alloc (.cells #[.string xk, .int .u64 (rs1 : Int), .int .i64 rs2, .int .i64 rs3, .bool false] 54)).cell? ((⟨Wc.heap.size, 0, none⟩ : Addr).add q) = some u := by
                  intro q u hq
                  rw [Addr.add_lit, Nat.zero_add, cell_of_row _ Wc.heap.size q _ _ (0, 0) hn9]
                  simpa [chgC] using hq
                have hs9 : w4.heap.size + 1 ≤ (Wc.alloc (.cells #[.string xk, .int .u64 (rs1 : Int), .int .i64 rs2, .int .i64 rs3, .bool false] 54)).heap.size := by
                  have h1 := (Array.getElem?_eq_some_iff.1 hftc.rec_).1
                  simp
                  omega
                have HFC := hide (hftc.below hba)
                have HC1 : Hid (i + 1 ≤ maxLen ∧ (i + 1) * 48 ≤ 140737488355328) := by unfold Hid maxLen; omega
                clear hftc hrw hba hn9 hbc hvc hcs hcv
                go_wp2_with (at_builtin; refine wpList_append_gen rfl _ _ 35 rfl (w4.heap.size + 1) 54 i0 (.agg #[.string ⟨#[]⟩, .int .u64 0, .int .i64 0, .int .i64 0, .bool false]) Try.underlying35 hi hz0 5 48 (by omega) hz1 hz2 rfl (.slice cp i cc) i (cs.flatMap chgC) rfl how ⟨Wc.heap.size, 0, none⟩ 1 1 (chgC (⟨xk, rs1, rs2, rs3, false⟩ : Chg)) rfl rfl hc9 (by intro u hu; simp [chgC] at hu; rcases hu with rfl | rfl | rfl | rfl | rfl <;> rfl) (unhide HC1).1 (unhide HC1).2 hs9 ?_)
                intro v9 w9 hown9 hgrow9 _
                have hnr : (Value.slice cp i cc).ownBlock ≠ some w4.heap.size := fun e => by have := (how.lt _ e).1; omega
                have hr9 := (hgrow9.block w4.heap.size (Array.getElem?_eq_some_iff.1 (unhide HFC).rec_).1 (fun e => hnr e.symm)).trans (unhide HFC).rec_
                have hf9 : w9.frozen? ⟨w4.heap.size, 2, none⟩ = false := frozen_of_block hr9
                have hq9 := (seven_cells hr9).2.2.1
                have HP : Hid (FT w4 (w9.setCell ⟨w4.heap.size, 2, none⟩ v9) w4.heap.size seq v9 (cs ++ [(⟨xk, rs1, rs2, rs3, false⟩ : Chg)])) := by
                  have hcs := (unhide HA).2.2.1
                  refine (unhide HFC).push (by rw [hcs]; exact hown9) ?_
                  rw [unhide HCV]
                  exact hgrow9
                have hsh : ∃ g2 cap2, v9 = .slice (some ⟨g2, 0, none⟩) (i + 1) cap2 := by
                  rcases hown9.2 with ⟨_, hz9⟩ | ⟨g2, cap2, cur2, e2, _⟩
                  · exact absurd hz9 (by omega)
                  · exact ⟨g2, cap2, e2⟩
                obtain ⟨g2, cap2, rfl⟩ := hsh
                clear hown9 hgrow9 hr9 hnr how hc9 hs9
                go_wp2
                obtain ⟨_, hfit, hcs, hdi, _⟩ := unhide HA
                go_roundw
                case rel =>
                  refine ⟨i + 1, _, cs ++ [(⟨xk, rs1, rs2, rs3, false⟩ : Chg)], by omega, by go_num, by rw [List.length_append, hcs]; rfl, unhide HP, ?_⟩
                  intro j c d hc hd
                  rw [List.getElem?_append] at hc
                  split at hc
                  · exact hfit j c d hc hd
                  · rename_i hj
                    obtain ⟨hq, e⟩ := List.getElem?_eq_some_iff.1 hc
                    simp only [List.length_cons, List.length_nil] at hq
                    have hji : j = i := by omega
                    subst hji
                    rw [hdi, Option.some.injEq] at hd
                    have : j - cs.length = 0 := by omega
                    simp only [this, List.getElem_cons_zero] at e
                    rw [← e, ← hd]
                    exact unhide HFIT
                case measure => simp [intOf]; omega

              · rw [hmb] at HMR
                clear hmb
                go_wp2_with fail
                rw [← unhide HW10]
                refine Calls.mono (unhide HMR) ?_
                rintro e Wc ⟨rfl, hb11⟩
                have hvc := (hb11.block _ (Array.getElem?_eq_some_iff.1 (unhide HV10)).1).trans (unhide HV10)
                have hbc := (unhide HB10).trans (hb11.mono (unhide HB10).size)
                clear hb11 t1 t2 t3 HMR HT
                -- Wc: the world; hvc: its variable; hbc: since the round began; HFIT: the change fits
                obtain ⟨u0, u1, u2, u3, u4, _⟩ := five_cells hvc
                have hftc := (unhide HA).1.below hbc
                have r2 := (seven_cells hftc.rec_).2.2.1
                have hrw := hftc.row
                have hcs := (unhide HA).2.2.1
                rw [hcs] at hrw
                obtain ⟨cp, cc, hcv⟩ : ∃ cp cc, cv = .slice cp i cc := by
                  rcases hrw.2 with ⟨e, h0⟩ | ⟨g', cap', cur, e, _⟩
                  · exact ⟨none, 0, by rw [e, h0]⟩
                  · exact ⟨_, _, e⟩
                rw [hcv] at r2 hrw
                have HCV := hide hcv
                have hba : Below Wc.heap.size Wc (Wc.alloc (.cells #[.string xk, .int .u64 18446744073709551615, .int .i64 65536, .int .i64 (N : Int), .bool false] 54)) := (Below.refl _ _).alloc (Nat.le_refl _) _
                have how := owns_below4 hrw hba
                have hn9 : (Wc.alloc (.cells #[.string xk, .int .u64 18446744073709551615, .int .i64 65536, .int .i64 (N : Int), .bool false] 54)).heap[Wc.heap.size]? = some (.cells #[.string xk, .int .u64 18446744073709551615, .int .i64 65536, .int .i64 (N : Int), .bool false] 54 (0, 0)) := heap_alloc_new _ _
                have hc9 : ∀ q u, (chgC (⟨xk, 18446744073709551615, 65536, (N : Int), false⟩ : Chg))[q]? = some u → (Wc.alloc (.cells #[.string xk, .int .u64 18446744073709551615, .int .i64 65536, .int .i64 (N : Int), .bool false] 54)).cell? ((⟨Wc.heap.size, 0, none⟩ : Addr).add q) = some u := by
                  intro q u hq
                  rw [Addr.add_lit, Nat.zero_add, cell_of_row _ Wc.heap.size q _ _ (0, 0) hn9]
                  simpa [chgC] using hq
                have hs9 : w4.heap.size + 1 ≤ (Wc.alloc (.cells #[.string xk, .int .u64 18446744073709551615, .int .i64 65536, .int .i64 (N : Int), .bool false] 54)).heap.size := by
                  have h1 := (Array.getElem?_eq_some_iff.1 hftc.rec_).1
                  simp
                  omega
                have HFC := hide (hftc.below hba)
                have HC1 : Hid (i + 1 ≤ maxLen ∧ (i + 1) * 48 ≤ 140737488355328) := by unfold Hid maxLen; omega
                clear hftc hrw hba hn9 hbc hvc hcs hcv
                go_wp2_with (at_builtin; refine wpList_append_gen rfl _ _ 35 rfl (w4.heap.size + 1) 54 i0 (.agg #[.string ⟨#[]⟩, .int .u64 0, .int .i64 0, .int .i64 0, .bool false]) Try.underlying35 hi hz0 5 48 (by omega) hz1 hz2 rfl (.slice cp i cc) i (cs.flatMap chgC) rfl how ⟨Wc.heap.size, 0, none⟩ 1 1 (chgC (⟨xk, 18446744073709551615, 65536, (N : Int), false⟩ : Chg)) rfl rfl hc9 (by intro u hu; simp [chgC] at hu; rcases hu with rfl | rfl | rfl | rfl | rfl <;> rfl) (unhide HC1).1 (unhide HC1).2 hs9 ?_)
                intro v9 w9 hown9 hgrow9 _
                have hnr : (Value.slice cp i cc).ownBlock ≠ some w4.heap.size := fun e => by have := (how.lt _ e).1; omega
                have hr9 := (hgrow9.block w4.heap.size (Array.getElem?_eq_some_iff.1 (unhide HFC).rec_).1 (fun e => hnr e.symm)).trans (unhide HFC).rec_
                have hf9 : w9.frozen? ⟨w4.heap.size, 2, none⟩ = false := frozen_of_block hr9
                have hq9 := (seven_cells hr9).2.2.1
                have HP : Hid (FT w4 (w9.setCell ⟨w4.heap.size, 2, none⟩ v9) w4.heap.size seq v9 (cs ++ [(⟨xk, 18446744073709551615, 65536, (N : Int), false⟩ : Chg)])) := by
                  have hcs := (unhide HA).2.2.1
                  refine (unhide HFC).push (by rw [hcs]; exact hown9) ?_
                  rw [unhide HCV]
                  exact hgrow9
                have hsh : ∃ g2 cap2, v9 = .slice (some ⟨g2, 0, none⟩) (i + 1) cap2 := by
                  rcases hown9.2 with ⟨_, hz9⟩ | ⟨g2, cap2, cur2, e2, _⟩
                  · exact absurd hz9 (by omega)
                  · exact ⟨g2, cap2, e2⟩
                obtain ⟨g2, cap2, rfl⟩ := hsh
                clear hown9 hgrow9 hr9 hnr how hc9 hs9
                go_wp2
                obtain ⟨_, hfit, hcs, hdi, _⟩ := unhide HA
                go_roundw
                case rel =>
                  refine ⟨i + 1, _, cs ++ [(⟨xk, 18446744073709551615, 65536, (N : Int), false⟩ : Chg)], by omega, by go_num, by rw [List.length_append, hcs]; rfl, unhide HP, ?_⟩
                  intro j c d hc hd
                  rw [List.getElem?_append] at hc
                  split at hc
                  · exact hfit j c d hc hd
                  · rename_i hj
                    obtain ⟨hq, e⟩ := List.getElem?_eq_some_iff.1 hc
                    simp only [List.length_cons, List.length_nil] at hq
                    have hji : j = i := by omega
                    subst hji
                    rw [hdi, Option.some.injEq] at hd
                    have : j - cs.length = 0 := by omega
                    simp only [this, List.getElem_cons_zero] at e
                    rw [← e, ← hd]
                    exact unhide HFIT
                case measure => simp [intOf]; omega
            · have hird : decide ((i : Int) < (rs.length : Int)) = false := decide_eq_false hir
              have hird2 : decide (i < rs.length) = false := decide_eq_false (by omega)
              go_upto_region 13 with fail
              rw [← unhide HW10]
              have hvc := unhide HV10
              have hbc := unhide HB10
              obtain ⟨Wc, hWc⟩ : ∃ Wc, Hid (Wc = W10) := ⟨_, rfl⟩
              rw [← unhide hWc] at hvc hbc ⊢
              clear HW10 HV10 HB10
              -- Wc: the world; hvc: its variable; hbc: since the round began; HFIT: the change fits
              obtain ⟨u0, u1, u2, u3, u4, _⟩ := five_cells hvc
              have hftc := (unhide HA).1.below hbc
              have r2 := (seven_cells hftc.rec_).2.2.1
              have hrw := hftc.row
              have hcs := (unhide HA).2.2.1
              rw [hcs] at hrw
              obtain ⟨cp, cc, hcv⟩ : ∃ cp cc, cv = .slice cp i cc := by
                rcases hrw.2 with ⟨e, h0⟩ | ⟨g', cap', cur, e, _⟩
                · exact ⟨none, 0, by rw [e, h0]⟩
                · exact ⟨_, _, e⟩
              rw [hcv] at r2 hrw
              have HCV := hide hcv
              have hba : Below Wc.heap.size Wc (Wc.alloc (.cells #[.string xk, .int .u64 18446744073709551615, .int .i64 65536, .int .i64 (N : Int), .bool false] 54)) := (Below.refl _ _).alloc (Nat.le_refl _) _
              have how := owns_below4 hrw hba
              have hn9 : (Wc.alloc (.cells #[.string xk, .int .u64 18446744073709551615, .int .i64 65536, .int .i64 (N : Int), .bool false] 54)).heap[Wc.heap.size]? = some (.cells #[.string xk, .int .u64 18446744073709551615, .int .i64 65536, .int .i64 (N : Int), .bool false] 54 (0, 0)) := heap_alloc_new _ _
              have hc9 : ∀ q u, (chgC (⟨xk, 18446744073709551615, 65536, (N : Int), false⟩ : Chg))[q]? = some u → (Wc.alloc (.cells #[.string xk, .int .u64 18446744073709551615, .int .i64 65536, .int .i64 (N : Int), .bool false] 54)).cell? ((⟨Wc.heap.size, 0, none⟩ : Addr).add q) = some u := by
                intro q u hq
                rw [Addr.add_lit, Nat.zero_add, cell_of_row _ Wc.heap.size q _ _ (0, 0) hn9]
                simpa [chgC] using hq
              have hs9 : w4.heap.size + 1 ≤ (Wc.alloc (.cells #[.string xk, .int .u64 18446744073709551615, .int .i64 65536, .int .i64 (N : Int), .bool false] 54)).heap.size := by
                have h1 := (Array.getElem?_eq_some_iff.1 hftc.rec_).1
                simp
                omega
              have HFC := hide (hftc.below hba)
              have HC1 : Hid (i + 1 ≤ maxLen ∧ (i + 1) * 48 ≤ 140737488355328) := by unfold Hid maxLen; omega
              clear hftc hrw hba hn9 hbc hvc hcs hcv
              go_wp2_with (at_builtin; refine wpList_append_gen rfl _ _ 35 rfl (w4.heap.size + 1) 54 i0 (.agg #[.string ⟨#[]⟩, .int .u64 0, .int .i64 0, .int .i64 0, .bool false]) Try.underlying35 hi hz0 5 48 (by omega) hz1 hz2 rfl (.slice cp i cc) i (cs.flatMap chgC) rfl how ⟨Wc.heap.size, 0, none⟩ 1 1 (chgC (⟨xk, 18446744073709551615, 65536, (N : Int), false⟩ : Chg)) rfl rfl hc9 (by intro u hu; simp [chgC] at hu; rcases hu with rfl | rfl | rfl | rfl | rfl <;> rfl) (unhide HC1).1 (unhide HC1).2 hs9 ?_)
              intro v9 w9 hown9 hgrow9 _
              have hnr : (Value.slice cp i cc).ownBlock ≠ some w4.heap.size := fun e => by have := (how.lt _ e).1; omega
              have hr9 := (hgrow9.block w4.heap.size (Array.getElem?_eq_some_iff.1 (unhide HFC).rec_).1 (fun e => hnr e.symm)).trans (unhide HFC).rec_
              have hf9 : w9.frozen? ⟨w4.heap.size, 2, none⟩ = false := frozen_of_block hr9
              have hq9 := (seven_cells hr9).2.2.1
              have HP : Hid (FT w4 (w9.setCell ⟨w4.heap.size, 2, none⟩ v9) w4.heap.size seq v9 (cs ++ [(⟨xk, 18446744073709551615, 65536, (N : Int), false⟩ : Chg)])) := by
                have hcs := (unhide HA).2.2.1
                refine (unhide HFC).push (by rw [hcs]; exact hown9) ?_
                rw [unhide HCV]
                exact hgrow9
              have hsh : ∃ g2 cap2, v9 = .slice (some ⟨g2, 0, none⟩) (i + 1) cap2 := by
                rcases hown9.2 with ⟨_, hz9⟩ | ⟨g2, cap2, cur2, e2, _⟩
                · exact absurd hz9 (by omega)
                · exact ⟨g2, cap2, e2⟩
              obtain ⟨g2, cap2, rfl⟩ := hsh
              clear hown9 hgrow9 hr9 hnr how hc9 hs9
              go_wp2
              obtain ⟨_, hfit, hcs, hdi, _⟩ := unhide HA
              go_roundw
              case rel =>
                refine ⟨i + 1, _, cs ++ [(⟨xk, 18446744073709551615, 65536, (N : Int), false⟩ : Chg)], by omega, by go_num, by rw [List.length_append, hcs]; rfl, unhide HP, ?_⟩
                intro j c d hc hd
                rw [List.getElem?_append] at hc
                split at hc
                · exact hfit j c d hc hd
                · rename_i hj
                  obtain ⟨hq, e⟩ := List.getElem?_eq_some_iff.1 hc
                  simp only [List.length_cons, List.length_nil] at hq
                  have hji : j = i := by omega
                  subst hji
                  rw [hdi, Option.some.injEq] at hd
                  have : j - cs.length = 0 := by omega
                  simp only [this, List.getElem_cons_zero] at e
                  rw [← e, ← hd]
                  exact unhide HFIT
              case measure => simp [intOf]; omega
        · obtain ⟨hdl, hll⟩ := unhide HD
          have hcl : cs.length = Ll.length := by have := unhide HLE; omega
          obtain ⟨hmay, hok⟩ := fit_rcd (l := dat L) (cs := cs) (seq := seq) (by have := unhide HS1; omega) (unhide HSQ) (unhide HE) (by rw [hcl, ← hdl, dat_len]) (by rw [← hdl, dat_len, dat_len]; exact hll) (fun j c d hc hd => hfit j c d hc (by rw [hdl]; exact hd))
          have hcl2 : CL wr cv cs := krow_of_owns hft.row (flat_len chgC_len cs)
          obtain ⟨cp, cc, hcv, _⟩ := KRow.shape hcl2
          subst hcv
          have hwr := bwrite_any ⟨1, seq, cs, 0, 0, 0, 0⟩ _ wr hcl2 hok
          have hB : wrB ⟨1, seq, cs, 0, 0, 0, 0⟩ = rcdB ⟨1, seq, cs, 0, 0, 0, 0⟩ := by unfold wrB; rw [if_pos hmay]
          have hz := rcd_size _ hmay
          have hmn := rcd_len seq cs
          rw [hB, hmay] at hwr
          generalize rcdB ⟨1, seq, cs, 0, 0, 0, 0⟩ = X at *
          unfold rcdA at hwr
          simp only [Int.natCast_zero] at hwr
          obtain ⟨a0, a1, a2, a3, a4, a5, a6⟩ := seven_cells hft.rec_
          have HWR := hide hwr
          have HBX := hide ((unhide HB4).trans (hft.bel.mono (unhide HB4).size))
          have hzI : (X.length : Int) ≤ 2700 := by omega
          have HMN := hide hmn
          generalize cs.length = n at *
          clear hft hfit hst hdl hll hcl hmay hok hcl2 hwr hB hz hmn hcs
          go_wp2_with fail
          refine Calls.mono (unhide HWR) ?_
          rintro e wx ⟨t, rfl, hox, hbx⟩
          obtain ⟨tp, tc, tl1, rfl, htl⟩ := (row_of_owns hox).shape
          subst htl
          have HBY := hide ((unhide HBX).trans (hbx.mono (unhide HBX).size))
          have HVA := hide (var_any seq (unhide HSQ) wx)
          have hwe : wrE true = 0 := rfl
          rw [hwe]
          clear hox hbx hwe
          go_wp2_with fail
          refine Calls.mono (unhide HVA) ?_
          rintro e wy ⟨t2, rfl, hoy, hby⟩
          obtain ⟨yp, yc, yl1, rfl, hyl⟩ := (row_of_owns hoy).shape
          have hyl2 : (1 : Int) + (yl1 : Int) ≤ (X.length : Int) := by have := unhide HMN; omega
          have hyl3 : (yl1 : Int) ≤ 2700 := by omega
          have HBZ := hide ((unhide HBY).trans (hby.mono (unhide HBY).size))
          clear hoy hby hyl
          go_wp2
          go_ret
          exact ⟨rfl, unhide HBZ⟩
  · have hE1 : (E == 0) = false := by simp [hE0]
    have hE2 : (E != 0) = true := by simp [hE0]
    clear hE0
    go_enter Try.func6, Try.ntmps6
    go_wp2_with fail
    refine Calls.mono (bawake_any _) ?_
    rintro e w2 ⟨rfl, hb2⟩
    have HB2 := hide hb2
    clear hb2
    go_wp2_with fail
    refine Calls.mono (unhide HCK _ (unhide HB2)) ?_
    rintro e w3 ⟨rfl, hb3⟩
    have HB3 := hide ((unhide HB2).trans (hb3.mono (unhide HB2).size))
    clear hb3
    go_wp2_with fail
    refine Calls.mono (bawake_any _) ?_
    rintro e w4 ⟨rfl, hb4⟩
    have HB4 := hide ((unhide HB3).trans (hb4.mono (unhide HB3).size))
    clear hb4
    go_wp2
    go_ret
    exact ⟨rfl, unhide HB4⟩

theorem walk_BatchFits (s0 : Value) (d0 : Dt) (a1 : Int) (w1 : (Lit.int .u64 a1).wf = true) (s2 : Value) (d2 : Dt) (w : World) (h0 : Reads limSaid w (.row 48 opSh) [s0] d0) (h2 : Reads limSaid w (.row 24 rfSh) [s2] d2) :
    Calls Try.prog 6 #[s0, .int .u64 a1, s2] w fun e w' => e = .returned (.bool true) ∧ Below w.heap.size w w' := by
  obtain ⟨L, e1, o1, l1⟩ := ops_of_reads lim_said h0
  obtain ⟨rs, e2⟩ := refs_of_reads h2
  have hb := bounds_u64 w1
  obtain ⟨q, rfl⟩ := Int.eq_ofNat_of_zero_le hb.1
  have hroom : L.length * 48 ≤ 140737488355328 := by unfold limSaid reachBytes at l1; omega
  exact bfits_any s0 s2 L rs q w e1 e2 (fun x hx => (o1 x hx).2.1) (fun x hx => (o1 x hx).2.2) hroom (by omega)
end Go.Proofs.Ytehnjanllemnlaa
