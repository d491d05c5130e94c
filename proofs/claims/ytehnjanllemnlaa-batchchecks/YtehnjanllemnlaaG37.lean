/- Texts of ours, one behind the other: OpRLast. -/
import Derived.Test.YtehnjanllemnlaaG7
import Derived.Test.YtehnjanllemnlaaG29
import Derived.Test.YtehnjanllemnlaaG33
import Derived.Deep.CutRange
import Derived.Deep.CutBlock
import Derived.Deep.RegionHeld3
/- The document's own answer: Last. -/
namespace Go.Proofs.Ytehnjanllemnlaa
open Go.RowKit

/-- The operation that the reference holds in a variable. -/
structure VarO (wr wc : World) (vb : Nat) (k : ByteArray) (tp : Option Addr) (tn tc : Nat) (d : Bool) (bs : List UInt8) : Prop where
  blk : wc.heap[vb]? = some (.cells #[.string k, .slice tp tn tc, .bool d] 32 (0, 0))
  ge : wr.heap.size ≤ vb
  mine : Mine wc wr.heap.size (.slice tp tn tc) bs
  bel : Below wr.heap.size wr wc

theorem elC_set (L : List El) (i : Nat) (x : El) (h : i < L.length) : (((elC opC L).set (i * 3) (.string x.1.key)).set (i * 3 + 1) (.slice x.1.p x.1.n x.1.c)).set (i * 3 + 2) (.bool x.1.del) = elC opC (L.set i x) := by
  unfold elC
  induction L generalizing i with
  | nil => simp at h
  | cons p L ih =>
    cases i with
    | zero => simp [opC]
    | succ i =>
      rw [List.set_cons_succ, List.flatMap_cons, List.flatMap_cons, ← ih i (by simpa using h)]
      have e1 : (i + 1) * 3 = (opC p.1).length + i * 3 := by simp [opC]; omega
      rw [e1, Nat.add_assoc, Nat.add_assoc]
      simp only [List.set_append_right _ _ (Nat.le_add_right _ _), Nat.add_sub_cancel_left]
theorem eo_set {w : World} {base g m oc : Nat} {L : List El} (h : EO 32 3 opC w base (.slice (some ⟨g, 0, none⟩) m oc) L) (hm : L.length = m) (j : Nat) (hj : j < L.length) (x : El) (hx : Row w (vof x.1) x.2) (hap : ∀ b off, x.1.p = some ⟨b, off, none⟩ → x.2 ≠ [] → (Value.slice (some ⟨g, 0, none⟩) m oc).ownBlock ≠ some b) :
    EO 32 3 opC (((w.setCell ⟨g, j * 3, none⟩ (.string x.1.key)).setCell ⟨g, j * 3 + 1, none⟩ (.slice x.1.p x.1.n x.1.c)).setCell ⟨g, j * 3 + 2, none⟩ (.bool x.1.del)) base (.slice (some ⟨g, 0, none⟩) m oc) (L.set j x) := by
  have h1 := h.1
  rw [hm] at h1
  obtain ⟨r1, g1⟩ := h1.stored (j * 3) (.string x.1.key)
  obtain ⟨r2, g2⟩ := r1.stored (j * 3 + 1) (.slice x.1.p x.1.n x.1.c)
  obtain ⟨r3, g3⟩ := r2.stored (j * 3 + 2) (.bool x.1.del)
  have hg := grown_trans (grown_trans g1 g2) g3
  refine ⟨by rw [List.length_set, hm, ← elC_set L j x hj]; exact r3, fun y hy => ?_⟩
  have hy2 : Row w (vof y.1) y.2 ∧ ∀ b off, y.1.p = some ⟨b, off, none⟩ → y.2 ≠ [] → (Value.slice (some ⟨g, 0, none⟩) m oc).ownBlock ≠ some b := by
    rcases List.mem_or_eq_of_mem_set hy with hy | rfl
    · exact h.2 y hy
    · exact ⟨hx, hap⟩
  exact ⟨hy2.1.grown hg (fun b off n c e hne => by have := hy2.2 b off (by unfold vof at e; simp only [Value.slice.injEq] at e; exact e.1) hne; simpa [Value.ownBlock] using this), hy2.2⟩

theorem varO_a {wr w5 : World} {ak : ByteArray} {tp : Option Addr} {tn tc : Nat} {ad : Bool} {av : List UInt8} (hm : Mine w5 wr.drew.heap.size (.slice tp tn tc) av) (hb : Below wr.drew.heap.size wr.drew w5) :
    VarO wr (w5.alloc (.cells #[.string ak, .slice tp tn tc, .bool ad] 32)) w5.heap.size ak tp tn tc ad av := by
  have hdw : Below wr.heap.size wr wr.drew := (Below.refl _ _).drew
  have hb5 := hdw.trans (hb.mono hdw.size)
  exact ⟨heap_alloc_new _ _, hb5.size, (hm.base hdw.size).below ((Below.refl _ _).alloc (Nat.le_refl _) _), hb5.alloc hb5.size _⟩
theorem varO_b {wr w5 : World} {ak : ByteArray} {tp : Option Addr} {tn tc : Nat} {ad : Bool} {av : List UInt8} {z1 z2 z3 : Value} (hn : w5.heap[wr.heap.size]? = some (.cells #[z1, z2, z3] 32 (0, 0))) (hm : Mine w5 (wr.heap.size + 1) (.slice tp tn tc) av) (hb : Below wr.heap.size wr w5) :
    VarO wr (((w5.setCell ⟨wr.heap.size, 0, none⟩ (.string ak)).setCell ⟨wr.heap.size, 1, none⟩ (.slice tp tn tc)).setCell ⟨wr.heap.size, 2, none⟩ (.bool ad)) wr.heap.size ak tp tn tc ad av := by
  have h1 := heap_setCell_same w5 wr.heap.size 0 _ _ (.string ak) hn
  have h2 := heap_setCell_same _ wr.heap.size 1 _ _ (.slice tp tn tc) h1
  have h3 := heap_setCell_same _ wr.heap.size 2 _ _ (.bool ad) h2
  have k1 : Keep (fun k => k = wr.heap.size) w5 (w5.setCell ⟨wr.heap.size, 0, none⟩ (.string ak)) := keep_set5
  have k2 : Keep (fun k => k = wr.heap.size) _ ((w5.setCell ⟨wr.heap.size, 0, none⟩ (.string ak)).setCell ⟨wr.heap.size, 1, none⟩ (.slice tp tn tc)) := keep_set5
  have k3 : Keep (fun k => k = wr.heap.size) _ (((w5.setCell ⟨wr.heap.size, 0, none⟩ (.string ak)).setCell ⟨wr.heap.size, 1, none⟩ (.slice tp tn tc)).setCell ⟨wr.heap.size, 2, none⟩ (.bool ad)) := keep_set5
  refine ⟨by simpa using h3, Nat.le_refl _, ?_, ((hb.setCell (Nat.le_refl _) _).setCell (Nat.le_refl _) _).setCell (Nat.le_refl _) _⟩
  exact (((hm.keep5 k1 (fun b hb e => by omega)).keep5 k2 (fun b hb e => by omega)).keep5 k3 (fun b hb e => by omega)).base (by omega)

set_option maxRecDepth 20000 in
set_option maxHeartbeats 2000000 in
theorem rlast_any (v : Value) (L : List El) (w : World) (h : EL 3 opC w v L) (hroom : L.length * 48 ≤ 140737488355328) (hv : ∀ x ∈ L, x.2.length ≤ 140737488351232) (hks : ∀ x ∈ L, x.1.key.size ≤ 140737488351232) :
    Calls Try.prog 15 #[v] w fun e w' => ∃ v' L', e = .returned v' ∧ dat L' = lastD (dat L) ∧ L'.length ≤ L.length ∧ EO 32 3 opC w' w.heap.size v' L' ∧ Below w.heap.size w w' := by
  by_cases h0 : L.length = 0
  · obtain ⟨p1, c1, rfl, _⟩ := h.shape
    obtain rfl : L = [] := List.eq_nil_of_length_eq_zero h0
    go_enter Try.func15, Try.ntmps15
    go_wp2
    refine wp_loop_rounds 1 ?_
    rw [rounds_succ]
    go_wp2
    go_ret
    exact ⟨_, [], rfl, rfl, Nat.le_refl _, EO.nil _ _ _ _ _, Below.refl _ _⟩
  obtain ⟨b1, o1, c1, rfl, k1, k2, hsn⟩ := h.seen (by omega)
  obtain ⟨l, hl⟩ : ∃ l, l = L.length := ⟨_, rfl⟩
  rw [← hl] at k1 ⊢
  unfold maxLen at k2
  have hl0 : (l : Int) ≤ 9223372036854775807 := by omega
  obtain ⟨i0, hi, hz0, hz1, hz2⟩ := info_parts Try.info32
  have HSN := hide hsn
  have HLN := hide hl
  have HRM := hide hroom
  have HVV := hide hv
  have HKS := hide hks
  clear h hsn k1 k2 hl h0 hv hroom hks
  go_enter Try.func15, Try.ntmps15
  go_wp2
  go_loopw [3, 4] (fun ov i wr => ∃ (k m : Nat) (Lo : List El), k ≤ l ∧ i = .int .i64 k ∧ Lo.length = m ∧ Hid (m ≤ k ∧ dat Lo = lastD ((dat L).take k) ∧ (∀ x ∈ Lo, x.1.key.size ≤ 140737488351232) ∧ EO 32 3 opC wr w.heap.size ov Lo ∧ Below w.heap.size w wr)) (fun _ i _ => l - (intOf i).toNat)
  case atStart => exact ⟨0, 0, [], Nat.zero_le _, rfl, rfl, Nat.le_refl _, rfl, fun x hx => by simp at hx, EO.nil _ _ _ _ _, Below.refl _ _⟩
  case round =>
    obtain ⟨k, m, Lo, hk, rfl, hm, hst⟩ := hrel
    obtain ⟨hmk, hd, hkz, heo, hb⟩ := unhide hst
    obtain ⟨op, oc, hve⟩ := heo.shape
    rw [hm] at hve
    subst hve
    by_cases hlt : (k : Int) < (l : Int)
    · have hkL : k < L.length := by have := unhide HLN; omega
      have HCS : Hid (∀ W, Below w.heap.size w W → W.cell? ⟨b1, o1 + k * 3, none⟩ = some (.string L[k].1.key) ∧ W.cell? ⟨b1, o1 + k * 3 + 1, none⟩ = some (vof L[k].1) ∧ W.cell? ⟨b1, o1 + k * 3 + 2, none⟩ = some (.bool L[k].1.del)) := fun W hW => ⟨(unhide HSN k hkL W hW).1, (unhide HSN k hkL W hW).2.1, (unhide HSN k hkL W hW).2.2.1⟩
      have HCB : Hid (∀ W, Below wr.heap.size wr W → Calls Try.prog 25 #[vof L[k].1] W fun e w5 => ∃ t, e = .returned t ∧ Mine w5 W.heap.size t L[k].2 ∧ Below W.heap.size W w5) := by
        intro W hW
        refine (copyBytes_any _ _ W (unhide HSN k hkL W (hb.trans (hW.mono hb.size))).2.2.2 (unhide HVV _ (List.getElem_mem hkL))).mono ?_
        rintro e w5 ⟨t, rfl, ho5, hb5⟩
        exact ⟨t, rfl, mine_of_owns ho5, hb5⟩
      have hdk : lastD ((dat L).take (k + 1)) = insD (lastD ((dat L).take k)) (L[k].1.key, L[k].2, L[k].1.del) := by
        rw [List.take_succ_eq_append_getElem (by rw [dat_len]; exact hkL), dat_get L k hkL, lastD_snoc]
      have hkk := unhide HKS _ (List.getElem_mem hkL)
      generalize L[k] = x at *
      obtain ⟨⟨ak, ap, an, ac, ad⟩, av⟩ := x
      unfold vof at HCS HCB
      simp only at HCS HCB hdk hkk
      have HA := hide (And.intro hmk (And.intro hd (And.intro hkz (And.intro heo (And.intro hb (And.intro hm (And.intro hdk hkk)))))))
      obtain ⟨a1, a2, a3⟩ := unhide HCS wr hb
      have hbd := hb.trans (((Below.refl wr.heap.size wr).drew).mono hb.size)
      obtain ⟨d1, d2, d3⟩ := unhide HCS wr.drew hbd
      clear hmk hd hkz heo hb hm hdk hkk hkL hst hbd
      go_wp2_with fail
      go_cut [5] from 14 to 30 (fun p wc => ∃ vb tp tn tc, p = .pointer (some ⟨vb, 0, none⟩) ∧ Hid (VarO wr wc vb ak tp tn tc ad av))
      case first =>
        have HCH : Hid (∀ W, Below wr.heap.size wr W → Calls Try.prog 25 #[.slice ap an ac] W fun e w5 => ∃ tp tn tc, e = .returned (.slice tp tn tc) ∧ (w5.cell? ⟨b1, o1 + k * 3, none⟩ = some (.string ak) ∧ w5.cell? ⟨b1, o1 + k * 3 + 1, none⟩ = some (.slice ap an ac) ∧ w5.cell? ⟨b1, o1 + k * 3 + 2, none⟩ = some (.bool ad)) ∧ (∀ o, ((w5.alloc o).cell? ⟨b1, o1 + k * 3, none⟩ = some (.string ak) ∧ (w5.alloc o).cell? ⟨b1, o1 + k * 3 + 1, none⟩ = some (.slice ap an ac) ∧ (w5.alloc o).cell? ⟨b1, o1 + k * 3 + 2, none⟩ = some (.bool ad))) ∧ Hid (Mine w5 W.heap.size (.slice tp tn tc) av ∧ Below W.heap.size W w5)) := by
          intro W hW
          refine (unhide HCB W hW).mono ?_
          rintro e w5 ⟨t, rfl, hm5, hb5⟩
          obtain ⟨tp, tn, tc, rfl⟩ := mine_opv hm5
          have hb := (unhide HA).2.2.2.2.1
          have hbW := hb.trans (hW.mono hb.size)
          have hb5w := hbW.trans (hb5.mono hbW.size)
          exact ⟨tp, tn, tc, rfl, unhide HCS w5 hb5w, fun o => unhide HCS (w5.alloc o) (hb5w.alloc hb5w.size _), hm5, hb5⟩
        have hS0 : (wr.drew.cell? ⟨b1, o1 + k * 3, none⟩ = some (.string ak) ∧ wr.drew.cell? ⟨b1, o1 + k * 3 + 1, none⟩ = some (.slice ap an ac) ∧ wr.drew.cell? ⟨b1, o1 + k * 3 + 2, none⟩ = some (.bool ad)) := ⟨d1, d2, d3⟩
        have hS1 : ∀ o, ((wr.alloc o).drew.cell? ⟨b1, o1 + k * 3, none⟩ = some (.string ak) ∧ (wr.alloc o).drew.cell? ⟨b1, o1 + k * 3 + 1, none⟩ = some (.slice ap an ac) ∧ (wr.alloc o).drew.cell? ⟨b1, o1 + k * 3 + 2, none⟩ = some (.bool ad)) := fun o => by
          have hb := (unhide HA).2.2.2.2.1
          exact unhide HCS _ ((hb.alloc hb.size _).drew)
        have hS2 : ∀ o, ((wr.drew.alloc o).cell? ⟨b1, o1 + k * 3, none⟩ = some (.string ak) ∧ (wr.drew.alloc o).cell? ⟨b1, o1 + k * 3 + 1, none⟩ = some (.slice ap an ac) ∧ (wr.drew.alloc o).cell? ⟨b1, o1 + k * 3 + 2, none⟩ = some (.bool ad)) := fun o => by
          have hb := (unhide HA).2.2.2.2.1
          exact unhide HCS _ ((hb.trans (((Below.refl wr.heap.size wr).drew).mono hb.size)).alloc hb.size _)
        have HCHa := hide (unhide HCH wr.drew (Below.refl _ _).drew)
        have HCHb : Hid (Calls Try.prog 25 #[.slice ap an ac] (wr.alloc (.cells #[.string ⟨#[]⟩, .slice none 0 0, .bool false] 32)).drew fun e w5 => ∃ tp tn tc, e = .returned (.slice tp tn tc) ∧ (w5.cell? ⟨b1, o1 + k * 3, none⟩ = some (.string ak) ∧ w5.cell? ⟨b1, o1 + k * 3 + 1, none⟩ = some (.slice ap an ac) ∧ w5.cell? ⟨b1, o1 + k * 3 + 2, none⟩ = some (.bool ad)) ∧ (w5.cell? ⟨wr.heap.size, 0, none⟩ = some (.string ⟨#[]⟩) ∧ w5.cell? ⟨wr.heap.size, 1, none⟩ = some (.slice none 0 0) ∧ w5.cell? ⟨wr.heap.size, 2, none⟩ = some (.bool false)) ∧ (w5.frozen? ⟨wr.heap.size, 0, none⟩ = false ∧ w5.frozen? ⟨wr.heap.size, 1, none⟩ = false ∧ w5.frozen? ⟨wr.heap.size, 2, none⟩ = false) ∧ (∀ q1 q2 q3, ((((w5.setCell ⟨wr.heap.size, 0, none⟩ q1).setCell ⟨wr.heap.size, 1, none⟩ q2).setCell ⟨wr.heap.size, 2, none⟩ q3).cell? ⟨b1, o1 + k * 3, none⟩ = some (.string ak) ∧ (((w5.setCell ⟨wr.heap.size, 0, none⟩ q1).setCell ⟨wr.heap.size, 1, none⟩ q2).setCell ⟨wr.heap.size, 2, none⟩ q3).cell? ⟨b1, o1 + k * 3 + 1, none⟩ = some (.slice ap an ac) ∧ (((w5.setCell ⟨wr.heap.size, 0, none⟩ q1).setCell ⟨wr.heap.size, 1, none⟩ q2).setCell ⟨wr.heap.size, 2, none⟩ q3).cell? ⟨b1, o1 + k * 3 + 2, none⟩ = some (.bool ad))) ∧ Hid (w5.heap[wr.heap.size]? = some (.cells #[.string ⟨#[]⟩, .slice none 0 0, .bool false] 32 (0, 0)) ∧ Mine w5 (wr.heap.size + 1) (.slice tp tn tc) av ∧ Below wr.heap.size wr w5)) := by
          have hb0 : Below wr.heap.size wr (wr.alloc (.cells #[.string ⟨#[]⟩, .slice none 0 0, .bool false] 32)).drew := ((Below.refl _ _).alloc (Nat.le_refl _) _).drew
          refine (unhide HCH _ hb0).mono ?_
          rintro e w5 ⟨tp, tn, tc, rfl, yS, ySa, HB6⟩
          have hn : (wr.alloc (.cells #[.string ⟨#[]⟩, .slice none 0 0, .bool false] 32)).drew.heap[wr.heap.size]? = some (.cells #[.string ⟨#[]⟩, .slice none 0 0, .bool false] 32 (0, 0)) := heap_alloc_new _ _
          have hn5 := ((unhide HB6).2.block _ (Array.getElem?_eq_some_iff.1 hn).1).trans hn
          refine ⟨tp, tn, tc, rfl, yS, ⟨?_, ?_, ?_⟩, ⟨frozen_of_block hn5, frozen_of_block hn5, frozen_of_block hn5⟩, ?_, hn5, ?_, hb0.trans ((unhide HB6).2.mono hb0.size)⟩
          · rw [cell_of_row w5 wr.heap.size _ _ _ (0, 0) hn5]; rfl
          · rw [cell_of_row w5 wr.heap.size _ _ _ (0, 0) hn5]; rfl
          · rw [cell_of_row w5 wr.heap.size _ _ _ (0, 0) hn5]; rfl
          · intro q1 q2 q3
            have hb := (unhide HA).2.2.2.2.1
            have hbw := hb.trans ((hb0.trans ((unhide HB6).2.mono hb0.size)).mono hb.size)
            exact unhide HCS _ (((hbw.setCell hb.size _).setCell hb.size _).setCell hb.size _)
          · have := (unhide HB6).1
            simpa using this
        clear HCH
        go_region_held3 (fun w' => w'.cell? ⟨b1, o1 + k * 3, none⟩ = some (.string ak) ∧ w'.cell? ⟨b1, o1 + k * 3 + 1, none⟩ = some (.slice ap an ac) ∧ w'.cell? ⟨b1, o1 + k * 3 + 2, none⟩ = some (.bool ad)) (first | with_reducible exact hS0 | with_reducible exact hS1 _ | with_reducible exact hS2 _ | with_reducible exact yS | with_reducible exact ySa _ | with_reducible exact ySs _ _ _ | with_reducible assumption) (first
          | (go_at_call 25; with_reducible refine Calls.mono (unhide HCHa) ?_; rintro x w5 ⟨tp, tn, tc, rfl, yS, ySa, HB6⟩)
          | (go_at_call 25; with_reducible refine Calls.mono (unhide HCHb) ?_; rintro x w5 ⟨tp, tn, tc, rfl, yS, ⟨f0, f1, f2⟩, ⟨g0, g1, g2⟩, ySs, HB7⟩))
        all_goals
          go_wp2_with fail
          go_meet
          first
            | exact ⟨_, tp, tn, tc, rfl, varO_a (unhide HB6).1 (unhide HB6).2⟩
            | exact ⟨_, tp, tn, tc, rfl, varO_b (unhide HB7).1 (unhide HB7).2.1 (unhide HB7).2.2⟩
      case rest =>
        obtain ⟨vb, tp, tn, tc, rfl, hvo⟩ := hcut
        obtain ⟨hmk, hd, hkz, heo, hb, hm, hdk, hkk⟩ := unhide HA
        obtain ⟨hblk, hge, hmine, hbel⟩ := unhide hvo
        have heoc := heo.below hbel
        have hbc := hb.trans (hbel.mono hb.size)
        have hap : ∀ b off, tp = some ⟨b, off, none⟩ → av ≠ [] → (Value.slice op m oc).ownBlock ≠ some b := fun b off e hne ho => by
          have h1 := Mine.blk (o := ⟨ak, tp, tn, tc, ad⟩) hmine b off hne e
          have h2 := (heo.1.lt b ho).2
          omega
        have hvbne : (Value.slice op m oc).ownBlock ≠ some vb := fun ho => by
          have := (heo.1.lt vb ho).2
          omega
        have hrm : (k + 1) * 48 ≤ 140737488355328 ∧ k + 1 ≤ l := by have h1 := unhide HRM; have h2 := unhide HLN; omega
        have HQ := hide (And.intro heoc (And.intro hbc (And.intro hblk (And.intro hmine.1 (And.intro hap (And.intro hvbne (And.intro hmk (And.intro hkz (And.intro hm (And.intro hkk hrm))))))))))
        have HDK : Hid (lastD ((dat L).take (k + 1)) = insD (dat Lo) (ak, av, ad)) := by rw [hd]; exact hdk
        have hmI : (m : Int) ≤ 9223372036854775807 := by omega
        clear hmk hd hkz heo hb hm hdk hkk hblk hge hmine hbel heoc hbc hap hvbne hrm hvo HA a1 a2 a3 d1 d2 d3
        go_wp2
        go_loopw [6] (fun jj wi => ∃ j : Nat, j ≤ m ∧ jj = .int .i64 j ∧ Hid ((∀ i x, i < j → (dat Lo)[i]? = some x → tl (kD x) ak.toList = true) ∧ Below wc.heap.size wc wi)) (fun jj _ => m - (intOf jj).toNat)
        case atStart => exact ⟨0, Nat.zero_le _, rfl, fun i x h => by omega, Below.refl _ _⟩
        case round =>
          obtain ⟨J, hJm, rfl, hst⟩ := hrel
          obtain ⟨hlo, hbj⟩ := unhide hst
          by_cases hjm : (J : Int) < (m : Int)
          · obtain ⟨heoc, hbc, hblk, hrow, hap, hvbne, hmk, hkz, hm, hkk, hrm⟩ := unhide HQ
            have jl : J < Lo.length := by omega
            obtain ⟨g, hog⟩ : ∃ g, op = some ⟨g, 0, none⟩ := by
              rcases heoc.1.2 with ⟨e, _⟩ | ⟨g', cap', cur, e, _⟩
              · simp only [Value.slice.injEq] at e; omega
              · simp only [Value.slice.injEq] at e; exact ⟨g', e.1⟩
            subst hog
            have HCK : Hid (∀ w', Below wc.heap.size wc w' → (w'.cell? ⟨g, J * 3, none⟩ = some (.string Lo[J].1.key) ∧ w'.cell? ⟨g, J * 3 + 1, none⟩ = some (vof Lo[J].1) ∧ w'.cell? ⟨g, J * 3 + 2, none⟩ = some (.bool Lo[J].1.del)) ∧ (w'.cell? ⟨vb, 0, none⟩ = some (.string ak) ∧ w'.cell? ⟨vb, 1, none⟩ = some (.slice tp tn tc) ∧ w'.cell? ⟨vb, 2, none⟩ = some (.bool ad)) ∧ ∀ q, w'.frozen? ⟨g, q, none⟩ = false) := by
              intro w' hw
              have he := (heoc.below hw).1
              rw [hm] at he
              have hf := fun q hq => elC_get opC_len Lo J jl q hq
              have hv := (hw.block _ (Array.getElem?_eq_some_iff.1 hblk).1).trans hblk
              refine ⟨⟨?_, ?_, ?_⟩, ⟨?_, ?_, ?_⟩, fun q => he.frozenAt q⟩
              · rw [he.cellAt (J * 3) (by omega)]; exact hf 0 (by omega)
              · rw [he.cellAt (J * 3 + 1) (by omega)]; exact hf 1 (by omega)
              · rw [he.cellAt (J * 3 + 2) (by omega)]; exact hf 2 (by omega)
              all_goals (rw [cell_of_row w' vb _ _ _ (0, 0) hv]; rfl)
            have HLS : Hid (∀ w', Below wc.heap.size wc w' → Calls Try.prog 36 #[.string Lo[J].1.key, .string ak] w' fun e w'' => e = .returned (.bool (tl Lo[J].1.key.toList ak.toList)) ∧ Below wc.heap.size wc w'') := fun w' hw => (rless_any _ _ w' (hkz _ (List.getElem_mem jl))).mono fun e w'' hx => ⟨hx.1, hw.trans (hx.2.mono hw.size)⟩
            have hnext : tl Lo[J].1.key.toList ak.toList = true → ∀ i x, i < J + 1 → (dat Lo)[i]? = some x → tl (kD x) ak.toList = true := by
              intro ht i x hi hx
              by_cases e : i = J
              · subst e
                rw [List.getElem?_eq_getElem (by rw [dat_len]; exact jl), dat_at Lo i jl, Option.some.injEq] at hx
                rw [← hx]; exact ht
              · exact hlo i x (by omega) hx
            have hstop : tl Lo[J].1.key.toList ak.toList = false → atD (dat Lo) (ak, av, ad) = J := by
              intro hf
              refine atD_of (by rw [dat_len]; omega) hlo (fun x hx => ?_)
              rw [List.getElem?_eq_getElem (by rw [dat_len]; exact jl), dat_at Lo J jl, Option.some.injEq] at hx
              rw [← hx]; exact hf
            have hgetJ : (dat Lo)[J]? = some (datOf Lo[J]) := by rw [List.getElem?_eq_getElem (by rw [dat_len]; exact jl), dat_at Lo J jl]
            have hkd : kD (datOf Lo[J]) = Lo[J].1.key.toList := rfl
            generalize tl Lo[J].1.key.toList ak.toList = TB at *
            generalize Lo[J] = y at *
            obtain ⟨⟨yk, yp, yn, yc, yd⟩, yv⟩ := y
            unfold vof at HCK
            simp only at HCK HLS hkd
            obtain ⟨CC, hCC⟩ : ∃ CC : World → Prop, CC = fun w' => Below wc.heap.size wc w' := ⟨_, rfl⟩
            have HC0 : Hid (CC { wr with drawn := wr.drawn + 1 }) := by rw [hCC]; exact hbj.drew
            have HCD : Hid (∀ w', CC w' → CC { w' with drawn := w'.drawn + 1 }) := by rw [hCC]; exact fun w' hw => hw.drew
            have HCW : Hid (∀ w', CC w' → Below wc.heap.size wc w') := by rw [hCC]; exact fun w' hw => hw
            have HCC : Hid (∀ w', CC w' → (w'.cell? ⟨g, J * 3, none⟩ = some (.string yk) ∧ w'.cell? ⟨g, J * 3 + 1, none⟩ = some (.slice yp yn yc) ∧ w'.cell? ⟨g, J * 3 + 2, none⟩ = some (.bool yd)) ∧ (w'.cell? ⟨vb, 0, none⟩ = some (.string ak) ∧ w'.cell? ⟨vb, 1, none⟩ = some (.slice tp tn tc) ∧ w'.cell? ⟨vb, 2, none⟩ = some (.bool ad)) ∧ ∀ q, w'.frozen? ⟨g, q, none⟩ = false) := by rw [hCC]; exact unhide HCK
            have HLC : Hid (∀ w', CC w' → Calls Try.prog 36 #[.string yk, .string ak] w' fun e w'' => e = .returned (.bool TB) ∧ CC w'') := by rw [hCC]; exact unhide HLS
            have hd1 : decide ((J : Int) < (m : Int)) = true := decide_eq_true hjm
            have hd2 : decide (J < m) = true := decide_eq_true (by omega)
            have HNX := hide (And.intro hnext (And.intro hstop (And.intro hgetJ hkd)))
            have HM := hide hm
            clear hnext hstop hlo hbj hst hCC HCK HLS heoc hbc hblk hrow hap hvbne hmk hkz hkk hrm jl hgetJ hkd hm
            cases TB with
            | true =>
              go_wp2_with fail
              refine region_stay CC (by kernel_rfl) (by kernel_rfl) (unhide HC0) ?_
              repeat (first
                | go_big_quiet_skip
                | (go_big_quiet_want
                   apply Exists.intro
                   refine ⟨fun w' hw' => ?_, ?_⟩
                   · obtain ⟨⟨c0, c1, c2⟩, ⟨c3, c4, c5⟩, _⟩ := unhide HCC w' hw'
                     go_simp
                     first | done | rfl | exact unhide HLC w' hw'
                   simp only [Act.put, List.setIfInBounds_toArray, List.set_cons_zero, List.set_cons_succ]
                   go_big_quiet_on))
              refine wpQuiet_nil ?_
              intro wh hwh
              go_wp2
              go_roundw
              case rel => exact ⟨J + 1, by omega, by go_num, (unhide HNX).1 (by first | rfl | trivial), unhide HCW wh hwh⟩
              case measure => simp [intOf]; omega
            | false =>
              go_wp2_with fail
              refine region_stay CC (by kernel_rfl) (by kernel_rfl) (unhide HC0) ?_
              repeat (first
                | go_big_quiet_skip
                | (go_big_quiet_want
                   apply Exists.intro
                   refine ⟨fun w' hw' => ?_, ?_⟩
                   · obtain ⟨⟨c0, c1, c2⟩, ⟨c3, c4, c5⟩, _⟩ := unhide HCC w' hw'
                     go_simp
                     first | done | rfl | exact unhide HLC w' hw'
                   simp only [Act.put, List.setIfInBounds_toArray, List.set_cons_zero, List.set_cons_succ]
                   go_big_quiet_on))
              refine wpQuiet_nil ?_
              intro wh hwh
              have HC1 := hide (unhide HCD wh hwh)
              clear hwh HC0 HLC
              by_cases hkk : yk = ak
              · have HST : Hid (insD (dat Lo) (ak, av, ad) = (dat Lo).set J (ak, av, ad)) := by
                  obtain ⟨_, h2, h3, h4⟩ := unhide HNX
                  unfold Hid insD
                  rw [h2 (by first | rfl | trivial), if_pos]
                  rw [h3]
                  simp only [Option.any_some, decide_eq_true_eq]
                  rw [h4, hkk]
                subst hkk
                go_wp2_with fail
                refine region_stay CC (by kernel_rfl) (by kernel_rfl) (unhide HC1) ?_
                repeat (first
                  | go_big_quiet_skip
                  | (go_big_quiet_want
                     apply Exists.intro
                     refine ⟨fun w' hw' => ?_, ?_⟩
                     · obtain ⟨⟨c0, c1, c2⟩, ⟨c3, c4, c5⟩, _⟩ := unhide HCC w' hw'
                       go_simp
                       first | done | rfl
                     simp only [Act.put, List.setIfInBounds_toArray, List.set_cons_zero, List.set_cons_succ]
                     go_big_quiet_on))
                refine wpQuiet_nil ?_
                intro wi hwi
                obtain ⟨⟨s0, s1, s2⟩, ⟨v0, v1, v2⟩, vf⟩ := unhide HCC wi hwi
                have vf0 := vf (J * 3)
                have vf1 := vf (J * 3 + 1)
                have vf2 := vf (J * 3 + 2)
                have HBI := hide (unhide HCW wi hwi)
                have HFI : Hid (EO 32 3 opC (((wi.setCell ⟨g, J * 3, none⟩ (.string yk)).setCell ⟨g, J * 3 + 1, none⟩ (.slice tp tn tc)).setCell ⟨g, J * 3 + 2, none⟩ (.bool ad)) w.heap.size (.slice (some ⟨g, 0, none⟩) m oc) (Lo.set J (⟨yk, tp, tn, tc, ad⟩, av)) ∧ Below w.heap.size w (((wi.setCell ⟨g, J * 3, none⟩ (.string yk)).setCell ⟨g, J * 3 + 1, none⟩ (.slice tp tn tc)).setCell ⟨g, J * 3 + 2, none⟩ (.bool ad))) := by
                  obtain ⟨heoc, hbc, hblk, hrow, hap, hvbne, hmk, hkz, hm, hkk, hrm⟩ := unhide HQ
                  have hgw := (heoc.1.lt g rfl).1
                  have hwi2 := hbc.trans ((unhide HBI).mono hbc.size)
                  refine ⟨?_, ((hwi2.setCell hgw _).setCell hgw _).setCell hgw _⟩
                  have hei := heoc.below (unhide HBI)
                  have := eo_set hei hm J (by omega) (⟨yk, tp, tn, tc, ad⟩, av) (hrow.below (unhide HBI)) (fun b off e hne => hap b off e hne)
                  exact this
                clear vf hwi HC1 HCC
                go_wp2
                obtain ⟨heoc, hbc, hblk, hrow, hap, hvbne, hmk, hkz, hm, hkk, hrm⟩ := unhide HQ
                go_roundw
                case rel =>
                  refine ⟨k + 1, m, Lo.set J (⟨yk, tp, tn, tc, ad⟩, av), by omega, by go_num, by rw [List.length_set]; exact hm, by omega, ?_, ?_, (unhide HFI).1, (unhide HFI).2⟩
                  · rw [unhide HDK, unhide HST, dat_set]
                  · intro x hx
                    rcases List.mem_or_eq_of_mem_set hx with hx | rfl
                    · exact hkz x hx
                    · exact hkk
                case measure => simp [intOf]; omega
              · have hkb : (yk.toList == ak.toList) = false := by
                  simp only [beq_eq_false_iff_ne]
                  exact fun e => hkk (bl_inj e)
                have HIN : Hid (insD (dat Lo) (ak, av, ad) = (dat Lo).take J ++ (ak, av, ad) :: (dat Lo).drop J) := by
                  obtain ⟨_, h2, h3, h4⟩ := unhide HNX
                  unfold Hid insD
                  rw [h2 (by first | rfl | trivial), if_neg]
                  rw [h3]
                  simp only [Option.any_some, decide_eq_true_eq]
                  rw [h4]
                  exact fun e => hkk (bl_inj e)
                clear hkk
                go_wp2_with fail
                refine region_stay CC (by kernel_rfl) (by kernel_rfl) (unhide HC1) ?_
                repeat (first
                  | go_big_quiet_skip
                  | (go_big_quiet_want
                     apply Exists.intro
                     refine ⟨fun w' hw' => ?_, ?_⟩
                     · obtain ⟨⟨c0, c1, c2⟩, ⟨c3, c4, c5⟩, _⟩ := unhide HCC w' hw'
                       go_simp
                       first | done | rfl
                     simp only [Act.put, List.setIfInBounds_toArray, List.set_cons_zero, List.set_cons_succ]
                     go_big_quiet_on))
                refine wpQuiet_nil ?_
                intro wi hwi
                have HBI := hide (unhide HCW wi hwi)
                clear hwi HC1 HCC
                -- three appends, from the world wi on: HBI : Below wc wi; HIN : what insertion makes
                obtain ⟨heoc, hbc, hblk, hrow, hap, hvbne, hmk, hkz, hm, hkk, hrm⟩ := unhide HQ
                have heoi := heoc.below (unhide HBI)
                have hvi := ((unhide HBI).block _ (Array.getElem?_eq_some_iff.1 hblk).1).trans hblk
                have hki := (heoi.el opC_len).1
                rw [hm] at hki
                have x0 := cell_of_row wi vb 0 _ _ (0, 0) hvi
                have x1 := cell_of_row wi vb 1 _ _ (0, 0) hvi
                have x2 := cell_of_row wi vb 2 _ _ (0, 0) hvi
                simp only [List.getElem?_toArray, List.getElem?_cons_succ, List.getElem?_cons_zero] at x0 x1 x2
                have HKI := hide hki
                have HEI := hide heoi
                have HX := hide (And.intro x0 (And.intro x1 (And.intro x2 (Array.getElem?_eq_some_iff.1 hvi).1)))
                have hz1a : 0 + J ≤ maxLen := by unfold maxLen; omega
                have hz1b : (0 + J) * 48 ≤ 140737488355328 := by omega
                have HZ : Hid (J + 1 ≤ maxLen ∧ (J + 1) * 48 ≤ 140737488355328 ∧ J + 1 + (m - J) ≤ maxLen ∧ (J + 1 + (m - J)) * 48 ≤ 140737488355328) := by unfold Hid maxLen; omega
                have HJM : Hid (J ≤ m ∧ m = Lo.length) := ⟨hJm, hm.symm⟩
                clear heoc hbc hblk hrow hap hvbne hmk hkz hm hkk hrm heoi hvi hki x0 x1 x2
                go_wp2_with (first
                  | (refine wpList_kslice_h rfl 22 32 _ _ rfl 3 Try.underlying22 (by kernel_rfl) (some ⟨g, 0, none⟩) m oc (elC opC Lo) J rfl rfl (unhide HKI) (unhide HJM).1 ?_; intro q12 c12 hk12; have HK12 := hide hk12; clear hk12)
                  | (at_builtin; refine wpList_append_krow rfl _ _ 22 rfl wi.heap.size 32 i0 (.agg #[.string ⟨#[]⟩, .slice none 0 0, .bool false]) Try.underlying22 hi hz0 3 48 (by omega) hz1 hz2 rfl _ 0 [] rfl (World.ownsRow_nil _ _ _ _) q12 J c12 _ rfl (unhide HK12) (fun u hu => elC_one_cell opC_one Lo u (List.mem_of_mem_take hu)) hz1a hz1b (Nat.le_refl _) ?_))
                intro v12 w12 hown12 hgrow12 _
                have own12 : w12.ownsRow wi.heap.size 32 3 v12 J (elC opC (Lo.take J)) := by
                  rw [← elC_take opC_len Lo J (by have := unhide HJM; omega)]
                  simpa using hown12
                have b12 : Below wi.heap.size wi w12 := (Below.refl _ _).grown hgrow12 (Nat.le_refl _) (fun q hq => by simp [Value.ownBlock] at hq)
                obtain ⟨p12, d12, hv12⟩ : ∃ p c, v12 = .slice p J c := by
                  rcases own12.2 with ⟨e, h0⟩ | ⟨g', cap', cur, e, _⟩
                  · exact ⟨none, 0, by rw [e, h0]⟩
                  · exact ⟨_, _, e⟩
                subst hv12
                obtain ⟨x0, x1, x2, xl⟩ := unhide HX
                have y0 := (b12.cell (p := ⟨vb, 0, none⟩) xl).trans x0
                have y1 := (b12.cell (p := ⟨vb, 1, none⟩) xl).trans x1
                have y2 := (b12.cell (p := ⟨vb, 2, none⟩) xl).trans x2
                have ba13 : Below w12.heap.size w12 (w12.alloc (.cells #[.string ak, .slice tp tn tc, .bool ad] 32)) := (Below.refl _ _).alloc (Nat.le_refl _) _
                have how13 := owns_below4 own12 ba13
                have hn13 : (w12.alloc (.cells #[.string ak, .slice tp tn tc, .bool ad] 32)).heap[w12.heap.size]? = some (.cells #[.string ak, .slice tp tn tc, .bool ad] 32 (0, 0)) := heap_alloc_new _ _
                have hc13 : ∀ q u, (opC ⟨ak, tp, tn, tc, ad⟩)[q]? = some u → (w12.alloc (.cells #[.string ak, .slice tp tn tc, .bool ad] 32)).cell? ((⟨w12.heap.size, 0, none⟩ : Addr).add q) = some u := by
                  intro q u hq
                  rw [Addr.add_lit, Nat.zero_add, cell_of_row _ w12.heap.size q _ _ (0, 0) hn13]
                  simpa [opC] using hq
                have bw13 := b12.trans (ba13.mono b12.size)
                have hs13 := bw13.size
                have HB13 := hide bw13
                have HO12 := hide how13
                clear hown12 hgrow12 own12 b12 x0 x1 x2 xl ba13 hn13 bw13 hz1a hz1b
                go_wp2_with (first
                  | (at_builtin; refine wpList_append_gen rfl _ _ 22 rfl wi.heap.size 32 i0 (.agg #[.string ⟨#[]⟩, .slice none 0 0, .bool false]) Try.underlying22 hi hz0 3 48 (by omega) hz1 hz2 rfl (.slice p12 J d12) J (elC opC (Lo.take J)) rfl how13 ⟨w12.heap.size, 0, none⟩ 1 1 (opC ⟨ak, tp, tn, tc, ad⟩) rfl rfl hc13 (opC_one _) (unhide HZ).1 (unhide HZ).2.1 hs13 ?_))
                intro v13 w13 hown13 hgrow13 _
                have b13 : Below wi.heap.size wi w13 := (unhide HB13).grown hgrow13 hs13 (fun q hq => ((unhide HO12).lt q hq).1)
                obtain ⟨g13, d13, hv13⟩ : ∃ g c, v13 = .slice (some ⟨g, 0, none⟩) (J + 1) c := by
                  rcases hown13.2 with ⟨_, h0⟩ | ⟨g', cap', cur, e, _⟩
                  · exact absurd h0 (by omega)
                  · exact ⟨_, _, e⟩
                subst hv13
                have hk13 := (unhide HKI).below b13
                have HK13 := hide hk13
                have HO13 := hide hown13
                have HB14 := hide b13
                have hs14 := b13.size
                clear hgrow13 hown13 b13 hk13 how13 hc13 hs13 HO12 HB13 y0 y1 y2
                go_wp2_with (first
                  | (refine wpList_kslice_l rfl 22 32 _ _ rfl 3 Try.underlying22 (by kernel_rfl) (some ⟨g, 0, none⟩) m oc (elC opC Lo) J rfl rfl (unhide HK13) (unhide HJM).1 ?_; intro q14 c14 hk14; have HK14 := hide hk14; clear hk14)
                  | (at_builtin; refine wpList_append_krow rfl _ _ 22 rfl wi.heap.size 32 i0 (.agg #[.string ⟨#[]⟩, .slice none 0 0, .bool false]) Try.underlying22 hi hz0 3 48 (by omega) hz1 hz2 rfl _ (J + 1) _ rfl (unhide HO13) q14 (m - J) c14 _ rfl (unhide HK14) (fun u hu => elC_one_cell opC_one Lo u (List.mem_of_mem_drop hu)) (unhide HZ).2.2.1 (unhide HZ).2.2.2 hs14 ?_))
                intro v14 w14 hown14 hgrow14 _
                have b14 : Below wi.heap.size wi w14 := (unhide HB14).grown hgrow14 hs14 (fun q hq => ((unhide HO13).lt q hq).1)
                have HFI : Hid (EO 32 3 opC w14 w.heap.size v14 (Lo.take J ++ (⟨ak, tp, tn, tc, ad⟩, av) :: Lo.drop J) ∧ Below w.heap.size w w14 ∧ (Lo.take J ++ (⟨ak, tp, tn, tc, ad⟩, av) :: Lo.drop J).length = m + 1 ∧ (∀ x ∈ Lo.take J ++ (⟨ak, tp, tn, tc, ad⟩, av) :: Lo.drop J, x.1.key.size ≤ 140737488351232)) := by
                  obtain ⟨heoc, hbc, hblk, hrow, hap, hvbne, hmk, hkz, hm, hkk, hrm⟩ := unhide HQ
                  have hJ := unhide HJM
                  have hlen : (Lo.take J ++ (⟨ak, tp, tn, tc, ad⟩, av) :: Lo.drop J).length = m + 1 := by simp; omega
                  have hbi := unhide HBI
                  have heoi := unhide HEI
                  have hmem : ∀ x ∈ Lo.take J ++ (⟨ak, tp, tn, tc, ad⟩, av) :: Lo.drop J, Row wi (vof x.1) x.2 ∧ x.1.key.size ≤ 140737488351232 := by
                    intro x hx
                    rw [List.mem_append, List.mem_cons] at hx
                    rcases hx with hx | rfl | hx
                    · exact ⟨(heoi.2 x (List.mem_of_mem_take hx)).1, hkz x (List.mem_of_mem_take hx)⟩
                    · exact ⟨hrow.below hbi, hkk⟩
                    · exact ⟨(heoi.2 x (List.mem_of_mem_drop hx)).1, hkz x (List.mem_of_mem_drop hx)⟩
                  have hown : w14.ownsRow wi.heap.size 32 3 v14 (Lo.take J ++ (⟨ak, tp, tn, tc, ad⟩, av) :: Lo.drop J).length (elC opC (Lo.take J ++ (⟨ak, tp, tn, tc, ad⟩, av) :: Lo.drop J)) := by
                    rw [hlen, elC_app, show ((⟨ak, tp, tn, tc, ad⟩, av) :: Lo.drop J : List El) = [(⟨ak, tp, tn, tc, ad⟩, av)] ++ Lo.drop J from rfl, elC_app, elC_one, ← elC_drop opC_len Lo J (by omega), show m + 1 = J + 1 + (m - J) by omega]
                    exact hown14
                  have hEO : EO 32 3 opC w14 wi.heap.size v14 (Lo.take J ++ (⟨ak, tp, tn, tc, ad⟩, av) :: Lo.drop J) := ⟨hown, fun x hx => ⟨(hmem x hx).1.below b14, fun b off e hne ho => by
                    have h1 := row_lt (hmem x hx).1 e hne
                    have h2 := (hown.lt b ho).1
                    omega⟩⟩
                  have hwi := hbc.trans (hbi.mono hbc.size)
                  exact ⟨hEO.base hwi.size, hwi.trans (b14.mono hwi.size), hlen, fun x hx => (hmem x hx).2⟩
                obtain ⟨g14, d14, hv14⟩ : ∃ p c, v14 = .slice p (J + 1 + (m - J)) c := by
                  rcases hown14.2 with ⟨e, h0⟩ | ⟨g', cap', cur, e, _⟩
                  · exact ⟨none, 0, by rw [e, h0]⟩
                  · exact ⟨_, _, e⟩
                subst hv14
                clear hown14 hgrow14 b14 hs14
                go_wp2
                obtain ⟨f1, f2, f3, f4⟩ := unhide HFI
                obtain ⟨heoc, hbc, hblk, hrow, hap, hvbne, hmk, hkz, hm, hkk, hrm⟩ := unhide HQ
                go_roundw
                case rel =>
                  refine ⟨k + 1, m + 1, _, by omega, by go_num, f3, by omega, ?_, f4, f1, f2⟩
                  rw [unhide HDK, unhide HIN, dat_app, dat_take]
                  simp only [dat, List.map_cons, List.map_drop]
                case measure => simp [intOf]; omega

          · have hJe : J = m := by omega
            have hat : atD (dat Lo) (ak, av, ad) = J := atD_of (by rw [dat_len, (unhide HQ).2.2.2.2.2.2.2.2.1]; exact hJm) hlo (fun x hx => by
              have := (List.getElem?_eq_some_iff.1 hx).1
              rw [dat_len, (unhide HQ).2.2.2.2.2.2.2.2.1] at this
              omega)
            have HIN : Hid (insD (dat Lo) (ak, av, ad) = (dat Lo).take J ++ (ak, av, ad) :: (dat Lo).drop J) := by
              unfold Hid insD
              rw [hat, if_neg]
              rw [List.getElem?_eq_none (by rw [dat_len, (unhide HQ).2.2.2.2.2.2.2.2.1]; omega)]
              simp
            obtain ⟨CC, hCC⟩ : ∃ CC : World → Prop, CC = fun w' => Below wc.heap.size wc w' := ⟨_, rfl⟩
            have HC0 : Hid (CC { wr with drawn := wr.drawn + 1 }) := by rw [hCC]; exact hbj.drew
            have HCD : Hid (∀ w', CC w' → CC { w' with drawn := w'.drawn + 1 }) := by rw [hCC]; exact fun w' hw => hw.drew
            have HCW : Hid (∀ w', CC w' → Below wc.heap.size wc w') := by rw [hCC]; exact fun w' hw => hw
            have hd1 : decide ((J : Int) < (m : Int)) = false := decide_eq_false hjm
            have hd2 : decide (J < m) = false := decide_eq_false (by omega)
            clear hlo hbj hst hat hCC hJe
            go_wp2_with fail
            refine region_stay CC (by kernel_rfl) (by kernel_rfl) (unhide HC0) ?_
            repeat (first
              | go_big_quiet_skip
              | (go_big_quiet_want
                 apply Exists.intro
                 refine ⟨fun w' hw' => ?_, ?_⟩
                 · go_simp
                   first | done | rfl
                 simp only [Act.put, List.setIfInBounds_toArray, List.set_cons_zero, List.set_cons_succ]
                 go_big_quiet_on))
            refine wpQuiet_nil ?_
            intro wh hwh
            have HC1 := hide (unhide HCD wh hwh)
            clear hwh HC0
            go_wp2_with fail
            refine region_stay CC (by kernel_rfl) (by kernel_rfl) (unhide HC1) ?_
            repeat (first
              | go_big_quiet_skip
              | (go_big_quiet_want
                 apply Exists.intro
                 refine ⟨fun w' hw' => ?_, ?_⟩
                 · go_simp
                   first | done | rfl
                 simp only [Act.put, List.setIfInBounds_toArray, List.set_cons_zero, List.set_cons_succ]
                 go_big_quiet_on))
            refine wpQuiet_nil ?_
            intro wi hwi
            have HBI := hide (unhide HCW wi hwi)
            clear hwi HC1
            -- three appends, from the world wi on: HBI : Below wc wi; HIN : what insertion makes
            obtain ⟨heoc, hbc, hblk, hrow, hap, hvbne, hmk, hkz, hm, hkk, hrm⟩ := unhide HQ
            have heoi := heoc.below (unhide HBI)
            have hvi := ((unhide HBI).block _ (Array.getElem?_eq_some_iff.1 hblk).1).trans hblk
            have hki := (heoi.el opC_len).1
            rw [hm] at hki
            have x0 := cell_of_row wi vb 0 _ _ (0, 0) hvi
            have x1 := cell_of_row wi vb 1 _ _ (0, 0) hvi
            have x2 := cell_of_row wi vb 2 _ _ (0, 0) hvi
            simp only [List.getElem?_toArray, List.getElem?_cons_succ, List.getElem?_cons_zero] at x0 x1 x2
            have HKI := hide hki
            have HEI := hide heoi
            have HX := hide (And.intro x0 (And.intro x1 (And.intro x2 (Array.getElem?_eq_some_iff.1 hvi).1)))
            have hz1a : 0 + J ≤ maxLen := by unfold maxLen; omega
            have hz1b : (0 + J) * 48 ≤ 140737488355328 := by omega
            have HZ : Hid (J + 1 ≤ maxLen ∧ (J + 1) * 48 ≤ 140737488355328 ∧ J + 1 + (m - J) ≤ maxLen ∧ (J + 1 + (m - J)) * 48 ≤ 140737488355328) := by unfold Hid maxLen; omega
            have HJM : Hid (J ≤ m ∧ m = Lo.length) := ⟨hJm, hm.symm⟩
            clear heoc hbc hblk hrow hap hvbne hmk hkz hm hkk hrm heoi hvi hki x0 x1 x2
            go_wp2_with (first
              | (refine wpList_kslice_h rfl 22 32 _ _ rfl 3 Try.underlying22 (by kernel_rfl) op m oc (elC opC Lo) J rfl rfl (unhide HKI) (unhide HJM).1 ?_; intro q12 c12 hk12; have HK12 := hide hk12; clear hk12)
              | (at_builtin; refine wpList_append_krow rfl _ _ 22 rfl wi.heap.size 32 i0 (.agg #[.string ⟨#[]⟩, .slice none 0 0, .bool false]) Try.underlying22 hi hz0 3 48 (by omega) hz1 hz2 rfl _ 0 [] rfl (World.ownsRow_nil _ _ _ _) q12 J c12 _ rfl (unhide HK12) (fun u hu => elC_one_cell opC_one Lo u (List.mem_of_mem_take hu)) hz1a hz1b (Nat.le_refl _) ?_))
            intro v12 w12 hown12 hgrow12 _
            have own12 : w12.ownsRow wi.heap.size 32 3 v12 J (elC opC (Lo.take J)) := by
              rw [← elC_take opC_len Lo J (by have := unhide HJM; omega)]
              simpa using hown12
            have b12 : Below wi.heap.size wi w12 := (Below.refl _ _).grown hgrow12 (Nat.le_refl _) (fun q hq => by simp [Value.ownBlock] at hq)
            obtain ⟨p12, d12, hv12⟩ : ∃ p c, v12 = .slice p J c := by
              rcases own12.2 with ⟨e, h0⟩ | ⟨g', cap', cur, e, _⟩
              · exact ⟨none, 0, by rw [e, h0]⟩
              · exact ⟨_, _, e⟩
            subst hv12
            obtain ⟨x0, x1, x2, xl⟩ := unhide HX
            have y0 := (b12.cell (p := ⟨vb, 0, none⟩) xl).trans x0
            have y1 := (b12.cell (p := ⟨vb, 1, none⟩) xl).trans x1
            have y2 := (b12.cell (p := ⟨vb, 2, none⟩) xl).trans x2
            have ba13 : Below w12.heap.size w12 (w12.alloc (.cells #[.string ak, .slice tp tn tc, .bool ad] 32)) := (Below.refl _ _).alloc (Nat.le_refl _) _
            have how13 := owns_below4 own12 ba13
            have hn13 : (w12.alloc (.cells #[.string ak, .slice tp tn tc, .bool ad] 32)).heap[w12.heap.size]? = some (.cells #[.string ak, .slice tp tn tc, .bool ad] 32 (0, 0)) := heap_alloc_new _ _
            have hc13 : ∀ q u, (opC ⟨ak, tp, tn, tc, ad⟩)[q]? = some u → (w12.alloc (.cells #[.string ak, .slice tp tn tc, .bool ad] 32)).cell? ((⟨w12.heap.size, 0, none⟩ : Addr).add q) = some u := by
              intro q u hq
              rw [Addr.add_lit, Nat.zero_add, cell_of_row _ w12.heap.size q _ _ (0, 0) hn13]
              simpa [opC] using hq
            have bw13 := b12.trans (ba13.mono b12.size)
            have hs13 := bw13.size
            have HB13 := hide bw13
            have HO12 := hide how13
            clear hown12 hgrow12 own12 b12 x0 x1 x2 xl ba13 hn13 bw13 hz1a hz1b
            go_wp2_with (first
              | (at_builtin; refine wpList_append_gen rfl _ _ 22 rfl wi.heap.size 32 i0 (.agg #[.string ⟨#[]⟩, .slice none 0 0, .bool false]) Try.underlying22 hi hz0 3 48 (by omega) hz1 hz2 rfl (.slice p12 J d12) J (elC opC (Lo.take J)) rfl how13 ⟨w12.heap.size, 0, none⟩ 1 1 (opC ⟨ak, tp, tn, tc, ad⟩) rfl rfl hc13 (opC_one _) (unhide HZ).1 (unhide HZ).2.1 hs13 ?_))
            intro v13 w13 hown13 hgrow13 _
            have b13 : Below wi.heap.size wi w13 := (unhide HB13).grown hgrow13 hs13 (fun q hq => ((unhide HO12).lt q hq).1)
            obtain ⟨g13, d13, hv13⟩ : ∃ g c, v13 = .slice (some ⟨g, 0, none⟩) (J + 1) c := by
              rcases hown13.2 with ⟨_, h0⟩ | ⟨g', cap', cur, e, _⟩
              · exact absurd h0 (by omega)
              · exact ⟨_, _, e⟩
            subst hv13
            have hk13 := (unhide HKI).below b13
            have HK13 := hide hk13
            have HO13 := hide hown13
            have HB14 := hide b13
            have hs14 := b13.size
            clear hgrow13 hown13 b13 hk13 how13 hc13 hs13 HO12 HB13 y0 y1 y2
            go_wp2_with (first
              | (refine wpList_kslice_l rfl 22 32 _ _ rfl 3 Try.underlying22 (by kernel_rfl) op m oc (elC opC Lo) J rfl rfl (unhide HK13) (unhide HJM).1 ?_; intro q14 c14 hk14; have HK14 := hide hk14; clear hk14)
              | (at_builtin; refine wpList_append_krow rfl _ _ 22 rfl wi.heap.size 32 i0 (.agg #[.string ⟨#[]⟩, .slice none 0 0, .bool false]) Try.underlying22 hi hz0 3 48 (by omega) hz1 hz2 rfl _ (J + 1) _ rfl (unhide HO13) q14 (m - J) c14 _ rfl (unhide HK14) (fun u hu => elC_one_cell opC_one Lo u (List.mem_of_mem_drop hu)) (unhide HZ).2.2.1 (unhide HZ).2.2.2 hs14 ?_))
            intro v14 w14 hown14 hgrow14 _
            have b14 : Below wi.heap.size wi w14 := (unhide HB14).grown hgrow14 hs14 (fun q hq => ((unhide HO13).lt q hq).1)
            have HFI : Hid (EO 32 3 opC w14 w.heap.size v14 (Lo.take J ++ (⟨ak, tp, tn, tc, ad⟩, av) :: Lo.drop J) ∧ Below w.heap.size w w14 ∧ (Lo.take J ++ (⟨ak, tp, tn, tc, ad⟩, av) :: Lo.drop J).length = m + 1 ∧ (∀ x ∈ Lo.take J ++ (⟨ak, tp, tn, tc, ad⟩, av) :: Lo.drop J, x.1.key.size ≤ 140737488351232)) := by
              obtain ⟨heoc, hbc, hblk, hrow, hap, hvbne, hmk, hkz, hm, hkk, hrm⟩ := unhide HQ
              have hJ := unhide HJM
              have hlen : (Lo.take J ++ (⟨ak, tp, tn, tc, ad⟩, av) :: Lo.drop J).length = m + 1 := by simp; omega
              have hbi := unhide HBI
              have heoi := unhide HEI
              have hmem : ∀ x ∈ Lo.take J ++ (⟨ak, tp, tn, tc, ad⟩, av) :: Lo.drop J, Row wi (vof x.1) x.2 ∧ x.1.key.size ≤ 140737488351232 := by
                intro x hx
                rw [List.mem_append, List.mem_cons] at hx
                rcases hx with hx | rfl | hx
                · exact ⟨(heoi.2 x (List.mem_of_mem_take hx)).1, hkz x (List.mem_of_mem_take hx)⟩
                · exact ⟨hrow.below hbi, hkk⟩
                · exact ⟨(heoi.2 x (List.mem_of_mem_drop hx)).1, hkz x (List.mem_of_mem_drop hx)⟩
              have hown : w14.ownsRow wi.heap.size 32 3 v14 (Lo.take J ++ (⟨ak, tp, tn, tc, ad⟩, av) :: Lo.drop J).length (elC opC (Lo.take J ++ (⟨ak, tp, tn, tc, ad⟩, av) :: Lo.drop J)) := by
                rw [hlen, elC_app, show ((⟨ak, tp, tn, tc, ad⟩, av) :: Lo.drop J : List El) = [(⟨ak, tp, tn, tc, ad⟩, av)] ++ Lo.drop J from rfl, elC_app, elC_one, ← elC_drop opC_len Lo J (by omega), show m + 1 = J + 1 + (m - J) by omega]
                exact hown14
              have hEO : EO 32 3 opC w14 wi.heap.size v14 (Lo.take J ++ (⟨ak, tp, tn, tc, ad⟩, av) :: Lo.drop J) := ⟨hown, fun x hx => ⟨(hmem x hx).1.below b14, fun b off e hne ho => by
                have h1 := row_lt (hmem x hx).1 e hne
                have h2 := (hown.lt b ho).1
                omega⟩⟩
              have hwi := hbc.trans (hbi.mono hbc.size)
              exact ⟨hEO.base hwi.size, hwi.trans (b14.mono hwi.size), hlen, fun x hx => (hmem x hx).2⟩
            obtain ⟨g14, d14, hv14⟩ : ∃ p c, v14 = .slice p (J + 1 + (m - J)) c := by
              rcases hown14.2 with ⟨e, h0⟩ | ⟨g', cap', cur, e, _⟩
              · exact ⟨none, 0, by rw [e, h0]⟩
              · exact ⟨_, _, e⟩
            subst hv14
            clear hown14 hgrow14 b14 hs14
            go_wp2
            obtain ⟨f1, f2, f3, f4⟩ := unhide HFI
            obtain ⟨heoc, hbc, hblk, hrow, hap, hvbne, hmk, hkz, hm, hkk, hrm⟩ := unhide HQ
            go_roundw
            case rel =>
              refine ⟨k + 1, m + 1, _, by omega, by go_num, f3, by omega, ?_, f4, f1, f2⟩
              rw [unhide HDK, unhide HIN, dat_app, dat_take]
              simp only [dat, List.map_cons, List.map_drop]
            case measure => simp [intOf]; omega

    · have HA := hide (And.intro hmk (And.intro hd (And.intro heo (And.intro hb hm))))
      have hkl : k = l := by omega
      have HKL := hide hkl
      clear hmk hd hkz heo hb hm hst hkl
      go_wp2
      go_ret
      obtain ⟨hmk, hd, heo, hb, hm⟩ := unhide HA
      refine ⟨_, rfl, Lo, ?_, by omega, heo, hb⟩
      rw [hd, unhide HKL, unhide HLN, ← dat_len, List.take_length]
end Go.Proofs.Ytehnjanllemnlaa
