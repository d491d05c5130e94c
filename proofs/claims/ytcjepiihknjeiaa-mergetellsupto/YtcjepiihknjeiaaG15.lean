/- Texts of ours, one behind the other: CelPlaces, MgRef2, MgChk. -/
import Derived.Test.YtcjepiihknjeiaaG6
import Derived.Test.YtcjepiihknjeiaaG8
import Derived.Test.YtcjepiihknjeiaaG14
import Derived.Laws.EntriesVeiled
import Derived.Deep.OwnRows
import Derived.Laws.OwnMore
import Derived.RangeFuncRecord
/- The landed package cells: objects, placesOf. -/
namespace Go.Proofs.Ytcjepiihknjeiaa
open Go.RowKit Go.Shelf
attribute [local go_sem] Oper.semAt_some

theorem Try.infoBool : (Try.prog.info? 4).map (fun i => (i.zero, i.size, i.bytes)) = some (some (.bool false), 1, 1) := by kernel_rfl
theorem made_arr (z : Value) (n : Nat) : madeCells #[z] n = (List.replicate n z).toArray := by
  rw [← toList_madeCells_one z n]
theorem run_make_bools (t : TypeId) (ht : Try.prog.underlying t = some (.slice 4)) (n : Nat) (hn : n < 70368744177664) (w : World) :
    (Instr.makeSlice t (.int .i64 (n : Int)) (.int .i64 (n : Int))).run Try.prog w = .ok (.slice (some ⟨w.heap.size, 0, none⟩) n n) (w.alloc (.cells (Array.replicate n (.bool false)) 4)) := by
  rw [← List.toArray_replicate, ← made_arr]
  exact run_make_row' t 4 (.bool false) 1 ht Try.infoBool rfl .i64 .i64 n (by omega) (by omega) w
theorem keep_set (W : World) (b j : Nat) (v : Value) : Keep (fun k => k = b) W (W.setCell ⟨b, j, none⟩ v) := ⟨rfl, rfl, rfl, by simp [World.setCell], fun k _ hk => heap_setCell_other W ⟨b, j, none⟩ k _ (fun e => hk (by simp at e; exact e.symm ▸ rfl))⟩
/-- Behind a range, where its block for deferred calls was taken up. -/
theorem below_put {w w1 W : World} {C0 C : Nat → Prop} {dd : Nat} (h1 : Below w.heap.size w w1) (hm : Moves C0 C w1 W) (hC : ∀ k, C0 k → w.heap.size ≤ k) (hdd : w1.heap.size ≤ dd) (o : Obj) : Below w.heap.size w (W.putObj dd o) := by
  have h2 := hm.keep.below h1.size hC
  have h3 := h1.trans h2
  have hp := keep_put W dd o
  have hs := h1.size
  exact h3.trans (hp.below h3.size (fun k e => by omega))
theorem SOk.at {α β : Type} {b : Nat} {J : List α → (Nat → Prop) → World → Prop} (h : SOk b J) (pre : List α) : SOk b (fun (_ : List β) => J pre) :=
  ⟨fun _ C W W' G h1 h2 h3 h4 => h.stays pre C W W' G h1 h2 h3 h4, fun _ C W h1 => h.lt pre C W h1⟩
theorem hs_block {w : World} {a : Option Addr} {n cap : Nat} {vs : List Value} (h : VRow w (.slice a n cap) vs) (hne : vs ≠ []) (k : Nat) (hk : (Value.slice a n cap).ownBlock = some k) : k < w.heap.size := by
  obtain ⟨b, off, c, e, _, _, hc⟩ := h.open hne
  simp only [Value.slice.injEq] at e
  obtain ⟨rfl, _, _⟩ := e
  simp [Value.ownBlock] at hk
  subst hk
  cases vs with
  | nil => exact absurd rfl hne
  | cons v vs => exact World.block_lt_of_cell? w _ (hc 0 v rfl)

end Go.Proofs.Ytcjepiihknjeiaa

/- The document's own answer of layer 12: Of. -/
namespace Go.Proofs.Ytcjepiihknjeiaa
open Go.RowKit

theorem ecells {w : World} {g e : Nat} {a b c d : Value} (h : w.heap[g]? = some (.cells #[a, b, c, d] e (0, 0))) :
    w.cell? ⟨g, 0, none⟩ = some a ∧ w.cell? ⟨g, 1, none⟩ = some b ∧ w.cell? ⟨g, 2, none⟩ = some c ∧ w.cell? ⟨g, 3, none⟩ = some d ∧ ∀ j, w.frozen? ⟨g, j, none⟩ = false := by
  refine ⟨?_, ?_, ?_, ?_, fun j => frozen_of_block h⟩
  all_goals (rw [cell_of_row w g _ _ e (0, 0) h]; rfl)
theorem eset {w : World} {g e : Nat} {a b c d x y z t : Value} (h : w.heap[g]? = some (.cells #[a, b, c, d] e (0, 0))) : ((((w.setCell ⟨g, 0, none⟩ x).setCell ⟨g, 1, none⟩ y).setCell ⟨g, 2, none⟩ z).setCell ⟨g, 3, none⟩ t).heap[g]? = some (.cells #[x, y, z, t] e (0, 0)) ∧ Keep (fun k => k = g) w ((((w.setCell ⟨g, 0, none⟩ x).setCell ⟨g, 1, none⟩ y).setCell ⟨g, 2, none⟩ z).setCell ⟨g, 3, none⟩ t) := by
  have h1 := heap_setCell_same w g 0 _ _ x h
  have h2 := heap_setCell_same _ g 1 _ _ y h1
  have h3 := heap_setCell_same _ g 2 _ _ z h2
  have h4 := heap_setCell_same _ g 3 _ _ t h3
  exact ⟨by rw [h4]; rfl, (((keep_set w g 0 x).trans (keep_set _ g 1 y) (fun _ e => Or.inl e)).trans (keep_set _ g 2 z) (fun _ e => Or.inl e)).trans (keep_set _ g 3 t) (fun _ e => Or.inl e)⟩
def eV (x : En) : Value := .agg #[.string x.1, .int .u64 x.2.1, .int .i64 x.2.2.1, .int .i64 x.2.2.2]
def e0 : En := (⟨#[]⟩, 0, 0, 0)
theorem ofE_at {l : List En} {key : ByteArray} {k : Nat} {x : En} (hk : l[k]? = some x) (he : x.1 = key) (hn : ∀ j y, j < k → l[j]? = some y → y.1 ≠ key) : ofE l key = some x := by
  induction l generalizing k with
  | nil => simp at hk
  | cons y l ih =>
    unfold ofE
    cases k with
    | zero => simp at hk; subst hk; rw [if_pos he]
    | succ k =>
      rw [if_neg (hn 0 y (by omega) rfl)]
      exact ih (by simpa using hk) (fun j z hj hz => hn (j + 1) z (by omega) (by simpa using hz))

set_option maxRecDepth 20000 in
set_option maxHeartbeats 2000000 in
theorem eof_any (v : Value) (L : List En) (key : ByteArray) (w : World) (h : ER w v L) :
    Calls Try.prog 20 #[v, .string key] w fun e w' => e = .returned (.tuple #[eV ((ofE L key).getD e0), .bool (ofE L key).isSome]) ∧ Below w.heap.size w w' := by
  have HS := hide (fun (hne : 0 < L.length) => h.seen hne)
  obtain ⟨p, c, rfl, g1, g2, _⟩ := h.shape
  have HL := hide (show L.length ≤ 9223372036854775807 by unfold maxLen at g2; omega)
  obtain ⟨W0, hW0⟩ : ∃ W0, w.alloc (.cells #[.string ⟨#[]⟩, .int .u64 0, .int .i64 0, .int .i64 0] 37) = W0 := ⟨_, rfl⟩
  have hb0 : Below w.heap.size w W0 := by rw [← hW0]; exact (Below.refl _ _).alloc (Nat.le_refl _) _
  have hx : W0.heap[w.heap.size]? = some (.cells #[.string ⟨#[]⟩, .int .u64 0, .int .i64 0, .int .i64 0] 37 (0, 0)) := by rw [← hW0]; exact World.alloc_heap_new _ _
  have HB0 := hide hb0
  have HX := hide hx
  clear h g1 g2 hb0 hx
  go_enter Try.func20, Try.ntmps20
  go_wp2_with fail
  go_loopw [6] (fun iv wr => ∃ k : Nat, iv = .int .i64 (k : Int) ∧ k ≤ L.length ∧ Hid (∀ j y, j < k → L[j]? = some y → y.1 ≠ key) ∧ Below w.heap.size w wr ∧ wr.heap[w.heap.size]? = some (.cells #[.string ⟨#[]⟩, .int .u64 0, .int .i64 0, .int .i64 0] 37 (0, 0))) (fun iv _ => L.length - (intOf iv).toNat)
  case atStart => exact ⟨0, rfl, Nat.zero_le _, fun j y hj => by omega, by subst hW0; exact unhide HB0, by subst hW0; exact unhide HX⟩
  case round =>
    obtain ⟨k, rfl, hk, hn, hb, hx⟩ := hrel
    obtain ⟨z0, z1, z2, z3, zf⟩ := ecells hx
    have f0 := zf 0
    have f1 := zf 1
    have f2 := zf 2
    have f3 := zf 3
    by_cases hlt : k < L.length
    · have hkI : (k : Int) < (L.length : Int) := by omega
      obtain ⟨b, o, c', e1, _, _, hsn⟩ := unhide HS (by omega)
      simp only [Value.slice.injEq] at e1
      obtain ⟨rfl, _, rfl⟩ := e1
      obtain ⟨x, hxk⟩ : ∃ x, L[k]? = some x := ⟨_, List.getElem?_eq_getElem hlt⟩
      obtain ⟨y0, y1, y2, y3⟩ := hsn k x hxk wr hb
      have hknw : IntKind.i64.wrap ((k : Int) + 1) = (k : Int) + 1 := by have := unhide HL; rw [IntKind.wrap_i64]; omega
      have HK := hide (And.intro hlt (And.intro hb hx))
      by_cases he : x.1 = key
      · have HO := hide (ofE_at hxk he (unhide hn))
        subst he
        clear hn hsn hk hlt hb hx hxk zf
        go_wp2_with fail
        obtain ⟨_, hb, hx⟩ := unhide HK
        obtain ⟨s4, K4⟩ := eset (x := .string x.1) (y := .int .u64 x.2.1) (z := .int .i64 x.2.2.1) (t := .int .i64 x.2.2.2) hx
        obtain ⟨u0, u1, u2, u3, _⟩ := ecells s4
        refine bodyPost_ret (v := .tuple #[.agg #[.string x.1, .int .u64 x.2.1, .int .i64 x.2.2.1, .int .i64 x.2.2.2], .bool true]) (by simp [results, Try.results20, go_sem, u0, u1, u2, u3]) rfl ?_
        exact ⟨by rw [unhide HO]; rfl, hb.trans (K4.below hb.size (fun k e => by omega))⟩
      · have hbe : (x.1.toList == key.toList) = false := beq_eq_false_iff_ne.2 (fun h => he (bl_inj h))
        have HN : Hid (∀ j y, j < k + 1 → L[j]? = some y → y.1 ≠ key) := fun j y hj hy => by
          by_cases g : j = k
          · subst g; rw [hxk] at hy; cases hy; exact he
          · exact unhide hn j y (by omega) hy
        clear hn hsn hk hlt hb hx hxk zf
        go_wp2_with fail
        refine ⟨⟨k + 1, by go_num, (unhide HK).1, HN, (unhide HK).2.1, (unhide HK).2.2⟩, ?_⟩
        have := (unhide HK).1
        simp [intOf]
        omega
    · have hge : ¬ (k : Int) < (L.length : Int) := by omega
      have HO : Hid (ofE L key = none) := ofE_none L key (fun y hy => by
        obtain ⟨j, hj, rfl⟩ := List.mem_iff_getElem.1 hy
        exact unhide hn j _ (by omega) (List.getElem?_eq_getElem hj))
      have HB := hide (And.intro hb hx)
      clear hn hk hlt hb hx zf
      go_wp2_with fail
      obtain ⟨hb, hx⟩ := unhide HB
      obtain ⟨s4, K4⟩ := eset (x := .string ⟨#[]⟩) (y := .int .u64 0) (z := .int .i64 0) (t := .int .i64 0) hx
      obtain ⟨u0, u1, u2, u3, _⟩ := ecells s4
      refine bodyPost_ret (v := .tuple #[.agg #[.string ⟨#[]⟩, .int .u64 0, .int .i64 0, .int .i64 0], .bool false]) (by simp [results, Try.results20, go_sem, u0, u1, u2, u3]) rfl ?_
      exact ⟨by rw [unhide HO]; rfl, hb.trans (K4.below hb.size (fun k e => by omega))⟩
end Go.Proofs.Ytcjepiihknjeiaa

/- Package merge as landed: Check. -/
namespace Go.Proofs.Ytcjepiihknjeiaa
open Go.RowKit

macro "calm_walk" h:term:max m:term:max l:term:max : tactic => `(tactic| (
  repeat (first
    | go_big_quiet_skip
    | (go_big_quiet_want
       apply Exists.intro
       refine ⟨fun w' hw' => ?_, ?_⟩
       · obtain ⟨c0, c1⟩ := unhide $h w' hw'
         go_simp
         first | done | (with_reducible exact unhide $m w' hw') | (with_reducible exact unhide $l w' hw') | rfl
       simp only [Act.put, List.setIfInBounds_toArray, List.set_cons_zero, List.set_cons_succ]
       go_big_quiet_on))
  refine wpQuiet_nil ?_))

set_option maxRecDepth 20000 in
set_option maxHeartbeats 4000000 in
theorem mcheck_any (v : Value) (L : List En) (w : World) (h : ER w v L) (hlen : L.length ≤ 4611686018427387904) :
    Calls Try.prog 16 #[v] w fun e w' => e = .returned (.int .i64 (if rightE L = true then 0 else 11)) ∧ Below w.heap.size w w' := by
  have HS := hide (fun (hne : 0 < L.length) => h.seen hne)
  obtain ⟨p1, c1, rfl, _⟩ := h.shape
  have HL := hide hlen
  obtain ⟨R, hR⟩ : ∃ R : Int, R = if rightE L = true then 0 else 11 := ⟨_, rfl⟩
  rw [← hR]
  have HRR := hide hR
  clear h hlen hR
  go_enter Try.func16, Try.ntmps16
  go_wp2_with fail
  go_loopw [7] (fun iv wr => ∃ k : Nat, iv = .int .i64 (k : Int) ∧ k ≤ L.length ∧ Hid (∀ j, j < L.length → j < k → okE L j = true) ∧ Below w.heap.size w wr) (fun iv _ => L.length - (intOf iv).toNat)
  case atStart => exact ⟨0, rfl, Nat.zero_le _, fun j _ hj => by omega, Below.refl _ _⟩
  case round =>
    obtain ⟨k, rfl, hk, hn, hb⟩ := hrel
    by_cases hlt : k < L.length
    · have hkI : (k : Int) < (L.length : Int) := by omega
      have i0 : k - 1 < L.length := by omega
      obtain ⟨b, o, c', e1, _, _, hsn⟩ := unhide HS (by omega)
      simp only [Value.slice.injEq] at e1
      obtain ⟨rfl, _, rfl⟩ := e1
      obtain ⟨x, hx⟩ : ∃ x, L[k]? = some x := ⟨_, List.getElem?_eq_getElem hlt⟩
      obtain ⟨y, hy⟩ : ∃ y, L[k - 1]? = some y := ⟨_, List.getElem?_eq_getElem i0⟩
      have HOK : Hid (okE L k = (kmay x.1 && (decide (k = 0) || tl (kE y) (kE x)))) := by unfold Hid okE; rw [hx, hy]
      have HYES := hide (show okE L k = true → ∀ j, j < L.length → j < k + 1 → okE L j = true by
        intro ho j hj hjk
        by_cases g : j = k
        · subst g; exact ho
        · exact unhide hn j hj (by omega))
      have HNO := hide (fun (ho : okE L k = false) => rightE_no L k hlt ho)
      obtain ⟨y0, y1, y2, y3⟩ := hsn k x hx wr hb
      obtain ⟨W2, hW2⟩ : ∃ W2, wr.alloc (.cells #[.string x.1, .int .u64 x.2.1, .int .i64 x.2.2.1, .int .i64 x.2.2.2] 37) = W2 := ⟨_, rfl⟩
      have hb2 : Below wr.heap.size wr W2 := by rw [← hW2]; exact (Below.refl _ _).alloc (Nat.le_refl _) _
      have hx2 : W2.heap[wr.heap.size]? = some (.cells #[.string x.1, .int .u64 x.2.1, .int .i64 x.2.2.1, .int .i64 x.2.2.2] 37 (0, 0)) := by rw [← hW2]; exact World.alloc_heap_new _ _
      have hbw := hb.trans (hb2.mono hb.size)
      obtain ⟨CC, hCC⟩ : ∃ CC : World → Prop, CC = fun w' => w' = W2.drew := ⟨_, rfl⟩
      have HC0 : Hid (CC { W2 with drawn := W2.drawn + 1 }) := by unfold Hid; rw [hCC]; rfl
      have HCW : Hid (∀ w', CC w' → w' = W2.drew) := by unfold Hid; rw [hCC]; exact fun w' hw => hw
      have HCC := hide (fun (w' : World) (hw' : CC w') => show w'.cell? ⟨b, o + (k - 1) * 4, none⟩ = some (.string y.1) ∧ w'.cell? ⟨wr.heap.size, 0, none⟩ = some (.string x.1) from by
        obtain rfl := unhide HCW w' hw'
        exact ⟨(hsn (k - 1) y hy _ (hbw.trans ((Below.refl _ W2).drew.mono hbw.size))).1, (ecells (w := W2.drew) hx2).1⟩)
      have HMY : Hid (∀ W, CC W → Calls Try.prog 28 #[.string x.1] W fun e w' => e = .returned (.bool (kmay x.1)) ∧ CC w') := fun W hW => (kmay_any x.1 W).mono fun e w'' hx => ⟨hx.1, hx.2 ▸ hW⟩
      have HML : Hid (∀ W, CC W → Calls Try.prog 29 #[.string y.1, .string x.1] W fun e w' => e = .returned (.bool (tl (kE y) (kE x))) ∧ CC w') := fun W hW => (kless_any y.1 x.1 W).mono fun e w'' hx => ⟨hx.1, hx.2 ▸ hW⟩
      have HK := hide (And.intro hlt (hbw.trans ((Below.refl _ W2).drew.mono hbw.size)))
      have hknw : IntKind.i64.wrap ((k : Int) + 1) = (k : Int) + 1 := by have := unhide HL; rw [IntKind.wrap_i64]; omega
      generalize tl (kE y) (kE x) = TL at *
      generalize hKM : kmay x.1 = KM at *
      generalize x.1 = xk at *
      generalize y.1 = yk at *
      clear hn hb hsn hx hy hb2 hx2 hbw i0 hk hKM hCC
      cases KM with
      | false =>
        have HF := hide (unhide HNO (by rw [unhide HOK]; rfl))
        go_wp2_with fail
        refine region_calm CC (by kernel_rfl) (by kernel_rfl) (by subst hW2; exact unhide HC0) ?_
        calm_walk HCC HMY HML
        intro w' hw'
        have HBW := hide (show Below w.heap.size w w' by rw [unhide HCW w' hw']; exact (unhide HK).2)
        clear hw'
        go_wp2_with fail
        go_ret
        refine ⟨?_, unhide HBW⟩
        rw [unhide HRR, unhide HF]
        rfl
      | true =>
        by_cases hk0 : k = 0
        · subst hk0
          simp only [Nat.zero_mul, Nat.add_zero, Nat.zero_sub] at HCC y0 y1 y2 y3
          have HY := hide (unhide HYES (by rw [unhide HOK]; rfl))
          go_wp2_with fail
          refine region_calm CC (by kernel_rfl) (by kernel_rfl) (by subst hW2; exact unhide HC0) ?_
          calm_walk HCC HMY HML
          intro w' hw'
          have HBW := hide (show Below w.heap.size w w' by rw [unhide HCW w' hw']; exact (unhide HK).2)
          clear hw'
          go_wp2_with fail
          go_roundw
          case rel => exact ⟨0 + 1, by go_num, (unhide HK).1, unhide HY, unhide HBW⟩
          case measure => (have := (unhide HK).1; simp [intOf]; omega)
        · obtain ⟨m, rfl⟩ : ∃ m, k = m + 1 := ⟨k - 1, by omega⟩
          simp only [Nat.add_sub_cancel] at HCC
          have HK0 : Hid (decide (m + 1 = 0) = false) := by simp [Hid]
          have hm1 : (m : Int) < (L.length : Int) := by omega
          have hm2 : (m : Int) + 1 < (L.length : Int) := by omega
          have hm3 : (0 : Int) ≤ (m : Int) + 1 := by omega
          have hm4 : ((m : Int) + 1).toNat = m + 1 := by omega
          have hwn : IntKind.i64.wrap ((m : Int) + 1 + 1) = (m : Int) + 1 + 1 := by have := unhide HL; rw [IntKind.wrap_i64]; omega
          have hwn2 : wrap64 ((m : Int) + 1 + 1) = (m : Int) + 1 + 1 := by have := unhide HL; unfold wrap64; omega
          have hwm : IntKind.i64.wrap (m : Int) = m := by have := unhide HL; rw [IntKind.wrap_i64]; omega
          clear hk0
          cases TL with
          | false =>
            have HF := hide (unhide HNO (by rw [unhide HOK, unhide HK0]; rfl))
            go_wp2_with fail
            refine region_calm CC (by kernel_rfl) (by kernel_rfl) (by subst hW2; exact unhide HC0) ?_
            calm_walk HCC HMY HML
            intro w' hw'
            have HBW := hide (show Below w.heap.size w w' by rw [unhide HCW w' hw']; exact (unhide HK).2)
            clear hw'
            go_wp2_with fail
            go_ret
            refine ⟨?_, unhide HBW⟩
            rw [unhide HRR, unhide HF]
            rfl
          | true =>
            have HY := hide (unhide HYES (by rw [unhide HOK, unhide HK0]; rfl))
            go_wp2_with fail
            refine region_calm CC (by kernel_rfl) (by kernel_rfl) (by subst hW2; exact unhide HC0) ?_
            calm_walk HCC HMY HML
            intro w' hw'
            have HBW := hide (show Below w.heap.size w w' by rw [unhide HCW w' hw']; exact (unhide HK).2)
            clear hw'
            go_wp2_with fail
            go_roundw
            case rel => exact ⟨m + 1 + 1, by go_num, (unhide HK).1, unhide HY, unhide HBW⟩
            case measure => (have := (unhide HK).1; simp [intOf]; omega)
    · have hge : ¬ (k : Int) < (L.length : Int) := by omega
      have HR : Hid (rightE L = true) := by
        unfold Hid
        rw [rightE_all]
        exact fun i hi => unhide hn i hi (by omega)
      have HB := hide hb
      clear hn hb hk hlt
      go_wp2_with fail
      go_ret
      refine ⟨?_, unhide HB⟩
      rw [unhide HRR, unhide HR]
      rfl
end Go.Proofs.Ytcjepiihknjeiaa
