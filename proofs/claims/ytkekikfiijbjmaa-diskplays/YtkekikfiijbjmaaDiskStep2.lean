/- One call to both devices: a write; and every kind of call in one contract. -/
import Derived.Test.YtkekikfiijbjmaaDiskStep
namespace Go.Proofs.Ytkekikfiijbjmaa
open Go.RowKit

/-- Spoil changes the one block alone in which its bytes lie. -/
theorem spoil_at (g off cap e : Nat) (cur : Array Value) (bs : List UInt8) (w : World) (hh : w.heap[g]? = some (.cells cur e (0, 0))) (hr : Row w (.slice (some ⟨g, off, none⟩) bs.length cap) bs) :
    Calls Try.prog 39 #[.slice (some ⟨g, off, none⟩) bs.length cap] w fun e w' => e = .returned (.tuple #[]) ∧ Keep (fun k => k = g) w w' := by
  by_cases h0 : bs = []
  · subst h0
    clear hr
    go_enter Try.func39, Try.ntmps39
    go_wp2
    refine wp_loop_rounds 1 ?_
    rw [rounds_succ]
    go_wp2
    go_end0
    exact ⟨rfl, Keep.refl _ _⟩
  · obtain ⟨g', off', cap', e', hc1, hc2, hcell⟩ := hr.open h0
    simp only [Value.slice.injEq, Option.some.injEq, Addr.mk.injEq, and_true, true_and] at e'
    obtain ⟨⟨rfl, rfl⟩, rfl⟩ := e'
    have hint : ∀ j, j < bs.length → ∃ z : Int, cur[off + j]? = some (.int .u8 z) := fun j hj => by
      have h := hcell j hj
      rw [cell_of_row w g (off + j) cur _ (0, 0) hh] at h
      exact ⟨(bs[j].toNat : Int), h⟩
    clear hr hcell
    unfold maxLen at hc2
    go_enter Try.func39, Try.ntmps39
    go_wp2
    go_loopw [2] (fun i wr => ∃ (k : Nat) (cur : Array Value), k ≤ bs.length ∧ i = .int .i64 k ∧ wr.heap[g]? = some (.cells cur e (0, 0)) ∧ Hid (∀ j, j < bs.length → ∃ z : Int, cur[off + j]? = some (.int .u8 z)) ∧ Keep (fun k => k = g) w wr)
      (fun i _ => bs.length - (intOf i).toNat)
    case atStart => exact ⟨0, cur, Nat.zero_le _, rfl, hh, hint, Keep.refl _ _⟩
    case round =>
      obtain ⟨k, cur, hk, rfl, hblk, hint, hbel⟩ := hrel
      by_cases hlt : k < bs.length
      · obtain ⟨z, hz⟩ := hint.out k hlt
        have hc : wr.cell? ⟨g, off + k, none⟩ = some (.int .u8 z) := by rw [cell_of_row wr g (off + k) cur _ (0, 0) hblk]; exact hz
        have hf : wr.frozen? ⟨g, off + k, none⟩ = false := frozen_of_block hblk
        have hsz : off + k < cur.size := (Array.getElem?_eq_some_iff.1 hz).1
        clear hz
        go_wp2
        go_roundw
        case rel =>
          refine ⟨k + 1, cur.setIfInBounds (off + k) _, by omega, by go_num, heap_setCell_same wr g (off + k) cur _ _ hblk, ?_, hbel.trans ⟨rfl, rfl, rfl, by simp, fun x _ hx => Below.heap_setCell _ _ _ _ hx⟩ (fun x h => Or.inl h)⟩
          intro j hj
          by_cases hjk : k = j
          · subst hjk
            exact ⟨_, by rw [Array.getElem?_setIfInBounds_self_of_lt hsz]⟩
          · rw [Array.getElem?_setIfInBounds_ne (by omega)]
            exact hint.out j hj
        case measure => simp [intOf]; omega
      · have hkn : k = bs.length := by omega
        subst hkn
        go_wp2
        go_end0
        exact ⟨rfl, hbel⟩

section
variable {DR : (Nat → Prop) → World → Value → DK → Prop} (C : DiskC DR)
include C

/-- A block that came to be since, and that is none of the devices', is written. -/
theorem St.spoiled {F0 : Nat → Prop} {w00 w0 w w' : World} {d r : Value} {sd sr : DK} {cnt g : Nat} (h : St DR F0 w0 w d sd r sr cnt) (hb : Below w00.heap.size w00 w0) (hg0 : w00.heap.size ≤ g) (hg : g < w0.heap.size) (hn : ¬ F0 g) (hk : Keep (fun k => k = g) w w') :
    St DR F0 w00 w' d sd r sr cnt := by
  obtain ⟨F, ⟨FD, FR, h1, h2, h3, h4⟩, hm⟩ := h
  have hnF : ¬ F g := fun hf => by
    rcases hm.sub g hf with h | h
    · exact hn h
    · omega
  refine ⟨F, ⟨FD, FR, C.stays h1 hk.size (fun k hk' => hk.block k (C.lt h1 k hk') (fun e => hnF ((h4 g).2 (Or.inl (e ▸ hk'))))), h2.stays hk.size (fun k hk' => hk.block k (h2.lt k hk') (fun e => hnF ((h4 g).2 (Or.inr (e ▸ hk'))))), h3, h4⟩, ?_⟩
  have hm' := (Moves.of_below (F := F0) hb).trans hm
  exact ⟨hm'.keep.trans hk (fun x e => Or.inr (by omega)), hm'.sub⟩

set_option maxRecDepth 20000 in
set_option maxHeartbeats 2000000 in
theorem step_write (F : Nat → Prop) (w : World) (d r : Value) (s : DK) (cnt : Nat) (o : OpD) (kv : Value) (k1 : (o.kind == 1) = false) (k2 : (o.kind == 2) = false) (k3 : (o.kind == 3) = false) (k4 : (o.kind == 4) = false) (k5 : (o.kind == 5) = false) (k6 : (o.kind == 6) = false)
    (hP : Pair DR F w d s r s cnt) (hw : s.waits.length ≤ 1048576) (hk : s.ticks ≤ 1048576) :
    Calls Try.prog 12 #[d, r, .agg #[.int .i64 o.kind, .int .i64 o.at_, .int .i64 o.n, .int .u8 (o.v.toNat : Int), .bool o.short, kv]] w fun e w' => e = .returned (.bool true) ∧ St DR F w w' d (s.write o.at_ (fullS o.v o.short)) r (s.write o.at_ (fullS o.v o.short)) cnt := by
  obtain ⟨w1, hw1⟩ : ∃ w1, w1 = w.alloc (.cells #[.int .i64 o.kind, .int .i64 o.at_, .int .i64 o.n, .int .u8 (o.v.toNat : Int), .bool o.short, kv] 34) := ⟨_, rfl⟩
  have hb1 : Below w.heap.size w w1 := by rw [hw1]; exact (Below.refl _ _).alloc (Nat.le_refl _) _
  have hbox : w1.heap[w.heap.size]? = some (.cells #[.int .i64 o.kind, .int .i64 o.at_, .int .i64 o.n, .int .u8 (o.v.toNat : Int), .bool o.short, kv] 34 (0, 0)) := by rw [hw1]; exact heap_alloc_new _ _
  have hlt : w.heap.size < w1.heap.size := (Array.getElem?_eq_some_iff.1 hbox).1
  have hnF : ¬ F w.heap.size := not_in (Pair.lt C hP)
  obtain ⟨b0, b1, b2, b3, b4, b5, _⟩ := six_cells hbox
  have HP := hide hP
  have HLT := hide (Pair.lt C hP)
  have HBX := hide hbox
  have HBB := hide hb1
  have heq : (s.writeE o.at_ (fullS o.v o.short) == s.writeE o.at_ (fullS o.v o.short)) = true := by simp
  obtain ⟨bs, hbs⟩ : ∃ bs, bs = fullS o.v o.short := ⟨_, rfl⟩
  have hbl : bs.length ≤ 512 := by
    rw [hbs]
    have := length_fullB o.v
    unfold fullS
    split
    · rw [List.length_take]; omega
    · omega
  have HF := hide (full_any o.v o.short w1)
  rw [← hbs] at HF heq ⊢
  have HBL := hide hbl
  clear hbox hb1 hP b2 b5 hbs hbl
  subst hw1
  go_enter Try.func12, Try.ntmps12
  go_wp2_with fail
  refine Calls.mono (unhide HF) ?_
  rintro e w2 ⟨t, rfl, hm2, hb2⟩
  have hb02 := (unhide HBB).trans (hb2.mono (unhide HBB).size)
  have HM2 := hide hm2
  have HT : Hid (∀ b off n c, t = .slice (some ⟨b, off, none⟩) n c → 0 < n → w.heap.size < b ∧ b < w2.heap.size) := by
    rintro b off n c rfl hn
    rcases hm2.2 with h0 | ⟨g, o', cc, e, cur, h1, h2, h3⟩
    · obtain ⟨p', c', l', e', hl'⟩ := hm2.row.shape
      simp only [Value.slice.injEq] at e'
      rw [h0] at hl'
      simp at hl'
      omega
    · simp only [Value.slice.injEq, Option.some.injEq, Addr.mk.injEq] at h1
      obtain ⟨⟨rfl, _⟩, _⟩ := h1
      exact ⟨Nat.lt_of_lt_of_le hlt h2, (Array.getElem?_eq_some_iff.1 h3).1⟩
  have HB02 := hide hb02
  have hx2 := hide ((hb2.block _ hlt).trans (unhide HBX))
  clear HF hm2 hb02 b0 b1 b3 b4 k1 k2 k3 k4 k5 k6
  go_wp2_with fail
  refine (own_any t bs 71 71 rfl w2 (unhide HM2).row (by have := unhide HBL; omega)).mono ?_
  rintro e w3 ⟨g, rfl, hg, ho3, hb3⟩
  have hb03 := (unhide HB02).trans (hb3.mono (unhide HB02).size)
  have hgl : g < w3.heap.size := ho3.lt
  have hgF : ¬ F g := fun hf => by have := unhide HLT g hf; have := (unhide HB02).size; omega
  have hw02 := (unhide HB02).size
  have hlt2 : w.heap.size < w2.heap.size := (Array.getElem?_eq_some_iff.1 (unhide hx2)).1
  have hx3 := (hb3.block _ hlt2).trans (unhide hx2)
  have hlt3 : w.heap.size < w3.heap.size := (Array.getElem?_eq_some_iff.1 hx3).1
  obtain ⟨d0, d1, d2, d3, d4, d5, _⟩ := six_cells hx3
  have HX3 := hide hx3
  have hS3 : St DR F w3 w3 d s r s cnt := St.start_ (Pair.below C (unhide HP) hb03)
  have HW3 := hide (St.dwrite C hS3 o.at_ _ bs (ho3.row (by have := unhide HBL; unfold maxLen; omega)) (fun k off n c e _ => by simp only [Value.slice.injEq, Option.some.injEq, Addr.mk.injEq] at e; obtain ⟨⟨rfl, _⟩, _⟩ := e; exact ⟨hgl, hgF⟩) hw hk)
  have HM3 := hide ((unhide HM2).below hb3)
  have HO3 := hide ho3
  have HB03 := hide hb03
  clear hx3 hS3 ho3 hb03 hx2 HM2 HB02 hb2 d0 d2 d3 d4 d5
  go_wp2_with fail
  refine Calls.mono (unhide HW3) ?_
  rintro e w4 ⟨rfl, hs4⟩
  have hr4 : Row w4 t bs := by
    obtain ⟨F', _, hm⟩ := hs4
    refine (unhide HM3).row.keep hm.keep (fun b off c e hne hF => ?_)
    have := (unhide HT b off _ c e (List.length_pos_iff.2 hne)).1
    have := unhide HLT b hF
    omega
  have ho4 : Owned w4 g bs 71 := (hs4.block hgl hgF).trans (unhide HO3)
  have d1' := (hs4.cell (a := ⟨w.heap.size, 1, none⟩) hlt3 hnF).trans d1
  have hlt4 : w.heap.size < w4.heap.size := Nat.lt_of_lt_of_le hlt3 hs4.size
  have HK4 := hide (kept_any g t bs 71 71 rfl w4 ho4 hr4 (by have := unhide HBL; omega))
  have HS4 := hide hs4
  have HR4 := hide hr4
  have HO4 := hide ho4
  clear HW3 HM3 HO3 hs4 hr4 ho4 d1 HX3 HP hb3
  go_wp2_with fail
  refine Calls.mono (unhide HK4) ?_
  rintro e w5 ⟨rfl, hb5⟩
  have ho5 := (unhide HO4).below hb5
  have d1'' := (hb5.cell (p := ⟨w.heap.size, 1, none⟩) hlt4).trans d1'
  have HS5 := hide (St.below C (unhide HS4) hb5)
  have HR5 := hide ((unhide HR4).below hb5)
  have HSP := hide (spoil_at g 0 (bs.length + 3) _ _ bs w5 ho5 (ho5.row (by have := unhide HBL; unfold maxLen; omega)))
  clear HK4 hb5 d1' HS4 HR4 HO4 ho5
  go_wp2_with fail
  refine Calls.mono (unhide HSP) ?_
  rintro e w6 ⟨rfl, hk6⟩
  have hS6 : St DR F w w6 d (s.write o.at_ bs) r s cnt := St.spoiled C (unhide HS5) (unhide HB03) (by omega) hgl hgF hk6
  have hr6 : Row w6 t bs := (unhide HR5).keep hk6 (fun b off c e hne hF => by have := (unhide HT b off _ c e (List.length_pos_iff.2 hne)).2; omega)
  have d16 := (hk6.cell (p := ⟨w.heap.size, 1, none⟩) (Nat.lt_of_lt_of_le hlt3 (unhide HS5).size) (fun e => by have e' : w.heap.size = g := e; omega)).trans d1''
  have HW6 := hide (St.rwrite C hS6 o.at_ t bs hr6 hw)
  clear HSP hk6 hS6 hr6 d1'' HS5 HR5
  go_wp2_with fail
  refine Calls.mono (unhide HW6) ?_
  rintro e w7 ⟨rfl, hs7⟩
  have HS7 := hide hs7
  clear HW6 hs7 d16
  go_wp2
  go_ret
  exact ⟨rfl, unhide HS7⟩

/-- Every kind of call, in one contract. -/
theorem step_any (F : Nat → Prop) (w : World) (d r : Value) (s : DK) (cnt : Nat) (o : OpD) (kv : Value) (hP : Pair DR F w d s r s cnt) (hks : BRow w kv o.keep) (hko : ∀ k off n c, kv = .slice (some ⟨k, off, none⟩) n c → 0 < n → k < w.heap.size ∧ ¬ F k)
    (hroom : o.keep.length ≤ 140737488351232) (hn : o.n ≤ 9223372036854775807) (hw : s.waits.length ≤ 1048576) (ht : s.turns ≤ 1048576) (hk : s.ticks ≤ 1048576) (hc : cnt + s.waits.length ≤ 1048576 * 1048576) :
    Calls Try.prog 12 #[d, r, .agg #[.int .i64 o.kind, .int .i64 o.at_, .int .i64 o.n, .int .u8 (o.v.toNat : Int), .bool o.short, kv]] w fun e w' => e = .returned (.bool true) ∧ ∃ c, c ≤ cnt + s.waits.length + 1 ∧ St DR F w w' d (o.on s) r (o.on s) c := by
  obtain ⟨kind, at_, n, v, short, keep⟩ := o
  by_cases h1 : kind = 1
  · subst h1
    refine (step_read C F w d r s cnt ⟨1, at_, n, v, short, keep⟩ kv hP hw).mono ?_
    rintro e w' ⟨rfl, h⟩
    exact ⟨rfl, cnt, by omega, h⟩
  by_cases h2 : kind = 2
  · subst h2
    refine (step_flush C F w d r s cnt ⟨2, at_, n, v, short, keep⟩ kv hc hP hw hk).mono ?_
    rintro e w' ⟨rfl, c, hcc, h⟩
    exact ⟨rfl, c, by omega, h⟩
  by_cases h3 : kind = 3
  · subst h3
    refine (step_arm C F w d r s cnt ⟨3, at_, n, v, short, keep⟩ kv hn hP).mono ?_
    rintro e w' ⟨rfl, h⟩
    exact ⟨rfl, cnt, by omega, h⟩
  by_cases h4 : kind = 4
  · subst h4
    refine (step_crash C F w d r s cnt ⟨4, at_, n, v, short, keep⟩ kv hks hko hroom hc hP hw).mono ?_
    rintro e w' ⟨rfl, c, hcc, h⟩
    exact ⟨rfl, c, by omega, h⟩
  by_cases h5 : kind = 5
  · subst h5
    refine (step_start C F w d r s cnt ⟨5, at_, n, v, short, keep⟩ kv hP).mono ?_
    rintro e w' ⟨rfl, h⟩
    exact ⟨rfl, cnt, by omega, h⟩
  by_cases h6 : kind = 6
  · subst h6
    refine (step_flip C F w d r s cnt ⟨6, at_, n, v, short, keep⟩ kv ht (by omega) hP).mono ?_
    rintro e w' ⟨rfl, c, hcc, h⟩
    exact ⟨rfl, c, by omega, h⟩
  have e : OpD.on ⟨kind, at_, n, v, short, keep⟩ s = s.write at_ (fullS v short) := by
    unfold OpD.on
    dsimp only
    rw [if_neg h1, if_neg h2, if_neg h3, if_neg h4, if_neg h5, if_neg h6]
  rw [e]
  refine (step_write C F w d r s cnt ⟨kind, at_, n, v, short, keep⟩ kv (by simpa using h1) (by simpa using h2) (by simpa using h3) (by simpa using h4) (by simpa using h5) (by simpa using h6) hP hw hk).mono ?_
  rintro e w' ⟨rfl, h⟩
  exact ⟨rfl, cnt, by omega, h⟩
end
end Go.Proofs.Ytkekikfiijbjmaa
