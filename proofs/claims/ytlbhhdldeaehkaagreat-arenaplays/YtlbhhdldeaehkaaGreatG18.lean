/- Texts of ours, one behind the other: ThMem. -/
import Derived.Test.YtlbhhdldeaehkaaGreatG1
import Derived.Test.YtlbhhdldeaehkaaGreatG4
import Derived.Test.YtlbhhdldeaehkaaGreatG6
import Derived.Test.YtlbhhdldeaehkaaGreatG8
import Derived.Deep.LoopGhost
/- The landed package thread: the loom in memory; head, untie, tieAll. -/
namespace Go.Proofs.YtlbhhdldeaehkaaGreat
open Go.RowKit

abbrev Lw (L : List Int) : List Value := L.map (Value.int .u64)
/-- The loom in memory. -/
def LmAt (w : World) (g : Nat) (L : List Int) : Prop := w.heap[g]? = some (.cells (Lw L).toArray 124 (0, 0))
theorem LmAt.cell {w : World} {g : Nat} {L : List Int} (h : LmAt w g L) {k : Nat} (hk : k < L.length) : w.cell? ⟨g, k, none⟩ = some (.int .u64 (wd L k)) := by
  rw [cell_of_row w g k _ _ (0, 0) h]
  simp [wd, hk]
theorem LmAt.set {w : World} {g : Nat} {L : List Int} (h : LmAt w g L) (k : Nat) (v : Int) : LmAt (w.setCell ⟨g, k, none⟩ (.int .u64 v)) g (L.set k v) := by
  unfold LmAt
  rw [heap_setCell_same w g k _ _ (.int .u64 v) h]
  simp
theorem LmAt.drew {w : World} {g : Nat} {L : List Int} (h : LmAt w g L) : LmAt w.drew g L := h
theorem LmAt.below {w w' : World} {g n : Nat} {L : List Int} (h : LmAt w g L) (hb : Below n w w') (hg : g < n) : LmAt w' g L := (hb.block g hg).trans h
theorem LmAt.size {w : World} {g : Nat} {L : List Int} (h : LmAt w g L) : g < w.heap.size := (Array.getElem?_eq_some_iff.1 h).1

theorem tw_cells {w : World} {g e : Nat} {a b : Value} (h : w.heap[g]? = some (.cells #[a, b] e (0, 0))) : w.cell? ⟨g, 0, none⟩ = some a ∧ w.cell? ⟨g, 1, none⟩ = some b := by
  refine ⟨?_, ?_⟩ <;> (rw [cell_of_row w g _ _ e (0, 0) h]; rfl)
theorem and_one64 (x : Nat) (h : x < 18446744073709551616) : bits .and .u64 (x : Int) 1 = ((x % 2 : Nat) : Int) := by
  rw [show (1 : Int) = ((1 : Nat) : Int) from rfl, u64_and_nat _ _ h (by omega)]
  congr 1
  exact Nat.and_two_pow_sub_one_eq_mod x 1
theorem tag_slot (s : Nat) (h : s < 2097152) : bits .and .u64 ((s : Int) * 2) 1 = 0 := by
  have := and_one64 (s * 2) (by omega)
  rw [show ((s * 2 : Nat) : Int) = (s : Int) * 2 by omega] at this
  rw [this]; omega
theorem tag_head (h : Int) (h0 : 0 ≤ h) (h1 : h < 4294967296) : bits .and .u64 (h * 2 + 1) 1 = 1 := by
  have := and_one64 (h * 2 + 1).toNat (by omega)
  rw [show (((h * 2 + 1).toNat : Nat) : Int) = h * 2 + 1 by omega] at this
  rw [this]; omega

set_option maxRecDepth 20000 in
set_option maxHeartbeats 2000000 in
theorem lhead_any (g k N : Nat) (L : List Int) (h : Int) (w : World) (hA : LmAt w g L) (hk : k < L.length) (hv : wd L k = h * 2 + 1) (h0 : 0 ≤ h) (h1 : h < 4294967296) (hN : L.length = N) :
    Calls Tryz.prog 83 #[.slice (some ⟨g, 0, none⟩) N N, .int .i64 (k : Int)] w fun e w' => e = .returned (.int .u32 h) ∧ w' = w := by
  have hc := hA.cell hk
  rw [hv] at hc
  have hkN : (k : Int) < (N : Int) := by omega
  clear hA hv hk hN
  go_enter Tryz.func83, Tryz.ntmps83
  go_wp2_with fail
  go_ret
  refine ⟨?_, rfl⟩
  show Ending.returned (.int .u32 ((h * 2 + 1) / 2)) = _
  rw [show (h * 2 + 1) / 2 = h by omega]

set_option maxRecDepth 20000 in
set_option maxHeartbeats 2000000 in
theorem ltieall_any (ws rs : List Int) (P : Nat → List Int → Prop) (g f n N : Nat) (L : List Int) (w : World) (hA : LmAt w g L) (h0 : P 0 L) (hf : f + n ≤ N) (hM : N ≤ 2097152)
    (hP : ∀ j L, j < n → P j L → L.length = N ∧ wd L (f + j) = tgt ws rs (f + j) ∧ (∃ q : Nat, (q : Int) = tgt ws rs (f + j) ∧ q < N ∧ q ≠ f + j) ∧ P (j + 1) (tieL ws rs L (f + j))) :
    Calls Tryz.prog 53 #[.slice (some ⟨g, 0, none⟩) N N, .int .i64 (f : Int), .int .i64 (n : Int)] w fun e w' => e = .returned (.tuple #[]) ∧ ∃ L', P n L' ∧ LmAt w' g L' ∧ Keep (fun k => k = g) w w' := by
  have H0 := hide (And.intro h0 hA)
  have HP := hide hP
  have HF := hide (And.intro hf hM)
  have hfn : IntKind.i64.wrap ((f : Int) + (n : Int)) = ((f + n : Nat) : Int) := by rw [IntKind.wrap_i64]; omega
  obtain ⟨e, he⟩ : ∃ e, e = f + n := ⟨_, rfl⟩
  rw [← he] at hfn
  have HE := hide he
  clear hA h0 hP hf hM he
  go_enter Tryz.func53, Tryz.ntmps53
  go_wp2_with fail
  go_loopw [6] (fun i wr => ∃ s : Nat, i = .int .i64 (s : Int) ∧ Hid (f ≤ s ∧ s ≤ e ∧ ∃ L, P (s - f) L ∧ LmAt wr g L ∧ Keep (fun k => k = g) w wr)) (fun i _ => e - (intOf i).toNat)
  case atStart => exact ⟨f, rfl, Nat.le_refl _, by have := unhide HE; omega, L, by rw [Nat.sub_self]; exact (unhide H0).1, (unhide H0).2, Keep.refl _ _⟩
  case round =>
    obtain ⟨s, rfl, hst⟩ := hrel
    by_cases hlt : (s : Int) < (e : Int)
    · obtain ⟨h1, h2, L, h3, h4, h5⟩ := unhide hst
      have hE := unhide HE
      have hF := unhide HF
      obtain ⟨p1, p2, ⟨q, p3, p4, p6⟩, p5⟩ := unhide HP (s - f) L (by omega) h3
      rw [show f + (s - f) = s by omega] at p2 p3 p5 p6
      have w3 : IntKind.i64.wrap ((s : Int) + 1) = (s : Int) + 1 := by rw [IntKind.wrap_i64]; omega
      have c1 := h4.cell (k := s) (by omega)
      have c2 := h4.cell (k := q) (by omega)
      rw [p2, ← p3] at c1
      have hsN : (s : Int) < (N : Int) := by omega
      have hqN : (q : Int) < (N : Int) := by omega
      have hsq : ¬ s = q := fun e => p6 e.symm
      have hqs : ¬ q = s := p6
      have HLT := hide (show s < e by omega)
      have HT3 := hide p3
      have HP5 := hide p5
      have H4 := hide h4
      have H5 := hide h5
      have H1 := hide (And.intro h1 h2)
      clear h1 h2 h3 h4 h5 hE hF p1 p2 p3 p4 p5 p6 hst
      by_cases hq0 : (q : Int) = 0
      · go_wp2_with fail
        go_roundw
        case rel =>
          have hp := unhide HP5
          unfold tieL at hp
          rw [if_pos ((unhide HT3).symm.trans hq0)] at hp
          have h1 := (unhide H1).1
          have h2 := unhide HLT
          exact ⟨s + 1, by go_num, by omega, by omega, L, by rw [show s + 1 - f = s - f + 1 by omega]; exact hp, unhide H4, unhide H5⟩
        case measure => (have := unhide HLT; simp [intOf]; omega)
      · have hfz : ∀ j, wr.frozen? ⟨g, j, none⟩ = false := fun j => frozen_of_block (unhide H4)
        have w4 : IntKind.u64.wrap (s : Int) = (s : Int) := by have := unhide HLT; have := unhide HF; have := unhide HE; rw [IntKind.wrap_u64]; omega
        have w5 : IntKind.u64.wrap ((s : Int) * 2) = (s : Int) * 2 := by have := unhide HLT; have := unhide HF; have := unhide HE; rw [IntKind.wrap_u64]; omega
        have HST := hide (((unhide H4).set s (wd L q)).set q ((s : Int) * 2))
        have HKP := hide (((unhide H5).trans (keep_set wr g s (.int .u64 (wd L q))) (fun _ h => Or.inl h)).trans (keep_set (wr.setCell ⟨g, s, none⟩ (.int .u64 (wd L q))) g q (.int .u64 ((s : Int) * 2))) (fun _ h => Or.inl h))
        obtain ⟨lq, hlq⟩ : ∃ lq, lq = wd L q := ⟨_, rfl⟩
        rw [← hlq] at c2 HST HKP
        have HLQ := hide hlq
        clear hlq
        go_wp2_with fail
        go_roundw
        case rel =>
          have hp := unhide HP5
          have hT := unhide HT3
          unfold tieL at hp
          rw [if_neg (fun e => hq0 (hT.trans e)), ← hT, Int.toNat_natCast, ← unhide HLQ] at hp
          have h1 := (unhide H1).1
          have h2 := unhide HLT
          exact ⟨s + 1, by go_num, by omega, by omega, _, by rw [show s + 1 - f = s - f + 1 by omega]; exact hp, unhide HST, unhide HKP⟩
        case measure => (have := unhide HLT; simp [intOf]; omega)
    · go_wp2_with fail
      go_end0
      obtain ⟨h1, h2, L, h3, h4, h5⟩ := unhide hst
      have hE := unhide HE
      refine ⟨rfl, L, ?_, h4, h5⟩
      rw [show s - f = n by omega] at h3
      exact h3

set_option maxRecDepth 20000 in
set_option maxHeartbeats 2000000 in
theorem luntie_any (g a N : Nat) (to h : Int) (th : List Nat) (L : List Int) (w : World) (hA : LmAt w g L) (hN : L.length = N) (hM : N ≤ 2097152) (ha : a < N) (ht : 0 ≤ to ∧ to < 1048576) (hh : 0 ≤ h ∧ h < 4294967296) (hth : ∀ s ∈ th, s < N) (hnd : th.Nodup) (hc : Chn L (wd L a) th h) :
    Calls Tryz.prog 54 #[.slice (some ⟨g, 0, none⟩) N N, .agg #[.int .i64 (a : Int), .int .i64 to]] w fun e w' => e = .returned (.tuple #[]) ∧ LmAt w' g ((setAll L th to).set a (h * 2 + 1)) ∧ Keep (fun k => k = g) w w' := by
  have HM := hide (And.intro hN (And.intro hM (And.intro hth hnd)))
  have HA := hide hA
  have HC := hide hc
  have HH := hide hh
  have HT := hide ht
  have hta : IntKind.u64.wrap to = to := by rw [IntKind.wrap_u64]; omega
  have haN : (a : Int) < (N : Int) := by omega
  have hgs := hA.size
  have hal : Below w.heap.size w (w.alloc (.cells #[.int .i64 (a : Int), .int .i64 to] 123)) := (Below.refl _ w).alloc (Nat.le_refl _) _
  have hA0 := hA.below hal hgs
  have c0 := hA0.cell (k := a) (by omega)
  have HA0 := hide hA0
  have hv0 : ∀ wr, Keep (fun k => k = g) (w.alloc (.cells #[.int .i64 (a : Int), .int .i64 to] 123)) wr → wr.cell? ⟨w.heap.size, 0, none⟩ = some (.int .i64 (a : Int)) ∧ wr.cell? ⟨w.heap.size, 1, none⟩ = some (.int .i64 to) := fun wr hk => by
    have hb := World.alloc_heap_new w (.cells #[.int .i64 (a : Int), .int .i64 to] 123)
    have h2 := (hk.block w.heap.size (by rw [World.size_alloc]; omega) (by omega)).trans hb
    exact tw_cells h2
  have HV0 := hide hv0
  have HAL := hide hal
  clear hA hN hM ha ht hh hth hnd hc hA0 hv0 hal
  have hgs' : ¬ w.heap.size = g := by omega
  have hgs2 : ¬ g = w.heap.size := by omega
  have HGS := hide hgs
  clear hgs
  go_enter Tryz.func54, Tryz.ntmps54
  go_wp2_with fail
  obtain ⟨W0, hW0⟩ : ∃ W0, W0 = w.alloc (.cells #[.int .i64 (a : Int), .int .i64 to] 123) := ⟨_, rfl⟩
  rw [← hW0] at HA0 HV0 HAL ⊢
  clear hW0 c0
  obtain ⟨b, hb⟩ : ∃ b, b = w.heap.size := ⟨_, rfl⟩
  rw [← hb] at HV0 HAL HGS hgs' hgs2 ⊢
  have HB := hide hb
  clear hb
  go_loopg [4] th.length (fun m v wr => ∃ x : Int, v = .int .u64 x ∧ Hid (m ≤ th.length ∧ Chn L x (th.drop (th.length - m)) h ∧ LmAt wr g (setAll L (th.take (th.length - m)) to) ∧ Keep (fun k => k = g) W0 wr))
  case atStart => exact ⟨_, rfl, Nat.le_refl _, by rw [Nat.sub_self]; exact unhide HC, by rw [Nat.sub_self]; exact unhide HA0, Keep.refl _ _⟩
  case round =>
    obtain ⟨x, rfl, hst⟩ := hrel
    obtain ⟨hm, hch, hat, hkp⟩ := unhide hst
    obtain ⟨d0, d1⟩ := unhide HV0 wr hkp
    obtain ⟨m1, m2, m3, m4⟩ := unhide HM
    obtain ⟨k, hk⟩ : ∃ k, k = th.length - gk := ⟨_, rfl⟩
    rw [← hk] at hch hat
    have hfz : ∀ j, wr.frozen? ⟨g, j, none⟩ = false := fun j => frozen_of_block hat
    by_cases hlt : k < th.length
    · obtain ⟨e1, e2⟩ := chn_step hch hlt
      have hs := m3 _ (List.getElem_mem hlt)
      have hlen : (setAll L (th.take k) to).length = N := by rw [setAll_len, m1]
      have c1 := hat.cell (k := th[k]) (by omega)
      rw [wd_setAll_ne (nodup_take m4 hlt)] at c1
      have HST := hide (hat.set th[k] to)
      rw [← setAll_snoc, ← List.take_succ_eq_append_getElem hlt] at HST
      have HKP := hide (hkp.trans (keep_set wr g th[k] (.int .u64 to)) (fun _ h => Or.inl h))
      have HCH := hide e2
      have htg := tag_slot th[k] (by omega)
      have HK := hide (And.intro hk (And.intro hm hlt))
      generalize th[k] = s at *
      generalize wd L s = y at *
      subst e1
      have hsN : (s : Int) < (N : Int) := by omega
      have hs2 : (s : Int) * 2 / 2 = (s : Int) := by omega
      have hbe : (bits .and .u64 ((s : Int) * 2) 1 == 0) = true := by rw [htg]; rfl
      clear hst hm hch hat hkp m1 m2 m3 m4 hk hlt e2 hs hlen htg
      go_wp2_with fail
      obtain ⟨k1, k2, k3⟩ := unhide HK
      go_roundg (gk - 1)
      case measure => omega
      case rel =>
        refine ⟨y, rfl, by omega, ?_, ?_, unhide HKP⟩
        · rw [show th.length - (gk - 1) = k + 1 by omega]; exact unhide HCH
        · rw [show th.length - (gk - 1) = k + 1 by omega]; exact unhide HST
    · have e1 := chn_end hch hlt
      obtain ⟨h0, h1⟩ := unhide HH
      have htg := tag_head h h0 h1
      subst e1
      have hbe : (bits .and .u64 (h * 2 + 1) 1 == 0) = false := by rw [htg]; rfl
      rw [show th.take k = th from List.take_of_length_le (by omega)] at hat
      have haL : a < (setAll L th to).length := by rw [setAll_len]; omega
      have c1 := hat.cell haL
      have HST := hide (hat.set a (h * 2 + 1))
      have HKP := hide (hkp.trans (keep_set wr g a (.int .u64 (h * 2 + 1))) (fun _ h => Or.inl h))
      generalize wd (setAll L th to) a = y at *
      clear hst hm hch hat hkp m1 m2 m3 m4 hk hlt htg h0 h1 haL
      go_wp2_with fail
      go_end0
      have hb := (unhide HAL).mono (Nat.le_refl _)
      rw [unhide HB] at hb
      exact ⟨rfl, unhide HST, (Keep.of_below hb).trans (unhide HKP) (fun x hx => Or.inl hx)⟩
end Go.Proofs.YtlbhhdldeaehkaaGreat
