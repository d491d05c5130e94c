/- Texts of ours, one behind the other: ThNew, ThNar, ArNew, ArAt, ArSet, ArAdd, ArAdd2. -/
import Derived.Test.YtlbhhdldeaehkaaGreatG4
import Derived.Test.YtlbhhdldeaehkaaGreatG8
import Derived.Test.YtlbhhdldeaehkaaGreatG10
import Derived.Test.YtlbhhdldeaehkaaGreatG11
import Derived.Test.YtlbhhdldeaehkaaGreatG16
import Derived.Test.YtlbhhdldeaehkaaGreatG19
import Derived.Test.YtlbhhdldeaehkaaGreatG20
/- The landed package thread: newLoom, narrow. -/
namespace Go.Proofs.YtlbhhdldeaehkaaGreat
open Go.RowKit

theorem Tryz.infoU64l : (Tryz.prog.info? 124).map (fun i => (i.zero, i.size, i.bytes)) = some (some (.int .u64 0), 1, 8) := by kernel_rfl
theorem run_make_loom (n : Nat) (hn : n ≤ 2097152) (w : World) :
    (Instr.makeSlice 95 (.int .i64 (n : Int)) (.int .i64 (n : Int))).run Tryz.prog w = .ok (.slice (some ⟨w.heap.size, 0, none⟩) n n) (w.alloc (.cells (Array.replicate n (.int .u64 0)) 124)) := by
  rw [← List.toArray_replicate, ← made_arr]
  exact run_make_row' 95 124 (.int .u64 0) 8 Tryz.underlying95 Tryz.infoU64l rfl .i64 .i64 n (by omega) (by omega) w
/-- A row that is filled from its beginning on. -/
def fillL (Z : List Int) (k : Nat) : List Int := Z.take k ++ List.replicate (Z.length - k) 0
theorem fillL_len {Z : List Int} {k : Nat} (h : k ≤ Z.length) : (fillL Z k).length = Z.length := by
  unfold fillL
  rw [List.length_append, List.length_take, List.length_replicate]; omega
theorem fillL_set {Z : List Int} {k : Nat} (h : k < Z.length) : (fillL Z k).set k (wd Z k) = fillL Z (k + 1) := by
  unfold fillL
  have ht : (Z.take k).length = k := by rw [List.length_take]; omega
  rw [List.set_append_right _ _ (by omega), ht, Nat.sub_self]
  obtain ⟨m, hm⟩ : ∃ m, Z.length - k = m + 1 := ⟨Z.length - k - 1, by omega⟩
  rw [hm, List.replicate_succ, List.set_cons_zero, show Z.length - (k + 1) = m by omega, List.take_succ_eq_append_getElem h, List.append_assoc]
  simp [wd, h]
theorem fillL_all (Z : List Int) : fillL Z Z.length = Z := by simp [fillL]
theorem or_one64 (x : Int) (h0 : 0 ≤ x) (h1 : x < 4294967296) : bits .or .u64 (x * 2) 1 = x * 2 + 1 := by
  obtain ⟨s, rfl⟩ := Int.eq_ofNat_of_zero_le h0
  have e1 : ((s : Int) * 2) = ((s * 2 : Nat) : Int) := by omega
  rw [e1, show (1 : Int) = ((1 : Nat) : Int) from rfl, u64_or_nat _ _ (by omega) (by omega)]
  have := or_add s 1 1 (by omega)
  rw [show s * 2 = s * 2 ^ 1 by omega, this]
  omega

set_option maxRecDepth 20000 in
set_option maxHeartbeats 4000000 in
theorem lnew_any (s t u : Value) (ws rs l : List Int) (w : World) (hs : VRow w s (Uw ws)) (ht : VRow w t (Iw rs)) (hu : VRow w u (Iw l)) (h : Rts ws rs l) :
    Calls Tryz.prog 52 #[s, t, u] w fun e w' => e = .returned (.slice (some ⟨w.heap.size, 0, none⟩) (ws.length + rs.length) (ws.length + rs.length)) ∧ LmAt w' w.heap.size (tagL ws rs l) ∧ Below w.heap.size w w' := by
  have HH := hide h
  have HS := hide hs
  have HT := hide ht
  have HU := hide hu
  have hm := h.most
  have hf := h.few
  obtain ⟨N, hN⟩ : ∃ N, N = ws.length + rs.length := ⟨_, rfl⟩
  have hmk := run_make_loom N (by omega)
  have hsum : IntKind.i64.wrap ((ws.length : Int) + (rs.length : Int)) = (N : Int) := by rw [IntKind.wrap_i64]; omega
  obtain ⟨a1, cap1, rfl, g1, g2, g3⟩ := hs.shape
  obtain ⟨a2, cap2, rfl, k1, k2, k3⟩ := ht.shape
  obtain ⟨a3, cap3, rfl, j1, j2, j3⟩ := hu.shape
  have hlw : (Uw ws).length = ws.length := by simp
  have hlr : (Iw rs).length = rs.length := by simp
  have hll : (Iw l).length = l.length := by simp
  rw [hlw] at HS
  rw [hlr] at HT
  rw [hll] at HU
  rw [hlw, hlr, hll, ← hN]
  have HN := hide hN
  have HMF := hide (And.intro hm hf)
  have HLL := hide (show l.length ≤ 1048576 from Nat.le_trans (obs_count ws l (h.rise.imp fun {a b} h => by omega) h.ob) hm)
  have hA0 : LmAt (w.alloc (.cells (Array.replicate N (.int .u64 0)) 124)) w.heap.size (fillL (ws ++ rs) 0) := by
    unfold LmAt fillL
    have := World.alloc_heap_new w (.cells (Array.replicate N (.int .u64 0)) 124)
    rw [this]
    simp [hN]
  have HA0 := hide hA0
  have HB0 := hide (show Below w.heap.size w (w.alloc (.cells (Array.replicate N (.int .u64 0)) 124)) from (Below.refl _ _).alloc (Nat.le_refl _) _)
  obtain ⟨n, hn⟩ : ∃ n, n = ws.length := ⟨_, rfl⟩
  obtain ⟨m, hm2⟩ : ∃ m, m = rs.length := ⟨_, rfl⟩
  obtain ⟨q, hq⟩ : ∃ q, q = l.length := ⟨_, rfl⟩
  have HX := hide (And.intro hn (And.intro hm2 hq))
  rw [← hn, ← hm2] at HN HMF hsum
  rw [← hn] at HS ⊢
  rw [← hm2] at HT ⊢
  rw [← hq] at HU HLL ⊢
  clear hs ht hu h g1 g2 g3 k1 k2 k3 j1 j2 j3 hlw hlr hll hm hf hN hA0 hn hm2 hq
  go_enter Tryz.func52, Tryz.ntmps52
  go_wp2_with fail
  obtain ⟨W0, hW0⟩ : ∃ W0, W0 = w.alloc (.cells (Array.replicate N (.int .u64 0)) 124) := ⟨_, rfl⟩
  rw [← hW0] at HA0 HB0 ⊢
  clear hW0
  obtain ⟨g, hg⟩ : ∃ g, g = w.heap.size := ⟨_, rfl⟩
  have HG := hide hg
  rw [← hg] at HA0 HB0 ⊢
  clear hg
  go_loopw [22] (fun i wr => ∃ k : Nat, i = .int .i64 (k : Int) ∧ k ≤ n ∧ Hid (LmAt wr g (fillL (ws ++ rs) k) ∧ Below g w wr)) (fun i _ => n - (intOf i).toNat)
  case atStart => exact ⟨0, rfl, Nat.zero_le _, unhide HA0, unhide HB0⟩
  case round =>
    clear HA0 HB0
    obtain ⟨k, rfl, hk, hst⟩ := hrel
    have hkw : IntKind.i64.wrap ((k : Int) + 1) = (k : Int) + 1 := by have := (unhide HMF).1; rw [IntKind.wrap_i64]; omega
    by_cases hlt : k < n
    · have hkI : (k : Int) < (n : Int) := by omega
      obtain ⟨x1, x2⟩ := unhide hst
      obtain ⟨y1, y2, y3⟩ := unhide HX
      have hkL : k < ws.length := by omega
      have hNN := unhide HN
      have hlen : (ws ++ rs).length = N := by have := unhide HN; rw [List.length_append]; omega
      obtain ⟨b, off, cap', e0, _, _, hc⟩ := (unhide HS).open (by intro e; have := congrArg List.length e; simp at this; rw [this] at hkL; simp at hkL)
      simp only [Value.slice.injEq] at e0
      obtain ⟨rfl, e9, rfl⟩ := e0
      have c0 := hc k _ (by rw [List.getElem?_map, wd_get hkL]; rfl)
      have hbw : Below w.heap.size w wr := by have := x2; rw [unhide HG] at this; exact this
      have d0 := (hbw.cell (World.block_lt_of_cell? _ _ c0)).trans c0
      have c1 := x1.cell (k := k) (by rw [fillL_len (by omega)]; omega)
      have hfz : ∀ j, wr.frozen? ⟨g, j, none⟩ = false := fun j => frozen_of_block x1
      obtain ⟨u0, u1⟩ := (unhide HH).u32.wd k
      have hcv : IntKind.u64.wrap (wd ws k) = wd ws k := by rw [IntKind.wrap_u64]; omega
      have hA2 := x1.set k (wd ws k)
      rw [show wd ws k = wd (ws ++ rs) k from (tgt_low (rs := rs) hkL).symm, fillL_set (by omega), show wd (ws ++ rs) k = wd ws k from tgt_low (rs := rs) hkL] at hA2
      have HA2 := hide (And.intro hA2 (x2.setCell (p := ⟨g, k, none⟩) (Nat.le_refl _) (.int .u64 (wd ws k))))
      have HLT := hide hlt
      have hkN : (k : Int) < (N : Int) := by omega
      generalize wd ws k = x at *
      generalize wd (fillL (ws ++ rs) k) k = y at *
      clear x1 x2 y1 y2 y3 hkL hNN hlen e9 hc c0 hbw hA2 hst hlt hk
      go_wp2_with fail
      go_roundw
      case rel => exact ⟨k + 1, by go_num, unhide HLT, unhide HA2⟩
      case measure => (have := unhide HLT; simp [intOf]; omega)
    · have hke : k = n := by omega
      subst hke
      have hge : ¬ (k : Int) < (k : Int) := by omega
      have HA1 := hide (unhide hst).1
      have HB1 := hide (unhide hst).2
      clear hlt hk hkw hst
      rename World => W1
      go_wp2_with fail
      go_loopw [35] (fun i wr => ∃ j : Nat, i = .int .i64 (j : Int) ∧ j ≤ m ∧ Hid (LmAt wr g (fillL (ws ++ rs) (k + j)) ∧ Below g w wr)) (fun i _ => m - (intOf i).toNat)
      case atStart => exact ⟨0, rfl, Nat.zero_le _, unhide HA1, unhide HB1⟩
      case round =>
        clear HA1 HB1
        obtain ⟨j, rfl, hj, hst⟩ := hrel
        rename World => wr
        have hjw : IntKind.i64.wrap ((j : Int) + 1) = (j : Int) + 1 := by have := (unhide HMF).2; rw [IntKind.wrap_i64]; omega
        by_cases hlt : j < m
        · have hjI : (j : Int) < (m : Int) := by omega
          obtain ⟨x1, x2⟩ := unhide hst
          obtain ⟨y1, y2, y3⟩ := unhide HX
          have hjL : j < rs.length := by omega
          have hNN := unhide HN
          have hMM := unhide HMF
          have hlen : (ws ++ rs).length = N := by rw [List.length_append]; omega
          obtain ⟨b, off, cap', e0, _, _, hc⟩ := (unhide HT).open (by intro e; have := congrArg List.length e; simp at this; rw [this] at hjL; simp at hjL)
          simp only [Value.slice.injEq] at e0
          obtain ⟨rfl, e9, rfl⟩ := e0
          have c0 := hc j _ (by rw [List.getElem?_map, wd_get hjL]; rfl)
          have hbw : Below w.heap.size w wr := by have := x2; rw [unhide HG] at this; exact this
          have d0 := (hbw.cell (World.block_lt_of_cell? _ _ c0)).trans c0
          have c1 := x1.cell (k := k + j) (by rw [fillL_len (by omega)]; omega)
          have hfz : ∀ j, wr.frozen? ⟨g, j, none⟩ = false := fun j => frozen_of_block x1
          have htg : tgt ws rs (k + j) = wd rs j := by rw [y1]; exact tgt_high
          have hr0 : 0 ≤ wd rs j ∧ wd rs j < 1048576 := by
            have hH := unhide HH
            have hr := hH.root (wd rs j) (by simp only [wd, List.getElem?_eq_getElem hjL, Option.getD_some]; exact List.getElem_mem hjL)
            rcases hr with hr | hr
            · omega
            · have h1 := hH.lt hr
              omega
          have hcv : IntKind.u64.wrap (wd rs j) = wd rs j := by rw [IntKind.wrap_u64]; omega
          have hA2 := x1.set (k + j) (wd rs j)
          rw [show wd rs j = wd (ws ++ rs) (k + j) from htg.symm, fillL_set (by omega), show wd (ws ++ rs) (k + j) = wd rs j from htg] at hA2
          have HA2 := hide (And.intro hA2 (x2.setCell (p := ⟨g, k + j, none⟩) (Nat.le_refl _) (.int .u64 (wd rs j))))
          have HLT := hide hlt
          have hw3 : IntKind.i64.wrap ((k : Int) + (j : Int)) = ((k + j : Nat) : Int) := by rw [IntKind.wrap_i64]; omega
          obtain ⟨p, hp⟩ : ∃ p, p = k + j := ⟨_, rfl⟩
          have HP := hide hp
          rw [← hp] at hw3 HA2 c1
          have hkN : (p : Int) < (N : Int) := by omega
          generalize wd rs j = x at *
          generalize wd (fillL (ws ++ rs) p) p = y at *
          clear x1 x2 y1 y2 y3 hjL hNN hMM hlen e9 hc c0 hbw hA2 hst hlt hj htg hr0 hp
          go_wp2_with fail
          go_roundw
          case rel => exact ⟨j + 1, by go_num, unhide HLT, by rw [show k + (j + 1) = p + 1 by have := unhide HP; omega]; exact unhide HA2⟩
          case measure => (have := unhide HLT; simp [intOf]; omega)
        · have hje : j = m := by omega
          subst hje
          have hge : ¬ (j : Int) < (j : Int) := by omega
          have HA2 : Hid (LmAt wr g (tagL ws rs [])) := by
            have h1 := (unhide hst).1
            have h2 := unhide HX
            have h3 := unhide HN
            rw [show k + j = (ws ++ rs).length by rw [List.length_append]; omega, fillL_all] at h1
            exact h1
          have HB2 := hide (unhide hst).2
          clear hlt hj hjw hst
          rename World => W2
          go_wp2_with fail
          go_loopw [51] (fun i wr => ∃ z : Nat, i = .int .i64 (z : Int) ∧ z ≤ q ∧ Hid (LmAt wr g (tagL ws rs (l.take z)) ∧ Below g w wr)) (fun i _ => q - (intOf i).toNat)
          case atStart => exact ⟨0, rfl, Nat.zero_le _, unhide HA2, unhide HB2⟩
          case round =>
            clear HA2 HB2
            obtain ⟨z, rfl, hz, hst⟩ := hrel
            rename World => wr
            have hzw : IntKind.i64.wrap ((z : Int) + 1) = (z : Int) + 1 := by have := unhide HLL; rw [IntKind.wrap_i64]; omega
            by_cases hlt : z < q
            · have hzI : (z : Int) < (q : Int) := by omega
              obtain ⟨x1, x2⟩ := unhide hst
              obtain ⟨y1, y2, y3⟩ := unhide HX
              have hzL : z < l.length := by omega
              obtain ⟨b, off, cap', e0, _, _, hc⟩ := (unhide HU).open (by intro e; have := congrArg List.length e; simp at this; rw [this] at hzL; simp at hzL)
              simp only [Value.slice.injEq] at e0
              obtain ⟨rfl, e9, rfl⟩ := e0
              have c0 := hc z _ (by rw [List.getElem?_map, List.getElem?_eq_getElem hzL]; rfl)
              have hbw : Below w.heap.size w wr := by have := x2; rw [unhide HG] at this; exact this
              have d0 := (hbw.cell (World.block_lt_of_cell? _ _ c0)).trans c0
              have hH := unhide HH
              have hll := hH.lt (List.getElem_mem hzL)
              have hnm : l[z] ∉ l.take z := hH.toLiv.apart (M := l.take z) (R := l.drop (z + 1)) (by rw [← List.drop_eq_getElem_cons hzL, List.take_append_drop])
              have htk := List.take_succ_eq_append_getElem hzL
              obtain ⟨a, ha⟩ : ∃ a : Nat, (a : Int) = l[z] := ⟨_, hll.2.2.2⟩
              rw [← ha] at d0 hll hnm htk
              rw [Int.toNat_natCast] at hll
              have c1 := x1.cell (k := a) (by rw [tagL_len]; omega)
              rw [tagL_get _ (fun x hx => by have := hH.lt (List.mem_of_mem_take hx); omega), if_neg hnm, tgt_low (by omega)] at c1
              have hfz : ∀ j, wr.frozen? ⟨g, j, none⟩ = false := fun j => frozen_of_block x1
              obtain ⟨u0, u1⟩ := hH.u32.wd a
              have hA2 := x1.set a (wd ws a * 2 + 1)
              have hts : tagL ws rs (l.take (z + 1)) = (tagL ws rs (l.take z)).set a (wd ws a * 2 + 1) := by rw [htk, tagL_snoc, Int.toNat_natCast]
              rw [← hts] at hA2
              have HA2 := hide (And.intro hA2 (x2.setCell (p := ⟨g, a, none⟩) (Nat.le_refl _) (.int .u64 (wd ws a * 2 + 1))))
              have HLT := hide hlt
              have hkN : (a : Int) < (N : Int) := by have := unhide HN; omega
              have hor := or_one64 (wd ws a) u0 u1
              have hsh : IntKind.u64.wrap (wd ws a * 2) = wd ws a * 2 := by rw [IntKind.wrap_u64]; omega
              generalize wd ws a = x at *
              clear x1 x2 y1 y2 y3 hzL e9 hc c0 hbw hA2 hst hlt hz hH hll hnm htk ha u0 u1 hts
              go_wp2_with fail
              go_roundw
              case rel => exact ⟨z + 1, by go_num, unhide HLT, unhide HA2⟩
              case measure => (have := unhide HLT; simp [intOf]; omega)
            · have hze : z = q := by omega
              subst hze
              have hge : ¬ (z : Int) < (z : Int) := by omega
              have HF : Hid (LmAt wr g (tagL ws rs l) ∧ Below g w wr) := by
                have h1 := unhide hst
                rw [List.take_of_length_le (by have := unhide HX; omega)] at h1
                exact h1
              clear hlt hz hzw hst
              go_wp2_with fail
              go_ret
              have e1 := unhide HG
              rw [← e1]
              exact ⟨rfl, unhide HF⟩
end Go.Proofs.YtlbhhdldeaehkaaGreat

/- The landed package thread: narrow. -/
namespace Go.Proofs.YtlbhhdldeaehkaaGreat
open Go.RowKit

theorem run_make_narU (n : Nat) (hn : n ≤ 2097152) (w : World) :
    (Instr.makeSlice 33 (.int .i64 (n : Int)) (.int .i64 (n : Int))).run Tryz.prog w = .ok (.slice (some ⟨w.heap.size, 0, none⟩) n n) (w.alloc (.cells (Array.replicate n (.int .u32 0)) 31)) := by
  rw [← List.toArray_replicate, ← made_arr]
  exact run_make_row' 33 31 (.int .u32 0) 4 Tryz.underlying33 Tryz.infoU32t rfl .i64 .i64 n (by omega) (by omega) w
theorem run_make_narI (n : Nat) (hn : n ≤ 2097152) (w : World) :
    (Instr.makeSlice 32 (.int .i64 (n : Int)) (.int .i64 (n : Int))).run Tryz.prog w = .ok (.slice (some ⟨w.heap.size, 0, none⟩) n n) (w.alloc (.cells (Array.replicate n (.int .i64 0)) 3)) := by
  rw [← List.toArray_replicate, ← made_arr]
  exact run_make_row' 32 3 (.int .i64 0) 8 Tryz.underlying32 Tryz.infoI64 rfl .i64 .i64 n (by omega) (by omega) w

set_option maxRecDepth 20000 in
set_option maxHeartbeats 2000000 in
theorem narU_any (v : Value) (X : List Int) (w : World) (hv : VRow w v (Lw X)) (hX : ∀ x ∈ X, 0 ≤ x ∧ x < 4294967296) (hl : X.length ≤ 2097152) :
    Calls Tryz.prog 58 #[v] w fun e w' => ∃ r, e = .returned r ∧ w'.ownsRow w.heap.size 31 1 r X.length (Uw X) ∧ Below w.heap.size w w' := by
  have HV := hide hv
  have HX := hide hX
  have HL := hide hl
  obtain ⟨a, cap, rfl, g1, g2, g3⟩ := hv.shape
  have hlx : (Lw X).length = X.length := by simp
  rw [hlx] at HV ⊢
  obtain ⟨n, hn⟩ : ∃ n, n = X.length := ⟨_, rfl⟩
  have HN := hide hn
  rw [← hn] at HV HL ⊢
  have hmk := run_make_narU n (by omega)
  have hA0 : (w.alloc (.cells (Array.replicate n (.int .u32 0)) 31)).heap[w.heap.size]? = some (.cells (Uw (fillL X 0)).toArray 31 (0, 0)) := by
    have := World.alloc_heap_new w (.cells (Array.replicate n (.int .u32 0)) 31)
    rw [this]
    simp [fillL, hn, Uw]
  have HA0 := hide hA0
  have HB0 := hide (show Below w.heap.size w (w.alloc (.cells (Array.replicate n (.int .u32 0)) 31)) from (Below.refl _ _).alloc (Nat.le_refl _) _)
  clear hv hX hl g1 g2 g3 hlx hn hA0
  go_enter Tryz.func58, Tryz.ntmps58
  go_wp2_with fail
  obtain ⟨W0, hW0⟩ : ∃ W0, W0 = w.alloc (.cells (Array.replicate n (.int .u32 0)) 31) := ⟨_, rfl⟩
  rw [← hW0] at HA0 HB0 ⊢
  clear hW0
  obtain ⟨g, hg⟩ : ∃ g, g = w.heap.size := ⟨_, rfl⟩
  have HG := hide hg
  rw [← hg] at HA0 HB0 ⊢
  clear hg
  go_loopw [11] (fun i wr => ∃ k : Nat, i = .int .i64 (k : Int) ∧ k ≤ n ∧ Hid (wr.heap[g]? = some (.cells (Uw (fillL X k)).toArray 31 (0, 0)) ∧ Below g w wr)) (fun i _ => n - (intOf i).toNat)
  case atStart => exact ⟨0, rfl, Nat.zero_le _, unhide HA0, unhide HB0⟩
  case round =>
    clear HA0 HB0
    obtain ⟨k, rfl, hk, hst⟩ := hrel
    have hkw : IntKind.i64.wrap ((k : Int) + 1) = (k : Int) + 1 := by have := unhide HL; rw [IntKind.wrap_i64]; omega
    by_cases hlt : k < n
    · have hkI : (k : Int) < (n : Int) := by omega
      obtain ⟨x1, x2⟩ := unhide hst
      have hNN := unhide HN
      have hkX : k < X.length := by omega
      obtain ⟨b, off, cap', e0, _, _, hc⟩ := (unhide HV).open (by intro e; have := congrArg List.length e; simp at this; rw [this] at hkX; simp at hkX)
      simp only [Value.slice.injEq] at e0
      obtain ⟨rfl, e9, rfl⟩ := e0
      have c0 := hc k _ (by rw [List.getElem?_map, wd_get hkX]; rfl)
      have hbw : Below w.heap.size w wr := by have := x2; rw [unhide HG] at this; exact this
      have d0 := (hbw.cell (World.block_lt_of_cell? _ _ c0)).trans c0
      have hfl : (fillL X k).length = n := by rw [fillL_len (by omega)]; omega
      have c1 : wr.cell? ⟨g, k, none⟩ = some (.int .u32 (wd (fillL X k) k)) := by
        rw [cell_of_row wr g k _ _ (0, 0) x1]
        simp [wd, Uw, show k < (fillL X k).length by omega]
      have hfz : ∀ j, wr.frozen? ⟨g, j, none⟩ = false := fun j => frozen_of_block x1
      have hx := unhide HX (wd X k) (by simp only [wd, List.getElem?_eq_getElem hkX, Option.getD_some]; exact List.getElem_mem hkX)
      have hcv : IntKind.u32.wrap (wd X k) = wd X k := by rw [IntKind.wrap_u32]; omega
      have hA2 : (wr.setCell ⟨g, k, none⟩ (.int .u32 (wd X k))).heap[g]? = some (.cells (Uw (fillL X (k + 1))).toArray 31 (0, 0)) := by
        rw [heap_setCell_same wr g k _ _ _ x1, ← fillL_set hkX]
        simp [Uw]
      have HA2 := hide (And.intro hA2 (x2.setCell (p := ⟨g, k, none⟩) (Nat.le_refl _) (.int .u32 (wd X k))))
      have HLT := hide hlt
      generalize wd X k = x at *
      generalize wd (fillL X k) k = y at *
      clear x1 x2 hNN hkX e9 hc c0 hbw hfl hA2 hst hlt hk
      go_wp2_with fail
      go_roundw
      case rel => exact ⟨k + 1, by go_num, unhide HLT, unhide HA2⟩
      case measure => (have := unhide HLT; simp [intOf]; omega)
    · have hke : k = n := by omega
      subst hke
      have hge : ¬ (k : Int) < (k : Int) := by omega
      have HF : Hid (wr.ownsRow w.heap.size 31 1 (.slice (some ⟨g, 0, none⟩) k k) k (Uw X) ∧ Below w.heap.size w wr) := by
        obtain ⟨x1, x2⟩ := unhide hst
        have hNN := unhide HN
        have hLL := unhide HL
        rw [hNN, fillL_all] at x1
        rw [← unhide HG]
        exact ⟨⟨by simp [hNN], Or.inr ⟨g, k, _, rfl, Nat.le_refl _, x1, Nat.le_refl _, by unfold maxLen; omega, by simp [hNN], by simp only [hNN, Nat.mul_one]; exact List.take_of_length_le (by simp)⟩⟩, x2⟩
      clear hst hlt hk hkw
      go_wp2_with fail
      go_ret
      exact ⟨_, rfl, unhide HF⟩

set_option maxRecDepth 20000 in
set_option maxHeartbeats 2000000 in
theorem narI_any (v : Value) (X : List Int) (w : World) (hv : VRow w v (Lw X)) (hX : ∀ x ∈ X, 0 ≤ x ∧ x < 4294967296) (hl : X.length ≤ 2097152) :
    Calls Tryz.prog 59 #[v] w fun e w' => ∃ r, e = .returned r ∧ w'.ownsRow w.heap.size 3 1 r X.length (Iw X) ∧ Below w.heap.size w w' := by
  have HV := hide hv
  have HX := hide hX
  have HL := hide hl
  obtain ⟨a, cap, rfl, g1, g2, g3⟩ := hv.shape
  have hlx : (Lw X).length = X.length := by simp
  rw [hlx] at HV ⊢
  obtain ⟨n, hn⟩ : ∃ n, n = X.length := ⟨_, rfl⟩
  have HN := hide hn
  rw [← hn] at HV HL ⊢
  have hmk := run_make_narI n (by omega)
  have hA0 : (w.alloc (.cells (Array.replicate n (.int .i64 0)) 3)).heap[w.heap.size]? = some (.cells (Iw (fillL X 0)).toArray 3 (0, 0)) := by
    have := World.alloc_heap_new w (.cells (Array.replicate n (.int .i64 0)) 3)
    rw [this]
    simp [fillL, hn, Iw]
  have HA0 := hide hA0
  have HB0 := hide (show Below w.heap.size w (w.alloc (.cells (Array.replicate n (.int .i64 0)) 3)) from (Below.refl _ _).alloc (Nat.le_refl _) _)
  clear hv hX hl g1 g2 g3 hlx hn hA0
  go_enter Tryz.func59, Tryz.ntmps59
  go_wp2_with fail
  obtain ⟨W0, hW0⟩ : ∃ W0, W0 = w.alloc (.cells (Array.replicate n (.int .i64 0)) 3) := ⟨_, rfl⟩
  rw [← hW0] at HA0 HB0 ⊢
  clear hW0
  obtain ⟨g, hg⟩ : ∃ g, g = w.heap.size := ⟨_, rfl⟩
  have HG := hide hg
  rw [← hg] at HA0 HB0 ⊢
  clear hg
  go_loopw [11] (fun i wr => ∃ k : Nat, i = .int .i64 (k : Int) ∧ k ≤ n ∧ Hid (wr.heap[g]? = some (.cells (Iw (fillL X k)).toArray 3 (0, 0)) ∧ Below g w wr)) (fun i _ => n - (intOf i).toNat)
  case atStart => exact ⟨0, rfl, Nat.zero_le _, unhide HA0, unhide HB0⟩
  case round =>
    clear HA0 HB0
    obtain ⟨k, rfl, hk, hst⟩ := hrel
    have hkw : IntKind.i64.wrap ((k : Int) + 1) = (k : Int) + 1 := by have := unhide HL; rw [IntKind.wrap_i64]; omega
    by_cases hlt : k < n
    · have hkI : (k : Int) < (n : Int) := by omega
      obtain ⟨x1, x2⟩ := unhide hst
      have hNN := unhide HN
      have hkX : k < X.length := by omega
      obtain ⟨b, off, cap', e0, _, _, hc⟩ := (unhide HV).open (by intro e; have := congrArg List.length e; simp at this; rw [this] at hkX; simp at hkX)
      simp only [Value.slice.injEq] at e0
      obtain ⟨rfl, e9, rfl⟩ := e0
      have c0 := hc k _ (by rw [List.getElem?_map, wd_get hkX]; rfl)
      have hbw : Below w.heap.size w wr := by have := x2; rw [unhide HG] at this; exact this
      have d0 := (hbw.cell (World.block_lt_of_cell? _ _ c0)).trans c0
      have hfl : (fillL X k).length = n := by rw [fillL_len (by omega)]; omega
      have c1 : wr.cell? ⟨g, k, none⟩ = some (.int .i64 (wd (fillL X k) k)) := by
        rw [cell_of_row wr g k _ _ (0, 0) x1]
        simp [wd, Iw, show k < (fillL X k).length by omega]
      have hfz : ∀ j, wr.frozen? ⟨g, j, none⟩ = false := fun j => frozen_of_block x1
      have hx := unhide HX (wd X k) (by simp only [wd, List.getElem?_eq_getElem hkX, Option.getD_some]; exact List.getElem_mem hkX)
      have hcv : IntKind.i64.wrap (wd X k) = wd X k := by rw [IntKind.wrap_i64]; omega
      have hA2 : (wr.setCell ⟨g, k, none⟩ (.int .i64 (wd X k))).heap[g]? = some (.cells (Iw (fillL X (k + 1))).toArray 3 (0, 0)) := by
        rw [heap_setCell_same wr g k _ _ _ x1, ← fillL_set hkX]
        simp [Iw]
      have HA2 := hide (And.intro hA2 (x2.setCell (p := ⟨g, k, none⟩) (Nat.le_refl _) (.int .i64 (wd X k))))
      have HLT := hide hlt
      generalize wd X k = x at *
      generalize wd (fillL X k) k = y at *
      clear x1 x2 hNN hkX e9 hc c0 hbw hfl hA2 hst hlt hk
      go_wp2_with fail
      go_roundw
      case rel => exact ⟨k + 1, by go_num, unhide HLT, unhide HA2⟩
      case measure => (have := unhide HLT; simp [intOf]; omega)
    · have hke : k = n := by omega
      subst hke
      have hge : ¬ (k : Int) < (k : Int) := by omega
      have HF : Hid (wr.ownsRow w.heap.size 3 1 (.slice (some ⟨g, 0, none⟩) k k) k (Iw X) ∧ Below w.heap.size w wr) := by
        obtain ⟨x1, x2⟩ := unhide hst
        have hNN := unhide HN
        have hLL := unhide HL
        rw [hNN, fillL_all] at x1
        rw [← unhide HG]
        exact ⟨⟨by simp [hNN], Or.inr ⟨g, k, _, rfl, Nat.le_refl _, x1, Nat.le_refl _, by unfold maxLen; omega, by simp [hNN], by simp only [hNN, Nat.mul_one]; exact List.take_of_length_le (by simp)⟩⟩, x2⟩
      clear hst hlt hk hkw
      go_wp2_with fail
      go_ret
      exact ⟨_, rfl, unhide HF⟩
end Go.Proofs.YtlbhhdldeaehkaaGreat

/- Package arena as landed: newHeap, arenaOf, New. -/
namespace Go.Proofs.YtlbhhdldeaehkaaGreat
open Go.RowKit Go.Shelf
attribute [local go_sem] Oper.semAt_some

/-- Between two rounds of newHeap. -/
def NhI (B gh gb n : Nat) (v rv : Value) (pre : List (Nat × Int)) (C : Nat → Prop) (W : World) : Prop :=
  W.heap[B]? = some (.cells #[.pointer (some ⟨gh, 0, none⟩)] 44 (0, 0)) ∧ W.heap[gh]? = some (.cells #[v, .slice (some ⟨gb, 0, none⟩) n n, rv] 64 (0, 0)) ∧ W.heap[gb]? = some (.cells ((marks n pre).map Value.bool).toArray 4 (0, 0)) ∧ ∀ k, C k ↔ k = B ∨ k = gh ∨ k = gb
theorem NhI.ok (B gh gb n : Nat) (v rv : Value) (b : Nat) : SOk b (NhI B gh gb n v rv) :=
  ⟨fun pre C W W' G ⟨h1, h2, h3, h4⟩ hk hn _ => ⟨(hk.block B (Array.getElem?_eq_some_iff.1 h1).1 (hn B ((h4 B).2 (by simp)))).trans h1, (hk.block gh (Array.getElem?_eq_some_iff.1 h2).1 (hn gh ((h4 gh).2 (by simp)))).trans h2, (hk.block gb (Array.getElem?_eq_some_iff.1 h3).1 (hn gb ((h4 gb).2 (by simp)))).trans h3, h4⟩,
    fun pre C W ⟨h1, h2, h3, h4⟩ k hc => by
      rcases (h4 k).1 hc with rfl | rfl | rfl
      · exact (Array.getElem?_eq_some_iff.1 h1).1
      · exact (Array.getElem?_eq_some_iff.1 h2).1
      · exact (Array.getElem?_eq_some_iff.1 h3).1⟩

set_option maxRecDepth 20000 in
set_option maxHeartbeats 2000000 in
theorem anewheap_any (v rv : Value) (ws rs : List Int) (w : World) (hw : w.ownsRow 0 31 1 v ws.length (Uw ws)) (hr : w.ownsRow 0 3 1 rv 16 (Iw rs)) (hU : U32 ws) (hl : ws.length ≤ 1048576) :
    Calls Tryz.prog 13 #[v, rv] w fun e w' => ∃ gh hv, e = .returned (.pointer (some ⟨gh, 0, none⟩)) ∧ w'.heap[gh]? = some (.cells #[v, hv, rv] 64 (0, 0)) ∧ w'.ownsRow w.heap.size 4 1 hv ws.length (mkV ws) ∧ w.heap.size ≤ gh ∧ Below w.heap.size w w' := by
  refine (callsIn_wide (n := 5)).1 ?_
  refine callsIn_of_wp_marks Tryz.func13 rfl trivial ?_ rfl
  simp only [Tryz.ntmps13, List.size_toArray, List.length_cons, List.length_nil, Nat.reduceAdd, Nat.reduceSub, Array.replicate_succ, Array.replicate_zero, List.push_toArray, List.append_toArray, List.nil_append, List.cons_append]
  have hs := ownsV_row hw (by simp)
  obtain ⟨p, c, rfl⟩ := ownsV_shape hw
  obtain ⟨rp, rc, rfl⟩ := ownsV_shape hr
  have HS := hide hs
  have HU := hide hU
  have HL := hide hl
  have hmk := run_make_bools 62 Tryz.underlying62 ws.length (by omega)
  clear hs hU hl hw hr
  obtain ⟨W0, hW0⟩ : ∃ W0, ((w.alloc (.cells (Array.replicate ws.length (.bool false)) 4)).alloc (.cells #[.slice p ws.length c, .slice (some ⟨w.heap.size, 0, none⟩) ws.length ws.length, .slice rp 16 rc] 64)).alloc (.cells #[.pointer (some ⟨w.heap.size + 1, 0, none⟩)] 44) = W0 := ⟨_, rfl⟩
  have HB0 : Hid (Below w.heap.size w W0) := by unfold Hid; rw [← hW0]; exact (((Below.refl _ w).alloc (Nat.le_refl _) _).alloc (by simp) _).alloc (by simp; omega) _
  have HSZ : Hid (W0.heap.size = w.heap.size + 3) := by unfold Hid; rw [← hW0]; simp
  have H0 : Hid (NhI (w.heap.size + 1 + 1) (w.heap.size + 1) w.heap.size ws.length (.slice p ws.length c) (.slice rp 16 rc) [] (fun k => k = w.heap.size + 1 + 1 ∨ k = w.heap.size + 1 ∨ k = w.heap.size) W0) := by
    unfold Hid
    rw [← hW0]
    obtain ⟨h1, h2, h3⟩ := three_new w (.cells (Array.replicate ws.length (.bool false)) 4) (.cells #[.slice p ws.length c, .slice (some ⟨w.heap.size, 0, none⟩) ws.length ws.length, .slice rp 16 rc] 64) (.cells #[.pointer (some ⟨w.heap.size + 1, 0, none⟩)] 44)
    refine ⟨h3, h2, ?_, fun _ => Iff.rfl⟩
    rw [marks_nil, List.map_replicate, List.toArray_replicate]
    exact h1
  have HW0 := hide hW0
  clear hW0
  gi_wp2_with fail
  rw [unhide HW0]
  clear HW0
  refine ⟨trivial, (callsIn_wide.2 (call_any _ ws W0 ((unhide HS).below (unhide HB0)) (unhide HU) (unhide HL))).mono ?_⟩
  rintro e w1 ⟨v1, rfl, hv1, hv2, hv3, b1⟩
  have HV := hide (And.intro hv1 (And.intro hv2 hv3))
  have HB1 := hide b1
  clear hv1 hv2 hv3 b1
  gi_wp2_with fail
  refine wpIn_seqR (all_seq W0.heap.size v1 ws (unhide HU) (unhide HL)) rfl (fun _ _ => by kernel_rfl) (fun _ => rfl)
    (NhI (w.heap.size + 1 + 1) (w.heap.size + 1) w.heap.size ws.length (.slice p ws.length c) (.slice rp 16 rc)) (fun _ _ _ _ => False) (NhI.ok _ _ _ _ _ _ _) (fun _ => SOk.none _) ((NhI.ok _ _ _ _ _ _ 0).below (unhide H0) (unhide HB1)) ?data ?apart ?round ?done ?stop
  case data =>
    intro W hb
    obtain ⟨h1, h2, h3⟩ := unhide HV
    have l1 := (Array.getElem?_eq_some_iff.1 h1).1
    have c1 : w1.cell? ⟨W0.heap.size, 0, none⟩ = some v1 := by rw [cell_of_row w1 _ _ _ _ (0, 0) h1]; rfl
    exact ⟨(hb.cell (p := ⟨W0.heap.size, 0, none⟩) l1).trans c1, h2.below hb⟩
  case apart =>
    intro k hk
    obtain ⟨h1, h2, h3⟩ := unhide HV
    have l1 := (Array.getElem?_eq_some_iff.1 h1).1
    have hsz := unhide HSZ
    rcases hk with rfl | ⟨hne, hk⟩
    · exact ⟨by omega, l1⟩
    · have := h3 k hk
      exact ⟨by omega, by omega⟩
  case round =>
    rintro l pre ⟨q, h⟩ rest C W hZ hi2 hm
    dsimp only [encO]
    have HZ := hide hZ
    have HI := hide hi2
    clear hZ hi2 hm
    gi_wp2
    refine ⟨NhI (w.heap.size + 1 + 1) (w.heap.size + 1) w.heap.size ws.length (.slice p ws.length c) (.slice rp 16 rc) pre, C, (NhI.ok _ _ _ _ _ _ _).at pre, unhide HI, Moves.refl _ _, fun W2 hi2 hm2 => ?_⟩
    clear HI
    obtain ⟨n1, n2, n3, n4⟩ := obs_next (unhide HZ)
    have hp : q < ws.length := n3.1
    have hpI : (q : Int) < (ws.length : Int) := by omega
    obtain ⟨b1, b2, b3, b4⟩ := hi2
    have c1 : W2.cell? ⟨w.heap.size + 1 + 1, 0, none⟩ = some (.pointer (some ⟨w.heap.size + 1, 0, none⟩)) := by rw [cell_of_row W2 _ _ _ _ (0, 0) b1]; rfl
    obtain ⟨d0, d1, d2, _⟩ := three_cells b2
    have e1 : W2.cell? ⟨w.heap.size, q, none⟩ = some (.bool (decide (q ∈ pre.map Prod.fst))) := by
      rw [cell_of_row W2 _ _ _ _ (0, 0) b3, List.getElem?_toArray, List.getElem?_map, marks_get _ hp]; rfl
    have f1 : W2.frozen? ⟨w.heap.size, q, none⟩ = false := frozen_of_block b3
    have HB := hide (And.intro b1 (And.intro b2 (And.intro b3 b4)))
    have HM2 := hide hm2
    clear b1 b2 b3 b4 hm2 n1 n2 n3 n4 hp
    gi_wp2_with fail
    obtain ⟨b1, b2, b3, b4⟩ := unhide HB
    have K1 : Keep (fun k => k = w.heap.size) W2 (W2.setCell ⟨w.heap.size, q, none⟩ (.bool true)) := keep_set _ _ _ _
    have g1 := heap_setCell_same W2 w.heap.size q _ _ (.bool true) b3
    refine ⟨C, ⟨(K1.block _ (Array.getElem?_eq_some_iff.1 b1).1 (by omega)).trans b1, (K1.block _ (Array.getElem?_eq_some_iff.1 b2).1 (by omega)).trans b2, ?_, b4⟩, K1.weak (fun x hx => (b4 x).2 (Or.inr (Or.inr hx))), fun k hk => Or.inl hk⟩
    rw [marks_snoc, g1]
    simp
  case done =>
    rintro dd C W hdd ⟨b1, b2, b3, b4⟩ hm hnc hK
    have c1 : W.cell? ⟨w.heap.size + 1 + 1, 0, none⟩ = some (.pointer (some ⟨w.heap.size + 1, 0, none⟩)) := by rw [cell_of_row W _ _ _ _ (0, 0) b1]; rfl
    have HV2 := hide (And.intro b2 (And.intro b3 b4))
    have HM := hide hm
    have HK := hide hK
    clear b1 b2 b3 b4 hm hK
    gi_wp2_with fail
    refine ⟨by simp, .inl ⟨_, _, rfl, run_takeDeferred (unhide HK), ?_⟩⟩
    obtain ⟨b2, b3, b4⟩ := unhide HV2
    have hp := keep_put W dd (.deferred none)
    have h1 := (unhide HB0).trans ((unhide HB1).mono (unhide HB0).size)
    have hsz := unhide HSZ
    have hs1 := (unhide HB1).size
    have k2 := (hp.block _ (Array.getElem?_eq_some_iff.1 b2).1 (by omega)).trans b2
    have k3 := (hp.block _ (Array.getElem?_eq_some_iff.1 b3).1 (by omega)).trans b3
    refine ⟨_, results_tmp rfl _ _ _, w.heap.size + 1, _, rfl, k2, ⟨by rw [mkV_len]; omega, Or.inr ⟨w.heap.size, ws.length, _, rfl, Nat.le_refl _, k3, Nat.le_refl _, ?_, ?_, ?_⟩⟩, by omega, ?_⟩
    · have := unhide HL; unfold maxLen; omega
    · simp [marks_length]
    · dsimp only
      rw [List.take_of_length_le (by simp [marks_length])]
      rfl
    · exact below_put h1 (unhide HM) (fun k hk => by omega) hdd _
  case stop =>
    rintro dd c pre x rest C W _ _ h
    exact h.elim

theorem aempty_any (w : World) : Calls Tryz.prog 14 #[] w fun e w' => e = .returned (.slice (some ⟨w.heap.size, 0, none⟩) 1 1) ∧ w' = w.alloc (.cells #[.int .u32 0] 31) := by
  go_enter Tryz.func14, Tryz.ntmps14
  go_wp2_with fail
  go_ret
  exact ⟨rfl, rfl⟩
theorem aroots_any (w : World) : Calls Tryz.prog 15 #[] w fun e w' => e = .returned (.slice (some ⟨w.heap.size, 0, none⟩) 16 16) ∧ w' = w.alloc (.cells (Array.replicate 16 (.int .i64 0)) 3) := by
  have hmk : ∀ w, (Instr.makeSlice 32 (.int .i64 16) (.int .i64 16)).run Tryz.prog w = .ok (.slice (some ⟨w.heap.size, 0, none⟩) 16 16) (w.alloc (.cells (Array.replicate 16 (.int .i64 0)) 3)) := fun w => run_make_narI 16 (by omega) w
  go_enter Tryz.func15, Tryz.ntmps15
  go_wp2_with fail
  go_ret
  exact ⟨rfl, rfl⟩
theorem aof_any (n : Int) (gh : Nat) (w : World) : Calls Tryz.prog 12 #[.int .i64 n, .pointer (some ⟨gh, 0, none⟩)] w fun e w' => e = .returned (.pointer (some ⟨w.heap.size, 0, none⟩)) ∧ w'.heap[w.heap.size]? = some (.cells #[.int .i64 n, .pointer (some ⟨gh, 0, none⟩), hasV gh] 53 (0, 0)) ∧ Below w.heap.size w w' := by
  have hmf : ∀ (fn : Fn) (first cap : Array Value) (w : World), (Instr.makeFunc fn first cap).run Tryz.prog w = .ok (.func fn first cap) w := fun _ _ _ _ => rfl
  have HA := hide (World.alloc_heap_new w (.cells #[.int .i64 n, .pointer (some ⟨gh, 0, none⟩), hasV gh] 53))
  have HB := hide ((Below.refl _ w).alloc (Nat.le_refl _) (.cells #[.int .i64 n, .pointer (some ⟨gh, 0, none⟩), hasV gh] 53))
  unfold hasV at HA HB ⊢
  go_enter Tryz.func12, Tryz.ntmps12
  go_wp2_with fail
  go_ret
  exact ⟨rfl, unhide HA, unhide HB⟩

/-- A new arena of words, roots, laid in new blocks of a world, its rows being where they are. -/
theorem anew_of {w w2 : World} {gh g : Nat} {v hv rv : Value} {n : Nat} {ws rs : List Int} (hw : w2.ownsRow 0 31 1 v ws.length (Uw ws)) (hr : w2.ownsRow 0 3 1 rv 16 (Iw rs)) (hh : w2.ownsRow w.heap.size 4 1 hv ws.length (mkV ws))
    (h1 : w2.heap[gh]? = some (.cells #[v, hv, rv] 64 (0, 0))) (h2 : w2.heap[g]? = some (.cells #[.int .i64 (n : Int), .pointer (some ⟨gh, 0, none⟩), hasV gh] 53 (0, 0))) (ok : AOk n ws rs) : AAt w2 g gh v hv rv n ws rs :=
  ⟨h2, h1, hw, ownsV_base hh (Nat.zero_le _), hr, ok⟩

theorem anew_arg (n : Int) (w : World) (h : n < 16 ∨ 1048576 < n) : Calls Tryz.prog 4 #[.int .i64 n] w fun e w' => e = .returned (.tuple #[.pointer none, .int .i64 1]) ∧ w' = w := by
  by_cases h1 : n < 16
  · clear h
    go_enter Tryz.func4, Tryz.ntmps4
    go_wp2_with fail
    go_ret2
    exact ⟨rfl, rfl⟩
  · have h2 : 1048576 < n := h.resolve_left h1
    clear h
    go_enter Tryz.func4, Tryz.ntmps4
    go_wp2_with fail
    go_ret2
    exact ⟨rfl, rfl⟩

set_option maxRecDepth 20000 in
set_option maxHeartbeats 2000000 in
theorem anew_any (n : Nat) (w : World) (h1 : 16 ≤ n) (h2 : n ≤ 1048576) : Calls Tryz.prog 4 #[.int .i64 (n : Int)] w fun e w' => ∃ g F, e = .returned (.tuple #[.pointer (some ⟨g, 0, none⟩), .int .i64 0]) ∧ AR F w' g n [0] (List.replicate 16 0) ∧ (∀ k, F k → w.heap.size ≤ k) ∧ Below w.heap.size w w' := by
  have HOK := hide (AOk.new h1 h2)
  have q1 : (16 : Int) ≤ (n : Int) := by omega
  have q2 : (n : Int) ≤ 1048576 := by omega
  have HE := hide (aempty_any w)
  have HR := hide (aroots_any (w.alloc (.cells #[.int .u32 0] 31)))
  obtain ⟨w2, hw2⟩ : ∃ w2, (w.alloc (.cells #[.int .u32 0] 31)).alloc (.cells (Array.replicate 16 (.int .i64 0)) 3) = w2 := ⟨_, rfl⟩
  have ho1 : w2.ownsRow w.heap.size 31 1 (.slice (some ⟨w.heap.size, 0, none⟩) 1 1) 1 (Uw [0]) := by
    rw [← hw2]
    exact ⟨rfl, Or.inr ⟨w.heap.size, 1, #[.int .u32 0], rfl, Nat.le_refl _, (Below.heap_alloc _ _ _ (by simp)).trans (World.alloc_heap_new w _), Nat.le_refl _, by unfold maxLen; omega, rfl, rfl⟩⟩
  have ho2 : w2.ownsRow w.heap.size 3 1 (.slice (some ⟨w.heap.size + 1, 0, none⟩) 16 16) 16 (Iw (List.replicate 16 0)) := by
    rw [← hw2]
    have := World.alloc_heap_new (w.alloc (.cells #[.int .u32 0] 31)) (.cells (Array.replicate 16 (.int .i64 0)) 3)
    rw [World.size_alloc] at this
    exact ⟨rfl, Or.inr ⟨w.heap.size + 1, 16, _, rfl, Nat.le_succ _, this, Nat.le_refl _, by unfold maxLen; omega, rfl, rfl⟩⟩
  have hb2 : Below w.heap.size w w2 := by rw [← hw2]; exact ((Below.refl _ w).alloc (Nat.le_refl _) _).alloc (by simp) _
  have HNH := hide (anewheap_any _ _ [0] (List.replicate 16 0) w2 (ownsV_base ho1 (Nat.zero_le _)) (ownsV_base ho2 (Nat.zero_le _)) (AOk.new h1 h2).u32 (by simp))
  have HO := hide (And.intro ho1 ho2)
  have HB2 := hide hb2
  have HW2 := hide hw2
  clear h1 h2 ho1 ho2 hb2 hw2
  go_enter Tryz.func4, Tryz.ntmps4
  go_wp2_with fail
  refine Calls.mono (unhide HE) ?_
  rintro e w1 ⟨rfl, rfl⟩
  go_wp2_with fail
  refine Calls.mono (unhide HR) ?_
  rw [World.size_alloc]
  rintro e w1 ⟨rfl, rfl⟩
  rw [unhide HW2]
  go_wp2_with fail
  refine Calls.mono (unhide HNH) ?_
  rintro e w3 ⟨gh, hv, rfl, g1, g2, g3, b3⟩
  have HG := hide (And.intro g1 (And.intro g2 (And.intro g3 b3)))
  clear g1 g2 g3 b3 HNH
  go_wp2_with fail
  refine Calls.mono (aof_any (n : Int) gh w3) ?_
  rintro e w4 ⟨rfl, k1, b4⟩
  obtain ⟨g1, g2, g3, b3⟩ := unhide HG
  obtain ⟨o1, o2⟩ := unhide HO
  have b24 : Below w2.heap.size w2 w4 := b3.trans (b4.mono b3.size)
  have hs2 := (unhide HB2).size
  have HFIN := hide (show ∃ F, AR F w4 w3.heap.size n [0] (List.replicate 16 0) ∧ (∀ k, F k → w.heap.size ≤ k) ∧ Below w.heap.size w w4 from by
    have hA : AAt w4 w3.heap.size gh (.slice (some ⟨w.heap.size, 0, none⟩) 1 1) hv (.slice (some ⟨w.heap.size + 1, 0, none⟩) 16 16) n [0] (List.replicate 16 0) :=
      ⟨k1, (b4.block _ (Array.getElem?_eq_some_iff.1 g1).1).trans g1, ownsV_base (ownsV_keep (F := fun _ => False) o1 (Keep.of_below b24) (fun _ _ => id)) (Nat.zero_le _), ownsV_base (ownsV_keep (F := fun _ => False) g2 (Keep.of_below b4) (fun _ _ => id)) (Nat.zero_le _), ownsV_base (ownsV_keep (F := fun _ => False) o2 (Keep.of_below b24) (fun _ _ => id)) (Nat.zero_le _), unhide HOK⟩
    refine ⟨_, ⟨gh, _, hv, _, hA, fun _ => Iff.rfl⟩, fun k hk => ?_, (unhide HB2).trans (b24.mono hs2)⟩
    have hs3 := b3.size
    rcases hk with rfl | rfl | hk | hk | hk
    · omega
    · omega
    · exact (o1.lt k hk).1
    · exact Nat.le_trans hs2 (g2.lt k hk).1
    · exact (o2.lt k hk).1)
  clear k1 b4 g1 g2 g3 b3 o1 o2 b24 hs2
  go_wp2_with fail
  go_ret2
  obtain ⟨F, f1, f2, f3⟩ := unhide HFIN
  exact ⟨_, F, rfl, f1, f2, f3⟩
end Go.Proofs.YtlbhhdldeaehkaaGreat

/- Package arena as landed: object, At, data, Set, SetRoot. -/
namespace Go.Proofs.YtlbhhdldeaehkaaGreat
open Go.RowKit

theorem Tryz.sizeU32w : (Tryz.prog.info? 31).map (·.size) = some 1 := by kernel_rfl
set_option maxRecDepth 20000 in
theorem aobject_any (v : Value) (ws : List Int) (a : Int) (w : World) (hv : VRow w v (Uw ws)) (hU : U32 ws) (hl : ws.length ≤ 1048576) (ha : isOb ws a) :
    Calls Tryz.prog 60 #[v, .int .i64 a] w fun e w' => ∃ p d, e = .returned (.agg #[.int .i64 (wd ws a.toNat % 16), p, d]) ∧ w'.ownsRow w.heap.size 3 1 p (ptsA ws a).length (Iw (ptsA ws a)) ∧ w'.ownsRow w.heap.size 31 1 d (dtA ws a).length (Uw (dtA ws a)) ∧ Below w.heap.size w w' := by
  have h1 := ha.1
  have h2 := ha.2.1
  obtain ⟨k, rfl⟩ : ∃ k : Nat, a = (k : Int) + 1 := ⟨(a - 1).toNat, by omega⟩
  obtain ⟨p, c, rfl, _, _, _⟩ := hv.shape
  have hlw : (Uw ws).length = ws.length := by simp
  rw [hlw] at hv ⊢
  obtain ⟨q, c', HCUT, HROW, _⟩ := hv.cut_l (t := 33) Tryz.underlying33 Tryz.sizeU32w k (ws.length - k) (by rw [hlw]; omega)
  rw [← List.map_drop] at HROW
  have hat := atR_drop ha
  rw [show (((k : Int) + 1).toNat - 1) = k by omega] at hat
  rw [atR_is ha] at hat
  have hb0 : Below w.heap.size w (w.alloc (.cells #[.int .i64 0, .slice none 0 0, .slice none 0 0] 66)) := (Below.refl _ w).alloc (Nat.le_refl _) _
  have HC := hide (cat_any _ (ws.drop k) 1 _ (HROW.below hb0) (fun x hx => hU x (List.mem_of_mem_drop hx)) (by rw [List.length_drop]; omega))
  have HAT := hide hat
  have HB0 := hide hb0
  have hw : wrap64 ((k : Int) + 1 - 1) = (k : Int) := by unfold wrap64; omega
  clear hv hlw HROW hat ha hU h1 hb0
  go_enter Tryz.func60, Tryz.ntmps60
  go_wp2_with fail
  refine Calls.mono (unhide HC) ?_
  rintro e w1 ⟨p1, d1, kd, er, ps, ds, rfl, hat, hop, hod, b1⟩
  rw [unhide HAT] at hat
  simp only [Prod.mk.injEq] at hat
  obtain ⟨rfl, rfl, rfl, rfl⟩ := hat
  have b2 := (World.alloc_heap_new w (.cells #[.int .i64 0, .slice none 0 0, .slice none 0 0] 66))
  have b3 := (b1.block _ (by rw [World.size_alloc]; omega)).trans b2
  obtain ⟨x0, x1, x2, xf⟩ := three_cells b3
  have xf0 := xf 0
  have xf1 := xf 1
  have xf2 := xf 2
  have HO := hide (And.intro hop (And.intro hod (And.intro b1 b3)))
  obtain ⟨p1, c1, rfl⟩ := ownsV_shape hop
  obtain ⟨d1, c2, rfl⟩ := ownsV_shape hod
  have hlt : w.heap.size < w1.heap.size := (Array.getElem?_eq_some_iff.1 b3).1
  have hn1 : ¬ w1.heap.size = w.heap.size := by omega
  have hn2 : ¬ w.heap.size = w1.heap.size := by omega
  clear hop hod b1 b2 b3 xf
  have HLT := hide hlt
  go_wp2_with fail
  obtain ⟨hop, hod, b1, b3⟩ := unhide HO
  obtain ⟨s3, K3⟩ := set_three (x := .int .i64 (wd ws (k + 1) % 16)) (y := .slice p1 (ptsA ws ((k : Int) + 1)).length c1) (z := .slice d1 (dtA ws ((k : Int) + 1)).length c2) b3
  have hs3 := K3.size
  have hlt := unhide HLT
  have hb4 : Below (((w1.setCell ⟨w.heap.size, 0, none⟩ (.int .i64 (wd ws (k + 1) % 16))).setCell ⟨w.heap.size, 1, none⟩ (.slice p1 (ptsA ws ((k : Int) + 1)).length c1)).setCell ⟨w.heap.size, 2, none⟩ (.slice d1 (dtA ws ((k : Int) + 1)).length c2)).heap.size _ _ := (Below.refl _ _).alloc (Nat.le_refl _) (.cells #[.int .i64 (wd ws (k + 1) % 16), .slice p1 (ptsA ws ((k : Int) + 1)).length c1, .slice d1 (dtA ws ((k : Int) + 1)).length c2] 66)
  have s4 := (hb4.block _ (by omega)).trans s3
  obtain ⟨t0, t1, t2, _⟩ := three_cells s4
  refine bodyPost_ret (v := .agg #[.int .i64 (wd ws (k + 1) % 16), .slice p1 (ptsA ws ((k : Int) + 1)).length c1, .slice d1 (dtA ws ((k : Int) + 1)).length c2]) (by simp [results, Tryz.results60, go_sem, t0, t1, t2]) rfl ?_
  have K4 := K3.trans (Keep.of_below (F := fun k => k = w.heap.size) hb4) (fun x hx => Or.inl hx)
  have hs1 := (unhide HB0).size
  refine ⟨_, _, rfl, ownsV_base (ownsV_keep hop K4 (fun j hj e => ?_)) hs1, ownsV_base (ownsV_keep hod K4 (fun j hj e => ?_)) hs1, (unhide HB0).trans ((b1.mono hs1).trans (K4.below (by omega) (fun j hj => by omega)))⟩
  · have := (hop.lt j hj).1; rw [World.size_alloc] at this; omega
  · have := (hod.lt j hj).1; rw [World.size_alloc] at this; omega

theorem aat_nil (a : Int) (w : World) : Calls Tryz.prog 23 #[.pointer none, .int .i64 a] w fun e w' => e = .returned (.tuple #[.agg #[.int .i64 0, .slice none 0 0, .slice none 0 0], .int .i64 2]) ∧ Below w.heap.size w w' := by
  have HN := hide (fun w => anone_nil w)
  have HB := hide ((Below.refl _ w).alloc (Nat.le_refl _) (.cells #[.int .i64 0, .slice none 0 0, .slice none 0 0] 66))
  go_enter Tryz.func23, Tryz.ntmps23
  go_wp2_with fail
  refine Calls.mono (unhide HN _) ?_
  rintro e w1 ⟨rfl, rfl⟩
  go_wp2_with fail
  obtain ⟨t0, t1, t2, _⟩ := three_cells (World.alloc_heap_new w (.cells #[.int .i64 0, .slice none 0 0, .slice none 0 0] 66))
  refine bodyPost_ret (v := .tuple #[.agg #[.int .i64 0, .slice none 0 0, .slice none 0 0], .int .i64 2]) (by simp [results, Tryz.results23, go_sem, t0, t1, t2]) rfl ?_
  exact ⟨rfl, unhide HB⟩

set_option maxRecDepth 20000 in
set_option maxHeartbeats 2000000 in
theorem adata_any (w : World) (g gh : Nat) (wv hv rv : Value) (n : Nat) (ws rs : List Int) (a : Int) (h : AAt w g gh wv hv rv n ws rs) (ha : isOb ws a) :
    Calls Tryz.prog 63 #[.pointer (some ⟨gh, 0, none⟩), .int .i64 a] w fun e w' => (∃ q c', e = .returned (.slice q (dtA ws a).length c') ∧ (0 < (dtA ws a).length → ∃ b, wv.ownBlock = some b ∧ q = some ⟨b, a.toNat + 1 + ptN (wd ws a.toNat), none⟩)) ∧ w' = w.drew := by
  obtain ⟨s1, s2, s3, s4⟩ := isOb_size ha
  obtain ⟨p, hp⟩ : ∃ p : Nat, (p : Int) = a := ⟨_, s4⟩
  subst hp
  simp only [Int.toNat_natCast] at s1 s2 s3
  obtain ⟨d0, d1, d2, _⟩ := three_cells h.hblk
  have hrow := h.wrow
  have hlen := h.ok.len
  rcases h.wown.2 with ⟨_, h0⟩ | ⟨b, cap, cur, rfl, _, hb, hnc, hcm, _, _⟩
  · omega
  obtain ⟨bk, off, cz, e0, k1, k2, hcl⟩ := hrow.open (by intro e; have := congrArg List.length e; simp at this; rw [this] at s3; simp at s3)
  simp only [Value.slice.injEq, Option.some.injEq, Addr.mk.injEq, List.length_map] at e0
  obtain ⟨⟨rfl, rfl, _⟩, _, rfl⟩ := e0
  have hc0 := hcl p _ (by rw [List.getElem?_map, wd_get s3]; rfl)
  rw [Nat.zero_add] at hc0
  obtain ⟨u0, u1⟩ := h.ok.u32.wd p
  have f1 := szN_int u0
  have f2 := ptN_int (wd ws p)
  have hL := dtA_len ha
  unfold szA at hL
  rw [Int.toNat_natCast] at hL
  have HL := hide hL
  have HPT := hide (fun w => cptrs_t (wd ws p) w u0 u1)
  have HSZ := hide (fun w => csize_t (wd ws p) w u0 u1)
  have h1 : IntKind.i64.wrap ((p : Int) + 1) = (p : Int) + 1 := by rw [IntKind.wrap_i64]; omega
  have h2 : IntKind.i64.wrap ((p : Int) + 1 + wd ws p / 16 % 256) = (p : Int) + 1 + wd ws p / 16 % 256 := by rw [IntKind.wrap_i64]; omega
  have h4 : IntKind.i64.wrap ((p : Int) + wd ws p / 4096) = (p : Int) + wd ws p / 4096 := by rw [IntKind.wrap_i64]; omega
  have h3 : (p : Int) < (ws.length : Int) := by omega
  have hcut : ∃ q c', (∀ W, (Instr.slice 33 (.slice (some ⟨b, 0, none⟩) ws.length cap) (some (.int .i64 ((p : Int) + 1 + wd ws p / 16 % 256))) (some (.int .i64 ((p : Int) + wd ws p / 4096))) none).run Tryz.prog W = .ok (.slice q (dtA ws (p : Int)).length c') W) ∧ (0 < (dtA ws (p : Int)).length → q = some ⟨b, p + 1 + ptN (wd ws p), none⟩) := by
    have hrun := fun W => run_slice_lh (P := Tryz.prog) W 33 (some ⟨b, 0, none⟩) ws.length cap (by rw [elemV_of Tryz.underlying33]; exact Tryz.underlying33) .i64 .i64 ((p : Int) + 1 + wd ws p / 16 % 256) ((p : Int) + wd ws p / 4096) (by omega) (by omega) (by omega)
    have e1 : ((p : Int) + 1 + wd ws p / 16 % 256).toNat = p + 1 + ptN (wd ws p) := by omega
    have e2 : ((p : Int) + wd ws p / 4096).toNat = p + szN (wd ws p) := by omega
    simp only [sizeV_run Tryz.sizeU32w Tryz.underlying33, Result.andThen_ok, e1, e2] at hrun
    unfold sliced at hrun
    by_cases hcl : cap = p + 1 + ptN (wd ws p)
    · simp only [if_pos hcl] at hrun
      refine ⟨some ⟨b, 0, none⟩, 0, fun W => ?_, fun h0 => by omega⟩
      rw [hrun W, hL]
      congr 2 <;> omega
    · simp only [if_neg hcl, Option.map_some, Addr.add_lit] at hrun
      refine ⟨some ⟨b, 0 + (p + 1 + ptN (wd ws p)) * 1, none⟩, cap - (p + 1 + ptN (wd ws p)), fun W => ?_, fun h0 => by simp⟩
      rw [hrun W, hL]
      have e3 : p + szN (wd ws p) - (p + 1 + ptN (wd ws p)) = szN (wd ws p) - 1 - ptN (wd ws p) := by omega
      rw [e3]
  obtain ⟨q, c', HCUT, HQ⟩ := hcut
  have HQ := hide HQ
  have hmx : Tryz.prog.follows .mixedOrders = true := by kernel_rfl
  rw [Int.toNat_natCast]
  generalize wd ws p = x at *
  generalize (dtA ws (p : Int)).length = m at *
  clear hL HL ha h s1 s2 s3 s4 hrow hlen hb hnc hcm k1 k2 hcl f1 f2
  go_enter Tryz.func63, Tryz.ntmps63
  go_wp2_with fail
  refine wp_region_still_lit hmx (by kernel_rfl) ?_
  repeat (first | still_step | still_call (unhide HPT _) | still_call (unhide HSZ _))
  refine wpStill_nil ?_
  go_wp2_with fail
  go_ret
  exact ⟨⟨q, c', rfl, fun h0 => ⟨b, rfl, unhide HQ h0⟩⟩, rfl⟩

set_option maxRecDepth 20000 in
set_option maxHeartbeats 2000000 in
theorem aat_any (w : World) (g gh : Nat) (wv hv rv : Value) (n : Nat) (ws rs : List Int) (a : Int) (h : AAt w g gh wv hv rv n ws rs) :
    Calls Tryz.prog 23 #[.pointer (some ⟨g, 0, none⟩), .int .i64 a] w fun e w' => ∃ p d kd er, e = .returned (.tuple #[.agg #[.int .i64 kd, p, d], .int .i64 er]) ∧ ∃ ps ds, atR ws a = (kd, ps, ds, er) ∧ w'.ownsRow w.heap.size 3 1 p ps.length (Iw ps) ∧ w'.ownsRow w.heap.size 31 1 d ds.length (Uw ds) ∧ Below w.heap.size w w' := by
  have hb0 : Below w.heap.size w (w.alloc (.cells #[.int .i64 0, .slice none 0 0, .slice none 0 0] 66)) := (Below.refl _ w).alloc (Nat.le_refl _) _
  have hA0 := h.below hb0
  have HN := hide (anone_no _ g gh wv hv rv n ws rs hA0)
  have HH := hide (ahas_any _ g gh wv hv rv n ws rs a hA0)
  obtain ⟨c0, c1, c2, _⟩ := three_cells hA0.blk
  unfold hasV at c2
  have hR := World.alloc_heap_new w (.cells #[.int .i64 0, .slice none 0 0, .slice none 0 0] 66)
  have HB0 := hide hb0
  have HR := hide hR
  by_cases ho : isOb ws a
  · rw [atR_is ho]
    have hd : decide (isOb ws a) = true := by simp [ho]
    rw [hd] at HH
    obtain ⟨d0, d1, d2, _⟩ := three_cells hA0.hblk
    have HO := hide (aobject_any wv ws a _ hA0.wrow h.ok.u32 h.ok.len ho)
    obtain ⟨pw, cw, rfl⟩ := ownsV_shape h.wown
    clear h hA0 hR hb0 hd ho
    go_enter Tryz.func23, Tryz.ntmps23
    go_wp2_with fail
    refine Calls.mono (unhide HN) ?_
    rintro e w1 ⟨rfl, rfl⟩
    go_wp2_with fail
    refine Calls.mono (unhide HH) ?_
    rintro e w1 ⟨rfl, rfl⟩
    go_wp2_with fail
    refine Calls.mono (unhide HO) ?_
    rintro e w1 ⟨p, d, rfl, hop, hod, b1⟩
    have b3 := (b1.block w.heap.size (by rw [World.size_alloc]; omega)).trans (unhide HR)
    obtain ⟨x0, x1, x2, xf⟩ := three_cells b3
    have xf0 := xf 0
    have xf1 := xf 1
    have xf2 := xf 2
    have hs1 := (unhide HB0).size
    obtain ⟨s3, K3⟩ := set_three (x := .int .i64 (wd ws a.toNat % 16)) (y := p) (z := d) b3
    have hop2 := ownsV_base (ownsV_keep hop K3 (fun j hj e => by have := (hop.lt j hj).1; rw [World.size_alloc] at this; omega)) hs1
    have hod2 := ownsV_base (ownsV_keep hod K3 (fun j hj e => by have := (hod.lt j hj).1; rw [World.size_alloc] at this; omega)) hs1
    have hB := (unhide HB0).trans ((b1.mono hs1).trans (K3.below (by have := b1.size; omega) (fun j hj => by omega)))
    have HF := hide (And.intro s3 (And.intro hop2 (And.intro hod2 hB)))
    obtain ⟨p, pc, rfl⟩ := ownsV_shape hop
    obtain ⟨d, dc, rfl⟩ := ownsV_shape hod
    clear hop hod b1 b3 xf s3 K3 hop2 hod2 hB hs1
    go_wp2_with fail
    obtain ⟨s3, hop, hod, hB⟩ := unhide HF
    obtain ⟨t0, t1, t2, _⟩ := three_cells s3
    refine bodyPost_ret (v := .tuple #[.agg #[.int .i64 (wd ws a.toNat % 16), .slice p (ptsA ws a).length pc, .slice d (dtA ws a).length dc], .int .i64 0]) (by simp [results, Tryz.results23, go_sem, t0, t1, t2]) rfl ?_
    exact ⟨_, _, _, _, rfl, _, _, rfl, hop, hod, hB⟩
  · rw [atR_not ho]
    have hd : decide (isOb ws a) = false := by simp [ho]
    rw [hd] at HH
    clear h hA0 hR hb0 hd ho
    go_enter Tryz.func23, Tryz.ntmps23
    go_wp2_with fail
    refine Calls.mono (unhide HN) ?_
    rintro e w1 ⟨rfl, rfl⟩
    go_wp2_with fail
    refine Calls.mono (unhide HH) ?_
    rintro e w1 ⟨rfl, rfl⟩
    go_wp2_with fail
    obtain ⟨t0, t1, t2, _⟩ := three_cells (unhide HR)
    refine bodyPost_ret (v := .tuple #[.agg #[.int .i64 0, .slice none 0 0, .slice none 0 0], .int .i64 6]) (by simp [results, Tryz.results23, go_sem, t0, t1, t2]) rfl ?_
    exact ⟨_, _, _, _, rfl, _, _, rfl, World.ownsRow_nil _ _ _ _, World.ownsRow_nil _ _ _ _, unhide HB0⟩
end Go.Proofs.YtlbhhdldeaehkaaGreat

/- Package arena as landed: Set, SetRoot. -/
namespace Go.Proofs.YtlbhhdldeaehkaaGreat
open Go.RowKit

/-- One thing of a row is another. -/
theorem owns_set {w : World} {base e g c n : Nat} {xs : List Value} (h : w.ownsRow base e 1 (.slice (some ⟨g, 0, none⟩) n c) n xs) (j : Nat) (u : Value) : (w.setCell ⟨g, j, none⟩ u).ownsRow base e 1 (.slice (some ⟨g, 0, none⟩) n c) n (xs.set j u) := by
  obtain ⟨h1, h2⟩ := h
  refine ⟨by rw [List.length_set]; exact h1, ?_⟩
  rcases h2 with ⟨e1, _⟩ | ⟨g', cap, cur, e1, a1, a2, a3, a4, a5, a6⟩
  · cases e1
  · simp only [Value.slice.injEq, Option.some.injEq, Addr.mk.injEq, and_true, true_and] at e1
    obtain ⟨rfl, rfl⟩ := e1
    refine Or.inr ⟨g, c, _, rfl, a1, heap_setCell_same w g j _ _ u a2, a3, a4, by simp [a5], ?_⟩
    rw [← a6]
    simp [List.take_set]
def setP (ws : List Int) (a i v : Int) : Int × List Int := if isOb ws a then (if 0 ≤ i ∧ i < (dtA ws a).length then (0, setW ws a i.toNat v) else (1, ws)) else (6, ws)
def setRP (ws rs : List Int) (s a : Int) : Int × List Int := if (0 ≤ s ∧ s < 16) ∧ (a = 0 ∨ isOb ws a) then (0, rs.set s.toNat a) else (1, rs)

theorem aset_nil (a i v : Int) (w : World) : Calls Tryz.prog 26 #[.pointer none, .int .i64 a, .int .i64 i, .int .u32 v] w fun e w' => e = .returned (.int .i64 2) ∧ w' = w := by
  have HN := hide (anone_nil w)
  go_enter Tryz.func26, Tryz.ntmps26
  go_wp2_with fail
  refine Calls.mono (unhide HN) ?_
  rintro e w1 ⟨rfl, rfl⟩
  go_wp2_with fail
  go_ret
  exact ⟨rfl, rfl⟩
theorem asetroot_nil (s a : Int) (w : World) : Calls Tryz.prog 28 #[.pointer none, .int .i64 s, .int .i64 a] w fun e w' => e = .returned (.int .i64 2) ∧ w' = w := by
  have HN := hide (anone_nil w)
  go_enter Tryz.func28, Tryz.ntmps28
  go_wp2_with fail
  refine Calls.mono (unhide HN) ?_
  rintro e w1 ⟨rfl, rfl⟩
  go_wp2_with fail
  go_ret
  exact ⟨rfl, rfl⟩

set_option maxRecDepth 20000 in
set_option maxHeartbeats 2000000 in
theorem aset_any (F : Nat → Prop) (w : World) (g n : Nat) (ws rs : List Int) (a i v : Int) (hA : AR F w g n ws rs) (h0 : 0 ≤ v) (h1 : v < 4294967296) :
    Calls Tryz.prog 26 #[.pointer (some ⟨g, 0, none⟩), .int .i64 a, .int .i64 i, .int .u32 v] w fun e w' => e = .returned (.int .i64 (setP ws a i v).1) ∧ AR F w' g n (setP ws a i v).2 rs ∧ Keep F w w' := by
  have HA := hide hA
  obtain ⟨gh, wv, hv, rv, h, hF⟩ := hA
  have HN := hide (anone_no w g gh wv hv rv n ws rs h)
  have HH := hide (ahas_any w g gh wv hv rv n ws rs a h)
  obtain ⟨c0, c1, c2, _⟩ := three_cells h.blk
  unfold hasV at c2
  unfold setP
  by_cases ho : isOb ws a
  · rw [if_pos ho]
    have hd : decide (isOb ws a) = true := by simp [ho]
    rw [hd] at HH
    have HD := hide (adata_any w g gh wv hv rv n ws rs a h ho)
    have HK := hide (show AR F w.drew g n ws rs ∧ Keep F w w.drew from ⟨(unhide HA).below ((Below.refl _ w).drew), Keep.of_below ((Below.refl _ w).drew)⟩)
    by_cases hi : 0 ≤ i ∧ i < (dtA ws a).length
    · rw [if_pos hi]
      obtain ⟨i0, i1⟩ := hi
      obtain ⟨k, rfl⟩ := Int.eq_ofNat_of_zero_le i0
      have hk : k < (dtA ws a).length := by omega
      have hok := h.ok.set (v := v) ho hk h0 h1
      rcases h.wown.2 with ⟨_, h0⟩ | ⟨b, cap, cur, rfl, _, hb, hnc, hcm, hsz, htk⟩
      · have := h.ok.pos; omega
      obtain ⟨s1, s2, s3, s4⟩ := isOb_size ho
      have hdl := dtA_len ho
      unfold szA at hdl
      have hj : a.toNat + 1 + ptN (wd ws a.toNat) + k < ws.length := by omega
      have hcell := h.wown.cells (g := b) rfl (a.toNat + 1 + ptN (wd ws a.toNat) + k) (.int .u32 (wd ws (a.toNat + 1 + ptN (wd ws a.toNat) + k))) (by rw [List.getElem?_map, wd_get hj]; rfl)
      rw [Addr.add_lit, Nat.zero_add] at hcell
      have hcw : w.drew.cell? ⟨b, a.toNat + 1 + ptN (wd ws a.toNat) + k, none⟩ = some (.int .u32 (wd ws (a.toNat + 1 + ptN (wd ws a.toNat) + k))) := hcell
      have hfz : w.drew.frozen? ⟨b, a.toNat + 1 + ptN (wd ws a.toNat) + k, none⟩ = false := frozen_of_block (w := w.drew) hb
      have HFIN : Hid (AR F (w.drew.setCell ⟨b, a.toNat + 1 + ptN (wd ws a.toNat) + k, none⟩ (.int .u32 v)) g n (setW ws a k v) rs ∧ Keep F w (w.drew.setCell ⟨b, a.toNat + 1 + ptN (wd ws a.toNat) + k, none⟩ (.int .u32 v))) := by
        have hd := h.below ((Below.refl _ w).drew)
        have K := keep_set w.drew b (a.toNat + 1 + ptN (wd ws a.toNat) + k) (.int .u32 v)
        have KK : Keep F w (w.drew.setCell ⟨b, a.toNat + 1 + ptN (wd ws a.toNat) + k, none⟩ (.int .u32 v)) := ((Keep.of_below (F := fun k => k = b) ((Below.refl _ w).drew)).trans K (fun x hx => Or.inl hx)).weak (fun x hx => (hF x).2 (Or.inr (Or.inr (Or.inl (by rw [hx]; rfl)))))
        refine ⟨⟨gh, _, hv, rv, ⟨(K.block g (Array.getElem?_eq_some_iff.1 hd.blk).1 (fun e => ?_)).trans hd.blk, (K.block gh (Array.getElem?_eq_some_iff.1 hd.hblk).1 (fun e => ?_)).trans hd.hblk, ?_, ?_, ownsV_keep hd.rown K (fun x hx e => ?_), hok.1⟩, hF⟩, KK⟩
        · exact blk_unlike hd.blk hb (by decide) e
        · exact blk_unlike hd.hblk hb (by decide) e
        · have := owns_set hd.wown (a.toNat + 1 + ptN (wd ws a.toNat) + k) (.int .u32 v)
          unfold setW
          rw [List.length_set, Uw, List.map_set]
          exact this
        · have := ownsV_keep hd.hown K (fun x hx e => own_unlike hd.hown hd.wown (by decide) x hx (by rw [e]; rfl))
          unfold mkV
          rw [hok.2.1, hok.2.2]
          exact this
        · exact own_unlike hd.rown hd.wown (by decide) x hx (by rw [e]; rfl)
      rw [show setW ws a ((k : Int)).toNat v = setW ws a k v by rw [Int.toNat_natCast]]
      have hkI : (k : Int) < ((dtA ws a).length : Int) := i1
      have hpos : 0 < (dtA ws a).length := by omega
      have HP := hide hpos
      obtain ⟨d0, d1, d2, _⟩ := three_cells h.hblk
      generalize hP : a.toNat + 1 + ptN (wd ws a.toNat) = P at *
      generalize wd ws (P + k) = y at *
      generalize setW ws a k v = ws2 at *
      generalize hm : (dtA ws a).length = m at *
      clear h hF HA HK hok hb hnc hcm hsz htk s1 s2 s3 s4 hdl hj hcell hd ho hk hpos i0 i1 h0 h1 hm hP
      go_enter Tryz.func26, Tryz.ntmps26
      go_wp2_with fail
      refine Calls.mono (unhide HN) ?_
      rintro e w1 ⟨rfl, rfl⟩
      go_wp2_with fail
      refine Calls.mono (unhide HH) ?_
      rintro e w1 ⟨rfl, rfl⟩
      go_wp2_with fail
      refine Calls.mono (unhide HD) ?_
      rintro e w1 ⟨⟨q, c', rfl, hq⟩, rfl⟩
      obtain ⟨b2, hb2, rfl⟩ := hq (unhide HP)
      simp only [Value.ownBlock, Option.some.injEq] at hb2
      subst hb2
      clear hq
      go_wp2_with fail
      go_ret
      exact ⟨rfl, unhide HFIN⟩
    · rw [if_neg hi]
      obtain ⟨d0, d1, d2, _⟩ := three_cells h.hblk
      generalize hm : (dtA ws a).length = m at *
      by_cases hi0 : 0 ≤ i
      · have hi1 : (m : Int) ≤ i := by
          have : ¬ i < (m : Int) := fun h => hi ⟨hi0, h⟩
          omega
        clear h hF HA hi hm hd
        go_enter Tryz.func26, Tryz.ntmps26
        go_wp2_with fail
        refine Calls.mono (unhide HN) ?_
        rintro e w1 ⟨rfl, rfl⟩
        go_wp2_with fail
        refine Calls.mono (unhide HH) ?_
        rintro e w1 ⟨rfl, rfl⟩
        go_wp2_with fail
        refine Calls.mono (unhide HD) ?_
        rintro e w1 ⟨⟨q, c', rfl, hq⟩, rfl⟩
        clear hq
        go_wp2_with fail
        go_ret
        exact ⟨rfl, unhide HK⟩
      · clear h hF HA hi hm hd
        go_enter Tryz.func26, Tryz.ntmps26
        go_wp2_with fail
        refine Calls.mono (unhide HN) ?_
        rintro e w1 ⟨rfl, rfl⟩
        go_wp2_with fail
        refine Calls.mono (unhide HH) ?_
        rintro e w1 ⟨rfl, rfl⟩
        go_wp2_with fail
        refine Calls.mono (unhide HD) ?_
        rintro e w1 ⟨⟨q, c', rfl, hq⟩, rfl⟩
        clear hq
        go_wp2_with fail
        go_ret
        exact ⟨rfl, unhide HK⟩
  · rw [if_neg ho]
    have hd : decide (isOb ws a) = false := by simp [ho]
    rw [hd] at HH
    clear h hF hd ho
    go_enter Tryz.func26, Tryz.ntmps26
    go_wp2_with fail
    refine Calls.mono (unhide HN) ?_
    rintro e w1 ⟨rfl, rfl⟩
    go_wp2_with fail
    refine Calls.mono (unhide HH) ?_
    rintro e w1 ⟨rfl, rfl⟩
    go_wp2_with fail
    go_ret
    exact ⟨rfl, unhide HA, Keep.refl _ _⟩

set_option maxRecDepth 20000 in
set_option maxHeartbeats 2000000 in
theorem asetroot_any (F : Nat → Prop) (w : World) (g n : Nat) (ws rs : List Int) (s a : Int) (hA : AR F w g n ws rs) :
    Calls Tryz.prog 28 #[.pointer (some ⟨g, 0, none⟩), .int .i64 s, .int .i64 a] w fun e w' => e = .returned (.int .i64 (setRP ws rs s a).1) ∧ AR F w' g n ws (setRP ws rs s a).2 ∧ Keep F w w' := by
  have HA := hide hA
  obtain ⟨gh, wv, hv, rv, h, hF⟩ := hA
  have HN := hide (anone_no w g gh wv hv rv n ws rs h)
  have HS := hide (aslot_any s w)
  have HM := hide (amay_any w g gh wv hv rv n ws rs a h)
  obtain ⟨c0, c1, c2, _⟩ := three_cells h.blk
  obtain ⟨d0, d1, d2, _⟩ := three_cells h.hblk
  unfold setRP
  by_cases hs : 0 ≤ s ∧ s < 16
  · have e1 : decide (0 ≤ s ∧ s < 16) = true := by simp [hs]
    rw [e1] at HS
    by_cases ha : a = 0 ∨ isOb ws a
    · have e2 : decide (a = 0 ∨ isOb ws a) = true := by simp [ha]
      rw [e2] at HM
      rw [if_pos ⟨hs, ha⟩]
      obtain ⟨k, rfl⟩ := Int.eq_ofNat_of_zero_le hs.1
      have hk : k < 16 := by omega
      have hsl := h.ok.slots
      rcases h.rown.2 with ⟨_, h0⟩ | ⟨b, cap, cur, rfl, _, hb, hnc, hcm, hsz, htk⟩
      · omega
      have hcell := h.rown.cells (g := b) rfl k (.int .i64 (wd rs k)) (by rw [List.getElem?_map, wd_get (by omega)]; rfl)
      rw [Addr.add_lit, Nat.zero_add] at hcell
      have hfz : w.frozen? ⟨b, k, none⟩ = false := frozen_of_block hb
      have HFIN : Hid (AR F (w.setCell ⟨b, k, none⟩ (.int .i64 a)) g n ws (rs.set k a) ∧ Keep F w (w.setCell ⟨b, k, none⟩ (.int .i64 a))) := by
        have K := keep_set w b k (.int .i64 a)
        refine ⟨⟨gh, wv, hv, _, ⟨(K.block g (Array.getElem?_eq_some_iff.1 h.blk).1 (fun e => ?_)).trans h.blk, (K.block gh (Array.getElem?_eq_some_iff.1 h.hblk).1 (fun e => ?_)).trans h.hblk, ownsV_keep h.wown K (fun x hx e => ?_), ownsV_keep h.hown K (fun x hx e => ?_), ?_, h.ok.root k ha⟩, hF⟩, K.weak (fun x hx => (hF x).2 (Or.inr (Or.inr (Or.inr (Or.inr (by rw [hx]; rfl))))))⟩
        · exact blk_unlike h.blk hb (by decide) e
        · exact blk_unlike h.hblk hb (by decide) e
        · exact own_unlike h.wown h.rown (by decide) x hx (by rw [e]; rfl)
        · exact own_unlike h.hown h.rown (by decide) x hx (by rw [e]; rfl)
        · have := owns_set h.rown k (.int .i64 a)
          rw [Iw, List.map_set]
          exact this
      have hkI : (k : Int) < 16 := by omega
      rw [Int.toNat_natCast]
      generalize wd rs k = y at *
      generalize rs.set k a = rs2 at *
      clear h hF HA hb hnc hcm hsz htk e1 e2 hs ha hk hsl
      go_enter Tryz.func28, Tryz.ntmps28
      go_wp2_with fail
      refine Calls.mono (unhide HN) ?_
      rintro e w1 ⟨rfl, rfl⟩
      go_wp2_with fail
      refine Calls.mono (unhide HS) ?_
      rintro e w1 ⟨rfl, rfl⟩
      go_wp2_with fail
      refine Calls.mono (unhide HM) ?_
      rintro e w1 ⟨rfl, rfl⟩
      go_wp2_with fail
      go_ret
      exact ⟨rfl, unhide HFIN⟩
    · have e2 : decide (a = 0 ∨ isOb ws a) = false := by simp only [decide_eq_false_iff_not]; exact ha
      rw [e2] at HM
      rw [if_neg (fun hh => ha hh.2)]
      clear h hF e1 e2 hs ha
      go_enter Tryz.func28, Tryz.ntmps28
      go_wp2_with fail
      refine Calls.mono (unhide HN) ?_
      rintro e w1 ⟨rfl, rfl⟩
      go_wp2_with fail
      refine Calls.mono (unhide HS) ?_
      rintro e w1 ⟨rfl, rfl⟩
      go_wp2_with fail
      refine Calls.mono (unhide HM) ?_
      rintro e w1 ⟨rfl, rfl⟩
      go_wp2_with fail
      go_ret
      exact ⟨rfl, unhide HA, Keep.refl _ _⟩
  · have e1 : decide (0 ≤ s ∧ s < 16) = false := by simp only [decide_eq_false_iff_not]; exact hs
    rw [e1] at HS
    rw [if_neg (fun hh => hs hh.1)]
    clear h hF e1 hs HM
    go_enter Tryz.func28, Tryz.ntmps28
    go_wp2_with fail
    refine Calls.mono (unhide HN) ?_
    rintro e w1 ⟨rfl, rfl⟩
    go_wp2_with fail
    refine Calls.mono (unhide HS) ?_
    rintro e w1 ⟨rfl, rfl⟩
    go_wp2_with fail
    go_ret
    exact ⟨rfl, unhide HA, Keep.refl _ _⟩
end Go.Proofs.YtlbhhdldeaehkaaGreat

/- Package arena as landed: allMay, add. -/
namespace Go.Proofs.YtlbhhdldeaehkaaGreat
open Go.RowKit

/-- May a root or a pointer be there? -/
def mayB (ws : List Int) (a : Int) : Bool := decide (a = 0 ∨ isOb ws a)
set_option maxRecDepth 20000 in
theorem aallmay_any (w : World) (g gh : Nat) (wv hv rv s : Value) (n : Nat) (ws rs ps : List Int) (h : AAt w g gh wv hv rv n ws rs) (hs : VRow w s (Iw ps)) (hl : ps.length < 35184372088832) :
    Calls Tryz.prog 20 #[.pointer (some ⟨g, 0, none⟩), s] w fun e w' => e = .returned (.bool (ps.all (mayB ws))) ∧ w' = w := by
  obtain ⟨a, cap, rfl, hc1, hc2, hc3⟩ := hs.shape
  rw [List.length_map] at *
  have HS := hide hs
  have HL := hide hl
  have HCH := hide (fun x => amay_any w g gh wv hv rv n ws rs x h)
  clear hs hl hc1 hc2 hc3 h
  go_enter Tryz.func20, Tryz.ntmps20
  go_wp2_with fail
  go_loop [9] (fun i => ∃ k : Nat, k ≤ ps.length ∧ i = .int .i64 (k : Int) ∧ Hid ((ps.take k).all (mayB ws) = true)) (fun i => ps.length - (intOf i).toNat)
  case atStart => exact ⟨0, Nat.zero_le _, rfl, by simp [Hid]⟩
  case round =>
    obtain ⟨k, hk, rfl, hall⟩ := hrel
    by_cases hlt : k < ps.length
    · have hkI : (k : Int) < (ps.length : Int) := by omega
      obtain ⟨b, off, cap', e0, g1, g2, hcl⟩ := (unhide HS).open (by intro e; have := congrArg List.length e; simp at this; rw [this] at hlt; simp at hlt)
      simp only [Value.slice.injEq] at e0
      obtain ⟨rfl, g3, rfl⟩ := e0
      have hc := hcl k _ (by rw [List.getElem?_map, List.getElem?_eq_getElem hlt]; rfl)
      have HT := hide (show (ps.take (k + 1)).all (mayB ws) = mayB ws ps[k] by rw [List.take_succ_eq_append_getElem hlt, List.all_append, hall.out]; simp)
      have HA := hide (show mayB ws ps[k] = false → ps.all (mayB ws) = false by
        intro h
        rw [List.all_eq_false]
        exact ⟨ps[k], List.getElem_mem hlt, by simp [h]⟩)
      have HLT := hide hlt
      have HC2 := hide (unhide HCH ps[k])
      have hmb : mayB ws ps[k] = decide (ps[k] = 0 ∨ isOb ws ps[k]) := rfl
      rw [← hmb] at HC2
      clear hmb
      generalize ps[k] = x at *
      clear g1 g2 g3 hcl hall hk hlt
      have hnw : IntKind.i64.wrap ((k : Int) + 1) = (k : Int) + 1 := by have := unhide HL; have := unhide HLT; rw [IntKind.wrap_i64]; omega
      go_wp2_with fail
      refine Calls.mono (unhide HC2) ?_
      rintro e w1 ⟨rfl, rfl⟩
      cases hx : mayB ws x with
      | true =>
        go_wp2_with fail
        go_round
        case rel => exact ⟨k + 1, unhide HLT, by go_num, by rw [Hid, unhide HT, hx]⟩
        case measure => (have := unhide HLT; simp [intOf]; omega)
      | false =>
        have HF := hide (unhide HA hx)
        clear hx
        go_wp2_with fail
        go_ret
        exact ⟨by rw [unhide HF]; rfl, rfl⟩
    · have hke : k = ps.length := by omega
      subst hke
      rw [List.take_length] at hall
      clear hk hlt
      go_wp2_with fail
      go_ret
      exact ⟨by rw [hall.out]; rfl, rfl⟩

/-- A heap in memory while it grows: words ts, of each of ys is it a head, roots rs. -/
structure HAt (w : World) (gh : Nat) (wv hv rv : Value) (ts : List Int) (ys : List Bool) (rs : List Int) : Prop where
  hblk : w.heap[gh]? = some (.cells #[wv, hv, rv] 64 (0, 0))
  wown : w.ownsRow 0 31 1 wv ts.length (Uw ts)
  hown : w.ownsRow 0 4 1 hv ys.length (ys.map Value.bool)
  rown : w.ownsRow 0 3 1 rv 16 (Iw rs)
def HF (gh : Nat) (wv hv : Value) (k : Nat) : Prop := k = gh ∨ wv.ownBlock = some k ∨ hv.ownBlock = some k
theorem HAt.of {w : World} {g gh : Nat} {wv hv rv : Value} {n : Nat} {ws rs : List Int} (h : AAt w g gh wv hv rv n ws rs) : HAt w gh wv hv rv ws (marks ws.length (obs ws 1)) rs :=
  ⟨h.hblk, h.wown, by rw [marks_length]; exact h.hown, h.rown⟩
theorem HAt.below {w w' : World} {gh : Nat} {wv hv rv : Value} {ts rs : List Int} {ys : List Bool} (h : HAt w gh wv hv rv ts ys rs) (hb : Below w.heap.size w w') : HAt w' gh wv hv rv ts ys rs :=
  ⟨(hb.block _ (Array.getElem?_eq_some_iff.1 h.hblk).1).trans h.hblk, ownsV_keep (F := fun _ => False) h.wown (Keep.of_below hb) (fun _ _ => id), ownsV_keep (F := fun _ => False) h.hown (Keep.of_below hb) (fun _ _ => id), ownsV_keep (F := fun _ => False) h.rown (Keep.of_below hb) (fun _ _ => id)⟩
/-- More words behind: laid aside first (wx), appended (w2), and stored. -/
theorem HAt.words {w wx w2 : World} {gh : Nat} {wv hv rv v2 : Value} {ts rs us : List Int} {ys : List Bool} (h : HAt w gh wv hv rv ts ys rs) (hx : Below w.heap.size w wx) (hown : w2.ownsRow 0 31 1 v2 (ts.length + us.length) (Uw ts ++ Uw us)) (hg : wx.grownBy w2 wv.ownBlock)
    (hob : v2.ownBlock = wv.ownBlock ∨ v2.ownBlock = some wx.heap.size) : w2.heap[gh]? = some (.cells #[wv, hv, rv] 64 (0, 0)) ∧ HAt (w2.setCell ⟨gh, 0, none⟩ v2) gh v2 hv rv (ts ++ us) ys rs ∧ Moves (HF gh wv hv) (HF gh v2 hv) w (w2.setCell ⟨gh, 0, none⟩ v2) := by
  have hX := h.below hx
  have hgl : gh < wx.heap.size := (Array.getElem?_eq_some_iff.1 hX.hblk).1
  have n1 : wv.ownBlock ≠ some gh := own_type hX.wown hX.hblk (by decide)
  have b2 : w2.heap[gh]? = some (.cells #[wv, hv, rv] 64 (0, 0)) := (hg.block gh hgl (fun e => n1 e.symm)).trans hX.hblk
  have K2 : Keep (fun k => wv.ownBlock = some k) wx w2 := ⟨hg.os, hg.tape, hg.output, hg.size, fun k hk hn => hg.block k hk (fun e => hn e.symm)⟩
  have n2 : v2.ownBlock ≠ some gh := own_type hown b2 (by decide)
  have K3 := keep_set w2 gh 0 v2
  have hh2 := ownsV_keep hX.hown K2 (fun k hk e => own_unlike hX.hown hX.wown (by decide) k hk e)
  have hr2 := ownsV_keep hX.rown K2 (fun k hk e => own_unlike hX.rown hX.wown (by decide) k hk e)
  have n3 := own_type hh2 b2 (by decide)
  have n4 := own_type hr2 b2 (by decide)
  have g3 := heap_setCell_same w2 gh 0 _ _ v2 b2
  refine ⟨b2, ⟨by rw [g3]; rfl, ?_, ownsV_keep hh2 K3 (fun k hk e => n3 (e ▸ hk)), ownsV_keep hr2 K3 (fun k hk e => n4 (e ▸ hk))⟩, ?_, ?_⟩
  · have := ownsV_keep hown K3 (fun k hk e => n2 (e ▸ hk))
    rw [List.length_append, Uw, List.map_append]
    exact this
  · exact ((Keep.of_below (F := HF gh wv hv) hx).trans K2 (fun x hx => Or.inl (Or.inr (Or.inl hx)))).trans K3 (fun x hx => Or.inl (Or.inl hx))
  · rintro k (hk | hk | hk)
    · exact Or.inl (Or.inl hk)
    · rcases hob with e | e
      · exact Or.inl (Or.inr (Or.inl (e ▸ hk)))
      · rw [e] at hk; simp only [Option.some.injEq] at hk; exact Or.inr (by have := hx.size; omega)
    · exact Or.inl (Or.inr (Or.inr hk))
/-- More answers behind. -/
theorem HAt.heads {w wx w2 : World} {gh : Nat} {wv hv rv v2 : Value} {ts rs : List Int} {ys us : List Bool} (h : HAt w gh wv hv rv ts ys rs) (hx : Below w.heap.size w wx) (hown : w2.ownsRow 0 4 1 v2 (ys.length + us.length) (ys.map Value.bool ++ us.map Value.bool)) (hg : wx.grownBy w2 hv.ownBlock)
    (hob : v2.ownBlock = hv.ownBlock ∨ v2.ownBlock = some wx.heap.size) : w2.heap[gh]? = some (.cells #[wv, hv, rv] 64 (0, 0)) ∧ HAt (w2.setCell ⟨gh, 1, none⟩ v2) gh wv v2 rv ts (ys ++ us) rs ∧ Moves (HF gh wv hv) (HF gh wv v2) w (w2.setCell ⟨gh, 1, none⟩ v2) := by
  have hX := h.below hx
  have hgl : gh < wx.heap.size := (Array.getElem?_eq_some_iff.1 hX.hblk).1
  have n1 : hv.ownBlock ≠ some gh := own_type hX.hown hX.hblk (by decide)
  have b2 : w2.heap[gh]? = some (.cells #[wv, hv, rv] 64 (0, 0)) := (hg.block gh hgl (fun e => n1 e.symm)).trans hX.hblk
  have K2 : Keep (fun k => hv.ownBlock = some k) wx w2 := ⟨hg.os, hg.tape, hg.output, hg.size, fun k hk hn => hg.block k hk (fun e => hn e.symm)⟩
  have n2 : v2.ownBlock ≠ some gh := own_type hown b2 (by decide)
  have K3 := keep_set w2 gh 1 v2
  have hw2 := ownsV_keep hX.wown K2 (fun k hk e => own_unlike hX.wown hX.hown (by decide) k hk e)
  have hr2 := ownsV_keep hX.rown K2 (fun k hk e => own_unlike hX.rown hX.hown (by decide) k hk e)
  have n3 := own_type hw2 b2 (by decide)
  have n4 := own_type hr2 b2 (by decide)
  have g3 := heap_setCell_same w2 gh 1 _ _ v2 b2
  refine ⟨b2, ⟨by rw [g3]; rfl, ownsV_keep hw2 K3 (fun k hk e => n3 (e ▸ hk)), ?_, ownsV_keep hr2 K3 (fun k hk e => n4 (e ▸ hk))⟩, ?_, ?_⟩
  · have := ownsV_keep hown K3 (fun k hk e => n2 (e ▸ hk))
    rw [List.length_append, List.map_append]
    exact this
  · exact ((Keep.of_below (F := HF gh wv hv) hx).trans K2 (fun x hx => Or.inl (Or.inr (Or.inr hx)))).trans K3 (fun x hx => Or.inl (Or.inl hx))
  · rintro k (hk | hk | hk)
    · exact Or.inl (Or.inl hk)
    · exact Or.inl (Or.inr (Or.inl hk))
    · rcases hob with e | e
      · exact Or.inl (Or.inr (Or.inr (e ▸ hk)))
      · rw [e] at hk; simp only [Option.some.injEq] at hk; exact Or.inr (by have := hx.size; omega)
end Go.Proofs.YtlbhhdldeaehkaaGreat

/- Package arena as landed: add. -/
namespace Go.Proofs.YtlbhhdldeaehkaaGreat
open Go.RowKit

set_option maxRecDepth 20000 in
set_option maxHeartbeats 4000000 in
theorem aadd_any (w : World) (gh : Nat) (wv hv rv s d : Value) (ws ps ds rs : List Int) (ys : List Bool) (hd : Int) (h : HAt w gh wv hv rv ws ys rs) (hs : VRow w s (Iw ps)) (hds : VRow w d (Uw ds)) (hsf : ps ≠ [] → ∀ k, HF gh wv hv k → s.ownBlock ≠ some k) (hdf : ds ≠ [] → ∀ k, HF gh wv hv k → d.ownBlock ≠ some k)
    (hl : ws.length + (1 + ps.length + ds.length) ≤ 1048576) (hy : ys.length = ws.length) (hpos : 1 ≤ ws.length) (hh : 0 ≤ hd ∧ hd < 4294967296) :
    Calls Tryz.prog 21 #[.pointer (some ⟨gh, 0, none⟩), .int .u32 hd, s, d] w fun e w' => e = .returned (.int .i64 (ws.length : Int)) ∧ ∃ wv' hv', HAt w' gh wv' hv' rv (ws ++ hd :: (w32 ps ++ ds)) ((ys ++ List.replicate (1 + ps.length + ds.length) false).set ws.length true) rs ∧ Moves (HF gh wv hv) (HF gh wv' hv') w w' := by
  obtain ⟨iu, hiu, hu0, hu1, hu2⟩ := info_parts Tryz.infoU32
  obtain ⟨ib, hib, hb0, hb1, hb2⟩ := info_parts Tryz.infoBool
  obtain ⟨c0, c1, c2, cf⟩ := three_cells h.hblk
  have cf0 := cf 0
  obtain ⟨pw, cw, rfl⟩ := ownsV_shape h.wown
  obtain ⟨gq, ch, rfl⟩ : ∃ gq ch, hv = .slice (some ⟨gq, 0, none⟩) ys.length ch := by
    rcases h.hown.2 with ⟨_, h0⟩ | ⟨b, cap, cur, h0, _⟩
    · omega
    · exact ⟨b, cap, h0⟩
  obtain ⟨a1, cap1, rfl, g1, g2, g3⟩ := hs.shape
  obtain ⟨a2, cap2, rfl, k1, k2, k3⟩ := hds.shape
  have hlp : (Iw ps).length = ps.length := by simp
  have hld : (Uw ds).length = ds.length := by simp
  rw [hlp] at hs hsf ⊢
  rw [hld] at hds hdf ⊢
  have H0 := hide h
  have HS := hide (And.intro hs hsf)
  have HD := hide (And.intro hds hdf)
  have HL := hide hl
  have HY := hide hy
  have HH := hide hh
  have HB1 := hide ((Below.refl _ w).alloc (Nat.le_refl _) (.cells #[.int .u32 hd] 31))
  have HOW := hide (h.below (unhide HB1)).wown
  have HNW := hide (show ∀ (j : Nat) (u : Value), [Value.int .u32 hd][j]? = some u → (w.alloc (.cells #[.int .u32 hd] 31)).cell? ((⟨w.heap.size, 0, none⟩ : Addr).add j) = some u from fun j u hj => by match j, hj with | 0, hj => (simp at hj; subst hj; simp [Addr.add]))
  have HL1 := hide (show ws.length + 1 ≤ maxLen by unfold maxLen; omega)
  have HL2 := hide (show (ws.length + 1) * 4 ≤ 140737488355328 by omega)
  clear h hs hds hsf hdf hl hy hpos hh cf g1 g2 g3 k1 k2 k3 hlp hld
  go_enter Tryz.func21, Tryz.ntmps21
  go_wp2_with (first
    | (at_builtin; refine wpList_append_gen rfl _ _ 33 rfl 0 31 iu (.int .u32 0) Tryz.underlying33 hiu hu0 1 4 (by omega) hu1 hu2 rfl (.slice pw ws.length cw) ws.length (Uw ws) rfl (unhide HOW) ⟨w.heap.size, 0, none⟩ 1 1 [.int .u32 hd] rfl rfl (unhide HNW) (by intro u hu; simp at hu; subst hu; rfl) (unhide HL1) (unhide HL2) (Nat.zero_le _) ?_))
  intro v2 w2 hown2 hgrow2 hob2
  have hq := (unhide H0).words (us := [hd]) (unhide HB1) (by simpa [Uw] using hown2) hgrow2 (by rw [World.size_alloc]; exact hob2)
  obtain ⟨f0, f1, f2, hfz2⟩ := three_cells hq.1
  have hf20 := hfz2 0
  have HQ := hide hq
  obtain ⟨p2, c2', rfl⟩ := ownsV_shape hown2
  clear hown2 hgrow2 hob2 hq hfz2
  go_wp2_with fail
  go_loopw [29] (fun iv wr => ∃ (k : Nat) (wv' : Value) (T : List Int), iv = .int .i64 (k : Int) ∧ k ≤ ps.length ∧ Hid (T = ws ++ hd :: w32 (ps.take k)) ∧ HAt wr gh wv' (.slice (some ⟨gq, 0, none⟩) ys.length ch) rv T ys rs ∧ Moves (HF gh (.slice pw ws.length cw) (.slice (some ⟨gq, 0, none⟩) ys.length ch)) (HF gh wv' (.slice (some ⟨gq, 0, none⟩) ys.length ch)) w wr) (fun iv _ => ps.length - (intOf iv).toNat)
  case atStart => exact ⟨0, _, ws ++ [hd], rfl, Nat.zero_le _, by unfold Hid; simp [w32], (unhide HQ).2.1, (unhide HQ).2.2⟩
  case round =>
    obtain ⟨k, wv', T, rfl, hk, hT, hA, hM⟩ := hrel
    have hTl : T.length = ws.length + 1 + k := by rw [unhide hT]; simp [w32_len]; omega
    have hlt0 := unhide HL
    obtain ⟨pt, ct, rfl⟩ := ownsV_shape hA.wown
    obtain ⟨c0, c1, c2, cf⟩ := three_cells hA.hblk
    have cf0 := cf 0
    have cf1 := cf 1
    have hSr := (unhide HS).1.keep hM.keep (fun b off c e hne hf => (unhide HS).2 (fun h => hne (by rw [h]; rfl)) b hf (by rw [e]; rfl))
    have hDr := (unhide HD).1.keep hM.keep (fun b off c e hne hf => (unhide HD).2 (fun h => hne (by rw [h]; rfl)) b hf (by rw [e]; rfl))
    by_cases hlt : k < ps.length
    · have hkI : (k : Int) < (ps.length : Int) := by omega
      obtain ⟨b, off, cap', e0, _, _, hcl⟩ := hSr.open (by intro e; have := congrArg List.length e; simp at this; rw [this] at hlt; simp at hlt)
      simp only [Value.slice.injEq, List.length_map] at e0
      obtain ⟨rfl, e1, rfl⟩ := e0
      have hc := hcl k _ (by rw [List.getElem?_map, List.getElem?_eq_getElem hlt]; rfl)
      have HT := hide (show T ++ [IntKind.u32.wrap ps[k]] = ws ++ hd :: w32 (ps.take (k + 1)) by
        rw [List.take_succ_eq_append_getElem hlt, unhide hT]
        simp only [w32, List.map_append, List.map_cons, List.map_nil, List.append_assoc, List.cons_append])
      have HLT := hide hlt
      have hknw : IntKind.i64.wrap ((k : Int) + 1) = (k : Int) + 1 := by rw [IntKind.wrap_i64]; omega
      have hx0 : 0 ≤ IntKind.u32.wrap ps[k] := by rw [IntKind.wrap_u32]; omega
      generalize ps[k] = x at *
      have HB3 := hide ((Below.refl _ wr).alloc (Nat.le_refl _) (.cells #[.int .u32 (IntKind.u32.wrap x)] 31))
      have HOW3 := hide (hA.below (unhide HB3)).wown
      have HNW3 := hide (show ∀ (j : Nat) (u : Value), [Value.int .u32 (IntKind.u32.wrap x)][j]? = some u → (wr.alloc (.cells #[.int .u32 (IntKind.u32.wrap x)] 31)).cell? ((⟨wr.heap.size, 0, none⟩ : Addr).add j) = some u from fun j u hj => by match j, hj with | 0, hj => (simp at hj; subst hj; simp [Addr.add]))
      have HL31 := hide (show T.length + 1 ≤ maxLen by unfold maxLen; omega)
      have HL32 := hide (show (T.length + 1) * 4 ≤ 140737488355328 by omega)
      have HA := hide hA
      have HM := hide hM
      clear e1 hcl hlt hk hT hTl hlt0 hSr hDr hA hM cf HQ
      go_wp2_with (first
        | (at_builtin; refine wpList_append_gen rfl _ _ 33 rfl 0 31 iu (.int .u32 0) Tryz.underlying33 hiu hu0 1 4 (by omega) hu1 hu2 rfl (.slice pt T.length ct) T.length (Uw T) rfl (unhide HOW3) ⟨wr.heap.size, 0, none⟩ 1 1 [.int .u32 (IntKind.u32.wrap x)] rfl rfl (unhide HNW3) (by intro u hu; simp at hu; subst hu; rfl) (unhide HL31) (unhide HL32) (Nat.zero_le _) ?_))
      intro v3 w3 hown3 hgrow3 hob3
      have hq := (unhide HA).words (us := [IntKind.u32.wrap x]) (unhide HB3) (by simpa [Uw] using hown3) hgrow3 (by rw [World.size_alloc]; exact hob3)
      obtain ⟨f0, f1, f2, hfz2⟩ := three_cells hq.1
      have hf20 := hfz2 0
      have HQ3 := hide hq
      obtain ⟨p3, c3', rfl⟩ := ownsV_shape hown3
      clear hown3 hgrow3 hob3 hq hfz2 c0 c1 c2 cf0 cf1
      go_wp2_with fail
      go_roundw
      case rel => exact ⟨k + 1, _, _, by go_num, unhide HLT, HT, (unhide HQ3).2.1, (unhide HM).trans (unhide HQ3).2.2⟩
      case measure => (have := unhide HLT; simp [intOf]; omega)
    · have hke : k = ps.length := by omega
      subst hke
      rw [List.take_length] at hT
      have HT := hide (unhide hT)
      have HTL := hide hTl
      have HA := hide hA
      have HM := hide hM
      have HDR := hide hDr
      have HOW4 := hide hA.wown
      have HONE := hide (show ∀ u ∈ Uw ds, u.oneCell' = true from fun u hu => by obtain ⟨x, _, rfl⟩ := List.mem_map.1 hu; rfl)
      have HL41 := hide (show T.length + ds.length ≤ maxLen by unfold maxLen; omega)
      have HL42 := hide (show (T.length + ds.length) * 4 ≤ 140737488355328 by omega)
      clear hlt hk hT hTl hlt0 hSr hDr hA hM cf HQ
      go_wp2_with (first
        | (at_builtin; refine wpList_append_vrow rfl _ _ 33 rfl 0 31 iu (.int .u32 0) Tryz.underlying33 hiu hu0 4 hu1 hu2 rfl (.slice pt T.length ct) T.length (Uw T) rfl (unhide HOW4) a2 ds.length cap2 (Uw ds) rfl (unhide HDR) (unhide HONE) (unhide HL41) (unhide HL42) (Nat.zero_le _) ?_))
      intro v3 w3 hown3 hgrow3 hob3
      have hq := (unhide HA).words (us := ds) (Below.refl _ _) hown3 hgrow3 hob3
      obtain ⟨f0, f1, f2, hfz2⟩ := three_cells hq.1
      have hf20 := hfz2 0
      have HQ3 := hide hq.2
      obtain ⟨p3, c3', rfl⟩ := ownsV_shape hown3
      obtain ⟨d0, d1, d2, df⟩ := three_cells hq.2.1.hblk
      have df1 := df 1
      have hlen : IntKind.i64.wrap (((T.length + ds.length : Nat) : Int) - (ws.length : Int)) = ((1 + ps.length + ds.length : Nat) : Int) := by have := unhide HTL; have := unhide HL; rw [IntKind.wrap_i64]; omega
      have hmk := run_make_bools 62 Tryz.underlying62 (1 + ps.length + ds.length) (by have := unhide HL; omega)
      obtain ⟨m, hm⟩ : ∃ m, m = 1 + ps.length + ds.length := ⟨_, rfl⟩
      rw [← hm] at hlen hmk
      have HMM := hide hm
      clear hown3 hgrow3 hob3 hq hfz2 c0 c1 c2 cf0 cf1 df hm
      have hmx : Tryz.prog.follows .mixedOrders = true := by kernel_rfl
      generalize hW3 : w3.setCell ⟨gh, 0, none⟩ (.slice p3 (T.length + ds.length) c3') = W3 at *
      have d0d : ({ W3 with drawn := W3.drawn + 1 } : World).cell? ⟨gh, 0, none⟩ = some (.slice p3 (T.length + ds.length) c3') := d0
      have d1d : ({ W3 with drawn := W3.drawn + 1 } : World).cell? ⟨gh, 1, none⟩ = some (.slice (some ⟨gq, 0, none⟩) ys.length ch) := d1
      have HWW := hide hW3
      clear hW3
      go_wp2_with fail
      rw [unhide HWW]
      have hdw : Below W3.heap.size W3 { W3 with drawn := W3.drawn + 1 } := (Below.refl _ W3).drew
      have HA5 := hide ((unhide HQ3).1.below hdw)
      have HOW5 := hide (unhide HA5).hown
      have HM0 := hide (show 0 < m by have := unhide HMM; omega)
      have HL51 := hide (show ys.length + m ≤ maxLen by have := unhide HMM; have := unhide HY; have := unhide HL; unfold maxLen; omega)
      have HL52 := hide (show (ys.length + m) * 1 ≤ 140737488355328 by have := unhide HMM; have := unhide HY; have := unhide HL; omega)
      have HL53 := hide (show m ≤ 4194304 by have := unhide HMM; have := unhide HL; omega)
      have hlen2 : IntKind.i64.wrap ((T.length : Int) + (ds.length : Int) - (ws.length : Int)) = (m : Int) := by have := unhide HTL; have := unhide HL; have := unhide HMM; rw [IntKind.wrap_i64]; omega
      clear hdw
      go_region_law (refine step_append_zeros rfl _ _ 62 3 rfl 0 4 ib (.bool false) Tryz.underlying62 Tryz.underlying3 hib hb0 1 hb1 hb2 rfl rfl gq ch ys.length (ys.map Value.bool) (by simp [Act.eval, Act.put]) (unhide HOW5) m (by simp [Act.eval, Act.put]) (unhide HM0) (unhide HL51) (unhide HL52) (unhide HL53) (Nat.zero_le _) ?_; intro v5 w5 hown5 hgrow5 hob5; have hq5 := (unhide HA5).heads (us := List.replicate m false) (Below.refl _ _) (by simpa using hown5) hgrow5 hob5; obtain ⟨x0, x1, x2, xf⟩ := three_cells hq5.1; have xf1 := xf 1; have HQ5 := hide hq5.2; obtain ⟨p5, c5, rfl⟩ := ownsV_shape hown5; clear hown5 hgrow5 hob5 hq5 xf)
      all_goals
        obtain ⟨hA6, hM6⟩ := unhide HQ5
        have hmm := unhide HMM
        have hyy := unhide HY
        rcases hA6.hown.2 with ⟨_, h0⟩ | ⟨g5, cap5, cur5, h5, _, hb5, hnc5, hcm5, hsz5, htk5⟩
        · exact absurd h0 (by have := unhide HM0; simp; omega)
        simp only [Value.slice.injEq] at h5
        obtain ⟨rfl, hl5, rfl⟩ := h5
        clear hl5
        have hl6 : (ys ++ List.replicate m false).length = ys.length + m := by simp
        have hat : (ys ++ List.replicate m false)[ws.length]? = some false := by
          rw [List.getElem?_append_right (by omega), List.getElem?_replicate, if_pos (by omega)]
        have hcell := hA6.hown.cells (g := g5) rfl ws.length (.bool false) (by rw [List.getElem?_map, hat]; rfl)
        rw [Addr.add_lit, Nat.zero_add] at hcell
        have hfz : (w5.setCell ⟨gh, 1, none⟩ (.slice (some ⟨g5, 0, none⟩) (ys.length + m) c5)).frozen? ⟨g5, ws.length, none⟩ = false := frozen_of_block hb5
        obtain ⟨y0, y1, y2, _⟩ := three_cells hA6.hblk
        have hI : (ws.length : Int) < ((ys.length + m : Nat) : Int) := by have := unhide HM0; omega
        have HFIN : Hid (HAt ((w5.setCell ⟨gh, 1, none⟩ (.slice (some ⟨g5, 0, none⟩) (ys.length + m) c5)).setCell ⟨g5, ws.length, none⟩ (.bool true)) gh (.slice p3 (T.length + ds.length) c3') (.slice (some ⟨g5, 0, none⟩) (ys.length + m) c5) rv (ws ++ hd :: (w32 ps ++ ds)) ((ys ++ List.replicate (1 + ps.length + ds.length) false).set ws.length true) rs ∧ Moves (HF gh (.slice pw ws.length cw) (.slice (some ⟨gq, 0, none⟩) ys.length ch)) (HF gh (.slice p3 (T.length + ds.length) c3') (.slice (some ⟨g5, 0, none⟩) (ys.length + m) c5)) w ((w5.setCell ⟨gh, 1, none⟩ (.slice (some ⟨g5, 0, none⟩) (ys.length + m) c5)).setCell ⟨g5, ws.length, none⟩ (.bool true))) := by
          have K := keep_set (w5.setCell ⟨gh, 1, none⟩ (.slice (some ⟨g5, 0, none⟩) (ys.length + m) c5)) g5 ws.length (.bool true)
          have hT := unhide HT
          have e1 : ws ++ hd :: (w32 ps ++ ds) = T ++ ds := by rw [hT]; simp
          rw [e1, ← hmm]
          refine ⟨⟨(K.block gh (Array.getElem?_eq_some_iff.1 hA6.hblk).1 (fun e => blk_unlike hA6.hblk hb5 (by decide) e)).trans hA6.hblk, ownsV_keep hA6.wown K (fun x hx e => own_unlike hA6.wown hA6.hown (by decide) x hx (by rw [e]; rfl)), ?_, ownsV_keep hA6.rown K (fun x hx e => own_unlike hA6.rown hA6.hown (by decide) x hx (by rw [e]; rfl))⟩, ?_⟩
          · have hh := hA6.hown
            rw [hl6] at hh
            have := owns_set hh ws.length (.bool true)
            rw [List.length_set, hl6, List.map_set]
            exact this
          · have hm1 := (unhide HM).trans (unhide HQ3).2
            have hm2 : Moves (HF gh (.slice pw ws.length cw) (.slice (some ⟨gq, 0, none⟩) ys.length ch)) (HF gh (.slice p3 (T.length + ds.length) c3') (.slice (some ⟨gq, 0, none⟩) ys.length ch)) w { W3 with drawn := W3.drawn + 1 } := hm1.trans (Moves.of_below ((Below.refl _ W3).drew))
            have hm3 := hm2.trans hM6
            refine ⟨hm3.keep.trans K (fun x hx => ?_), hm3.sub⟩
            exact hm3.sub x (Or.inr (Or.inr (by rw [hx]; rfl)))
        generalize w5.setCell ⟨gh, 1, none⟩ (.slice (some ⟨g5, 0, none⟩) (ys.length + m) c5) = W6 at *
        clear hA6 hM6 hmm hyy hb5 hnc5 hcm5 hsz5 htk5 hl6 hat x0 x1 x2 xf1 hlen hlen2 hmk d0 d1 d2 d0d d1d f0 f1 f2 hf20 df1
        go_wp2_with fail
        go_ret
        exact ⟨rfl, _, _, unhide HFIN⟩
end Go.Proofs.YtlbhhdldeaehkaaGreat
