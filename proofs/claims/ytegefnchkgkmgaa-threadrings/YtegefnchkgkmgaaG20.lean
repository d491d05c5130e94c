/- Texts of ours, one behind the other: ThThr, ThWays, ThNew, ThNar, ThMoves. -/
import Derived.Test.YtegefnchkgkmgaaG1
import Derived.Test.YtegefnchkgkmgaaG13
import Derived.Test.YtegefnchkgkmgaaG19
import Derived.Laws.EntriesVeiled
/- The landed package thread: through. -/
namespace Go.Proofs.Ytegefnchkgkmgaa
open Go.RowKit

set_option maxRecDepth 20000 in
set_option maxHeartbeats 2000000 in
theorem lthrough_any (F1 F2 g gs N : Nat) (mv : Value) (L0 : List Int) (PL : List (Int × Int)) (I J : Nat → List Int → Prop) (w : World)
    (e1 : ∀ args w, (callFunc F1 args).run Try.prog w = .ok (.enter F1 args) w) (e2 : ∀ args w, (callFunc F2 args).run Try.prog w = .ok (.enter F2 args) w)
    (h1 : ∀ k L w, (hk : k < PL.length) → I k L → LmAt w g L → Calls Try.prog F1 #[.slice (some ⟨g, 0, none⟩) N N, .agg #[.int .i64 PL[k].1, .int .i64 PL[k].2]] w fun e w' => e = .returned (.tuple #[]) ∧ ∃ L', J k L' ∧ LmAt w' g L' ∧ Keep (fun k => k = g) w w')
    (h2 : ∀ k L w, (hk : k < PL.length) → J k L → LmAt w g L → Calls Try.prog F2 #[.slice (some ⟨g, 0, none⟩) N N, .agg #[.int .i64 PL[k].1, .int .i64 PL[k].2]] w fun e w' => e = .returned (.tuple #[]) ∧ ∃ L', I (k + 1) L' ∧ LmAt w' g L' ∧ Keep (fun k => k = g) w w')
    (hA : LmAt w g L0) (h0 : I 0 L0) (hm : PR w mv PL) (hmg : ∀ b, mv.ownBlock = some b → b ≠ g) (hl : PL.length ≤ 1048576) (hs : w.heap[gs]? = some (.cells #[.func (.func F1) #[] #[], .func (.func F2) #[] #[]] 97 (0, 0))) (hsg : gs ≠ g) :
    Calls Try.prog 32 #[.slice (some ⟨g, 0, none⟩) N N, mv, .slice (some ⟨gs, 0, none⟩) 2 2] w fun e w' => e = .returned (.tuple #[]) ∧ ∃ L', I PL.length L' ∧ LmAt w' g L' ∧ Keep (fun k => k = g) w w' := by
  have H0 := hide (And.intro h0 hA)
  have H1 := hide h1
  have H2 := hide h2
  obtain ⟨s0, s1⟩ := tw_cells hs
  have HS := hide (fun wr (hk : Keep (fun k => k = g) w wr) => And.intro ((hk.cell (p := ⟨gs, 0, none⟩) (World.block_lt_of_cell? _ _ s0) hsg).trans s0) ((hk.cell (p := ⟨gs, 1, none⟩) (World.block_lt_of_cell? _ _ s1) hsg).trans s1))
  have HM := hide hm
  have HMG := hide hmg
  have HL := hide hl
  obtain ⟨a, cap, rfl, g1, g2⟩ := hm.shape
  obtain ⟨n, hn⟩ : ∃ n, n = PL.length := ⟨_, rfl⟩
  have HN := hide hn
  have hGS := hA.size
  have HGS := hide hGS
  rw [← hn] at HM HMG HL ⊢
  clear h1 h2 hA h0 hm hmg hl hs s0 s1 g1 g2 hn hGS
  go_enter Try.func32, Try.ntmps32
  go_wp2_with fail
  go_loopw [12] (fun i wr => ∃ k : Nat, i = .int .i64 (k : Int) ∧ k ≤ n ∧ Hid (∃ L, I k L ∧ LmAt wr g L ∧ Keep (fun k => k = g) w wr)) (fun i _ => n - (intOf i).toNat)
  case atStart => exact ⟨0, rfl, Nat.zero_le _, L0, (unhide H0).1, (unhide H0).2, Keep.refl _ _⟩
  case round =>
    obtain ⟨k, rfl, hk, hst⟩ := hrel
    have hkw : IntKind.i64.wrap ((k : Int) + 1) = (k : Int) + 1 := by have := unhide HL; rw [IntKind.wrap_i64]; omega
    by_cases hlt : k < n
    · have hkI : (k : Int) < (n : Int) := by omega
      obtain ⟨L, x1, x2, x3⟩ := unhide hst
      have hkP : k < PL.length := by have := unhide HN; omega
      obtain ⟨b, off, cap', e0, hc⟩ := (unhide HM).open (by omega)
      simp only [Value.slice.injEq] at e0
      obtain ⟨rfl, e9, rfl⟩ := e0
      clear e9
      obtain ⟨c0, c1⟩ := hc k hkP
      have hbg := unhide HMG b rfl
      have d0 := (x3.cell (p := ⟨b, off + k * 2, none⟩) (World.block_lt_of_cell? _ _ c0) hbg).trans c0
      have d1 := (x3.cell (p := ⟨b, off + k * 2 + 1, none⟩) (World.block_lt_of_cell? _ _ c1) hbg).trans c1
      have HC1 := hide (fun L w => unhide H1 k L w hkP)
      have HC2 := hide (fun L w => unhide H2 k L w hkP)
      generalize PL[k].1 = px at *
      generalize PL[k].2 = py at *
      clear c0 c1 hc
      have HST := hide (And.intro x1 (And.intro x2 x3))
      have HLT := hide hlt
      clear x1 x2 x3 hst hlt hbg
      go_wp2_with fail
      obtain ⟨W7, hW7⟩ : ∃ W7, W7 = wr.alloc (.cells #[.int .i64 px, .int .i64 py] 36) := ⟨_, rfl⟩
      have hb7 := World.alloc_heap_new wr (.cells #[.int .i64 px, .int .i64 py] 36)
      have hk7 : Keep (fun k => k = g) wr W7 := by rw [hW7]; exact Keep.of_below ((Below.refl _ _).alloc (Nat.le_refl _) _)
      rw [← hW7] at hb7 ⊢
      obtain ⟨v0, v1⟩ := tw_cells hb7
      obtain ⟨b7, hb⟩ : ∃ b7, b7 = wr.heap.size := ⟨_, rfl⟩
      rw [← hb] at v0 v1 ⊢
      have HST7 : Hid (∃ L, I k L ∧ LmAt W7 g L ∧ Keep (fun k => k = g) w W7) := by
        obtain ⟨x1, x2, x3⟩ := unhide HST
        exact ⟨L, x1, by rw [hW7]; exact x2.below ((Below.refl _ _).alloc (Nat.le_refl _) _) x2.size, x3.trans hk7 (fun _ h => Or.inl h)⟩
      have HV := hide (fun wz (hz : Keep (fun k => k = g) W7 wz) => (show wz.cell? ⟨b7, 0, none⟩ = some (.int .i64 px) ∧ wz.cell? ⟨b7, 1, none⟩ = some (.int .i64 py) from by
        have hne : ¬ b7 = g := by
          obtain ⟨x1, x2, x3⟩ := unhide HST
          have := x2.size
          omega
        exact ⟨(hz.cell (p := ⟨b7, 0, none⟩) (World.block_lt_of_cell? _ _ v0) hne).trans v0, (hz.cell (p := ⟨b7, 1, none⟩) (World.block_lt_of_cell? _ _ v1) hne).trans v1⟩))
      clear hb7 hk7 v0 v1 hW7 hb d0 d1 HST
      go_loopw [18] (fun i wz => ∃ j : Int, i = .int .i64 j ∧ 0 ≤ j ∧ j ≤ 2 ∧ Hid (Keep (fun k => k = g) W7 wz ∧ ∃ L, (if j = 0 then I k L else if j = 1 then J k L else I (k + 1) L) ∧ LmAt wz g L ∧ Keep (fun k => k = g) w wz)) (fun i _ => 2 - (intOf i).toNat)
      case atStart => exact ⟨0, rfl, by omega, by omega, Keep.refl _ _, unhide HST7⟩
      case round =>
        obtain ⟨j, rfl, hj0, hj, hjs⟩ := hrel
        rename World => wz
        obtain ⟨y0, L', y1, y2, y3⟩ := unhide hjs
        obtain ⟨d0, d1⟩ := unhide HV wz y0
        obtain ⟨f0, f1⟩ := unhide HS wz y3
        obtain rfl | rfl | rfl : j = 0 ∨ j = 1 ∨ j = 2 := by omega
        · have HY := hide (unhide HC1 L' wz y1 y2)
          have HK := hide (And.intro y0 y3)
          clear y0 y1 y2 y3 hjs
          go_wp2_with fail
          refine Calls.mono (unhide HY) ?_
          rintro e wq ⟨rfl, L2, z1, z2, z3⟩
          have HF := hide (show Keep (fun k => k = g) W7 wq ∧ ∃ L, (if 1 = 0 then I k L else if 1 = 1 then J k L else I (k + 1) L) ∧ LmAt wq g L ∧ Keep (fun k => k = g) w wq from ⟨(unhide HK).1.trans z3 (fun _ h => Or.inl h), L2, z1, z2, (unhide HK).2.trans z3 (fun _ h => Or.inl h)⟩)
          clear z1 z2 z3 HY HK
          go_wp2_with fail
          go_roundw
          case rel => exact ⟨1, by go_num, by omega, by omega, unhide HF⟩
          case measure => simp [intOf]
        · have HY := hide (unhide HC2 L' wz y1 y2)
          have HK := hide (And.intro y0 y3)
          clear y0 y1 y2 y3 hjs
          go_wp2_with fail
          refine Calls.mono (unhide HY) ?_
          rintro e wq ⟨rfl, L2, z1, z2, z3⟩
          have HF := hide (show Keep (fun k => k = g) W7 wq ∧ ∃ L, (if 2 = 0 then I k L else if 2 = 1 then J k L else I (k + 1) L) ∧ LmAt wq g L ∧ Keep (fun k => k = g) w wq from ⟨(unhide HK).1.trans z3 (fun _ h => Or.inl h), L2, z1, z2, (unhide HK).2.trans z3 (fun _ h => Or.inl h)⟩)
          clear z1 z2 z3 HY HK
          go_wp2_with fail
          go_roundw
          case rel => exact ⟨2, by go_num, by omega, by omega, unhide HF⟩
          case measure => simp [intOf]
        · have HK := hide (show ∃ L, I (k + 1) L ∧ LmAt wz g L ∧ Keep (fun k => k = g) w wz from ⟨L', y1, y2, y3⟩)
          clear y0 y1 y2 y3 hjs
          go_wp2_with fail
          go_roundw
          case rel => exact ⟨k + 1, by go_num, by have := unhide HLT; omega, unhide HK⟩
          case measure => (have := unhide HLT; simp [intOf]; omega)
    · have hke : k = n := by omega
      subst hke
      have hge : ¬ (k : Int) < (k : Int) := by omega
      have HST := hide (unhide hst)
      clear hst hlt hk hkw
      go_wp2_with fail
      go_end0
      exact ⟨rfl, unhide HST⟩
end Go.Proofs.Ytegefnchkgkmgaa

/- The landed package thread: both ways through. -/
namespace Go.Proofs.Ytegefnchkgkmgaa
open Go.RowKit

theorem ent_untie (args : Array Value) (w : World) : (callFunc 31 args).run Try.prog w = .ok (.enter 31 args) w := by kernel_rfl
theorem ent_tie (args : Array Value) (w : World) : (callFunc 33 args).run Try.prog w = .ok (.enter 33 args) w := by kernel_rfl
theorem ent_slide (args : Array Value) (w : World) : (callFunc 34 args).run Try.prog w = .ok (.enter 34 args) w := by kernel_rfl

theorem liv_count {ws rs l : List Int} (h : Rts ws rs l) : l.length ≤ 1048576 := Nat.le_trans (obs_count ws l (h.rise.imp fun {a b} h => by omega) h.ob) h.most
theorem pl_get {ws l : List Int} {k : Nat} (hk : k < (l.map fun a => (a, toA ws l a)).length) : ∃ hk2 : k < l.length, (l.map fun a => (a, toA ws l a))[k].1 = l[k] ∧ (l.map fun a => (a, toA ws l a))[k].2 = toA ws l l[k] := by
  have hk2 : k < l.length := by simpa using hk
  exact ⟨hk2, by simp, by simp⟩

theorem through1_any (ws rs l : List Int) (g gs N : Nat) (mv : Value) (L0 : List Int) (w : World) (h : Rts ws rs l) (hN : N = ws.length + rs.length) (hA : LmAt w g L0) (h0 : I1 ws rs l 0 L0) (hm : PR w mv (l.map fun a => (a, toA ws l a))) (hmg : ∀ b, mv.ownBlock = some b → b ≠ g)
    (hs : w.heap[gs]? = some (.cells #[.func (.func 31) #[] #[], .func (.func 33) #[] #[]] 97 (0, 0))) (hsg : gs ≠ g) :
    Calls Try.prog 32 #[.slice (some ⟨g, 0, none⟩) N N, mv, .slice (some ⟨gs, 0, none⟩) 2 2] w fun e w' => e = .returned (.tuple #[]) ∧ ∃ L', I1 ws rs l l.length L' ∧ LmAt w' g L' ∧ Keep (fun k => k = g) w w' := by
  have hmo := h.most
  have hfw := h.few
  have := lthrough_any 31 33 g gs N mv L0 (l.map fun a => (a, toA ws l a)) (I1 ws rs l) (J1 ws rs l) w ent_untie ent_tie (fun k L w hk hI hL => ?_) (fun k L w hk hJ hL => ?_) hA h0 hm hmg (by rw [List.length_map]; exact liv_count h) hs hsg
  · rw [List.length_map] at this
    exact this
  · obtain ⟨hk2, p1, p2⟩ := pl_get hk
    rw [p1, p2]
    obtain ⟨hlen, th, t1, t2, t3, t4⟩ := i1_untie h hk2 hI
    have hl := h.lt (List.getElem_mem hk2)
    obtain ⟨a, ha⟩ : ∃ a : Nat, a = l[k].toNat := ⟨_, rfl⟩
    rw [← ha] at t3 t4 hl
    rw [← hl.2.2.2]
    rw [hl.2.2.2]
    have hh := h.u32.wd a
    have hc := luntie_any g a N (toA ws l l[k]) (hdA ws l[k]) th L w hL (by omega) (by omega) (by omega) (h.toLiv.to_bound _) (by unfold hdA; rw [← ha]; exact hh) (by rw [hN]; exact t2) t1 t3
    rw [hl.2.2.2] at hc
    exact hc.mono fun e w' he => ⟨he.1, _, t4, he.2⟩
  · obtain ⟨hk2, p1, p2⟩ := pl_get hk
    rw [p1, p2]
    obtain ⟨hlen, q1, q2, q3, q4⟩ := j1_tie h hk2 hJ
    have hl := h.lt (List.getElem_mem hk2)
    obtain ⟨a, ha⟩ : ∃ a : Nat, a = l[k].toNat := ⟨_, rfl⟩
    rw [← ha] at q1 q4 hl
    have hh := h.u32.wd a
    have hc := ltie_any ws rs (P1 ws rs l l[k]) g a N (toA ws l l[k]) (hdA ws l[k]) L w hL (by omega) q1 (by unfold hdA; rw [← ha]; exact hh) q2 (by unfold hdA; rw [← ha]; omega) (by omega) (by rw [hN]; exact q4)
    rw [hl.2.2.2] at hc
    exact hc.mono fun e w' he => ⟨he.1, by obtain ⟨L', x1, x2, x3⟩ := he.2; exact ⟨L', q3 L' x1, x2, x3⟩⟩

theorem through2_any (ws rs l : List Int) (g gs N : Nat) (mv : Value) (L0 : List Int) (w : World) (h : Rts ws rs l) (hN : N = ws.length + rs.length) (hA : LmAt w g L0) (h0 : I2 ws rs l 0 L0) (hm : PR w mv (l.map fun a => (a, toA ws l a))) (hmg : ∀ b, mv.ownBlock = some b → b ≠ g)
    (hs : w.heap[gs]? = some (.cells #[.func (.func 31) #[] #[], .func (.func 34) #[] #[]] 97 (0, 0))) (hsg : gs ≠ g) :
    Calls Try.prog 32 #[.slice (some ⟨g, 0, none⟩) N N, mv, .slice (some ⟨gs, 0, none⟩) 2 2] w fun e w' => e = .returned (.tuple #[]) ∧ ∃ L', I2 ws rs l l.length L' ∧ LmAt w' g L' ∧ Keep (fun k => k = g) w w' := by
  have hmo := h.most
  have hfw := h.few
  have := lthrough_any 31 34 g gs N mv L0 (l.map fun a => (a, toA ws l a)) (I2 ws rs l) (J2 ws rs l) w ent_untie ent_slide (fun k L w hk hI hL => ?_) (fun k L w hk hJ hL => ?_) hA h0 hm hmg (by rw [List.length_map]; exact liv_count h) hs hsg
  · rw [List.length_map] at this
    exact this
  · obtain ⟨hk2, p1, p2⟩ := pl_get hk
    rw [p1, p2]
    obtain ⟨hlen, th, t1, t2, t3, t4⟩ := i2_untie h hk2 hI
    have hl := h.lt (List.getElem_mem hk2)
    obtain ⟨a, ha⟩ : ∃ a : Nat, a = l[k].toNat := ⟨_, rfl⟩
    rw [← ha] at t3 t4 hl
    have hh := h.u32.wd a
    have hc := luntie_any g a N (toA ws l l[k]) (hdA ws l[k]) th L w hL (by omega) (by omega) (by omega) (h.toLiv.to_bound _) (by unfold hdA; rw [← ha]; exact hh) (by rw [hN]; exact t2) t1 t3
    rw [hl.2.2.2] at hc
    exact hc.mono fun e w' he => ⟨he.1, _, t4, he.2⟩
  · obtain ⟨hk2, p1, p2⟩ := pl_get hk
    rw [p1, p2]
    obtain ⟨hlen, q1, q2⟩ := j2_slide h hk2 hJ
    have hm2 : l[k] ∈ l := List.getElem_mem hk2
    have hl := h.lt hm2
    have hto := h.toLiv.to hm2
    have hsz := h.toLiv.size hm2
    obtain ⟨a, ha⟩ : ∃ a : Nat, a = l[k].toNat := ⟨_, rfl⟩
    obtain ⟨t, ht⟩ : ∃ t : Nat, t = (toA ws l l[k]).toNat := ⟨_, rfl⟩
    have ht2 : ((t : Nat) : Int) = toA ws l l[k] := by omega
    have hszA : szA ws l[k] = szN (hdA ws l[k]) := rfl
    rw [← ha] at q1 q2 hl
    rw [← ht] at q2
    rw [hszA] at q2 hl hsz
    have hh := h.u32.wd a
    have hc := lslide_any g a t N (hdA ws l[k]) L w hL (by omega) q1 (by unfold hdA; rw [← ha]; exact hh) (by omega) hsz (by omega) (by omega)
    rw [hl.2.2.2, ht2] at hc
    exact hc.mono fun e w' he => ⟨he.1, _, q2, he.2⟩
end Go.Proofs.Ytegefnchkgkmgaa

/- The landed package thread: newLoom, narrow. -/
namespace Go.Proofs.Ytegefnchkgkmgaa
open Go.RowKit

theorem Try.infoU64l : (Try.prog.info? 95).map (fun i => (i.zero, i.size, i.bytes)) = some (some (.int .u64 0), 1, 8) := by kernel_rfl
theorem run_make_loom (n : Nat) (hn : n ≤ 2097152) (w : World) :
    (Instr.makeSlice 60 (.int .i64 (n : Int)) (.int .i64 (n : Int))).run Try.prog w = .ok (.slice (some ⟨w.heap.size, 0, none⟩) n n) (w.alloc (.cells (Array.replicate n (.int .u64 0)) 95)) := by
  rw [← List.toArray_replicate, ← made_arr]
  exact run_make_row' 60 95 (.int .u64 0) 8 Try.underlying60 Try.infoU64l rfl .i64 .i64 n (by omega) (by omega) w
/-- A row that is filled from its beginning on. -/
def fillL (Z : List Int) (k : Nat) : List Int := Z.take k ++ List.replicate (Z.length - k) 0
theorem fillL_len {Z : List Int} {k : Nat} (h : k ≤ Z.length) : (fillL Z k).length = Z.length := by
  unfold fillL
  rw [List.length_append, List.length_take, List.length_replicate]; omega
theorem fillL_set {Z : List Int} {k : Nat} (h : k < Z.length) : (fillL Z k).set k (wd Z k) = fillL Z (k + 1) := by
  unfold fillL
  have ht : (Z.take k).length = k := by rw [List.length_take]; omega
  rw [List.set_append_right _ _ (by omega), ht, Nat.sub_self]
  obtain ⟨m, hm⟩ : ∃ m, Z.length - k = m + 1 := ⟨Z.length - k - 1, by omega⟩
  rw [hm, List.replicate_succ, List.set_cons_zero, show Z.length - (k + 1) = m by omega, List.take_succ_eq_append_getElem h, List.append_assoc]
  simp [wd, h]
theorem fillL_all (Z : List Int) : fillL Z Z.length = Z := by simp [fillL]
theorem or_one64 (x : Int) (h0 : 0 ≤ x) (h1 : x < 4294967296) : bits .or .u64 (x * 2) 1 = x * 2 + 1 := by
  obtain ⟨s, rfl⟩ := Int.eq_ofNat_of_zero_le h0
  have e1 : ((s : Int) * 2) = ((s * 2 : Nat) : Int) := by omega
  rw [e1, show (1 : Int) = ((1 : Nat) : Int) from rfl, u64_or_nat _ _ (by omega) (by omega)]
  have := or_add s 1 1 (by omega)
  rw [show s * 2 = s * 2 ^ 1 by omega, this]
  omega

set_option maxRecDepth 20000 in
set_option maxHeartbeats 4000000 in
theorem lnew_any (s t u : Value) (ws rs l : List Int) (w : World) (hs : VRow w s (Uw ws)) (ht : VRow w t (Iw rs)) (hu : VRow w u (Iw l)) (h : Rts ws rs l) :
    Calls Try.prog 29 #[s, t, u] w fun e w' => e = .returned (.slice (some ⟨w.heap.size, 0, none⟩) (ws.length + rs.length) (ws.length + rs.length)) ∧ LmAt w' w.heap.size (tagL ws rs l) ∧ Below w.heap.size w w' := by
  have HH := hide h
  have HS := hide hs
  have HT := hide ht
  have HU := hide hu
  have hm := h.most
  have hf := h.few
  obtain ⟨N, hN⟩ : ∃ N, N = ws.length + rs.length := ⟨_, rfl⟩
  have hmk := run_make_loom N (by omega)
  have hsum : IntKind.i64.wrap ((ws.length : Int) + (rs.length : Int)) = (N : Int) := by rw [IntKind.wrap_i64]; omega
  obtain ⟨a1, cap1, rfl, g1, g2, g3⟩ := hs.shape
  obtain ⟨a2, cap2, rfl, k1, k2, k3⟩ := ht.shape
  obtain ⟨a3, cap3, rfl, j1, j2, j3⟩ := hu.shape
  have hlw : (Uw ws).length = ws.length := by simp
  have hlr : (Iw rs).length = rs.length := by simp
  have hll : (Iw l).length = l.length := by simp
  rw [hlw] at HS
  rw [hlr] at HT
  rw [hll] at HU
  rw [hlw, hlr, hll, ← hN]
  have HN := hide hN
  have HMF := hide (And.intro hm hf)
  have HLL := hide (show l.length ≤ 1048576 from Nat.le_trans (obs_count ws l (h.rise.imp fun {a b} h => by omega) h.ob) hm)
  have hA0 : LmAt (w.alloc (.cells (Array.replicate N (.int .u64 0)) 95)) w.heap.size (fillL (ws ++ rs) 0) := by
    unfold LmAt fillL
    have := World.alloc_heap_new w (.cells (Array.replicate N (.int .u64 0)) 95)
    rw [this]
    simp [hN]
  have HA0 := hide hA0
  have HB0 := hide (show Below w.heap.size w (w.alloc (.cells (Array.replicate N (.int .u64 0)) 95)) from (Below.refl _ _).alloc (Nat.le_refl _) _)
  obtain ⟨n, hn⟩ : ∃ n, n = ws.length := ⟨_, rfl⟩
  obtain ⟨m, hm2⟩ : ∃ m, m = rs.length := ⟨_, rfl⟩
  obtain ⟨q, hq⟩ : ∃ q, q = l.length := ⟨_, rfl⟩
  have HX := hide (And.intro hn (And.intro hm2 hq))
  rw [← hn, ← hm2] at HN HMF hsum
  rw [← hn] at HS ⊢
  rw [← hm2] at HT ⊢
  rw [← hq] at HU HLL ⊢
  clear hs ht hu h g1 g2 g3 k1 k2 k3 j1 j2 j3 hlw hlr hll hm hf hN hA0 hn hm2 hq
  go_enter Try.func29, Try.ntmps29
  go_wp2_with fail
  obtain ⟨W0, hW0⟩ : ∃ W0, W0 = w.alloc (.cells (Array.replicate N (.int .u64 0)) 95) := ⟨_, rfl⟩
  rw [← hW0] at HA0 HB0 ⊢
  clear hW0
  obtain ⟨g, hg⟩ : ∃ g, g = w.heap.size := ⟨_, rfl⟩
  have HG := hide hg
  rw [← hg] at HA0 HB0 ⊢
  clear hg
  go_loopw [22] (fun i wr => ∃ k : Nat, i = .int .i64 (k : Int) ∧ k ≤ n ∧ Hid (LmAt wr g (fillL (ws ++ rs) k) ∧ Below g w wr)) (fun i _ => n - (intOf i).toNat)
  case atStart => exact ⟨0, rfl, Nat.zero_le _, unhide HA0, unhide HB0⟩
  case round =>
    clear HA0 HB0
    obtain ⟨k, rfl, hk, hst⟩ := hrel
    have hkw : IntKind.i64.wrap ((k : Int) + 1) = (k : Int) + 1 := by have := (unhide HMF).1; rw [IntKind.wrap_i64]; omega
    by_cases hlt : k < n
    · have hkI : (k : Int) < (n : Int) := by omega
      obtain ⟨x1, x2⟩ := unhide hst
      obtain ⟨y1, y2, y3⟩ := unhide HX
      have hkL : k < ws.length := by omega
      have hNN := unhide HN
      have hlen : (ws ++ rs).length = N := by have := unhide HN; rw [List.length_append]; omega
      obtain ⟨b, off, cap', e0, _, _, hc⟩ := (unhide HS).open (by intro e; have := congrArg List.length e; simp at this; rw [this] at hkL; simp at hkL)
      simp only [Value.slice.injEq] at e0
      obtain ⟨rfl, e9, rfl⟩ := e0
      have c0 := hc k _ (by rw [List.getElem?_map, wd_get hkL]; rfl)
      have hbw : Below w.heap.size w wr := by have := x2; rw [unhide HG] at this; exact this
      have d0 := (hbw.cell (World.block_lt_of_cell? _ _ c0)).trans c0
      have c1 := x1.cell (k := k) (by rw [fillL_len (by omega)]; omega)
      have hfz : ∀ j, wr.frozen? ⟨g, j, none⟩ = false := fun j => frozen_of_block x1
      obtain ⟨u0, u1⟩ := (unhide HH).u32.wd k
      have hcv : IntKind.u64.wrap (wd ws k) = wd ws k := by rw [IntKind.wrap_u64]; omega
      have hA2 := x1.set k (wd ws k)
      rw [show wd ws k = wd (ws ++ rs) k from (tgt_low (rs := rs) hkL).symm, fillL_set (by omega), show wd (ws ++ rs) k = wd ws k from tgt_low (rs := rs) hkL] at hA2
      have HA2 := hide (And.intro hA2 (x2.setCell (p := ⟨g, k, none⟩) (Nat.le_refl _) (.int .u64 (wd ws k))))
      have HLT := hide hlt
      have hkN : (k : Int) < (N : Int) := by omega
      generalize wd ws k = x at *
      generalize wd (fillL (ws ++ rs) k) k = y at *
      clear x1 x2 y1 y2 y3 hkL hNN hlen e9 hc c0 hbw hA2 hst hlt hk
      go_wp2_with fail
      go_roundw
      case rel => exact ⟨k + 1, by go_num, unhide HLT, unhide HA2⟩
      case measure => (have := unhide HLT; simp [intOf]; omega)
    · have hke : k = n := by omega
      subst hke
      have hge : ¬ (k : Int) < (k : Int) := by omega
      have HA1 := hide (unhide hst).1
      have HB1 := hide (unhide hst).2
      clear hlt hk hkw hst
      rename World => W1
      go_wp2_with fail
      go_loopw [35] (fun i wr => ∃ j : Nat, i = .int .i64 (j : Int) ∧ j ≤ m ∧ Hid (LmAt wr g (fillL (ws ++ rs) (k + j)) ∧ Below g w wr)) (fun i _ => m - (intOf i).toNat)
      case atStart => exact ⟨0, rfl, Nat.zero_le _, unhide HA1, unhide HB1⟩
      case round =>
        clear HA1 HB1
        obtain ⟨j, rfl, hj, hst⟩ := hrel
        rename World => wr
        have hjw : IntKind.i64.wrap ((j : Int) + 1) = (j : Int) + 1 := by have := (unhide HMF).2; rw [IntKind.wrap_i64]; omega
        by_cases hlt : j < m
        · have hjI : (j : Int) < (m : Int) := by omega
          obtain ⟨x1, x2⟩ := unhide hst
          obtain ⟨y1, y2, y3⟩ := unhide HX
          have hjL : j < rs.length := by omega
          have hNN := unhide HN
          have hMM := unhide HMF
          have hlen : (ws ++ rs).length = N := by rw [List.length_append]; omega
          obtain ⟨b, off, cap', e0, _, _, hc⟩ := (unhide HT).open (by intro e; have := congrArg List.length e; simp at this; rw [this] at hjL; simp at hjL)
          simp only [Value.slice.injEq] at e0
          obtain ⟨rfl, e9, rfl⟩ := e0
          have c0 := hc j _ (by rw [List.getElem?_map, wd_get hjL]; rfl)
          have hbw : Below w.heap.size w wr := by have := x2; rw [unhide HG] at this; exact this
          have d0 := (hbw.cell (World.block_lt_of_cell? _ _ c0)).trans c0
          have c1 := x1.cell (k := k + j) (by rw [fillL_len (by omega)]; omega)
          have hfz : ∀ j, wr.frozen? ⟨g, j, none⟩ = false := fun j => frozen_of_block x1
          have htg : tgt ws rs (k + j) = wd rs j := by rw [y1]; exact tgt_high
          have hr0 : 0 ≤ wd rs j ∧ wd rs j < 1048576 := by
            have hH := unhide HH
            have hr := hH.root (wd rs j) (by simp only [wd, List.getElem?_eq_getElem hjL, Option.getD_some]; exact List.getElem_mem hjL)
            rcases hr with hr | hr
            · omega
            · have h1 := hH.lt hr
              omega
          have hcv : IntKind.u64.wrap (wd rs j) = wd rs j := by rw [IntKind.wrap_u64]; omega
          have hA2 := x1.set (k + j) (wd rs j)
          rw [show wd rs j = wd (ws ++ rs) (k + j) from htg.symm, fillL_set (by omega), show wd (ws ++ rs) (k + j) = wd rs j from htg] at hA2
          have HA2 := hide (And.intro hA2 (x2.setCell (p := ⟨g, k + j, none⟩) (Nat.le_refl _) (.int .u64 (wd rs j))))
          have HLT := hide hlt
          have hw3 : IntKind.i64.wrap ((k : Int) + (j : Int)) = ((k + j : Nat) : Int) := by rw [IntKind.wrap_i64]; omega
          obtain ⟨p, hp⟩ : ∃ p, p = k + j := ⟨_, rfl⟩
          have HP := hide hp
          rw [← hp] at hw3 HA2 c1
          have hkN : (p : Int) < (N : Int) := by omega
          generalize wd rs j = x at *
          generalize wd (fillL (ws ++ rs) p) p = y at *
          clear x1 x2 y1 y2 y3 hjL hNN hMM hlen e9 hc c0 hbw hA2 hst hlt hj htg hr0 hp
          go_wp2_with fail
          go_roundw
          case rel => exact ⟨j + 1, by go_num, unhide HLT, by rw [show k + (j + 1) = p + 1 by have := unhide HP; omega]; exact unhide HA2⟩
          case measure => (have := unhide HLT; simp [intOf]; omega)
        · have hje : j = m := by omega
          subst hje
          have hge : ¬ (j : Int) < (j : Int) := by omega
          have HA2 : Hid (LmAt wr g (tagL ws rs [])) := by
            have h1 := (unhide hst).1
            have h2 := unhide HX
            have h3 := unhide HN
            rw [show k + j = (ws ++ rs).length by rw [List.length_append]; omega, fillL_all] at h1
            exact h1
          have HB2 := hide (unhide hst).2
          clear hlt hj hjw hst
          rename World => W2
          go_wp2_with fail
          go_loopw [51] (fun i wr => ∃ z : Nat, i = .int .i64 (z : Int) ∧ z ≤ q ∧ Hid (LmAt wr g (tagL ws rs (l.take z)) ∧ Below g w wr)) (fun i _ => q - (intOf i).toNat)
          case atStart => exact ⟨0, rfl, Nat.zero_le _, unhide HA2, unhide HB2⟩
          case round =>
            clear HA2 HB2
            obtain ⟨z, rfl, hz, hst⟩ := hrel
            rename World => wr
            have hzw : IntKind.i64.wrap ((z : Int) + 1) = (z : Int) + 1 := by have := unhide HLL; rw [IntKind.wrap_i64]; omega
            by_cases hlt : z < q
            · have hzI : (z : Int) < (q : Int) := by omega
              obtain ⟨x1, x2⟩ := unhide hst
              obtain ⟨y1, y2, y3⟩ := unhide HX
              have hzL : z < l.length := by omega
              obtain ⟨b, off, cap', e0, _, _, hc⟩ := (unhide HU).open (by intro e; have := congrArg List.length e; simp at this; rw [this] at hzL; simp at hzL)
              simp only [Value.slice.injEq] at e0
              obtain ⟨rfl, e9, rfl⟩ := e0
              have c0 := hc z _ (by rw [List.getElem?_map, List.getElem?_eq_getElem hzL]; rfl)
              have hbw : Below w.heap.size w wr := by have := x2; rw [unhide HG] at this; exact this
              have d0 := (hbw.cell (World.block_lt_of_cell? _ _ c0)).trans c0
              have hH := unhide HH
              have hll := hH.lt (List.getElem_mem hzL)
              have hnm : l[z] ∉ l.take z := hH.toLiv.apart (M := l.take z) (R := l.drop (z + 1)) (by rw [← List.drop_eq_getElem_cons hzL, List.take_append_drop])
              have htk := List.take_succ_eq_append_getElem hzL
              obtain ⟨a, ha⟩ : ∃ a : Nat, (a : Int) = l[z] := ⟨_, hll.2.2.2⟩
              rw [← ha] at d0 hll hnm htk
              rw [Int.toNat_natCast] at hll
              have c1 := x1.cell (k := a) (by rw [tagL_len]; omega)
              rw [tagL_get _ (fun x hx => by have := hH.lt (List.mem_of_mem_take hx); omega), if_neg hnm, tgt_low (by omega)] at c1
              have hfz : ∀ j, wr.frozen? ⟨g, j, none⟩ = false := fun j => frozen_of_block x1
              obtain ⟨u0, u1⟩ := hH.u32.wd a
              have hA2 := x1.set a (wd ws a * 2 + 1)
              have hts : tagL ws rs (l.take (z + 1)) = (tagL ws rs (l.take z)).set a (wd ws a * 2 + 1) := by rw [htk, tagL_snoc, Int.toNat_natCast]
              rw [← hts] at hA2
              have HA2 := hide (And.intro hA2 (x2.setCell (p := ⟨g, a, none⟩) (Nat.le_refl _) (.int .u64 (wd ws a * 2 + 1))))
              have HLT := hide hlt
              have hkN : (a : Int) < (N : Int) := by have := unhide HN; omega
              have hor := or_one64 (wd ws a) u0 u1
              have hsh : IntKind.u64.wrap (wd ws a * 2) = wd ws a * 2 := by rw [IntKind.wrap_u64]; omega
              generalize wd ws a = x at *
              clear x1 x2 y1 y2 y3 hzL e9 hc c0 hbw hA2 hst hlt hz hH hll hnm htk ha u0 u1 hts
              go_wp2_with fail
              go_roundw
              case rel => exact ⟨z + 1, by go_num, unhide HLT, unhide HA2⟩
              case measure => (have := unhide HLT; simp [intOf]; omega)
            · have hze : z = q := by omega
              subst hze
              have hge : ¬ (z : Int) < (z : Int) := by omega
              have HF : Hid (LmAt wr g (tagL ws rs l) ∧ Below g w wr) := by
                have h1 := unhide hst
                rw [List.take_of_length_le (by have := unhide HX; omega)] at h1
                exact h1
              clear hlt hz hzw hst
              go_wp2_with fail
              go_ret
              have e1 := unhide HG
              rw [← e1]
              exact ⟨rfl, unhide HF⟩
end Go.Proofs.Ytegefnchkgkmgaa

/- The landed package thread: narrow. -/
namespace Go.Proofs.Ytegefnchkgkmgaa
open Go.RowKit

theorem run_make_narU (n : Nat) (hn : n ≤ 2097152) (w : World) :
    (Instr.makeSlice 22 (.int .i64 (n : Int)) (.int .i64 (n : Int))).run Try.prog w = .ok (.slice (some ⟨w.heap.size, 0, none⟩) n n) (w.alloc (.cells (Array.replicate n (.int .u32 0)) 25)) := by
  rw [← List.toArray_replicate, ← made_arr]
  exact run_make_row' 22 25 (.int .u32 0) 4 Try.underlying22 Try.infoU32t rfl .i64 .i64 n (by omega) (by omega) w
theorem run_make_narI (n : Nat) (hn : n ≤ 2097152) (w : World) :
    (Instr.makeSlice 23 (.int .i64 (n : Int)) (.int .i64 (n : Int))).run Try.prog w = .ok (.slice (some ⟨w.heap.size, 0, none⟩) n n) (w.alloc (.cells (Array.replicate n (.int .i64 0)) 3)) := by
  rw [← List.toArray_replicate, ← made_arr]
  exact run_make_row' 23 3 (.int .i64 0) 8 Try.underlying23 Try.infoI64 rfl .i64 .i64 n (by omega) (by omega) w

set_option maxRecDepth 20000 in
set_option maxHeartbeats 2000000 in
theorem narU_any (v : Value) (X : List Int) (w : World) (hv : VRow w v (Lw X)) (hX : ∀ x ∈ X, 0 ≤ x ∧ x < 4294967296) (hl : X.length ≤ 2097152) :
    Calls Try.prog 35 #[v] w fun e w' => ∃ r, e = .returned r ∧ w'.ownsRow w.heap.size 25 1 r X.length (Uw X) ∧ Below w.heap.size w w' := by
  have HV := hide hv
  have HX := hide hX
  have HL := hide hl
  obtain ⟨a, cap, rfl, g1, g2, g3⟩ := hv.shape
  have hlx : (Lw X).length = X.length := by simp
  rw [hlx] at HV ⊢
  obtain ⟨n, hn⟩ : ∃ n, n = X.length := ⟨_, rfl⟩
  have HN := hide hn
  rw [← hn] at HV HL ⊢
  have hmk := run_make_narU n (by omega)
  have hA0 : (w.alloc (.cells (Array.replicate n (.int .u32 0)) 25)).heap[w.heap.size]? = some (.cells (Uw (fillL X 0)).toArray 25 (0, 0)) := by
    have := World.alloc_heap_new w (.cells (Array.replicate n (.int .u32 0)) 25)
    rw [this]
    simp [fillL, hn, Uw]
  have HA0 := hide hA0
  have HB0 := hide (show Below w.heap.size w (w.alloc (.cells (Array.replicate n (.int .u32 0)) 25)) from (Below.refl _ _).alloc (Nat.le_refl _) _)
  clear hv hX hl g1 g2 g3 hlx hn hA0
  go_enter Try.func35, Try.ntmps35
  go_wp2_with fail
  obtain ⟨W0, hW0⟩ : ∃ W0, W0 = w.alloc (.cells (Array.replicate n (.int .u32 0)) 25) := ⟨_, rfl⟩
  rw [← hW0] at HA0 HB0 ⊢
  clear hW0
  obtain ⟨g, hg⟩ : ∃ g, g = w.heap.size := ⟨_, rfl⟩
  have HG := hide hg
  rw [← hg] at HA0 HB0 ⊢
  clear hg
  go_loopw [11] (fun i wr => ∃ k : Nat, i = .int .i64 (k : Int) ∧ k ≤ n ∧ Hid (wr.heap[g]? = some (.cells (Uw (fillL X k)).toArray 25 (0, 0)) ∧ Below g w wr)) (fun i _ => n - (intOf i).toNat)
  case atStart => exact ⟨0, rfl, Nat.zero_le _, unhide HA0, unhide HB0⟩
  case round =>
    clear HA0 HB0
    obtain ⟨k, rfl, hk, hst⟩ := hrel
    have hkw : IntKind.i64.wrap ((k : Int) + 1) = (k : Int) + 1 := by have := unhide HL; rw [IntKind.wrap_i64]; omega
    by_cases hlt : k < n
    · have hkI : (k : Int) < (n : Int) := by omega
      obtain ⟨x1, x2⟩ := unhide hst
      have hNN := unhide HN
      have hkX : k < X.length := by omega
      obtain ⟨b, off, cap', e0, _, _, hc⟩ := (unhide HV).open (by intro e; have := congrArg List.length e; simp at this; rw [this] at hkX; simp at hkX)
      simp only [Value.slice.injEq] at e0
      obtain ⟨rfl, e9, rfl⟩ := e0
      have c0 := hc k _ (by rw [List.getElem?_map, wd_get hkX]; rfl)
      have hbw : Below w.heap.size w wr := by have := x2; rw [unhide HG] at this; exact this
      have d0 := (hbw.cell (World.block_lt_of_cell? _ _ c0)).trans c0
      have hfl : (fillL X k).length = n := by rw [fillL_len (by omega)]; omega
      have c1 : wr.cell? ⟨g, k, none⟩ = some (.int .u32 (wd (fillL X k) k)) := by
        rw [cell_of_row wr g k _ _ (0, 0) x1]
        simp [wd, Uw, show k < (fillL X k).length by omega]
      have hfz : ∀ j, wr.frozen? ⟨g, j, none⟩ = false := fun j => frozen_of_block x1
      have hx := unhide HX (wd X k) (by simp only [wd, List.getElem?_eq_getElem hkX, Option.getD_some]; exact List.getElem_mem hkX)
      have hcv : IntKind.u32.wrap (wd X k) = wd X k := by rw [IntKind.wrap_u32]; omega
      have hA2 : (wr.setCell ⟨g, k, none⟩ (.int .u32 (wd X k))).heap[g]? = some (.cells (Uw (fillL X (k + 1))).toArray 25 (0, 0)) := by
        rw [heap_setCell_same wr g k _ _ _ x1, ← fillL_set hkX]
        simp [Uw]
      have HA2 := hide (And.intro hA2 (x2.setCell (p := ⟨g, k, none⟩) (Nat.le_refl _) (.int .u32 (wd X k))))
      have HLT := hide hlt
      generalize wd X k = x at *
      generalize wd (fillL X k) k = y at *
      clear x1 x2 hNN hkX e9 hc c0 hbw hfl hA2 hst hlt hk
      go_wp2_with fail
      go_roundw
      case rel => exact ⟨k + 1, by go_num, unhide HLT, unhide HA2⟩
      case measure => (have := unhide HLT; simp [intOf]; omega)
    · have hke : k = n := by omega
      subst hke
      have hge : ¬ (k : Int) < (k : Int) := by omega
      have HF : Hid (wr.ownsRow w.heap.size 25 1 (.slice (some ⟨g, 0, none⟩) k k) k (Uw X) ∧ Below w.heap.size w wr) := by
        obtain ⟨x1, x2⟩ := unhide hst
        have hNN := unhide HN
        have hLL := unhide HL
        rw [hNN, fillL_all] at x1
        rw [← unhide HG]
        exact ⟨⟨by simp [hNN], Or.inr ⟨g, k, _, rfl, Nat.le_refl _, x1, Nat.le_refl _, by unfold maxLen; omega, by simp [hNN], by simp only [hNN, Nat.mul_one]; exact List.take_of_length_le (by simp)⟩⟩, x2⟩
      clear hst hlt hk hkw
      go_wp2_with fail
      go_ret
      exact ⟨_, rfl, unhide HF⟩

set_option maxRecDepth 20000 in
set_option maxHeartbeats 2000000 in
theorem narI_any (v : Value) (X : List Int) (w : World) (hv : VRow w v (Lw X)) (hX : ∀ x ∈ X, 0 ≤ x ∧ x < 4294967296) (hl : X.length ≤ 2097152) :
    Calls Try.prog 36 #[v] w fun e w' => ∃ r, e = .returned r ∧ w'.ownsRow w.heap.size 3 1 r X.length (Iw X) ∧ Below w.heap.size w w' := by
  have HV := hide hv
  have HX := hide hX
  have HL := hide hl
  obtain ⟨a, cap, rfl, g1, g2, g3⟩ := hv.shape
  have hlx : (Lw X).length = X.length := by simp
  rw [hlx] at HV ⊢
  obtain ⟨n, hn⟩ : ∃ n, n = X.length := ⟨_, rfl⟩
  have HN := hide hn
  rw [← hn] at HV HL ⊢
  have hmk := run_make_narI n (by omega)
  have hA0 : (w.alloc (.cells (Array.replicate n (.int .i64 0)) 3)).heap[w.heap.size]? = some (.cells (Iw (fillL X 0)).toArray 3 (0, 0)) := by
    have := World.alloc_heap_new w (.cells (Array.replicate n (.int .i64 0)) 3)
    rw [this]
    simp [fillL, hn, Iw]
  have HA0 := hide hA0
  have HB0 := hide (show Below w.heap.size w (w.alloc (.cells (Array.replicate n (.int .i64 0)) 3)) from (Below.refl _ _).alloc (Nat.le_refl _) _)
  clear hv hX hl g1 g2 g3 hlx hn hA0
  go_enter Try.func36, Try.ntmps36
  go_wp2_with fail
  obtain ⟨W0, hW0⟩ : ∃ W0, W0 = w.alloc (.cells (Array.replicate n (.int .i64 0)) 3) := ⟨_, rfl⟩
  rw [← hW0] at HA0 HB0 ⊢
  clear hW0
  obtain ⟨g, hg⟩ : ∃ g, g = w.heap.size := ⟨_, rfl⟩
  have HG := hide hg
  rw [← hg] at HA0 HB0 ⊢
  clear hg
  go_loopw [11] (fun i wr => ∃ k : Nat, i = .int .i64 (k : Int) ∧ k ≤ n ∧ Hid (wr.heap[g]? = some (.cells (Iw (fillL X k)).toArray 3 (0, 0)) ∧ Below g w wr)) (fun i _ => n - (intOf i).toNat)
  case atStart => exact ⟨0, rfl, Nat.zero_le _, unhide HA0, unhide HB0⟩
  case round =>
    clear HA0 HB0
    obtain ⟨k, rfl, hk, hst⟩ := hrel
    have hkw : IntKind.i64.wrap ((k : Int) + 1) = (k : Int) + 1 := by have := unhide HL; rw [IntKind.wrap_i64]; omega
    by_cases hlt : k < n
    · have hkI : (k : Int) < (n : Int) := by omega
      obtain ⟨x1, x2⟩ := unhide hst
      have hNN := unhide HN
      have hkX : k < X.length := by omega
      obtain ⟨b, off, cap', e0, _, _, hc⟩ := (unhide HV).open (by intro e; have := congrArg List.length e; simp at this; rw [this] at hkX; simp at hkX)
      simp only [Value.slice.injEq] at e0
      obtain ⟨rfl, e9, rfl⟩ := e0
      have c0 := hc k _ (by rw [List.getElem?_map, wd_get hkX]; rfl)
      have hbw : Below w.heap.size w wr := by have := x2; rw [unhide HG] at this; exact this
      have d0 := (hbw.cell (World.block_lt_of_cell? _ _ c0)).trans c0
      have hfl : (fillL X k).length = n := by rw [fillL_len (by omega)]; omega
      have c1 : wr.cell? ⟨g, k, none⟩ = some (.int .i64 (wd (fillL X k) k)) := by
        rw [cell_of_row wr g k _ _ (0, 0) x1]
        simp [wd, Iw, show k < (fillL X k).length by omega]
      have hfz : ∀ j, wr.frozen? ⟨g, j, none⟩ = false := fun j => frozen_of_block x1
      have hx := unhide HX (wd X k) (by simp only [wd, List.getElem?_eq_getElem hkX, Option.getD_some]; exact List.getElem_mem hkX)
      have hcv : IntKind.i64.wrap (wd X k) = wd X k := by rw [IntKind.wrap_i64]; omega
      have hA2 : (wr.setCell ⟨g, k, none⟩ (.int .i64 (wd X k))).heap[g]? = some (.cells (Iw (fillL X (k + 1))).toArray 3 (0, 0)) := by
        rw [heap_setCell_same wr g k _ _ _ x1, ← fillL_set hkX]
        simp [Iw]
      have HA2 := hide (And.intro hA2 (x2.setCell (p := ⟨g, k, none⟩) (Nat.le_refl _) (.int .i64 (wd X k))))
      have HLT := hide hlt
      generalize wd X k = x at *
      generalize wd (fillL X k) k = y at *
      clear x1 x2 hNN hkX e9 hc c0 hbw hfl hA2 hst hlt hk
      go_wp2_with fail
      go_roundw
      case rel => exact ⟨k + 1, by go_num, unhide HLT, unhide HA2⟩
      case measure => (have := unhide HLT; simp [intOf]; omega)
    · have hke : k = n := by omega
      subst hke
      have hge : ¬ (k : Int) < (k : Int) := by omega
      have HF : Hid (wr.ownsRow w.heap.size 3 1 (.slice (some ⟨g, 0, none⟩) k k) k (Iw X) ∧ Below w.heap.size w wr) := by
        obtain ⟨x1, x2⟩ := unhide hst
        have hNN := unhide HN
        have hLL := unhide HL
        rw [hNN, fillL_all] at x1
        rw [← unhide HG]
        exact ⟨⟨by simp [hNN], Or.inr ⟨g, k, _, rfl, Nat.le_refl _, x1, Nat.le_refl _, by unfold maxLen; omega, by simp [hNN], by simp only [hNN, Nat.mul_one]; exact List.take_of_length_le (by simp)⟩⟩, x2⟩
      clear hst hlt hk hkw
      go_wp2_with fail
      go_ret
      exact ⟨_, rfl, unhide HF⟩
end Go.Proofs.Ytegefnchkgkmgaa

/- The landed package thread: moves. -/
namespace Go.Proofs.Ytegefnchkgkmgaa
open Go.RowKit

theorem own_push' {w w2 : World} {base e n sz : Nat} {lv : Value} {o : Obj} {xs : List Value} (h : (w.alloc o).ownsRow base e sz lv n xs) (hb : base ≤ w.heap.size) (hg : (w.alloc o).grownBy w2 lv.ownBlock) : Below base w w2 := by
  have hs := hg.size
  rw [World.size_alloc] at hs
  exact ⟨hg.os, hg.tape, hg.output, by omega, fun k hk => (hg.block k (by rw [World.size_alloc]; omega) (fun e => by have := (h.lt k e.symm).1; omega)).trans (Below.heap_alloc _ _ k (by omega))⟩

set_option maxRecDepth 20000 in
set_option maxHeartbeats 4000000 in
theorem lmoves_any (s t : Value) (ws rs l : List Int) (w : World) (hs : VRow w s (Uw ws)) (ht : VRow w t (Iw l)) (h : Rts ws rs l) :
    Calls Try.prog 28 #[s, t] w fun e w' => ∃ v, e = .returned (.tuple #[v, .int .i64 ((1 + sums ws l : Nat) : Int)]) ∧ w'.ownsRow w.heap.size 36 2 v l.length (posC (l.map fun a => (a, toA ws l a))) ∧ Below w.heap.size w w' := by
  obtain ⟨i1, hi1, hy0, hy1, hy2⟩ := info_parts Try.infoPos
  have HV := hide h
  have HS := hide hs
  have HT := hide ht
  have HLL := hide (show l.length ≤ 1048576 from Nat.le_trans (obs_count ws l (h.rise.imp fun {a b} h => by omega) h.ob) h.most)
  obtain ⟨a1, cap1, rfl, g1, g2, g3⟩ := hs.shape
  obtain ⟨a2, cap2, rfl, k1, k2, k3⟩ := ht.shape
  have hlw : (Uw ws).length = ws.length := by simp
  have hlr : (Iw l).length = l.length := by simp
  rw [hlw] at HS ⊢
  rw [hlr] at HT ⊢
  clear hs ht h g1 g2 g3 k1 k2 k3 hlw hlr
  go_enter Try.func28, Try.ntmps28
  go_wp2_with fail
  go_loopw [6, 7, 12] (fun pv av iv wr => ∃ (k q : Nat) (pp : Option Addr) (pc : Nat), iv = .int .i64 (k : Int) ∧ av = .int .i64 (q : Int) ∧ pv = .slice pp k pc ∧ k ≤ l.length ∧ Hid (q = 1 + sums ws (l.take k)) ∧ Hid (wr.ownsRow w.heap.size 36 2 (.slice pp k pc) k (posC ((l.take k).map fun a => (a, toA ws l a)))) ∧ Hid (Below w.heap.size w wr)) (fun _ _ iv _ => l.length - (intOf iv).toNat)
  case atStart => exact ⟨0, 1, none, 0, rfl, rfl, rfl, Nat.zero_le _, rfl, World.ownsRow_nil _ _ _ _, Below.refl _ _⟩
  case round =>
    obtain ⟨k, q, pp, pc, rfl, rfl, rfl, hk, hq, hT, hbr⟩ := hrel
    have hkw : IntKind.i64.wrap ((k : Int) + 1) = (k : Int) + 1 := by have := unhide HLL; rw [IntKind.wrap_i64]; omega
    by_cases hlt : k < l.length
    · have hkI : (k : Int) < (l.length : Int) := by omega
      have hbw := unhide hbr
      obtain ⟨bt, ot, ct, e9, _, _, htl⟩ := (unhide HT).open (by intro e; have := congrArg List.length e; simp at this; rw [this] at hlt; simp at hlt)
      simp only [Value.slice.injEq, List.length_map] at e9
      obtain ⟨rfl, e8, rfl⟩ := e9
      have ht0 := htl k (.int .i64 l[k]) (by rw [List.getElem?_map, List.getElem?_eq_getElem hlt]; rfl)
      have hvv := unhide HV
      have hll := hvv.lt (List.getElem_mem hlt)
      obtain ⟨p, hp⟩ : ∃ p : Nat, (p : Int) = l[k] := ⟨_, hll.2.2.2⟩
      have htk := List.take_succ_eq_append_getElem hlt
      have hat : toA ws l l[k] = ((1 + sums ws (l.take k) : Nat) : Int) := hvv.toLiv.at (M := l.take k) (R := l.drop (k + 1)) (by rw [← List.drop_eq_getElem_cons hlt, List.take_append_drop])
      rw [← hp] at ht0 hll htk hat
      rw [Int.toNat_natCast] at hll
      have hpw : p < ws.length := by omega
      have hpI : (p : Int) < (ws.length : Int) := by omega
      obtain ⟨bk, off, cz, e5, _, _, hwl⟩ := (unhide HS).open (by intro e; have := congrArg List.length e; simp at this; rw [this] at hpw; simp at hpw)
      simp only [Value.slice.injEq, List.length_map] at e5
      obtain ⟨rfl, e6, rfl⟩ := e5
      have hw0 := hwl p _ (by rw [List.getElem?_map, wd_get hpw]; rfl)
      obtain ⟨u0, u1⟩ := hvv.u32.wd p
      have HSZ := hide (fun w => csize_t (wd ws p) w u0 u1)
      have hsA : wd ws p / 4096 = ((szA ws (p : Int) : Nat) : Int) := by unfold szA; rw [Int.toNat_natCast]; exact (szN_int u0).symm
      have hall := hvv.all hvv.pos
      have hsum : sums ws (l.take (k + 1)) = sums ws (l.take k) + szA ws (p : Int) := by rw [htk, sums_app]; simp [sums]
      have hsl : sums ws (l.take (k + 1)) ≤ sums ws l := by
        have : sums ws l = sums ws (l.take (k + 1)) + sums ws (l.drop (k + 1)) := by rw [← sums_app, List.take_append_drop]
        omega
      have hqq := unhide hq
      have hmo := hvv.most
      have hwr : IntKind.i64.wrap ((q : Int) + wd ws p / 4096) = ((q + szA ws (p : Int) : Nat) : Int) := by
        rw [hsA, IntKind.wrap_i64]; omega
      have HQ2 := hide (show q + szA ws (p : Int) = 1 + sums ws (l.take (k + 1)) by rw [hsum, hqq]; omega)
      have HPS := hide (show (l.take (k + 1)).map (fun a => (a, toA ws l a)) = ((l.take k).map fun a => (a, toA ws l a)) ++ [((p : Int), (q : Int))] by rw [htk, List.map_append, List.map_cons, List.map_nil, hat, hqq])
      have htw := (hbw.cell (World.block_lt_of_cell? _ _ ht0)).trans ht0
      have HCW := hide (fun (W : World) (hW : Below w.heap.size w W) => (hW.cell (World.block_lt_of_cell? _ _ hw0)).trans hw0)
      have HBW := hide hbw
      have HOX := hide (show (wr.alloc (.cells #[.int .i64 (p : Int), .int .i64 (q : Int)] 36)).ownsRow w.heap.size 36 2 (.slice pp k pc) k (posC ((l.take k).map fun a => (a, toA ws l a))) from ownsV_keep (F := fun _ => False) (unhide hT) (Keep.of_below ((Below.refl _ _).alloc (Nat.le_refl _) _)) (fun _ _ => id))
      have HGS := hide (show w.heap.size ≤ (wr.alloc (.cells #[.int .i64 (p : Int), .int .i64 (q : Int)] 36)).heap.size by rw [World.size_alloc]; have := hbw.size; omega)
      have HLT := hide hlt
      obtain ⟨PC, hPC⟩ : ∃ PC, PC = posC ((l.take k).map fun a => (a, toA ws l a)) := ⟨_, rfl⟩
      rw [← hPC] at HOX
      have HPC := hide hPC
      generalize wd ws p = x at *
      clear hbw e8 htl hvv hll hpw hp htk hat e6 hwl hw0 hall hsum hsl hqq hlt ht0 hbr hk hq hPC hsA hT hmo u0 u1
      go_wp2_with (first
        | (at_builtin; refine wpList_append_gen rfl _ _ 27 rfl w.heap.size 36 i1 (.agg #[.int .i64 0, .int .i64 0]) Try.underlying27 hi1 hy0 2 16 (by omega) hy1 hy2 rfl (.slice pp k pc) k PC rfl (unhide HOX) ⟨wr.heap.size, 0, none⟩ 1 1 [.int .i64 (p : Int), .int .i64 (q : Int)] rfl rfl cell_two (by intro u hu; simp at hu; rcases hu with rfl | rfl <;> rfl) (by have := unhide HLL; have := unhide HLT; unfold maxLen; omega) (by have := unhide HLL; have := unhide HLT; omega) (unhide HGS) ?_))
      intro v6 w6 hown6 hgrow6 hob6
      obtain ⟨p6, c6, rfl⟩ := ownsV_shape hown6
      have hb6 := (unhide HBW).trans (own_push' (unhide HOX) (by have := (unhide HBW).size; exact this) hgrow6)
      have HF := hide (show w6.ownsRow w.heap.size 36 2 (.slice p6 (k + 1) c6) (k + 1) (posC ((l.take (k + 1)).map fun a => (a, toA ws l a))) by rw [unhide HPS, posC_snoc, ← unhide HPC]; exact hown6)
      have HB6 := hide hb6
      have d0 := unhide HCW w6 hb6
      clear hown6 hgrow6 hob6 hb6
      go_wp2_with fail
      refine Calls.mono (unhide HSZ _) ?_
      rintro e w7 ⟨rfl, rfl⟩
      go_wp2_with fail
      go_roundw
      case rel => exact ⟨k + 1, _, p6, c6, by go_num, rfl, rfl, unhide HLT, unhide HQ2, unhide HF, unhide HB6⟩
      case measure => (have := unhide HLT; simp [intOf]; omega)
    · have hke : k = l.length := by omega
      have HF := hide (show wr.ownsRow w.heap.size 36 2 (.slice pp k pc) l.length (posC (l.map fun a => (a, toA ws l a))) ∧ Below w.heap.size w wr ∧ q = 1 + sums ws l by
        have h1 := unhide hT
        have h2 := unhide hq
        rw [hke, List.take_length] at h1 h2
        rw [hke]
        exact ⟨h1, unhide hbr, h2⟩)
      subst hke
      have hge : ¬ (l.length : Int) < (l.length : Int) := by omega
      clear hlt hk hkw hq hT hbr
      go_wp2_with fail
      go_ret2
      have hf := unhide HF
      rw [hf.2.2]
      exact ⟨_, rfl, hf.1, hf.2.1⟩
end Go.Proofs.Ytegefnchkgkmgaa
