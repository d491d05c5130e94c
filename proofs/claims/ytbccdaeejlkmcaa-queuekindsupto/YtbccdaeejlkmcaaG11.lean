/- Texts of ours, one behind the other: Q2Own5, Q2Own6. -/
import Derived.Test.YtbccdaeejlkmcaaG9
import Derived.Defers
import Derived.Recover
/- The library's heap over the landed package queue's line: down, Push, Fix. -/
namespace Go.Proofs.Ytbccdaeejlkmcaa.K2
open Go.RowKit

theorem up_zero (w : World) (q : Nat) :
    Calls Try.prog 46 #[.iface 72 (.pointer (some ⟨q, 0, none⟩)), .int .i64 0] w fun e w' => e = .returned (.tuple #[]) ∧ w' = w := by
  have hd : IntKind.i64.wrap (Int.tdiv (((0 : Nat) : Int) - 1) 2) = 0 := by decide
  go_enter Try.func46, Try.ntmps46
  go_wp2_with fail
  go_loopw [1] (fun t wr => t = .int .i64 0 ∧ wr = w) (fun _ _ => 0)
  case atStart => exact ⟨rfl, rfl⟩
  case round =>
    obtain ⟨rfl, rfl⟩ := hrel
    go_wp2_with fail
    go_end0
    exact ⟨rfl, rfl⟩

set_option maxRecDepth 20000 in
set_option maxHeartbeats 4000000 in
theorem down_any (lt : It → It → Bool) (w : World) (q n : Nat) (f v : Value) (L : List (It × Nat)) (hC : LessC f lt) (h : LQ w q f L n v) (hu : HeapDown (Le lt) L 0) :
    Calls Try.prog 47 #[.iface 72 (.pointer (some ⟨q, 0, none⟩)), .int .i64 0, .int .i64 (L.length : Int)] w fun e w' => ∃ b, e = .returned (.bool b) ∧ ∃ L', Mixed w w' q n f v L L' ∧ HeapL (Le lt) L' := by
  have hsm := h.small
  have hlen : L.length ≤ 4398046511104 := by omega
  have HLEN := hide hlen
  have hO := hC.ord
  have h0 := Mixed.start h
  have mL := m_less q
  have mS := m_swap q
  clear hsm hlen h
  go_enter Try.func47, Try.ntmps47
  go_wp2_with fail
  go_loopw [7] (fun t wr => ∃ (k : Nat) (M : List (It × Nat)), t = .int .i64 (k : Int) ∧ (k < L.length ∨ k = 0) ∧ Mixed w wr q n f v L M ∧ HeapDown (Le lt) M k) (fun t _ => L.length - (intOf t).toNat)
  case atStart => exact ⟨0, L, rfl, Or.inr rfl, h0, hu⟩
  case round =>
    obtain ⟨k, M, rfl, hk, hM, hU⟩ := hrel
    have hl := hM.length
    have HM := hide hM
    have HU := hide hU
    have HL := hide hl
    have hk2 : (k : Int) ≤ 4398046511104 := by have := unhide HLEN; omega
    have hk3 : ¬ 2 * (k : Int) + 1 < 0 := by omega
    clear hM hU h0 hu hl
    by_cases hb : L.length ≤ 2 * k + 1
    · have hbI : (L.length : Int) ≤ 2 * (k : Int) + 1 := by omega
      have HB := hide hb
      clear hb hk
      go_wp2_with fail
      go_ret
      refine ⟨?_, M, unhide HM, down_end (unhide HU) (fun c hc hc0 hp => ?_)⟩
      · show Ending.returned (Value.bool (decide (0 < k))) = _ ∨ Ending.returned (Value.bool (decide (0 < k))) = _
        cases decide (0 < k) <;> simp
      have := unhide HB
      have := unhide HL
      omega
    · have HK := hide hb
      have hbI : 2 * (k : Int) + 1 < (L.length : Int) := by omega
      by_cases hj : 2 * k + 2 < L.length
      · have hjI : 2 * (k : Int) + 2 < (L.length : Int) := by omega
        have HJ := hide hj
        clear hb hk hj
        go_wp2_with fail
        refine Calls.mono (lless_at lt _ q n _ _ (2 * k + 2) (2 * k + 1) f v M hC (unhide HM).lq (by have := unhide HJ; have := unhide HL; omega) (by have := unhide HJ; have := unhide HL; omega) (by omega) (by omega)) ?_
        rintro e w2 ⟨rfl, b2⟩
        have hj2 : 2 * k + 2 < M.length := by have := unhide HJ; have := unhide HL; omega
        generalize hbv2 : bl lt M[2 * k + 2] (M[2 * k + 1]'(by omega)) = bv2
        have HBV2 : Hid (∀ (a : 2 * k + 2 < M.length) (b : 2 * k + 1 < M.length), bl lt M[2 * k + 2] M[2 * k + 1] = bv2) := hide (fun _ _ => hbv2)
        have HM2 := hide ((unhide HM).below b2)
        have HJ2 := hide hj2
        clear hbv2 hj2 b2
        cases bv2 with
        | false =>
          have HMIN : Hid (∀ c (hc : c < M.length), 0 < c → (c - 1) / 2 = k → Le lt (M[2 * k + 1]'(by have := unhide HJ2; omega)) M[c]) := hide (fun c hc hc0 hp => by
            have hcc : c = 2 * k + 1 ∨ c = 2 * k + 2 := by omega
            rcases hcc with rfl | rfl
            · exact Le.rf hO _
            · exact unhide HBV2 _ _)
          go_wp2_with fail
          refine Calls.mono (lless_at lt _ q n _ _ (2 * k + 1) k f v M hC (unhide HM2).lq (by have := unhide HK; have := unhide HL; omega) (by have := unhide HK; have := unhide HL; omega) (by omega) (by omega)) ?_
          rintro e w3 ⟨rfl, b3⟩
          have hjj : 2 * k + 1 < M.length := by have := unhide HK; have := unhide HL; omega
          generalize hbv : bl lt M[2 * k + 1] (M[k]'(by omega)) = bv
          have HBV : Hid (∀ (a : 2 * k + 1 < M.length) (b : k < M.length), bl lt M[2 * k + 1] M[k] = bv) := hide (fun _ _ => hbv)
          have HM3 := hide ((unhide HM2).below b3)
          have HH := hide hjj
          clear hbv hjj b3
          cases bv with
          | false =>
            go_wp2_with fail
            go_ret
            refine ⟨_, rfl, M, unhide HM3, down_end (unhide HU) (fun c hc hc0 hp => ?_)⟩
            exact Le.tr hO _ _ _ (unhide HBV (unhide HH) (by have := unhide HH; omega)) (unhide HMIN c hc hc0 hp)
          | true =>
            go_wp2_with fail
            refine Calls.mono (lswap_at _ q n _ _ k (2 * k + 1) f v M (unhide HM3).lq (by have := unhide HH; omega) (unhide HH) (by omega) (by omega)) ?_
            rintro e w4 ⟨rfl, l4, k4⟩
            have HM4 := hide ((unhide HM3).swap l4 k4)
            have HS4 := hide (down_step (unhide HH) (by omega) (by omega) (unhide HU) (unhide HMIN) (bl_asym hO (unhide HBV _ _)))
            clear l4 k4
            go_wp2_with fail
            go_roundw
            case rel => exact ⟨2 * k + 1, _, by go_num, Or.inl (by have := unhide HH; have := unhide HL; omega), unhide HM4, unhide HS4⟩
            case measure => (have := unhide HK; simp [intOf]; omega)
        | true =>
          have HMIN : Hid (∀ c (hc : c < M.length), 0 < c → (c - 1) / 2 = k → Le lt (M[2 * k + 2]'(by have := unhide HJ2; omega)) M[c]) := hide (fun c hc hc0 hp => by
            have hcc : c = 2 * k + 1 ∨ c = 2 * k + 2 := by omega
            rcases hcc with rfl | rfl
            · exact bl_asym hO (unhide HBV2 _ _)
            · exact Le.rf hO _)
          have HK := HJ
          go_wp2_with fail
          refine Calls.mono (lless_at lt _ q n _ _ (2 * k + 2) k f v M hC (unhide HM2).lq (by have := unhide HK; have := unhide HL; omega) (by have := unhide HK; have := unhide HL; omega) (by omega) (by omega)) ?_
          rintro e w3 ⟨rfl, b3⟩
          have hjj : 2 * k + 2 < M.length := by have := unhide HK; have := unhide HL; omega
          generalize hbv : bl lt M[2 * k + 2] (M[k]'(by omega)) = bv
          have HBV : Hid (∀ (a : 2 * k + 2 < M.length) (b : k < M.length), bl lt M[2 * k + 2] M[k] = bv) := hide (fun _ _ => hbv)
          have HM3 := hide ((unhide HM2).below b3)
          have HH := hide hjj
          clear hbv hjj b3
          cases bv with
          | false =>
            go_wp2_with fail
            go_ret
            refine ⟨_, rfl, M, unhide HM3, down_end (unhide HU) (fun c hc hc0 hp => ?_)⟩
            exact Le.tr hO _ _ _ (unhide HBV (unhide HH) (by have := unhide HH; omega)) (unhide HMIN c hc hc0 hp)
          | true =>
            go_wp2_with fail
            refine Calls.mono (lswap_at _ q n _ _ k (2 * k + 2) f v M (unhide HM3).lq (by have := unhide HH; omega) (unhide HH) (by omega) (by omega)) ?_
            rintro e w4 ⟨rfl, l4, k4⟩
            have HM4 := hide ((unhide HM3).swap l4 k4)
            have HS4 := hide (down_step (unhide HH) (by omega) (by omega) (unhide HU) (unhide HMIN) (bl_asym hO (unhide HBV _ _)))
            clear l4 k4
            go_wp2_with fail
            go_roundw
            case rel => exact ⟨2 * k + 2, _, by go_num, Or.inl (by have := unhide HH; have := unhide HL; omega), unhide HM4, unhide HS4⟩
            case measure => (have := unhide HK; simp [intOf]; omega)
      · have hjI : (L.length : Int) ≤ 2 * (k : Int) + 2 := by omega
        have HJ := hide hj
        clear hb hk hj
        have HMIN : Hid (∀ c (hc : c < M.length), 0 < c → (c - 1) / 2 = k → Le lt (M[2 * k + 1]'(by have := unhide HK; have := unhide HL; omega)) M[c]) := hide (fun c hc hc0 hp => by
          have hcc : c = 2 * k + 1 := by have := unhide HJ; have := unhide HL; omega
          subst hcc
          exact Le.rf hO _)
        go_wp2_with fail
        refine Calls.mono (lless_at lt _ q n _ _ (2 * k + 1) k f v M hC (unhide HM).lq (by have := unhide HK; have := unhide HL; omega) (by have := unhide HK; have := unhide HL; omega) (by omega) (by omega)) ?_
        rintro e w3 ⟨rfl, b3⟩
        have hjj : 2 * k + 1 < M.length := by have := unhide HK; have := unhide HL; omega
        generalize hbv : bl lt M[2 * k + 1] (M[k]'(by omega)) = bv
        have HBV : Hid (∀ (a : 2 * k + 1 < M.length) (b : k < M.length), bl lt M[2 * k + 1] M[k] = bv) := hide (fun _ _ => hbv)
        have HM3 := hide ((unhide HM).below b3)
        have HH := hide hjj
        clear hbv hjj b3
        cases bv with
        | false =>
          go_wp2_with fail
          go_ret
          refine ⟨_, rfl, M, unhide HM3, down_end (unhide HU) (fun c hc hc0 hp => ?_)⟩
          exact Le.tr hO _ _ _ (unhide HBV (unhide HH) (by have := unhide HH; omega)) (unhide HMIN c hc hc0 hp)
        | true =>
          go_wp2_with fail
          refine Calls.mono (lswap_at _ q n _ _ k (2 * k + 1) f v M (unhide HM3).lq (by have := unhide HH; omega) (unhide HH) (by omega) (by omega)) ?_
          rintro e w4 ⟨rfl, l4, k4⟩
          have HM4 := hide ((unhide HM3).swap l4 k4)
          have HS4 := hide (down_step (unhide HH) (by omega) (by omega) (unhide HU) (unhide HMIN) (bl_asym hO (unhide HBV _ _)))
          clear l4 k4
          go_wp2_with fail
          go_roundw
          case rel => exact ⟨2 * k + 1, _, by go_num, Or.inl (by have := unhide HH; have := unhide HL; omega), unhide HM4, unhide HS4⟩
          case measure => (have := unhide HK; simp [intOf]; omega)

theorem heap_up0 {lt : It → It → Bool} {L : List (It × Nat)} (h : HeapL (Le lt) L) : HeapUp (Le lt) L 0 := ⟨fun i hi hi0 _ => h i hi hi0, fun _ _ _ _ h0 => absurd h0 (by omega)⟩

set_option maxRecDepth 20000 in
set_option maxHeartbeats 1000000 in
theorem fix_any (lt : It → It → Bool) (w : World) (q n : Nat) (f v : Value) (L : List (It × Nat)) (hC : LessC f lt) (h : LQ w q f L n v) (hu : HeapDown (Le lt) L 0) :
    Calls Try.prog 37 #[.iface 72 (.pointer (some ⟨q, 0, none⟩)), .int .i64 0] w fun e w' => e = .returned (.tuple #[]) ∧ ∃ L', Mixed w w' q n f v L L' ∧ HeapL (Le lt) L' := by
  have mN := m_len q
  go_enter Try.func37, Try.ntmps37
  go_wp2_with fail
  refine Calls.mono (llen_any _ q n f v L h) ?_
  rintro e w1 ⟨rfl, b1⟩
  have h1 := h.below b1
  have HB := hide b1
  clear b1
  go_wp2_with fail
  refine Calls.mono (down_any lt _ q n f v L hC h1 hu) ?_
  rintro e w2 ⟨b, rfl, M, m2, u2⟩
  have M2 : Mixed w w2 q n f v L M := ⟨m2.lq, m2.perm, (Keep.of_below (unhide HB)).trans m2.keep (fun _ hx => Or.inl hx)⟩
  have HM2 := hide M2
  clear m2 M2 h1
  cases b with
  | true =>
    go_wp2_with fail
    go_end0
    exact ⟨rfl, M, unhide HM2, u2⟩
  | false =>
    go_wp2_with fail
    refine Calls.mono (up_zero _ q) ?_
    rintro e w3 ⟨rfl, rfl⟩
    go_wp2_with fail
    go_end0
    exact ⟨rfl, M, unhide HM2, u2⟩

set_option maxRecDepth 20000 in
set_option maxHeartbeats 1000000 in
theorem hpush_any (lt : It → It → Bool) (w : World) (q n a : Nat) (x : It) (f v : Value) (L : List (It × Nat)) (hC : LessC f lt) (h : LQ w q f L n v) (hh : HeapL (Le lt) L) (hs : (L.length + 1) * 40 ≤ 140737488355328) :
    Calls Try.prog 29 #[.iface 72 (.pointer (some ⟨q, 0, none⟩)), .iface 74 (.agg #[.string x.1, .string x.2, .int .u64 (a : Int)])] w fun e w' => e = .returned (.tuple #[]) ∧ ∃ L' v', LQ w' q f L' n v' ∧ L'.Perm (L ++ [(x, a)]) ∧ HeapL (Le lt) L' ∧ Moves (QF q v) (QF q v') w w' := by
  have mN := m_len q
  have mP := m_push q
  have hb : (L.length : Int) + 1 ≤ 4611686018427387904 := by omega
  have HS := hide hs
  clear hs
  go_enter Try.func29, Try.ntmps29
  go_wp2_with fail
  refine Calls.mono (lpush_any _ q n a x f v L h (unhide HS)) ?_
  rintro e w1 ⟨rfl, v1, l1, m1⟩
  have HM1 := hide m1
  clear m1 h
  go_wp2_with fail
  refine Calls.mono (llen_any _ q n f v1 _ l1) ?_
  rintro e w2 ⟨rfl, b2⟩
  have l2 := l1.below b2
  have HB := hide b2
  have hU := up_start (R := Le lt) (x, a) hh
  have hl : (L ++ [(x, a)]).length = L.length + 1 := by simp
  rw [hl]
  clear b2 l1
  go_wp2_with fail
  refine Calls.mono (up_any lt _ q n L.length f v1 _ hC l2 (by omega) hU) ?_
  rintro e w3 ⟨rfl, M, m3, u3⟩
  have HF : Hid (LQ w3 q f M n v1 ∧ M.Perm (L ++ [(x, a)]) ∧ HeapL (Le lt) M ∧ Moves (QF q v) (QF q v1) w w3) := hide ⟨m3.lq, m3.perm, u3, (unhide HM1).trans ⟨(Keep.of_below (unhide HB)).trans m3.keep (fun _ hx => Or.inl hx), fun _ hx => Or.inl hx⟩⟩
  clear m3 u3 l2 hU
  go_wp2_with fail
  go_end0
  exact ⟨rfl, M, v1, unhide HF⟩
end Go.Proofs.Ytbccdaeejlkmcaa.K2

/- The landed package queue: add and drop. -/
namespace Go.Proofs.Ytbccdaeejlkmcaa.K2
open Go.RowKit

theorem LQ.tick {w : World} {q n : Nat} {f v : Value} {L : List (It × Nat)} (h : LQ w q f L n v) : LQ (w.setCell ⟨q, 2, none⟩ (.int .u64 ((n : Int) + 1))) q f L (n + 1) v ∧ Keep (fun k => k = q) w (w.setCell ⟨q, 2, none⟩ (.int .u64 ((n : Int) + 1))) := by
  have b2 := heap_setCell_same w q 2 _ _ (.int .u64 ((n : Int) + 1)) h.blk
  have K : Keep (fun k => k = q) w (w.setCell ⟨q, 2, none⟩ (.int .u64 ((n : Int) + 1))) := ⟨rfl, rfl, rfl, by simp [World.setCell], fun k _ hk => heap_setCell_other w ⟨q, 2, none⟩ k _ (fun e => hk (by simp at e; exact e.symm ▸ rfl))⟩
  refine ⟨⟨by rw [b2, Int.natCast_add]; rfl, owns_keep h.row K (fun k hk e => h.own (e ▸ hk)), h.own, h.small⟩, K⟩

theorem caught_add (w : World) : CallsD Try.prog 30 #[] .returning w fun e u' w' => e = .returned (.tuple #[]) ∧ u' = .returning ∧ w' = w := by
  refine callsD_of_wpS Try.func30 rfl fun c₀ cs hu => ?_
  apply wpS_region
  simp [wpOpsS, go_sem, recoverD, hu, Try.ntmps30]
  cases c₀
  simp_all [bodyPostS, results, Try.results30]
theorem caught_drop (w : World) : CallsD Try.prog 39 #[] .returning w fun e u' w' => e = .returned (.tuple #[]) ∧ u' = .returning ∧ w' = w := by
  refine callsD_of_wpS Try.func39 rfl fun c₀ cs hu => ?_
  apply wpS_region
  simp [wpOpsS, go_sem, recoverD, hu, Try.ntmps39]
  cases c₀
  simp_all [bodyPostS, results, Try.results39]

/-- A queue in memory: its blocks F, what less it has, what it stands for, how many were pushed. -/
structure QAt (F : Nat → Prop) (w : World) (q : Nat) (f : Value) (lt : It → It → Bool) (Z : List It) (n : Nat) : Prop where
  less : LessC f lt
  all : ∃ L v, LQ w q f L n v ∧ QP lt L Z n ∧ ∀ k, F k ↔ QF q v k

set_option maxRecDepth 20000 in
set_option maxHeartbeats 1000000 in
theorem add_any (lt : It → It → Bool) (F : Nat → Prop) (w : World) (q n : Nat) (x : It) (f : Value) (Z : List It) (h : QAt F w q f lt Z n) (hs : (Z.length + 1) * 40 ≤ 140737488355328) (hn : n < 4611686018427387904) :
    Calls Try.prog 19 #[.pointer (some ⟨q, 0, none⟩), .agg #[.string x.1, .string x.2]] w fun e w' => e = .returned (.tuple #[]) ∧ ∃ F', QAt F' w' q f lt (ins lt x Z) (n + 1) ∧ Moves F F' w w' := by
  obtain ⟨hC, L, v, hL, hQ, hF⟩ := h
  obtain ⟨p, cap, rfl, k0, k1, k2⟩ := hL.shape
  obtain ⟨c0, c1, c2, fz⟩ := hL.cells
  have hlen := hQ.length
  have hql : q < w.heap.size := hL.lt q (Or.inl rfl)
  have n1 : ¬ w.heap.size = q := by omega
  have n2 : ¬ w.heap.size + 1 = q := by omega
  have hnI : (n : Int) ≤ 4611686018427387904 := by omega
  have hf2 := fz 2
  have hb0 : ∀ (W : World) (a b : Obj), Below W.heap.size W ((W.alloc a).alloc b).drew := fun W a b => (((Below.refl _ _).alloc (Nat.le_refl _) _).alloc (by simp) _).drew
  obtain ⟨t1, t2⟩ := hL.tick
  have H : Hid (LQ ((((w.setCell ⟨q, 2, none⟩ (.int .u64 ((n : Int) + 1))).alloc (.cells #[.string x.1, .string x.2] 28)).alloc (.cells #[.string x.1, .string x.2, .int .u64 (n : Int)] 74)).drew) q f L (n + 1) (.slice p L.length cap) ∧ Keep F w ((((w.setCell ⟨q, 2, none⟩ (.int .u64 ((n : Int) + 1))).alloc (.cells #[.string x.1, .string x.2] 28)).alloc (.cells #[.string x.1, .string x.2, .int .u64 (n : Int)] 74)).drew)) :=
    hide ⟨t1.below (hb0 _ _ _), (t2.trans (Keep.of_below (F := fun _ => False) (hb0 _ _ _)) (fun _ h => h.elim)).weak (fun k hk => (hF k).2 (Or.inl hk))⟩
  clear t1 t2
  have HS := hide hs
  have HQ := hide hQ
  have HF := hide hF
  have HLEN := hide hlen
  clear hL hb0 hs hQ hF k0 k1 k2 c0 c1 fz hn hlen
  go_enter_defers Try.func19, Try.ntmps19
  go_wp2_with fail
  go_region
  go_wp2_with fail
  refine Calls.mono (hpush_any lt _ q (n + 1) n x f _ L hC (unhide H).1 (unhide HQ).heap (by rw [unhide HLEN]; exact unhide HS)) ?_
  rintro e w1 ⟨rfl, M, v1, l1, p1, u1, m1⟩
  have HE : Hid (∃ F', QAt F' w1 q f lt (ins lt x Z) (n + 1) ∧ Moves F F' w w1) := hide ⟨QF q v1, ⟨hC, M, v1, l1, (unhide HQ).push hC.ord x p1 u1, fun _ => Iff.rfl⟩,
    ⟨(unhide H).2.trans m1.keep (fun k hk => Or.inl ((unhide HF k).2 hk)), fun k hk => by
      rcases m1.sub k hk with h | h
      · exact Or.inl ((unhide HF k).2 h)
      · exact Or.inr (Nat.le_trans (unhide H).2.size h)⟩⟩
  clear l1 p1 u1 m1
  go_wp2_with fail
  refine leaves_cons (f := 30) (args := #[]) (by simp) (by simp [go_sem]) ?_
  refine (caught_add _).mono ?_
  rintro e u' w'' ⟨rfl, rfl, rfl⟩
  simp [Leaves, settle, results, Try.results19, go_sem]
  exact unhide HE

set_option maxRecDepth 20000 in
set_option maxHeartbeats 1000000 in
theorem drop_any (lt : It → It → Bool) (F : Nat → Prop) (w : World) (q n : Nat) (z : It) (f : Value) (Z : List It) (h : QAt F w q f lt (z :: Z) n) :
    Calls Try.prog 24 #[.pointer (some ⟨q, 0, none⟩)] w fun e w' => e = .returned (.tuple #[]) ∧ ∃ F', QAt F' w' q f lt Z n ∧ Moves F F' w w' := by
  obtain ⟨hC, L, v, hL, hQ, hF⟩ := h
  have hlen := hQ.length
  have h0 : 0 < L.length := by rw [hlen]; simp
  have hsm := hL.small
  have hb : (L.length : Int) ≤ 4611686018427387904 := by omega
  have HQ := hide hQ
  have HF := hide hF
  have HLEN := hide hlen
  have HL := hide hL
  have H0 := hide h0
  clear hL hQ hF hsm hlen h0
  go_enter_defers Try.func24, Try.ntmps24
  go_wp2_with fail
  refine Calls.mono (llen_any _ q n f v L (unhide HL)) ?_
  rintro e w1 ⟨rfl, b1⟩
  have HL1 := hide ((unhide HL).below b1)
  have HB1 := hide b1
  clear b1
  go_wp2_with fail
  refine Calls.mono (lswap_at _ q n _ _ 0 (L.length - 1) f v L (unhide HL1) (unhide H0) (by have := unhide H0; omega) rfl (by have := unhide H0; omega)) ?_
  rintro e w2 ⟨rfl, l2, k2⟩
  have HL2 := hide l2
  have HK2 := hide k2
  clear l2 k2
  go_wp2_with fail
  refine Calls.mono (lpop_any _ q n f v _ (unhide HL2) (by rw [length_sw]; exact unhide H0)) ?_
  rintro e w3 ⟨r, v3, rfl, l3, m3⟩
  have l3' : LQ w3 q f (dropF L (unhide H0)) n v3 := by
    rw [length_sw] at l3
    exact l3
  have HL3 := hide l3'
  have HM3 := hide m3
  clear l3 m3 l3'
  go_wp2_with fail
  refine Calls.mono (fix_any lt _ q n f v3 _ hC (unhide HL3) (down_start (unhide HQ).heap (unhide H0))) ?_
  rintro e w4 ⟨rfl, M, m4, u4⟩
  have HE : Hid (∃ F', QAt F' w4 q f lt Z n ∧ Moves F F' w w4) := hide ⟨QF q v3, ⟨hC, M, v3, m4.lq, (unhide HQ).pop hC.ord (unhide H0) m4.perm u4, fun _ => Iff.rfl⟩, by
    have k1 : Keep F w w1 := Keep.of_below (unhide HB1)
    have k2 : Keep F w w2 := k1.trans (unhide HK2) (fun k hk => Or.inl ((unhide HF k).2 (Or.inr hk)))
    have k3 : Keep F w w3 := k2.trans (unhide HM3).keep (fun k hk => Or.inl ((unhide HF k).2 hk))
    have hsub : ∀ k, QF q v3 k → F k ∨ w.heap.size ≤ k := fun k hk => by
      rcases (unhide HM3).sub k hk with h | h
      · exact Or.inl ((unhide HF k).2 h)
      · exact Or.inr (Nat.le_trans k2.size h)
    exact ⟨k3.trans m4.keep hsub, hsub⟩⟩
  clear m4 u4
  go_wp2_with fail
  refine leaves_cons (f := 39) (args := #[]) (by simp) (by simp [go_sem]) ?_
  refine (caught_drop _).mono ?_
  rintro e u' w'' ⟨rfl, rfl, rfl⟩
  simp [Leaves, settle, results, Try.results24, go_sem]
  exact unhide HE
end Go.Proofs.Ytbccdaeejlkmcaa.K2
