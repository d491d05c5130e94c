/- ThreadNothing. -/
import Derived.Test.YtegefnchkgkmgabG10
import Derived.Test.YtegefnchkgkmgabG20
import Derived.Test.YtegefnchkgkmgabG22
import Derived.Test.YtegefnchkgkmgabG23
namespace Go.Proofs.Ytegefnchkgkmgab
open Go.RowKit

theorem Try.infoIntN : (Try.prog.info? 3).map (fun i => (i.zero, i.size, i.bytes)) = some (some (.int .i64 0), 1, 8) := by kernel_rfl
theorem fourteen (x : Int) : ∃ q : Nat, wrap64 ((IntKind.u64.wrap x).tmod 14) = (q : Int) ∧ q < 14 := by
  have h0 : 0 ≤ IntKind.u64.wrap x := by rw [IntKind.wrap_u64]; omega
  refine ⟨(IntKind.u64.wrap x % 14).toNat, ?_, by omega⟩
  rw [Int.tmod_eq_emod_of_nonneg h0]
  have h1 : 0 ≤ IntKind.u64.wrap x % 14 := by omega
  have h2 : IntKind.u64.wrap x % 14 < 14 := by omega
  generalize IntKind.u64.wrap x % 14 = y at *
  unfold wrap64
  omega

set_option maxRecDepth 20000 in
set_option maxHeartbeats 2000000 in
theorem nothing_any (hA : AskC) (x : Int) (v : Value) (steps : List Int) (w : World) (hv : VRow w v (Iw steps)) (hl : steps.length < 35184372088832) :
    Calls Try.prog 3 #[.int .i64 x, v] w fun e w' => e = .returned (.bool true) ∧ Below w.heap.size w w' := by
  obtain ⟨q, hq, hq2⟩ := fourteen x
  have hqw : IntKind.i64.wrap (1 + (q : Int)) = 1 + (q : Int) := by rw [IntKind.wrap_i64]; omega
  obtain ⟨n, hn⟩ : ∃ n : Nat, n = 1 + q := ⟨_, rfl⟩
  have hnq : 1 + (q : Int) = (n : Int) := by rw [hn]; rfl
  have hn1 : 0 < n ∧ n ≤ 14 := by omega
  rw [hnq] at hqw
  have HRG := hide (lring_any v steps n w hv hl hn1.1 (by omega))
  obtain ⟨a, cap, rfl, g1, g2, g3⟩ := hv.shape
  have hlr : (Iw steps).length = steps.length := by simp
  rw [hlr] at HRG ⊢
  have HN := hide hn1
  obtain ⟨st, hst⟩ : ∃ st, st = steps.take 3 := ⟨_, rfl⟩
  have hsl : st.length = min 3 steps.length := by rw [hst, List.length_take]
  rw [← hst] at HRG
  obtain ⟨p, hp⟩ : ∃ p, p = st.length := ⟨_, rfl⟩
  have HP := hide (show p = st.length ∧ p ≤ 3 ∧ p = min 3 steps.length by omega)
  clear hv hl g1 g2 g3 hlr hst hsl hp hn hn1 hq2
  go_enter Try.func3, Try.ntmps3
  go_wp2_with fail
  try rw [hnq]
  refine Calls.mono (unhide HRG) ?_
  rintro e w1 ⟨r, rfl, hr, b1⟩
  obtain ⟨pr, cr, rfl⟩ := ownsV_shape hr
  have HR := hide (vrow_of_owns (vs := Uw (rgW n st)) (s := .slice pr (rgW n st).length cr) (by simpa [Uw] using hr))
  have HB1 := hide b1
  clear hr b1 HRG
  go_wp2_with fail
  rw [show Value.int .i64 (2 + min (steps.length : Int) 3) = Value.int .i64 (2 + (p : Int)) by have := unhide HP; congr 1; omega]
  all_goals
    obtain ⟨i4, hi4, hy0, hy1, hy2⟩ := info_parts Try.infoIntN
    go_loopw [7, 8] (fun o i wr => ∃ k : Nat, k ≤ n ∧ i = .int .i64 (k : Int) ∧ wr.ownsRow w1.heap.size 3 1 o k (Iw (rgR k p)) ∧ Below w1.heap.size w1 wr) (fun _ i _ => n - (intOf i).toNat)
    case atStart => exact ⟨0, Nat.zero_le _, rfl, World.ownsRow_nil _ _ _ _, Below.refl _ w1⟩
    case round =>
      obtain ⟨k, hk, rfl, hown, hb⟩ := hrel
      rename World => wr
      obtain ⟨pv, cv, rfl⟩ := ownsV_shape hown
      by_cases hlt : k < n
      · have hkI : (k : Int) < (n : Int) := by omega
        have hn14 := (unhide HN).2
        have hp3 := (unhide HP).2.1
        obtain ⟨z, hz⟩ : ∃ z : Nat, z = k * (2 + p) := ⟨_, rfl⟩
        have hzb : z ≤ 200 := by
          have h1 : k * (2 + p) ≤ 40 * 5 := Nat.mul_le_mul (by omega) (by omega)
          omega
        have hzI : (k : Int) * (2 + (p : Int)) = (z : Int) := by rw [hz, Int.natCast_mul]; rfl
        have hnw : IntKind.i64.wrap ((k : Int) + 1) = (k : Int) + 1 := by rw [IntKind.wrap_i64]; omega
        have hw4 : IntKind.i64.wrap (z : Int) = (z : Int) := by rw [IntKind.wrap_i64]; omega
        have hw5 : IntKind.i64.wrap (1 + (z : Int)) = 1 + (z : Int) := by rw [IntKind.wrap_i64]; omega
        have hbW : Below wr.heap.size wr (wr.alloc (.cells #[.int .i64 (1 + (z : Int))] 3)) := (Below.refl _ wr).alloc (Nat.le_refl _) _
        have HOX := hide (show (wr.alloc (.cells #[.int .i64 (1 + (z : Int))] 3)).ownsRow w1.heap.size 3 1 (.slice pv k cv) k (Iw (rgR k p)) from ownsV_keep (F := fun _ => False) hown (Keep.of_below hbW) (fun _ _ => id))
        have HBX := hide (hb.trans (hbW.mono hb.size))
        have HLT := hide (show k + 1 ≤ n ∧ k < 14 by omega)
        have HZ := hide hz
        clear hown hb hlt hk hbW hz hzb hn14 hp3
        go_wp2_with (first
          | (at_builtin; refine wpList_append_gen rfl _ _ 22 rfl w1.heap.size 3 i4 (.int .i64 0) Try.underlying22 hi4 hy0 1 8 (by omega) hy1 hy2 rfl (.slice pv k cv) k (Iw (rgR k p)) rfl (unhide HOX) ⟨wr.heap.size, 0, none⟩ 1 1 [.int .i64 (1 + (z : Int))] rfl rfl (by intro j u hj; match j, hj with | 0, hj => (simp at hj; subst hj; simp [Addr.add])) (by intro u hu; simp at hu; subst hu; rfl) (by have := (unhide HLT).2; unfold maxLen; simp; omega) (by have := (unhide HLT).2; simp; omega) (unhide HBX).size ?_))
        intro v4 w4 hown4 hgrow4 hob4
        have hb4 := (unhide HBX).grown hgrow4 (unhide HBX).size (fun k e => ((unhide HOX).lt k e).1)
        have HJ := hide (And.intro hown4 hb4)
        clear hown4 hgrow4 hob4 hb4
        go_wp2_with fail
        go_roundw
        case rel =>
          refine ⟨k + 1, (unhide HLT).1, by go_num, ?_, (unhide HJ).2⟩
          have h1 := (unhide HJ).1
          have e5 : Iw (rgR (k + 1) p) = Iw (rgR k p) ++ [.int .i64 (1 + (z : Int))] := by
            unfold rgR
            rw [List.range_succ, List.map_append, List.map_cons, List.map_nil, ← unhide HZ, Iw, List.map_append]
            rfl
          rw [e5]
          simpa using h1
        case measure => (have := (unhide HLT).1; simp [intOf]; omega)
      · have hke : k = n := by omega
        subst hke
        have HVR := hide (vrow_of_owns (vs := Iw (rgR k p)) (s := .slice pv k cv) (by simpa [rgR] using hown))
        have HVW := hide ((unhide HR).below hb)
        have HBB := hide ((unhide HB1).trans (hb.mono (unhide HB1).size))
        have hkk : ¬ (k : Int) < (k : Int) := by omega
        have hn0 := (unhide HN).1
        have hn14 := (unhide HN).2
        have hps := (unhide HP).1
        have hp3 := (unhide HP).2.1
        have hs3 : st.length ≤ 3 := by omega
        obtain ⟨z, hz⟩ : ∃ z : Nat, z = k * (2 + p) := ⟨_, rfl⟩
        have hzb : z ≤ 200 := by
          have h1 : k * (2 + p) ≤ 40 * 5 := Nat.mul_le_mul (by omega) (by omega)
          omega
        have hzI : (k : Int) * (2 + (p : Int)) = (z : Int) := by rw [hz, Int.natCast_mul]; rfl
        have hw4 : IntKind.i64.wrap (z : Int) = (z : Int) := by rw [IntKind.wrap_i64]; omega
        have hw5 : IntKind.i64.wrap (1 + (z : Int)) = 1 + (z : Int) := by rw [IntKind.wrap_i64]; omega
        have hlw : (rgW k st).length = 1 + z := by rw [rg_len hs3, ← hps, hz]
        have HU := hide (rg_u32 (n := k) (st := st) (by omega))
        have HNO := hide (fun l (h : LivD (rgW k st) [] l) => rg_none hn0 (by omega) hs3 h)
        have HAL := hide (fun l (h : LivD (rgW k st) (rgR k p) l) => rg_all hn0 hn14 hs3 (by rw [← hps]; exact h))
        rw [← hps] at HAL
        rw [hlw] at HVW ⊢
        have HLW := hide hlw
        have hrl : (rgR k p).length = k := by unfold rgR; simp
        have HRL := hide hrl
        obtain ⟨wsg, hwsg⟩ : ∃ u, u = rgW k st := ⟨_, rfl⟩
        rw [← hwsg] at HVW HU HNO HAL HLW
        obtain ⟨rsg, hrsg⟩ : ∃ u, u = rgR k p := ⟨_, rfl⟩
        rw [← hrsg] at HVR HAL HRL
        have h1z : (1 + (z : Int) == 1 + (z : Int)) = true := by simp
        have HZB := hide hzb
        clear hk hlt hown hb HR HB1 hn0 hn14 hps hp3 hs3 hz hzb hlw hrl hwsg hrsg
        go_wp2_with fail
        refine Calls.mono (lawake15_any hA wr) ?_
        rintro e w5 ⟨rfl, b5⟩
        have HVR5 := hide ((unhide HVR).below b5)
        have HVW5 := hide ((unhide HVW).below b5)
        have HB5 := hide ((unhide HBB).trans (b5.mono (unhide HBB).size))
        clear b5 HVR HVW HBB
        go_wp2_with fail
        refine Calls.mono (hA _ _ wsg [] w5 (unhide HVW5) (VRow.nil _) (unhide HU) (by have := unhide HLW; have := unhide HZB; omega) (by simp)) ?_
        rintro e w6 ⟨vo, vr, vp, l, rfl, hli, ⟨ho, hr, hp⟩, b6⟩
        obtain ⟨n1, n2, n3, n4⟩ := unhide HNO l hli
        rw [n1, show chkE true = 0 from rfl]
        rw [n2] at ho
        rw [n3] at hr
        rw [n4] at hp
        obtain ⟨po, co, rfl⟩ := ownsV_shape ho
        obtain ⟨pr6, cr6, rfl⟩ := ownsV_shape hr
        obtain ⟨pp, cp, rfl⟩ := ownsV_shape hp
        have hvo := vrow_of_owns (vs := Uw [0]) (s := .slice po 1 co) ho
        have HVO := hide hvo
        have HVR6 := hide ((unhide HVR5).below b6)
        have HVW6 := hide ((unhide HVW5).below b6)
        have HB6 := hide ((unhide HB5).trans (b6.mono (unhide HB5).size))
        clear b6 HVR5 HVW5 HB5 ho hr hp hli n1 n2 n3 n4 hvo
        go_wp2_with fail
        refine Calls.mono (hA _ _ wsg rsg w6 (unhide HVW6) (unhide HVR6) (unhide HU) (by have := unhide HLW; have := unhide HZB; omega) (by rw [unhide HRL]; have := (unhide HN).2; omega)) ?_
        rintro e w7 ⟨vo7, vr7, vp7, l7, rfl, hli, ⟨ho, hr, hp⟩, b7⟩
        obtain ⟨n1, n2, n3, n4⟩ := unhide HAL l7 hli
        rw [n1, show chkE true = 0 from rfl]
        rw [n2, unhide HLW] at ho
        rw [n3, unhide HRL] at hr
        rw [n4] at hp
        obtain ⟨po7, co7, rfl⟩ := ownsV_shape ho
        obtain ⟨pr7, cr7, rfl⟩ := ownsV_shape hr
        obtain ⟨pp7, cp7, rfl⟩ := ownsV_shape hp
        have HY := hide (vrow_of_owns (vs := Uw wsg) (s := .slice po7 (1 + z) co7) (by simpa [Uw, unhide HLW] using ho))
        have HS := hide (vrow_of_owns (vs := Iw rsg) (s := .slice pr7 k cr7) (by simpa [Iw, unhide HRL] using hr))
        obtain ⟨bo, of1, cx, e0, _, _, hcl⟩ := ((unhide HVO).below b7).open (by simp [Uw])
        simp only [Value.slice.injEq, List.length_map, Uw] at e0
        obtain ⟨rfl, e1, rfl⟩ := e0
        have hc0 := hcl 0 (.int .u32 0) (by simp [Uw])
        simp only [Nat.add_zero] at hc0
        have HVR7 := hide ((unhide HVR6).below b7)
        have HVW7 := hide ((unhide HVW6).below b7)
        have HB7 := hide ((unhide HB6).trans (b7.mono (unhide HB6).size))
        clear b7 HVR6 HVW6 HB6 ho hr hp hli n1 n2 n3 n4 HVO hcl e1
        go_wp2_with fail
        refine Calls.mono (HU32.plain_any _ _ wsg w7 (unhide HY) (unhide HVW7)) ?_
        rintro e w8 ⟨rfl, b8⟩
        have HVR8 := hide ((unhide HVR7).below b8)
        have HS8 := hide ((unhide HS).below b8)
        have HB8 := hide ((unhide HB7).trans (b8.mono (unhide HB7).size))
        clear b8 HVR7 HS HB7 hc0
        go_wp2_with fail
        refine Calls.mono (HInt.plain_any _ _ rsg w8 (unhide HS8) (unhide HVR8)) ?_
        rintro e w9 ⟨rfl, b9⟩
        have HB9 := hide ((unhide HB8).trans (b9.mono (unhide HB8).size))
        clear b9 HVR8 HS8 HB8
        go_wp2_with fail
        go_ret
        exact ⟨rfl, unhide HB9⟩

theorem walk_ThreadNothing (a0 : Int) (_ : (Lit.int .i64 a0).wf = true) (s1 : Value) (d1 : Dt) (w : World) (h1 : Reads limSaid w (.row 8 (.int .i64)) [s1] d1) :
    Calls Try.prog 3 #[.int .i64 a0, s1] w fun e w' => e = .returned (.bool true) ∧ Below w.heap.size w w' := by
  obtain ⟨rs, r1, l1, u1⟩ := nums_of_reads h1
  unfold limSaid reachBytes at l1
  exact nothing_any askC a0 s1 rs w r1 (by omega)
end Go.Proofs.Ytegefnchkgkmgab
