/- Texts of ours, one behind the other: ThNoP, ThRgP, ThLawRing. -/
import Derived.Test.YtegefnchkgkmgaaG4
import Derived.Test.YtegefnchkgkmgaaG5
import Derived.Test.YtegefnchkgkmgaaG10
import Derived.Test.YtegefnchkgkmgaaG14
import Derived.Test.YtegefnchkgkmgaaG30
import Derived.Test.YtegefnchkgkmgaaG32
/- A ring without roots, and a ring of which each object is a root; nothing here speaks of the program. -/
namespace Go.Proofs.Ytegefnchkgkmgaa
open Go.RowKit

theorem right_ends {ws rs : List Int} (h : rightB ws rs = true) : 1 ≤ ws.length ∧ wd ws 0 = 0 ∧ endO (obs ws 1) = ws.length := by
  unfold rightB heapB at h
  simp only [Bool.and_eq_true, decide_eq_true_eq] at h
  exact ⟨h.1.1.1.1, h.1.1.2, h.2.1.1⟩
theorem none_live {ws l : List Int} (h : LivD ws [] l) : l = [] := by
  cases hb : rightB ws [] with
  | false => exact h.2 hb
  | true =>
    refine List.eq_nil_iff_forall_not_mem.2 fun a ha => ?_
    exact ((h.1 hb).2 a).1 ha (fun _ => False) (fun r hr _ => by cases hr) (fun b hb _ _ _ => hb)
theorem rg_none {n : Nat} {st l : List Int} (hn : 0 < n) (hn2 : n ≤ 40) (hs : st.length ≤ 3) (h : LivD (rgW n st) [] l) :
    rightB (rgW n st) [] = true ∧ outW (rgW n st) [] l = [0] ∧ outR (rgW n st) [] l = [] ∧ outP (rgW n st) [] l = [] := by
  have hR := rg_right (rs := []) hn hn2 hs (by simp) (fun r hr => by cases hr)
  have hl := none_live h
  subst hl
  refine ⟨hR, ?_, ?_, ?_⟩
  · unfold outW; rw [if_pos hR]; rfl
  · unfold outR; rw [if_pos hR]; rfl
  · unfold outP; rw [if_pos hR]; rfl
/-- The places of all objects of a ring. -/
def rgR (n p : Nat) : List Int := (List.range n).map fun i => ((1 + i * (2 + p) : Nat) : Int)
theorem rg_all {n : Nat} {st l : List Int} (hn : 0 < n) (hn2 : n ≤ 14) (hs : st.length ≤ 3) (h : LivD (rgW n st) (rgR n st.length) l) :
    rightB (rgW n st) (rgR n st.length) = true ∧ outW (rgW n st) (rgR n st.length) l = rgW n st ∧ outR (rgW n st) (rgR n st.length) l = rgR n st.length ∧ (outP (rgW n st) (rgR n st.length) l).length = n := by
  have hO : ∀ r ∈ rgR n st.length, isOb (rgW n st) r := fun r hr => by
    obtain ⟨i, hi, rfl⟩ := List.mem_map.1 hr
    exact (rg_ob (by omega) hs).2 ⟨i, List.mem_range.1 hi, rfl⟩
  have hR := rg_right (rs := rgR n st.length) hn (by omega) hs (by unfold rgR; simp; omega) (fun r hr => Or.inr (hO r hr))
  have hli := h.1 hR
  have hL := Liv.of (rg_u32 (by omega)) hR hli
  have hro : ∀ r ∈ rgR n st.length, r ∈ l := fun r hr => (hli.2 r).2 (.root hr (by have := (hO r hr).1; omega))
  have ha : ∀ x ∈ obs (rgW n st) 1, (x.1 : Int) ∈ l := fun x hx => by
    rw [rg_obs1 (by omega) hs] at hx
    obtain ⟨j, hj, rfl⟩ := List.mem_map.1 hx
    exact hro _ (List.mem_map.2 ⟨j, hj, rfl⟩)
  obtain ⟨h1, h2, h3⟩ := right_ends hR
  have hlen : l.length = n := by
    rw [all_is hL ha, List.length_map, rg_obs1 (by omega) hs, List.length_map, List.length_range]
  refine ⟨hR, ?_, ?_, ?_⟩
  · unfold outW; rw [if_pos hR]; exact cW_all hL ha h2 h1 h3
  · unfold outR cR
    rw [if_pos hR]
    conv => rhs; rw [← List.map_id (rgR n st.length)]
    exact List.map_congr_left fun r hr => all_to hL ha (Or.inr (hro r hr))
  · unfold outP posL; rw [if_pos hR, List.length_map, hlen]
end Go.Proofs.Ytegefnchkgkmgaa

/- A ring compacted for one of its objects, as plain data; nothing here speaks of the program. -/
namespace Go.Proofs.Ytegefnchkgkmgaa
open Go.RowKit

theorem rg_szA {n : Nat} {st : List Int} (hn2 : n ≤ 40) (hs : st.length ≤ 3) {a : Int} (h : isOb (rgW n st) a) : szA (rgW n st) a = 2 + st.length := by
  obtain ⟨i, hi, rfl⟩ := (rg_ob hn2 hs).1 h
  unfold szA
  rw [Int.toNat_natCast, (rg_at hi hn2 hs).2.1, (rgH_parts hs).2.2.1]
theorem rg_sums {n : Nat} {st : List Int} (hn2 : n ≤ 40) (hs : st.length ≤ 3) : ∀ {M : List Int}, (∀ a ∈ M, isOb (rgW n st) a) → sums (rgW n st) M = M.length * (2 + st.length)
  | [], _ => by simp [sums]
  | a :: M, h => by
    have h1 := rg_sums hn2 hs (M := M) (fun x hx => h x (List.mem_cons_of_mem _ hx))
    simp only [sums]
    rw [h1, rg_szA hn2 hs (h a (List.mem_cons_self ..)), List.length_cons, Nat.succ_mul]
    omega
theorem rings_of {n j : Nat} {st l : List Int} {a0 : Int} (hn : 0 < n) (hn2 : n ≤ 40) (hs : st.length ≤ 3) (hj : j < n) (ha : a0 = ((1 + j * (2 + st.length) : Nat) : Int)) (h : LivD (rgW n st) [a0, a0, 0] l) :
    rightB (rgW n st) [a0, a0, 0] = true ∧ Rts (rgW n st) [a0, a0, 0] l ∧ a0 ∈ l ∧ (cW (rgW n st) l).length = 1 + l.length * (2 + st.length) ∧ (∀ i (hi : i < l.length), toA (rgW n st) l l[i] = ((1 + i * (2 + st.length) : Nat) : Int)) ∧ (∀ a ∈ l, ∀ p ∈ ptsA (rgW n st) a, 0 < toA (rgW n st) l p) ∧ 0 < toA (rgW n st) l a0 := by
  have hO : isOb (rgW n st) a0 := (rg_ob hn2 hs).2 ⟨j, hj, ha⟩
  have hR := rg_right (rs := [a0, a0, 0]) hn hn2 hs (by simp) (fun r hr => by
    simp only [List.mem_cons, List.not_mem_nil, or_false] at hr
    rcases hr with rfl | rfl | rfl
    · exact Or.inr hO
    · exact Or.inr hO
    · exact Or.inl rfl)
  have hli := h.1 hR
  have hRt := rts_live (rg_u32 hn2) hR hli
  have ha0 : a0 ∈ l := (hli.2 a0).2 (.root (by simp) (by have := hO.1; omega))
  refine ⟨hR, hRt, ha0, ?_, fun i hi => ?_, fun a hal p hp => ?_, (hRt.toLiv.to ha0).1⟩
  · rw [cW_len hRt.toLiv, rg_sums hn2 hs hRt.ob]
  · have hsp : l = l.take i ++ l[i] :: l.drop (i + 1) := by rw [← List.drop_eq_getElem_cons hi, List.take_append_drop]
    have hat := hRt.toLiv.at hsp
    rw [hat, rg_sums hn2 hs (fun a ha => hRt.ob a (List.mem_of_mem_take ha)), List.length_take, Nat.min_eq_left (by omega)]
  · obtain ⟨i, hi, rfl⟩ := (rg_ob hn2 hs).1 (hRt.ob a hal)
    rw [(rg_at hi hn2 hs).2.2.1] at hp
    obtain ⟨q, _, _, hq, _⟩ := rgP_bound hn hn2 hs p hp
    have hc := hRt.closed _ hal p (by rw [(rg_at hi hn2 hs).2.2.1]; exact hp)
    exact (hRt.toLiv.to (hc.resolve_left (by omega))).1
end Go.Proofs.Ytegefnchkgkmgaa

/- The statements' own ring of layer 15. -/
namespace Go.Proofs.Ytegefnchkgkmgaa
open Go.RowKit

theorem Try.infoU32r : (Try.prog.info? 25).map (fun i => (i.zero, i.size, i.bytes)) = some (some (.int .u32 0), 1, 4) := by kernel_rfl
theorem own_word15 (w : World) : (w.alloc (.cells #[.int .u32 0] 25)).ownsRow w.heap.size 25 1 (.slice (some ⟨w.heap.size, 0, none⟩) 1 1) 1 (Uw [0]) :=
  ⟨rfl, Or.inr ⟨w.heap.size, 1, _, rfl, Nat.le_refl _, World.alloc_heap_new w _, Nat.le_refl _, by unfold maxLen; omega, rfl, rfl⟩⟩
theorem step_mod (x : Int) (n : Nat) (h : 0 < n) (hn : n ≤ 40) : wrap64 ((IntKind.u64.wrap x).tmod (n : Int)) = (stpN n x : Int) := by
  have h0 : 0 ≤ IntKind.u64.wrap x := by rw [IntKind.wrap_u64]; omega
  have h1 := Int.emod_nonneg (IntKind.u64.wrap x) (show (n : Int) ≠ 0 by omega)
  have h2 := Int.emod_lt_of_pos (IntKind.u64.wrap x) (show (0 : Int) < n by omega)
  unfold stpN
  rw [Int.tmod_eq_emod_of_nonneg h0]
  generalize IntKind.u64.wrap x % (n : Int) = y at *
  unfold wrap64
  omega

set_option maxRecDepth 20000 in
set_option maxHeartbeats 2000000 in
theorem lring_any (v : Value) (steps : List Int) (n : Nat) (w : World) (hv : VRow w v (Iw steps)) (hl : steps.length < 35184372088832) (hn : 0 < n) (hn2 : n ≤ 40) :
    Calls Try.prog 27 #[.int .i64 (n : Int), v] w fun e w' => ∃ r, e = .returned r ∧ w'.ownsRow w.heap.size 25 1 r (rgW n (steps.take 3)).length (Uw (rgW n (steps.take 3))) ∧ Below w.heap.size w w' := by
  have HV := hide hv
  obtain ⟨i4, hi4, hy0, hy1, hy2⟩ := info_parts Try.infoU32r
  have hmx : Try.prog.follows .mixedOrders = true := by kernel_rfl
  obtain ⟨a, cap, rfl, g1, g2, g3⟩ := hv.shape
  have hlr : (Iw steps).length = steps.length := by simp
  rw [hlr] at HV ⊢
  obtain ⟨st, hst⟩ : ∃ st, st = steps.take 3 := ⟨_, rfl⟩
  have hsl : st.length = min 3 steps.length := by rw [hst, List.length_take]
  rw [← hst]
  obtain ⟨p, hp⟩ : ∃ p, p = st.length := ⟨_, rfl⟩
  have hp3 : p ≤ 3 := by omega
  have hpl : p ≤ steps.length := by omega
  have HP := hide (And.intro hp (And.intro hp3 (And.intro hst (And.intro hsl hpl))))
  have HN := hide (And.intro hn hn2)
  have HO0 := hide (own_word15 w)
  have HB0 := hide ((Below.refl _ w).alloc (Nat.le_refl _) (.cells #[.int .u32 0] 25))
  obtain ⟨hv0, hh⟩ : ∃ h : Int, h = (2 + (p : Int)) * 4096 + (p : Int) * 16 + ((n : Int) % 16) := ⟨_, rfl⟩
  have HE := hide hh
  have h16 : (n : Int) % 16 < 16 := by omega
  have h17 : 0 ≤ (n : Int) % 16 := by omega
  have H3 := hide (fun w (_ : 3 < (steps.length : Int)) => chead_t 5 3 ((n : Int) % 16) w (by omega) (by omega) (by omega) (by omega) (by omega) (by omega))
  have H2 := hide (fun w (_ : (steps.length : Int) ≤ 3) => chead_t (2 + (steps.length : Int)) steps.length ((n : Int) % 16) w (by omega) (by omega) (by omega) (by omega) (by omega) (by omega))
  have hpl3 : 3 < (steps.length : Int) → p = 3 ∧ 5 * 4096 + 3 * 16 + (n : Int) % 16 = hv0 := fun hc => by
    have : p = 3 := by omega
    exact ⟨this, by rw [hh, this]; rfl⟩
  have hpl2 : (steps.length : Int) ≤ 3 → p = steps.length ∧ (2 + (steps.length : Int)) * 4096 + (steps.length : Int) * 16 + (n : Int) % 16 = hv0 := fun hc => by
    have : p = steps.length := by omega
    exact ⟨this, by rw [hh, this]⟩
  have HP3 := hide hpl3
  have HP2 := hide hpl2
  have HR := hide h17
  clear hv hl g1 g2 g3 hlr hp hst hsl hp3 hn hn2 hh h16 h17 hpl hpl2 hpl3
  go_enter Try.func27, Try.ntmps27
  go_wp2_with fail
  case' inl =>
    have hc : 3 < (steps.length : Int) := by assumption
    obtain ⟨e1, e2⟩ := unhide HP3 hc
    have hd := unhide H3 w hc
    rw [e2] at hd
    have e3 : (3 : Int) = (p : Int) := by rw [e1]; rfl
    refine Calls.mono hd ?_
    rintro e w1 ⟨rfl, rfl⟩
    rw [show Value.int .i64 3 = Value.int .i64 (p : Int) by rw [e3]]
    clear hd H3 H2 HP3 HP2 hc e1 e2 e3
  case' inr =>
    have hc : (steps.length : Int) ≤ 3 := by first | assumption | omega
    obtain ⟨e1, e2⟩ := unhide HP2 hc
    have hd := unhide H2 w hc
    rw [e2] at hd
    refine Calls.mono hd ?_
    rintro e w1 ⟨rfl, rfl⟩
    rw [show Value.int .i64 (steps.length : Int) = Value.int .i64 (p : Int) by rw [e1]]
    clear hd H3 H2 HP3 HP2 hc e1 e2
  all_goals
    go_wp2_with fail
    go_loopw [8, 9] (fun o i wr => ∃ k : Nat, k ≤ n ∧ i = .int .i64 (k : Int) ∧ wr.ownsRow w1.heap.size 25 1 o (1 + k * (2 + p)) (Uw (layW ((List.range k).map (rgO n st)))) ∧ Below w1.heap.size w1 wr) (fun _ i _ => n - (intOf i).toNat)
    case atStart => exact ⟨0, Nat.zero_le _, rfl, by simpa [layW] using unhide HO0, unhide HB0⟩
    case round =>
      clear HO0 HB0
      obtain ⟨k, hk, rfl, hown, hb⟩ := hrel
      rename World => wr
      obtain ⟨pv, cv, rfl⟩ := ownsV_shape hown
      by_cases hlt : k < n
      · have hkI : (k : Int) < (n : Int) := by omega
        have hnw : IntKind.i64.wrap ((k : Int) + 1) = (k : Int) + 1 := by have := unhide HN; rw [IntKind.wrap_i64]; omega
        have hwb : 1 + k * (2 + p) ≤ 400 := by
          have h1 : k * (2 + p) ≤ 40 * 5 := Nat.mul_le_mul (by have := (unhide HN).2; omega) (by have := (unhide HP).2.1; omega)
          omega
        obtain ⟨m, hm⟩ : ∃ m, m = 1 + k * (2 + p) := ⟨_, rfl⟩
        rw [← hm] at hown hwb ⊢
        obtain ⟨lw, hlw⟩ : ∃ lw, lw = layW ((List.range k).map (rgO n st)) := ⟨_, rfl⟩
        rw [← hlw] at hown
        have HM := hide (And.intro hm (And.intro hlw hwb))
        have hbW : Below wr.heap.size wr (wr.alloc (.cells #[.int .u32 hv0] 25)) := (Below.refl _ wr).alloc (Nat.le_refl _) _
        have HOW := hide (show (wr.alloc (.cells #[.int .u32 hv0] 25)).ownsRow w1.heap.size 25 1 (.slice pv m cv) m (Uw lw) from ownsV_keep (F := fun _ => False) hown (Keep.of_below hbW) (fun _ _ => id))
        have HB := hide (hb.trans (hbW.mono hb.size))
        have HLT := hide hlt
        clear hown hb hk hlt hwb hbW hm hlw
        go_wp2_with (first
          | (at_builtin; refine wpList_append_gen rfl _ _ 22 rfl w1.heap.size 25 i4 (.int .u32 0) Try.underlying22 hi4 hy0 1 4 (by omega) hy1 hy2 rfl (.slice pv m cv) m (Uw lw) rfl (unhide HOW) ⟨wr.heap.size, 0, none⟩ 1 1 [.int .u32 hv0] rfl rfl (by intro j u hj; match j, hj with | 0, hj => (simp at hj; subst hj; simp [Addr.add])) (by intro u hu; simp at hu; subst hu; rfl) (by have := (unhide HM).2.2; unfold maxLen; simp; omega) (by have := (unhide HM).2.2; simp; omega) (unhide HB).size ?_))
        intro v2 w2 hown2 hgrow2 hob2
        have hb2 := (unhide HB).grown hgrow2 (unhide HB).size (fun k e => ((unhide HOW).lt k e).1)
        obtain ⟨pv2, cv2, rfl⟩ := ownsV_shape hown2
        have HJ := hide (And.intro hown2 hb2)
        clear hown2 hgrow2 hob2 hb2 HOW HB
        go_wp2_with fail
        go_loopw [8, 10] (fun o i wx => ∃ j : Nat, j ≤ p ∧ i = .int .i64 (j : Int) ∧ wx.ownsRow w1.heap.size 25 1 o (m + 1 + j) (Uw (lw ++ hv0 :: (rgP n st k).take j)) ∧ Below w1.heap.size w1 wx) (fun _ i _ => p - (intOf i).toNat)
        case atStart => exact ⟨0, Nat.zero_le _, rfl, by simpa [Uw] using (unhide HJ).1, (unhide HJ).2⟩
        case round =>
          clear HJ
          obtain ⟨j, hj, rfl, hown, hb⟩ := hrel
          obtain ⟨pv3, cv3, rfl⟩ := ownsV_shape hown
          rename World => wx
          have hvr := (unhide HV).below hb
          by_cases hlt : j < p
          · have hjI : (j : Int) < (p : Int) := by omega
            have hjw : IntKind.i64.wrap ((j : Int) + 1) = (j : Int) + 1 := by have := (unhide HP).2.1; rw [IntKind.wrap_i64]; omega
            have hjs : j < steps.length := by have := (unhide HP).2.2.2.2; omega
            have hjS : (j : Int) < (steps.length : Int) := by omega
            obtain ⟨b', off', cz', e0', g1', g2', hcl'⟩ := hvr.open (by intro e; have := congrArg List.length e; simp [Iw] at this; rw [this] at hjs; simp at hjs)
            simp only [Value.slice.injEq] at e0'
            obtain ⟨rfl, g3', rfl⟩ := e0'
            have hcx := hcl' j _ (by rw [Iw, List.getElem?_map, List.getElem?_eq_getElem hjs]; rfl)
            have hjt : j < st.length := by rw [← (unhide HP).1]; exact hlt
            have hys : st[j] = steps[j] := by
              have := (unhide HP).2.2.1
              subst this
              exact List.getElem_take
            have HTP := hide (show (rgP n st k).take (j + 1) = (rgP n st k).take j ++ [((1 + ((k + stpN n steps[j]) % n) * (2 + p) : Nat) : Int)] from by
              rw [List.take_succ_eq_append_getElem (show j < (rgP n st k).length by unfold rgP; rw [List.length_map]; exact hjt)]
              congr 2
              unfold rgP
              rw [List.getElem_map, hys, ← (unhide HP).1])
            generalize steps[j] = y at *
            have hsm := step_mod y n (unhide HN).1 (unhide HN).2
            have hsl := stpN_lt (unhide HN).1 y
            generalize stpN n y = q at *
            obtain ⟨r, hr⟩ : ∃ r, r = (k + q) % n := ⟨_, rfl⟩
            have hrl : r < n := by rw [hr]; exact Nat.mod_lt _ (unhide HN).1
            have hrm : ((k : Int) + (q : Int)).tmod (n : Int) = (r : Int) := by
              rw [Int.tmod_eq_emod_of_nonneg (by omega), hr]
              first | rfl | (simp; done) | norm_cast
            obtain ⟨z, hz⟩ : ∃ z : Nat, z = r * (2 + p) := ⟨_, rfl⟩
            have hzb : z ≤ 200 := by
              have h1 : r * (2 + p) ≤ 40 * 5 := Nat.mul_le_mul (by have := (unhide HN).2; omega) (by have := (unhide HP).2.1; omega)
              omega
            have hzI : (r : Int) * (2 + (p : Int)) = (z : Int) := by rw [hz, Int.natCast_mul]; rfl
            rw [← hr, ← hz] at HTP
            have hn0 : (n : Int) ≠ 0 := by have := (unhide HN).1; omega
            have hn40 : n ≤ 40 := (unhide HN).2
            have hk40 : k < n := unhide HLT
            have hp3 : p ≤ 3 := (unhide HP).2.1
            have hu1 : IntKind.u64.wrap (n : Int) = (n : Int) := by rw [IntKind.wrap_u64]; omega
            have hw1 : IntKind.i64.wrap ((k : Int) + (q : Int)) = (k : Int) + (q : Int) := by rw [IntKind.wrap_i64]; omega
            have hw2 : IntKind.i64.wrap (2 + (p : Int)) = 2 + (p : Int) := by rw [IntKind.wrap_i64]; omega
            have hw3 : IntKind.i64.wrap (r : Int) = (r : Int) := by rw [IntKind.wrap_i64]; omega
            have hw4 : IntKind.i64.wrap (z : Int) = (z : Int) := by rw [IntKind.wrap_i64]; omega
            have hw5 : IntKind.i64.wrap (1 + (z : Int)) = 1 + (z : Int) := by rw [IntKind.wrap_i64]; omega
            have hw6 : IntKind.u32.wrap (1 + (z : Int)) = 1 + (z : Int) := by rw [IntKind.wrap_u32]; omega
            have HLJ := hide hlt
            obtain ⟨nn, hnn⟩ : ∃ nn, nn = m + 1 + j := ⟨_, rfl⟩
            have HNL := hide (show nn < 1000 by have := (unhide HM).2.2; omega)
            have hbW : Below wx.heap.size wx (wx.alloc (.cells #[.int .u32 (1 + (z : Int))] 25)) := (Below.refl _ wx).alloc (Nat.le_refl _) _
            have HOX := hide (show (wx.alloc (.cells #[.int .u32 (1 + (z : Int))] 25)).ownsRow w1.heap.size 25 1 (.slice pv3 nn cv3) nn (Uw (lw ++ hv0 :: (rgP n st k).take j)) from ownsV_keep (F := fun _ => False) (hnn ▸ hown) (Keep.of_below hbW) (fun _ _ => id))
            have HBX := hide (hb.trans (hbW.mono hb.size))
            rw [← hnn]
            have HNN := hide hnn
            clear hown hb hlt hj g1' g2' g3' hcl' hbW hnn hz hzb hr hrl hsl hjs hjt hys hvr hn40 hk40 hp3 hnw
            go_wp2_with (first
              | (at_builtin; refine wpList_append_gen rfl _ _ 22 rfl w1.heap.size 25 i4 (.int .u32 0) Try.underlying22 hi4 hy0 1 4 (by omega) hy1 hy2 rfl (.slice pv3 nn cv3) nn (Uw (lw ++ hv0 :: (rgP n st k).take j)) rfl (unhide HOX) ⟨wx.heap.size, 0, none⟩ 1 1 [.int .u32 (1 + (z : Int))] rfl rfl (by intro j u hj; match j, hj with | 0, hj => (simp at hj; subst hj; simp [Addr.add])) (by intro u hu; simp at hu; subst hu; rfl) (by have := unhide HNL; unfold maxLen; simp; omega) (by have := unhide HNL; simp; omega) (unhide HBX).size ?_))
            intro v4 w4 hown4 hgrow4 hob4
            have hb4 := (unhide HBX).grown hgrow4 (unhide HBX).size (fun k e => ((unhide HOX).lt k e).1)
            have HJ := hide (And.intro hown4 hb4)
            clear hown4 hgrow4 hob4 hb4
            go_wp2_with fail
            go_roundw
            case rel =>
              refine ⟨j + 1, unhide HLJ, by go_num, ?_, (unhide HJ).2⟩
              have h1 := (unhide HJ).1
              rw [unhide HNN] at h1
              rw [unhide HTP]
              have e5 : Uw (lw ++ hv0 :: ((rgP n st k).take j ++ [((1 + z : Nat) : Int)])) = lw.map (Value.int .u32) ++ .int .u32 hv0 :: (((rgP n st k).map (Value.int .u32)).take j ++ [.int .u32 (1 + (z : Int))]) := by
                simp [Uw, List.map_take]
              rw [e5, ← Nat.add_assoc]
              exact h1
            case measure => (have := unhide HLJ; simp [intOf]; omega)
          · have hje : j = p := by omega
            subst hje
            have hrl : (rgP n st k).length = j := by unfold rgP; rw [List.length_map]; exact (unhide HP).1.symm
            rw [List.take_of_length_le (by omega)] at hown
            have hkw : IntKind.u32.wrap (k : Int) = (k : Int) := by have := unhide HN; have := unhide HLT; rw [IntKind.wrap_u32]; omega
            have hbW : Below wx.heap.size wx (wx.alloc (.cells #[.int .u32 (k : Int)] 25)) := (Below.refl _ wx).alloc (Nat.le_refl _) _
            obtain ⟨nn, hnn⟩ : ∃ nn, nn = m + 1 + j := ⟨_, rfl⟩
            have HNL := hide (show nn < 1000 by have := (unhide HM).2.2; have := (unhide HP).2.1; omega)
            have HOX := hide (show (wx.alloc (.cells #[.int .u32 (k : Int)] 25)).ownsRow w1.heap.size 25 1 (.slice pv3 nn cv3) nn (Uw (lw ++ hv0 :: rgP n st k)) from ownsV_keep (F := fun _ => False) (hnn ▸ hown) (Keep.of_below hbW) (fun _ _ => id))
            have HBX := hide (hb.trans (hbW.mono hb.size))
            rw [← hnn]
            have HNN := hide hnn
            have hjj : ¬ (j : Int) < (j : Int) := by omega
            clear hown hb hlt hj hbW hnn hvr hrl
            go_wp2_with (first
              | (at_builtin; refine wpList_append_gen rfl _ _ 22 rfl w1.heap.size 25 i4 (.int .u32 0) Try.underlying22 hi4 hy0 1 4 (by omega) hy1 hy2 rfl (.slice pv3 nn cv3) nn (Uw (lw ++ hv0 :: rgP n st k)) rfl (unhide HOX) ⟨wx.heap.size, 0, none⟩ 1 1 [.int .u32 (k : Int)] rfl rfl (by intro j u hj; match j, hj with | 0, hj => (simp at hj; subst hj; simp [Addr.add])) (by intro u hu; simp at hu; subst hu; rfl) (by have := unhide HNL; unfold maxLen; simp; omega) (by have := unhide HNL; simp; omega) (unhide HBX).size ?_))
            intro v4 w4 hown4 hgrow4 hob4
            have hb4 := (unhide HBX).grown hgrow4 (unhide HBX).size (fun k e => ((unhide HOX).lt k e).1)
            have HJ := hide (And.intro hown4 hb4)
            clear hown4 hgrow4 hob4 hb4
            go_wp2_with fail
            go_roundw
            case rel =>
              refine ⟨k + 1, unhide HLT, by go_num, ?_, (unhide HJ).2⟩
              have h1 := (unhide HJ).1
              rw [unhide HNN] at h1
              have hs3 : st.length ≤ 3 := by have := unhide HP; omega
              obtain ⟨g1, g2, _⟩ := rgO_good (n := n) (i := k) hs3
              have hh : hdO (rgO n st k) = hv0 := by
                rw [g2, unhide HE, (unhide HP).1]
                unfold rgH
                rfl
              have hwr : wrdO (rgO n st k) = hv0 :: (rgP n st k ++ [(k : Int)]) := by
                rw [wrdO_good g1, hh]
                show hv0 :: (w32 (rgP n st k) ++ [(k : Int)]) = _
                rw [rgP_w32 (unhide HN).1 (unhide HN).2 hs3]
              rw [List.range_succ, List.map_append, List.map_cons, List.map_nil, layW_snoc, hwr, ← (unhide HM).2.1]
              have e5 : Uw (lw ++ hv0 :: (rgP n st k ++ [(k : Int)])) = lw.map (Value.int .u32) ++ .int .u32 hv0 :: ((rgP n st k).map (Value.int .u32) ++ [.int .u32 (k : Int)]) := by
                simp [Uw]
              rw [e5, show 1 + (k + 1) * (2 + j) = m + 1 + j + 1 by rw [(unhide HM).1, Nat.succ_mul]; omega]
              exact h1
            case measure => (have := unhide HLT; simp [intOf]; omega)
      · have hke : k = n := by omega
        subst hke
        have hs3 : st.length ≤ 3 := by have := unhide HP; omega
        have hlen := rg_len (n := k) hs3
        rw [← (unhide HP).1] at hlen
        have HJ := hide (show wr.ownsRow w1.heap.size 25 1 (.slice pv (1 + k * (2 + p)) cv) (rgW k st).length (Uw (rgW k st)) by rw [hlen]; exact hown)
        have HBB := hide hb
        have hkk : ¬ (k : Int) < (k : Int) := by omega
        clear hk hlt hown hb hs3 hlen
        go_wp2_with fail
        go_ret
        exact ⟨_, rfl, unhide HJ, unhide HBB⟩
end Go.Proofs.Ytegefnchkgkmgaa
