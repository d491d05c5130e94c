/- The walk of the law BatchChecks, of the landed package batch. -/
import Derived.Test.YtehnjanllemnlaaG16
import Derived.Test.YtehnjanllemnlaaG29
import Derived.Test.YtehnjanllemnlaaG33
import Derived.Test.YtehnjanllemnlaaG34
import Derived.Test.YtehnjanllemnlaaG37
import Derived.Test.YtehnjanllemnlaaG38
import Derived.Test.YtehnjanllemnlaaG39
namespace Go.Proofs.Ytehnjanllemnlaa
open Go.RowKit

theorem dat_back {L L' : List El} {n m : Nat} (h : dat L' = dat L) (hL : ∀ x ∈ L, x.2.length ≤ n) (hk : ∀ x ∈ L, x.1.key.size ≤ m) : ∀ x ∈ L', x.2.length ≤ n ∧ x.1.key.size ≤ m := by
  intro x hx
  have hq : datOf x ∈ dat L' := by unfold dat; exact List.mem_map.2 ⟨x, hx, rfl⟩
  rw [h] at hq
  unfold dat at hq
  obtain ⟨y, hy, e⟩ := List.mem_map.1 hq
  have h1 := hL y hy
  have h2 := hk y hy
  unfold datOf at e
  simp only [Prod.mk.injEq] at e
  rw [← e.2.1, ← e.1]
  exact ⟨h1, h2⟩
/-- What the row shows while its values are spoiled. -/
theorem Spo.seen {w1 wr : World} {base : Nat} {vl : Value} {Ll : List El} {i : Nat} (h : Spo 32 3 opC w1 base wr vl Ll i) (hi : i < Ll.length) :
    ∃ b off cap, vl = .slice (some ⟨b, off, none⟩) Ll.length cap ∧ wr.cell? ⟨b, off + i * 3 + 1, none⟩ = some (vof Ll[i].1) ∧ wr.cell? ⟨b, off + i * 3, none⟩ = some (.string Ll[i].1.key) ∧ wr.cell? ⟨b, off + i * 3 + 2, none⟩ = some (.bool Ll[i].1.del) := by
  obtain ⟨b, off, cap, e, h1, h2, hc⟩ := (krow_of_owns h.row (elC_len opC_len Ll)).open (by omega)
  have hg : ∀ q u, q < 3 → (opC Ll[i].1)[q]? = some u → wr.cell? ⟨b, off + i * 3 + q, none⟩ = some u := fun q u hq hu => by
    have := hc (i * 3 + q) u (by rw [elC_get opC_len Ll i hi q hq]; exact hu)
    rwa [← Nat.add_assoc] at this
  exact ⟨b, off, cap, e, hg 1 _ (by omega) rfl, hg 0 _ (by omega) rfl, hg 2 _ (by omega) rfl⟩

set_option maxRecDepth 20000 in
set_option maxHeartbeats 4000000 in
theorem bchecks_any (v : Value) (L : List El) (w : World) (h : EL 3 opC w v L) (hroom : L.length * 48 ≤ 140737488355328) (hv : ∀ x ∈ L, x.2.length ≤ 140737488351232) (hks : ∀ x ∈ L, x.1.key.size ≤ 140737488351232) :
    Calls Try.prog 3 #[v] w fun e w' => e = .returned (.bool true) ∧ Below w.heap.size w w' := by
  have HCP := hide (copyops_any v L w h hroom hv)
  have HEL : Hid (∀ W, Below w.heap.size w W → EL 3 opC W v L) := fun W hb => h.below hb
  have HV := hide hv
  have HK := hide hks
  have HR := hide hroom
  obtain ⟨p1, c1, rfl, _⟩ := h.shape
  clear h hv hks hroom
  go_enter Try.func3, Try.ntmps3
  go_wp2_with fail
  refine Calls.mono (unhide HCP) ?_
  rintro e w1 ⟨vi, Li, rfl, hdi, hoi, hb1⟩
  have hbi := dat_back hdi (unhide HV) (unhide HK)
  have hli : Li.length = L.length := by rw [← dat_len Li, hdi, dat_len]
  have heli := hoi.1.el opC_len
  have HB1 := hide hb1
  have HLS := hide (blast_any vi Li w1 heli (by have := unhide HR; omega) (fun x hx => (hbi x hx).1))
  have HELI : Hid (∀ W, Below w1.heap.size w1 W → EL 3 opC W vi Li) := fun W hb => heli.below hb
  have HKI := hide (fun x hx => (hbi x hx).2)
  have HDI := hide hdi
  obtain ⟨pi, ci, rfl⟩ := hoi.1.shape
  clear hbi hli heli hb1 hdi hoi HCP
  go_wp2_with fail
  refine Calls.mono (unhide HLS) ?_
  rintro e w2 ⟨vl, Ll, rfl, hdl, hll, hool, hb2⟩
  obtain ⟨pl, cl, rfl⟩ := hool.1.shape
  have HOL := hide (And.intro hool hdl)
  have HB2 := hide hb2
  have hl0 : (Ll.length : Int) ≤ 9223372036854775807 := by
    have := (hool.1.el opC_len).shape
    obtain ⟨_, c, e, h1, h2, _⟩ := this
    unfold maxLen at h2
    omega
  clear hdl hll hool hb2 HLS
  go_wp2_with fail
  refine Calls.mono (bawake_any _) ?_
  rintro e w3 ⟨rfl, hb3⟩
  have HB3 := hide (hb3.mono (Nat.le_refl _))
  have H13 := hide ((unhide HB2).trans (hb3.mono (unhide HB2).size))
  clear hb3
  go_wp2_with fail
  refine Calls.mono (bcheck_any _ Li w3 (unhide HELI _ (unhide H13)) (unhide HKI)) ?_
  rw [unhide HDI]
  rintro e w4 ⟨rfl, hb4⟩
  have HB4 := hide ((unhide HB3).trans (hb4.mono (unhide HB3).size))
  have H14 := hide ((unhide HB2).trans ((unhide HB4).mono (unhide HB2).size))
  have HW4 := hide ((unhide HB1).trans ((unhide H14).mono (unhide HB1).size))
  clear hb4 HB3 H13
  go_wp2_with fail
  refine Calls.mono (rcheck_any _ L w4 (unhide HEL _ (unhide HW4)) (unhide HK)) ?_
  rintro e w5 ⟨rfl, hb5⟩
  have HB5 := hide ((unhide HB4).trans (hb5.mono (unhide HB4).size))
  have H15 := hide ((unhide HB2).trans ((unhide HB5).mono (unhide HB2).size))
  clear hb5 HB4 H14 HW4
  go_wp2_with fail
  refine Calls.mono (bsize_any _ Li w5 (unhide HELI _ (unhide H15)) (unhide HKI)) ?_
  rw [unhide HDI]
  rintro e w6 ⟨rfl, hb6⟩
  have HB6 := hide ((unhide HB5).trans (hb6.mono (unhide HB5).size))
  have H16 := hide ((unhide HB2).trans ((unhide HB6).mono (unhide HB2).size))
  have HW6 := hide ((unhide HB1).trans ((unhide H16).mono (unhide HB1).size))
  clear hb6 HB5 H15
  go_wp2_with fail
  refine Calls.mono (rsize_any _ L w6 (unhide HEL _ (unhide HW6)) (unhide HK)) ?_
  rintro e w7 ⟨rfl, hb7⟩
  have HB7 := hide ((unhide HB6).trans (hb7.mono (unhide HB6).size))
  have HW7 := hide ((unhide HW6).trans (hb7.mono (unhide HW6).size))
  clear hb7 HB6 H16 HW6
  go_wp2_with fail
  refine Calls.mono (rlast_any _ L w7 (unhide HEL _ (unhide HW7)) (unhide HR) (unhide HV) (unhide HK)) ?_
  rintro e w8 ⟨vr, Lr, rfl, hdr, hlr, heor, hb8⟩
  obtain ⟨pr, cr, rfl⟩ := heor.shape
  have HB8 := hide ((unhide HB7).trans (hb8.mono (unhide HB7).size))
  have HOPS := hide (hops_any _ _ Ll Lr w8 (((unhide HOL).1.1.el opC_len).below (unhide HB8)) (heor.el opC_len) (by rw [(unhide HOL).2, hdr, unhide HDI]))
  clear hdr hlr heor hb8 HB7 HW7
  go_wp2_with fail
  refine Calls.mono (unhide HOPS) ?_
  rintro e w9 ⟨rfl, hb9⟩
  have HB9 := hide ((unhide HB8).trans (hb9.mono (unhide HB8).size))
  have H19 := hide ((unhide HB2).trans ((unhide HB9).mono (unhide HB2).size))
  have HSP : Hid (Spo 32 3 opC w1 w1.heap.size w9 (.slice pl Ll.length cl) Ll 0) := by
    have ho := (unhide HOL).1.below (unhide HB9)
    exact ⟨ho.1.1, fun j x _ hx => ho.2.1 x (List.mem_of_getElem? hx), unhide H19⟩
  clear hb9 HB8 HOPS
  obtain ⟨ll, hlle⟩ : ∃ ll, ll = Ll.length := ⟨_, rfl⟩
  have HLE := hide hlle
  rw [← hlle] at HSP hl0 ⊢
  clear hlle
  go_wp2
  go_loopw [5] (fun ii wr => ∃ (i : Nat), i ≤ ll ∧ ii = .int .i64 i ∧ Hid (Spo 32 3 opC w1 w1.heap.size wr (.slice pl ll cl) Ll i)) (fun ii _ => ll - (intOf ii).toNat)
  case atStart => exact ⟨0, Nat.zero_le _, rfl, HSP⟩
  case round =>
    obtain ⟨i, hil, rfl, hst⟩ := hrel
    by_cases hlt : (i : Int) < (ll : Int)
    · have i1 : i < Ll.length := by have := unhide HLE; omega
      obtain ⟨bl, ol, cl', e1, k1, k0, k2⟩ := (unhide hst).seen i1
      simp only [Value.slice.injEq] at e1
      obtain ⟨rfl, e9, rfl⟩ := e1
      clear e9
      have HSK := hide (spoil_keep (vof Ll[i].1) Ll[i].2 w1.heap.size wr ((unhide hst).val i _ (Nat.le_refl _) (List.getElem?_eq_getElem i1)))
      go_wp2_with fail
      refine Calls.mono (unhide HSK) ?_
      rintro e wn ⟨rfl, hsn⟩
      have hnew := (unhide hst).step (unhide hst).bel.size i1 (fun x hx b off e2 hne => by have := ((unhide HOL).1.1.2 x hx).2 b off e2 hne; rwa [← unhide HLE] at this) (unhide HOL).1.2.2 hsn
      have HN := hide hnew
      clear hnew hsn HSK
      go_wp2
      go_roundw
      case rel => exact ⟨i + 1, by omega, by go_num, HN⟩
      case measure => simp [intOf]; omega
    · have HBE := hide ((unhide hst).bel)
      have HOI := hide (hops_any _ _ Li L wr (unhide HELI _ (unhide HBE)) (unhide HEL _ ((unhide HB1).trans ((unhide HBE).mono (unhide HB1).size))) (unhide HDI))
      go_wp2_with fail
      refine Calls.mono (unhide HOI) ?_
      rintro e we ⟨rfl, hbe⟩
      have HBZ := hide ((unhide HB1).trans (((unhide HBE).trans (hbe.mono (unhide HBE).size)).mono (unhide HB1).size))
      clear hbe
      go_wp2
      go_ret
      exact ⟨rfl, unhide HBZ⟩

theorem walk_BatchChecks (s0 : Value) (d0 : Dt) (w : World) (h0 : Reads limSaid w (.row 48 opSh) [s0] d0) :
    Calls Try.prog 3 #[s0] w fun e w' => e = .returned (.bool true) ∧ Below w.heap.size w w' := by
  obtain ⟨L, e1, o1, l1⟩ := ops_of_reads lim_said h0
  have hroom : L.length * 48 ≤ 140737488355328 := by unfold limSaid reachBytes at l1; omega
  exact bchecks_any s0 L w e1 hroom (fun x hx => (o1 x hx).2.1) (fun x hx => (o1 x hx).2.2)
end Go.Proofs.Ytehnjanllemnlaa
