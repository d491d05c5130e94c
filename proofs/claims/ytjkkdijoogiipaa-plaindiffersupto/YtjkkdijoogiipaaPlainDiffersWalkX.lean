/- The walk of the law PlainDiffers, of the landed package plain. -/
import Derived.Test.YtjkkdijoogiipaaG25
import Derived.Test.YtjkkdijoogiipaaG28
namespace Go.Proofs.Ytjkkdijoogiipaa
open Go.RowKit

set_option maxRecDepth 20000 in
set_option maxHeartbeats 4000000 in
theorem pdiffers_any (va vb : Value) (A B : List El) (w : World) (ha : EL 2 prC w va A) (hb : EL 2 prC w vb B) (hla : A.length ≤ 1048576) (hlb : B.length ≤ 1048576) (hka : ∀ x ∈ A, x.2.length ≤ 140737488351232 ∧ x.1.key.size ≤ 140737488351232) (hkb : ∀ x ∈ B, x.2.length ≤ 140737488351232 ∧ x.1.key.size ≤ 140737488351232) :
    Calls Try.prog 3 #[va, vb] w fun e w' => e = .returned (.bool true) ∧ Below w.heap.size w w' := by
  have HCP := hide (copypairs_any va A w ha (by omega) (fun x hx => (hka x hx).1))
  have HCO := hide (fun W hW => copypairs_any vb B W (hb.below hW) (by omega) (fun x hx => (hkb x hx).1))
  have HAW := hide pawake_any
  have HRD := hide (fun W hW => rdf_any va vb A B W (ha.below hW) (hb.below hW) hla hlb (fun x hx => ⟨(hka x hx).2, (hka x hx).1⟩) (fun x hx => ⟨(hkb x hx).2, (hkb x hx).1⟩))
  have HEL : Hid (∀ W, Below w.heap.size w W → EL 2 prC W va A ∧ EL 2 prC W vb B) := fun W hb2 => ⟨ha.below hb2, hb.below hb2⟩
  have HLN := hide (And.intro hla hlb)
  obtain ⟨p1, c1, rfl, _⟩ := ha.shape
  obtain ⟨p2, c2, rfl, _⟩ := hb.shape
  clear ha hb hla hlb hka hkb
  go_enter Try.func3, Try.ntmps3
  go_wp2_with fail
  refine Calls.mono (unhide HCP) ?_
  rintro e w0 ⟨vi, Li, rfl, hdi, hoi, hb0⟩
  obtain ⟨pi, ci, rfl⟩ := hoi.1.shape
  have HI0 := hide (And.intro hdi (And.intro (hoi.1.el prC_len) hb0))
  clear hdi hoi hb0
  go_wp2_with fail
  refine Calls.mono (unhide HCO _ (unhide HI0).2.2) ?_
  rintro e w1 ⟨vm, Mi, rfl, hdm, hom, hb1⟩
  obtain ⟨pm, cm, rfl⟩ := hom.1.shape
  have hb1w := (unhide HI0).2.2.trans (hb1.mono (unhide HI0).2.2.size)
  have heli := (unhide HI0).2.1.below hb1
  have helm := hom.1.el prC_len
  have hli : Li.length ≤ 1048576 := by have := (unhide HLN).1; rw [← pdat_len, (unhide HI0).1, pdat_len]; exact this
  have hlm : Mi.length ≤ 1048576 := by have := (unhide HLN).2; rw [← pdat_len, hdm, pdat_len]; exact this
  have hdo := pdf_any _ _ Li Mi w1 heli helm hli hlm
  rw [(unhide HI0).1, hdm] at hdo
  have HDO := hide hdo
  have HM1 := hide (And.intro hdm (And.intro hb1w (fun W (hW : Below w1.heap.size w1 W) => And.intro (heli.below hW) (helm.below hW))))
  clear hdm hom hb1 hb1w heli helm hli hlm hdo
  go_wp2_with fail
  refine Calls.mono (unhide HDO) ?_
  rintro e w5 ⟨vs, D, rfl, hos, hds, hb5⟩
  obtain ⟨ps, cs, rfl⟩ := hos.shape
  have hl0 : (D.length : Int) ≤ 9223372036854775807 := by obtain ⟨_, _, e2, h1, h2, _⟩ := hos.dl.shape; unfold maxLen at h2; omega
  have HS5 := hide (And.intro hds (And.intro hos (And.intro hb5 ((unhide HM1).2.1.trans (hb5.mono (unhide HM1).2.1.size)))))
  clear hds hos hb5
  go_wp2_with fail
  refine Calls.mono (unhide HAW _) ?_
  rintro e w6 ⟨rfl, hb6⟩
  have HB6 := hide (And.intro hb6 ((unhide HS5).2.2.2.trans (hb6.mono (unhide HS5).2.2.2.size)))
  clear hb6
  go_wp2_with fail
  refine Calls.mono (unhide HRD _ (unhide HB6).2) ?_
  rintro e w7 ⟨vr, E, rfl, her, hdr, hb7⟩
  obtain ⟨pr, cr, rfl⟩ := her.shape
  have hb57 := (unhide HB6).1.trans (hb7.mono (unhide HB6).1.size)
  have hpr := hdiffs_any _ _ D E w7 ((unhide HS5).2.1.dl.below hb57) her.dl (by rw [(unhide HS5).1, hdr])
  have HPR := hide hpr
  have HB7 := hide hb57
  clear hb7 hpr hb57 her hdr
  go_wp2_with fail
  refine Calls.mono (unhide HPR) ?_
  rintro e w9 ⟨rfl, hb9⟩
  have HB9 := hide ((unhide HB7).trans (hb9.mono (unhide HB7).size))
  have HSP : Hid (SpD w1 w1.heap.size w9 (.slice ps D.length cs) D 0) := by
    have ho := (unhide HS5).2.1.below (unhide HB9)
    exact ⟨ho.1, fun j x _ hx => (ho.2.1 x (List.mem_of_getElem? hx)).1, (unhide HS5).2.2.1.trans ((unhide HB9).mono (unhide HS5).2.2.1.size)⟩
  clear hb9
  obtain ⟨ll, hlle⟩ : ∃ ll, ll = D.length := ⟨_, rfl⟩
  have HLE := hide hlle
  rw [← hlle] at HSP hl0 ⊢
  clear hlle
  go_wp2
  go_loopw [8] (fun ii wr => ∃ (i : Nat), i ≤ ll ∧ ii = .int .i64 i ∧ Hid (SpD w1 w1.heap.size wr (.slice ps ll cs) D (i * 2))) (fun ii _ => ll - (intOf ii).toNat)
  case atStart => exact ⟨0, Nat.zero_le _, rfl, HSP⟩
  case round =>
    obtain ⟨i, hil, rfl, hst⟩ := hrel
    by_cases hlt : (i : Int) < (ll : Int)
    · have i1 : i < D.length := by have := unhide HLE; omega
      obtain ⟨bl, ol, cl', e1, k1, k0⟩ := (unhide hst).seen i1
      simp only [Value.slice.injEq] at e1
      obtain ⟨rfl, e9, rfl⟩ := e1
      clear e9
      have HAP := hide (fun x hx b off e2 hne => by have := ((unhide HS5).2.1.2.1 x hx).2 b off e2 hne; rwa [← unhide HLE] at this : ∀ x ∈ vals D, ∀ b off, x.1.p = some ⟨b, off, none⟩ → x.2 ≠ [] → (Value.slice (some ⟨bl, ol, none⟩) ll cs).ownBlock ≠ some b)
      have HSK := hide (spoil_keep (vof (oldE D[i]).1) (oldE D[i]).2 w1.heap.size wr ((unhide hst).val (i * 2) _ (Nat.le_refl _) (vals_two D i i1).1))
      have HI1 := hide i1
      go_wp2_with fail
      refine Calls.mono (unhide HSK) ?_
      rintro e wn ⟨rfl, hsn⟩
      have HN := hide ((unhide hst).step (unhide hst).bel.size (vals_two D i i1).1 (unhide HAP) (unhide HS5).2.1.2.2 hsn)
      obtain ⟨bl2, ol2, cl2, e1, k1', k0'⟩ := (unhide HN).seen i1
      simp only [Value.slice.injEq, Option.some.injEq, Addr.mk.injEq, and_true] at e1
      obtain ⟨⟨rfl, rfl⟩, e9, rfl⟩ := e1
      clear e9 hsn HSK k1 k0
      have HSK2 := hide (spoil_keep (vof (newE D[i]).1) (newE D[i]).2 w1.heap.size wn ((unhide HN).val (i * 2 + 1) _ (Nat.le_refl _) (vals_two D i i1).2))
      go_wp2_with fail
      refine Calls.mono (unhide HSK2) ?_
      rintro e wm ⟨rfl, hsm⟩
      have HN2 := hide ((unhide HN).step (unhide HN).bel.size (vals_two D i i1).2 (unhide HAP) (unhide HS5).2.1.2.2 hsm)
      clear hsm HSK2
      go_wp2
      go_roundw
      case rel => exact ⟨i + 1, by omega, by go_num, by have := unhide HN2; rw [show (i + 1) * 2 = i * 2 + 1 + 1 by omega]; exact this⟩
      case measure => simp [intOf]; omega
    · have HBE := hide ((unhide hst).bel)
      have hwb := (unhide HM1).2.1.trans ((unhide HBE).mono (unhide HM1).2.1.size)
      have hoi := hpairs_any _ _ Li A wr ((unhide HM1).2.2 _ (unhide HBE)).1 (unhide HEL _ hwb).1
      rw [decide_eq_true (unhide HI0).1] at hoi
      have HOI := hide hoi
      have HOM := hide (fun W (hW : Below wr.heap.size wr W) => by
        have h9 := hpairs_any _ _ Mi B W (((unhide HM1).2.2 _ (unhide HBE)).2.below hW) ((unhide HEL _ hwb).2.below hW)
        rw [decide_eq_true (unhide HM1).1] at h9
        exact h9)
      have HWB := hide hwb
      clear hoi hwb
      go_wp2_with fail
      refine Calls.mono (unhide HOI) ?_
      rintro e we ⟨rfl, hbe⟩
      have HP2 := hide (unhide HOM we hbe)
      have HBZ := hide ((unhide HWB).trans (hbe.mono (unhide HWB).size))
      clear hbe
      go_wp2_with fail
      refine Calls.mono (unhide HP2) ?_
      rintro e wf ⟨rfl, hbf⟩
      have HBF := hide ((unhide HBZ).trans (hbf.mono (unhide HBZ).size))
      clear hbf
      go_wp2
      go_ret
      exact ⟨rfl, unhide HBF⟩

theorem walk_PlainDiffers (s0 : Value) (d0 : Dt) (s1 : Value) (d1 : Dt) (w : World) (h0 : Reads limUpto w (.row 40 prSh) [s0] d0) (h1 : Reads limUpto w (.row 40 prSh) [s1] d1) :
    Calls Try.prog 3 #[s0, s1] w fun e w' => e = .returned (.bool true) ∧ Below w.heap.size w w' := by
  obtain ⟨L, e0, o0, l0⟩ := prs_of_reads lim_upto h0
  obtain ⟨M, e1, o1, l1⟩ := prs_of_reads lim_upto h1
  unfold limUpto at l0 l1
  exact pdiffers_any s0 s1 L M w e0 e1 l0 l1 (fun x hx => (o0 x hx).2) (fun x hx => (o1 x hx).2)
end Go.Proofs.Ytjkkdijoogiipaa
