/- Texts of ours, one behind the other: PlDoes. -/
import Derived.Test.YtehafkbndjifaaaG30
import Derived.Test.YtehafkbndjifaaaG32
/- The walk of the law PlainDoes, of the landed package plain; One is asked for. -/
namespace Go.Proofs.Ytehafkbndjifaaa
open Go.RowKit

/-- What a row of pairs shows while its values are spoiled. -/
theorem Spo.seenQ {w1 wr : World} {base : Nat} {vl : Value} {Ll : List El} {i : Nat} (h : Spo 37 2 prC w1 base wr vl Ll i) (hi : i < Ll.length) :
    ∃ b off cap, vl = .slice (some ⟨b, off, none⟩) Ll.length cap ∧ wr.cell? ⟨b, off + i * 2 + 1, none⟩ = some (vof Ll[i].1) ∧ wr.cell? ⟨b, off + i * 2, none⟩ = some (.string Ll[i].1.key) := by
  obtain ⟨b, off, cap, e, h1, h2, hc⟩ := (krow_of_owns h.row (elC_len prC_len Ll)).open (by omega)
  have hg : ∀ q u, q < 2 → (prC Ll[i].1)[q]? = some u → wr.cell? ⟨b, off + i * 2 + q, none⟩ = some u := fun q u hq hu => by
    have := hc (i * 2 + q) u (by rw [elC_get prC_len Ll i hi q hq]; exact hu)
    rwa [← Nat.add_assoc] at this
  exact ⟨b, off, cap, e, hg 1 _ (by omega) rfl, hg 0 _ (by omega) rfl⟩

set_option maxRecDepth 20000 in
set_option maxHeartbeats 4000000 in
theorem pdoes_any (hone : OneC) (v v2 : Value) (L M : List El) (w : World) (h : EL 2 prC w v L) (h2 : EL 3 opC w v2 M) (hv : ∀ x ∈ L, x.2.length ≤ 140737488351232 ∧ x.1.key.size ≤ 140737488351232) (hvm : ∀ x ∈ M, x.2.length ≤ 140737488351232 ∧ x.1.key.size ≤ 140737488351232) (hl : L.length * 40 ≤ 140737488351232) (hlm : M.length * 48 ≤ 140737488351232) :
    Calls Try.prog 4 #[v, v2] w fun e w' => e = .returned (.bool true) ∧ Below w.heap.size w w' := by
  have HCP := hide (copypairs_any v L w h (by omega) (fun x hx => (hv x hx).1))
  have HCO := hide (fun W hW => copyops_any v2 M W (h2.below hW) (by omega) (fun x hx => (hvm x hx).1))
  have HAW := hide pawake_any
  have HRD := hide (fun W hW => rdo_any hone v v2 L M W (h.below hW) (h2.below hW) (by omega) (fun x hx => (hv x hx).1) (fun x hx => (hv x hx).2) (fun x hx => (hvm x hx).1) (fun x hx => (hvm x hx).2))
  have HEL : Hid (∀ W, Below w.heap.size w W → EL 2 prC W v L ∧ EL 3 opC W v2 M) := fun W hb => ⟨h.below hb, h2.below hb⟩
  have HI : Hid (∀ (Li : List El), pdat Li = pdat L → Li.length = L.length ∧ ∀ x ∈ Li, x.2.length ≤ 140737488351232) := by
    intro Li hd
    refine ⟨by rw [← pdat_len, hd, pdat_len], fun x hx => ?_⟩
    have hmm : (x.1.key, x.2) ∈ pdat L := by rw [← hd]; exact List.mem_map.2 ⟨x, hx, rfl⟩
    obtain ⟨y, hy, e⟩ := List.mem_map.1 hmm
    simp only [Prod.mk.injEq] at e
    rw [← e.2]
    exact (hv y hy).1
  have HJ : Hid (∀ (Mi : List El), dat Mi = dat M → ∀ x ∈ Mi, x.2.length ≤ 140737488351232 ∧ x.1.key.size ≤ 140737488351232) := by
    intro Mi hd x hx
    have hmm : datOf x ∈ dat M := by rw [← hd]; exact List.mem_map.2 ⟨x, hx, rfl⟩
    obtain ⟨y, hy, e⟩ := List.mem_map.1 hmm
    unfold datOf at e
    simp only [Prod.mk.injEq] at e
    rw [← e.1, ← e.2.1]
    exact hvm y hy
  have HR := hide hl
  obtain ⟨E, hE⟩ : ∃ E, E = doE (pdat L) (dat M) := ⟨_, rfl⟩
  obtain ⟨X, hX⟩ : ∃ X, X = (if doE (pdat L) (dat M) = 0 then doD (pdat L) (dat M) else []) := ⟨_, rfl⟩
  rw [← hX, ← hE] at HRD
  obtain ⟨p1, c1, rfl, _⟩ := h.shape
  obtain ⟨p2, c2, rfl, _⟩ := h2.shape
  have HE := hide (And.intro hE hX)
  clear h h2 hv hvm hl hlm hE hX
  go_enter Try.func4, Try.ntmps4
  go_wp2_with fail
  refine Calls.mono (unhide HCP) ?_
  rintro e w0 ⟨vi, Li, rfl, hdi, hoi, hb0⟩
  obtain ⟨pi, ci, rfl⟩ := hoi.1.shape
  have HI0 := hide (And.intro hdi (And.intro (hoi.1.el prC_len) hb0))
  clear hdi hoi hb0
  go_wp2_with fail
  refine Calls.mono (unhide HCO _ (unhide HI0).2.2) ?_
  rintro e w1 ⟨vm, Mi, rfl, hdm, hom, hb1⟩
  obtain ⟨pm, cm, rfl⟩ := hom.1.shape
  have hb1w := (unhide HI0).2.2.trans (hb1.mono (unhide HI0).2.2.size)
  have heli := (unhide HI0).2.1.below hb1
  have helm := hom.1.el opC_len
  obtain ⟨hli, hvi⟩ := unhide HI Li (unhide HI0).1
  have hvj := unhide HJ Mi hdm
  have hrm := unhide HR
  have hdo := pdo_any _ _ Li Mi w1 heli helm (by omega) hvi (fun x hx => (hvj x hx).1) (fun x hx => (hvj x hx).2)
  rw [(unhide HI0).1, hdm, ← (unhide HE).2, ← (unhide HE).1] at hdo
  have HDO := hide hdo
  have HM1 := hide (And.intro hdm (And.intro hb1w (fun W (hW : Below w1.heap.size w1 W) => And.intro (heli.below hW) (helm.below hW))))
  clear hdm hom hb1 hb1w heli helm hli hvi hvj hrm hdo
  go_wp2_with fail
  refine Calls.mono (unhide HDO) ?_
  rintro e w5 ⟨vs, Ls, rfl, hds, hos, hb5⟩
  obtain ⟨ps, cs, rfl⟩ := hos.1.shape
  have hl0 : (Ls.length : Int) ≤ 9223372036854775807 := by have := elN (hos.1.el prC_len); omega
  have HS5 := hide (And.intro hds (And.intro hos (And.intro hb5 ((unhide HM1).2.1.trans (hb5.mono (unhide HM1).2.1.size)))))
  clear hds hos hb5
  go_wp2_with fail
  refine Calls.mono (unhide HRD _ (unhide HS5).2.2.2) ?_
  rintro e w6 ⟨vr, Lr, rfl, hdr, her, hb6⟩
  obtain ⟨pr, cr, rfl, _⟩ := her.shape
  have HR6 := hide (And.intro hdr (And.intro her (And.intro hb6 (And.intro ((unhide HS5).2.2.1.trans (hb6.mono (unhide HS5).2.2.1.size)) ((unhide HS5).2.2.2.trans (hb6.mono (unhide HS5).2.2.2.size))))))
  clear hdr her hb6
  go_wp2_with fail
  refine Calls.mono (unhide HAW _) ?_
  rintro e w7 ⟨rfl, hb7⟩
  have HB7 := hide (And.intro ((unhide HR6).2.2.1.trans (hb7.mono (unhide HR6).2.2.1.size)) (And.intro ((unhide HR6).2.2.2.1.trans (hb7.mono (unhide HR6).2.2.2.1.size)) ((unhide HR6).2.2.2.2.trans (hb7.mono (unhide HR6).2.2.2.2.size))))
  have hpr := hpairs_any _ _ Ls Lr w7 (((unhide HS5).2.1.1.el prC_len).below (unhide HB7).1) ((unhide HR6).2.1.below hb7)
  have hT : decide (pdat Ls = pdat Lr) = true := decide_eq_true (by rw [(unhide HS5).1, (unhide HR6).1])
  rw [hT] at hpr
  have HPR := hide hpr
  clear hb7 hpr hT
  go_wp2_with fail
  refine Calls.mono (unhide HPR) ?_
  rintro e w9 ⟨rfl, hb9⟩
  have HB9 := hide (And.intro ((unhide HB7).1.trans (hb9.mono (unhide HB7).1.size)) (And.intro ((unhide HB7).2.1.trans (hb9.mono (unhide HB7).2.1.size)) ((unhide HB7).2.2.trans (hb9.mono (unhide HB7).2.2.size))))
  have HSP : Hid (Spo 37 2 prC w1 w1.heap.size w9 (.slice ps Ls.length cs) Ls 0) := by
    have ho := (unhide HS5).2.1.below (unhide HB9).1
    exact ⟨ho.1.1, fun j x _ hx => ho.2.1 x (List.mem_of_getElem? hx), (unhide HB9).2.1⟩
  clear hb9
  obtain ⟨ll, hlle⟩ : ∃ ll, ll = Ls.length := ⟨_, rfl⟩
  have HLE := hide hlle
  rw [← hlle] at HSP hl0 ⊢
  clear hlle
  go_wp2
  go_loopw [11] (fun ii wr => ∃ (i : Nat), i ≤ ll ∧ ii = .int .i64 i ∧ Hid (Spo 37 2 prC w1 w1.heap.size wr (.slice ps ll cs) Ls i)) (fun ii _ => ll - (intOf ii).toNat)
  case atStart => exact ⟨0, Nat.zero_le _, rfl, HSP⟩
  case round =>
    obtain ⟨i, hil, rfl, hst⟩ := hrel
    by_cases hlt : (i : Int) < (ll : Int)
    · have i1 : i < Ls.length := by have := unhide HLE; omega
      obtain ⟨bl, ol, cl', e1, k1, k0⟩ := (unhide hst).seenQ i1
      simp only [Value.slice.injEq] at e1
      obtain ⟨rfl, e9, rfl⟩ := e1
      clear e9
      have HSK := hide (spoil_keep (vof Ls[i].1) Ls[i].2 w1.heap.size wr ((unhide hst).val i _ (Nat.le_refl _) (List.getElem?_eq_getElem i1)))
      go_wp2_with fail
      refine Calls.mono (unhide HSK) ?_
      rintro e wn ⟨rfl, hsn⟩
      have hnew := (unhide hst).step (unhide hst).bel.size i1 (fun x hx b off e2 hne => by have := ((unhide HS5).2.1.1.2 x hx).2 b off e2 hne; rwa [← unhide HLE] at this) (unhide HS5).2.1.2.2 hsn
      have HN := hide hnew
      clear hnew hsn HSK
      go_wp2
      go_roundw
      case rel => exact ⟨i + 1, by omega, by go_num, HN⟩
      case measure => simp [intOf]; omega
    · have HBE := hide ((unhide hst).bel)
      have hwb := (unhide HM1).2.1.trans ((unhide HBE).mono (unhide HM1).2.1.size)
      have hoi := hpairs_any _ _ Li L wr ((unhide HM1).2.2 _ (unhide HBE)).1 (unhide HEL _ hwb).1
      rw [decide_eq_true (unhide HI0).1] at hoi
      have HOI := hide hoi
      have HOM := hide (fun W (hW : Below wr.heap.size wr W) => hops_any _ _ Mi M W (((unhide HM1).2.2 _ (unhide HBE)).2.below hW) ((unhide HEL _ hwb).2.below hW) (unhide HM1).1)
      have HWB := hide hwb
      clear hoi hwb
      go_wp2_with fail
      refine Calls.mono (unhide HOI) ?_
      rintro e we ⟨rfl, hbe⟩
      have HP2 := hide (unhide HOM we hbe)
      have HBZ := hide ((unhide HWB).trans (hbe.mono (unhide HWB).size))
      clear hbe
      go_wp2_with fail
      refine Calls.mono (unhide HP2) ?_
      rintro e wf ⟨rfl, hbf⟩
      have HBF := hide ((unhide HBZ).trans (hbf.mono (unhide HBZ).size))
      clear hbf
      go_wp2
      go_ret
      exact ⟨rfl, unhide HBF⟩
end Go.Proofs.Ytehafkbndjifaaa
