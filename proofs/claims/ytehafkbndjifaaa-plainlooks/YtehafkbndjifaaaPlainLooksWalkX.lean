/- The walk of the law PlainLooks, of the landed package plain. -/
import Derived.Test.YtehafkbndjifaaaG29
import Derived.Test.YtehafkbndjifaaaG30
namespace Go.Proofs.Ytehafkbndjifaaa
open Go.RowKit

/-- What a row of pairs shows while its values are spoiled. -/
theorem Spo.seenP {w1 wr : World} {base : Nat} {vl : Value} {Ll : List El} {i : Nat} (h : Spo 37 2 prC w1 base wr vl Ll i) (hi : i < Ll.length) :
    ∃ b off cap, vl = .slice (some ⟨b, off, none⟩) Ll.length cap ∧ wr.cell? ⟨b, off + i * 2 + 1, none⟩ = some (vof Ll[i].1) ∧ wr.cell? ⟨b, off + i * 2, none⟩ = some (.string Ll[i].1.key) := by
  obtain ⟨b, off, cap, e, h1, h2, hc⟩ := (krow_of_owns h.row (elC_len prC_len Ll)).open (by omega)
  have hg : ∀ q u, q < 2 → (prC Ll[i].1)[q]? = some u → wr.cell? ⟨b, off + i * 2 + q, none⟩ = some u := fun q u hq hu => by
    have := hc (i * 2 + q) u (by rw [elC_get prC_len Ll i hi q hq]; exact hu)
    rwa [← Nat.add_assoc] at this
  exact ⟨b, off, cap, e, hg 1 _ (by omega) rfl, hg 0 _ (by omega) rfl⟩
/-- Behind the spoiling of a value that lies elsewhere. -/
theorem spo_after {T k : Nat} {cf : Opv → List Value} {w1 wN w' : World} {base4 base : Nat} {vs t1 : Value} {Ls : List El} {bs : List UInt8} (ho : OO T k cf wN base4 vs Ls) (hb : Below w1.heap.size w1 wN) (h14 : w1.heap.size ≤ base4)
    (hs : (bs = [] ∧ w' = wN) ∨ bs ≠ [] ∧ ∃ g off n c, t1 = .slice (some ⟨g, off, none⟩) n c ∧ base ≤ g ∧ g < wN.heap.size ∧ Keep (fun k => k = g) wN w') (hg : ∀ g off n c, t1 = .slice (some ⟨g, off, none⟩) n c → bs ≠ [] → w1.heap.size ≤ g ∧ g < base4) :
    Spo T k cf w1 w1.heap.size w' vs Ls 0 := by
  have hob := ho.base h14
  rcases hs with ⟨_, rfl⟩ | ⟨hne, g, off, n, c, e, _, hgl, hk⟩
  · exact ⟨hob.1.1, fun j x _ hx => hob.2.1 x (List.mem_of_getElem? hx), hb⟩
  · obtain ⟨g1, g2⟩ := hg g off n c e hne
    refine ⟨owns_keep6 hob.1.1 hk (fun q hq e2 => ?_), fun j x _ hx => ?_, hb.trans (hk.below hb.size (fun q e2 => by omega))⟩
    · have := (ho.1.1.lt q hq).1
      omega
    · have hm := ho.2.1 x (List.mem_of_getElem? hx)
      refine (hob.2.1 x (List.mem_of_getElem? hx)).keep6 hk (fun b off' n' c' e' hne2 e2 => ?_)
      have hp' : x.1.p = some ⟨b, off', none⟩ := by unfold vof at e'; simp only [Value.slice.injEq] at e'; exact e'.1
      have := hm.blk b off' hne2 hp'
      omega

set_option maxRecDepth 20000 in
set_option maxHeartbeats 4000000 in
theorem plooks_any (v : Value) (L : List El) (key lo hi : ByteArray) (most : Int) (hm : most ≤ 9223372036854775807) (w : World) (h : EL 2 prC w v L) (hv : ∀ x ∈ L, x.2.length ≤ 140737488351232) (hks : ∀ x ∈ L, x.1.key.size ≤ 140737488351232) (hroom : L.length * 40 ≤ 140737488355328) :
    Calls Try.prog 3 #[v, .string key, .string lo, .string hi, .int .i64 most] w fun e w' => e = .returned (.bool true) ∧ Below w.heap.size w w' := by
  have HCP := hide (copypairs_any v L w h hroom hv)
  have HAW := hide pawake_any
  have HRR := hide (fun W hW => rright_any v L W (h.below hW) hks)
  have HRG := hide (fun W hW => rget_any v L key W (h.below hW) hks hv)
  have HRS := hide (fun W hW => rscan_any v L lo hi most W (h.below hW) hks hv hroom)
  have HRB := hide (fun W hW => rbytes_any v L W (h.below hW) hks hroom)
  have HEL : Hid (∀ W, Below w.heap.size w W → EL 2 prC W v L) := fun W hb => h.below hb
  have HI : Hid (∀ (Li : List El), pdat Li = pdat L → Li.length = L.length ∧ ∀ x ∈ Li, x.2.length ≤ 140737488351232) := by
    intro Li hd
    refine ⟨by rw [← pdat_len, hd, pdat_len], fun x hx => ?_⟩
    have hmm : (x.1.key, x.2) ∈ pdat L := by rw [← hd]; exact List.mem_map.2 ⟨x, hx, rfl⟩
    obtain ⟨y, hy, e⟩ := List.mem_map.1 hmm
    simp only [Prod.mk.injEq] at e
    rw [← e.2]
    exact hv y hy
  have HR := hide hroom
  obtain ⟨G, hG⟩ : ∃ G, G = getR (pdat L) key.toList := ⟨_, rfl⟩
  obtain ⟨X, hX⟩ : ∃ X, X = (if rightD (pdat L) then scanD (pdat L) lo.toList hi.toList most.toNat else []) := ⟨_, rfl⟩
  obtain ⟨BY, hBY⟩ : ∃ BY : Int, BY = if rightD (pdat L) then (bytesP (pdat L) : Int) else 0 := ⟨_, rfl⟩
  rw [← hG] at HRG
  rw [← hX] at HRS
  rw [← hBY] at HRB
  obtain ⟨p1, c1, rfl, _⟩ := h.shape
  have HE := hide (And.intro hG (And.intro hX hBY))
  clear h hv hks hroom hG hX hBY
  cases hRt : rightD (pdat L) with
  | false =>
    rw [hRt] at HRR
    have HRT := hide hRt
    clear hRt
    go_enter Try.func3, Try.ntmps3
    go_wp2_with fail
    refine Calls.mono (unhide HCP) ?_
    rintro e w1 ⟨vi, Li, rfl, hdi, hoi, hb1⟩
    obtain ⟨hli, hvi⟩ := unhide HI Li hdi
    have heli := hoi.1.el prC_len
    obtain ⟨pi, ci, rfl⟩ := hoi.1.shape
    have hrm := unhide HR
    have HB1 := hide hb1
    have HELI : Hid (∀ W, Below w1.heap.size w1 W → EL 2 prC W (.slice pi Li.length ci) Li) := fun W hb => heli.below hb
    have HPG := hide (fun W hW => pget_any _ Li key W (heli.below hW) (by omega) hvi)
    have HPS := hide (fun W hW => pscan_any _ Li lo hi most hm W (heli.below hW) (by omega) hvi)
    have HPC := hide (fun W hW => pcheck_any _ Li W (heli.below hW))
    have HPB := hide (fun W hW => pbytes_any _ Li W (heli.below hW) (by omega))
    rw [hdi] at HPG HPS HPC HPB
    rw [← (unhide HE).1] at HPG
    rw [← (unhide HE).2.1] at HPS
    rw [← (unhide HE).2.2] at HPB
    rw [unhide HRT] at HPC
    simp only [Bool.false_eq_true, if_false] at HPC
    have HDI := hide hdi
    clear hdi hoi hb1 hli hvi heli hrm HCP
    go_wp2_with fail
    refine Calls.mono (unhide HRR _ (unhide HB1)) ?_
    rintro e w2 ⟨rfl, hb2⟩
    have HB2 := hide (And.intro hb2 ((unhide HB1).trans (hb2.mono (unhide HB1).size)))
    clear hb2
    go_wp2_with fail
    refine Calls.mono (unhide HPG _ (unhide HB2).1) ?_
    rintro e w3 ⟨t1, rfl, hm3, hb3⟩
    obtain ⟨tp, tn, tc, rfl⟩ := mine_opv hm3
    have HM3 := hide (And.intro hm3 (And.intro ((unhide HB2).1.trans (hb3.mono (unhide HB2).1.size)) ((unhide HB2).2.trans (hb3.mono (unhide HB2).2.size))))
    clear hm3 hb3
    go_wp2_with fail
    refine Calls.mono (unhide HRG _ (unhide HM3).2.2) ?_
    rintro e w4 ⟨t2, rfl, hm4, hb4⟩
    obtain ⟨tp', tn', tc', rfl⟩ := mine_opv hm4
    have HM4 := hide (And.intro hm4.1 (And.intro hb4 (And.intro ((unhide HM3).2.1.trans (hb4.mono (unhide HM3).2.1.size)) ((unhide HM3).2.2.trans (hb4.mono (unhide HM3).2.2.size)))))
    clear hm4 hb4
    go_wp2_with fail
    refine Calls.mono (unhide HPS _ (unhide HM4).2.2.1) ?_
    rintro e w5 ⟨vs, Ls, rfl, hds, hos, hb5⟩
    obtain ⟨ps, cs, rfl⟩ := hos.1.shape
    have hl0 : (Ls.length : Int) ≤ 9223372036854775807 := by have := elN (hos.1.el prC_len); omega
    have HS5 := hide (And.intro hds (And.intro hos (And.intro hb5 (And.intro ((unhide HM4).2.2.1.trans (hb5.mono (unhide HM4).2.2.1.size)) ((unhide HM4).2.2.2.trans (hb5.mono (unhide HM4).2.2.2.size))))))
    clear hds hos hb5
    go_wp2_with fail
    refine Calls.mono (unhide HAW _) ?_
    rintro e w6 ⟨rfl, hb6⟩
    have HB6 := hide (And.intro hb6 (And.intro ((unhide HS5).2.2.2.1.trans (hb6.mono (unhide HS5).2.2.2.1.size)) ((unhide HS5).2.2.2.2.trans (hb6.mono (unhide HS5).2.2.2.2.size))))
    clear hb6
    go_wp2_with fail
    refine Calls.mono (unhide HPC _ (unhide HB6).2.1) ?_
    rintro e w7 ⟨rfl, hb7⟩
    have HB7 := hide (And.intro ((unhide HB6).1.trans (hb7.mono (unhide HB6).1.size)) (And.intro ((unhide HB6).2.1.trans (hb7.mono (unhide HB6).2.1.size)) ((unhide HB6).2.2.trans (hb7.mono (unhide HB6).2.2.size))))
    have hb57 := (unhide HB7).1
    have hb37 : Below w4.heap.size w4 w7 := (unhide HS5).2.2.1.trans (hb57.mono (unhide HS5).2.2.1.size)
    have HYB := hide (bytes_any _ _ _ _ w7 (((unhide HM3).1.1.below (unhide HM4).2.1).below hb37) ((unhide HM4).1.below hb37))
    have hbq : (G.getD [] == G.getD []) = true := by simp
    rw [hbq] at HYB
    clear hb7 hb57 hb37 hbq
    go_wp2_with fail
    refine Calls.mono (unhide HYB) ?_
    rintro e w8 ⟨rfl, rfl⟩
    have hne : (G.isSome != G.isSome) = false := by simp
    obtain ⟨IS, hIS⟩ : ∃ IS, IS = G.isSome := ⟨_, rfl⟩
    rw [← hIS] at hne ⊢
    clear hIS
    go_wp2_with fail
    refine Calls.mono (unhide HRS _ (unhide HB7).2.2) ?_
    rintro e w9 ⟨vr, Lr, rfl, hdr, hor, hb9⟩
    obtain ⟨pr, cr, rfl⟩ := hor.1.shape
    have HB9 := hide (And.intro ((unhide HB7).1.trans (hb9.mono (unhide HB7).1.size)) (And.intro ((unhide HB7).2.1.trans (hb9.mono (unhide HB7).2.1.size)) ((unhide HB7).2.2.trans (hb9.mono (unhide HB7).2.2.size))))
    have hpr := hpairs_any _ _ Ls Lr w9 (((unhide HS5).2.1.1.el prC_len).below (unhide HB9).1) (hor.1.el prC_len)
    have hT : decide (pdat Ls = pdat Lr) = true := decide_eq_true (by rw [(unhide HS5).1, hdr])
    rw [hT] at hpr
    have HPR := hide hpr
    clear hdr hor hb9 hpr hT
    go_wp2_with fail
    refine Calls.mono (unhide HPR) ?_
    rintro e w10 ⟨rfl, hb10⟩
    have HB10 := hide (And.intro ((unhide HB9).1.trans (hb10.mono (unhide HB9).1.size)) (And.intro ((unhide HB9).2.1.trans (hb10.mono (unhide HB9).2.1.size)) ((unhide HB9).2.2.trans (hb10.mono (unhide HB9).2.2.size))))
    clear hb10
    go_wp2_with fail
    refine Calls.mono (unhide HPB _ (unhide HB10).2.1) ?_
    rintro e w11 ⟨rfl, hb11⟩
    have HB11 := hide (And.intro ((unhide HB10).1.trans (hb11.mono (unhide HB10).1.size)) (And.intro ((unhide HB10).2.1.trans (hb11.mono (unhide HB10).2.1.size)) ((unhide HB10).2.2.trans (hb11.mono (unhide HB10).2.2.size))))
    clear hb11
    go_wp2_with fail
    refine Calls.mono (unhide HRB _ (unhide HB11).2.2) ?_
    rintro e w12 ⟨rfl, hb12⟩
    have HB12 := hide (And.intro ((unhide HB11).1.trans (hb12.mono (unhide HB11).1.size)) (And.intro ((unhide HB11).2.1.trans (hb12.mono (unhide HB11).2.1.size)) ((unhide HB11).2.2.trans (hb12.mono (unhide HB11).2.2.size))))
    have hb312 : Below w3.heap.size w3 w12 := (unhide HM4).2.1.trans (((unhide HS5).2.2.1.trans ((unhide HB12).1.mono (unhide HS5).2.2.1.size)).mono (unhide HM4).2.1.size)
    have HSP0 := hide (spoil_keep _ _ _ w12 ((unhide HM3).1.below hb312))
    clear hb12 hb312
    go_wp2_with fail
    refine Calls.mono (unhide HSP0) ?_
    rintro e w13 ⟨rfl, hs13⟩
    have hspo := spo_after ((unhide HS5).2.1.below (unhide HB12).1) (unhide HB12).2.1 (unhide HM4).2.2.1.size hs13 (fun g off n c e hne => by
      have h9 := (unhide HM3).1
      rw [e] at h9
      have a1 := Mine.blk (o := ⟨⟨#[]⟩, some ⟨g, off, none⟩, n, c, false⟩) h9 g off hne rfl
      have a2 := row_block_lt h9.1 rfl hne
      have a3 := (unhide HM4).2.1.size
      have a4 := (unhide HB2).1.size
      omega)
    have HSP := hide hspo
    clear hs13 hspo
    obtain ⟨ll, hlle⟩ : ∃ ll, ll = Ls.length := ⟨_, rfl⟩
    have HLE := hide hlle
    rw [← hlle] at HSP hl0 ⊢
    clear hlle
    go_wp2
    go_loopw [18] (fun ii wr => ∃ (i : Nat), i ≤ ll ∧ ii = .int .i64 i ∧ Hid (Spo 37 2 prC w1 w1.heap.size wr (.slice ps ll cs) Ls i)) (fun ii _ => ll - (intOf ii).toNat)
    case atStart => exact ⟨0, Nat.zero_le _, rfl, HSP⟩
    case round =>
      obtain ⟨i, hil, rfl, hst⟩ := hrel
      by_cases hlt : (i : Int) < (ll : Int)
      · have i1 : i < Ls.length := by have := unhide HLE; omega
        obtain ⟨bl, ol, cl', e1, k1, k0⟩ := (unhide hst).seenP i1
        simp only [Value.slice.injEq] at e1
        obtain ⟨rfl, e9, rfl⟩ := e1
        clear e9
        have HSK := hide (spoil_keep (vof Ls[i].1) Ls[i].2 w1.heap.size wr ((unhide hst).val i _ (Nat.le_refl _) (List.getElem?_eq_getElem i1)))
        go_wp2_with fail
        refine Calls.mono (unhide HSK) ?_
        rintro e wn ⟨rfl, hsn⟩
        have hnew := (unhide hst).step (unhide hst).bel.size i1 (fun x hx b off e2 hne => by have := ((unhide HS5).2.1.1.2 x hx).2 b off e2 hne; rwa [← unhide HLE] at this) (unhide HS5).2.1.2.2 hsn
        have HN := hide hnew
        clear hnew hsn HSK
        go_wp2
        go_roundw
        case rel => exact ⟨i + 1, by omega, by go_num, HN⟩
        case measure => simp [intOf]; omega
      · have HBE := hide ((unhide hst).bel)
        have hoi := hpairs_any _ _ Li L wr (unhide HELI _ (unhide HBE)) (unhide HEL _ ((unhide HB1).trans ((unhide HBE).mono (unhide HB1).size)))
        rw [decide_eq_true (unhide HDI)] at hoi
        have HOI := hide hoi
        clear hoi
        go_wp2_with fail
        refine Calls.mono (unhide HOI) ?_
        rintro e we ⟨rfl, hbe⟩
        have HBZ := hide ((unhide HB1).trans (((unhide HBE).trans (hbe.mono (unhide HBE).size)).mono (unhide HB1).size))
        clear hbe
        go_wp2
        go_ret
        exact ⟨rfl, unhide HBZ⟩
  | true =>
    rw [hRt] at HRR
    have HRT := hide hRt
    clear hRt
    go_enter Try.func3, Try.ntmps3
    go_wp2_with fail
    refine Calls.mono (unhide HCP) ?_
    rintro e w1 ⟨vi, Li, rfl, hdi, hoi, hb1⟩
    obtain ⟨hli, hvi⟩ := unhide HI Li hdi
    have heli := hoi.1.el prC_len
    obtain ⟨pi, ci, rfl⟩ := hoi.1.shape
    have hrm := unhide HR
    have HB1 := hide hb1
    have HELI : Hid (∀ W, Below w1.heap.size w1 W → EL 2 prC W (.slice pi Li.length ci) Li) := fun W hb => heli.below hb
    have HPG := hide (fun W hW => pget_any _ Li key W (heli.below hW) (by omega) hvi)
    have HPS := hide (fun W hW => pscan_any _ Li lo hi most hm W (heli.below hW) (by omega) hvi)
    have HPC := hide (fun W hW => pcheck_any _ Li W (heli.below hW))
    have HPB := hide (fun W hW => pbytes_any _ Li W (heli.below hW) (by omega))
    rw [hdi] at HPG HPS HPC HPB
    rw [← (unhide HE).1] at HPG
    rw [← (unhide HE).2.1] at HPS
    rw [← (unhide HE).2.2] at HPB
    rw [unhide HRT] at HPC
    simp only [if_true] at HPC
    have HDI := hide hdi
    clear hdi hoi hb1 hli hvi heli hrm HCP
    go_wp2_with fail
    refine Calls.mono (unhide HRR _ (unhide HB1)) ?_
    rintro e w2 ⟨rfl, hb2⟩
    have HB2 := hide (And.intro hb2 ((unhide HB1).trans (hb2.mono (unhide HB1).size)))
    clear hb2
    go_wp2_with fail
    refine Calls.mono (unhide HPG _ (unhide HB2).1) ?_
    rintro e w3 ⟨t1, rfl, hm3, hb3⟩
    obtain ⟨tp, tn, tc, rfl⟩ := mine_opv hm3
    have HM3 := hide (And.intro hm3 (And.intro ((unhide HB2).1.trans (hb3.mono (unhide HB2).1.size)) ((unhide HB2).2.trans (hb3.mono (unhide HB2).2.size))))
    clear hm3 hb3
    go_wp2_with fail
    refine Calls.mono (unhide HRG _ (unhide HM3).2.2) ?_
    rintro e w4 ⟨t2, rfl, hm4, hb4⟩
    obtain ⟨tp', tn', tc', rfl⟩ := mine_opv hm4
    have HM4 := hide (And.intro hm4.1 (And.intro hb4 (And.intro ((unhide HM3).2.1.trans (hb4.mono (unhide HM3).2.1.size)) ((unhide HM3).2.2.trans (hb4.mono (unhide HM3).2.2.size)))))
    clear hm4 hb4
    go_wp2_with fail
    refine Calls.mono (unhide HPS _ (unhide HM4).2.2.1) ?_
    rintro e w5 ⟨vs, Ls, rfl, hds, hos, hb5⟩
    obtain ⟨ps, cs, rfl⟩ := hos.1.shape
    have hl0 : (Ls.length : Int) ≤ 9223372036854775807 := by have := elN (hos.1.el prC_len); omega
    have HS5 := hide (And.intro hds (And.intro hos (And.intro hb5 (And.intro ((unhide HM4).2.2.1.trans (hb5.mono (unhide HM4).2.2.1.size)) ((unhide HM4).2.2.2.trans (hb5.mono (unhide HM4).2.2.2.size))))))
    clear hds hos hb5
    go_wp2_with fail
    refine Calls.mono (unhide HAW _) ?_
    rintro e w6 ⟨rfl, hb6⟩
    have HB6 := hide (And.intro hb6 (And.intro ((unhide HS5).2.2.2.1.trans (hb6.mono (unhide HS5).2.2.2.1.size)) ((unhide HS5).2.2.2.2.trans (hb6.mono (unhide HS5).2.2.2.2.size))))
    clear hb6
    go_wp2_with fail
    refine Calls.mono (unhide HPC _ (unhide HB6).2.1) ?_
    rintro e w7 ⟨rfl, hb7⟩
    have HB7 := hide (And.intro ((unhide HB6).1.trans (hb7.mono (unhide HB6).1.size)) (And.intro ((unhide HB6).2.1.trans (hb7.mono (unhide HB6).2.1.size)) ((unhide HB6).2.2.trans (hb7.mono (unhide HB6).2.2.size))))
    have hb57 := (unhide HB7).1
    have hb37 : Below w4.heap.size w4 w7 := (unhide HS5).2.2.1.trans (hb57.mono (unhide HS5).2.2.1.size)
    have HYB := hide (bytes_any _ _ _ _ w7 (((unhide HM3).1.1.below (unhide HM4).2.1).below hb37) ((unhide HM4).1.below hb37))
    have hbq : (G.getD [] == G.getD []) = true := by simp
    rw [hbq] at HYB
    clear hb7 hb57 hb37 hbq
    go_wp2_with fail
    refine Calls.mono (unhide HYB) ?_
    rintro e w8 ⟨rfl, rfl⟩
    have hne : (G.isSome != G.isSome) = false := by simp
    obtain ⟨IS, hIS⟩ : ∃ IS, IS = G.isSome := ⟨_, rfl⟩
    rw [← hIS] at hne ⊢
    clear hIS
    go_wp2_with fail
    refine Calls.mono (unhide HRS _ (unhide HB7).2.2) ?_
    rintro e w9 ⟨vr, Lr, rfl, hdr, hor, hb9⟩
    obtain ⟨pr, cr, rfl⟩ := hor.1.shape
    have HB9 := hide (And.intro ((unhide HB7).1.trans (hb9.mono (unhide HB7).1.size)) (And.intro ((unhide HB7).2.1.trans (hb9.mono (unhide HB7).2.1.size)) ((unhide HB7).2.2.trans (hb9.mono (unhide HB7).2.2.size))))
    have hpr := hpairs_any _ _ Ls Lr w9 (((unhide HS5).2.1.1.el prC_len).below (unhide HB9).1) (hor.1.el prC_len)
    have hT : decide (pdat Ls = pdat Lr) = true := decide_eq_true (by rw [(unhide HS5).1, hdr])
    rw [hT] at hpr
    have HPR := hide hpr
    clear hdr hor hb9 hpr hT
    go_wp2_with fail
    refine Calls.mono (unhide HPR) ?_
    rintro e w10 ⟨rfl, hb10⟩
    have HB10 := hide (And.intro ((unhide HB9).1.trans (hb10.mono (unhide HB9).1.size)) (And.intro ((unhide HB9).2.1.trans (hb10.mono (unhide HB9).2.1.size)) ((unhide HB9).2.2.trans (hb10.mono (unhide HB9).2.2.size))))
    clear hb10
    go_wp2_with fail
    refine Calls.mono (unhide HPB _ (unhide HB10).2.1) ?_
    rintro e w11 ⟨rfl, hb11⟩
    have HB11 := hide (And.intro ((unhide HB10).1.trans (hb11.mono (unhide HB10).1.size)) (And.intro ((unhide HB10).2.1.trans (hb11.mono (unhide HB10).2.1.size)) ((unhide HB10).2.2.trans (hb11.mono (unhide HB10).2.2.size))))
    clear hb11
    go_wp2_with fail
    refine Calls.mono (unhide HRB _ (unhide HB11).2.2) ?_
    rintro e w12 ⟨rfl, hb12⟩
    have HB12 := hide (And.intro ((unhide HB11).1.trans (hb12.mono (unhide HB11).1.size)) (And.intro ((unhide HB11).2.1.trans (hb12.mono (unhide HB11).2.1.size)) ((unhide HB11).2.2.trans (hb12.mono (unhide HB11).2.2.size))))
    have hb312 : Below w3.heap.size w3 w12 := (unhide HM4).2.1.trans (((unhide HS5).2.2.1.trans ((unhide HB12).1.mono (unhide HS5).2.2.1.size)).mono (unhide HM4).2.1.size)
    have HSP0 := hide (spoil_keep _ _ _ w12 ((unhide HM3).1.below hb312))
    clear hb12 hb312
    go_wp2_with fail
    refine Calls.mono (unhide HSP0) ?_
    rintro e w13 ⟨rfl, hs13⟩
    have hspo := spo_after ((unhide HS5).2.1.below (unhide HB12).1) (unhide HB12).2.1 (unhide HM4).2.2.1.size hs13 (fun g off n c e hne => by
      have h9 := (unhide HM3).1
      rw [e] at h9
      have a1 := Mine.blk (o := ⟨⟨#[]⟩, some ⟨g, off, none⟩, n, c, false⟩) h9 g off hne rfl
      have a2 := row_block_lt h9.1 rfl hne
      have a3 := (unhide HM4).2.1.size
      have a4 := (unhide HB2).1.size
      omega)
    have HSP := hide hspo
    clear hs13 hspo
    obtain ⟨ll, hlle⟩ : ∃ ll, ll = Ls.length := ⟨_, rfl⟩
    have HLE := hide hlle
    rw [← hlle] at HSP hl0 ⊢
    clear hlle
    go_wp2
    go_loopw [18] (fun ii wr => ∃ (i : Nat), i ≤ ll ∧ ii = .int .i64 i ∧ Hid (Spo 37 2 prC w1 w1.heap.size wr (.slice ps ll cs) Ls i)) (fun ii _ => ll - (intOf ii).toNat)
    case atStart => exact ⟨0, Nat.zero_le _, rfl, HSP⟩
    case round =>
      obtain ⟨i, hil, rfl, hst⟩ := hrel
      by_cases hlt : (i : Int) < (ll : Int)
      · have i1 : i < Ls.length := by have := unhide HLE; omega
        obtain ⟨bl, ol, cl', e1, k1, k0⟩ := (unhide hst).seenP i1
        simp only [Value.slice.injEq] at e1
        obtain ⟨rfl, e9, rfl⟩ := e1
        clear e9
        have HSK := hide (spoil_keep (vof Ls[i].1) Ls[i].2 w1.heap.size wr ((unhide hst).val i _ (Nat.le_refl _) (List.getElem?_eq_getElem i1)))
        go_wp2_with fail
        refine Calls.mono (unhide HSK) ?_
        rintro e wn ⟨rfl, hsn⟩
        have hnew := (unhide hst).step (unhide hst).bel.size i1 (fun x hx b off e2 hne => by have := ((unhide HS5).2.1.1.2 x hx).2 b off e2 hne; rwa [← unhide HLE] at this) (unhide HS5).2.1.2.2 hsn
        have HN := hide hnew
        clear hnew hsn HSK
        go_wp2
        go_roundw
        case rel => exact ⟨i + 1, by omega, by go_num, HN⟩
        case measure => simp [intOf]; omega
      · have HBE := hide ((unhide hst).bel)
        have hoi := hpairs_any _ _ Li L wr (unhide HELI _ (unhide HBE)) (unhide HEL _ ((unhide HB1).trans ((unhide HBE).mono (unhide HB1).size)))
        rw [decide_eq_true (unhide HDI)] at hoi
        have HOI := hide hoi
        clear hoi
        go_wp2_with fail
        refine Calls.mono (unhide HOI) ?_
        rintro e we ⟨rfl, hbe⟩
        have HBZ := hide ((unhide HB1).trans (((unhide HBE).trans (hbe.mono (unhide HBE).size)).mono (unhide HB1).size))
        clear hbe
        go_wp2
        go_ret
        exact ⟨rfl, unhide HBZ⟩

theorem walk_PlainLooks (s0 : Value) (d0 : Dt) (a1 : ByteArray) (a2 : ByteArray) (a3 : ByteArray) (a4 : Int) (w4 : (Lit.int .i64 a4).wf = true) (w : World) (h0 : Reads limSaid w (.row 40 prSh) [s0] d0) (_h1 : a1.size ≤ 140737488351232) (_h2 : a2.size ≤ 140737488351232) (_h3 : a3.size ≤ 140737488351232) :
    Calls Try.prog 3 #[s0, .string a1, .string a2, .string a3, .int .i64 a4] w fun e w' => e = .returned (.bool true) ∧ Below w.heap.size w w' := by
  obtain ⟨L, e0, o0, l0⟩ := prs_of_reads lim_said h0
  unfold limSaid reachBytes at l0
  exact plooks_any s0 L a1 a2 a3 a4 (by simp [Lit.wf, IntKind.min, IntKind.max, IntKind.signed, IntKind.bits] at w4; omega) w e0 (fun x hx => (o0 x hx).2.1) (fun x hx => (o0 x hx).2.2) (by omega)
end Go.Proofs.Ytehafkbndjifaaa
