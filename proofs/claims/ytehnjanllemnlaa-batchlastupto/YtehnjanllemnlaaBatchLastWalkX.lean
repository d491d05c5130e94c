/- The walk of the law BatchLast, of the landed package batch. -/
import Derived.Test.YtehnjanllemnlaaG16
import Derived.Test.YtehnjanllemnlaaG29
import Derived.Test.YtehnjanllemnlaaG33
import Derived.Test.YtehnjanllemnlaaG34
import Derived.Laws.Cover1
namespace Go.Proofs.Ytehnjanllemnlaa
open Go.RowKit

theorem hop_same {x y : El} {w : World} (hx : Row w (vof x.1) x.2) (hy : Row w (vof y.1) y.2) (e : datOf x = datOf y) :
    Calls Try.prog 22 #[.agg (opA x.1), .agg (opA y.1)] w fun e w' => e = .returned (.bool true) ∧ Below w.heap.size w w' := by
  have := hop_any x y w hx hy
  have h : eqD x y = true := by
    unfold datOf at e
    simp only [Prod.mk.injEq] at e
    obtain ⟨e1, e2, e3⟩ := e
    unfold eqD
    simp [e1, e2, e3]
  rwa [h] at this

theorem dat_bound {L L' : List El} {n : Nat} (h : ∀ d ∈ dat L', d ∈ dat L) (hL : ∀ x ∈ L, x.2.length ≤ n) : ∀ x ∈ L', x.2.length ≤ n := by
  intro x hx
  have hq := h (datOf x) (by unfold dat; exact List.mem_map.2 ⟨x, hx, rfl⟩)
  unfold dat at hq
  obtain ⟨y, hy, e⟩ := List.mem_map.1 hq
  have := hL y hy
  unfold datOf at e
  simp only [Prod.mk.injEq] at e
  rw [← e.2.1]
  exact this
theorem last_mem {l : List Dat} {d : Dat} (h : d ∈ lastD l) : d ∈ l := by
  obtain ⟨t, ht, _⟩ := ((lastD_all l).2 d).1 h
  exact List.mem_of_getElem? ht
theorem el_append {w w2 : World} {base : Nat} {v v' : Value} {L M : List El} (h : EO 32 3 opC w base v L) (hM : ∀ x ∈ M, Row w (vof x.1) x.2) (hap : ∀ x ∈ M, ∀ b off, x.1.p = some ⟨b, off, none⟩ → x.2 ≠ [] → v.ownBlock ≠ some b)
    (hown : w2.ownsRow base 32 3 v' (L.length + M.length) (elC opC L ++ elC opC M)) (hg : w.grownBy w2 v.ownBlock) (hv : v'.ownBlock = v.ownBlock ∨ v'.ownBlock = some w.heap.size) : EO 32 3 opC w2 base v' (L ++ M) :=
  h.more (fun x hx => ⟨hM x hx, hap x hx⟩) hown hg hv

set_option maxRecDepth 20000 in
set_option maxHeartbeats 4000000 in
theorem blaw_any (v1 v2 : Value) (A M : List El) (w : World) (h1 : EL 3 opC w v1 A) (h2 : EL 3 opC w v2 M) (ha : ∀ x ∈ A, x.2.length ≤ 140737488351232) (hm : ∀ x ∈ M, x.2.length ≤ 140737488351232) (la : A.length ≤ 1048576) (lm : M.length ≤ 1048576) :
    Calls Try.prog 5 #[v1, v2] w fun e w' => e = .returned (.bool true) ∧ Below w.heap.size w w' := by
  have HL1 := hide (blast_any v1 A w h1 (by omega) ha)
  have H1 : Hid (∀ W, Below w.heap.size w W → EL 3 opC W v1 A) := fun W hb => h1.below hb
  have H2 : Hid (∀ W, Below w.heap.size w W → EL 3 opC W v2 M) := fun W hb => h2.below hb
  have HCP := hide (fun W hb => copyops_any v1 A W (h1.below hb) (by omega) ha)
  have HLM := hide (fun W hb => blast_any v2 M W (h2.below hb) (by omega) hm)
  obtain ⟨p1, c1, rfl, _⟩ := h1.shape
  obtain ⟨p2, c2, rfl, _⟩ := h2.shape
  have HSZ := hide (And.intro la (And.intro lm (And.intro ha hm)))
  obtain ⟨i0, hi, hz0, hz1, hz2⟩ := info_parts Try.info32
  clear h1 h2 ha hm la lm
  go_enter Try.func5, Try.ntmps5
  go_wp2_with fail
  refine Calls.mono (unhide HL1) ?_
  rintro e w1 ⟨vl, Ll, rfl, hdl, hll, hool, hb1⟩
  obtain ⟨pl, cl, rfl⟩ := hool.1.shape
  have hell := hool.1.el opC_len
  have hvl : ∀ x ∈ Ll, x.2.length ≤ 140737488351232 := by
    intro x hx
    have hq : datOf x ∈ dat Ll := by unfold dat; exact List.mem_map.2 ⟨x, hx, rfl⟩
    rw [hdl, (lastD_all (dat A)).2] at hq
    obtain ⟨t, ht, _⟩ := hq
    have hm := List.mem_of_getElem? ht
    unfold dat at hm
    obtain ⟨y, hy, e⟩ := List.mem_map.1 hm
    have := (unhide HSZ).2.2.1 y hy
    unfold datOf at e
    simp only [Prod.mk.injEq] at e
    rw [← e.2.1]
    exact this
  obtain ⟨la, lm, _, _⟩ := unhide HSZ
  have HLL : Hid (∀ W, Below w1.heap.size w1 W → EL 3 opC W (.slice pl Ll.length cl) Ll) := fun W hb => hell.below hb
  have HL2 := hide (fun W hb => blast_any _ Ll W (hell.below hb) (by omega) hvl)
  have HCL := hide (fun W hb => copyops_any _ Ll W (hell.below hb) (by omega) hvl)
  have HD := hide (And.intro hdl hll)
  have HB1 := hide hb1
  clear hdl hll hool hb1 hell hvl la lm HL1
  go_wp2_with fail
  refine Calls.mono (bawake_any _) ?_
  rintro e w2 ⟨rfl, hb2⟩
  have HB2 := hide hb2
  clear hb2
  go_wp2_with fail
  refine Calls.mono (unhide HL2 _ (unhide HB2)) ?_
  rintro e w3 ⟨v3, L3, rfl, hd3, hl3, hoo3, hb3⟩
  obtain ⟨p3, c3, rfl⟩ := hoo3.1.shape
  have hb13 := (unhide HB2).trans (hb3.mono (unhide HB2).size)
  have HOP := hide (hops_any _ _ L3 Ll w3 (hoo3.1.el opC_len) (unhide HLL _ hb13) (by rw [hd3, (unhide HD).1, last_last]))
  have HB3 := hide hb13
  clear hd3 hl3 hoo3 hb3 hb13 HB2 HL2
  go_wp2_with (go_at_call 14; refine Calls.mono (unhide HOP) ?_; rintro e w4 ⟨rfl, hb4⟩; have HB4 := hide ((unhide HB3).trans (hb4.mono (unhide HB3).size)); clear hb4)
  clear HB3 HOP
  obtain ⟨ll, hlle⟩ : ∃ ll, ll = Ll.length := ⟨_, rfl⟩
  obtain ⟨lA, hlA⟩ : ∃ lA, lA = A.length := ⟨_, rfl⟩
  have HLE := hide (And.intro hlle hlA)
  rw [← hlle] at HLL HCL ⊢
  rw [← hlA] at H1 HCP ⊢
  have hll0 : (ll : Int) ≤ 1048576 := by have := unhide HSZ; have := (unhide HD).2; omega
  have hlA0 : (lA : Int) ≤ 1048576 := by have := unhide HSZ; omega
  clear hlle hlA
  go_loopw [6] (fun ii wr => ∃ i : Nat, i ≤ ll ∧ ii = .int .i64 i ∧ Hid (Below w1.heap.size w1 wr)) (fun ii _ => ll - (intOf ii).toNat)
  case atStart => exact ⟨0, Nat.zero_le _, rfl, unhide HB4⟩
  case round =>
    obtain ⟨i, hil, rfl, hbr⟩ := hrel
    clear HB4
    by_cases hlt : (i : Int) < (ll : Int)
    · obtain ⟨hlle, hlA⟩ := unhide HLE
      have i1 : i < Ll.length := by omega
      have hLk : Lk (dat A) (datOf Ll[i]) := by
        rw [← (lastD_all (dat A)).2, ← (unhide HD).1]
        unfold dat
        exact List.mem_map.2 ⟨_, List.getElem_mem i1, rfl⟩
      obtain ⟨t, hat, hdt⟩ := atK_last _ _ hLk
      rw [dat_len, ← hlA] at hat
      have ht : t < A.length := by have := (List.getElem?_eq_some_iff.1 hdt).1; rwa [dat_len] at this
      have hda : datOf A[t] = datOf Ll[i] := by
        rw [List.getElem?_eq_getElem (by rw [dat_len]; exact ht), dat_at A t ht, Option.some.injEq] at hdt
        exact hdt
      have hprev : ∀ h : 0 < i, tl (Ll[i - 1]'(by omega)).1.key.toList Ll[i].1.key.toList = true := by
        intro h
        have hs := (lastD_all (dat A)).1
        rw [← (unhide HD).1] at hs
        have := sd_get hs (i := i - 1) (j := i) (by omega) (List.getElem?_eq_getElem (by rw [dat_len]; omega)) (List.getElem?_eq_getElem (by rw [dat_len]; exact i1))
        rw [dat_at Ll (i - 1) (by omega), dat_at Ll i i1] at this
        exact this
      have hell := unhide HLL w1 (Below.refl _ _)
      rw [hlle] at hell
      have hela := unhide H1 w (Below.refl _ _)
      rw [hlA] at hela
      obtain ⟨bl, ol, cl', e1, _, _, hsl⟩ := hell.seen (by omega)
      obtain ⟨ba, oa, ca', e2, _, _, hsa⟩ := hela.seen (by omega)
      simp only [Value.slice.injEq] at e1 e2
      obtain ⟨rfl, _, rfl⟩ := e1
      obtain ⟨rfl, _, rfl⟩ := e2
      have HSA := hide hsa
      have hb1 := unhide HB1
      have HCCa : Hid (∀ w', Below w1.heap.size w1 w' → (w'.cell? ⟨ba, oa + t * 3, none⟩ = some (.string A[t].1.key) ∧ w'.cell? ⟨ba, oa + t * 3 + 1, none⟩ = some (vof A[t].1) ∧ w'.cell? ⟨ba, oa + t * 3 + 2, none⟩ = some (.bool A[t].1.del)) ∧ (w'.cell? ⟨bl, ol + i * 3, none⟩ = some (.string Ll[i].1.key) ∧ w'.cell? ⟨bl, ol + i * 3 + 1, none⟩ = some (vof Ll[i].1) ∧ w'.cell? ⟨bl, ol + i * 3 + 2, none⟩ = some (.bool Ll[i].1.del))) := fun w' hw => by
        obtain ⟨q1, q2, q3, _⟩ := hsa t ht w' (hb1.trans (hw.mono hb1.size))
        obtain ⟨r1, r2, r3, _⟩ := hsl i i1 w' hw
        exact ⟨⟨q1, q2, q3⟩, r1, r2, r3⟩
      have HOPa : Hid (∀ w', Below w1.heap.size w1 w' → Calls Try.prog 22 #[.agg (opA A[t].1), .agg (opA Ll[i].1)] w' fun e w'' => e = .returned (.bool true) ∧ Below w1.heap.size w1 w'') := fun w' hw =>
        (hop_same (hsa t ht w' (hb1.trans (hw.mono hb1.size))).2.2.2 (hsl i i1 w' hw).2.2.2 hda).mono fun e w'' hx => ⟨hx.1, hw.trans (hx.2.mono hw.size)⟩
      have HPV : Hid (0 < i → ∃ pk : ByteArray, tl pk.toList Ll[i].1.key.toList = true ∧ ∀ w', Below w1.heap.size w1 w' → w'.cell? ⟨bl, ol + (i - 1) * 3, none⟩ = some (.string pk)) := fun h => ⟨_, hprev h, fun w' hw => (hsl (i - 1) (by omega) w' hw).1⟩
      have HTA : Hid (t < A.length) := ht
      have hKd : kD (datOf Ll[i]) = Ll[i].1.key.toList := rfl
      have HAT := hide hat
      rw [hKd] at HAT
      have HBR := hide (unhide hbr)
      generalize A[t] = y at *
      generalize Ll[i] = x at *
      clear hLk hat hdt hda hprev hell hela hsl hsa hKd hbr hlle hlA hb1 i1 ht
      obtain ⟨⟨ak, ap, an, ac, ad⟩, av⟩ := y
      obtain ⟨⟨xk, xp, xn, xc, xd⟩, xv⟩ := x
      unfold vof at HCCa
      unfold opA at HOPa
      simp only at HCCa HOPa HPV HAT
      have w0i : IntKind.i64.wrap ((i : Int) + 1) = (i : Int) + 1 := by rw [IntKind.wrap_i64]; omega
      go_wp2
      go_loopw [7, 8] (fun aa kk wr => ∃ k : Nat, k ≤ lA ∧ kk = .int .i64 k ∧ aa = .int .i64 (atK (dat A) xk.toList k) ∧ Hid (Below w1.heap.size w1 wr)) (fun _ kk _ => lA - (intOf kk).toNat)
      case atStart => exact ⟨0, Nat.zero_le _, rfl, rfl, unhide HBR⟩
      case round =>
        clear HBR
        obtain ⟨k, hkA, rfl, rfl, hbk⟩ := hrel
        by_cases hlk : (k : Int) < (lA : Int)
        · obtain ⟨hlle, hlA⟩ := unhide HLE
          have k1 : k < A.length := by omega
          have hb1 := unhide HB1
          have HCCk : Hid (∀ w', Below w1.heap.size w1 w' → w'.cell? ⟨ba, oa + k * 3, none⟩ = some (.string A[k].1.key) ∧ w'.cell? ⟨bl, ol + i * 3, none⟩ = some (.string xk)) := fun w' hw => ⟨(unhide HSA k k1 w' (hb1.trans (hw.mono hb1.size))).1, (unhide HCCa w' hw).2.1⟩
          have hak : atK (dat A) xk.toList (k + 1) = if A[k].1.key.toList = xk.toList then (k : Int) else atK (dat A) xk.toList k := by
            rw [atK, List.getElem?_eq_getElem (by rw [dat_len]; exact k1), dat_at A k k1]
            simp [datOf, kD]
          obtain ⟨CC, hCC⟩ : ∃ CC : World → Prop, CC = fun w' => Below w1.heap.size w1 w' := ⟨_, rfl⟩
          have HC0 : Hid (CC { wr with drawn := wr.drawn + 1 }) := by rw [hCC]; exact (unhide hbk).drew
          have HCW : Hid (∀ w', CC w' → Below w1.heap.size w1 w') := by rw [hCC]; exact fun w' hw => hw
          generalize A[k].1.key = yk at *
          have HCC : Hid (∀ w', CC w' → w'.cell? ⟨ba, oa + k * 3, none⟩ = some (.string yk) ∧ w'.cell? ⟨bl, ol + i * 3, none⟩ = some (.string xk)) := by rw [hCC]; exact unhide HCCk
          have w3 : IntKind.i64.wrap ((k : Int) + 1) = (k : Int) + 1 := by rw [IntKind.wrap_i64]; omega
          generalize atK (dat A) xk.toList k = AT at *
          have HAK := hide hak
          clear hlle hlA k1 hb1 HCCk hak hbk hCC
          by_cases he : yk = xk
          · subst he
            go_wp2_with fail
            refine region_stay CC (by kernel_rfl) (by kernel_rfl) (unhide HC0) ?_
            repeat (first
              | go_big_quiet_skip
              | (go_big_quiet_want
                 apply Exists.intro
                 refine ⟨fun w' hw' => ?_, ?_⟩
                 · obtain ⟨c0, c1⟩ := unhide HCC w' hw'
                   go_simp
                   first | done | rfl
                 simp only [Act.put, List.setIfInBounds_toArray, List.set_cons_zero, List.set_cons_succ]
                 go_big_quiet_on))
            refine wpQuiet_nil ?_
            intro w' hw'
            have HBW := hide (unhide HCW w' hw')
            clear hw' HCC HC0
            go_wp2
            go_roundw
            case rel => exact ⟨k + 1, by omega, by go_num, by rw [unhide HAK]; simp, unhide HBW⟩
            case measure => simp [intOf]; omega
          · have heb : (yk.toList == xk.toList) = false := by
              simp only [beq_eq_false_iff_ne]
              exact fun e => he (bl_inj e)
            have HNE : Hid (¬ yk.toList = xk.toList) := fun e => he (bl_inj e)
            clear he
            go_wp2_with fail
            refine region_stay CC (by kernel_rfl) (by kernel_rfl) (unhide HC0) ?_
            repeat (first
              | go_big_quiet_skip
              | (go_big_quiet_want
                 apply Exists.intro
                 refine ⟨fun w' hw' => ?_, ?_⟩
                 · obtain ⟨c0, c1⟩ := unhide HCC w' hw'
                   go_simp
                   first | done | rfl
                 simp only [Act.put, List.setIfInBounds_toArray, List.set_cons_zero, List.set_cons_succ]
                 go_big_quiet_on))
            refine wpQuiet_nil ?_
            intro w' hw'
            have HBW := hide (unhide HCW w' hw')
            clear hw' HCC HC0
            go_wp2
            go_roundw
            case rel => exact ⟨k + 1, by omega, by go_num, by rw [unhide HAK, if_neg (unhide HNE)], unhide HBW⟩
            case measure => simp [intOf]; omega
        · have hkl : k = lA := by omega
          subst hkl
          rw [unhide HAT]
          have htI : (t : Int) < (k : Int) := by have := unhide HTA; have := unhide HLE; omega
          obtain ⟨CC, hCC⟩ : ∃ CC : World → Prop, CC = fun w' => Below w1.heap.size w1 w' := ⟨_, rfl⟩
          have HC0 : Hid (CC { wr with drawn := wr.drawn + 1 }) := by rw [hCC]; exact (unhide hbk).drew
          have HCW : Hid (∀ w', CC w' → Below w1.heap.size w1 w') := by rw [hCC]; exact fun w' hw => hw
          have htd : decide ((t : Int) < 0) = false := decide_eq_false (by omega)
          by_cases hi0 : i = 0
          · subst hi0
            simp only [Nat.zero_mul, Nat.add_zero] at HCCa
            have hl00 : (0 : Int) < (ll : Int) := by omega
            have hl01 : 0 < ll := by omega
            have HCC : Hid (∀ w', CC w' → (w'.cell? ⟨ba, oa + t * 3, none⟩ = some (.string ak) ∧ w'.cell? ⟨ba, oa + t * 3 + 1, none⟩ = some (.slice ap an ac) ∧ w'.cell? ⟨ba, oa + t * 3 + 2, none⟩ = some (.bool ad)) ∧ (w'.cell? ⟨bl, ol, none⟩ = some (.string xk) ∧ w'.cell? ⟨bl, ol + 1, none⟩ = some (.slice xp xn xc) ∧ w'.cell? ⟨bl, ol + 2, none⟩ = some (.bool xd))) := by rw [hCC]; exact unhide HCCa
            have HOP2 : Hid (∀ w', CC w' → Calls Try.prog 22 #[.agg #[.string ak, .slice ap an ac, .bool ad], .agg #[.string xk, .slice xp xn xc, .bool xd]] w' fun e w'' => e = .returned (.bool true) ∧ CC w'') := by rw [hCC]; exact unhide HOPa
            clear HCCa HOPa hCC HPV hbk HAT HSA HTA
            go_wp2_with fail
            refine region_stay CC (by kernel_rfl) (by kernel_rfl) (unhide HC0) ?_
            repeat (first
              | go_big_quiet_skip
              | (go_big_quiet_want
                 apply Exists.intro
                 refine ⟨fun w' hw' => ?_, ?_⟩
                 · obtain ⟨⟨c0, c1, c2⟩, c3, c4, c5⟩ := unhide HCC w' hw'
                   go_simp
                   first | done | rfl | exact unhide HOP2 w' hw'
                 simp only [Act.put, List.setIfInBounds_toArray, List.set_cons_zero, List.set_cons_succ]
                 go_big_quiet_on))
            refine wpQuiet_nil ?_
            intro w' hw'
            have HBW := hide (unhide HCW w' hw')
            clear hw' HCC HC0
            go_wp2
            go_roundw
            case rel => exact ⟨1, by omega, rfl, unhide HBW⟩
            case measure => simp [intOf]; omega
          · obtain ⟨j, hj⟩ : ∃ j, i = j + 1 := ⟨i - 1, by omega⟩
            obtain ⟨pk, hpr2, hpc⟩ := unhide HPV (by omega)
            rw [show i - 1 = j by omega] at hpc
            have HPV2 := hide hpc
            have wj : IntKind.i64.wrap ((i : Int) - 1) = (j : Int) := by rw [IntKind.wrap_i64]; omega
            have hjl : (j : Int) < (ll : Int) := by omega
            have hi0' : (0 : Int) < (i : Int) := by omega
            have hi0d : decide ((0 : Int) < (i : Int)) = true := decide_eq_true hi0'
            have hi0n : decide (0 < i) = true := decide_eq_true (by omega)
            have HCC : Hid (∀ w', CC w' → (w'.cell? ⟨ba, oa + t * 3, none⟩ = some (.string ak) ∧ w'.cell? ⟨ba, oa + t * 3 + 1, none⟩ = some (.slice ap an ac) ∧ w'.cell? ⟨ba, oa + t * 3 + 2, none⟩ = some (.bool ad)) ∧ (w'.cell? ⟨bl, ol + i * 3, none⟩ = some (.string xk) ∧ w'.cell? ⟨bl, ol + i * 3 + 1, none⟩ = some (.slice xp xn xc) ∧ w'.cell? ⟨bl, ol + i * 3 + 2, none⟩ = some (.bool xd)) ∧ w'.cell? ⟨bl, ol + j * 3, none⟩ = some (.string pk)) := by
              rw [hCC]
              exact fun w' hw => ⟨(unhide HCCa w' hw).1, (unhide HCCa w' hw).2, unhide HPV2 w' hw⟩
            have HOP2 : Hid (∀ w', CC w' → Calls Try.prog 22 #[.agg #[.string ak, .slice ap an ac, .bool ad], .agg #[.string xk, .slice xp xn xc, .bool xd]] w' fun e w'' => e = .returned (.bool true) ∧ CC w'') := by rw [hCC]; exact unhide HOPa
            have hge : Op.bytesLess pk.toList xk.toList = true := hpr2
            clear HCCa HOPa hCC HPV HPV2 hbk HAT HSA HTA hpr2 hj hi0 hpc
            go_wp2_with fail
            refine region_stay CC (by kernel_rfl) (by kernel_rfl) (unhide HC0) ?_
            repeat (first
              | go_big_quiet_skip
              | (go_big_quiet_want
                 apply Exists.intro
                 refine ⟨fun w' hw' => ?_, ?_⟩
                 · obtain ⟨⟨c0, c1, c2⟩, ⟨c3, c4, c5⟩, c6⟩ := unhide HCC w' hw'
                   go_simp
                   first | done | rfl | exact unhide HOP2 w' hw'
                 simp only [Act.put, List.setIfInBounds_toArray, List.set_cons_zero, List.set_cons_succ]
                 go_big_quiet_on))
            refine wpQuiet_nil ?_
            intro w' hw'
            have HBW := hide (unhide HCW w' hw')
            clear hw' HCC HC0
            go_wp2
            go_roundw
            case rel => exact ⟨i + 1, by omega, by go_num, unhide HBW⟩
            case measure => simp [intOf]; omega
    · have hbw := (unhide HB1).trans ((unhide hbr).mono (unhide HB1).size)
      have HC5 := hide (unhide HCP wr hbw)
      have HBW0 := hide hbw
      have HBR1 := hide (unhide hbr)
      clear hbw hbr
      go_wp2_with fail
      refine Calls.mono (unhide HC5) ?_
      rintro e w5 ⟨v5, L5, rfl, hd5, hoo5, hb5⟩
      obtain ⟨p5, c5, rfl⟩ := hoo5.1.shape
      have hb5w := (unhide HBW0).trans (hb5.mono (unhide HBW0).size)
      have hm5 := unhide H2 w5 hb5w
      have hl5 : L5.length = A.length := by rw [← dat_len, hd5, dat_len]
      obtain ⟨la, lm, ha, hm⟩ := unhide HSZ
      have HEO := hide hoo5.1
      have HM5 := hide hm5
      have HD5 := hide (And.intro hd5 hl5)
      have HB5 := hide (And.intro hb5w (And.intro hb5 ((unhide HBR1).trans (hb5.mono (unhide HBR1).size))))
      have hz63 : L5.length + M.length ≤ maxLen := by unfold maxLen; omega
      have hz48 : (L5.length + M.length) * 48 ≤ 140737488355328 := by omega
      have hs5 := hb5.size
      have hko := hoo5.1.1
      have hkr := hm5.1
      clear hd5 hoo5 hb5 hb5w hm5 hl5 la lm ha hm HC5 HCP
      go_wp2_with (at_builtin; refine wpList_append_krow rfl _ _ 22 rfl wr.heap.size 32 i0 (.agg #[.string ⟨#[]⟩, .slice none 0 0, .bool false]) Try.underlying22 hi hz0 3 48 (by omega) hz1 hz2 rfl _ _ _ rfl hko p2 M.length c2 (elC opC M) rfl hkr (elC_one_cell opC_one M) hz63 hz48 hs5 ?_)
      intro v6 w6 hown6 hgrow6 hob6
      have heo6 : EO 32 3 opC w6 wr.heap.size v6 (L5 ++ M) := by
        refine el_append (unhide HEO) (fun x hx => (unhide HM5).2 x hx) (fun x hx b off e hne ho => ?_) hown6 hgrow6 hob6
        have h1 := row_lt ((unhide H2 w (Below.refl _ _)).2 x hx) e hne
        have h2 := ((unhide HEO).1.lt b ho).1
        have h3 := (unhide HBW0).size
        omega
      have hb6 : Below wr.heap.size wr w6 := (unhide HB5).2.1.grown hgrow6 hs5 (fun k hk => ((unhide HEO).1.lt k hk).1)
      obtain ⟨p6, c6, hv6⟩ := heo6.shape
      subst hv6
      have hd6 : dat (L5 ++ M) = dat A ++ dat M := by rw [dat_app, (unhide HD5).1]
      have hl6 : (L5 ++ M).length ≤ 2097152 := by rw [List.length_append, (unhide HD5).2]; have := unhide HSZ; omega
      have hbd6 : ∀ x ∈ L5 ++ M, x.2.length ≤ 140737488351232 := by
        intro x hx
        rcases List.mem_append.1 hx with hx | hx
        · exact dat_bound (L := A) (fun d hd => by rw [(unhide HD5).1] at hd; exact hd) (unhide HSZ).2.2.1 x hx
        · exact (unhide HSZ).2.2.2 x hx
      generalize L5 ++ M = LB at *
      have HLB := hide (fun W hb => blast_any _ LB W ((heo6.el opC_len).below hb) (by omega) hbd6)
      have HDB := hide hd6
      have hb16 := (unhide HBR1).trans (hb6.mono (unhide HBR1).size)
      have hbw6 := (unhide HBW0).trans (hb6.mono (unhide HBW0).size)
      have HC7 := hide (unhide HCL w6 hb16)
      have HB6 := hide (And.intro hb16 hbw6)
      clear hown6 hgrow6 hob6 heo6 hb6 hd6 hl6 hbd6 hb16 hbw6 hko hkr hs5 hz63 hz48 HEO HM5 HD5 HB5 HBR1 HBW0
      go_wp2_with fail
      refine Calls.mono (unhide HC7) ?_
      rintro e w7 ⟨v7, L7, rfl, hd7, hoo7, hb7⟩
      obtain ⟨p7, c7, rfl⟩ := hoo7.1.shape
      have hbw7 := (unhide HB6).2.trans (hb7.mono (unhide HB6).2.size)
      have HC8 := hide (unhide HLM w7 hbw7)
      have HO7 := hide (And.intro hoo7.1 (And.intro hd7 (And.intro hb7 hbw7)))
      clear hd7 hoo7 hb7 hbw7 HC7 HCL
      go_wp2_with fail
      refine Calls.mono (unhide HC8) ?_
      rintro e w8 ⟨v8, L8, rfl, hd8, hl8, hoo8, hb8⟩
      obtain ⟨p8, c8, rfl⟩ := hoo8.1.shape
      obtain ⟨heo7, hd7, hb7, hbw7⟩ := unhide HO7
      have heo7' := heo7.below hb8
      have hl7 : L7.length = Ll.length := by rw [← dat_len, hd7, dat_len]
      obtain ⟨la, lm, ha, hm⟩ := unhide HSZ
      have hll7 := (unhide HD).2
      have hz63 : L7.length + L8.length ≤ maxLen := by unfold maxLen; omega
      have hz48 : (L7.length + L8.length) * 48 ≤ 140737488355328 := by omega
      have hb68 := hb7.trans (hb8.mono hb7.size)
      have hs8 : w6.heap.size ≤ w8.heap.size := hb68.size
      have hko := heo7'.1
      have hkr := (hoo8.1.el opC_len).1
      have HE := hide (And.intro heo7' (And.intro hoo8 (And.intro hb68 (And.intro hd7 (And.intro hd8 (And.intro heo7 hl7))))))
      have HN8 := hide hl8
      clear heo7 hd7 hb7 hbw7 heo7' hl7 la lm ha hm hll7 hb68 hd8 hl8 hoo8 hb8 HC8
      go_wp2_with (at_builtin; refine wpList_append_krow rfl _ _ 22 rfl w6.heap.size 32 i0 (.agg #[.string ⟨#[]⟩, .slice none 0 0, .bool false]) Try.underlying22 hi hz0 3 48 (by omega) hz1 hz2 rfl _ _ _ rfl hko p8 L8.length c8 (elC opC L8) rfl hkr (elC_one_cell opC_one L8) hz63 hz48 hs8 ?_)
      intro v9 w9 hown9 hgrow9 hob9
      obtain ⟨heo7', hoo8, hb68, hd7, hd8, heo7, hl7⟩ := unhide HE
      have heo9 : EO 32 3 opC w9 w6.heap.size v9 (L7 ++ L8) := by
        refine el_append heo7' (fun x hx => (hoo8.1.2 x hx).1) (fun x hx b off e hne ho => ?_) hown9 hgrow9 hob9
        have h1 := (hoo8.2.1 x hx).blk b off hne e
        have h2 := (heo7.1.lt b ho).2
        omega
      have hb9 : Below w6.heap.size w6 w9 := hb68.grown hgrow9 hs8 (fun k hk => (heo7'.1.lt k hk).1)
      obtain ⟨p9, c9, hv9⟩ := heo9.shape
      subst hv9
      have hd9 : dat (L7 ++ L8) = lastD (dat A) ++ lastD (dat M) := by rw [dat_app, hd7, hd8, (unhide HD).1]
      have hl9 : (L7 ++ L8).length ≤ 2097152 := by rw [List.length_append, hl7]; have := unhide HSZ; have := unhide HN8; have := (unhide HD).2; omega
      have hbd9 : ∀ x ∈ L7 ++ L8, x.2.length ≤ 140737488351232 := by
        intro x hx
        rcases List.mem_append.1 hx with hx | hx
        · exact dat_bound (L := A) (fun d hd => by rw [hd7, (unhide HD).1] at hd; exact last_mem hd) (unhide HSZ).2.2.1 x hx
        · exact dat_bound (L := M) (fun d hd => by rw [hd8] at hd; exact last_mem hd) (unhide HSZ).2.2.2 x hx
      generalize L7 ++ L8 = LT at *
      have HLT := hide (fun W hb => blast_any _ LT W ((heo9.el opC_len).below hb) (by omega) hbd9)
      have HDT := hide hd9
      have HLB9 := hide (unhide HLB w9 hb9)
      have HB9 := hide ((unhide HB6).2.trans (hb9.mono (unhide HB6).2.size))
      clear hown9 hgrow9 hob9 heo9 hb9 hd9 hl9 hbd9 hko hkr hs8 hz63 hz48 heo7' hoo8 hb68 hd7 hd8 heo7 hl7 HE HO7 HLB HB6
      go_wp2_with fail
      refine Calls.mono (unhide HLB9) ?_
      rintro e wa ⟨va, La, rfl, hda, hla, hooa, hba⟩
      obtain ⟨pa, ca, rfl⟩ := hooa.1.shape
      have HLTa := hide (unhide HLT wa hba)
      have HBa := hide ((unhide HB9).trans (hba.mono (unhide HB9).size))
      have HEa := hide (And.intro (hooa.1.el opC_len) hda)
      clear hda hla hooa hba HLB9
      go_wp2_with fail
      refine Calls.mono (unhide HLTa) ?_
      rintro e wb ⟨vb, Lb, rfl, hdb, hlb, hoob, hbb⟩
      obtain ⟨pb, cb, rfl⟩ := hoob.1.shape
      have HOPS := hide (hops_any _ _ La Lb wb ((unhide HEa).1.below hbb) (hoob.1.el opC_len) (by rw [(unhide HEa).2, hdb, unhide HDB, unhide HDT]; exact last_both _ _))
      have HBb := hide ((unhide HBa).trans (hbb.mono (unhide HBa).size))
      clear hdb hlb hoob hbb HLTa
      go_wp2_with (go_at_call 14; refine Calls.mono (unhide HOPS) ?_; rintro e wc ⟨rfl, hbc⟩; have HBc := hide ((unhide HBb).trans (hbc.mono (unhide HBb).size)); clear hbc)
      go_ret
      exact ⟨rfl, unhide HBc⟩

theorem walk_BatchLast (s1 : Value) (d1 : Dt) (s2 : Value) (d2 : Dt) (w : World) (h1 : Reads limUpto w (.row 48 (.struct (.cons .str (.cons (.row 1 (.int .u8)) (.cons .bool .nil))))) [s1] d1) (h2 : Reads limUpto w (.row 48 (.struct (.cons .str (.cons (.row 1 (.int .u8)) (.cons .bool .nil))))) [s2] d2) :
    Calls Try.prog 5 #[s1, s2] w fun e w' => e = .returned (.bool true) ∧ Below w.heap.size w w' := by
  obtain ⟨A, e1, o1, l1⟩ := ops_of_reads lim_upto h1
  obtain ⟨M, e2, o2, l2⟩ := ops_of_reads lim_upto h2
  exact blaw_any s1 s2 A M w e1 e2 (fun x hx => (o1 x hx).2.1) (fun x hx => (o2 x hx).2.1) l1 l2
end Go.Proofs.Ytehnjanllemnlaa
