/- The walk of the law PlainScans, of the landed package plain. -/
import Derived.Test.YtehafkbndjifaabG14
import Derived.Test.YtehafkbndjifaabG16
import Derived.Test.YtehafkbndjifaabG24
namespace Go.Proofs.Ytehafkbndjifaab
open Go.RowKit

theorem scan_parts {l : List Pd} (h : SP l) (lo a hi : List UInt8) (ha : a.isEmpty = false) (h1 : tl a lo = false) (h2 : hi.isEmpty = true ∨ tl hi a = false) :
    l.filter (fun x => wi lo a (kP x)) ++ l.filter (fun x => wi a hi (kP x)) = l.filter (fun x => wi lo hi (kP x)) := by
  obtain ⟨A, B, hl, hA, hB, hlen, sA, sB, a1, b1, ab⟩ := plc_parts h a
  rw [hl, List.filter_append, List.filter_append, List.filter_append]
  have e1 : B.filter (fun x => wi lo a (kP x)) = [] := List.filter_eq_nil_iff.2 fun x hx => by
    unfold wi
    rw [b1 x hx, ha]
    simp
  have e2 : A.filter (fun x => wi a hi (kP x)) = [] := List.filter_eq_nil_iff.2 fun x hx => by
    unfold wi
    rw [a1 x hx]
    simp
  have e3 : A.filter (fun x => wi lo a (kP x)) = A.filter (fun x => wi lo hi (kP x)) := by
    refine List.filter_congr fun x hx => ?_
    unfold wi
    rw [a1 x hx]
    rcases h2 with h2 | h2
    · simp [h2]
    · have : tl (kP x) hi = true := by
        cases ht : tl (kP x) hi with
        | true => rfl
        | false => rw [tl_mix ht (a1 x hx)] at h2; cases h2
      simp [this]
  have e4 : B.filter (fun x => wi a hi (kP x)) = B.filter (fun x => wi lo hi (kP x)) := by
    refine List.filter_congr fun x hx => ?_
    unfold wi
    have hb := b1 x hx
    have : tl (kP x) lo = false := by
      cases ht : tl (kP x) lo with
      | false => rfl
      | true => rw [tl_mix hb ht] at h1; cases h1
    rw [this, hb]
  rw [e1, e2, e3, e4, List.append_nil, List.nil_append]
theorem scan_most (l : List Pd) (lo hi : List UInt8) (m : Nat) (h : l.length ≤ m) : scanD l lo hi m = l.filter (fun x => wi lo hi (kP x)) := by
  unfold scanD
  rw [List.take_of_length_le (Nat.le_trans (List.length_filter_le _ _) h)]
/-- max of 0 and a number. -/
theorem wpList_max0 {P : Program} {w : World} {ops : Array Oper} {rest : List Oper} {o : Oper} {a : Act} {Q : Exit → Act → World → Prop} (hgd : o.guard = none) (x y : Operand) (ts : Array TypeId)
    (ho : o.op = .call { callee := .builtin .max, args := #[x, y], argTypes := ts }) (n : Int) (k : Nat) (hk : k = n.toNat) (hx : a.eval x = .int .i64 0) (hy : a.eval y = .int .i64 n)
    (h : wpList P ops Q rest (a.put o.dst (.int .i64 (k : Int))) w) : wpList P ops Q (o :: rest) a w := by
  have e : (if n > (0 : Int) then n else 0) = (k : Int) := by rw [hk]; split <;> omega
  refine wpList_plain hgd fun K hK => ?_
  unfold Oper.wp execOp
  simp only [ho, resolve, invoke, builtin, Sem.run_bind, Sem.run_pure, Result.andThen_ok, List.map_toArray, List.map_cons, List.map_nil, hx, hy, run_max_int2, e]
  exact hK _ _ h

set_option maxRecDepth 20000 in
set_option maxHeartbeats 4000000 in
theorem pscans_any (v : Value) (L : List El) (lo at_ hi : ByteArray) (most : Int) (hm : most ≤ 9223372036854775807) (w : World) (h : EL 2 prC w v L) (hv : ∀ x ∈ L, x.2.length ≤ 140737488351232) (hl : L.length ≤ 1048576) :
    Calls Try.prog 3 #[v, .string lo, .string at_, .string hi, .int .i64 most] w fun e w' => e = .returned (.bool true) ∧ Below w.heap.size w w' := by
  have HAW := hide pawake_any
  have HSC := hide (fun W hW (lo hi : ByteArray) (m : Int) (hm : m ≤ 9223372036854775807) => pscan_any v L lo hi m hm W (h.below hW) (by omega) hv)
  have HCK := hide (fun W hW => pcheck_any v L W (h.below hW))
  cases hR : rightD (pdat L) with
  | false =>
    rw [hR] at HSC HCK
    simp only [Bool.false_eq_true, if_false] at HSC HCK
    obtain ⟨p, c, rfl, _⟩ := h.shape
    clear h hv hl hR
    go_enter Try.func3, Try.ntmps3
    go_wp2_with fail
    refine Calls.mono (unhide HSC _ (Below.refl _ _) _ _ _ (by omega)) ?_
    rintro e w1 ⟨vs, Ls, rfl, hds, hos, hb1⟩
    have hs0 : Ls.length = 0 := by rw [← pdat_len, hds]; rfl
    obtain ⟨ps, cs, rfl⟩ := hos.1.shape
    rw [hs0]
    have HB1 := hide hb1
    clear hds hos hb1 hs0
    go_wp2_with fail
    refine Calls.mono (unhide HAW _) ?_
    rintro e w2 ⟨rfl, hb2⟩
    have HB2 := hide ((unhide HB1).trans (hb2.mono (unhide HB1).size))
    clear hb2
    go_wp2_with fail
    refine Calls.mono (unhide HCK _ (unhide HB2)) ?_
    rintro e w3 ⟨rfl, hb3⟩
    have HB3 := hide ((unhide HB2).trans (hb3.mono (unhide HB2).size))
    clear hb3
    go_wp2_with fail
    refine Calls.mono (unhide HAW _) ?_
    rintro e w4 ⟨rfl, hb4⟩
    have HB4 := hide ((unhide HB3).trans (hb4.mono (unhide HB3).size))
    clear hb4
    go_wp2
    go_ret
    exact ⟨rfl, unhide HB4⟩
  | true =>
    rw [hR] at HSC HCK
    simp only [if_true] at HSC HCK
    have hsm : ∀ lo hi : List UInt8, scanD (pdat L) lo hi (2147483647 : Int).toNat = (pdat L).filter (fun x => wi lo hi (kP x)) := fun lo hi => scan_most _ _ _ _ (by rw [pdat_len]; show L.length ≤ 2147483647; omega)
    obtain ⟨p, c, rfl, _⟩ := h.shape
    have HF := hide (And.intro hsm (And.intro (SP.of hR) hl))
    obtain ⟨Fa, hFa⟩ : ∃ Fa, Fa = (pdat L).filter (fun x => wi lo.toList hi.toList (kP x)) := ⟨_, rfl⟩
    have HFA := hide hFa
    clear h hv hl hR hsm hFa
    go_enter Try.func3, Try.ntmps3
    go_wp2_with fail
    refine Calls.mono (unhide HSC _ (Below.refl _ _) _ _ _ (by omega)) ?_
    rintro e w1 ⟨va, La, rfl, hda, hoa, hb1⟩
    rw [(unhide HF).1, ← unhide HFA] at hda
    obtain ⟨pa, ca, rfl⟩ := hoa.1.shape
    have hla : La.length ≤ 1048576 := by
      rw [← pdat_len, hda, unhide HFA]
      refine Nat.le_trans (List.length_filter_le _ _) ?_
      rw [pdat_len]
      exact (unhide HF).2.2
    have HE1 := hide (And.intro hda (And.intro (hoa.1.el prC_len) hb1))
    have hla0 : (La.length : Int) ≤ 1048576 := by omega
    clear hda hoa hb1 hla
    go_wp2_with fail
    refine Calls.mono (unhide HAW _) ?_
    rintro e w2 ⟨rfl, hb2⟩
    have HB2 := hide (And.intro hb2 ((unhide HE1).2.2.trans (hb2.mono (unhide HE1).2.2.size)))
    clear hb2
    go_wp2_with fail
    refine Calls.mono (unhide HCK _ (unhide HB2).2) ?_
    rintro e w3 ⟨rfl, hb3⟩
    have HB3 := hide (And.intro ((unhide HB2).1.trans (hb3.mono (unhide HB2).1.size)) ((unhide HB2).2.trans (hb3.mono (unhide HB2).2.size)))
    clear hb3
    go_wp2_with fail
    refine Calls.mono (unhide HSC _ (unhide HB3).2 _ _ _ hm) ?_
    rintro e w4 ⟨vs, Ls, rfl, hds, hos, hb4⟩
    obtain ⟨ps, cs, rfl⟩ := hos.1.shape
    have HE4 := hide (And.intro hds (And.intro (hos.1.el prC_len) (And.intro ((unhide HB3).1.trans (hb4.mono (unhide HB3).1.size)) ((unhide HB3).2.trans (hb4.mono (unhide HB3).2.size)))))
    clear hds hos hb4
    obtain ⟨l, hll⟩ : ∃ l, l = La.length := ⟨_, rfl⟩
    obtain ⟨mt, hmt⟩ : ∃ mt, mt = most.toNat := ⟨_, rfl⟩
    obtain ⟨m0, hm0⟩ : ∃ m0, m0 = min mt l := ⟨_, rfl⟩
    have HK1 : Hid (KRow 2 w1 (.slice pa l ca) l (elC prC La)) := by have := (unhide HE1).2.1.1; rw [← hll] at this; exact this
    rw [← hll] at hla0 ⊢
    have HLL := hide (And.intro hll (And.intro hm0 hmt))
    clear hll hm0 hmt
    go_wp2_with (first
      | (refine wpList_max0 rfl _ _ _ rfl most mt (unhide HLL).2.2 rfl rfl ?_)
      | (refine wpList_min2 rfl _ _ _ rfl mt l m0 rfl rfl (unhide HLL).2.1 ?_)
      | (refine wpList_kslice_h rfl 22 42 _ _ rfl 2 Try.underlying22 (by kernel_rfl) pa l ca (elC prC La) m0 rfl rfl (unhide HK1) (by have := (unhide HLL).2.1; omega) ?_; intro q2 c3 hk2; have HK2 := hide hk2; clear hk2))
    obtain ⟨hll, hm0, hmt⟩ := unhide HLL
    have hTE : EL 2 prC w4 (.slice q2 m0 c3) (La.take m0) := by
      have h9 := (unhide HE1).2.1.below (unhide HE4).2.2.1
      refine ⟨?_, fun x hx => h9.2 x (List.mem_of_mem_take hx)⟩
      have h5 := unhide HK2
      rw [elC_take prC_len La m0 (by omega)] at h5
      rw [List.length_take, Nat.min_eq_left (by omega)]
      exact h5.below (unhide HE4).2.2.1
    have HPR := hide (hpairs_any _ _ Ls (La.take m0) w4 (unhide HE4).2.1 hTE)
    have hT : decide (pdat Ls = pdat (La.take m0)) = true := by
      refine decide_eq_true ?_
      have e9 : pdat (La.take m0) = (pdat La).take m0 := by simp [pdat, List.map_take]
      rw [e9, (unhide HE4).1, (unhide HE1).1]
      unfold scanD
      rw [← unhide HFA, ← hmt, hm0]
      have hlF : l = Fa.length := by rw [hll, ← pdat_len, (unhide HE1).1]
      rcases Nat.le_total mt l with g | g
      · rw [Nat.min_eq_left g]
      · rw [Nat.min_eq_right g, List.take_of_length_le (by omega), List.take_of_length_le (by omega)]
    rw [hT] at HPR
    clear hll hm0 hmt hTE hT
    have hgt : ∀ t, binOp .gtr t (.string at_) (.string hi) = pure (.bool !(Op.bytesLess at_.toList hi.toList || at_.toList == hi.toList)) := fun t => by simp [binOp, Op.stringOp]
    have HN1 : Hid ((at_.toList == ([] : List UInt8)) = false → at_.toList.isEmpty = false) := by unfold Hid; cases at_.toList <;> simp
    have HN3 : Hid ((hi.toList == ([] : List UInt8)) = true → hi.toList.isEmpty = true) := by unfold Hid; cases hi.toList <;> simp
    have HN4 : Hid ((Op.bytesLess at_.toList hi.toList || at_.toList == hi.toList) = true → tl hi.toList at_.toList = false) := by
      intro hx
      rw [Bool.or_eq_true] at hx
      rcases hx with hx | hx
      · exact tl_asym _ _ hx
      · rw [beq_iff_eq] at hx
        rw [hx, tl_irr]
    have HGO : Hid (at_.toList.isEmpty = false → Op.bytesLess at_.toList lo.toList = false → (hi.toList.isEmpty = true ∨ tl hi.toList at_.toList = false) → (pdat L).filter (fun x => wi lo.toList at_.toList (kP x)) ++ (pdat L).filter (fun x => wi at_.toList hi.toList (kP x)) = Fa) := by
      intro g1 g2 g3
      rw [unhide HFA]
      exact scan_parts (unhide HF).2.1 _ _ _ g1 g2 g3
    have hem : (⟨#[]⟩ : ByteArray).toList = [] := bl_nil
    generalize hB1 : (at_.toList == ([] : List UInt8)) = B1 at *
    generalize hB2 : Op.bytesLess at_.toList lo.toList = B2 at *
    generalize hB3 : (hi.toList == ([] : List UInt8)) = B3 at *
    generalize hB4 : (Op.bytesLess at_.toList hi.toList || at_.toList == hi.toList) = B4 at *
    have hB3' : (hi.toList != ([] : List UInt8)) = !B3 := by rw [← hB3]; rfl
    go_wp2_with fail
    refine Calls.mono (unhide HPR) ?_
    rintro e w5 ⟨rfl, hb5⟩
    have HB5 := hide (And.intro ((unhide HE4).2.2.1.trans (hb5.mono (unhide HE4).2.2.1.size)) ((unhide HE4).2.2.2.trans (hb5.mono (unhide HE4).2.2.2.size)))
    clear hb5
    cases B1 with
    | true =>
      go_wp2
      go_ret
      exact ⟨rfl, (unhide HB5).2⟩
    | false =>
      cases B2 with
      | true =>
        go_wp2
        go_ret
        exact ⟨rfl, (unhide HB5).2⟩
      | false =>
        cases B3 with
        | true =>
          have HGO2 := hide (unhide HGO (unhide HN1 rfl) rfl (Or.inl (unhide HN3 rfl)))
          clear HGO HN1 HN3 HN4
          go_wp2_with fail
          refine Calls.mono (unhide HSC _ (unhide HB5).2 _ _ _ (by omega)) ?_
          rintro e w6 ⟨v6, L6, rfl, hd6, ho6, hb6⟩
          rw [(unhide HF).1] at hd6
          have HE6 := hide (And.intro hd6 (And.intro ho6 (And.intro ((unhide HB5).1.trans (hb6.mono (unhide HB5).1.size)) (And.intro ((unhide HB5).2.trans (hb6.mono (unhide HB5).2.size)) hb6))))
          obtain ⟨p6, c6, rfl⟩ := ho6.1.shape
          clear hd6 ho6 hb6
          go_wp2_with fail
          refine Calls.mono (unhide HSC _ (unhide HE6).2.2.2.1 _ _ _ (by omega)) ?_
          rintro e w7 ⟨v7, L7, rfl, hd7, ho7, hb7⟩
          rw [(unhide HF).1] at hd7
          obtain ⟨p7, c7, rfl⟩ := ho7.1.shape
          have hb7a := (unhide HE6).2.2.1.trans (hb7.mono (unhide HE6).2.2.1.size)
          have hb7b := (unhide HE6).2.2.2.1.trans (hb7.mono (unhide HE6).2.2.2.1.size)
          have hbnd : L6.length ≤ 1048576 ∧ L7.length ≤ 1048576 := by
            have h8 := (unhide HF).2.2
            constructor
            · rw [← pdat_len, (unhide HE6).1]
              exact Nat.le_trans (List.length_filter_le _ _) (by rw [pdat_len]; exact h8)
            · rw [← pdat_len, hd7]
              exact Nat.le_trans (List.length_filter_le _ _) (by rw [pdat_len]; exact h8)
          have HAP : Hid (∀ (ops : Array Oper) (rest : List Oper) (o : Oper) (a : Act) (Q : Exit → Act → World → Prop) (s x : Operand), o.guard = none → o.op = .call { callee := .builtin .append, args := #[s, x], argTypes := #[22, 22] } → a.eval s = .slice p6 L6.length c6 → a.eval x = .slice p7 L7.length c7 →
              (∀ q n cc w', Hid (EL 2 prC w' (.slice q n cc) (L6 ++ L7) ∧ Below w.heap.size w w' ∧ Below w1.heap.size w1 w') → wpList Try.prog ops Q rest (a.put o.dst (.slice q n cc)) w') → wpList Try.prog ops Q (o :: rest) a w7) := by
            intro ops rest o a Q s x hgd ho hs hx hk
            obtain ⟨i0, hi0, hz0, hz1, hz2⟩ := info_parts Try.info42
            have ho6 := (unhide HE6).2.1.1.below hb7
            refine wpList_append_krow hgd s x 22 ho w5.heap.size 42 i0 (.agg #[.string ⟨#[]⟩, .slice none 0 0]) Try.underlying22 hi0 hz0 2 40 (by omega) hz1 hz2 rfl _ L6.length (elC prC L6) hs ho6.1 p7 L7.length c7 (elC prC L7) hx (ho7.1.el prC_len).1 (elC_one_cell prC_one L7) (by unfold maxLen; omega) (by omega) (Nat.le_trans (unhide HE6).2.2.2.2.size hb7.size) ?_
            intro v' w' hown' hg' hob'
            have hlt6 : ∀ k, (Value.slice p6 L6.length c6).ownBlock = some k → w5.heap.size ≤ k ∧ k < w6.heap.size := fun k hk => (unhide HE6).2.1.1.1.lt k hk
            have hw5 := (unhide HB5)
            have heo : EO 42 2 prC w' w5.heap.size v' (L6 ++ L7) := by
              refine EO.more ho6 (fun y hy => ⟨(ho7.1.2 y hy).1, fun b off e hne ho9 => ?_⟩) hown' hg' hob'
              have r1 := (ho7.2.1 y hy).blk b off hne e
              have r2 := (hlt6 b ho9).2
              omega
            obtain ⟨q, cc, e⟩ := heo.shape
            rw [e]
            have hel9 := heo.el prC_len
            rw [e] at hel9
            refine hk q _ cc w' ⟨hel9, hb7b.grown hg' hb7b.size (fun k hk => ?_), hb7a.grown hg' hb7a.size (fun k hk => ?_)⟩
            · have r2 := (hlt6 k hk).1
              have r3 := hw5.2.size
              omega
            · have r2 := (hlt6 k hk).1
              have r3 := hw5.1.size
              omega
          have HEA : Hid (∀ W, Below w1.heap.size w1 W → EL 2 prC W (.slice pa l ca) La) := by
            intro W hW
            have := (unhide HE1).2.1.below hW
            rw [← (unhide HLL).1] at this
            exact this
          have hT7 : decide (pdat (L6 ++ L7) = pdat La) = true := by
            refine decide_eq_true ?_
            rw [pdat_app, (unhide HE6).1, hd7, (unhide HE1).1]
            exact unhide HGO2
          have HT7 := hide hT7
          clear hT7 hd7 ho7 hb7 hb7a hb7b hbnd
          go_wp2_with (refine unhide HAP _ _ _ _ _ _ _ rfl rfl rfl rfl ?_; intro q n5 cc w8 HQ)
          have hp8 := hpairs_any _ _ (L6 ++ L7) La w8 (unhide HQ).1 (unhide HEA w8 (unhide HQ).2.2)
          rw [unhide HT7] at hp8
          have HP8 := hide hp8
          clear hp8
          refine Calls.mono (unhide HP8) ?_
          rintro e w9 ⟨rfl, hb9⟩
          have HB9 := hide ((unhide HQ).2.1.trans (hb9.mono (unhide HQ).2.1.size))
          clear hb9
          go_wp2
          go_ret
          exact ⟨rfl, unhide HB9⟩
        | false =>
          cases B4 with
          | false =>
            go_wp2
            go_ret
            exact ⟨rfl, (unhide HB5).2⟩
          | true =>
            have HGO2 := hide (unhide HGO (unhide HN1 rfl) rfl (Or.inr (unhide HN4 rfl)))
            clear HGO HN1 HN3 HN4
            go_wp2_with fail
            refine Calls.mono (unhide HSC _ (unhide HB5).2 _ _ _ (by omega)) ?_
            rintro e w6 ⟨v6, L6, rfl, hd6, ho6, hb6⟩
            rw [(unhide HF).1] at hd6
            have HE6 := hide (And.intro hd6 (And.intro ho6 (And.intro ((unhide HB5).1.trans (hb6.mono (unhide HB5).1.size)) (And.intro ((unhide HB5).2.trans (hb6.mono (unhide HB5).2.size)) hb6))))
            obtain ⟨p6, c6, rfl⟩ := ho6.1.shape
            clear hd6 ho6 hb6
            go_wp2_with fail
            refine Calls.mono (unhide HSC _ (unhide HE6).2.2.2.1 _ _ _ (by omega)) ?_
            rintro e w7 ⟨v7, L7, rfl, hd7, ho7, hb7⟩
            rw [(unhide HF).1] at hd7
            obtain ⟨p7, c7, rfl⟩ := ho7.1.shape
            have hb7a := (unhide HE6).2.2.1.trans (hb7.mono (unhide HE6).2.2.1.size)
            have hb7b := (unhide HE6).2.2.2.1.trans (hb7.mono (unhide HE6).2.2.2.1.size)
            have hbnd : L6.length ≤ 1048576 ∧ L7.length ≤ 1048576 := by
              have h8 := (unhide HF).2.2
              constructor
              · rw [← pdat_len, (unhide HE6).1]
                exact Nat.le_trans (List.length_filter_le _ _) (by rw [pdat_len]; exact h8)
              · rw [← pdat_len, hd7]
                exact Nat.le_trans (List.length_filter_le _ _) (by rw [pdat_len]; exact h8)
            have HAP : Hid (∀ (ops : Array Oper) (rest : List Oper) (o : Oper) (a : Act) (Q : Exit → Act → World → Prop) (s x : Operand), o.guard = none → o.op = .call { callee := .builtin .append, args := #[s, x], argTypes := #[22, 22] } → a.eval s = .slice p6 L6.length c6 → a.eval x = .slice p7 L7.length c7 →
                (∀ q n cc w', Hid (EL 2 prC w' (.slice q n cc) (L6 ++ L7) ∧ Below w.heap.size w w' ∧ Below w1.heap.size w1 w') → wpList Try.prog ops Q rest (a.put o.dst (.slice q n cc)) w') → wpList Try.prog ops Q (o :: rest) a w7) := by
              intro ops rest o a Q s x hgd ho hs hx hk
              obtain ⟨i0, hi0, hz0, hz1, hz2⟩ := info_parts Try.info42
              have ho6 := (unhide HE6).2.1.1.below hb7
              refine wpList_append_krow hgd s x 22 ho w5.heap.size 42 i0 (.agg #[.string ⟨#[]⟩, .slice none 0 0]) Try.underlying22 hi0 hz0 2 40 (by omega) hz1 hz2 rfl _ L6.length (elC prC L6) hs ho6.1 p7 L7.length c7 (elC prC L7) hx (ho7.1.el prC_len).1 (elC_one_cell prC_one L7) (by unfold maxLen; omega) (by omega) (Nat.le_trans (unhide HE6).2.2.2.2.size hb7.size) ?_
              intro v' w' hown' hg' hob'
              have hlt6 : ∀ k, (Value.slice p6 L6.length c6).ownBlock = some k → w5.heap.size ≤ k ∧ k < w6.heap.size := fun k hk => (unhide HE6).2.1.1.1.lt k hk
              have hw5 := (unhide HB5)
              have heo : EO 42 2 prC w' w5.heap.size v' (L6 ++ L7) := by
                refine EO.more ho6 (fun y hy => ⟨(ho7.1.2 y hy).1, fun b off e hne ho9 => ?_⟩) hown' hg' hob'
                have r1 := (ho7.2.1 y hy).blk b off hne e
                have r2 := (hlt6 b ho9).2
                omega
              obtain ⟨q, cc, e⟩ := heo.shape
              rw [e]
              have hel9 := heo.el prC_len
              rw [e] at hel9
              refine hk q _ cc w' ⟨hel9, hb7b.grown hg' hb7b.size (fun k hk => ?_), hb7a.grown hg' hb7a.size (fun k hk => ?_)⟩
              · have r2 := (hlt6 k hk).1
                have r3 := hw5.2.size
                omega
              · have r2 := (hlt6 k hk).1
                have r3 := hw5.1.size
                omega
            have HEA : Hid (∀ W, Below w1.heap.size w1 W → EL 2 prC W (.slice pa l ca) La) := by
              intro W hW
              have := (unhide HE1).2.1.below hW
              rw [← (unhide HLL).1] at this
              exact this
            have hT7 : decide (pdat (L6 ++ L7) = pdat La) = true := by
              refine decide_eq_true ?_
              rw [pdat_app, (unhide HE6).1, hd7, (unhide HE1).1]
              exact unhide HGO2
            have HT7 := hide hT7
            clear hT7 hd7 ho7 hb7 hb7a hb7b hbnd
            go_wp2_with (refine unhide HAP _ _ _ _ _ _ _ rfl rfl rfl rfl ?_; intro q n5 cc w8 HQ)
            have hp8 := hpairs_any _ _ (L6 ++ L7) La w8 (unhide HQ).1 (unhide HEA w8 (unhide HQ).2.2)
            rw [unhide HT7] at hp8
            have HP8 := hide hp8
            clear hp8
            refine Calls.mono (unhide HP8) ?_
            rintro e w9 ⟨rfl, hb9⟩
            have HB9 := hide ((unhide HQ).2.1.trans (hb9.mono (unhide HQ).2.1.size))
            clear hb9
            go_wp2
            go_ret
            exact ⟨rfl, unhide HB9⟩

theorem walk_PlainScans (s0 : Value) (d0 : Dt) (a1 : ByteArray) (a2 : ByteArray) (a3 : ByteArray) (a4 : Int) (w4 : (Lit.int .i64 a4).wf = true) (w : World) (h0 : Reads limUpto w (.row 40 prSh) [s0] d0) (_h1 : a1.size ≤ 1048576) (_h2 : a2.size ≤ 1048576) (_h3 : a3.size ≤ 1048576) :
    Calls Try.prog 3 #[s0, .string a1, .string a2, .string a3, .int .i64 a4] w fun e w' => e = .returned (.bool true) ∧ Below w.heap.size w w' := by
  obtain ⟨L, e0, o0, l0⟩ := prs_of_reads lim_upto h0
  unfold limUpto at l0
  exact pscans_any s0 L a1 a2 a3 a4 (by simp [Lit.wf, IntKind.min, IntKind.max, IntKind.signed, IntKind.bits] at w4; omega) w e0 (fun x hx => (o0 x hx).2.1) l0
end Go.Proofs.Ytehafkbndjifaab
