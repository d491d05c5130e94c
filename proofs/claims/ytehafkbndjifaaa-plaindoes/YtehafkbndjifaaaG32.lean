/- Texts of ours, one behind the other: PlRef5, PlRef4, PlRef6. -/
import Derived.Test.YtehafkbndjifaaaG29
import Derived.Test.YtehafkbndjifaaaG31
/- The document's own answer: Do. -/
namespace Go.Proofs.Ytehafkbndjifaaa
open Go.RowKit

/-- What is asked of One. -/
def OneC : Prop := ∀ (v : Value) (L : List El) (x : El) (w : World), EL 2 prC w v L → Row w (vof x.1) x.2 → x.2.length ≤ 140737488351232 → (∀ y ∈ L, y.1.key.size ≤ 140737488351232) → SP (pdat L) → (L.length + 1) * 40 ≤ 140737488355328 →
  Calls Try.prog 49 #[v, .agg (opA x.1)] w fun e w' => ∃ v' L', e = .returned v' ∧ pdat L' = oneD (pdat L) (datOf x) ∧ EO 37 2 prC w' w.heap.size v' L' ∧ Below w.heap.size w w'
set_option maxRecDepth 20000 in
set_option maxHeartbeats 4000000 in
theorem rdo_any (hone : OneC) (v1 v2 : Value) (L M : List El) (w : World) (h1 : EL 2 prC w v1 L) (h2 : EL 3 opC w v2 M) (hroom : (L.length + 33) * 40 ≤ 140737488355328) (hv1 : ∀ x ∈ L, x.2.length ≤ 140737488351232) (hk1 : ∀ x ∈ L, x.1.key.size ≤ 140737488351232) (hv2 : ∀ x ∈ M, x.2.length ≤ 140737488351232) (hks : ∀ x ∈ M, x.1.key.size ≤ 140737488351232) :
    Calls Try.prog 24 #[v1, v2] w fun e w' => ∃ v' L', e = .returned (.tuple #[v', .int .i64 (doE (pdat L) (dat M))]) ∧ pdat L' = (if doE (pdat L) (dat M) = 0 then doD (pdat L) (dat M) else []) ∧ EL 2 prC w' v' L' ∧ Below w.heap.size w w' := by
  have HCK := hide (rright_any v1 L w h1 hk1)
  have HBC := hide (fun W hW => rcheck_any v2 M W (h2.below hW) hks)
  cases hR : rightD (pdat L) with
  | false =>
    have hE : doE (pdat L) (dat M) = 11 := by unfold doE; rw [hR]; rfl
    rw [hE]
    rw [hR] at HCK
    obtain ⟨p1, c1, rfl, _⟩ := h1.shape
    obtain ⟨p2, c2, rfl, _⟩ := h2.shape
    clear h1 h2 hE
    go_enter Try.func24, Try.ntmps24
    go_wp2_with (go_at_call 10; refine Calls.mono (unhide HCK) ?_; rintro e w2 ⟨rfl, hb2⟩; have HB2 := hide hb2; clear hb2)
    go_ret2
    exact ⟨_, rfl, [], rfl, EL.nil _ _ _, unhide HB2⟩
  | true =>
    rw [hR] at HCK
    have hE : doE (pdat L) (dat M) = chkE (dat M) := by unfold doE; rw [hR]; rfl
    rw [hE]
    by_cases hz : chkE (dat M) = 0
    · rw [hz] at HBC ⊢
      simp only [if_true]
      have hA32 := chk_len hz
      rw [dat_len] at hA32
      have hsp := SP.of hR
      have HCL := hide (fun W hW => copypairs_any v1 L W (h1.below hW) (by omega) hv1)
      obtain ⟨p1, c1, rfl, _⟩ := h1.shape
      obtain ⟨b2, o2, c2, rfl, k1, k2, hsn⟩ := h2.seen hA32.1
      unfold maxLen at k2
      have HSN := hide hsn
      obtain ⟨l, hl⟩ : ∃ l, l = M.length := ⟨_, rfl⟩
      rw [← hl] at k1 HBC ⊢
      have hl0 : (l : Int) ≤ 32 := by omega
      have HF := hide (And.intro hl (And.intro hA32.2 (And.intro hsp (And.intro hroom (And.intro hv2 (And.intro hks (And.intro hk1 h2.2)))))))
      clear h1 h2 hE hz hR hA32 hsp hsn hl hroom hv1 hv2 hks hk1 k1 k2
      go_enter Try.func24, Try.ntmps24
      go_wp2_with fail
      refine Calls.mono (unhide HCK) ?_
      rintro e w2 ⟨rfl, hb2⟩
      have HB2 := hide hb2
      clear hb2
      go_wp2_with fail
      refine Calls.mono (unhide HBC _ (unhide HB2)) ?_
      rintro e w3 ⟨rfl, hb3⟩
      have HB3 := hide ((unhide HB2).trans (hb3.mono (unhide HB2).size))
      clear hb3
      go_wp2_with fail
      refine Calls.mono (unhide HCL _ (unhide HB3)) ?_
      rintro e w4 ⟨v4, L4, rfl, hd4, ho4, hb4⟩
      obtain ⟨p4, c4, rfl⟩ := ho4.1.shape
      have HB4 := hide ((unhide HB3).trans (hb4.mono (unhide HB3).size))
      have HO4 := hide (And.intro hd4 (ho4.1.el prC_len))
      obtain ⟨n4, hn4⟩ : ∃ n4, n4 = L4.length := ⟨_, rfl⟩
      have HN4 := hide hn4
      rw [← hn4]
      clear hb4 ho4 hd4 hn4
      go_wp2
      go_loopw [7, 8] (fun dv i wr => ∃ (k m : Nat) (p : Option Addr) (c : Nat) (Lk : List El), k ≤ l ∧ i = .int .i64 k ∧ dv = .slice p m c ∧ Hid (m = Lk.length ∧ pdat Lk = doD (pdat L) ((dat M).take k) ∧ EL 2 prC wr (.slice p m c) Lk ∧ Below w.heap.size w wr)) (fun _ i _ => l - (intOf i).toNat)
      case atStart =>
        have h9 := unhide HO4
        have e9 := unhide HN4
        refine ⟨0, _, _, _, L4, Nat.zero_le _, rfl, rfl, e9, by rw [h9.1]; simp [doD], ?_, unhide HB4⟩
        rw [e9]
        exact h9.2
      case round =>
        obtain ⟨k, m, p, c, Lk, hk, rfl, rfl, hst⟩ := hrel
        obtain ⟨hm, hd, hel, hb⟩ := unhide hst
        obtain ⟨hl, hM32, hsp, hroom, hv2, hks, hk1, hr2⟩ := unhide HF
        by_cases hlt : (k : Int) < (l : Int)
        · have hkM : k < M.length := by omega
          obtain ⟨a1, a2, a3, a4⟩ := unhide HSN k hkM wr hb
          have hLk : Lk.length ≤ L.length + k := by
            rw [← pdat_len Lk, hd]
            have := doD_len (pdat L) ((dat M).take k)
            rw [pdat_len, List.length_take, dat_len] at this
            omega
          have hdk : doD (pdat L) ((dat M).take (k + 1)) = oneD (pdat Lk) (datOf M[k]) := by
            rw [List.take_succ_eq_append_getElem (by rw [dat_len]; exact hkM), doD_snoc, ← hd, dat_get M k hkM]
            rfl
          have hspk : SP (pdat Lk) := by rw [hd]; exact (doD_all hsp _).1
          have hkk : ∀ y ∈ Lk, y.1.key.size ≤ 140737488351232 := by
            intro y hy
            have hmm : (y.1.key, y.2) ∈ doD (pdat L) ((dat M).take k) := by rw [← hd]; exact List.mem_map.2 ⟨y, hy, rfl⟩
            rcases (doD_all hsp _).2.2 _ hmm with h9 | ⟨o, ho, e, _⟩
            · obtain ⟨z, hz, e⟩ := List.mem_map.1 h9
              simp only [Prod.mk.injEq] at e
              rw [← e.1]
              exact hk1 z hz
            · obtain ⟨z, hz, rfl⟩ := List.mem_map.1 (List.mem_of_mem_take ho)
              simp only [Prod.mk.injEq] at e
              rw [e.1]
              exact hks z hz
          have HON := hide (fun W (hW : Below wr.heap.size wr W) => hone (.slice p m c) Lk M[k] W (hel.below hW) ((hr2 _ (List.getElem_mem hkM)).below (hb.trans (hW.mono hb.size))) (hv2 _ (List.getElem_mem hkM)) hkk hspk (by omega))
          rw [← hdk] at HON
          generalize M[k] = x at *
          obtain ⟨⟨ak, ap, an, ac, ad⟩, av⟩ := x
          unfold opA at HON
          unfold vof at a2
          simp only at *
          have HB := hide hb
          clear hst hm hd hel hb hl hM32 hsp hroom hv2 hks hk1 hr2 hkM hLk hdk hspk hkk a4
          go_wp2_with fail
          refine Calls.mono (unhide HON _ (Below.refl _ _)) ?_
          rintro e w5 ⟨v', L5, rfl, hd5, ho5, hb5⟩
          obtain ⟨p', c', rfl⟩ := ho5.shape
          obtain ⟨m', hm'⟩ : ∃ m', m' = L5.length := ⟨_, rfl⟩
          have hel5 := ho5.el prC_len
          rw [← hm'] at hel5 ⊢
          have HZ := hide (And.intro hm' (And.intro hd5 (And.intro hel5 ((unhide HB).trans (hb5.mono (unhide HB).size)))))
          clear ho5 hb5 hm' hd5 hel5
          go_wp2
          go_roundw
          case rel => exact ⟨k + 1, m', p', c', L5, by omega, by go_num, rfl, (unhide HZ).1, (unhide HZ).2.1, (unhide HZ).2.2.1, (unhide HZ).2.2.2⟩
          case measure => simp [intOf]; omega
        · have hkl : k = M.length := by omega
          have hfin : pdat Lk = doD (pdat L) (dat M) := by rw [hd, hkl, ← dat_len, List.take_length]
          have HZ := hide (And.intro hfin (And.intro hel hb))
          clear hst hm hd hel hb hl hM32 hsp hroom hv2 hks hk1 hr2 hkl hfin
          go_wp2
          go_ret2
          exact ⟨_, rfl, Lk, (unhide HZ).1, (unhide HZ).2.1, (unhide HZ).2.2⟩
    · obtain ⟨Z, hZ⟩ : ∃ Z, Z = chkE (dat M) := ⟨_, rfl⟩
      rw [← hZ] at hz HBC ⊢
      have hzb : (Z == 0) = false := by simp [hz]
      have hzb2 : (Z != 0) = true := by simp [hz]
      simp only [hz, if_false] at ⊢
      obtain ⟨p1, c1, rfl, _⟩ := h1.shape
      obtain ⟨p2, c2, rfl, _⟩ := h2.shape
      clear h1 h2 hE hZ
      go_enter Try.func24, Try.ntmps24
      go_wp2_with fail
      refine Calls.mono (unhide HCK) ?_
      rintro e w2 ⟨rfl, hb2⟩
      have HB2 := hide hb2
      clear hb2
      go_wp2_with fail
      refine Calls.mono (unhide HBC _ (unhide HB2)) ?_
      rintro e w3 ⟨rfl, hb3⟩
      have HB3 := hide ((unhide HB2).trans (hb3.mono (unhide HB2).size))
      clear hb3
      go_wp2
      go_ret2
      exact ⟨_, [], rfl, rfl, EL.nil _ _ _, unhide HB3⟩
end Go.Proofs.Ytehafkbndjifaaa

/- The document's own answer: One, as plain lists; and one more pair behind a row of the call's own. -/
namespace Go.Proofs.Ytehafkbndjifaaa
open Go.RowKit

/-- What One has put together of the first k pairs. -/
def onK (l : List Pd) (o : Dat) (k : Nat) : List Pd :=
  if k ≤ plc l (kD o) then l.take k else l.take (plc l (kD o)) ++ (if o.2.2 then [] else [(o.1, o.2.1)]) ++ ((l.take k).drop (plc l (kD o))).filter (fun x => decide (kP x ≠ kD o))
theorem plc_lt {l : List Pd} (h : SP l) (key : List UInt8) (k : Nat) (hk : k < l.length) : tl (kP l[k]) key = decide (k < plc l key) := by
  obtain ⟨A, B, hl, hA, hB, hlen, sA, sB, a1, b1, ab⟩ := plc_parts h key
  by_cases hlt : k < plc l key
  · rw [decide_eq_true hlt]
    refine a1 _ ?_
    rw [hA]
    exact List.mem_take_iff_getElem.2 ⟨k, by omega, rfl⟩
  · rw [decide_eq_false hlt]
    refine b1 _ ?_
    rw [hB]
    exact List.mem_drop_iff_getElem.2 ⟨k - plc l key, by omega, by congr 1; omega⟩
theorem oneD_filter {l : List Pd} (h : SP l) (o : Dat) : oneD l o = l.take (plc l (kD o)) ++ (if o.2.2 then [] else [(o.1, o.2.1)]) ++ (l.drop (plc l (kD o))).filter (fun x => decide (kP x ≠ kD o)) := by
  obtain ⟨A, B, hl, hA, hB, hlen, sA, sB, a1, b1, ab⟩ := plc_parts h (kD o)
  have hd1 : l.drop (plc l (kD o) + 1) = B.drop 1 := by rw [hB, List.drop_drop]
  have hat : l[plc l (kD o)]? = B.head? := by rw [hB, List.head?_drop]
  unfold oneD
  rw [hd1, hat, ← hA, ← hB]
  obtain ⟨ok, ov, od⟩ := o
  simp only at *
  cases B with
  | nil =>
    cases od with
    | true => simp [hl]
    | false => simp
  | cons b B =>
    obtain ⟨hb1, hb2⟩ := List.pairwise_cons.1 sB
    simp only [List.head?_cons, Option.any_some, List.drop_succ_cons, List.drop_zero]
    by_cases hk : kP b = ok.toList
    · have hf : B.filter (fun x => decide (kP x ≠ ok.toList)) = B := List.filter_eq_self.2 fun x hx => by
        have := hb1 x hx
        rw [hk] at this
        simpa using (tl_ne this).symm
      have hf2 : (b :: B).filter (fun x => decide (kP x ≠ ok.toList)) = B := by
        rw [List.filter_cons_of_neg (by simp [hk]), hf]
      rw [hf2, decide_eq_true hk]
      cases od <;> simp
    · have hbo : tl (kP b) ok.toList = false := b1 b (by simp)
      have hob : tl ok.toList (kP b) = true := by
        cases ht : tl ok.toList (kP b) with
        | true => rfl
        | false => exact absurd (tl_total _ _ hbo ht) hk
      have hf : (b :: B).filter (fun x => decide (kP x ≠ ok.toList)) = b :: B := List.filter_eq_self.2 fun x hx => by
        rcases List.mem_cons.1 hx with rfl | hx
        · simpa using hk
        · simpa using (tl_ne (tl_trans _ _ _ hob (hb1 x hx))).symm
      rw [hf, decide_eq_false hk]
      cases od with
      | true => simp [hl]
      | false => simp
theorem onK_end {l : List Pd} (h : SP l) (o : Dat) (hd : o.2.2 = true ∨ plc l (kD o) < l.length) : onK l o l.length = oneD l o := by
  rw [oneD_filter h]
  unfold onK
  rw [List.take_length]
  by_cases hle : l.length ≤ plc l (kD o)
  · have he : plc l (kD o) = l.length := Nat.le_antisymm (plc_le _ _) hle
    rw [if_pos hle, he, List.take_length, List.drop_length, List.filter_nil, List.append_nil]
    rcases hd with hd | hd
    · rw [hd]; simp
    · omega
  · rw [if_neg hle]
theorem onK_app {l : List Pd} (h : SP l) (o : Dat) (hd : o.2.2 = false) (hp : plc l (kD o) = l.length) : onK l o l.length ++ [(o.1, o.2.1)] = oneD l o := by
  rw [oneD_filter h]
  unfold onK
  rw [if_pos (by omega), hp, List.take_length, List.drop_length, List.filter_nil, List.append_nil, hd]
  simp
/-- One more pair. -/
theorem onK_succ {l : List Pd} (h : SP l) (o : Dat) (k : Nat) (hk : k < l.length) :
    onK l o (k + 1) = onK l o k ++ (if k = plc l (kD o) ∧ o.2.2 = false then [(o.1, o.2.1)] else []) ++ (if kP l[k] = kD o then [] else [l[k]]) := by
  have hlt := plc_lt h (kD o) k hk
  unfold onK
  generalize hI : (if o.2.2 then ([] : List Pd) else [(o.1, o.2.1)]) = INS at *
  rcases Nat.lt_trichotomy k (plc l (kD o)) with g | g | g
  · rw [decide_eq_true g] at hlt
    have n1 : ¬ (k = plc l (kD o) ∧ o.2.2 = false) := fun e => by omega
    simp only [show k + 1 ≤ plc l (kD o) by omega, show k ≤ plc l (kD o) by omega, if_true, if_neg n1, if_neg (tl_ne hlt), List.append_nil]
    rw [List.take_succ_eq_append_getElem hk]
  · have eI : (if k = plc l (kD o) ∧ o.2.2 = false then [(o.1, o.2.1)] else []) = INS := by
      rw [← hI]
      cases o.2.2 <;> simp [g]
    have e : (l.take (k + 1)).drop k = [l[k]] := by
      rw [List.take_succ_eq_append_getElem hk, List.drop_left' (by rw [List.length_take]; omega)]
    rw [eI, ← g]
    simp only [show ¬ (k + 1 ≤ k) by omega, Nat.le_refl, if_true, if_false]
    rw [e]
    congr 1
    by_cases hke : kP l[k] = kD o
    · simp [hke]
    · simp [hke]
  · have n1 : ¬ (k = plc l (kD o) ∧ o.2.2 = false) := fun e => by omega
    have e : (l.take (k + 1)).drop (plc l (kD o)) = (l.take k).drop (plc l (kD o)) ++ [l[k]] := by
      rw [List.take_succ_eq_append_getElem hk, List.drop_append_of_le_length (by rw [List.length_take]; omega)]
    simp only [show ¬ (k + 1 ≤ plc l (kD o)) by omega, show ¬ (k ≤ plc l (kD o)) by omega, if_false, if_neg n1, List.append_nil]
    rw [e, List.filter_append, ← List.append_assoc]
    congr 1
    by_cases hke : kP l[k] = kD o
    · simp [hke]
    · simp [hke]








theorem onK_len {l : List Pd} (o : Dat) (k : Nat) (hk : k ≤ l.length) : (onK l o k).length ≤ k + (if plc l (kD o) < k then 1 else 0) := by
  unfold onK
  generalize hI : (if o.2.2 then ([] : List Pd) else [(o.1, o.2.1)]) = INS
  have h2 : INS.length ≤ 1 := by rw [← hI]; split <;> simp
  by_cases hle : k ≤ plc l (kD o)
  · simp only [hle, if_true, show ¬ plc l (kD o) < k by omega, if_false, List.length_take]
    omega
  · simp only [hle, if_false, show plc l (kD o) < k by omega, if_true, List.length_append, List.length_take]
    have h1 := List.length_filter_le (fun x => decide (kP x ≠ kD o)) ((l.take k).drop (plc l (kD o)))
    rw [List.length_drop, List.length_take] at h1
    omega
theorem rm_aux {m k l n N : Nat} (h1 : m ≤ k) (h2 : k < l) (h3 : l = n) (h5 : (n + 1) * 40 ≤ N) : (m + 1 + 1) * 40 ≤ N := by
  subst h3
  have h6 : m + 1 + 1 ≤ l + 1 := by omega
  exact Nat.le_trans (Nat.mul_le_mul_right 40 h6) h5
theorem rm_two {m : Nat} (h : (m + 1 + 1) * 40 ≤ 140737488355328) : m + 1 ≤ maxLen ∧ (m + 1) * 40 ≤ 140737488355328 := by
  have h1 : (m + 1) * 40 ≤ (m + 1 + 1) * 40 := Nat.mul_le_mul_right 40 (Nat.le_succ _)
  have h2 : m + 1 ≤ (m + 1) * 40 := Nat.le_mul_of_pos_right _ (by decide)
  refine ⟨?_, Nat.le_trans h1 h⟩
  unfold maxLen
  exact Nat.le_trans (Nat.le_trans h2 (Nat.le_trans h1 h)) (by decide)
theorem ml_aux {m k AT : Nat} (h1 : m ≤ k + (if AT < k then 1 else 0)) (h4 : k = AT) : m ≤ k := by
  have h5 : ¬ AT < k := by omega
  simp only [h5, if_false] at h1
  exact h1
theorem eo_push {T k : Nat} {cf : Opv → List Value} {W w2 : World} {base : Nat} {v v' : Value} {L : List El} {x : El} (h : EO T k cf W base v L) (hx : Row W (vof x.1) x.2) (hap : ∀ b off, x.1.p = some ⟨b, off, none⟩ → x.2 ≠ [] → v.ownBlock ≠ some b)
    (hown : w2.ownsRow base T k v' (L.length + 1) (elC cf L ++ cf x.1)) (hg : W.grownBy w2 v.ownBlock) (hv : v'.ownBlock = v.ownBlock ∨ v'.ownBlock = some W.heap.size) : EO T k cf w2 base v' (L ++ [x]) :=
  h.more (M := [x]) (fun y hy => by rw [List.mem_singleton.1 hy]; exact ⟨hx, hap⟩) (by rw [elC_one]; exact hown) hg hv
/-- One more pair behind a row of the call's own, in a plain region. -/
theorem push_plain {W : World} {base m vc : Nat} {vp : Option Addr} {L' : List El} {y : El} (h : EO 37 2 prC W base (.slice vp m vc) L') (hm : m = L'.length) (hy : Row W (vof y.1) y.2) (hap : ∀ b off, y.1.p = some ⟨b, off, none⟩ → y.2 ≠ [] → (Value.slice vp m vc).ownBlock ≠ some b) (hroom : (m + 1) * 40 ≤ 140737488355328) (hb : base ≤ W.heap.size) :
    ∀ (ops : Array Oper) (rest : List Oper) (o : Oper) (a : Act) (Q : Exit → Act → World → Prop) (s x : Operand), o.guard = none → o.op = .call { callee := .builtin .append, args := #[s, x], argTypes := #[22, 22] } → a.eval s = .slice vp m vc → a.eval x = .slice (some ⟨W.heap.size, 0, none⟩) 1 1 →
      (∀ q cc w', Hid (EO 37 2 prC w' base (.slice q (m + 1) cc) (L' ++ [y]) ∧ Below base W w') → wpList Try.prog ops Q rest (a.put o.dst (.slice q (m + 1) cc)) w') → wpList Try.prog ops Q (o :: rest) a (W.alloc (.cells #[.string y.1.key, .slice y.1.p y.1.n y.1.c] 37)) := by
  obtain ⟨i0, hi0, hz0, hz1, hz2⟩ := info_parts Try.info37
  intro ops rest o a Q s x hgd ho hs hx hk
  have hba := (Below.refl W.heap.size W).alloc (Nat.le_refl _) (.cells #[.string y.1.key, .slice y.1.p y.1.n y.1.c] 37)
  have hh := h.below hba
  have how := hh.1
  rw [← hm] at how
  refine wpList_append_gen hgd s x 22 ho base 37 i0 (.agg #[.string ⟨#[]⟩, .slice none 0 0]) Try.underlying22 hi0 hz0 2 40 (by omega) hz1 hz2 rfl (.slice vp m vc) m (elC prC L') hs how ⟨W.heap.size, 0, none⟩ 1 1 (prC y.1) hx rfl (by intro j u hj; match j, hj with | 0, hj => (simp [prC] at hj; subst hj; simp [Addr.add]) | 1, hj => (simp [prC] at hj; subst hj; simp [Addr.add])) (prC_one _) (by unfold maxLen; omega) hroom (Nat.le_trans hb hba.size) ?_
  intro v2 w2 hown2 hg2 hob2
  have heo := eo_push (x := y) hh (hy.below hba) hap (by rw [← hm]; exact hown2) hg2 hob2
  rcases hown2.2 with ⟨_, hz9⟩ | ⟨g2, cap2, cur2, e2, _⟩
  · omega
  · subst e2
    exact hk _ _ _ ⟨heo, (hba.mono hb).grown hg2 (Nat.le_trans hb hba.size) (fun q hq => (h.1.lt q hq).1)⟩

/-- The same as one step of a region that draws. -/
theorem push_step {W : World} {base m vc : Nat} {vp : Option Addr} {L' : List El} {y : El} (h : EO 37 2 prC W base (.slice vp m vc) L') (hm : m = L'.length) (hy : Row W (vof y.1) y.2) (hap : ∀ b off, y.1.p = some ⟨b, off, none⟩ → y.2 ≠ [] → (Value.slice vp m vc).ownBlock ≠ some b) (hroom : (m + 1) * 40 ≤ 140737488355328) (hb : base ≤ W.heap.size) :
    ∀ (ops : Array Oper) (o : Oper) (a : Act) (K : Act → World → Prop) (Q : Exit → Act → World → Prop) (E : Prop) (s x : Operand), o.guard = none → o.op = .call { callee := .builtin .append, args := #[s, x], argTypes := #[22, 22] } → a.eval s = .slice vp m vc → a.eval x = .slice (some ⟨W.heap.size, 0, none⟩) 1 1 →
      (∀ q cc w', Hid (EO 37 2 prC w' base (.slice q (m + 1) cc) (L' ++ [y]) ∧ Below base W w') → K (a.put o.dst (.slice q (m + 1) cc)) w') → if Region.wanted o (yielded ops a.tmps) = true then Oper.wp Try.prog o a (W.alloc (.cells #[.string y.1.key, .slice y.1.p y.1.n y.1.c] 37)) K Q else E := by
  obtain ⟨i0, hi0, hz0, hz1, hz2⟩ := info_parts Try.info37
  intro ops o a K Q E s x hgd ho hs hx hk
  have hba := (Below.refl W.heap.size W).alloc (Nat.le_refl _) (.cells #[.string y.1.key, .slice y.1.p y.1.n y.1.c] 37)
  have hh := h.below hba
  have how := hh.1
  rw [← hm] at how
  refine step_append_gen hgd s x 22 ho base 37 i0 (.agg #[.string ⟨#[]⟩, .slice none 0 0]) Try.underlying22 hi0 hz0 2 40 (by omega) hz1 hz2 rfl (.slice vp m vc) m (elC prC L') hs how ⟨W.heap.size, 0, none⟩ 1 (prC y.1) hx rfl (by intro j u hj; match j, hj with | 0, hj => (simp [prC] at hj; subst hj; simp [Addr.add]) | 1, hj => (simp [prC] at hj; subst hj; simp [Addr.add])) (prC_one _) (by unfold maxLen; omega) hroom (Nat.le_trans hb hba.size) ?_
  intro v2 w2 hown2 hg2 hob2
  have heo := eo_push (x := y) hh (hy.below hba) hap (by rw [← hm]; exact hown2) hg2 hob2
  rcases hown2.2 with ⟨_, hz9⟩ | ⟨g2, cap2, cur2, e2, _⟩
  · omega
  · subst e2
    exact hk _ _ _ ⟨heo, (hba.mono hb).grown hg2 (Nat.le_trans hb hba.size) (fun q hq => (h.1.lt q hq).1)⟩

end Go.Proofs.Ytehafkbndjifaaa

/- The document's own answer: One. -/
namespace Go.Proofs.Ytehafkbndjifaaa
open Go.RowKit

theorem rm_one {m k AT n : Nat} (_ : m ≤ k + (if AT < k then 1 else 0)) (h2 : m ≤ n) (h5 : (n + 1) * 40 ≤ 140737488355328) : (m + 1) * 40 ≤ 140737488355328 :=
  Nat.le_trans (Nat.mul_le_mul_right 40 (Nat.succ_le_succ h2)) h5

set_option maxRecDepth 20000 in
set_option maxHeartbeats 8000000 in
theorem rone_any (v : Value) (L : List El) (x : El) (w : World) (h : EL 2 prC w v L) (hx : Row w (vof x.1) x.2) (hxl : x.2.length ≤ 140737488351232) (hks : ∀ y ∈ L, y.1.key.size ≤ 140737488351232) (hsp : SP (pdat L)) (hroom : (L.length + 1) * 40 ≤ 140737488355328) :
    Calls Try.prog 49 #[v, .agg (opA x.1)] w fun e w' => ∃ v' L', e = .returned v' ∧ pdat L' = oneD (pdat L) (datOf x) ∧ EO 37 2 prC w' w.heap.size v' L' ∧ Below w.heap.size w w' := by
  obtain ⟨i0, hi0, hz0, hz1, hz2⟩ := info_parts Try.info37
  obtain ⟨p1, c1, hve, k1, k2, k3⟩ := h.shape
  unfold maxLen at k2
  obtain ⟨l, hl⟩ : ∃ l, l = L.length := ⟨_, rfl⟩
  have hl0 : (l : Int) ≤ 140737488355328 := by omega
  obtain ⟨⟨ak, ap, an, ac, ad⟩, av⟩ := x
  obtain ⟨W1, hW1⟩ : ∃ W1, W1 = w.alloc (.cells #[.string ak, .slice ap an ac, .bool ad] 52) := ⟨_, rfl⟩
  have hb1 : Below w.heap.size w W1 := by rw [hW1]; exact (Below.refl _ _).alloc (Nat.le_refl _) _
  have hn1 : W1.cell? ⟨w.heap.size, 0, none⟩ = some (.string ak) ∧ W1.cell? ⟨w.heap.size, 1, none⟩ = some (.slice ap an ac) ∧ W1.cell? ⟨w.heap.size, 2, none⟩ = some (.bool ad) := by rw [hW1]; simp
  have HC1 := hide (fun W (hW : Below W1.heap.size W1 W) => show W.cell? ⟨w.heap.size, 0, none⟩ = some (.string ak) ∧ W.cell? ⟨w.heap.size, 1, none⟩ = some (.slice ap an ac) ∧ W.cell? ⟨w.heap.size, 2, none⟩ = some (.bool ad) from ⟨(hW.cell (World.block_lt_of_cell? W1 _ hn1.1)).trans hn1.1, (hW.cell (World.block_lt_of_cell? W1 _ hn1.2.1)).trans hn1.2.1, (hW.cell (World.block_lt_of_cell? W1 _ hn1.2.2)).trans hn1.2.2⟩)
  have HB1 := hide (fun W (hW : Below W1.heap.size W1 W) => hb1.trans (hW.mono hb1.size))
  have hs1 : w.heap.size < W1.heap.size := World.block_lt_of_cell? W1 _ hn1.1
  obtain ⟨a1, a2, a3⟩ := hn1
  subst hve
  have HCB := hide (fun W hW => copyBytes_any _ _ W (hx.below hW) hxl)
  have HEL := hide h
  have HXR := hide hx
  obtain ⟨AT, hAT⟩ : ∃ AT, AT = plc (pdat L) ak.toList := ⟨_, rfl⟩
  have hle := plc_le (pdat L) ak.toList
  rw [pdat_len, ← hAT] at hle
  have HF := hide (And.intro hl (And.intro hks (And.intro hsp (And.intro hroom (And.intro hAT (And.intro hle hs1))))))
  have HW1 := hide hW1
  obtain ⟨X, hX⟩ : ∃ X, X = oneD (pdat L) (datOf (⟨ak, ap, an, ac, ad⟩, av)) := ⟨_, rfl⟩
  rw [← hX, ← hl]
  have HX := hide hX
  unfold opA vof at *
  simp only at *
  clear h hx hxl hks hsp hroom k1 k2 k3 hW1 hb1 hAT hle hl hX hs1
  go_enter Try.func49, Try.ntmps49
  go_wp2
  rw [← unhide HW1]
  go_loopw [5, 6, 7] (fun ov dv i wr => ∃ (k m : Nat) (vp : Option Addr) (vc : Nat) (dn : Bool) (L' : List El), k ≤ l ∧ i = .int .i64 k ∧ ov = .slice vp m vc ∧ dv = .bool dn ∧ Hid (m = L'.length ∧ dn = (ad || decide (AT < k)) ∧ pdat L' = onK (pdat L) (ak, av, ad) k ∧ EO 37 2 prC wr W1.heap.size (.slice vp m vc) L' ∧ Below W1.heap.size W1 wr)) (fun _ _ i _ => l - (intOf i).toNat)
  case atStart => exact ⟨0, 0, none, 0, ad, [], Nat.zero_le _, rfl, rfl, rfl, rfl, by simp, by simp [onK, pdat], EO.nil _ _ _ _ _, Below.refl _ _⟩
  case round =>
    obtain ⟨k, m, vp, vc, dn, L', hk, rfl, rfl, rfl, hst⟩ := hrel
    obtain ⟨hm, hdn, hd, heo, hb⟩ := unhide hst
    obtain ⟨hl, hks, hsp, hroom, hAT, hle, hs1⟩ := unhide HF
    have hml : m ≤ k + (if AT < k then 1 else 0) := by
      have := onK_len (l := pdat L) (ak, av, ad) k (by rw [pdat_len]; omega)
      rw [← hd, pdat_len, ← hm] at this
      rw [hAT]
      exact this
    by_cases hlt : (k : Int) < (l : Int)
    · have hkL : k < L.length := by omega
      have hsuc := onK_succ hsp (ak, av, ad) k (by rw [pdat_len]; exact hkL)
      rw [pdat_get L k hkL, ← hd] at hsuc
      have hpl := plc_lt hsp ak.toList k (by rw [pdat_len]; exact hkL)
      rw [pdat_get L k hkL, ← hAT] at hpl
      obtain ⟨bL, oL, cL, e9, y1, y2, hsn⟩ := (unhide HEL).seenP (by omega)
      simp only [Value.slice.injEq] at e9
      obtain ⟨rfl, y3, rfl⟩ := e9
      clear y1 y2 y3
      have HSK := hide (fun W hW => hsn k hkL W hW)
      have HLS := hide (fun W => rless_any L[k].1.key ak W (hks _ (List.getElem_mem hkL)))
      have HRT : Hid (∀ b off, L[k].1.p = some ⟨b, off, none⟩ → L[k].2 ≠ [] → b < w.heap.size) := fun b off e hne => row_lt (hsn k hkL w (Below.refl _ _)).2.2 e hne
      simp only at hsuc hpl
      unfold kP at hpl
      simp only at hpl
      rw [hpl] at HLS
      generalize L[k] = z at *
      obtain ⟨⟨kk, zp, zn, zc, zd⟩, zv⟩ := z
      unfold vof at *
      simp only at *
      have HA := hide (And.intro hm (And.intro hd (And.intro heo (And.intro hb (And.intro hsuc hml)))))
      have hkd : kD (ak, av, ad) = ak.toList := rfl
      have hkp : kP (kk, zv) = kk.toList := rfl
      rw [hkd, hkp, ← hAT] at hsuc
      have HSU := hide hsuc
      have HAL := hide (And.intro hpl (And.intro hle hroom))
      have HSZ := hide hs1
      clear hst hm hd heo hb hsuc hsn hkL hks hsp hroom hAT hle hl hml hpl hkd hkp hs1
      cases dn with
      | true =>
        have hMX : m = L'.length ∧ true = (ad || decide (AT < k + 1)) ∧ pdat L' = pdat L' ++ (if k = AT ∧ ad = false then [(ak, av)] else []) ∧ (m + 1) * 40 ≤ 140737488355328 := by
          have h9 := (unhide HA).2.2.2.2.2
          have h8 := (unhide HAL).2.2
          have h7 := (unhide HF).1
          refine ⟨(unhide HA).1, ?_, ?_, ?_⟩
          · cases ad with
            | true => rfl
            | false =>
              simp only [Bool.false_or] at hdn ⊢
              have := of_decide_eq_true hdn.symm
              exact (decide_eq_true (by omega)).symm
          · rw [if_neg, List.append_nil]
            rintro ⟨e1, e2⟩
            rw [e2, e1] at hdn
            simp at hdn
          · have : m ≤ k + 1 := by
              refine Nat.le_trans h9 ?_
              split <;> omega
            omega
        have HMX := hide hMX
        obtain ⟨CC, hCC⟩ : ∃ CC : World → Prop, CC = fun w' => Below wr.heap.size wr w' := ⟨_, rfl⟩
        have HC0 : Hid (CC { wr with drawn := wr.drawn + 1 }) := by unfold Hid; rw [hCC]; exact (Below.refl _ _).drew
        have HCW : Hid (∀ w', CC w' → Below wr.heap.size wr w') := by unfold Hid; rw [hCC]; exact fun w' hw => hw
        have HCC : Hid (∀ w', CC w' → True ∧ True) := fun w' hw => ⟨trivial, trivial⟩
        clear hCC hMX hdn
        go_wp2_with fail
        refine region_calm CC (by kernel_rfl) (by kernel_rfl) (unhide HC0) ?_
        repeat (first
          | go_big_quiet_skip
          | (go_big_quiet_want
             apply Exists.intro
             refine ⟨fun w' hw' => ?_, ?_⟩
             · obtain ⟨c0, c1⟩ := unhide HCC w' hw'
               go_simp
               first | done | rfl
             simp only [Act.put, List.setIfInBounds_toArray, List.set_cons_zero, List.set_cons_succ]
             go_big_quiet_on))
        refine wpQuiet_nil ?_
        intro wq hwq
        have HBQ := hide (unhide HCW wq hwq)
        have HEX := hide (And.intro ((unhide HA).2.2.1.below (unhide HBQ)) ((unhide HA).2.2.2.1.trans ((unhide HBQ).mono (unhide HA).2.2.2.1.size)))
        clear hwq HC0 HCC HCW
        obtain ⟨CC, hCC⟩ : ∃ CC : World → Prop, CC = fun w' => Below wq.heap.size wq w' := ⟨_, rfl⟩
        have HC0 : Hid (CC { wq with drawn := wq.drawn + 1 }) := by unfold Hid; rw [hCC]; exact (Below.refl _ _).drew
        have HCW : Hid (∀ w', CC w' → Below wq.heap.size wq w') := by unfold Hid; rw [hCC]; exact fun w' hw => hw
        have HCC : Hid (∀ w', CC w' → w'.cell? ⟨bL, oL + k * 2, none⟩ = some (.string kk) ∧ w'.cell? ⟨w.heap.size, 0, none⟩ = some (.string ak)) := by
          unfold Hid
          rw [hCC]
          exact fun w' hw => ⟨(unhide HSK w' (unhide HB1 _ ((unhide HEX).2.trans (hw.mono (unhide HEX).2.size)))).1, (unhide HC1 w' ((unhide HEX).2.trans (hw.mono (unhide HEX).2.size))).1⟩
        clear hCC
        by_cases hke : kk = ak
        · have hk3 : (kk.toList != ak.toList) = false := by simp [hke]
          have hk4 : (kk.toList == ak.toList) = true := by simp [hke]
          have HKE := hide hke
          clear hke
          go_wp2_with fail
          refine region_calm CC (by kernel_rfl) (by kernel_rfl) (unhide HC0) ?_
          repeat (first
            | go_big_quiet_skip
            | (go_big_quiet_want
               apply Exists.intro
               refine ⟨fun w' hw' => ?_, ?_⟩
               · obtain ⟨c0, c1⟩ := unhide HCC w' hw'
                 go_simp
                 first | done | rfl
               simp only [Act.put, List.setIfInBounds_toArray, List.set_cons_zero, List.set_cons_succ]
               go_big_quiet_on))
          refine wpQuiet_nil ?_
          intro w' hw'
          have HBW := hide (unhide HCW w' hw')
          clear hw' HC0 HCC HCW
          go_wp2
          go_roundw
          case rel =>
            have h8 := unhide HSU
            rw [if_pos (show kk.toList = ak.toList by rw [unhide HKE]), List.append_nil] at h8
            exact ⟨k + 1, m, vp, vc, true, L', by omega, by go_num, rfl, rfl, (unhide HMX).1, (unhide HMX).2.1, by rw [(unhide HMX).2.2.1]; exact h8.symm, (unhide HEX).1.below (unhide HBW), (unhide HEX).2.trans ((unhide HBW).mono (unhide HEX).2.size)⟩
          case measure => simp [intOf]; omega
        · have hk3 : (kk.toList != ak.toList) = true := by
            simp only [bne_iff_ne]
            exact fun e => hke (bl_inj e)
          have HKE : Hid (¬ kk.toList = ak.toList) := fun e => hke (bl_inj e)
          have hk4 : (kk.toList == ak.toList) = false := by
            simp only [beq_eq_false_iff_ne]
            exact fun e => hke (bl_inj e)
          clear hke
          go_wp2_with fail
          refine region_calm CC (by kernel_rfl) (by kernel_rfl) (unhide HC0) ?_
          repeat (first
            | go_big_quiet_skip
            | (go_big_quiet_want
               apply Exists.intro
               refine ⟨fun w' hw' => ?_, ?_⟩
               · obtain ⟨c0, c1⟩ := unhide HCC w' hw'
                 go_simp
                 first | done | rfl
               simp only [Act.put, List.setIfInBounds_toArray, List.set_cons_zero, List.set_cons_succ]
               go_big_quiet_on))
          refine wpQuiet_nil ?_
          intro w' hw'
          have HBW := hide (unhide HCW w' hw')
          have hbW := (unhide HEX).2.trans ((unhide HBW).mono (unhide HEX).2.size)
          obtain ⟨z1, z2, z3⟩ := unhide HSK w' (unhide HB1 _ hbW)
          have hroomx : (m + 1) * 40 ≤ 140737488355328 := (unhide HMX).2.2.2
          have HPP := hide (push_plain (y := (⟨kk, zp, zn, zc, zd⟩, zv)) ((unhide HEX).1.below (unhide HBW)) (unhide HMX).1 z3 (fun b off e hne ho9 => by
            have r1 := unhide HRT b off e hne
            have r2 := ((unhide HEX).1.1.lt b ho9).1
            have r3 := unhide HSZ
            omega) hroomx hbW.size)
          have HBX := hide hbW
          clear hw' HC0 HCC HCW z3 hbW hroomx
          go_wp2_with (refine unhide HPP _ _ _ _ _ _ _ rfl rfl rfl rfl ?_; intro q cc w9 HQ)
          go_roundw
          case rel =>
            have h8 := unhide HSU
            rw [if_neg (unhide HKE)] at h8
            refine ⟨k + 1, m + 1, q, cc, true, L' ++ [(⟨kk, zp, zn, zc, zd⟩, zv)], by omega, by go_num, rfl, rfl, by rw [List.length_append, ← (unhide HMX).1]; rfl, (unhide HMX).2.1, ?_, (unhide HQ).1, ?_⟩
            · rw [pdat_app, (unhide HMX).2.2.1]
              exact h8.symm
            · exact (unhide HBX).trans (unhide HQ).2
          case measure => simp [intOf]; omega
      | false =>
        have had : ad = false := by
          cases ad with
          | true => cases hdn
          | false => rfl
        subst had
        have hka : ¬ AT < k := by
          simp only [Bool.false_or] at hdn
          exact of_decide_eq_false hdn.symm
        obtain ⟨CC, hCC⟩ : ∃ CC : World → Prop, CC = fun w' => Below wr.heap.size wr w' := ⟨_, rfl⟩
        have HC0 : Hid (CC { wr with drawn := wr.drawn + 1 }) := by unfold Hid; rw [hCC]; exact (Below.refl _ _).drew
        have HCW : Hid (∀ w', CC w' → Below wr.heap.size wr w') := by unfold Hid; rw [hCC]; exact fun w' hw => hw
        have HCC : Hid (∀ w', CC w' → w'.cell? ⟨bL, oL + k * 2, none⟩ = some (.string kk) ∧ w'.cell? ⟨w.heap.size, 0, none⟩ = some (.string ak)) := by
          unfold Hid
          rw [hCC]
          exact fun w' hw => ⟨(unhide HSK w' (unhide HB1 _ ((unhide HA).2.2.2.1.trans (hw.mono (unhide HA).2.2.2.1.size)))).1, (unhide HC1 w' ((unhide HA).2.2.2.1.trans (hw.mono (unhide HA).2.2.2.1.size))).1⟩
        have HLC : Hid (∀ w', CC w' → Calls Try.prog 32 #[.string kk, .string ak] w' fun e w'' => e = .returned (.bool (decide (k < AT))) ∧ CC w'') := by
          unfold Hid
          rw [hCC]
          exact fun w' hw => (unhide HLS w').mono fun e w'' hx => ⟨hx.1, hw.trans (hx.2.mono hw.size)⟩
        clear hCC hdn HLS
        by_cases hkl : k < AT
        · have hMX : m = L'.length ∧ false = (false || decide (AT < k + 1)) ∧ pdat L' = pdat L' ++ (if k = AT ∧ false = false then [(ak, av)] else []) ∧ (m + 1) * 40 ≤ 140737488355328 := by
            have h9 := (unhide HA).2.2.2.2.2
            have h8 := (unhide HAL).2.2
            have h7 := (unhide HF).1
            rw [if_neg (by omega)] at h9
            refine ⟨(unhide HA).1, ?_, ?_, by omega⟩
            · rw [decide_eq_false (by omega)]; rfl
            · rw [if_neg (fun e => by omega), List.append_nil]
          have HMX := hide hMX
          rw [decide_eq_true hkl] at HLC
          clear hMX hka hkl
          go_wp2_with fail
          refine region_calm CC (by kernel_rfl) (by kernel_rfl) (unhide HC0) ?_
          repeat (first
            | go_big_quiet_skip
            | (go_big_quiet_want
               apply Exists.intro
               refine ⟨fun w' hw' => ?_, ?_⟩
               · obtain ⟨c0, c1⟩ := unhide HCC w' hw'
                 go_simp
                 first | done | rfl | exact unhide HLC w' hw'
               simp only [Act.put, List.setIfInBounds_toArray, List.set_cons_zero, List.set_cons_succ]
               go_big_quiet_on))
          refine wpQuiet_nil ?_
          intro wq hwq
          have HBQ := hide (unhide HCW wq hwq)
          have HEX := hide (And.intro ((unhide HA).2.2.1.below (unhide HBQ)) ((unhide HA).2.2.2.1.trans ((unhide HBQ).mono (unhide HA).2.2.2.1.size)))
          clear hwq HC0 HCC HCW HLC
          obtain ⟨CC, hCC⟩ : ∃ CC : World → Prop, CC = fun w' => Below wq.heap.size wq w' := ⟨_, rfl⟩
          have HC0 : Hid (CC { wq with drawn := wq.drawn + 1 }) := by unfold Hid; rw [hCC]; exact (Below.refl _ _).drew
          have HCW : Hid (∀ w', CC w' → Below wq.heap.size wq w') := by unfold Hid; rw [hCC]; exact fun w' hw => hw
          have HCC : Hid (∀ w', CC w' → w'.cell? ⟨bL, oL + k * 2, none⟩ = some (.string kk) ∧ w'.cell? ⟨w.heap.size, 0, none⟩ = some (.string ak)) := by
            unfold Hid
            rw [hCC]
            exact fun w' hw => ⟨(unhide HSK w' (unhide HB1 _ ((unhide HEX).2.trans (hw.mono (unhide HEX).2.size)))).1, (unhide HC1 w' ((unhide HEX).2.trans (hw.mono (unhide HEX).2.size))).1⟩
          clear hCC
          by_cases hke : kk = ak
          · have hk3 : (kk.toList != ak.toList) = false := by simp [hke]
            have hk4 : (kk.toList == ak.toList) = true := by simp [hke]
            have HKE := hide hke
            clear hke
            go_wp2_with fail
            refine region_calm CC (by kernel_rfl) (by kernel_rfl) (unhide HC0) ?_
            repeat (first
              | go_big_quiet_skip
              | (go_big_quiet_want
                 apply Exists.intro
                 refine ⟨fun w' hw' => ?_, ?_⟩
                 · obtain ⟨c0, c1⟩ := unhide HCC w' hw'
                   go_simp
                   first | done | rfl
                 simp only [Act.put, List.setIfInBounds_toArray, List.set_cons_zero, List.set_cons_succ]
                 go_big_quiet_on))
            refine wpQuiet_nil ?_
            intro w' hw'
            have HBW := hide (unhide HCW w' hw')
            clear hw' HC0 HCC HCW
            go_wp2
            go_roundw
            case rel =>
              have h8 := unhide HSU
              rw [if_pos (show kk.toList = ak.toList by rw [unhide HKE]), List.append_nil] at h8
              exact ⟨k + 1, m, vp, vc, false, L', by omega, by go_num, rfl, rfl, (unhide HMX).1, (unhide HMX).2.1, by rw [(unhide HMX).2.2.1]; exact h8.symm, (unhide HEX).1.below (unhide HBW), (unhide HEX).2.trans ((unhide HBW).mono (unhide HEX).2.size)⟩
            case measure => simp [intOf]; omega
          · have hk3 : (kk.toList != ak.toList) = true := by
              simp only [bne_iff_ne]
              exact fun e => hke (bl_inj e)
            have HKE : Hid (¬ kk.toList = ak.toList) := fun e => hke (bl_inj e)
            have hk4 : (kk.toList == ak.toList) = false := by
              simp only [beq_eq_false_iff_ne]
              exact fun e => hke (bl_inj e)
            clear hke
            go_wp2_with fail
            refine region_calm CC (by kernel_rfl) (by kernel_rfl) (unhide HC0) ?_
            repeat (first
              | go_big_quiet_skip
              | (go_big_quiet_want
                 apply Exists.intro
                 refine ⟨fun w' hw' => ?_, ?_⟩
                 · obtain ⟨c0, c1⟩ := unhide HCC w' hw'
                   go_simp
                   first | done | rfl
                 simp only [Act.put, List.setIfInBounds_toArray, List.set_cons_zero, List.set_cons_succ]
                 go_big_quiet_on))
            refine wpQuiet_nil ?_
            intro w' hw'
            have HBW := hide (unhide HCW w' hw')
            have hbW := (unhide HEX).2.trans ((unhide HBW).mono (unhide HEX).2.size)
            obtain ⟨z1, z2, z3⟩ := unhide HSK w' (unhide HB1 _ hbW)
            have hroomx : (m + 1) * 40 ≤ 140737488355328 := (unhide HMX).2.2.2
            have HPP := hide (push_plain (y := (⟨kk, zp, zn, zc, zd⟩, zv)) ((unhide HEX).1.below (unhide HBW)) (unhide HMX).1 z3 (fun b off e hne ho9 => by
              have r1 := unhide HRT b off e hne
              have r2 := ((unhide HEX).1.1.lt b ho9).1
              have r3 := unhide HSZ
              omega) hroomx hbW.size)
            have HBX := hide hbW
            clear hw' HC0 HCC HCW z3 hbW hroomx
            go_wp2_with (refine unhide HPP _ _ _ _ _ _ _ rfl rfl rfl rfl ?_; intro q cc w9 HQ)
            go_roundw
            case rel =>
              have h8 := unhide HSU
              rw [if_neg (unhide HKE)] at h8
              refine ⟨k + 1, m + 1, q, cc, false, L' ++ [(⟨kk, zp, zn, zc, zd⟩, zv)], by omega, by go_num, rfl, rfl, by rw [List.length_append, ← (unhide HMX).1]; rfl, (unhide HMX).2.1, ?_, (unhide HQ).1, ?_⟩
              · rw [pdat_app, (unhide HMX).2.2.1]
                exact h8.symm
              · exact (unhide HBX).trans (unhide HQ).2
            case measure => simp [intOf]; omega
        · have hkA : k = AT := by omega
          rw [decide_eq_false hkl] at HLC
          have HKA := hide hkA
          clear hka hkl hkA
          go_wp2_with fail
          refine region_calm CC (by kernel_rfl) (by kernel_rfl) (unhide HC0) ?_
          repeat (first
            | go_big_quiet_skip
            | (go_big_quiet_want
               apply Exists.intro
               refine ⟨fun w' hw' => ?_, ?_⟩
               · obtain ⟨c0, c1⟩ := unhide HCC w' hw'
                 go_simp
                 first | done | rfl | exact unhide HLC w' hw'
               simp only [Act.put, List.setIfInBounds_toArray, List.set_cons_zero, List.set_cons_succ]
               go_big_quiet_on))
          refine wpQuiet_nil ?_
          intro wq hwq
          have HBQ := hide (unhide HCW wq hwq)
          have hbq := (unhide HA).2.2.2.1.trans ((unhide HBQ).mono (unhide HA).2.2.2.1.size)
          have heoq := (unhide HA).2.2.1.below (unhide HBQ)
          have hdw : Below wq.heap.size wq wq.drew := (Below.refl _ _).drew
          have hbd := hbq.trans (hdw.mono hbq.size)
          obtain ⟨d1, d2, _⟩ := unhide HC1 wq.drew hbd
          have hcb := unhide HCB wq.drew (unhide HB1 _ hbd)
          have HCH : Hid (Calls Try.prog 30 #[.slice ap an ac] wq.drew fun e w7 => ∃ tp tn tc, e = .returned (.slice tp tn tc) ∧ w7.cell? ⟨w.heap.size, 0, none⟩ = some (.string ak) ∧ Hid (Mine w7 wq.heap.size (.slice tp tn tc) av ∧ Below wq.heap.size wq w7)) := by
            refine hcb.mono ?_
            rintro e w7 ⟨t, rfl, ho7, hb7⟩
            have hmi := mine_of_owns ho7
            obtain ⟨tp, tn, tc, rfl⟩ := mine_opv hmi
            have hb7' := hdw.trans (hb7.mono hdw.size)
            obtain ⟨y1, _, _⟩ := unhide HC1 w7 (hbq.trans (hb7'.mono hbq.size))
            exact ⟨tp, tn, tc, rfl, y1, hmi.base hdw.size, hb7'⟩
          have hmL := (unhide HA).1
          have how := heoq.1
          rw [← hmL] at how
          have HOW := hide how
          have HEQ := hide (And.intro heoq hbq)
          have hszq : W1.heap.size ≤ wq.heap.size := hbq.size
          have hrmq : (m + 1 + 1) * 40 ≤ 140737488355328 := rm_aux (ml_aux (unhide HA).2.2.2.2.2 (unhide HKA)) (Int.ofNat_lt.1 hlt) (unhide HF).1 (unhide HAL).2.2
          have HRQ := hide hrmq
          have HPS : Hid (∀ (w7 : World) (tp : Option Addr) (tn tc : Nat), Hid (Mine w7 wq.heap.size (.slice tp tn tc) av ∧ Below wq.heap.size wq w7) → ∀ (ops : Array Oper) (o : Oper) (a : Act) (K : Act → World → Prop) (Q : Exit → Act → World → Prop) (E : Prop) (s x : Operand), o.guard = none → o.op = .call { callee := .builtin .append, args := #[s, x], argTypes := #[22, 22] } → a.eval s = .slice vp m vc → a.eval x = .slice (some ⟨w7.heap.size, 0, none⟩) 1 1 →
              (∀ q cc w', Hid (EO 37 2 prC w' W1.heap.size (.slice q (m + 1) cc) (L' ++ [(⟨ak, tp, tn, tc, false⟩, av)]) ∧ Below W1.heap.size w7 w') → K (a.put o.dst (.slice q (m + 1) cc)) w') → if Region.wanted o (yielded ops a.tmps) = true then Oper.wp Try.prog o a (w7.alloc (.cells #[.string ak, .slice tp tn tc] 37)) K Q else E) := by
            intro w7 tp tn tc hq7
            exact push_step (y := (⟨ak, tp, tn, tc, false⟩, av)) (heoq.below (unhide hq7).2) hmL (unhide hq7).1.1 (fun b off e hne ho9 => absurd (Nat.lt_of_lt_of_le (heoq.1.lt b ho9).2 (Mine.blk (o := ⟨ak, tp, tn, tc, false⟩) (unhide hq7).1 b off hne e)) (Nat.lt_irrefl _)) (rm_two hrmq).2 (Nat.le_trans hszq (unhide hq7).2.size)
          clear hwq HC0 HCC HCW HLC hbq heoq hdw hbd hcb hrmq hmL how
          go_wp2_with fail
          go_region_law (first
            | (with_reducible show (if Region.wanted (Oper.mk _ (Op.call (Call.mk (Callee.value _) _ _)) _ _ _ _) _ = true then _ else _); go_simp; go_at_call 30; refine Calls.mono (unhide HCH) ?_; rintro x w7 ⟨tp, tn, tc, rfl, y0, HB7⟩; dsimp only)
            | (with_reducible show (if Region.wanted (Oper.mk _ (Op.call (Call.mk (Callee.builtin _) _ _)) _ _ _ _) _ = true then _ else _); refine unhide HPS w7 tp tn tc HB7 _ _ _ _ _ _ _ _ rfl rfl (by simp [Act.eval]) (by simp [Act.eval]) ?_; intro q0 cc0 w8 HJ0))
          all_goals
            have hMX : m + 1 = (L' ++ [((⟨ak, tp, tn, tc, false⟩, av) : El)]).length ∧ true = (false || decide (AT < k + 1)) ∧ pdat (L' ++ [((⟨ak, tp, tn, tc, false⟩, av) : El)]) = pdat L' ++ (if k = AT ∧ false = false then [(ak, av)] else []) ∧ (m + 1 + 1) * 40 ≤ 140737488355328 := by
              refine ⟨by rw [List.length_append, ← (unhide HA).1]; rfl, ?_, ?_, unhide HRQ⟩
              · rw [decide_eq_true (by rw [unhide HKA]; exact Nat.lt_succ_self _)]; rfl
              · rw [if_pos ⟨unhide HKA, rfl⟩, pdat_app]
                rfl
            have HMX := hide hMX
            have HEX := hide (And.intro (unhide HJ0).1 (((unhide HEQ).2.trans ((unhide HB7).2.mono hszq)).trans (unhide HJ0).2))
            clear hMX HCH d1 d2 y0 HPS HJ0
            obtain ⟨CC, hCC⟩ : ∃ CC : World → Prop, CC = fun w' => Below w8.heap.size w8 w' := ⟨_, rfl⟩
            have HC0 : Hid (CC { w8 with drawn := w8.drawn + 1 }) := by unfold Hid; rw [hCC]; exact (Below.refl _ _).drew
            have HCW : Hid (∀ w', CC w' → Below w8.heap.size w8 w') := by unfold Hid; rw [hCC]; exact fun w' hw => hw
            have HCC : Hid (∀ w', CC w' → w'.cell? ⟨bL, oL + k * 2, none⟩ = some (.string kk) ∧ w'.cell? ⟨w.heap.size, 0, none⟩ = some (.string ak)) := by
              unfold Hid
              rw [hCC]
              exact fun w' hw => ⟨(unhide HSK w' (unhide HB1 _ ((unhide HEX).2.trans (hw.mono (unhide HEX).2.size)))).1, (unhide HC1 w' ((unhide HEX).2.trans (hw.mono (unhide HEX).2.size))).1⟩
            clear hCC
            by_cases hke : kk = ak
            · have hk3 : (kk.toList != ak.toList) = false := by simp [hke]
              have hk4 : (kk.toList == ak.toList) = true := by simp [hke]
              have HKE := hide hke
              clear hke
              go_wp2_with fail
              refine region_calm CC (by kernel_rfl) (by kernel_rfl) (unhide HC0) ?_
              repeat (first
                | go_big_quiet_skip
                | (go_big_quiet_want
                   apply Exists.intro
                   refine ⟨fun w' hw' => ?_, ?_⟩
                   · obtain ⟨c0, c1⟩ := unhide HCC w' hw'
                     go_simp
                     first | done | rfl
                   simp only [Act.put, List.setIfInBounds_toArray, List.set_cons_zero, List.set_cons_succ]
                   go_big_quiet_on))
              refine wpQuiet_nil ?_
              intro w' hw'
              have HBW := hide (unhide HCW w' hw')
              clear hw' HC0 HCC HCW
              go_wp2
              go_roundw
              case rel =>
                have h8 := unhide HSU
                rw [if_pos (show kk.toList = ak.toList by rw [unhide HKE]), List.append_nil] at h8
                exact ⟨k + 1, (m + 1), q0, cc0, true, (L' ++ [((⟨ak, tp, tn, tc, false⟩, av) : El)]), by omega, by go_num, rfl, rfl, (unhide HMX).1, (unhide HMX).2.1, by rw [(unhide HMX).2.2.1]; exact h8.symm, (unhide HEX).1.below (unhide HBW), (unhide HEX).2.trans ((unhide HBW).mono (unhide HEX).2.size)⟩
              case measure => simp [intOf]; omega
            · have hk3 : (kk.toList != ak.toList) = true := by
                simp only [bne_iff_ne]
                exact fun e => hke (bl_inj e)
              have HKE : Hid (¬ kk.toList = ak.toList) := fun e => hke (bl_inj e)
              have hk4 : (kk.toList == ak.toList) = false := by
                simp only [beq_eq_false_iff_ne]
                exact fun e => hke (bl_inj e)
              clear hke
              go_wp2_with fail
              refine region_calm CC (by kernel_rfl) (by kernel_rfl) (unhide HC0) ?_
              repeat (first
                | go_big_quiet_skip
                | (go_big_quiet_want
                   apply Exists.intro
                   refine ⟨fun w' hw' => ?_, ?_⟩
                   · obtain ⟨c0, c1⟩ := unhide HCC w' hw'
                     go_simp
                     first | done | rfl
                   simp only [Act.put, List.setIfInBounds_toArray, List.set_cons_zero, List.set_cons_succ]
                   go_big_quiet_on))
              refine wpQuiet_nil ?_
              intro w' hw'
              have HBW := hide (unhide HCW w' hw')
              have hbW := (unhide HEX).2.trans ((unhide HBW).mono (unhide HEX).2.size)
              obtain ⟨z1, z2, z3⟩ := unhide HSK w' (unhide HB1 _ hbW)
              have hroomx : ((m + 1) + 1) * 40 ≤ 140737488355328 := (unhide HMX).2.2.2
              have HPP := hide (push_plain (y := (⟨kk, zp, zn, zc, zd⟩, zv)) ((unhide HEX).1.below (unhide HBW)) (unhide HMX).1 z3 (fun b off e hne ho9 => by
                have r1 := unhide HRT b off e hne
                have r2 := ((unhide HEX).1.1.lt b ho9).1
                have r3 := unhide HSZ
                omega) hroomx hbW.size)
              have HBX := hide hbW
              clear hw' HC0 HCC HCW z3 hbW hroomx
              go_wp2_with (refine unhide HPP _ _ _ _ _ _ _ rfl rfl rfl rfl ?_; intro q cc w9 HQ)
              go_roundw
              case rel =>
                have h8 := unhide HSU
                rw [if_neg (unhide HKE)] at h8
                refine ⟨k + 1, (m + 1) + 1, q, cc, true, (L' ++ [((⟨ak, tp, tn, tc, false⟩, av) : El)]) ++ [(⟨kk, zp, zn, zc, zd⟩, zv)], by omega, by go_num, rfl, rfl, by rw [List.length_append, ← (unhide HMX).1]; rfl, (unhide HMX).2.1, ?_, (unhide HQ).1, ?_⟩
                · rw [pdat_app, (unhide HMX).2.2.1]
                  exact h8.symm
                · exact (unhide HBX).trans (unhide HQ).2
              case measure => simp [intOf]; omega
    · have hkl : k = L.length := by omega
      cases dn with
      | true =>
        have hX9 : pdat L' = X := by
          rw [unhide HX, hd, hkl, ← pdat_len]
          refine onK_end hsp _ ?_
          cases ad with
          | true => exact Or.inl rfl
          | false =>
            right
            simp only [Bool.false_or] at hdn
            have h9 := of_decide_eq_true hdn.symm
            show plc (pdat L) ak.toList < (pdat L).length
            rw [← hAT, pdat_len]
            omega
        have HZ := hide (And.intro hX9 (And.intro heo hb))
        clear hst hm hdn hd heo hb hl hks hsp hroom hAT hle hs1 hml hkl hX9
        go_wp2
        go_ret
        obtain ⟨hX9, heo, hb⟩ := unhide HZ
        exact ⟨_, rfl, L', hX9, heo.base (unhide HB1 _ (Below.refl _ _)).size, unhide HB1 _ hb⟩
      | false =>
        have had : ad = false := by
          cases ad with
          | true => cases hdn
          | false => rfl
        subst had
        have hka : ¬ AT < k := by
          simp only [Bool.false_or] at hdn
          exact of_decide_eq_false hdn.symm
        have hX9 : pdat L' ++ [(ak, av)] = X := by
          rw [unhide HX, hd, hkl, ← pdat_len]
          refine onK_app hsp _ rfl ?_
          show plc (pdat L) ak.toList = (pdat L).length
          rw [← hAT, pdat_len]
          omega
        have HX9 := hide hX9
        have hlA : m ≤ L.length := by
          simp only [hka, if_false] at hml
          omega
        clear hka hkl
        have hbq := hb
        have heoq := heo
        have hdw : Below wr.heap.size wr wr.drew := (Below.refl _ _).drew
        have hbd := hbq.trans (hdw.mono hbq.size)
        obtain ⟨d1, d2, _⟩ := unhide HC1 wr.drew hbd
        have hcb := unhide HCB wr.drew (unhide HB1 _ hbd)
        have HCH : Hid (Calls Try.prog 30 #[.slice ap an ac] wr.drew fun e w7 => ∃ tp tn tc, e = .returned (.slice tp tn tc) ∧ w7.cell? ⟨w.heap.size, 0, none⟩ = some (.string ak) ∧ Hid (Mine w7 wr.heap.size (.slice tp tn tc) av ∧ Below wr.heap.size wr w7)) := by
          refine hcb.mono ?_
          rintro e w7 ⟨t, rfl, ho7, hb7⟩
          have hmi := mine_of_owns ho7
          obtain ⟨tp, tn, tc, rfl⟩ := mine_opv hmi
          have hb7' := hdw.trans (hb7.mono hdw.size)
          obtain ⟨y1, _, _⟩ := unhide HC1 w7 (hbq.trans (hb7'.mono hbq.size))
          exact ⟨tp, tn, tc, rfl, y1, hmi.base hdw.size, hb7'⟩
        have hmL := hm
        have how := heoq.1
        rw [← hmL] at how
        have HOW := hide how
        have HEQ := hide (And.intro heoq hbq)
        have hszq : W1.heap.size ≤ wr.heap.size := hbq.size
        have hrmq : (m + 1) * 40 ≤ 140737488355328 := rm_one hml hlA hroom
        have HRQ := hide hrmq
        have HPS : Hid (∀ (w7 : World) (tp : Option Addr) (tn tc : Nat), Hid (Mine w7 wr.heap.size (.slice tp tn tc) av ∧ Below wr.heap.size wr w7) → ∀ (ops : Array Oper) (o : Oper) (a : Act) (K : Act → World → Prop) (Q : Exit → Act → World → Prop) (E : Prop) (s x : Operand), o.guard = none → o.op = .call { callee := .builtin .append, args := #[s, x], argTypes := #[22, 22] } → a.eval s = .slice vp m vc → a.eval x = .slice (some ⟨w7.heap.size, 0, none⟩) 1 1 →
            (∀ q cc w', Hid (EO 37 2 prC w' W1.heap.size (.slice q (m + 1) cc) (L' ++ [(⟨ak, tp, tn, tc, false⟩, av)]) ∧ Below W1.heap.size w7 w') → K (a.put o.dst (.slice q (m + 1) cc)) w') → if Region.wanted o (yielded ops a.tmps) = true then Oper.wp Try.prog o a (w7.alloc (.cells #[.string ak, .slice tp tn tc] 37)) K Q else E) := by
          intro w7 tp tn tc hq7
          exact push_step (y := (⟨ak, tp, tn, tc, false⟩, av)) (heoq.below (unhide hq7).2) hmL (unhide hq7).1.1 (fun b off e hne ho9 => absurd (Nat.lt_of_lt_of_le (heoq.1.lt b ho9).2 (Mine.blk (o := ⟨ak, tp, tn, tc, false⟩) (unhide hq7).1 b off hne e)) (Nat.lt_irrefl _)) hrmq (Nat.le_trans hszq (unhide hq7).2.size)
        clear hbq heoq hdw hbd hcb hrmq hmL how hst hm hd heo hb hl hks hsp hroom hAT hle hs1 hml hdn hlA hX9
        go_wp2_with fail
        go_region_law (first
          | (with_reducible show (if Region.wanted (Oper.mk _ (Op.call (Call.mk (Callee.value _) _ _)) _ _ _ _) _ = true then _ else _); go_simp; go_at_call 30; refine Calls.mono (unhide HCH) ?_; rintro x w7 ⟨tp, tn, tc, rfl, y0, HB7⟩; dsimp only)
          | (with_reducible show (if Region.wanted (Oper.mk _ (Op.call (Call.mk (Callee.builtin _) _ _)) _ _ _ _) _ = true then _ else _); refine unhide HPS w7 tp tn tc HB7 _ _ _ _ _ _ _ _ rfl rfl (by simp [Act.eval]) (by simp [Act.eval]) ?_; intro q0 cc0 w8 HJ0))
        all_goals
          have HZ := hide (And.intro (unhide HJ0).1 (((unhide HEQ).2.trans ((unhide HB7).2.mono hszq)).trans (unhide HJ0).2))
          clear HCH d1 d2 y0 HPS HJ0
          go_wp2
          go_ret
          refine ⟨_, _, rfl, ?_, (unhide HZ).1.base (unhide HB1 _ (Below.refl _ _)).size, unhide HB1 _ (unhide HZ).2⟩
          rw [pdat_app]
          exact unhide HX9

end Go.Proofs.Ytehafkbndjifaaa
