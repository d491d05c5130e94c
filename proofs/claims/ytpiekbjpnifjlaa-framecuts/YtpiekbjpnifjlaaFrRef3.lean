/- The document's own answers of layer 6: Cut. -/
import Derived.Test.YtpiekbjpnifjlaaFrRef2
namespace Go.Proofs.Ytpiekbjpnifjlaa
open Go.RowKit

/-- Texts in a row of the call's own, to which texts are appended. -/
def ROwn (w : World) (base : Nat) (v : Value) (ls : List (List UInt8)) : Prop :=
  ∃ vs : List Value, vs.length = ls.length ∧ w.ownsRow base 23 1 v ls.length vs ∧ ∀ j (h : j < ls.length), ∃ t, vs[j]? = some t ∧ Row w t ls[j] ∧ ∀ b off n c, t = .slice (some ⟨b, off, none⟩) n c → ls[j] ≠ [] → v.ownBlock ≠ some b ∧ base ≤ b
theorem ROwn.nil (w : World) (base : Nat) : ROwn w base (.slice none 0 0) [] := ⟨[], rfl, World.ownsRow_nil _ _ _ _, fun j h => by simp at h⟩
theorem ROwn.below {w w' : World} {base : Nat} {v : Value} {ls : List (List UInt8)} (h : ROwn w base v ls) (hb : Below w.heap.size w w') : ROwn w' base v ls := by
  obtain ⟨vs, h1, h2, h3⟩ := h
  exact ⟨vs, h1, owns_below4 h2 hb, fun j hj => let ⟨t, a, b, c⟩ := h3 j hj; ⟨t, a, b.below hb, c⟩⟩
theorem ROwn.base {w : World} {base base' : Nat} {v : Value} {ls : List (List UInt8)} (h : ROwn w base v ls) (hb : base' ≤ base) : ROwn w base' v ls := by
  obtain ⟨vs, h1, h2, h3⟩ := h
  exact ⟨vs, h1, owns_base h2 hb, fun j hj => let ⟨t, a, b, c⟩ := h3 j hj; ⟨t, a, b, fun b off n c' e hne => ⟨(c b off n c' e hne).1, Nat.le_trans hb (c b off n c' e hne).2⟩⟩⟩
theorem ROwn.keep {F : Nat → Prop} {w w' : World} {base : Nat} {v : Value} {ls : List (List UInt8)} (h : ROwn w base v ls) (hk : Keep F w w') (hF : ∀ b, F b → b < base) : ROwn w' base v ls := by
  obtain ⟨vs, h1, h2, h3⟩ := h
  refine ⟨vs, h1, ⟨h2.1, ?_⟩, fun j hj => ?_⟩
  · rcases h2.2 with h2 | ⟨g, cap, cur, hv, hg, hh, r⟩
    · exact Or.inl h2
    · exact Or.inr ⟨g, cap, cur, hv, hg, (hk.block g (Array.getElem?_eq_some_iff.1 hh).1 (fun hf => by have := hF g hf; omega)).trans hh, r⟩
  · obtain ⟨t, a, b, c⟩ := h3 j hj
    exact ⟨t, a, b.keep hk (fun b' off c' e hne hf => by have := hF b' hf; have := (c b' off _ c' e hne).2; omega), c⟩
theorem ROwn.rows {w : World} {base : Nat} {v : Value} {ls : List (List UInt8)} (h : ROwn w base v ls) : Rows2 w v ls := by
  obtain ⟨vs, h1, h2, h3⟩ := h
  rcases h2.2 with ⟨rfl, e⟩ | ⟨g, cap, cur, rfl, hg, hh, k1, k2, k3, k4⟩
  · have : ls = [] := List.eq_nil_of_length_eq_zero e
    subst this
    exact Rows2.nil w
  · refine ⟨_, cap, rfl, k1, k2, by simp, Or.inr ⟨g, 0, rfl, fun j hj => ?_⟩⟩
    obtain ⟨t, a, b, _⟩ := h3 j hj
    refine ⟨t, ?_, b⟩
    rw [Nat.zero_add, cell_of_row w g j cur _ (0, 0) hh]
    rw [← k4] at a
    obtain ⟨hj2, rfl⟩ := List.getElem?_eq_some_iff.1 a
    simp only [List.length_take, Array.length_toList] at hj2
    rw [List.getElem_take, Array.getElem_toList]
    exact Array.getElem?_eq_getElem (by omega)
theorem ROwn.more {w1 W w2 : World} {base : Nat} {v v' t : Value} {ls : List (List UInt8)} {bs : List UInt8} (h : ROwn w1 base v ls) (hW : Below w1.heap.size w1 W) (hr : Row w1 t bs)
    (hap : ∀ b off n c, t = .slice (some ⟨b, off, none⟩) n c → bs ≠ [] → v.ownBlock ≠ some b ∧ base ≤ b)
    (hg : W.grownBy w2 v.ownBlock) (hv : v'.ownBlock = v.ownBlock ∨ v'.ownBlock = some W.heap.size) (hown : ∀ vs, w1.ownsRow base 23 1 v ls.length vs → w2.ownsRow base 23 1 v' (ls.length + 1) (vs ++ [t])) : ROwn w2 base v' (ls ++ [bs]) := by
  obtain ⟨vs, h1, h2, h3⟩ := h
  refine ⟨vs ++ [t], by simp [h1], by simpa using hown vs h2, fun j hj => ?_⟩
  have key : ∀ (t : Value) (bs : List UInt8), Row w1 t bs → (∀ b off n c, t = .slice (some ⟨b, off, none⟩) n c → bs ≠ [] → v.ownBlock ≠ some b ∧ base ≤ b) → Row w2 t bs ∧ ∀ b off n c, t = .slice (some ⟨b, off, none⟩) n c → bs ≠ [] → v'.ownBlock ≠ some b ∧ base ≤ b := by
    intro t bs hr ha
    refine ⟨(hr.below hW).grown hg (fun b off n c e hne => (ha b off n c e hne).1), fun b off n c e hne => ⟨?_, (ha b off n c e hne).2⟩⟩
    rcases hv with hv | hv
    · rw [hv]; exact (ha b off n c e hne).1
    · rw [hv]
      have := row_block_lt hr e hne
      have := hW.size
      intro e
      simp only [Option.some.injEq] at e
      omega
  by_cases hjl : j < ls.length
  · obtain ⟨t', a, b, c⟩ := h3 j hjl
    have e : (ls ++ [bs])[j] = ls[j] := List.getElem_append_left hjl
    rw [e]
    exact ⟨t', by rw [List.getElem?_append_left (by omega)]; exact a, key t' _ b c⟩
  · have hj' : j = ls.length := by simp at hj; omega
    subst hj'
    have e : (ls ++ [bs])[ls.length] = bs := by simp
    rw [e]
    exact ⟨t, by rw [← h1]; simp, key t bs hr hap⟩

set_option maxRecDepth 20000 in
theorem rcut_large (A C : Nat) (s : Value) (r : List UInt8) (w : World) (hs : Row w s r) (h : 8192 < r.length) :
    Calls Try.prog 21 #[.int .u64 (A : Int), .int .u64 (C : Int), s] w fun e w' => e = .returned (.tuple #[.slice none 0 0, .int .i64 4]) ∧ w' = w := by
  obtain ⟨q, c, l, rfl, hl⟩ := hs.shape
  have h' : (8192 : Int) < l := by omega
  clear hs
  go_enter Try.func21, Try.ntmps21
  go_wp2
  go_ret2
  exact ⟨rfl, rfl⟩

set_option maxRecDepth 20000 in
set_option maxHeartbeats 1000000 in
theorem rcut_ok (A C : Nat) (hA : A < 18446744073709551616) (hC : C < 18446744073709551616) (s : Value) (r : List UInt8) (w : World) (hs : Row w s r) (h : ¬ 8192 < r.length) :
    Calls Try.prog 21 #[.int .u64 (A : Int), .int .u64 (C : Int), s] w fun e w' => ∃ v, e = .returned (.tuple #[v, .int .i64 0]) ∧ ROwn w' w.heap.size v (cutL A C r) ∧ Below w.heap.size w w' := by
  obtain ⟨i0, hi, hz0, hz1, hz2⟩ := info_parts Try.info23
  have HFR := hide (rframes_any A C hA hC s r w hs (by omega))
  have hln := length_frames A C r
  have hn2 := count_le (n := r.length) (by omega)
  have HFG := hide (fun j (hj : j < (framesN A C r).length) => frames_get A C r j hj)
  have HPM := hide (fun j => part_may A C r j (by omega))
  have HCL : Hid (cutL A C r = (framesN A C r).map bytesF) := by unfold Hid cutL; rw [if_neg h]
  obtain ⟨q, c, l, rfl, hl⟩ := hs.shape
  have h' : ¬ (8192 : Int) < l := by omega
  clear hs h hl
  go_enter Try.func21, Try.ntmps21
  go_wp2_with fail
  refine Calls.mono (unhide HFR) ?_
  rintro e w0 ⟨v0, L, rfl, hF, hfr, hb0⟩
  have hLl : L.length = (framesN A C r).length := by rw [← hfr, length_frs]
  obtain ⟨N, hN⟩ : ∃ N, N = L.length := ⟨_, rfl⟩
  have hN19 : (N : Int) ≤ 19 := by omega
  have HAT : Hid (∀ j (hj : j < N), ∃ (b off cap : Nat) (t : Value), v0 = .slice (some ⟨b, off, none⟩) N cap ∧ At4 w0 b (off + j * 4) (.int .u64 (A : Int)) (.int .u64 (C : Int)) (.int .i64 (countN r.length)) t ∧ Row w0 t (partN r j)) := by
    intro j hj
    obtain ⟨b, off, cap, e, _, _, _, hat⟩ := hF.fl.open (by intro e; rw [e] at hN; simp at hN; omega)
    obtain ⟨h4, hr4⟩ := hat j (by omega)
    have hjf : j < (frs L).length := by rw [length_frs]; omega
    have e1 : L[j].1 = ⟨A, C, countN r.length, partN r j⟩ := by
      have e2 : (frs L)[j] = L[j].1 := by simp [frs]
      rw [← e2]
      have e3 : (frs L)[j] = (framesN A C r)[j]'(by omega) := by congr 1
      rw [e3]
      exact unhide HFG j (by omega)
    rw [e1] at h4 hr4
    exact ⟨b, off, cap, L[j].2, by rw [hN]; exact e, h4, hr4⟩
  obtain ⟨p0, c0, rfl, _⟩ := hF.fl.shape
  have HFL : Hid ((framesN A C r).length = N) := by unfold Hid; omega
  rw [← hN]
  rw [← hN] at HAT
  have HWR := hide (fun (t : Value) j w' (hr : Row w' t (partN r j)) => rwrite_any ⟨A, C, countN r.length, partN r j⟩ t w' ⟨hA, hC, by simp only; omega, by simp only; omega, by simp only [length_part]; omega⟩ hr)
  have HB0 := hide hb0
  clear hF hfr hLl hN hb0 hln hn2
  unfold fv at HWR
  generalize countN r.length = cn at *
  go_wp2_with fail
  go_loopw [8, 10] (fun v i wr => ∃ (k : Nat), k ≤ N ∧ i = .int .i64 k ∧ Hid (ROwn wr w0.heap.size v (((framesN A C r).take k).map bytesF)) ∧ Hid (Below w0.heap.size w0 wr)) (fun _ i _ => N - (intOf i).toNat)
  case atStart => exact ⟨0, Nat.zero_le _, rfl, ROwn.nil _ _, Below.refl _ _⟩
  case round =>
    obtain ⟨k, hk, rfl, hR, hbel⟩ := hrel
    by_cases hlt : k < N
    · obtain ⟨b, off, cap, t, e, h4, hrow⟩ := unhide HAT k hlt
      simp only [Value.slice.injEq, true_and] at e
      obtain ⟨rfl, rfl⟩ := e
      obtain ⟨c0, c1, c2, c3⟩ := h4.below (unhide hbel)
      have hrow' := hrow.below (unhide hbel)
      have HW1 := hide (unhide HWR t k wr hrow')
      obtain ⟨pt, lt, ct, rfl⟩ := slice_of_row hrow'
      have hkl : (k : Int) < N := by omega
      have hwe : writeE ⟨A, C, cn, partN r k⟩ = 0 := by unfold writeE; rw [if_pos (unhide HPM k)]
      have hwb : writeB ⟨A, C, cn, partN r k⟩ = bytesF ⟨A, C, cn, partN r k⟩ := by unfold writeB; rw [if_pos (unhide HPM k)]
      rw [hwe, hwb] at HW1
      clear hrow hrow' h4 hwe hwb
      go_wp2_with fail
      refine Calls.mono (unhide HW1) ?_
      rintro e w1 ⟨t2, rfl, x2, b2⟩
      obtain ⟨W, hW⟩ : ∃ W, W = w1.alloc (.cells #[t2] 23) := ⟨_, rfl⟩
      have hbW : Below w1.heap.size w1 W := by rw [hW]; exact (Below.refl _ _).alloc (Nat.le_refl _) _
      have hcW : W.cell? ⟨w1.heap.size, 0, none⟩ = some t2 := by rw [hW]; exact cell_one (heap_alloc_new _ _)
      have hR1 := (unhide hR).below b2
      obtain ⟨vs, hvl, hown, hrows⟩ := id hR1
      have hownW := owns_below4 hown hbW
      have hlen : (((framesN A C r).take k).map bytesF).length = k := by rw [List.length_map, List.length_take, unhide HFL]; omega
      rw [hlen] at hownW hown hvl
      have hszW : w0.heap.size ≤ W.heap.size := Nat.le_trans (Nat.le_trans (unhide hbel).size b2.size) hbW.size
      have hr2 := row_of_owns x2
      have hap : ∀ b off n c, t2 = .slice (some ⟨b, off, none⟩) n c → bytesF ⟨A, C, cn, partN r k⟩ ≠ [] → u8.ownBlock ≠ some b ∧ w0.heap.size ≤ b := by
        intro b off n c e _
        rw [e] at x2
        have h2 := (x2.lt b rfl).1
        have h3 := (unhide hbel).size
        refine ⟨fun hb => ?_, by omega⟩
        have h1 := (((unhide hR).choose_spec).2.1.lt b hb).2
        omega
      obtain ⟨p2, l2, c2', e2⟩ := slice_of_row hr2
      subst e2
      have HBK := hide ((unhide hbel).trans (b2.mono (unhide hbel).size) |>.trans (hbW.mono (Nat.le_trans (unhide hbel).size b2.size)))
      have HMORE := hide (fun v' w2 hg hv ho => hR1.more (t := .slice p2 l2 c2') (v' := v') (w2 := w2) hbW hr2 hap hg hv ho)
      have HWW := hide hW
      have HOW := hide hownW
      have HOV := hide hown
      have HLT := hide (fun j hj => (hown.lt j hj))
      clear hW hR1 hr2 hap x2 b2 HW1 hrows hown hownW
      go_wp2_with (at_builtin; rw [← unhide HWW]; refine wpList_append_gen rfl _ _ 39 rfl w0.heap.size 23 i0 (.slice none 0 0) Try.underlying39 hi hz0 1 24 (by omega) hz1 hz2 rfl u8 k vs rfl (unhide HOW) ⟨w1.heap.size, 0, none⟩ 1 1 [.slice p2 l2 c2'] rfl rfl ?c1 ?c2 ?c3 ?c4 hszW ?_)
      case c1 =>
        intro j u hj
        match j, hj with
        | 0, hj => simp at hj; subst hj; simpa [Addr.add] using hcW
        | j + 1, hj => simp at hj
      case c2 => intro u hu; simp at hu; subst hu; rfl
      case c3 => unfold maxLen; omega
      case c4 => omega
      intro v' w2 hown2 hgrow hvb
      have HR2 : Hid (ROwn w2 w0.heap.size v' (((framesN A C r).take k).map bytesF ++ [bytesF ⟨A, C, cn, partN r k⟩])) := unhide HMORE v' w2 hgrow hvb (fun vs' ho' => by
        rw [hlen] at ho' ⊢
        have : vs' = vs := by
          have h1 := unhide HOV
          rcases h1.2 with ⟨e1, e2⟩ | ⟨g, cp, cur, e1, _, hh, _, _, hcs, htk⟩
          · have a1 := h1.1
            have a2 := ho'.1
            have b1 : vs = [] := List.eq_nil_of_length_eq_zero (by omega)
            have b2 : vs' = [] := List.eq_nil_of_length_eq_zero (by omega)
            rw [b1, b2]
          · rcases ho'.2 with ⟨f1, f2⟩ | ⟨g', cp', cur', f1, _, hh', _, _, hcs', htk'⟩
            · rw [e1] at f1; cases f1
            · rw [e1] at f1
              simp only [Value.slice.injEq, Option.some.injEq, Addr.mk.injEq, and_true, true_and] at f1
              obtain ⟨rfl, rfl⟩ := f1
              rw [hh] at hh'
              simp only [Option.some.injEq, Obj.cells.injEq, and_true] at hh'
              rw [← htk, ← htk', hh']
        rw [this]
        exact hown2)
      have HBF := hide ((unhide HBK).grown hgrow (unhide HBK).size (fun j hj => (unhide HLT j hj).1))
      clear hown2 hgrow hvb HMORE HOW HBK
      go_wp2
      go_roundw
      case rel =>
        refine ⟨k + 1, by omega, by go_num, ?_, unhide HBF⟩
        have hkf : k < (framesN A C r).length := by rw [unhide HFL]; exact hlt
        unfold Hid
        rw [List.take_succ_eq_append_getElem hkf, List.map_append, unhide HFG k hkf]
        exact unhide HR2
      case measure => simp [intOf]; omega
    · have hkn : k = N := by omega
      subst hkn
      have HE : Hid (((framesN A C r).take k).map bytesF = cutL A C r) := by unfold Hid; rw [unhide HCL, List.take_of_length_le (by rw [unhide HFL]; exact Nat.le_refl _)]
      go_wp2
      go_ret2
      exact ⟨_, rfl, by rw [← unhide HE]; exact (unhide hR).base (unhide HB0).size, (unhide HB0).trans ((unhide hbel).mono (unhide HB0).size)⟩
theorem rcut_any (A C : Nat) (hA : A < 18446744073709551616) (hC : C < 18446744073709551616) (s : Value) (r : List UInt8) (w : World) (hs : Row w s r) :
    Calls Try.prog 21 #[.int .u64 (A : Int), .int .u64 (C : Int), s] w fun e w' => ∃ v, e = .returned (.tuple #[v, .int .i64 (cutE r)]) ∧ ROwn w' w.heap.size v (cutL A C r) ∧ Below w.heap.size w w' := by
  by_cases h : 8192 < r.length
  · refine (rcut_large A C s r w hs h).mono ?_
    rintro e w1 ⟨rfl, rfl⟩
    have e4 : cutE r = 4 := by unfold cutE; rw [if_pos h]
    exact ⟨_, by rw [e4], by unfold cutL; rw [if_pos h]; exact ROwn.nil _ _, Below.refl _ _⟩
  · refine (rcut_ok A C hA hC s r w hs h).mono ?_
    rintro e w1 ⟨v, rfl, hp, hb⟩
    have e0 : cutE r = 0 := by unfold cutE; rw [if_neg h]
    exact ⟨_, by rw [e0], hp, hb⟩
end Go.Proofs.Ytpiekbjpnifjlaa
