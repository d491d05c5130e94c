/- Texts of ours, one behind the other: StOwn1, StOwn2, StOwn3, StOwn4, StOwn5. -/
import Derived.Test.YtehafkbndjifaaaG6
import Derived.BigQuiet
import Derived.BigRegion
/- The library's stable sort at operations: ranges swapped, rotated. -/
namespace Go.Proofs.Ytehafkbndjifaaa
open Go.RowKit

set_option maxRecDepth 20000 in
set_option maxHeartbeats 2000000 in
theorem swapr_any (g cap x y n : Nat) (F : Value) (D : List (Opv × Nat)) (w : World) (h : SRow w g cap D) (hx : x + n ≤ y) (hy : y + n ≤ D.length) :
    Calls Try.prog 80 #[.slice (some ⟨g, 0, none⟩) D.length cap, .int .i64 (x : Int), .int .i64 (y : Int), .int .i64 (n : Int), F] w fun e w' => e = .returned (.tuple #[]) ∧ ∃ E, Ix D E (sig x y n) ∧ SRow w' g cap E ∧ Keep (fun k => k = g) w w' := by
  have hsm := h.small
  have H0 := hide h
  have HX := hide hx
  have HY := hide hy
  have HS := hide hsm
  obtain ⟨l, hl⟩ : ∃ l, l = D.length := ⟨_, rfl⟩
  rw [← hl]
  have HL := hide hl
  have hn0 : (n : Int) < 4611686018427387904 := by omega
  clear h hx hy hl hsm
  go_enter Try.func80, Try.ntmps80
  go_wp2
  go_loopw [10] (fun i wr => ∃ k : Nat, k ≤ n ∧ i = .int .i64 k ∧ Hid (∃ E, Ix D E (sig x y k) ∧ SRow wr g cap E ∧ Keep (fun q => q = g) w wr)) (fun i _ => n - (intOf i).toNat)
  case atStart => exact ⟨0, Nat.zero_le _, rfl, D, (Ix.refl D).congr (fun k => (sig_zero x y k).symm), unhide H0, Keep.refl _ _⟩
  case round =>
    obtain ⟨k, hk, rfl, hst⟩ := hrel
    by_cases hlt : (k : Int) < (n : Int)
    · obtain ⟨E, ix, sr, kp⟩ := unhide hst
      have hX := unhide HX
      have hY := unhide HY
      have hS := unhide HS
      have hL := unhide HL
      have hEl := ix.len
      have i1 : x + k < E.length := by omega
      have i2 : y + k < E.length := by omega
      obtain ⟨P, hP⟩ : ∃ P, P = x + k := ⟨_, rfl⟩
      obtain ⟨Q, hQ⟩ : ∃ Q, Q = y + k := ⟨_, rfl⟩
      have w1 : IntKind.i64.wrap ((x : Int) + (k : Int)) = (P : Int) := by rw [IntKind.wrap_i64]; omega
      have w2 : IntKind.i64.wrap ((y : Int) + (k : Int)) = (Q : Int) := by rw [IntKind.wrap_i64]; omega
      have w3 : IntKind.i64.wrap ((k : Int) + 1) = (k : Int) + 1 := by rw [IntKind.wrap_i64]; omega
      rw [← hP] at i1
      rw [← hQ] at i2
      obtain ⟨a1, a2, a3⟩ := sr.cells P i1
      obtain ⟨b1, b2, b3⟩ := sr.cells Q i2
      have HST := hide (sr.set2 P Q i1 i2 E[Q] E[P])
      have HIX := hide (ix.swap P Q i1 i2 (g := sig x y (k + 1)) (fun q => by rw [hP, hQ]; exact sig_step x y k q (by omega)))
      unfold swp at HIX
      have HKP := hide kp
      have fz := sr.frozen
      have hp1 : (P : Int) < (l : Int) := by omega
      have hq1 : (Q : Int) < (l : Int) := by omega
      have hPQ : ¬ P = Q := by omega
      generalize E[P] = ep at *
      generalize E[Q] = eq at *
      obtain ⟨⟨pk, pp, pn, pc, pd⟩, pt⟩ := ep
      obtain ⟨⟨qk, qp, qn, qc, qd⟩, qt⟩ := eq
      simp only at a1 a2 a3 b1 b2 b3 HST
      clear hX hY hS hL hEl ix sr kp hP hQ i1 i2 hst
      go_wp2_with fail
      go_region
      go_wp2
      obtain ⟨h1, h2⟩ := unhide HST
      go_roundw
      case rel => exact ⟨k + 1, by omega, by go_num, _, unhide HIX, h1, (unhide HKP).trans h2 (fun _ h => Or.inl h)⟩
      case measure => simp [intOf]; omega
    · obtain rfl : k = n := by omega
      go_wp2
      go_end0
      obtain ⟨E, ix, sr, kp⟩ := unhide hst
      exact ⟨rfl, E, ix, sr, kp⟩

set_option maxRecDepth 20000 in
set_option maxHeartbeats 2000000 in
theorem rotate_any (g cap a m b : Nat) (F : Value) (D : List (Opv × Nat)) (w : World) (h : SRow w g cap D) (hx : a < m) (hy : m < b) (hb : b ≤ D.length) :
    Calls Try.prog 78 #[.slice (some ⟨g, 0, none⟩) D.length cap, .int .i64 (a : Int), .int .i64 (m : Int), .int .i64 (b : Int), F] w fun e w' => e = .returned (.tuple #[]) ∧ ∃ E, Ix D E (rho a m b) ∧ SRow w' g cap E ∧ Keep (fun k => k = g) w w' := by
  have hsm := h.small
  have H0 := hide h
  have HX := hide hx
  have HY := hide hy
  have HS := hide hsm
  obtain ⟨l, hl⟩ : ∃ l, l = D.length := ⟨_, rfl⟩
  rw [← hl]
  rw [← hl] at hb
  have HL := hide hl
  have HBB := hide hb
  have hi0 : IntKind.i64.wrap ((m : Int) - (a : Int)) = ((m - a : Nat) : Int) := by rw [IntKind.wrap_i64]; omega
  have hj0 : IntKind.i64.wrap ((b : Int) - (m : Int)) = ((b - m : Nat) : Int) := by rw [IntKind.wrap_i64]; omega
  obtain ⟨I0, hI0⟩ : ∃ I0, I0 = m - a := ⟨_, rfl⟩
  obtain ⟨J0, hJ0⟩ : ∃ J0, J0 = b - m := ⟨_, rfl⟩
  rw [← hI0] at hi0
  rw [← hJ0] at hj0
  have HI := hide hI0
  have HJ := hide hJ0
  clear h hx hy hl hsm hb hI0 hJ0
  go_enter Try.func78, Try.ntmps78
  go_wp2
  go_loopw [10, 11] (fun ii jj wr => ∃ i j : Nat, ii = .int .i64 i ∧ jj = .int .i64 j ∧ Hid (0 < i ∧ 0 < j ∧ i ≤ m ∧ m + j ≤ l ∧ ∃ E, E.length = l ∧ (∀ G, Ix E G (rho (m - i) m (m + j)) → Ix D G (rho a m b)) ∧ SRow wr g cap E ∧ Keep (fun q => q = g) w wr)) (fun ii jj _ => (intOf ii).toNat + (intOf jj).toNat)
  case atStart =>
    have h1 := unhide HI
    have h2 := unhide HJ
    have h3 := unhide HX
    have h4 := unhide HY
    have h5 := unhide HBB
    refine ⟨I0, J0, rfl, rfl, by omega, by omega, by omega, by omega, D, (unhide HL).symm, fun G hG => ?_, unhide H0, Keep.refl _ _⟩
    rw [show m - I0 = a by omega, show m + J0 = b by omega] at hG
    exact hG
  case round =>
    obtain ⟨i, j, rfl, rfl, hst⟩ := hrel
    obtain ⟨i0, j0, him, hjl, E, hEl, hIx, sr, kp⟩ := unhide hst
    have hS := unhide HS
    have hL := unhide HL
    obtain ⟨P, hP⟩ : ∃ P, P = m - i := ⟨_, rfl⟩
    have w1 : IntKind.i64.wrap ((m : Int) - (i : Int)) = (P : Int) := by rw [IntKind.wrap_i64]; omega
    have HKP := hide kp
    by_cases hij : i = j
    · have HC := hide (swapr_any g cap (m - i) m i F E wr sr (by omega) (by omega))
      rw [hEl, ← hP] at HC
      have HIX := hide hIx
      have HFA := hide (And.intro hP him)
      subst hij
      clear hEl hIx sr kp hS hL hP hst i0 j0 him hjl
      go_wp2_with (go_at_call 80; refine Calls.mono (unhide HC) ?_; rintro e w2 ⟨rfl, hx2⟩; have HX2 := hide hx2; clear hx2)
      go_end0
      obtain ⟨E2, ix, sr, kp⟩ := unhide HX2
      obtain ⟨hP, him⟩ := unhide HFA
      exact ⟨rfl, E2, unhide HIX E2 (ix.congr (fun k => by rw [hP]; exact rho_last m i k him)), sr, (unhide HKP).trans kp (fun _ h => Or.inl h)⟩
    · by_cases hlt : j < i
      · have HC := hide (swapr_any g cap (m - i) m j F E wr sr (by omega) (by omega))
        rw [hEl, ← hP] at HC
        have HIX := hide hIx
        have HFA := hide (And.intro hP (And.intro him (And.intro hjl (And.intro i0 (And.intro j0 hEl)))))
        obtain ⟨I2, hI2⟩ : ∃ I2, I2 = i - j := ⟨_, rfl⟩
        have w2 : IntKind.i64.wrap ((i : Int) - (j : Int)) = (I2 : Int) := by rw [IntKind.wrap_i64]; omega
        have HI2 := hide hI2
        have hltI : (j : Int) < (i : Int) := by omega
        have hnei : ¬ (i : Int) = (j : Int) := by omega
        have HLT := hide hlt
        clear hEl hIx sr kp hS hL hP hst i0 j0 him hjl hI2 hij hlt
        go_wp2_with (go_at_call 80; refine Calls.mono (unhide HC) ?_; rintro e w2 ⟨rfl, hx2⟩; have HX2 := hide hx2; clear hx2)
        obtain ⟨E2, ix, sr, kp⟩ := unhide HX2
        obtain ⟨hP, him, hjl, i0, j0, hEl⟩ := unhide HFA
        have hI2 := unhide HI2
        have hlt := unhide HLT
        go_roundw
        case rel =>
          refine ⟨I2, j, rfl, rfl, by omega, j0, by omega, hjl, E2, ix.len.trans hEl, fun G hG => unhide HIX G ((ix.trans hG).congr (fun k => ?_)), sr, (unhide HKP).trans kp (fun _ h => Or.inl h)⟩
          rw [hP, hI2]
          exact rho_left m i j k hlt him
        case measure => simp [intOf]; omega
      · have HC := hide (swapr_any g cap (m - i) (m + j - i) i F E wr sr (by omega) (by omega))
        obtain ⟨Q, hQ⟩ : ∃ Q, Q = m + j - i := ⟨_, rfl⟩
        rw [hEl, ← hP, ← hQ] at HC
        have HIX := hide hIx
        have HFA := hide (And.intro hP (And.intro hQ (And.intro him (And.intro hjl (And.intro i0 (And.intro j0 hEl))))))
        obtain ⟨J2, hJ2⟩ : ∃ J2, J2 = j - i := ⟨_, rfl⟩
        have w2 : IntKind.i64.wrap ((j : Int) - (i : Int)) = (J2 : Int) := by rw [IntKind.wrap_i64]; omega
        obtain ⟨M, hM⟩ : ∃ M, M = m + j := ⟨_, rfl⟩
        have w3 : IntKind.i64.wrap ((m : Int) + (j : Int)) = (M : Int) := by rw [IntKind.wrap_i64]; omega
        have w4 : IntKind.i64.wrap ((M : Int) - (i : Int)) = (Q : Int) := by rw [IntKind.wrap_i64]; omega
        have HJ2 := hide hJ2
        have hltI : ¬ (j : Int) < (i : Int) := by omega
        have hnei : ¬ (i : Int) = (j : Int) := by omega
        have HLT : Hid (i < j) := by unfold Hid; omega
        clear hEl hIx sr kp hS hL hP hQ hM hst i0 j0 him hjl hJ2 hij hlt
        go_wp2_with (go_at_call 80; refine Calls.mono (unhide HC) ?_; rintro e w2 ⟨rfl, hx2⟩; have HX2 := hide hx2; clear hx2)
        obtain ⟨E2, ix, sr, kp⟩ := unhide HX2
        obtain ⟨hP, hQ, him, hjl, i0, j0, hEl⟩ := unhide HFA
        have hJ2 := unhide HJ2
        have hlt := unhide HLT
        go_roundw
        case rel =>
          refine ⟨i, J2, rfl, rfl, i0, by omega, him, by omega, E2, ix.len.trans hEl, fun G hG => unhide HIX G ((ix.trans hG).congr (fun k => ?_)), sr, (unhide HKP).trans kp (fun _ h => Or.inl h)⟩
          rw [hP, hQ, hJ2]
          exact rho_right m i j k hlt him
        case measure => simp [intOf]; omega
end Go.Proofs.Ytehafkbndjifaaa

/- The library's stable sort at operations: insertion. -/
namespace Go.Proofs.Ytehafkbndjifaaa
open Go.RowKit

/-- A region that draws its order, by a class of worlds that all its operations keep. -/
theorem region_still {P : Program} {id : Nat} {Q : Exit → Act → World → Prop} {a : Act} {w : World} {l : List Oper} (C : World → Prop) (hm : P.follows .mixedOrders = true) (hB : Region.lexB .any l.toArray = true) (hC : C { w with drawn := w.drawn + 1 })
    (h : wpQuiet P l.toArray C (fun a' => ∀ w', C w' → Q .normal a' w') l a) : (Code.region id l.toArray true).wp P Q a w :=
  wp_region_quiet hm hB hC (by simpa using h)

/-- The class of worlds while two of the row are compared. -/
theorem cmp_class {wr : World} {g cap : Nat} {E : List (Opv × Nat)} (sr : SRow wr g cap E) (P Q : Nat) (hP : P < E.length) (hQ : Q < E.length) :
    ∃ CC : World → Prop, CC { wr with drawn := wr.drawn + 1 } ∧
      (∀ w', CC w' → (w'.cell? ⟨g, P * 3, none⟩ = some (.string E[P].1.key) ∧ w'.cell? ⟨g, P * 3 + 1, none⟩ = some (.slice E[P].1.p E[P].1.n E[P].1.c) ∧ w'.cell? ⟨g, P * 3 + 2, none⟩ = some (.bool E[P].1.del)) ∧
        (w'.cell? ⟨g, Q * 3, none⟩ = some (.string E[Q].1.key) ∧ w'.cell? ⟨g, Q * 3 + 1, none⟩ = some (.slice E[Q].1.p E[Q].1.n E[Q].1.c) ∧ w'.cell? ⟨g, Q * 3 + 2, none⟩ = some (.bool E[Q].1.del))) ∧
      (∀ w', CC w' → SRow w' g cap E ∧ Below wr.heap.size wr w') ∧
      (∀ w', CC w' → Calls Try.prog 59 #[.agg (opA E[P].1), .agg (opA E[Q].1)] w' fun e w'' => e = .returned (.int .i64 (cmpI E[P].1 E[Q].1)) ∧ CC w'') := by
  refine ⟨fun w' => Below wr.heap.size wr w', (Below.refl _ _).drew, fun w' hb => ⟨(sr.below hb).cells P hP, (sr.below hb).cells Q hQ⟩, fun w' hb => ⟨sr.below hb, hb⟩, fun w' hb => ?_⟩
  exact (bykey_any E[P].1 E[Q].1 w').mono fun e w'' hx => ⟨hx.1, hb.trans (hx.2.mono hb.size)⟩

theorem Ix.swap' {β : Type} {D E : List β} {f g : Nat → Nat} (h : Ix D E f) (i j : Nat) {x y : β} (hx : E[i]? = some x) (hy : E[j]? = some y) (e : ∀ k, f (tau i j k) = g k) : Ix D ((E.set i y).set j x) g := by
  obtain ⟨hi, rfl⟩ := List.getElem?_eq_some_iff.1 hx
  obtain ⟨hj, rfl⟩ := List.getElem?_eq_some_iff.1 hy
  exact h.swap i j hi hj e

/-- The value of the function that sorting is handed. -/
abbrev byV : Value := .func (.func 59) #[] #[]

/-- From a up to b the marks rise. -/
def Rs (D : List (Opv × Nat)) (a b : Nat) : Prop := ∀ i j x y, a ≤ i → i < j → j < b → D[i]? = some x → D[j]? = some y → x.2 < y.2

theorem ins_empty (g cap l a b : Nat) (w : World) (hab : b ≤ a) (ha : a < 4611686018427387904) :
    Calls Try.prog 75 #[.slice (some ⟨g, 0, none⟩) l cap, .int .i64 (a : Int), .int .i64 (b : Int), byV] w fun e w' => e = .returned (.tuple #[]) ∧ w' = w := by
  have h1 : IntKind.i64.wrap ((a : Int) + 1) = (a : Int) + 1 := by rw [IntKind.wrap_i64]; omega
  have h2 : ¬ (a : Int) + 1 < (b : Int) := by omega
  go_enter Try.func75, Try.ntmps75
  go_wp2
  refine wp_loop_rounds 1 ?_
  rw [rounds_succ]
  go_wp2
  go_end0
  exact ⟨rfl, rfl⟩

set_option maxRecDepth 20000 in
set_option maxHeartbeats 4000000 in
theorem ins_any (g cap a b : Nat) (D : List (Opv × Nat)) (w : World) (h : SRow w g cap D) (hab : a < b) (hb : b ≤ D.length) (hr : Rs D a b) :
    Calls Try.prog 75 #[.slice (some ⟨g, 0, none⟩) D.length cap, .int .i64 (a : Int), .int .i64 (b : Int), byV] w fun e w' => e = .returned (.tuple #[]) ∧ ∃ E, Ch a b D E ∧ So klt E a b ∧ SRow w' g cap E ∧ Keep (fun k => k = g) w w' := by
  have hsm := h.small
  have H0 := hide h
  have HR := hide hr
  obtain ⟨l, hl⟩ : ∃ l, l = D.length := ⟨_, rfl⟩
  rw [← hl]
  rw [← hl] at hb hsm
  have HL := hide hl
  have HF := hide (And.intro hab (And.intro hb hsm))
  have h1 : IntKind.i64.wrap ((a : Int) + 1) = ((a + 1 : Nat) : Int) := by rw [IntKind.wrap_i64]; omega
  obtain ⟨A1, hA1⟩ : ∃ A1, A1 = a + 1 := ⟨_, rfl⟩
  rw [← hA1] at h1
  have HA1 := hide hA1
  clear h hr hl hab hb hsm hA1
  go_enter Try.func75, Try.ntmps75
  go_wp2
  go_loopw [8] (fun ii wr => ∃ i : Nat, ii = .int .i64 i ∧ Hid (a < i ∧ i ≤ b ∧ ∃ E, Ch a i D E ∧ So klt E a i ∧ SRow wr g cap E ∧ Keep (fun q => q = g) w wr)) (fun ii _ => b - (intOf ii).toNat)
  case atStart =>
    have hA1 := unhide HA1
    obtain ⟨hab, hb, hsm⟩ := unhide HF
    exact ⟨A1, rfl, by omega, by omega, D, Ch.refl _ _ _, fun i j x y i1 i2 i3 => by omega, unhide H0, Keep.refl _ _⟩
  case round =>
    obtain ⟨i, rfl, hst⟩ := hrel
    obtain ⟨hai, hib, E, ch, so, sr, kp⟩ := unhide hst
    obtain ⟨hab, hb, hsm⟩ := unhide HF
    have hL := unhide HL
    by_cases hlt : (i : Int) < (b : Int)
    · have HE := hide (And.intro hai (And.intro ch (And.intro so kp)))
      have hEl : E.length = l := by rw [ch.len, hL]
      have hil : i < E.length := by omega
      have HTG : Hid (∀ k x y, a ≤ k → k < i → E[k]? = some x → E[i]? = some y → x.2 < y.2) := by
        intro k x y k1 k2 hx hy
        obtain ⟨j, j1, j2, j3⟩ := ch.mem k x k1 k2 hx
        rw [ch.out i (by omega)] at hy
        exact unhide HR j i x y j1 j2 (by omega) j3 hy
      have HSR := hide sr
      have HB := hide (And.intro hab (And.intro hb (And.intro hsm (And.intro hEl hib))))
      obtain ⟨w0, hw0⟩ : ∃ w0, w0 = wr := ⟨_, rfl⟩
      have HK0 : Hid (Keep (fun q => q = g) w0 wr) := by rw [hw0]; exact Keep.refl _ _
      rw [← hw0] at HE
      clear hw0
      have w3 : IntKind.i64.wrap ((i : Int) + 1) = ((i : Int) + 1) := by rw [IntKind.wrap_i64]; omega
      clear hai hib ch so sr kp hab hb hsm hL hEl hst
      go_wp2
      go_loopw [9] (fun jj wr => ∃ j : Nat, jj = .int .i64 j ∧ Hid (a ≤ j ∧ j ≤ i ∧ (∀ k x y, j ≤ k → k < i → E[i]? = some x → E[k]? = some y → L2 klt x y) ∧ ∃ E2, Ix E E2 (dn j i) ∧ SRow wr g cap E2 ∧ Keep (fun q => q = g) w0 wr)) (fun jj _ => (intOf jj).toNat)
      case atStart =>
        obtain ⟨hai, _⟩ := unhide HE
        exact ⟨i, rfl, by omega, Nat.le_refl _, fun k x y k1 k2 => by omega, E, (Ix.refl E).congr (fun k => (dn_zero i k).symm), unhide HSR, unhide HK0⟩
      case round =>
        obtain ⟨j, rfl, hst⟩ := hrel
        obtain ⟨haj, hji, hgt, E2, ix, sr, kp⟩ := unhide hst
        clear HSR HK0
        by_cases hja : (a : Int) < (j : Int)
        · obtain ⟨J, hJ⟩ : ∃ J, j = J + 1 := ⟨j - 1, by omega⟩
          obtain ⟨hab, hb, hsm, hEl, hib⟩ := unhide HB
          have hE2l := ix.len
          have i1 : j < E2.length := by omega
          have i2 : J < E2.length := by omega
          have eP : E2[j]? = E[i]? := by rw [ix.2]; congr 1; unfold dn; rw [if_neg (by omega), if_pos rfl]
          have eQ : E2[J]? = E[J]? := by rw [ix.2]; congr 1; unfold dn; rw [if_pos (by omega)]
          obtain ⟨CC, hC0, hCC, hCW, hCL⟩ := cmp_class sr j J i1 i2
          have hneg := cmp_neg E2[j].1 E2[J].1
          have e1 : E2[j]? = some E2[j] := List.getElem?_eq_getElem i1
          have e2 : E2[J]? = some E2[J] := List.getElem?_eq_getElem i2
          generalize E2[j] = PV at *
          generalize E2[J] = QV at *
          have HYES : Hid (klt PV.1 QV.1 = true → ∀ k x y, J ≤ k → k < i → E[i]? = some x → E[k]? = some y → L2 klt x y) := by
            intro hk k x y k1 k2 hx hy
            by_cases e : k = J
            · subst e
              rw [← eP, e1, Option.some.injEq] at hx
              rw [← eQ, e2, Option.some.injEq] at hy
              rw [← hx, ← hy]
              exact L2.of_yes hk
            · exact hgt k x y (by omega) k2 hx hy
          have HNO : Hid (klt PV.1 QV.1 = false → So klt E2 a (i + 1)) := by
            intro hk
            obtain ⟨_, _, so, _⟩ := unhide HE
            refine So.down so ix haj hji ?_ hgt
            intro k x y k1 k2 hx hy
            have hy' := hy
            rw [← eP, e1, Option.some.injEq] at hy
            have hJ' : E[J]? = some QV := by rw [← eQ, e2]
            have hl2 : L2 klt QV y := by rw [← hy] at hy' ⊢; exact L2.of_no hk (unhide HTG J _ _ (by omega) (by omega) hJ' hy')
            by_cases e : k = J
            · subst e
              rw [hJ', Option.some.injEq] at hx
              rw [← hx]; exact hl2
            · exact (so k J x _ k1 (by omega) (by omega) hx hJ').trans ord_klt hl2
          have HC0 := hide hC0
          have HCC := hide hCC
          have HCW := hide hCW
          have HCL := hide hCL
          have HIX := hide ix
          have HKP := hide kp
          have HFA := hide (And.intro haj (And.intro hji (And.intro hJ (And.intro i1 (And.intro i2 (And.intro e1 e2))))))
          have wJ : IntKind.i64.wrap ((j : Int) - 1) = (J : Int) := by rw [IntKind.wrap_i64]; omega
          have hj1 : (j : Int) < (l : Int) := by omega
          have hj2 : (J : Int) < (l : Int) := by omega
          have hjJ : ¬ j = J := by omega
          have hneg' : decide (cmpI PV.1 QV.1 < 0) = klt PV.1 QV.1 := hneg
          generalize cmpI PV.1 QV.1 = CV at *
          obtain ⟨⟨pk, pp, pn, pc, pd⟩, pt⟩ := PV
          obtain ⟨⟨qk, qp, qn, qc, qd⟩, qt⟩ := QV
          unfold opA at HCL
          simp only at HCL HCC hneg hneg'
          clear haj hji hgt ix sr kp hab hb hsm hEl hib hE2l i1 i2 eP eQ hC0 hCC hCW hCL hst e1 e2 hJ hneg
          cases hk : klt ⟨pk, pp, pn, pc, pd⟩ ⟨qk, qp, qn, qc, qd⟩ with
          | true =>
            rw [hk] at hneg'
            have hcv : CV < 0 := of_decide_eq_true hneg'
            have HY := hide (unhide HYES hk)
            clear hneg' hk HYES HNO
            go_wp2_with fail
            refine region_still CC (by kernel_rfl) (by kernel_rfl) (unhide HC0) ?_
            repeat (first
              | go_big_quiet_skip
              | (go_big_quiet_want
                 apply Exists.intro
                 refine ⟨fun w' hw' => ?_, ?_⟩
                 · obtain ⟨⟨c0, c1, c2⟩, c3, c4, c5⟩ := unhide HCC w' hw'
                   go_simp
                   first | done | rfl | exact unhide HCL w' hw'
                 simp only [Act.put, List.setIfInBounds_toArray, List.set_cons_zero, List.set_cons_succ]
                 go_big_quiet_on))
            refine wpQuiet_nil ?_
            intro w' hw'
            obtain ⟨sr2, bl2⟩ := unhide HCW w' hw'
            obtain ⟨haj, hji, hJ, i1, i2, e1, e2⟩ := unhide HFA
            obtain ⟨a1, a2, a3⟩ := sr2.cells j i1
            obtain ⟨b1, b2, b3⟩ := sr2.cells J i2
            rw [(List.getElem?_eq_some_iff.1 e1).2] at a1 a2 a3
            rw [(List.getElem?_eq_some_iff.1 e2).2] at b1 b2 b3
            simp only at a1 a2 a3 b1 b2 b3
            have fz := sr2.frozen
            have HST := hide (sr2.set2 j J i1 i2 ⟨⟨qk, qp, qn, qc, qd⟩, qt⟩ ⟨⟨pk, pp, pn, pc, pd⟩, pt⟩)
            have HBL := hide bl2
            have HIX2 := hide ((unhide HIX).swap' j J e1 e2 (g := dn J i) (fun q => by rw [hJ]; exact dn_step J i q (by omega)))
            simp only at HST
            clear haj hji hJ i1 i2 e1 e2 sr2 bl2 hw' HCC HCL HC0
            go_wp2_with fail
            go_region
            go_wp2
            obtain ⟨h1, h2⟩ := unhide HST
            obtain ⟨haj, hji, hJ, i1, i2, e1, e2⟩ := unhide HFA
            go_roundw
            case rel => exact ⟨J, rfl, by omega, by omega, unhide HY, _, unhide HIX2, h1, ((unhide HKP).trans (Keep.of_below (F := fun _ => False) (unhide HBL)) (fun _ h => h.elim)).trans h2 (fun _ h => Or.inl h)⟩
            case measure => simp [intOf]; omega
          | false =>
            rw [hk] at hneg'
            have hcv : ¬ CV < 0 := of_decide_eq_false hneg'
            have HS2 := hide (unhide HNO hk)
            clear hneg' hk HYES HNO
            go_wp2_with fail
            refine region_still CC (by kernel_rfl) (by kernel_rfl) (unhide HC0) ?_
            repeat (first
              | go_big_quiet_skip
              | (go_big_quiet_want
                 apply Exists.intro
                 refine ⟨fun w' hw' => ?_, ?_⟩
                 · obtain ⟨⟨c0, c1, c2⟩, c3, c4, c5⟩ := unhide HCC w' hw'
                   go_simp
                   first | done | rfl | exact unhide HCL w' hw'
                 simp only [Act.put, List.setIfInBounds_toArray, List.set_cons_zero, List.set_cons_succ]
                 go_big_quiet_on))
            refine wpQuiet_nil ?_
            intro w' hw'
            obtain ⟨sr2, bl2⟩ := unhide HCW w' hw'
            have HST := hide (And.intro sr2 bl2)
            clear sr2 bl2 hw' HCC HCL HC0
            go_wp2
            obtain ⟨sr2, bl2⟩ := unhide HST
            obtain ⟨hai, ch, so, kp0⟩ := unhide HE
            obtain ⟨haj, hji, hJ, i1, i2, e1, e2⟩ := unhide HFA
            go_roundw
            case rel => exact ⟨i + 1, by go_num, by omega, by omega, E2, (ch.mono (Nat.le_refl _) (by omega)).trans (dn_ch (unhide HIX) haj hji (by omega)), unhide HS2, sr2, ((kp0.trans (unhide HKP) (fun _ h => Or.inl h)).trans (Keep.of_below (F := fun _ => False) bl2) (fun _ h => h.elim))⟩
            case measure => simp [intOf]; omega
        · obtain rfl : j = a := by omega
          have HS2 : Hid (So klt E2 j (i + 1)) := by
            obtain ⟨_, _, so, _⟩ := unhide HE
            exact So.down so ix (Nat.le_refl _) hji (fun k x y k1 k2 => by omega) hgt
          obtain ⟨CC, hC0, hCW⟩ : ∃ CC : World → Prop, CC { wr with drawn := wr.drawn + 1 } ∧ ∀ w', CC w' → SRow w' g cap E2 ∧ Below wr.heap.size wr w' := ⟨fun w' => Below wr.heap.size wr w', (Below.refl _ _).drew, fun w' hb => ⟨sr.below hb, hb⟩⟩
          have HC0 := hide hC0
          have HCW := hide hCW
          have HFA := hide (And.intro ix (And.intro kp hji))
          have hd : decide ((j : Int) < (j : Int)) = false := by simp
          clear haj hji hgt ix sr kp hst hC0 hCW hja
          go_wp2_with fail
          refine region_still CC (by kernel_rfl) (by kernel_rfl) (unhide HC0) ?_
          repeat (first
            | go_big_quiet_skip
            | (go_big_quiet_want
               apply Exists.intro
               refine ⟨fun w' hw' => ?_, ?_⟩
               · go_simp
                 first | done | rfl
               simp only [Act.put, List.setIfInBounds_toArray, List.set_cons_zero, List.set_cons_succ]
               go_big_quiet_on))
          refine wpQuiet_nil ?_
          intro w' hw'
          have HST := hide (unhide HCW w' hw')
          clear hw' HC0
          go_wp2
          obtain ⟨sr2, bl2⟩ := unhide HST
          obtain ⟨hai, ch, so, kp0⟩ := unhide HE
          obtain ⟨ix, kp, hji⟩ := unhide HFA
          go_roundw
          case rel => exact ⟨i + 1, by go_num, by omega, by omega, E2, (ch.mono (Nat.le_refl _) (by omega)).trans (dn_ch ix (Nat.le_refl _) hji (by omega)), unhide HS2, sr2, ((kp0.trans kp (fun _ h => Or.inl h)).trans (Keep.of_below (F := fun _ => False) bl2) (fun _ h => h.elim))⟩
          case measure => simp [intOf]; omega
    · obtain rfl : i = b := by omega
      clear hai hib hab hb hsm hL hst
      have HE := hide (And.intro ch (And.intro so (And.intro sr kp)))
      clear ch so sr kp
      go_wp2
      go_end0
      obtain ⟨ch, so, sr, kp⟩ := unhide HE
      exact ⟨rfl, E, ch, so, sr, kp⟩
end Go.Proofs.Ytehafkbndjifaaa

/- The library's stable sort at operations: the symmetric merge, of one thing with many. -/
namespace Go.Proofs.Ytehafkbndjifaaa
open Go.RowKit

/-- What is asked of a merge. -/
structure MIn (w : World) (g cap : Nat) (D : List (Opv × Nat)) (a m b : Nat) : Prop where
  sr : SRow w g cap D
  am : a < m
  mb : m < b
  bl : b ≤ D.length
  s1 : So klt D a m
  s2 : So klt D m b
  cr : Cr D a m b

set_option maxRecDepth 20000 in
set_option maxHeartbeats 4000000 in
theorem sym_left (g cap a m b : Nat) (D : List (Opv × Nat)) (w : World) (h : MIn w g cap D a m b) (hm : m = a + 1) :
    Calls Try.prog 76 #[.slice (some ⟨g, 0, none⟩) D.length cap, .int .i64 (a : Int), .int .i64 (m : Int), .int .i64 (b : Int), byV] w fun e w' => e = .returned (.tuple #[]) ∧ ∃ E, Ch a b D E ∧ So klt E a b ∧ SRow w' g cap E ∧ Keep (fun k => k = g) w w' := by
  obtain ⟨sr, am, mb, bl, s1, s2, cr⟩ := h
  have hsm := sr.small
  have H0 := hide sr
  obtain ⟨l, hl⟩ : ∃ l, l = D.length := ⟨_, rfl⟩
  rw [← hl]
  have HL := hide hl
  have w1 : IntKind.i64.wrap ((m : Int) - (a : Int)) = 1 := by rw [IntKind.wrap_i64]; omega
  have HF := hide (And.intro am (And.intro mb (And.intro bl (And.intro hm hsm))))
  have HS := hide (And.intro s2 cr)
  clear sr am mb bl s1 s2 cr hl hsm hm
  go_enter Try.func76, Try.ntmps76
  go_wp2
  go_loopw [10, 11, 12] (fun ii jj _ wr => ∃ i j : Nat, ii = .int .i64 i ∧ jj = .int .i64 j ∧ Hid (m ≤ i ∧ i ≤ j ∧ j ≤ b ∧ (∀ k x y, m ≤ k → k < i → D[k]? = some x → D[a]? = some y → L2 klt x y) ∧ (∀ k x y, j ≤ k → k < b → D[a]? = some x → D[k]? = some y → L2 klt x y) ∧ SRow wr g cap D ∧ Keep (fun q => q = g) w wr)) (fun ii jj _ _ => (intOf jj).toNat - (intOf ii).toNat)
  case atStart =>
    obtain ⟨am, mb, bl, hm, hsm⟩ := unhide HF
    exact ⟨m, b, rfl, rfl, Nat.le_refl _, by omega, Nat.le_refl _, fun k x y k1 k2 => by omega, fun k x y k1 k2 => by omega, unhide H0, Keep.refl _ _⟩
  case round =>
    obtain ⟨i, j, rfl, rfl, hst⟩ := hrel
    obtain ⟨hmi, hij, hjb, hlo, hhi, sr, kp⟩ := unhide hst
    obtain ⟨am, mb, bl, hm, hsm⟩ := unhide HF
    by_cases hlt : (i : Int) < (j : Int)
    · obtain ⟨H, hH⟩ : ∃ H, H = (i + j) / 2 := ⟨_, rfl⟩
      have hHe : ((i : Int) + (j : Int)) / 2 = (H : Int) := by omega
      have hL := unhide HL
      have i1 : H < D.length := by omega
      have i2 : a < D.length := by omega
      obtain ⟨CC, hC0, hCC, hCW, hCL⟩ := cmp_class sr H a i1 i2
      have hneg := cmp_neg D[H].1 D[a].1
      have e1 : D[H]? = some D[H] := List.getElem?_eq_getElem i1
      have e2 : D[a]? = some D[a] := List.getElem?_eq_getElem i2
      generalize D[H] = PV at *
      generalize D[a] = QV at *
      have HC0 := hide hC0
      have HCC := hide hCC
      have HCW := hide hCW
      have HCL := hide hCL
      have HYES : Hid (klt PV.1 QV.1 = true → ∀ k x y, m ≤ k → k < H + 1 → D[k]? = some x → D[a]? = some y → L2 klt x y) := by
        intro hk k x y k1 k2 hx hy
        rw [e2, Option.some.injEq] at hy
        rw [← hy]
        by_cases e : k = H
        · subst e
          rw [e1, Option.some.injEq] at hx
          rw [← hx]; exact L2.of_yes hk
        · exact ((unhide HS).1 k H x _ k1 (by omega) (by omega) hx e1).trans ord_klt (L2.of_yes hk)
      have HNO : Hid (klt PV.1 QV.1 = false → ∀ k x y, H ≤ k → k < b → D[a]? = some x → D[k]? = some y → L2 klt x y) := by
        intro hk k x y k1 k2 hx hy
        rw [e2, Option.some.injEq] at hx
        rw [← hx]
        have h0 : L2 klt QV PV := L2.of_no hk ((unhide HS).2 a H _ _ (Nat.le_refl _) am (by omega) (by omega) e2 e1)
        by_cases e : k = H
        · subst e
          rw [e1, Option.some.injEq] at hy
          rw [← hy]; exact h0
        · exact h0.trans ord_klt ((unhide HS).1 H k _ y (by omega) (by omega) k2 e1 hy)
      have HKP := hide kp
      have HFA := hide (And.intro hmi (And.intro hij (And.intro hjb (And.intro hlo (And.intro hhi hH)))))
      have hH1 : (H : Int) < (l : Int) := by omega
      have ha1 : (a : Int) < (l : Int) := by omega
      have hS1 : (i : Int) + (j : Int) < 9223372036854775807 := by omega
      have w3 : IntKind.i64.wrap ((H : Int) + 1) = (H : Int) + 1 := by rw [IntKind.wrap_i64]; omega
      have HHB : Hid (i ≤ H ∧ H < j) := by unfold Hid; omega
      generalize cmpI PV.1 QV.1 = CV at *
      obtain ⟨⟨pk, pp, pn, pc, pd⟩, pt⟩ := PV
      obtain ⟨⟨qk, qp, qn, qc, qd⟩, qt⟩ := QV
      unfold opA at HCL
      simp only at HCL HCC hneg HYES HNO
      clear hmi hij hjb hlo hhi sr kp am mb bl hm hsm hL i1 i2 e1 e2 hC0 hCC hCW hCL hst hH
      cases hk : klt ⟨pk, pp, pn, pc, pd⟩ ⟨qk, qp, qn, qc, qd⟩ with
      | true =>
        rw [hk] at hneg
        have hcv : CV < 0 := of_decide_eq_true hneg
        have HY := hide (unhide HYES hk)
        clear hneg hk HYES HNO
        go_wp2_with fail
        refine region_still CC (by kernel_rfl) (by kernel_rfl) (unhide HC0) ?_
        repeat (first
          | go_big_quiet_skip
          | (go_big_quiet_want
             apply Exists.intro
             refine ⟨fun w' hw' => ?_, ?_⟩
             · obtain ⟨⟨c0, c1, c2⟩, c3, c4, c5⟩ := unhide HCC w' hw'
               go_simp
               first | done | rfl | exact unhide HCL w' hw'
             simp only [Act.put, List.setIfInBounds_toArray, List.set_cons_zero, List.set_cons_succ]
             go_big_quiet_on))
        refine wpQuiet_nil ?_
        intro w' hw'
        have HST := hide (unhide HCW w' hw')
        clear hw' HCC HCL HC0 hHe hS1
        go_wp2
        obtain ⟨sr2, bl2⟩ := unhide HST
        obtain ⟨hmi, hij, hjb, hlo, hhi, hH⟩ := unhide HFA
        obtain ⟨hb1, hb2⟩ := unhide HHB
        go_roundw
        case rel => exact ⟨H + 1, j, by go_num, rfl, by omega, by omega, hjb, unhide HY, hhi, sr2, (unhide HKP).trans (Keep.of_below (F := fun _ => False) bl2) (fun _ h => h.elim)⟩
        case measure => simp [intOf]; omega
      | false =>
        rw [hk] at hneg
        have hcv : ¬ CV < 0 := of_decide_eq_false hneg
        have HN := hide (unhide HNO hk)
        clear hneg hk HYES HNO
        go_wp2_with fail
        refine region_still CC (by kernel_rfl) (by kernel_rfl) (unhide HC0) ?_
        repeat (first
          | go_big_quiet_skip
          | (go_big_quiet_want
             apply Exists.intro
             refine ⟨fun w' hw' => ?_, ?_⟩
             · obtain ⟨⟨c0, c1, c2⟩, c3, c4, c5⟩ := unhide HCC w' hw'
               go_simp
               first | done | rfl | exact unhide HCL w' hw'
             simp only [Act.put, List.setIfInBounds_toArray, List.set_cons_zero, List.set_cons_succ]
             go_big_quiet_on))
        refine wpQuiet_nil ?_
        intro w' hw'
        have HST := hide (unhide HCW w' hw')
        clear hw' HCC HCL HC0 hHe hS1
        go_wp2
        obtain ⟨sr2, bl2⟩ := unhide HST
        obtain ⟨hmi, hij, hjb, hlo, hhi, hH⟩ := unhide HFA
        obtain ⟨hb1, hb2⟩ := unhide HHB
        go_roundw
        case rel => exact ⟨i, H, rfl, rfl, hmi, hb1, by omega, hlo, unhide HN, sr2, (unhide HKP).trans (Keep.of_below (F := fun _ => False) bl2) (fun _ h => h.elim)⟩
        case measure => simp [intOf]; omega
    · obtain rfl : i = j := by omega
      obtain ⟨I1, hI1⟩ : ∃ I1, i = I1 + 1 := ⟨i - 1, by omega⟩
      have w2 : IntKind.i64.wrap ((i : Int) - 1) = (I1 : Int) := by rw [IntKind.wrap_i64]; omega
      have HFA := hide (And.intro hmi (And.intro hjb (And.intro hlo (And.intro hhi hI1))))
      have HSR := hide sr
      obtain ⟨w0, hw0⟩ : ∃ w0, w0 = wr := ⟨_, rfl⟩
      have HK0 : Hid (Keep (fun q => q = g) w0 wr) := by rw [hw0]; exact Keep.refl _ _
      have HKP := hide kp
      rw [← hw0] at HKP
      clear hw0 hmi hij hjb hlo hhi sr kp am mb bl hm hsm hst hI1 hlt
      go_wp2
      go_loopw [13] (fun kk wr => ∃ k : Nat, kk = .int .i64 k ∧ Hid (a ≤ k ∧ k ≤ I1 ∧ ∃ E, Ix D E (upm a (k + 1)) ∧ SRow wr g cap E ∧ Keep (fun q => q = g) w0 wr)) (fun kk _ => I1 - (intOf kk).toNat)
      case atStart =>
        obtain ⟨hmi, hjb, hlo, hhi, hI1⟩ := unhide HFA
        obtain ⟨am, mb, bl, hm, hsm⟩ := unhide HF
        exact ⟨a, rfl, Nat.le_refl _, by omega, D, (Ix.refl D).congr (fun k => (upm_zero a k).symm), unhide HSR, unhide HK0⟩
      case round =>
        obtain ⟨k, rfl, hst⟩ := hrel
        obtain ⟨hak, hkI, E, ix, sr, kp⟩ := unhide hst
        obtain ⟨hmi, hjb, hlo, hhi, hI1⟩ := unhide HFA
        obtain ⟨am, mb, bl, hm, hsm⟩ := unhide HF
        have hL := unhide HL
        have hEl := ix.len
        clear HSR HK0
        by_cases hlt : (k : Int) < (I1 : Int)
        · obtain ⟨K1, hK1⟩ : ∃ K1, K1 = k + 1 := ⟨_, rfl⟩
          have w3 : IntKind.i64.wrap ((k : Int) + 1) = (K1 : Int) := by rw [IntKind.wrap_i64]; omega
          have i1 : k < E.length := by omega
          have i2 : K1 < E.length := by omega
          obtain ⟨a1, a2, a3⟩ := sr.cells k i1
          obtain ⟨b1, b2, b3⟩ := sr.cells K1 i2
          have HST := hide (sr.set2 k K1 i1 i2 E[K1] E[k])
          have HIX := hide (ix.swap k K1 i1 i2 (g := upm a (k + 2)) (fun q => by rw [hK1]; exact upm_step a k q hak))
          unfold swp at HIX
          have HKP2 := hide kp
          have fz := sr.frozen
          have hp1 : (k : Int) < (l : Int) := by omega
          have hq1 : (K1 : Int) < (l : Int) := by omega
          have hPQ : ¬ k = K1 := by omega
          have HK1 := hide (And.intro hK1 (And.intro hak hkI))
          generalize E[k] = ep at *
          generalize E[K1] = eq at *
          obtain ⟨⟨pk, pp, pn, pc, pd⟩, pt⟩ := ep
          obtain ⟨⟨qk, qp, qn, qc, qd⟩, qt⟩ := eq
          simp only at a1 a2 a3 b1 b2 b3 HST
          clear hak hkI ix sr kp hmi hjb hlo hhi hI1 am mb bl hm hsm hL hEl hK1 i1 i2 hst
          go_wp2_with fail
          go_region
          go_wp2
          obtain ⟨h1, h2⟩ := unhide HST
          obtain ⟨hK1, hak, hkI⟩ := unhide HK1
          go_roundw
          case rel => exact ⟨K1, rfl, by omega, by omega, _, by have hx := unhide HIX; rwa [show k + 2 = K1 + 1 by omega] at hx, h1, (unhide HKP2).trans h2 (fun _ h => Or.inl h)⟩
          case measure => simp [intOf]; omega
        · obtain rfl : k = I1 := by omega
          have HX := hide (And.intro ix (And.intro sr kp))
          clear hak hkI ix sr kp hmi hjb hlo hhi hI1 am mb bl hm hsm hL hEl hst
          go_wp2
          (try simp only [Exit.inBlock, Exit.then])
          refine bodyPost_ret (results_none rfl _ _ _) rfl ?_
          obtain ⟨ix, sr, kp⟩ := unhide HX
          obtain ⟨hmi, hjb, hlo, hhi, hI1⟩ := unhide HFA
          obtain ⟨am, mb, bl, hm, hsm⟩ := unhide HF
          obtain ⟨s2, cr⟩ := unhide HS
          rw [hI1] at hlo hhi hjb
          rw [hm] at s2 hlo
          exact ⟨rfl, E, upm_ch ix (by omega) hjb, So.up s2 ix (by omega) hjb hlo hhi, sr, (unhide HKP).trans kp (fun _ h => Or.inl h)⟩
end Go.Proofs.Ytehafkbndjifaaa

/- The library's stable sort at operations: the symmetric merge, of many things with one. -/
namespace Go.Proofs.Ytehafkbndjifaaa
open Go.RowKit

set_option maxRecDepth 20000 in
set_option maxHeartbeats 4000000 in
theorem sym_right (g cap a m b : Nat) (D : List (Opv × Nat)) (w : World) (h : MIn w g cap D a m b) (hm0 : m ≠ a + 1) (hm : b = m + 1) :
    Calls Try.prog 76 #[.slice (some ⟨g, 0, none⟩) D.length cap, .int .i64 (a : Int), .int .i64 (m : Int), .int .i64 (b : Int), byV] w fun e w' => e = .returned (.tuple #[]) ∧ ∃ E, Ch a b D E ∧ So klt E a b ∧ SRow w' g cap E ∧ Keep (fun k => k = g) w w' := by
  obtain ⟨sr, am, mb, bl, s1, s2, cr⟩ := h
  have hsm := sr.small
  have H0 := hide sr
  obtain ⟨l, hl⟩ : ∃ l, l = D.length := ⟨_, rfl⟩
  rw [← hl]
  have HL := hide hl
  obtain ⟨U, hU⟩ : ∃ U, U = m - a := ⟨_, rfl⟩
  have w0 : IntKind.i64.wrap ((m : Int) - (a : Int)) = (U : Int) := by rw [IntKind.wrap_i64]; omega
  have hU1 : ((U : Int) == 1) = false := by simp; omega
  have w1 : IntKind.i64.wrap ((b : Int) - (m : Int)) = 1 := by rw [IntKind.wrap_i64]; omega
  have HF := hide (And.intro am (And.intro mb (And.intro bl (And.intro hm hsm))))
  have HS := hide (And.intro s1 cr)
  clear sr am mb bl s1 s2 cr hl hsm hm hm0 hU
  go_enter Try.func76, Try.ntmps76
  go_wp2
  go_loopw [14, 15, 16] (fun ii jj _ wr => ∃ i j : Nat, ii = .int .i64 i ∧ jj = .int .i64 j ∧ Hid (a ≤ i ∧ i ≤ j ∧ j ≤ m ∧ (∀ k x y, a ≤ k → k < i → D[k]? = some x → D[m]? = some y → L2 klt x y) ∧ (∀ k x y, j ≤ k → k < m → D[m]? = some x → D[k]? = some y → L2 klt x y) ∧ SRow wr g cap D ∧ Keep (fun q => q = g) w wr)) (fun ii jj _ _ => (intOf jj).toNat - (intOf ii).toNat)
  case atStart =>
    obtain ⟨am, mb, bl, hm, hsm⟩ := unhide HF
    exact ⟨a, m, rfl, rfl, Nat.le_refl _, by omega, Nat.le_refl _, fun k x y k1 k2 => by omega, fun k x y k1 k2 => by omega, unhide H0, Keep.refl _ _⟩
  case round =>
    obtain ⟨i, j, rfl, rfl, hst⟩ := hrel
    obtain ⟨hmi, hij, hjb, hlo, hhi, sr, kp⟩ := unhide hst
    obtain ⟨am, mb, bl, hm, hsm⟩ := unhide HF
    by_cases hlt : (i : Int) < (j : Int)
    · obtain ⟨H, hH⟩ : ∃ H, H = (i + j) / 2 := ⟨_, rfl⟩
      have hHe : ((i : Int) + (j : Int)) / 2 = (H : Int) := by omega
      have hL := unhide HL
      have i1 : m < D.length := by omega
      have i2 : H < D.length := by omega
      obtain ⟨CC, hC0, hCC, hCW, hCL⟩ := cmp_class sr m H i1 i2
      have hneg := cmp_neg D[m].1 D[H].1
      have e1 : D[m]? = some D[m] := List.getElem?_eq_getElem i1
      have e2 : D[H]? = some D[H] := List.getElem?_eq_getElem i2
      generalize D[m] = PV at *
      generalize D[H] = QV at *
      have HC0 := hide hC0
      have HCC := hide hCC
      have HCW := hide hCW
      have HCL := hide hCL
      have HYES : Hid (klt PV.1 QV.1 = true → ∀ k x y, H ≤ k → k < m → D[m]? = some x → D[k]? = some y → L2 klt x y) := by
        intro hk k x y k1 k2 hx hy
        rw [e1, Option.some.injEq] at hx
        rw [← hx]
        by_cases e : k = H
        · subst e
          rw [e2, Option.some.injEq] at hy
          rw [← hy]; exact L2.of_yes hk
        · exact (L2.of_yes hk).trans ord_klt ((unhide HS).1 H k _ y (by omega) (by omega) k2 e2 hy)
      have HNO : Hid (klt PV.1 QV.1 = false → ∀ k x y, a ≤ k → k < H + 1 → D[k]? = some x → D[m]? = some y → L2 klt x y) := by
        intro hk k x y k1 k2 hx hy
        rw [e1, Option.some.injEq] at hy
        rw [← hy]
        have h0 : L2 klt QV PV := L2.of_no hk ((unhide HS).2 H m _ _ (by omega) (by omega) (Nat.le_refl _) mb e2 e1)
        by_cases e : k = H
        · subst e
          rw [e2, Option.some.injEq] at hx
          rw [← hx]; exact h0
        · exact ((unhide HS).1 k H x _ k1 (by omega) (by omega) hx e2).trans ord_klt h0
      have HKP := hide kp
      have HFA := hide (And.intro hmi (And.intro hij (And.intro hjb (And.intro hlo (And.intro hhi hH)))))
      have hH1 : (H : Int) < (l : Int) := by omega
      have ha1 : (m : Int) < (l : Int) := by omega
      have hS1 : (i : Int) + (j : Int) < 9223372036854775807 := by omega
      have w3 : IntKind.i64.wrap ((H : Int) + 1) = (H : Int) + 1 := by rw [IntKind.wrap_i64]; omega
      have HHB : Hid (i ≤ H ∧ H < j) := by unfold Hid; omega
      generalize cmpI PV.1 QV.1 = CV at *
      obtain ⟨⟨pk, pp, pn, pc, pd⟩, pt⟩ := PV
      obtain ⟨⟨qk, qp, qn, qc, qd⟩, qt⟩ := QV
      unfold opA at HCL
      simp only at HCL HCC hneg HYES HNO
      clear hmi hij hjb hlo hhi sr kp am mb bl hm hsm hL i1 i2 e1 e2 hC0 hCC hCW hCL hst hH
      cases hk : klt ⟨pk, pp, pn, pc, pd⟩ ⟨qk, qp, qn, qc, qd⟩ with
      | true =>
        rw [hk] at hneg
        have hcv : CV < 0 := of_decide_eq_true hneg
        have HY := hide (unhide HYES hk)
        clear hk HYES HNO
        go_wp2_with fail
        refine region_still CC (by kernel_rfl) (by kernel_rfl) (unhide HC0) ?_
        repeat (first
          | go_big_quiet_skip
          | (go_big_quiet_want
             apply Exists.intro
             refine ⟨fun w' hw' => ?_, ?_⟩
             · obtain ⟨⟨c0, c1, c2⟩, c3, c4, c5⟩ := unhide HCC w' hw'
               go_simp
               first | done | rfl | exact unhide HCL w' hw'
             simp only [Act.put, List.setIfInBounds_toArray, List.set_cons_zero, List.set_cons_succ]
             go_big_quiet_on))
        refine wpQuiet_nil ?_
        intro w' hw'
        have HST := hide (unhide HCW w' hw')
        clear hw' HCC HCL HC0 hHe hS1
        go_wp2
        obtain ⟨sr2, bl2⟩ := unhide HST
        obtain ⟨hmi, hij, hjb, hlo, hhi, hH⟩ := unhide HFA
        obtain ⟨hb1, hb2⟩ := unhide HHB
        go_roundw
        case rel => exact ⟨i, H, rfl, rfl, hmi, hb1, by omega, hlo, unhide HY, sr2, (unhide HKP).trans (Keep.of_below (F := fun _ => False) bl2) (fun _ h => h.elim)⟩
        case measure => simp [intOf]; omega
      | false =>
        rw [hk] at hneg
        have hcv : ¬ CV < 0 := of_decide_eq_false hneg
        have HN := hide (unhide HNO hk)
        clear hk HYES HNO
        go_wp2_with fail
        refine region_still CC (by kernel_rfl) (by kernel_rfl) (unhide HC0) ?_
        repeat (first
          | go_big_quiet_skip
          | (go_big_quiet_want
             apply Exists.intro
             refine ⟨fun w' hw' => ?_, ?_⟩
             · obtain ⟨⟨c0, c1, c2⟩, c3, c4, c5⟩ := unhide HCC w' hw'
               go_simp
               first | done | rfl | exact unhide HCL w' hw'
             simp only [Act.put, List.setIfInBounds_toArray, List.set_cons_zero, List.set_cons_succ]
             go_big_quiet_on))
        refine wpQuiet_nil ?_
        intro w' hw'
        have HST := hide (unhide HCW w' hw')
        clear hw' HCC HCL HC0 hHe hS1
        go_wp2
        obtain ⟨sr2, bl2⟩ := unhide HST
        obtain ⟨hmi, hij, hjb, hlo, hhi, hH⟩ := unhide HFA
        obtain ⟨hb1, hb2⟩ := unhide HHB
        go_roundw
        case rel => exact ⟨H + 1, j, by go_num, rfl, by omega, by omega, hjb, unhide HN, hhi, sr2, (unhide HKP).trans (Keep.of_below (F := fun _ => False) bl2) (fun _ h => h.elim)⟩
        case measure => simp [intOf]; omega
    · obtain rfl : i = j := by omega
      have HFA := hide (And.intro hmi (And.intro hjb (And.intro hlo hhi)))
      have HSR := hide sr
      obtain ⟨v0, hv0⟩ : ∃ v0, v0 = wr := ⟨_, rfl⟩
      have HK0 : Hid (Keep (fun q => q = g) v0 wr) := by rw [hv0]; exact Keep.refl _ _
      have HKP := hide kp
      rw [← hv0] at HKP
      clear hv0 hmi hij hjb hlo hhi sr kp am mb bl hm hsm hst hlt
      go_wp2
      go_loopw [17] (fun kk wr => ∃ k : Nat, kk = .int .i64 k ∧ Hid (i ≤ k ∧ k ≤ m ∧ ∃ E, Ix D E (dn k m) ∧ SRow wr g cap E ∧ Keep (fun q => q = g) v0 wr)) (fun kk _ => (intOf kk).toNat)
      case atStart =>
        obtain ⟨hmi, hjb, hlo, hhi⟩ := unhide HFA
        exact ⟨m, rfl, hjb, Nat.le_refl _, D, (Ix.refl D).congr (fun k => (dn_zero m k).symm), unhide HSR, unhide HK0⟩
      case round =>
        obtain ⟨k, rfl, hst⟩ := hrel
        obtain ⟨hak, hkI, E, ix, sr, kp⟩ := unhide hst
        obtain ⟨hmi, hjb, hlo, hhi⟩ := unhide HFA
        obtain ⟨am, mb, bl, hm, hsm⟩ := unhide HF
        have hL := unhide HL
        have hEl := ix.len
        clear HSR HK0
        by_cases hlt : (i : Int) < (k : Int)
        · obtain ⟨K1, hK1⟩ : ∃ K1, k = K1 + 1 := ⟨k - 1, by omega⟩
          have w3 : IntKind.i64.wrap ((k : Int) - 1) = (K1 : Int) := by rw [IntKind.wrap_i64]; omega
          have i1 : k < E.length := by omega
          have i2 : K1 < E.length := by omega
          obtain ⟨a1, a2, a3⟩ := sr.cells k i1
          obtain ⟨b1, b2, b3⟩ := sr.cells K1 i2
          have HST := hide (sr.set2 k K1 i1 i2 E[K1] E[k])
          have HIX := hide (ix.swap k K1 i1 i2 (g := dn K1 m) (fun q => by rw [hK1]; exact dn_step K1 m q (by omega)))
          unfold swp at HIX
          have HKP2 := hide kp
          have fz := sr.frozen
          have hp1 : (k : Int) < (l : Int) := by omega
          have hq1 : (K1 : Int) < (l : Int) := by omega
          have hPQ : ¬ k = K1 := by omega
          have HK1 := hide (And.intro hK1 (And.intro hak hkI))
          generalize E[k] = ep at *
          generalize E[K1] = eq at *
          obtain ⟨⟨pk, pp, pn, pc, pd⟩, pt⟩ := ep
          obtain ⟨⟨qk, qp, qn, qc, qd⟩, qt⟩ := eq
          simp only at a1 a2 a3 b1 b2 b3 HST
          clear hak hkI ix sr kp hmi hjb hlo hhi am mb bl hm hsm hL hEl hK1 i1 i2 hst
          go_wp2_with fail
          go_region
          go_wp2
          obtain ⟨h1, h2⟩ := unhide HST
          obtain ⟨hK1, hak, hkI⟩ := unhide HK1
          go_roundw
          case rel => exact ⟨K1, rfl, by omega, by omega, _, unhide HIX, h1, (unhide HKP2).trans h2 (fun _ h => Or.inl h)⟩
          case measure => simp [intOf]; omega
        · obtain rfl : k = i := by omega
          have HX := hide (And.intro ix (And.intro sr kp))
          clear hak hkI ix sr kp hmi hjb hlo hhi am mb bl hm hsm hL hEl hst
          go_wp2
          (try simp only [Exit.inBlock, Exit.then])
          refine bodyPost_ret (results_none rfl _ _ _) rfl ?_
          obtain ⟨ix, sr, kp⟩ := unhide HX
          obtain ⟨hmi, hjb, hlo, hhi⟩ := unhide HFA
          obtain ⟨am, mb, bl, hm, hsm⟩ := unhide HF
          obtain ⟨s1, cr⟩ := unhide HS
          refine ⟨rfl, E, dn_ch ix hmi hjb (by omega), ?_, sr, (unhide HKP).trans kp (fun _ h => Or.inl h)⟩
          rw [hm]
          exact So.down s1 ix hmi hjb hlo hhi
end Go.Proofs.Ytehafkbndjifaaa

/- The library's stable sort at operations: the symmetric merge in two halves. -/
namespace Go.Proofs.Ytehafkbndjifaaa
open Go.RowKit

set_option maxRecDepth 20000 in
set_option maxHeartbeats 8000000 in
theorem sym_gt (g cap a m b MID : Nat) (D : List (Opv × Nat)) (w : World) (h : MIn w g cap D a m b) (_ : m ≠ a + 1) (h2 : b ≠ m + 1) (hmid : MID = (a + b) / 2) (hc : MID < m)
    (IH : ∀ a' m' b' (D' : List (Opv × Nat)) W, b' - a' < b - a → MIn W g cap D' a' m' b' → Calls Try.prog 76 #[.slice (some ⟨g, 0, none⟩) D'.length cap, .int .i64 (a' : Int), .int .i64 (m' : Int), .int .i64 (b' : Int), byV] W fun e w' => e = .returned (.tuple #[]) ∧ ∃ E, Ch a' b' D' E ∧ So klt E a' b' ∧ SRow w' g cap E ∧ Keep (fun k => k = g) W w') :
    Calls Try.prog 76 #[.slice (some ⟨g, 0, none⟩) D.length cap, .int .i64 (a : Int), .int .i64 (m : Int), .int .i64 (b : Int), byV] w fun e w' => e = .returned (.tuple #[]) ∧ ∃ E, Ch a b D E ∧ So klt E a b ∧ SRow w' g cap E ∧ Keep (fun k => k = g) w w' := by
  obtain ⟨sr, am, mb, bl, s1, s2, cr⟩ := h
  have hsm := sr.small
  have H0 := hide sr
  obtain ⟨l, hl⟩ : ∃ l, l = D.length := ⟨_, rfl⟩
  rw [← hl]
  have HL := hide hl
  obtain ⟨U, hU⟩ : ∃ U, U = m - a := ⟨_, rfl⟩
  obtain ⟨V, hV⟩ : ∃ V, V = b - m := ⟨_, rfl⟩
  have wa : IntKind.i64.wrap ((m : Int) - (a : Int)) = (U : Int) := by rw [IntKind.wrap_i64]; omega
  have hU1 : ((U : Int) == 1) = false := by simp; omega
  have wb : IntKind.i64.wrap ((b : Int) - (m : Int)) = (V : Int) := by rw [IntKind.wrap_i64]; omega
  have hV1 : ((V : Int) == 1) = false := by simp; omega
  have hM : ((a : Int) + (b : Int)) / 2 = (MID : Int) := by omega
  have hAB : (a : Int) + (b : Int) < 9223372036854775807 := by omega
  obtain ⟨N, hN⟩ : ∃ N, N = MID + m := ⟨_, rfl⟩
  have wn : IntKind.i64.wrap ((MID : Int) + (m : Int)) = (N : Int) := by rw [IntKind.wrap_i64]; omega
  obtain ⟨PP, hP⟩ : ∃ PP, PP = N - 1 := ⟨_, rfl⟩
  have wp : IntKind.i64.wrap ((N : Int) - 1) = (PP : Int) := by rw [IntKind.wrap_i64]; omega
  obtain ⟨lo, hlo0⟩ : ∃ lo, lo = MID + m - b := ⟨_, rfl⟩
  have wlo : IntKind.i64.wrap ((N : Int) - (b : Int)) = (lo : Int) := by rw [IntKind.wrap_i64]; omega
  have hcI : (MID : Int) < (m : Int) := by omega
  have hlo : lo = if MID < m then MID + m - b else a := by rw [hlo0]; rw [if_pos hc]
  have hhi : MID = if MID < m then MID else m := by rw [if_pos hc]
  have amid : a < MID := by omega
  have midb : MID < b := by omega
  have HF := hide (And.intro am (And.intro mb (And.intro bl (And.intro hsm (And.intro hmid (And.intro hN (And.intro hP (And.intro hlo (And.intro hhi (And.intro amid midb))))))))))
  have HLH : Hid (lo ≤ MID ∧ a ≤ lo) := by unfold Hid; omega
  have HCC0 := hide hc
  have HS := hide (And.intro s1 (And.intro s2 cr))
  clear sr am mb bl s1 s2 cr hl hsm h2 hU hV hmid hc hN hP hlo hhi amid midb hlo0
  go_enter Try.func76, Try.ntmps76
  go_wp2
  clear hAB hM
  go_loopw [20, 21, 23] (fun ss rr _ wr => ∃ s r : Nat, ss = .int .i64 s ∧ rr = .int .i64 r ∧ Hid (lo ≤ s ∧ s ≤ r ∧ r ≤ MID ∧ (∀ c x y, lo ≤ c → c < s → D[c]? = some x → D[MID + m - 1 - c]? = some y → L2 klt x y) ∧ (∀ c x y, r ≤ c → c < MID → D[MID + m - 1 - c]? = some x → D[c]? = some y → L2 klt x y) ∧ SRow wr g cap D ∧ Keep (fun q => q = g) w wr)) (fun ss rr _ _ => (intOf rr).toNat - (intOf ss).toNat)
  case atStart =>
    exact ⟨lo, MID, rfl, rfl, Nat.le_refl _, (unhide HLH).1, Nat.le_refl _, fun c x y k1 k2 => by omega, fun c x y k1 k2 => by omega, unhide H0, Keep.refl _ _⟩
  case round =>
    obtain ⟨s, r, rfl, rfl, hst⟩ := hrel
    obtain ⟨hs1, hs2, hs3, q1, q2, sr, kp⟩ := unhide hst
    obtain ⟨am, mb, bl, hsm, hmid, hN, hP, hlo, hhi, amid, midb⟩ := unhide HF
    have hL := unhide HL
    by_cases hlt : (s : Int) < (r : Int)
    · obtain ⟨C, hC⟩ : ∃ C, C = (s + r) / 2 := ⟨_, rfl⟩
      have hCe : ((s : Int) + (r : Int)) / 2 = (C : Int) := by omega
      have hc0 := unhide HCC0
      obtain ⟨hl1, hl2⟩ := unhide HLH
      have hlq : lo = MID + m - b := by rw [hlo, if_pos hc0]
      have d1 : a ≤ C ∧ C < m := by omega
      have d2 : m ≤ MID + m - 1 - C ∧ MID + m - 1 - C < b := by omega
      obtain ⟨PC, hPC⟩ : ∃ PC, PC = MID + m - 1 - C := ⟨_, rfl⟩
      have wc : IntKind.i64.wrap ((PP : Int) - (C : Int)) = (PC : Int) := by rw [IntKind.wrap_i64]; omega
      rw [← hPC] at d2
      have i1 : PC < D.length := by omega
      have i2 : C < D.length := by omega
      obtain ⟨CC, hC0, hCC, hCW, hCL⟩ := cmp_class sr PC C i1 i2
      have hneg := cmp_neg D[PC].1 D[C].1
      have e1 : D[PC]? = some D[PC] := List.getElem?_eq_getElem i1
      have e2 : D[C]? = some D[C] := List.getElem?_eq_getElem i2
      generalize D[PC] = PV at *
      generalize D[C] = QV at *
      have HC0 := hide hC0
      have HCC := hide hCC
      have HCW := hide hCW
      have HCL := hide hCL
      have HYES : Hid (klt PV.1 QV.1 = true → ∀ c x y, C ≤ c → c < MID → D[MID + m - 1 - c]? = some x → D[c]? = some y → L2 klt x y) := by
        intro hk c x y k1 k2 hx hy
        have h0 : L2 klt PV QV := L2.of_yes hk
        by_cases e : c = C
        · subst e
          rw [e2, Option.some.injEq] at hy
          rw [← hPC, e1, Option.some.injEq] at hx
          rw [← hx, ← hy]; exact h0
        · exact ((unhide HS).2.1 _ PC x _ (by omega) (by omega) d2.2 hx e1).trans ord_klt (h0.trans ord_klt ((unhide HS).1 C c _ y d1.1 (by omega) (by omega) e2 hy))
      have HNO : Hid (klt PV.1 QV.1 = false → ∀ c x y, lo ≤ c → c < C + 1 → D[c]? = some x → D[MID + m - 1 - c]? = some y → L2 klt x y) := by
        intro hk c x y k1 k2 hx hy
        have h0 : L2 klt QV PV := L2.of_no hk ((unhide HS).2.2 C PC _ _ d1.1 d1.2 d2.1 d2.2 e2 e1)
        by_cases e : c = C
        · subst e
          rw [e2, Option.some.injEq] at hx
          rw [← hPC, e1, Option.some.injEq] at hy
          rw [← hx, ← hy]; exact h0
        · exact ((unhide HS).1 c C x _ (by omega) (by omega) d1.2 hx e2).trans ord_klt (h0.trans ord_klt ((unhide HS).2.1 PC _ _ y d2.1 (by omega) (by omega) e1 hy))
      have HKP := hide kp
      have HFA := hide (And.intro hs1 (And.intro hs2 (And.intro hs3 (And.intro q1 (And.intro q2 hC)))))
      have hH1 : (PC : Int) < (l : Int) := by omega
      have ha1 : (C : Int) < (l : Int) := by omega
      have hS1 : (s : Int) + (r : Int) < 9223372036854775807 := by omega
      have w3 : IntKind.i64.wrap ((C : Int) + 1) = (C : Int) + 1 := by rw [IntKind.wrap_i64]; omega
      have HHB : Hid (s ≤ C ∧ C < r) := by unfold Hid; omega
      generalize cmpI PV.1 QV.1 = CV at *
      obtain ⟨⟨pk, pp, pn, pc, pd⟩, pt⟩ := PV
      obtain ⟨⟨qk, qp, qn, qc, qd⟩, qt⟩ := QV
      unfold opA at HCL
      simp only at HCL HCC hneg HYES HNO
      clear hs1 hs2 hs3 q1 q2 sr kp am mb bl hsm hL i1 i2 e1 e2 hC0 hCC hCW hCL hst hC hmid hN hP hlo hhi amid midb hc0 hl1 hl2 d1 d2 hPC hlq
      cases hk : klt ⟨pk, pp, pn, pc, pd⟩ ⟨qk, qp, qn, qc, qd⟩ with
      | true =>
        rw [hk] at hneg
        have hcv : CV < 0 := of_decide_eq_true hneg
        have HY := hide (unhide HYES hk)
        clear hk HYES HNO
        go_wp2_with fail
        refine region_still CC (by kernel_rfl) (by kernel_rfl) (unhide HC0) ?_
        repeat (first
          | go_big_quiet_skip
          | (go_big_quiet_want
             apply Exists.intro
             refine ⟨fun w' hw' => ?_, ?_⟩
             · obtain ⟨⟨c0, c1, c2⟩, c3, c4, c5⟩ := unhide HCC w' hw'
               go_simp
               first | done | rfl | exact unhide HCL w' hw'
             simp only [Act.put, List.setIfInBounds_toArray, List.set_cons_zero, List.set_cons_succ]
             go_big_quiet_on))
        refine wpQuiet_nil ?_
        intro w' hw'
        have HST := hide (unhide HCW w' hw')
        clear hw' HCC HCL HC0 hCe hS1
        go_wp2
        obtain ⟨sr2, bl2⟩ := unhide HST
        obtain ⟨hs1, hs2, hs3, q1, q2, hC⟩ := unhide HFA
        obtain ⟨hb1, hb2⟩ := unhide HHB
        go_roundw
        case rel => exact ⟨s, C, rfl, rfl, hs1, hb1, by omega, q1, unhide HY, sr2, (unhide HKP).trans (Keep.of_below (F := fun _ => False) bl2) (fun _ h => h.elim)⟩
        case measure => simp [intOf]; omega
      | false =>
        rw [hk] at hneg
        have hcv : ¬ CV < 0 := of_decide_eq_false hneg
        have HN := hide (unhide HNO hk)
        clear hk HYES HNO
        go_wp2_with fail
        refine region_still CC (by kernel_rfl) (by kernel_rfl) (unhide HC0) ?_
        repeat (first
          | go_big_quiet_skip
          | (go_big_quiet_want
             apply Exists.intro
             refine ⟨fun w' hw' => ?_, ?_⟩
             · obtain ⟨⟨c0, c1, c2⟩, c3, c4, c5⟩ := unhide HCC w' hw'
               go_simp
               first | done | rfl | exact unhide HCL w' hw'
             simp only [Act.put, List.setIfInBounds_toArray, List.set_cons_zero, List.set_cons_succ]
             go_big_quiet_on))
        refine wpQuiet_nil ?_
        intro w' hw'
        have HST := hide (unhide HCW w' hw')
        clear hw' HCC HCL HC0 hCe hS1
        go_wp2
        obtain ⟨sr2, bl2⟩ := unhide HST
        obtain ⟨hs1, hs2, hs3, q1, q2, hC⟩ := unhide HFA
        obtain ⟨hb1, hb2⟩ := unhide HHB
        go_roundw
        case rel => exact ⟨C + 1, r, by go_num, rfl, by omega, by omega, hs3, unhide HN, q2, sr2, (unhide HKP).trans (Keep.of_below (F := fun _ => False) bl2) (fun _ h => h.elim)⟩
        case measure => simp [intOf]; omega
    · obtain rfl : s = r := by omega
      obtain ⟨e, hE⟩ : ∃ e, e = MID + m - s := ⟨_, rfl⟩
      have cut := cut_of ord_klt (unhide HS).1 (unhide HS).2.1 bl am mb hmid hlo hhi hs1 (by omega) q1 q2
      rw [← hE] at cut
      have ws := cut.sum
      obtain ⟨z1, z2, z3, z4, z5, _, _⟩ := id cut
      have w5 : IntKind.i64.wrap ((N : Int) - (s : Int)) = (e : Int) := by rw [IntKind.wrap_i64]; omega
      by_cases r2 : e = m
      · skip
        have t1 : (s : Int) < (m : Int) := by omega
        have t2 : ¬ (m : Int) < (e : Int) := by omega
        have t3 : (a : Int) < (s : Int) := by omega
        have t4 : ¬ (s : Int) < (MID : Int) := by omega
        have t5 : (MID : Int) < (e : Int) := by omega
        have t6 : (e : Int) < (b : Int) := by omega
        have HBD := hide (And.intro amid (And.intro midb (And.intro bl (And.intro am mb))))
        have HCU := hide cut
        have HKP := hide kp
        have HSR := hide sr
        have HZ : Hid (s = m ∨ e = m ∨ (s < m ∧ m < e)) := by unfold Hid; omega
        clear cut kp sr hs1 hs2 hs3 q1 q2 hst am mb bl hsm hL hmid hlo hhi amid midb hE hN hP hlt z1 z2 z3 z4 z5 ws
        have Hr2 := hide r2
        clear r2
        obtain ⟨E, w1, hE1, hw1⟩ : ∃ E w1, Hid (E = D) ∧ Hid (w1 = wr) := ⟨_, _, rfl, rfl⟩
        have ixE : Ix D E (rho s m e) := by rw [unhide hE1]; exact (Ix.refl D).congr (fun k => (rho_id s m e k (by have := unhide HZ; omega) (unhide HCU).sm (unhide HCU).me).symm)
        have srE : SRow w1 g cap E := by rw [unhide hE1, unhide hw1]; exact unhide HSR
        have kpE : Keep (fun q => q = g) wr w1 := by rw [unhide hw1]; exact Keep.refl _ _
        obtain ⟨x1s, x2s, x3s, x4s, x5s, x6s⟩ := rho_left_so (unhide HS).1 (unhide HS).2.1 (unhide HS).2.2 (unhide HCU) ixE
        have hEl := ixE.len
        obtain ⟨c1, c2, c3, c4, c5, _, _⟩ := id (unhide HCU)
        obtain ⟨amid, midb, bl, am, mb⟩ := unhide HBD
        obtain ⟨F, w2, hF, hw2⟩ : ∃ F w2, Hid (F = E) ∧ Hid (w2 = w1) := ⟨_, _, rfl, rfl⟩
        have chF : Ch a MID E F := by rw [unhide hF]; exact Ch.refl _ _ _
        have soF : So klt F a MID := by rw [unhide hF]; exact so_empty x1s x2s (by omega) c1 (by omega)
        have srF : SRow w2 g cap F := by rw [unhide hF, unhide hw2]; exact srE
        have kpF : Keep (fun q => q = g) w1 w2 := by rw [unhide hw2]; exact Keep.refl _ _
        have y1 : So klt F MID e := fun i j x y i1 i2 i3 hx hy => x4s i j x y i1 i2 i3 (by rw [← chF.out i (by omega)]; exact hx) (by rw [← chF.out j (by omega)]; exact hy)
        have y2 : So klt F e b := fun i j x y i1 i2 i3 hx hy => x5s i j x y i1 i2 i3 (by rw [← chF.out i (by omega)]; exact hx) (by rw [← chF.out j (by omega)]; exact hy)
        have y3 : Cr F MID e b := fun i j x y i1 i2 i3 i4 hx hy => x6s i j x y i1 i2 i3 i4 (by rw [← chF.out i (by omega)]; exact hx) (by rw [← chF.out j (by omega)]; exact hy)
        have hFl := chF.len
        have HS2 := hide (IH MID e b F w2 (by omega) ⟨srF, by omega, by omega, by omega, y1, y2, y3⟩)
        rw [hFl, hEl, ← unhide HL] at HS2
        have HA2 := hide (And.intro ixE (And.intro kpE (And.intro chF (And.intro soF kpF))))
        rw [unhide hw2] at HS2
        rw [unhide hw1] at HS2
        clear ixE srE kpE x4s x5s x6s hEl c1 c2 c3 c4 c5 amid midb bl am mb chF soF srF kpF y1 y2 y3 hFl
        clear x1s x2s x3s
        go_wp2_with fail
        refine Calls.mono (unhide HS2) ?_
        rintro x3 w3 ⟨rfl, G, chG, soG, srG, kpG⟩
        obtain ⟨ixE, kpE, chF, soF, kpF⟩ := unhide HA2
        rw [← unhide hw1] at kpG
        rw [← unhide hw2] at kpG
        have HFIN : Hid (∃ E, Ch a b D E ∧ So klt E a b ∧ SRow w3 g cap E ∧ Keep (fun k => k = g) w w3) := by
          obtain ⟨amid, midb, bl, am, mb⟩ := unhide HBD
          obtain ⟨m1, m2⟩ := merge_all (unhide HS).1 (unhide HS).2.1 (unhide HCU) (by omega) (by omega) ixE chF soF chG soG
          exact ⟨G, m1, m2, srG, (((unhide HKP).trans kpE (fun _ h => Or.inl h)).trans kpF (fun _ h => Or.inl h)).trans kpG (fun _ h => Or.inl h)⟩
        clear ixE kpE chF soF kpF chG soG srG kpG
        go_wp2
        go_end0
        exact ⟨rfl, unhide HFIN⟩
      · skip
        by_cases r5 : a < s
        · by_cases r6 : e < b
          · skip
            have t1 : (s : Int) < (m : Int) := by omega
            have t2 : (m : Int) < (e : Int) := by omega
            have t3 : (a : Int) < (s : Int) := by omega
            have t4 : (s : Int) < (MID : Int) := by omega
            have t5 : (MID : Int) < (e : Int) := by omega
            have t6 : (e : Int) < (b : Int) := by omega
            have HRO := hide (rotate_any g cap s m e byV D wr sr (by omega) (by omega) (by omega))
            have HBD := hide (And.intro amid (And.intro midb (And.intro bl (And.intro am mb))))
            have HCU := hide cut
            have HKP := hide kp
            have HSR := hide sr
            have HZ : Hid (s = m ∨ e = m ∨ (s < m ∧ m < e)) := by unfold Hid; omega
            rw [← hL] at HRO
            clear cut kp sr hs1 hs2 hs3 q1 q2 hst am mb bl hsm hL hmid hlo hhi amid midb hE hN hP hlt z1 z2 z3 z4 z5 ws
            have Hr2 := hide r2
            clear r2
            have Hr5 := hide r5
            clear r5
            have Hr6 := hide r6
            clear r6
            go_wp2_with fail
            refine Calls.mono (unhide HRO) ?_
            rintro x1 w1 ⟨rfl, E, ixE, srE, kpE⟩
            obtain ⟨x1s, x2s, x3s, x4s, x5s, x6s⟩ := rho_left_so (unhide HS).1 (unhide HS).2.1 (unhide HS).2.2 (unhide HCU) ixE
            have hEl := ixE.len
            obtain ⟨c1, c2, c3, c4, c5, _, _⟩ := id (unhide HCU)
            obtain ⟨amid, midb, bl, am, mb⟩ := unhide HBD
            have HS1 := hide (IH a s MID E w1 (by omega) ⟨srE, by omega, by omega, by omega, x1s, x2s, x3s⟩)
            rw [hEl, ← unhide HL] at HS1
            have HA := hide (And.intro ixE (And.intro srE (And.intro kpE (And.intro x4s (And.intro x5s (And.intro x6s hEl))))))
            clear ixE srE kpE x1s x2s x3s x4s x5s x6s hEl c1 c2 c3 c4 c5 amid midb bl am mb
            go_wp2_with fail
            refine Calls.mono (unhide HS1) ?_
            rintro x2 w2 ⟨rfl, F, chF, soF, srF, kpF⟩
            obtain ⟨ixE, srE, kpE, x4s, x5s, x6s, hEl⟩ := unhide HA
            obtain ⟨c1, c2, c3, c4, c5, _, _⟩ := id (unhide HCU)
            obtain ⟨amid, midb, bl, am, mb⟩ := unhide HBD
            have y1 : So klt F MID e := fun i j x y i1 i2 i3 hx hy => x4s i j x y i1 i2 i3 (by rw [← chF.out i (by omega)]; exact hx) (by rw [← chF.out j (by omega)]; exact hy)
            have y2 : So klt F e b := fun i j x y i1 i2 i3 hx hy => x5s i j x y i1 i2 i3 (by rw [← chF.out i (by omega)]; exact hx) (by rw [← chF.out j (by omega)]; exact hy)
            have y3 : Cr F MID e b := fun i j x y i1 i2 i3 i4 hx hy => x6s i j x y i1 i2 i3 i4 (by rw [← chF.out i (by omega)]; exact hx) (by rw [← chF.out j (by omega)]; exact hy)
            have hFl := chF.len
            have HS2 := hide (IH MID e b F w2 (by omega) ⟨srF, by omega, by omega, by omega, y1, y2, y3⟩)
            rw [hFl, hEl, ← unhide HL] at HS2
            have HA2 := hide (And.intro ixE (And.intro kpE (And.intro chF (And.intro soF kpF))))
            clear ixE srE kpE x4s x5s x6s hEl c1 c2 c3 c4 c5 amid midb bl am mb chF soF srF kpF y1 y2 y3 hFl
            go_wp2_with fail
            refine Calls.mono (unhide HS2) ?_
            rintro x3 w3 ⟨rfl, G, chG, soG, srG, kpG⟩
            obtain ⟨ixE, kpE, chF, soF, kpF⟩ := unhide HA2
            have HFIN : Hid (∃ E, Ch a b D E ∧ So klt E a b ∧ SRow w3 g cap E ∧ Keep (fun k => k = g) w w3) := by
              obtain ⟨amid, midb, bl, am, mb⟩ := unhide HBD
              obtain ⟨m1, m2⟩ := merge_all (unhide HS).1 (unhide HS).2.1 (unhide HCU) (by omega) (by omega) ixE chF soF chG soG
              exact ⟨G, m1, m2, srG, (((unhide HKP).trans kpE (fun _ h => Or.inl h)).trans kpF (fun _ h => Or.inl h)).trans kpG (fun _ h => Or.inl h)⟩
            clear ixE kpE chF soF kpF chG soG srG kpG
            go_wp2
            go_end0
            exact ⟨rfl, unhide HFIN⟩
          · skip
            have t1 : (s : Int) < (m : Int) := by omega
            have t2 : (m : Int) < (e : Int) := by omega
            have t3 : (a : Int) < (s : Int) := by omega
            have t4 : (s : Int) < (MID : Int) := by omega
            have t5 : (MID : Int) < (e : Int) := by omega
            have t6 : ¬ (e : Int) < (b : Int) := by omega
            have HRO := hide (rotate_any g cap s m e byV D wr sr (by omega) (by omega) (by omega))
            have HBD := hide (And.intro amid (And.intro midb (And.intro bl (And.intro am mb))))
            have HCU := hide cut
            have HKP := hide kp
            have HSR := hide sr
            have HZ : Hid (s = m ∨ e = m ∨ (s < m ∧ m < e)) := by unfold Hid; omega
            rw [← hL] at HRO
            clear cut kp sr hs1 hs2 hs3 q1 q2 hst am mb bl hsm hL hmid hlo hhi amid midb hE hN hP hlt z1 z2 z3 z4 z5 ws
            have Hr2 := hide r2
            clear r2
            have Hr5 := hide r5
            clear r5
            have Hr6 := hide r6
            clear r6
            go_wp2_with fail
            refine Calls.mono (unhide HRO) ?_
            rintro x1 w1 ⟨rfl, E, ixE, srE, kpE⟩
            obtain ⟨x1s, x2s, x3s, x4s, x5s, x6s⟩ := rho_left_so (unhide HS).1 (unhide HS).2.1 (unhide HS).2.2 (unhide HCU) ixE
            have hEl := ixE.len
            obtain ⟨c1, c2, c3, c4, c5, _, _⟩ := id (unhide HCU)
            obtain ⟨amid, midb, bl, am, mb⟩ := unhide HBD
            have HS1 := hide (IH a s MID E w1 (by omega) ⟨srE, by omega, by omega, by omega, x1s, x2s, x3s⟩)
            rw [hEl, ← unhide HL] at HS1
            have HA := hide (And.intro ixE (And.intro srE (And.intro kpE (And.intro x4s (And.intro x5s (And.intro x6s hEl))))))
            clear ixE srE kpE x1s x2s x3s x4s x5s x6s hEl c1 c2 c3 c4 c5 amid midb bl am mb
            go_wp2_with fail
            refine Calls.mono (unhide HS1) ?_
            rintro x2 w2 ⟨rfl, F, chF, soF, srF, kpF⟩
            obtain ⟨ixE, srE, kpE, x4s, x5s, x6s, hEl⟩ := unhide HA
            obtain ⟨c1, c2, c3, c4, c5, _, _⟩ := id (unhide HCU)
            obtain ⟨amid, midb, bl, am, mb⟩ := unhide HBD
            have y1 : So klt F MID e := fun i j x y i1 i2 i3 hx hy => x4s i j x y i1 i2 i3 (by rw [← chF.out i (by omega)]; exact hx) (by rw [← chF.out j (by omega)]; exact hy)
            have y2 : So klt F e b := fun i j x y i1 i2 i3 hx hy => x5s i j x y i1 i2 i3 (by rw [← chF.out i (by omega)]; exact hx) (by rw [← chF.out j (by omega)]; exact hy)
            have y3 : Cr F MID e b := fun i j x y i1 i2 i3 i4 hx hy => x6s i j x y i1 i2 i3 i4 (by rw [← chF.out i (by omega)]; exact hx) (by rw [← chF.out j (by omega)]; exact hy)
            have hFl := chF.len
            obtain ⟨G, w3, hG, hw3⟩ : ∃ G w3, Hid (G = F) ∧ Hid (w3 = w2) := ⟨_, _, rfl, rfl⟩
            have chG : Ch MID b F G := by rw [unhide hG]; exact Ch.refl _ _ _
            have soG : So klt G MID b := by rw [unhide hG]; exact so_empty y1 y2 (by omega) (by omega) c4
            have srG : SRow w3 g cap G := by rw [unhide hG, unhide hw3]; exact srF
            have kpG : Keep (fun q => q = g) w2 w3 := by rw [unhide hw3]; exact Keep.refl _ _
            have HFIN : Hid (∃ E, Ch a b D E ∧ So klt E a b ∧ SRow w3 g cap E ∧ Keep (fun k => k = g) w w3) := by
              obtain ⟨amid, midb, bl, am, mb⟩ := unhide HBD
              obtain ⟨m1, m2⟩ := merge_all (unhide HS).1 (unhide HS).2.1 (unhide HCU) (by omega) (by omega) ixE chF soF chG soG
              exact ⟨G, m1, m2, srG, (((unhide HKP).trans kpE (fun _ h => Or.inl h)).trans kpF (fun _ h => Or.inl h)).trans kpG (fun _ h => Or.inl h)⟩
            rw [unhide hw3] at HFIN
            clear ixE kpE chF soF kpF chG soG srG kpG
            clear y1 y2 y3 hFl srF x4s x5s x6s hEl c1 c2 c3 c4 c5 amid midb bl am mb srE
            go_wp2
            go_end0
            exact ⟨rfl, unhide HFIN⟩
        · by_cases r6 : e < b
          · skip
            have t1 : (s : Int) < (m : Int) := by omega
            have t2 : (m : Int) < (e : Int) := by omega
            have t3 : ¬ (a : Int) < (s : Int) := by omega
            have t5 : (MID : Int) < (e : Int) := by omega
            have t6 : (e : Int) < (b : Int) := by omega
            have HRO := hide (rotate_any g cap s m e byV D wr sr (by omega) (by omega) (by omega))
            have HBD := hide (And.intro amid (And.intro midb (And.intro bl (And.intro am mb))))
            have HCU := hide cut
            have HKP := hide kp
            have HSR := hide sr
            have HZ : Hid (s = m ∨ e = m ∨ (s < m ∧ m < e)) := by unfold Hid; omega
            rw [← hL] at HRO
            clear cut kp sr hs1 hs2 hs3 q1 q2 hst am mb bl hsm hL hmid hlo hhi amid midb hE hN hP hlt z1 z2 z3 z4 z5 ws
            have Hr2 := hide r2
            clear r2
            have Hr5 := hide r5
            clear r5
            have Hr6 := hide r6
            clear r6
            go_wp2_with fail
            refine Calls.mono (unhide HRO) ?_
            rintro x1 w1 ⟨rfl, E, ixE, srE, kpE⟩
            obtain ⟨x1s, x2s, x3s, x4s, x5s, x6s⟩ := rho_left_so (unhide HS).1 (unhide HS).2.1 (unhide HS).2.2 (unhide HCU) ixE
            have hEl := ixE.len
            obtain ⟨c1, c2, c3, c4, c5, _, _⟩ := id (unhide HCU)
            obtain ⟨amid, midb, bl, am, mb⟩ := unhide HBD
            obtain ⟨F, w2, hF, hw2⟩ : ∃ F w2, Hid (F = E) ∧ Hid (w2 = w1) := ⟨_, _, rfl, rfl⟩
            have chF : Ch a MID E F := by rw [unhide hF]; exact Ch.refl _ _ _
            have soF : So klt F a MID := by rw [unhide hF]; exact so_empty x1s x2s (by omega) c1 (by omega)
            have srF : SRow w2 g cap F := by rw [unhide hF, unhide hw2]; exact srE
            have kpF : Keep (fun q => q = g) w1 w2 := by rw [unhide hw2]; exact Keep.refl _ _
            have y1 : So klt F MID e := fun i j x y i1 i2 i3 hx hy => x4s i j x y i1 i2 i3 (by rw [← chF.out i (by omega)]; exact hx) (by rw [← chF.out j (by omega)]; exact hy)
            have y2 : So klt F e b := fun i j x y i1 i2 i3 hx hy => x5s i j x y i1 i2 i3 (by rw [← chF.out i (by omega)]; exact hx) (by rw [← chF.out j (by omega)]; exact hy)
            have y3 : Cr F MID e b := fun i j x y i1 i2 i3 i4 hx hy => x6s i j x y i1 i2 i3 i4 (by rw [← chF.out i (by omega)]; exact hx) (by rw [← chF.out j (by omega)]; exact hy)
            have hFl := chF.len
            have HS2 := hide (IH MID e b F w2 (by omega) ⟨srF, by omega, by omega, by omega, y1, y2, y3⟩)
            rw [hFl, hEl, ← unhide HL] at HS2
            have HA2 := hide (And.intro ixE (And.intro kpE (And.intro chF (And.intro soF kpF))))
            rw [unhide hw2] at HS2
            clear ixE srE kpE x4s x5s x6s hEl c1 c2 c3 c4 c5 amid midb bl am mb chF soF srF kpF y1 y2 y3 hFl
            clear x1s x2s x3s
            go_wp2_with fail
            refine Calls.mono (unhide HS2) ?_
            rintro x3 w3 ⟨rfl, G, chG, soG, srG, kpG⟩
            obtain ⟨ixE, kpE, chF, soF, kpF⟩ := unhide HA2
            rw [← unhide hw2] at kpG
            have HFIN : Hid (∃ E, Ch a b D E ∧ So klt E a b ∧ SRow w3 g cap E ∧ Keep (fun k => k = g) w w3) := by
              obtain ⟨amid, midb, bl, am, mb⟩ := unhide HBD
              obtain ⟨m1, m2⟩ := merge_all (unhide HS).1 (unhide HS).2.1 (unhide HCU) (by omega) (by omega) ixE chF soF chG soG
              exact ⟨G, m1, m2, srG, (((unhide HKP).trans kpE (fun _ h => Or.inl h)).trans kpF (fun _ h => Or.inl h)).trans kpG (fun _ h => Or.inl h)⟩
            clear ixE kpE chF soF kpF chG soG srG kpG
            go_wp2
            go_end0
            exact ⟨rfl, unhide HFIN⟩
          · skip
            have t1 : (s : Int) < (m : Int) := by omega
            have t2 : (m : Int) < (e : Int) := by omega
            have t3 : ¬ (a : Int) < (s : Int) := by omega
            have t5 : (MID : Int) < (e : Int) := by omega
            have t6 : ¬ (e : Int) < (b : Int) := by omega
            have HRO := hide (rotate_any g cap s m e byV D wr sr (by omega) (by omega) (by omega))
            have HBD := hide (And.intro amid (And.intro midb (And.intro bl (And.intro am mb))))
            have HCU := hide cut
            have HKP := hide kp
            have HSR := hide sr
            have HZ : Hid (s = m ∨ e = m ∨ (s < m ∧ m < e)) := by unfold Hid; omega
            rw [← hL] at HRO
            clear cut kp sr hs1 hs2 hs3 q1 q2 hst am mb bl hsm hL hmid hlo hhi amid midb hE hN hP hlt z1 z2 z3 z4 z5 ws
            have Hr2 := hide r2
            clear r2
            have Hr5 := hide r5
            clear r5
            have Hr6 := hide r6
            clear r6
            go_wp2_with fail
            refine Calls.mono (unhide HRO) ?_
            rintro x1 w1 ⟨rfl, E, ixE, srE, kpE⟩
            obtain ⟨x1s, x2s, x3s, x4s, x5s, x6s⟩ := rho_left_so (unhide HS).1 (unhide HS).2.1 (unhide HS).2.2 (unhide HCU) ixE
            have hEl := ixE.len
            obtain ⟨c1, c2, c3, c4, c5, _, _⟩ := id (unhide HCU)
            obtain ⟨amid, midb, bl, am, mb⟩ := unhide HBD
            obtain ⟨F, w2, hF, hw2⟩ : ∃ F w2, Hid (F = E) ∧ Hid (w2 = w1) := ⟨_, _, rfl, rfl⟩
            have chF : Ch a MID E F := by rw [unhide hF]; exact Ch.refl _ _ _
            have soF : So klt F a MID := by rw [unhide hF]; exact so_empty x1s x2s (by omega) c1 (by omega)
            have srF : SRow w2 g cap F := by rw [unhide hF, unhide hw2]; exact srE
            have kpF : Keep (fun q => q = g) w1 w2 := by rw [unhide hw2]; exact Keep.refl _ _
            have y1 : So klt F MID e := fun i j x y i1 i2 i3 hx hy => x4s i j x y i1 i2 i3 (by rw [← chF.out i (by omega)]; exact hx) (by rw [← chF.out j (by omega)]; exact hy)
            have y2 : So klt F e b := fun i j x y i1 i2 i3 hx hy => x5s i j x y i1 i2 i3 (by rw [← chF.out i (by omega)]; exact hx) (by rw [← chF.out j (by omega)]; exact hy)
            have y3 : Cr F MID e b := fun i j x y i1 i2 i3 i4 hx hy => x6s i j x y i1 i2 i3 i4 (by rw [← chF.out i (by omega)]; exact hx) (by rw [← chF.out j (by omega)]; exact hy)
            have hFl := chF.len
            obtain ⟨G, w3, hG, hw3⟩ : ∃ G w3, Hid (G = F) ∧ Hid (w3 = w2) := ⟨_, _, rfl, rfl⟩
            have chG : Ch MID b F G := by rw [unhide hG]; exact Ch.refl _ _ _
            have soG : So klt G MID b := by rw [unhide hG]; exact so_empty y1 y2 (by omega) (by omega) c4
            have srG : SRow w3 g cap G := by rw [unhide hG, unhide hw3]; exact srF
            have kpG : Keep (fun q => q = g) w2 w3 := by rw [unhide hw3]; exact Keep.refl _ _
            have HFIN : Hid (∃ E, Ch a b D E ∧ So klt E a b ∧ SRow w3 g cap E ∧ Keep (fun k => k = g) w w3) := by
              obtain ⟨amid, midb, bl, am, mb⟩ := unhide HBD
              obtain ⟨m1, m2⟩ := merge_all (unhide HS).1 (unhide HS).2.1 (unhide HCU) (by omega) (by omega) ixE chF soF chG soG
              exact ⟨G, m1, m2, srG, (((unhide HKP).trans kpE (fun _ h => Or.inl h)).trans kpF (fun _ h => Or.inl h)).trans kpG (fun _ h => Or.inl h)⟩
            rw [unhide hw3] at HFIN
            rw [unhide hw2] at HFIN
            clear ixE kpE chF soF kpF chG soG srG kpG
            clear y1 y2 y3 hFl srF x4s x5s x6s hEl c1 c2 c3 c4 c5 amid midb bl am mb srE x1s x2s x3s
            go_wp2
            go_end0
            exact ⟨rfl, unhide HFIN⟩
end Go.Proofs.Ytehafkbndjifaaa
