/- Texts of ours, one behind the other: WalOwn5. -/
import Derived.Test.YtpkpjmebkikgdaaGreatG10
import Derived.Deep.RegionLaw
import Derived.Deep.MidRow
import Derived.Lib.SliceRun
/- The landed package wal: Free: where a turn stands among the records' beginnings, and the records ahead of it taken away. -/
namespace Go.Proofs.YtpkpjmebkikgdaaGreat
open Go.RowKit

def cmpN (a b : Nat) : Int := if a < b then -1 else if b < a then 1 else 0

theorem isnan_any (a : Int) (w : World) : Calls Tryz.prog 78 #[.int .u64 a] w fun e w' => e = .returned (.bool false) ∧ w' = w := by
  have h : (a == a) = true := by simp
  go_enter Tryz.func78, Tryz.ntmps78
  go_wp2
  go_ret
  exact ⟨rfl, rfl⟩
set_option maxRecDepth 20000 in
theorem compare_any (a b : Nat) (w : World) : Calls Tryz.prog 66 #[.int .u64 (a : Int), .int .u64 (b : Int)] w fun e w' => e = .returned (.int .i64 (cmpN a b)) ∧ w' = w := by
  unfold cmpN
  have H1 := hide (isnan_any (a : Int) w)
  have H2 := hide (isnan_any (b : Int) w)
  by_cases h1 : a < b
  · rw [if_pos h1]
    go_enter Tryz.func66, Tryz.ntmps66
    go_wp2_with fail
    refine Calls.mono (unhide H1) ?_
    rintro e w1 ⟨rfl, rfl⟩
    go_wp2_with fail
    refine Calls.mono (unhide H2) ?_
    rintro e w1 ⟨rfl, rfl⟩
    go_wp2
    go_ret
    exact ⟨rfl, rfl⟩
  · rw [if_neg h1]
    by_cases h2 : b < a
    · rw [if_pos h2]
      go_enter Tryz.func66, Tryz.ntmps66
      go_wp2_with fail
      refine Calls.mono (unhide H1) ?_
      rintro e w1 ⟨rfl, rfl⟩
      go_wp2_with fail
      refine Calls.mono (unhide H2) ?_
      rintro e w1 ⟨rfl, rfl⟩
      go_wp2
      go_ret
      exact ⟨rfl, rfl⟩
    · rw [if_neg h2]
      go_enter Tryz.func66, Tryz.ntmps66
      go_wp2_with fail
      refine Calls.mono (unhide H1) ?_
      rintro e w1 ⟨rfl, rfl⟩
      go_wp2_with fail
      refine Calls.mono (unhide H2) ?_
      rintro e w1 ⟨rfl, rfl⟩
      go_wp2
      go_ret
      exact ⟨rfl, rfl⟩
theorem free1_any (a x b : Nat) (w : World) : Calls Tryz.prog 65 #[.agg #[.int .u64 (a : Int), .int .u64 (x : Int)], .int .u64 (b : Int)] w fun e w' => e = .returned (.int .i64 (cmpN a b)) ∧ Below w.heap.size w w' := by
  have H := hide (fun w' => compare_any a b w')
  go_enter Tryz.func65, Tryz.ntmps65
  go_wp2_with fail
  refine Calls.mono (unhide H _) ?_
  rintro e w1 ⟨rfl, rfl⟩
  go_wp2
  go_ret
  exact ⟨rfl, (Below.refl _ _).alloc (Nat.le_refl _) _⟩
theorem ent_free1 (args : Array Value) (w : World) : (callFunc 65 args).run Tryz.prog w = .ok (.enter 65 args) w := by
  first | kernel_rfl | rfl | simp [callFunc, Tryz.func65]

/-- The two cells of each beginning. -/
def StAt (w : World) (q : Option Addr) (st : List (Nat × Nat)) : Prop := ∀ j (h : j < st.length), ∃ k off, q = some ⟨k, off, none⟩ ∧ w.cell? ⟨k, off + j * 2, none⟩ = some (.int .u64 (st[j].1 : Int)) ∧ w.cell? ⟨k, off + j * 2 + 1, none⟩ = some (.int .u64 (st[j].2 : Int))
theorem StAt.below {w w' : World} {q : Option Addr} {st : List (Nat × Nat)} (h : StAt w q st) (hb : Below w.heap.size w w') : StAt w' q st := fun j hj => by
  obtain ⟨k, off, e, h1, h2⟩ := h j hj
  exact ⟨k, off, e, (hb.cell (World.block_lt_of_cell? w _ h1)).trans h1, (hb.cell (World.block_lt_of_cell? w _ h2)).trans h2⟩
theorem stAt_of {w : World} {base e : Nat} {q : Option Addr} {n c : Nat} {st : List (Nat × Nat)} (h : w.ownsRow base e 2 (.slice q n c) st.length (startsC st)) : StAt w q st := fun j hj => by
  rcases h.2 with ⟨_, h5⟩ | ⟨k, cap, cur, hv, _⟩
  · omega
  · simp only [Value.slice.injEq] at hv
    obtain ⟨rfl, rfl, rfl⟩ := hv
    have h1 := h.cells (g := k) rfl (j * 2 + 0) _ (startsC_get st j hj 0 (by omega))
    have h2 := h.cells (g := k) rfl (j * 2 + 1) _ (startsC_get st j hj 1 (by omega))
    rw [Addr.add_lit] at h1 h2
    exact ⟨k, 0, rfl, by simpa [startC] using h1, by simpa [startC, Nat.add_assoc] using h2⟩

/-- Where 'to' stands. -/
def Lands (st : List (Nat × Nat)) (to i : Nat) : Prop := i ≤ st.length ∧ (∀ j (h : j < st.length), j < i → st[j].1 < to) ∧ ∀ j (h : j < st.length), i ≤ j → to ≤ st[j].1

set_option maxRecDepth 20000 in
set_option maxHeartbeats 2000000 in
theorem search_any (q : Option Addr) (c : Nat) (st : List (Nat × Nat)) (to : Nat) (w : World) (hst : StAt w q st) (hs : st.Pairwise (fun a b => a.1 < b.1)) (hl : st.length ≤ 8190) :
    Calls Tryz.prog 64 #[.slice q st.length c, .int .u64 (to : Int), .func (.func 65) #[] #[]] w fun e w' => ∃ i : Nat, e = .returned (.tuple #[.int .i64 (i : Int), .bool (decide (∃ h : i < st.length, st[i].1 = to))]) ∧ Lands st to i ∧ Below w.heap.size w w' := by
  have hmono : ∀ i j (hi : i < st.length) (hj : j < st.length), i < j → st[i].1 < st[j].1 := fun i j hi hj hij => List.pairwise_iff_getElem.1 hs i j hi hj hij
  have HMO := hide hmono
  have HF1 := hide (fun (a x : Nat) w' => free1_any a x to w')
  have HST := hide (fun w' (hb : Below w.heap.size w w') => hst.below hb)
  have hent := ent_free1
  have hlI : (st.length : Int) ≤ 8190 := by omega
  clear hs hmono hst hl
  go_enter Tryz.func64, Tryz.ntmps64
  go_wp2_with fail
  go_loopw [9, 10] (fun a b wr => ∃ (i j : Nat), a = .int .i64 (i : Int) ∧ b = .int .i64 (j : Int) ∧ i ≤ j ∧ j ≤ st.length ∧ Hid (∀ m (h : m < st.length), m < i → st[m].1 < to) ∧ Hid (∀ m (h : m < st.length), j ≤ m → to ≤ st[m].1) ∧ Hid (Below w.heap.size w wr)) (fun a b _ => (intOf b - intOf a).toNat)
  case atStart => exact ⟨0, st.length, rfl, rfl, Nat.zero_le _, Nat.le_refl _, fun m _ hm => absurd hm (by omega), fun m h hm => absurd hm (by omega), Below.refl _ _⟩
  case round =>
    obtain ⟨i, j, rfl, rfl, hij, hjn, h1, h2, hbel⟩ := hrel
    have hjI : (j : Int) ≤ 8190 := by omega
    by_cases hlt : i < j
    · have hltI : (i : Int) < j := by omega
      obtain ⟨m, hm⟩ : ∃ m, m = (i + j) / 2 := ⟨_, rfl⟩
      have hm1 : i ≤ m := by omega
      have hm2 : m < j := by omega
      have hms : m < st.length := by omega
      have hmI : (m : Int) < st.length := by omega
      have hmm : ((i : Int) + (j : Int)) / 2 = (m : Int) := by omega
      obtain ⟨k, off, rfl, k0, k1⟩ := unhide HST wr (unhide hbel) m hms
      have HC := hide (fun w' => unhide HF1 st[m].1 st[m].2 w')
      obtain ⟨A, hA⟩ : ∃ A, A = st[m].1 := ⟨_, rfl⟩
      obtain ⟨X, hX⟩ : ∃ X, X = st[m].2 := ⟨_, rfl⟩
      rw [← hA] at HC k0
      rw [← hX] at HC k1
      have HAm : Hid (∀ h : m < st.length, st[m].1 = A) := fun _ => hA.symm
      have HMS := hide hms
      have HIJ : Hid (i ≤ m ∧ m < j ∧ j ≤ st.length) := ⟨hm1, hm2, hjn⟩
      clear hA hX hm hm1 hm2 hms hij hjn hlt
      go_wp2_with fail
      refine Calls.mono (unhide HC _) ?_
      rintro e w1 ⟨rfl, b1⟩
      have HB1 := hide ((unhide hbel).trans (b1.mono (unhide hbel).size))
      clear b1 k0 k1
      obtain ⟨q1, q2, q3⟩ := unhide HIJ
      by_cases hc : A < to
      · have e1 : cmpN A to = -1 := by unfold cmpN; rw [if_pos hc]
        rw [e1]
        go_wp2
        go_roundw
        case rel =>
          refine ⟨m + 1, j, by go_num, rfl, by omega, q3, fun x hx hxm => ?_, unhide h2, unhide HB1⟩
          by_cases hxe : x = m
          · subst hxe; rw [unhide HAm hx]; exact hc
          · have := unhide HMO x m hx (unhide HMS) (by omega)
            rw [unhide HAm (unhide HMS)] at this
            omega
        case measure => simp [intOf]; omega
      · have e1 : cmpN A to = 0 ∨ cmpN A to = 1 := by unfold cmpN; rw [if_neg hc]; split
                                                      · exact Or.inr rfl
                                                      · exact Or.inl rfl
        have e2 : ¬ cmpN A to < 0 := by rcases e1 with h | h <;> rw [h] <;> omega
        generalize cmpN A to = CC at *
        clear e1
        go_wp2
        go_roundw
        case rel =>
          refine ⟨i, m, rfl, by go_num, by omega, by omega, unhide h1, fun x hx hxm => ?_, unhide HB1⟩
          by_cases hxe : x = m
          · subst hxe; rw [unhide HAm hx]; omega
          · have := unhide HMO m x (unhide HMS) hx (by omega)
            rw [unhide HAm (unhide HMS)] at this
            omega
        case measure => simp [intOf]; omega
    · have hji : j = i := by omega
      subst hji
      have HL : Hid (Lands st to j) := ⟨hjn, unhide h1, unhide h2⟩
      by_cases hjs : j < st.length
      · have hjsI : (j : Int) < st.length := by omega
        obtain ⟨k, off, rfl, k0, k1⟩ := unhide HST wr (unhide hbel) j hjs
        have HC := hide (fun w' => unhide HF1 st[j].1 st[j].2 w')
        have HD : Hid (decide (∃ h : j < st.length, st[j].1 = to) = (cmpN st[j].1 to == 0)) := by
          unfold Hid
          rw [Bool.eq_iff_iff]
          simp only [decide_eq_true_eq, beq_iff_eq]
          unfold cmpN
          constructor
          · rintro ⟨_, e⟩
            rw [if_neg (by omega), if_neg (by omega)]
          · intro e
            refine ⟨hjs, ?_⟩
            split at e
            · omega
            · split at e
              · omega
              · omega
        generalize st[j].1 = A at *
        generalize st[j].2 = X at *
        clear hjs hjn h1 h2 hij hlt
        go_wp2_with fail
        refine Calls.mono (unhide HC _) ?_
        rintro e w1 ⟨rfl, b1⟩
        have HB1 := hide ((unhide hbel).trans (b1.mono (unhide hbel).size))
        clear b1 k0 k1
        generalize cmpN A to = CC at *
        go_wp2
        go_ret2
        exact ⟨j, by rw [unhide HD]; rfl, unhide HL, unhide HB1⟩
      · have hjsI : ¬ (j : Int) < st.length := by omega
        have HD : Hid (decide (∃ h : j < st.length, st[j].1 = to) = false) := by
          unfold Hid
          rw [decide_eq_false_iff_not]
          rintro ⟨h, _⟩
          exact hjs h
        clear hjs hjn h1 h2 hij hlt
        go_wp2
        go_ret2
        exact ⟨j, by rw [unhide HD]; rfl, unhide HL, unhide hbel⟩
end Go.Proofs.YtpkpjmebkikgdaaGreat
