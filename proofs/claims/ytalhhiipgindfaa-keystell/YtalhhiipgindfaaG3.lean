/- Texts of ours, one behind the other: KeysRef, KeysRef2. -/
import Derived.Test.YtalhhiipgindfaaG2
import Derived.BigQuiet
/- The reference of layer 9: Less, Within, Empty, Meet, Next, May, Prefix. -/
namespace Go.Proofs.Ytalhhiipgindfaa
open Go.RowKit

theorem rless_any (a b : ByteArray) (w : World) (ha : a.size ≤ 140737488351232) : Calls Try.prog 17 #[.string a, .string b] w fun e w' => e = .returned (.bool (tl a.toList b.toList)) ∧ Below w.heap.size w w' := by
  go_enter Try.func17, Try.ntmps17
  go_wp2
  go_loopw [5] (fun i wr => ∃ k : Nat, k ≤ a.size ∧ k ≤ b.size ∧ i = .int .i64 (k : Int) ∧ Hid (a.toList.take k = b.toList.take k) ∧ Below w.heap.size w wr) (fun i _ => a.size - (intOf i).toNat)
  case atStart => exact ⟨0, Nat.zero_le _, Nat.zero_le _, rfl, rfl, Below.refl _ _⟩
  case round =>
    obtain ⟨k, hk1, hk2, rfl, ht, hbel⟩ := hrel
    by_cases h1 : k < a.size
    · by_cases h2 : k < b.size
      · have i1 : (k : Int) < (a.size : Int) := by omega
        have i2 : (k : Int) < (b.size : Int) := by omega
        by_cases hd : a[k].toNat = b[k].toNat
        · have HT := khide (take_step h1 h2 (UInt8.toNat_inj.1 hd) ht.out)
          have hd2 : ((a[k].toNat : Int) != (b[k].toNat : Int)) = false := by rw [hd]; simp
          have hd3 : ¬ ((a[k].toNat : Int) ≠ (b[k].toNat : Int)) := by rw [hd]; simp
          clear hd
          go_wp2
          go_region
          go_wp2
          go_roundw
          case rel => exact ⟨k + 1, by omega, by omega, by go_num, kunhide HT, hbel.drew⟩
          case measure => simp [intOf]; omega
        · have HT := khide (tl_differ h1 h2 hd ht.out)
          have hd2 : ((a[k].toNat : Int) != (b[k].toNat : Int)) = true := by simp; omega
          go_wp2
          go_region
          go_wp2
          go_region
          go_wp2
          go_ret
          refine ⟨?_, hbel.drew.drew⟩
          rw [kunhide HT]
          simp
      · have HT := khide (tl_end hk1 hk2 (fun h => h2 h.2) ht.out)
        have i1 : (k : Int) < (a.size : Int) := by omega
        have i2 : ¬ (k : Int) < (b.size : Int) := by omega
        go_wp2
        go_ret
        refine ⟨?_, hbel⟩
        rw [kunhide HT]
        simp
    · have HT := khide (tl_end hk1 hk2 (fun h => h1 h.1) ht.out)
      have i1 : ¬ (k : Int) < (a.size : Int) := by omega
      go_wp2
      go_ret
      refine ⟨?_, hbel⟩
      rw [kunhide HT]
      simp

abbrev KM : Nat := 140737488351232
theorem rwithin_any (lo hi k : ByteArray) (w : World) (h : k.size ≤ 140737488351232) : Calls Try.prog 19 #[.string lo, .string hi, .string k] w fun e w' => e = .returned (.bool (wi lo.toList hi.toList k.toList)) ∧ Below w.heap.size w w' := by
  cases h1 : tl k.toList lo.toList with
  | true =>
    rw [show wi lo.toList hi.toList k.toList = false by simp [wi, h1]]
    go_enter Try.func19, Try.ntmps19
    go_wp2_with fail
    refine Calls.mono (rless_any k lo w h) ?_
    rintro e w1 ⟨rfl, b1⟩
    go_wp2
    go_ret
    exact ⟨rfl, b1⟩
  | false =>
    cases h2 : hi.toList.isEmpty with
    | true =>
      rw [show wi lo.toList hi.toList k.toList = true by simp [wi, h1, h2]]
      have k2 : hi.toList = [] := by simpa using h2
      go_enter Try.func19, Try.ntmps19
      go_wp2_with fail
      refine Calls.mono (rless_any k lo w h) ?_
      rintro e w1 ⟨rfl, b1⟩
      go_wp2
      go_ret
      exact ⟨rfl, b1⟩
    | false =>
      rw [show wi lo.toList hi.toList k.toList = tl k.toList hi.toList by simp [wi, h1, h2]]
      have k2 : ¬ hi.toList = [] := by simpa using h2
      go_enter Try.func19, Try.ntmps19
      go_wp2_with fail
      refine Calls.mono (rless_any k lo w h) ?_
      rintro e w1 ⟨rfl, b1⟩
      go_wp2_with fail
      refine Calls.mono (rless_any k hi w1 h) ?_
      rintro e w2 ⟨rfl, b2⟩
      go_wp2
      go_ret
      exact ⟨by simp, b1.trans (b2.mono b1.size)⟩

theorem rempty_any (lo hi : ByteArray) (w : World) (h : lo.size ≤ 140737488351232) : Calls Try.prog 21 #[.string lo, .string hi] w fun e w' => e = .returned (.bool (em lo.toList hi.toList)) ∧ Below w.heap.size w w' := by
  cases h2 : hi.toList.isEmpty with
  | true =>
    rw [show em lo.toList hi.toList = false by simp [em, h2]]
    have k2 : hi.toList = [] := by simpa using h2
    go_enter Try.func21, Try.ntmps21
    go_wp2
    go_ret
    exact ⟨rfl, Below.refl _ _⟩
  | false =>
    rw [show em lo.toList hi.toList = !tl lo.toList hi.toList by simp [em, h2]]
    have k2 : ¬ hi.toList = [] := by simpa using h2
    go_enter Try.func21, Try.ntmps21
    go_wp2_with fail
    refine Calls.mono (rless_any lo hi w h) ?_
    rintro e w1 ⟨rfl, b1⟩
    go_wp2
    go_ret
    exact ⟨by simp, b1⟩

theorem rnext_any (a : ByteArray) (w : World) (h : a.size ≤ 140737488351232) : Calls Try.prog 23 #[.string a] w fun e w' => e = .returned (.string (a ++ ⟨#[0]⟩)) ∧ w' = w := by
  go_enter Try.func23, Try.ntmps23
  go_wp2
  go_ret
  exact ⟨rfl, rfl⟩

/-- What May answers. -/
def kmay (a : ByteArray) : Bool := decide (1 ≤ a.size) && decide (a.size ≤ 64)
theorem rmay_any (a : ByteArray) (w : World) : Calls Try.prog 15 #[.string a] w fun e w' => e = .returned (.bool (kmay a)) ∧ w' = w := by
  by_cases h1 : 1 ≤ a.size
  · by_cases h2 : a.size ≤ 64
    · rw [show kmay a = true by simp [kmay, h1, h2]]
      have i1 : (1 : Int) ≤ (a.size : Int) := by omega
      have i2 : (a.size : Int) ≤ 64 := by omega
      go_enter Try.func15, Try.ntmps15
      go_wp2
      go_ret
      exact ⟨rfl, rfl⟩
    · rw [show kmay a = false by simp [kmay, h2]]
      have i1 : (1 : Int) ≤ (a.size : Int) := by omega
      have i2 : ¬ (a.size : Int) ≤ 64 := by omega
      go_enter Try.func15, Try.ntmps15
      go_wp2
      go_ret
      exact ⟨rfl, rfl⟩
  · rw [show kmay a = false by simp [kmay, h1]]
    have i1 : ¬ (1 : Int) ≤ (a.size : Int) := by omega
    go_enter Try.func15, Try.ntmps15
    go_wp2
    go_ret
    exact ⟨rfl, rfl⟩
theorem kmay_any (a : ByteArray) (w : World) : Calls Try.prog 14 #[.string a] w fun e w' => e = .returned (.bool (kmay a)) ∧ w' = w := by
  by_cases h1 : 1 ≤ a.size
  · have hn : ¬ a.toList = [] := fun e => by have := bl_len a; rw [e] at this; simp at this; omega
    have hn2 : a.toList.isEmpty = false := by simpa using hn
    by_cases h2 : a.size ≤ 64
    · rw [show kmay a = true by simp [kmay, h1, h2]]
      have i2 : (a.size : Int) ≤ 64 := by omega
      go_enter Try.func14, Try.ntmps14
      go_wp2
      go_ret
      exact ⟨rfl, rfl⟩
    · rw [show kmay a = false by simp [kmay, h2]]
      have i2 : ¬ (a.size : Int) ≤ 64 := by omega
      go_enter Try.func14, Try.ntmps14
      go_wp2
      go_ret
      exact ⟨rfl, rfl⟩
  · rw [show kmay a = false by simp [kmay, h1]]
    have hn : a.toList = [] := List.length_eq_zero_iff.1 (by rw [bl_len]; omega)
    go_enter Try.func14, Try.ntmps14
    go_wp2
    go_ret
    exact ⟨rfl, rfl⟩

theorem rprefix_any (p : ByteArray) (w : World) (h : p.size ≤ 140737488351232) : Calls Try.prog 12 #[.string p] w fun e w' => ∃ x : ByteArray, e = .returned (.tuple #[.string p, .string x]) ∧ x.toList = bhE p.toList ∧ Below w.heap.size w w' := by
  go_enter Try.func12, Try.ntmps12
  go_wp2
  go_loop [4] (fun i => ∃ k : Nat, k ≤ p.size ∧ i = .int .i64 (k : Int) ∧ Hid (∀ c ∈ p.toList.drop k, c = 255)) (fun i => (intOf i).toNat)
  case atStart => exact ⟨p.size, Nat.le_refl _, rfl, fun c hm => by rw [List.drop_eq_nil_of_le (by rw [bl_len]; exact Nat.le_refl _)] at hm; cases hm⟩
  case round =>
    obtain ⟨k, hk, rfl, hz⟩ := hrel
    by_cases hlt : 0 < k
    · obtain ⟨j, rfl⟩ : ∃ j, k = j + 1 := ⟨k - 1, by omega⟩
      have hj : (j : Int) < (p.size : Int) := by omega
      have hjn : j < p.size := by omega
      rw [show ((j + 1 : Nat) : Int) = (j : Int) + 1 by omega]
      have e1 : (j : Int) + 1 - 1 = j := by omega
      by_cases hc : p[j].toNat = 255
      · go_wp2
        go_round
        case rel => exact ⟨j, by omega, rfl, drop_more p j hjn hc hz.out⟩
        case measure => simp [intOf]
      · have hb := p[j].toNat_lt
        have hjl : (j : Int) ≤ (p.size : Int) := by omega
        have hsl := fun W : World => run_slice_string_h (P := Try.prog) (s := p) (t := 9) Try.underlying9 (w := W) .i64 (j : Int) (by omega) hjl
        have hb2 : p[j].toNat < 255 := by omega
        have hcv := fun W : World => conv_one W p[j].toNat (p[j] + 1) (by rw [UInt8.toNat_add]; simp; omega)
        go_wp2
        go_region
        have HX := khide (bhE_at p j hjn hc hz.out)
        generalize hx : p.extract 0 j ++ ⟨#[p[j] + 1]⟩ = x at HX ⊢
        clear hx
        go_wp2
        go_ret2
        exact ⟨x, rfl, kunhide HX, ((Below.refl _ _).alloc (Nat.le_refl _) _).drew⟩
    · obtain rfl : k = 0 := by omega
      have HX := khide (bhE_all p.toList hz.out)
      go_wp2
      go_ret2
      exact ⟨_, rfl, by rw [kunhide HX, bl_nil], Below.refl _ _⟩
end Go.Proofs.Ytalhhiipgindfaa

/- The reference of layer 9: Meet. -/
namespace Go.Proofs.Ytalhhiipgindfaa
open Go.RowKit

theorem mhiB_eq (b d : ByteArray) : mhiB b d = if b.toList.isEmpty || (!d.toList.isEmpty && tl d.toList b.toList) then d else b := by
  apply bl_inj
  rw [mhiB_l, mhi_eq]
  split <;> rfl
theorem mloB_sz (a c : ByteArray) (ha : a.size ≤ 140737488351232) (hc : c.size ≤ 140737488351232) : (mloB a c).size ≤ 140737488351232 := by unfold mloB; split <;> assumption

set_option maxHeartbeats 1000000 in
theorem rmeet_any (a b c d : ByteArray) (w : World) (ha : a.size ≤ 140737488351232) (hc : c.size ≤ 140737488351232) (hd : d.size ≤ 140737488351232) : Calls Try.prog 10 #[.string a, .string b, .string c, .string d] w fun e w' => e = .returned (meetV a b c d) ∧ Below w.heap.size w w' := by
  cases h1 : tl a.toList c.toList with
  | true =>
    have e1 : mloB a c = c := by simp [mloB, h1]
    cases h2 : b.toList.isEmpty with
    | true =>
      have k2 : b.toList = [] := by simpa using h2
      have e2 : mhiB b d = d := by rw [mhiB_eq]; simp [h2]
      cases h5 : em c.toList d.toList with
      | true =>
        rw [show meetV a b c d = .tuple #[.string ⟨#[]⟩, .string ⟨#[]⟩, .bool false] by simp [meetV, e1, e2, h5]]
        clear e1 e2
        go_enter Try.func10, Try.ntmps10
        go_wp2_with fail
        refine Calls.mono (rless_any a c w ha) ?_
        rintro e w1 ⟨rfl, b1⟩
        go_wp2_with fail
        refine Calls.mono (rempty_any c d w1 hc) ?_
        rintro e w3 ⟨rfl, b3⟩
        have bz := b1.trans (b3.mono b1.size)
        clear b1 b3
        go_wp2
        go_ret3
        exact ⟨rfl, bz⟩
      | false =>
        rw [show meetV a b c d = .tuple #[.string c, .string d, .bool true] by simp [meetV, e1, e2, h5]]
        clear e1 e2
        go_enter Try.func10, Try.ntmps10
        go_wp2_with fail
        refine Calls.mono (rless_any a c w ha) ?_
        rintro e w1 ⟨rfl, b1⟩
        go_wp2_with fail
        refine Calls.mono (rempty_any c d w1 hc) ?_
        rintro e w3 ⟨rfl, b3⟩
        have bz := b1.trans (b3.mono b1.size)
        clear b1 b3
        go_wp2
        go_ret3
        exact ⟨rfl, bz⟩
    | false =>
      have k2 : ¬ b.toList = [] := by simpa using h2
      cases h3 : d.toList.isEmpty with
      | true =>
        have k3 : d.toList = [] := by simpa using h3
        have e2 : mhiB b d = b := by rw [mhiB_eq]; simp [h2, h3]
        cases h5 : em c.toList b.toList with
        | true =>
          rw [show meetV a b c d = .tuple #[.string ⟨#[]⟩, .string ⟨#[]⟩, .bool false] by simp [meetV, e1, e2, h5]]
          clear e1 e2
          go_enter Try.func10, Try.ntmps10
          go_wp2_with fail
          refine Calls.mono (rless_any a c w ha) ?_
          rintro e w1 ⟨rfl, b1⟩
          go_wp2_with fail
          refine Calls.mono (rempty_any c b w1 hc) ?_
          rintro e w3 ⟨rfl, b3⟩
          have bz := b1.trans (b3.mono b1.size)
          clear b1 b3
          go_wp2
          go_ret3
          exact ⟨rfl, bz⟩
        | false =>
          rw [show meetV a b c d = .tuple #[.string c, .string b, .bool true] by simp [meetV, e1, e2, h5]]
          clear e1 e2
          go_enter Try.func10, Try.ntmps10
          go_wp2_with fail
          refine Calls.mono (rless_any a c w ha) ?_
          rintro e w1 ⟨rfl, b1⟩
          go_wp2_with fail
          refine Calls.mono (rempty_any c b w1 hc) ?_
          rintro e w3 ⟨rfl, b3⟩
          have bz := b1.trans (b3.mono b1.size)
          clear b1 b3
          go_wp2
          go_ret3
          exact ⟨rfl, bz⟩
      | false =>
        have k3 : ¬ d.toList = [] := by simpa using h3
        cases h4 : tl d.toList b.toList with
        | true =>
          have e2 : mhiB b d = d := by rw [mhiB_eq]; simp [h2, h3, h4]
          cases h5 : em c.toList d.toList with
          | true =>
            rw [show meetV a b c d = .tuple #[.string ⟨#[]⟩, .string ⟨#[]⟩, .bool false] by simp [meetV, e1, e2, h5]]
            clear e1 e2
            go_enter Try.func10, Try.ntmps10
            go_wp2_with fail
            refine Calls.mono (rless_any a c w ha) ?_
            rintro e w1 ⟨rfl, b1⟩
            go_wp2_with fail
            refine Calls.mono (rless_any d b w1 hd) ?_
            rintro e w2 ⟨rfl, b2⟩
            have b12 := b1.trans (b2.mono b1.size)
            clear b1 b2
            go_wp2_with fail
            refine Calls.mono (rempty_any c d w2 hc) ?_
            rintro e w3 ⟨rfl, b3⟩
            have bz := b12.trans (b3.mono b12.size)
            clear b12 b3
            go_wp2
            go_ret3
            exact ⟨rfl, bz⟩
          | false =>
            rw [show meetV a b c d = .tuple #[.string c, .string d, .bool true] by simp [meetV, e1, e2, h5]]
            clear e1 e2
            go_enter Try.func10, Try.ntmps10
            go_wp2_with fail
            refine Calls.mono (rless_any a c w ha) ?_
            rintro e w1 ⟨rfl, b1⟩
            go_wp2_with fail
            refine Calls.mono (rless_any d b w1 hd) ?_
            rintro e w2 ⟨rfl, b2⟩
            have b12 := b1.trans (b2.mono b1.size)
            clear b1 b2
            go_wp2_with fail
            refine Calls.mono (rempty_any c d w2 hc) ?_
            rintro e w3 ⟨rfl, b3⟩
            have bz := b12.trans (b3.mono b12.size)
            clear b12 b3
            go_wp2
            go_ret3
            exact ⟨rfl, bz⟩
        | false =>
          have e2 : mhiB b d = b := by rw [mhiB_eq]; simp [h2, h3, h4]
          cases h5 : em c.toList b.toList with
          | true =>
            rw [show meetV a b c d = .tuple #[.string ⟨#[]⟩, .string ⟨#[]⟩, .bool false] by simp [meetV, e1, e2, h5]]
            clear e1 e2
            go_enter Try.func10, Try.ntmps10
            go_wp2_with fail
            refine Calls.mono (rless_any a c w ha) ?_
            rintro e w1 ⟨rfl, b1⟩
            go_wp2_with fail
            refine Calls.mono (rless_any d b w1 hd) ?_
            rintro e w2 ⟨rfl, b2⟩
            have b12 := b1.trans (b2.mono b1.size)
            clear b1 b2
            go_wp2_with fail
            refine Calls.mono (rempty_any c b w2 hc) ?_
            rintro e w3 ⟨rfl, b3⟩
            have bz := b12.trans (b3.mono b12.size)
            clear b12 b3
            go_wp2
            go_ret3
            exact ⟨rfl, bz⟩
          | false =>
            rw [show meetV a b c d = .tuple #[.string c, .string b, .bool true] by simp [meetV, e1, e2, h5]]
            clear e1 e2
            go_enter Try.func10, Try.ntmps10
            go_wp2_with fail
            refine Calls.mono (rless_any a c w ha) ?_
            rintro e w1 ⟨rfl, b1⟩
            go_wp2_with fail
            refine Calls.mono (rless_any d b w1 hd) ?_
            rintro e w2 ⟨rfl, b2⟩
            have b12 := b1.trans (b2.mono b1.size)
            clear b1 b2
            go_wp2_with fail
            refine Calls.mono (rempty_any c b w2 hc) ?_
            rintro e w3 ⟨rfl, b3⟩
            have bz := b12.trans (b3.mono b12.size)
            clear b12 b3
            go_wp2
            go_ret3
            exact ⟨rfl, bz⟩
  | false =>
    have e1 : mloB a c = a := by simp [mloB, h1]
    cases h2 : b.toList.isEmpty with
    | true =>
      have k2 : b.toList = [] := by simpa using h2
      have e2 : mhiB b d = d := by rw [mhiB_eq]; simp [h2]
      cases h5 : em a.toList d.toList with
      | true =>
        rw [show meetV a b c d = .tuple #[.string ⟨#[]⟩, .string ⟨#[]⟩, .bool false] by simp [meetV, e1, e2, h5]]
        clear e1 e2
        go_enter Try.func10, Try.ntmps10
        go_wp2_with fail
        refine Calls.mono (rless_any a c w ha) ?_
        rintro e w1 ⟨rfl, b1⟩
        go_wp2_with fail
        refine Calls.mono (rempty_any a d w1 ha) ?_
        rintro e w3 ⟨rfl, b3⟩
        have bz := b1.trans (b3.mono b1.size)
        clear b1 b3
        go_wp2
        go_ret3
        exact ⟨rfl, bz⟩
      | false =>
        rw [show meetV a b c d = .tuple #[.string a, .string d, .bool true] by simp [meetV, e1, e2, h5]]
        clear e1 e2
        go_enter Try.func10, Try.ntmps10
        go_wp2_with fail
        refine Calls.mono (rless_any a c w ha) ?_
        rintro e w1 ⟨rfl, b1⟩
        go_wp2_with fail
        refine Calls.mono (rempty_any a d w1 ha) ?_
        rintro e w3 ⟨rfl, b3⟩
        have bz := b1.trans (b3.mono b1.size)
        clear b1 b3
        go_wp2
        go_ret3
        exact ⟨rfl, bz⟩
    | false =>
      have k2 : ¬ b.toList = [] := by simpa using h2
      cases h3 : d.toList.isEmpty with
      | true =>
        have k3 : d.toList = [] := by simpa using h3
        have e2 : mhiB b d = b := by rw [mhiB_eq]; simp [h2, h3]
        cases h5 : em a.toList b.toList with
        | true =>
          rw [show meetV a b c d = .tuple #[.string ⟨#[]⟩, .string ⟨#[]⟩, .bool false] by simp [meetV, e1, e2, h5]]
          clear e1 e2
          go_enter Try.func10, Try.ntmps10
          go_wp2_with fail
          refine Calls.mono (rless_any a c w ha) ?_
          rintro e w1 ⟨rfl, b1⟩
          go_wp2_with fail
          refine Calls.mono (rempty_any a b w1 ha) ?_
          rintro e w3 ⟨rfl, b3⟩
          have bz := b1.trans (b3.mono b1.size)
          clear b1 b3
          go_wp2
          go_ret3
          exact ⟨rfl, bz⟩
        | false =>
          rw [show meetV a b c d = .tuple #[.string a, .string b, .bool true] by simp [meetV, e1, e2, h5]]
          clear e1 e2
          go_enter Try.func10, Try.ntmps10
          go_wp2_with fail
          refine Calls.mono (rless_any a c w ha) ?_
          rintro e w1 ⟨rfl, b1⟩
          go_wp2_with fail
          refine Calls.mono (rempty_any a b w1 ha) ?_
          rintro e w3 ⟨rfl, b3⟩
          have bz := b1.trans (b3.mono b1.size)
          clear b1 b3
          go_wp2
          go_ret3
          exact ⟨rfl, bz⟩
      | false =>
        have k3 : ¬ d.toList = [] := by simpa using h3
        cases h4 : tl d.toList b.toList with
        | true =>
          have e2 : mhiB b d = d := by rw [mhiB_eq]; simp [h2, h3, h4]
          cases h5 : em a.toList d.toList with
          | true =>
            rw [show meetV a b c d = .tuple #[.string ⟨#[]⟩, .string ⟨#[]⟩, .bool false] by simp [meetV, e1, e2, h5]]
            clear e1 e2
            go_enter Try.func10, Try.ntmps10
            go_wp2_with fail
            refine Calls.mono (rless_any a c w ha) ?_
            rintro e w1 ⟨rfl, b1⟩
            go_wp2_with fail
            refine Calls.mono (rless_any d b w1 hd) ?_
            rintro e w2 ⟨rfl, b2⟩
            have b12 := b1.trans (b2.mono b1.size)
            clear b1 b2
            go_wp2_with fail
            refine Calls.mono (rempty_any a d w2 ha) ?_
            rintro e w3 ⟨rfl, b3⟩
            have bz := b12.trans (b3.mono b12.size)
            clear b12 b3
            go_wp2
            go_ret3
            exact ⟨rfl, bz⟩
          | false =>
            rw [show meetV a b c d = .tuple #[.string a, .string d, .bool true] by simp [meetV, e1, e2, h5]]
            clear e1 e2
            go_enter Try.func10, Try.ntmps10
            go_wp2_with fail
            refine Calls.mono (rless_any a c w ha) ?_
            rintro e w1 ⟨rfl, b1⟩
            go_wp2_with fail
            refine Calls.mono (rless_any d b w1 hd) ?_
            rintro e w2 ⟨rfl, b2⟩
            have b12 := b1.trans (b2.mono b1.size)
            clear b1 b2
            go_wp2_with fail
            refine Calls.mono (rempty_any a d w2 ha) ?_
            rintro e w3 ⟨rfl, b3⟩
            have bz := b12.trans (b3.mono b12.size)
            clear b12 b3
            go_wp2
            go_ret3
            exact ⟨rfl, bz⟩
        | false =>
          have e2 : mhiB b d = b := by rw [mhiB_eq]; simp [h2, h3, h4]
          cases h5 : em a.toList b.toList with
          | true =>
            rw [show meetV a b c d = .tuple #[.string ⟨#[]⟩, .string ⟨#[]⟩, .bool false] by simp [meetV, e1, e2, h5]]
            clear e1 e2
            go_enter Try.func10, Try.ntmps10
            go_wp2_with fail
            refine Calls.mono (rless_any a c w ha) ?_
            rintro e w1 ⟨rfl, b1⟩
            go_wp2_with fail
            refine Calls.mono (rless_any d b w1 hd) ?_
            rintro e w2 ⟨rfl, b2⟩
            have b12 := b1.trans (b2.mono b1.size)
            clear b1 b2
            go_wp2_with fail
            refine Calls.mono (rempty_any a b w2 ha) ?_
            rintro e w3 ⟨rfl, b3⟩
            have bz := b12.trans (b3.mono b12.size)
            clear b12 b3
            go_wp2
            go_ret3
            exact ⟨rfl, bz⟩
          | false =>
            rw [show meetV a b c d = .tuple #[.string a, .string b, .bool true] by simp [meetV, e1, e2, h5]]
            clear e1 e2
            go_enter Try.func10, Try.ntmps10
            go_wp2_with fail
            refine Calls.mono (rless_any a c w ha) ?_
            rintro e w1 ⟨rfl, b1⟩
            go_wp2_with fail
            refine Calls.mono (rless_any d b w1 hd) ?_
            rintro e w2 ⟨rfl, b2⟩
            have b12 := b1.trans (b2.mono b1.size)
            clear b1 b2
            go_wp2_with fail
            refine Calls.mono (rempty_any a b w2 ha) ?_
            rintro e w3 ⟨rfl, b3⟩
            have bz := b12.trans (b3.mono b12.size)
            clear b12 b3
            go_wp2
            go_ret3
            exact ⟨rfl, bz⟩
end Go.Proofs.Ytalhhiipgindfaa
