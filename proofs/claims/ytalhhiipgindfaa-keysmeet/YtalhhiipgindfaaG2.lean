/- Texts of ours, one behind the other: KeysA, KeysB. -/
import Derived.Test.YtalhhiipgindfaaG1
import Derived.Test.YtalhhiipgindfaaProg
import Derived.WalkKit
import Derived.ProofKit
import Derived.Below
import Derived.Laws.BytesArg
import Derived.Laws.IdiomStrings
import Derived.WalkMore
/- The landed package keys, and the reference: Less, May, Within, Empty, Next, Meet; the statements' awake. -/
namespace Go.Proofs.Ytalhhiipgindfaa
open Go.RowKit

theorem kless_any (a b : ByteArray) (w : World) : Calls Try.prog 16 #[.string a, .string b] w fun e w' => e = .returned (.bool (tl a.toList b.toList)) ∧ w' = w := by
  go_enter Try.func16, Try.ntmps16
  go_wp2
  go_ret
  exact ⟨rfl, rfl⟩

theorem kwithin_any (lo hi k : ByteArray) (w : World) : Calls Try.prog 18 #[.string lo, .string hi, .string k] w fun e w' => e = .returned (.bool (wi lo.toList hi.toList k.toList)) ∧ w' = w := by
  unfold wi
  cases h1 : tl k.toList lo.toList <;> cases h2 : hi.toList.isEmpty <;> simp only [List.isEmpty_iff, List.isEmpty_eq_false_iff] at h2
  all_goals
    go_enter Try.func18, Try.ntmps18
    go_wp2
    go_ret
    refine ⟨?_, rfl⟩
    simp [*]

theorem kempty_any (lo hi : ByteArray) (w : World) : Calls Try.prog 20 #[.string lo, .string hi] w fun e w' => e = .returned (.bool (em lo.toList hi.toList)) ∧ w' = w := by
  rw [em_eq]
  go_enter Try.func20, Try.ntmps20
  go_wp2_with fail
  refine Calls.mono (kwithin_any lo hi lo w) ?_
  rintro e w1 ⟨rfl, rfl⟩
  go_wp2
  go_ret
  exact ⟨rfl, rfl⟩

theorem kawake_any (w : World) : Calls Try.prog 13 #[] w fun e w' => e = .returned (.bool true) ∧ w' = w := by
  have h1 : Op.bytesLess [97] [98] = true := rfl
  have h2 : Op.bytesLess [98] [97] = false := rfl
  have h3 : Op.bytesLess [98] [99] = true := rfl
  go_enter Try.func13, Try.ntmps13
  go_wp2
  go_ret
  exact ⟨by rw [show ((({ data := #[97] } : ByteArray) ++ { data := #[0] }).toList == [97, 0]) = true by decide +kernel]; rfl, rfl⟩

def mloB (a c : ByteArray) : ByteArray := if tl a.toList c.toList then c else a
def mhiB (b d : ByteArray) : ByteArray := if d.toList.isEmpty || (!b.toList.isEmpty && tl b.toList d.toList) then b else d
theorem mloB_l (a c : ByteArray) : (mloB a c).toList = mlo a.toList c.toList := by unfold mloB mlo; split <;> rfl
theorem mhiB_l (a c : ByteArray) : (mhiB a c).toList = mhi a.toList c.toList := by unfold mhiB mhi; split <;> rfl

theorem kgreater_any (a c : ByteArray) (w : World) : Calls Try.prog 24 #[.string a, .string c] w fun e w' => e = .returned (.string (mloB a c)) ∧ w' = w := by
  unfold mloB
  cases h1 : tl a.toList c.toList
  all_goals
    go_enter Try.func24, Try.ntmps24
    go_wp2
    go_ret
    exact ⟨rfl, rfl⟩

theorem ksooner_any (b d : ByteArray) (w : World) : Calls Try.prog 25 #[.string b, .string d] w fun e w' => e = .returned (.string (mhiB b d)) ∧ w' = w := by
  cases h3 : d.toList.isEmpty with
  | true =>
    rw [show mhiB b d = b by simp [mhiB, h3]]
    have k3 : d.toList = [] := by simpa using h3
    go_enter Try.func25, Try.ntmps25
    go_wp2
    go_ret
    exact ⟨rfl, rfl⟩
  | false =>
    have k3 : ¬ d.toList = [] := by simpa using h3
    cases h2 : b.toList.isEmpty with
    | true =>
      rw [show mhiB b d = d by simp [mhiB, h3, h2]]
      have k2 : b.toList = [] := by simpa using h2
      go_enter Try.func25, Try.ntmps25
      go_wp2
      go_ret
      exact ⟨rfl, rfl⟩
    | false =>
      have k2 : ¬ b.toList = [] := by simpa using h2
      cases h1 : tl b.toList d.toList with
      | true =>
        rw [show mhiB b d = b by simp [mhiB, h3, h2, h1]]
        go_enter Try.func25, Try.ntmps25
        go_wp2
        go_ret
        exact ⟨rfl, rfl⟩
      | false =>
        rw [show mhiB b d = d by simp [mhiB, h3, h2, h1]]
        go_enter Try.func25, Try.ntmps25
        go_wp2
        go_ret
        exact ⟨rfl, rfl⟩

/-- What Meet answers. -/
def meetV (a b c d : ByteArray) : Value := if em (mloB a c).toList (mhiB b d).toList then .tuple #[.string ⟨#[]⟩, .string ⟨#[]⟩, .bool false] else .tuple #[.string (mloB a c), .string (mhiB b d), .bool true]
theorem kmeet_any (a b c d : ByteArray) (w : World) : Calls Try.prog 9 #[.string a, .string b, .string c, .string d] w fun e w' => e = .returned (meetV a b c d) ∧ w' = w := by
  cases h : em (mloB a c).toList (mhiB b d).toList with
  | true =>
    rw [show meetV a b c d = .tuple #[.string ⟨#[]⟩, .string ⟨#[]⟩, .bool false] by simp [meetV, h]]
    go_enter Try.func9, Try.ntmps9
    go_wp2_with fail
    refine Calls.mono (kgreater_any a c w) ?_
    rintro e w1 ⟨rfl, rfl⟩
    go_wp2_with fail
    refine Calls.mono (ksooner_any b d w1) ?_
    rintro e w2 ⟨rfl, rfl⟩
    go_wp2_with fail
    refine Calls.mono (kempty_any _ _ w2) ?_
    rintro e w3 ⟨rfl, rfl⟩
    go_wp2
    go_ret3
    exact ⟨rfl, rfl⟩
  | false =>
    rw [show meetV a b c d = .tuple #[.string (mloB a c), .string (mhiB b d), .bool true] by simp [meetV, h]]
    go_enter Try.func9, Try.ntmps9
    go_wp2_with fail
    refine Calls.mono (kgreater_any a c w) ?_
    rintro e w1 ⟨rfl, rfl⟩
    go_wp2_with fail
    refine Calls.mono (ksooner_any b d w1) ?_
    rintro e w2 ⟨rfl, rfl⟩
    go_wp2_with fail
    refine Calls.mono (kempty_any _ _ w2) ?_
    rintro e w3 ⟨rfl, rfl⟩
    go_wp2
    go_ret3
    exact ⟨rfl, rfl⟩

theorem knext_any (a : ByteArray) (w : World) (h : a.size ≤ 140737488351232) : Calls Try.prog 22 #[.string a] w fun e w' => e = .returned (.string (a ++ ⟨#[0]⟩)) ∧ w' = w := by
  go_enter Try.func22, Try.ntmps22
  go_wp2
  go_ret
  exact ⟨rfl, rfl⟩
end Go.Proofs.Ytalhhiipgindfaa

/- The landed package keys: behind, Prefix. -/
namespace Go.Proofs.Ytalhhiipgindfaa
open Go.RowKit

/-- 'string([]byte{c})' of one byte in a block just made. -/
theorem conv_one (W : World) (n : Nat) (c : UInt8) (h : c.toNat = n + 1) :
    (convert 34 9 (.slice (some ⟨W.heap.size, 0, none⟩) 1 1)).run Try.prog (W.alloc (.cells #[.int .u8 ((n : Int) + 1)] 5)).drew = .ok (.string ⟨#[c]⟩) (W.alloc (.cells #[.int .u8 ((n : Int) + 1)] 5)).drew := by
  refine run_convert_bytes_back _ 34 9 5 ⟨W.heap.size, 0, none⟩ 1 [c] Try.underlying34 Try.underlying5 Try.underlying9 (fun j hj => ?_)
  simp only [List.length_singleton] at hj
  obtain rfl : j = 0 := by omega
  simp [go_sem, h]

theorem kbehind_any (p : ByteArray) (w : World) (h : p.size ≤ 140737488351232) : Calls Try.prog 26 #[.string p] w fun e w' => ∃ x : ByteArray, e = .returned (.string x) ∧ x.toList = bhE p.toList ∧ Below w.heap.size w w' := by
  go_enter Try.func26, Try.ntmps26
  go_wp2
  go_step3
  go_wp2
  go_step3
  go_wp2
  go_loop [3, 4] (fun d i => d = .string ⟨#[]⟩ ∧ ∃ k : Nat, k ≤ p.size ∧ i = .int .i64 ((k : Int) - 1) ∧ Hid (∀ c ∈ p.toList.drop k, c = 255)) (fun d i => (intOf i + 1).toNat)
  case atStart => exact ⟨rfl, p.size, Nat.le_refl _, rfl, fun c hm => by rw [List.drop_eq_nil_of_le (by rw [bl_len]; exact Nat.le_refl _)] at hm; cases hm⟩
  case round =>
    obtain ⟨rfl, k, hk, rfl, hz⟩ := hrel
    by_cases hlt : 0 < k
    · obtain ⟨j, rfl⟩ : ∃ j, k = j + 1 := ⟨k - 1, by omega⟩
      rw [show (((j + 1 : Nat) : Int) - 1) = (j : Int) by omega]
      have hj : (j : Int) < (p.size : Int) := by omega
      have hjn : j < p.size := by omega
      by_cases hc : p[j].toNat = 255
      · go_wp2
        go_round
        case rel => exact ⟨rfl, j, by omega, rfl, drop_more p j hjn hc hz.out⟩
        case measure => simp [intOf]
      · have hb := p[j].toNat_lt
        have hjl : (j : Int) ≤ (p.size : Int) := by omega
        have hsl := fun W : World => run_slice_string_h (P := Try.prog) (s := p) (t := 9) Try.underlying9 (w := W) .i64 (j : Int) (by omega) hjl
        have hb2 : p[j].toNat < 255 := by omega
        have hcv := fun W : World => conv_one W p[j].toNat (p[j] + 1) (by rw [UInt8.toNat_add]; simp; omega)
        go_wp2
        go_region
        have HX := khide (bhE_at p j hjn hc hz.out)
        generalize hx : p.extract 0 j ++ ⟨#[p[j] + 1]⟩ = x at HX ⊢
        clear hx
        go_wp2
        try rw [Exit.noGoto_ret]
        go_ret
        exact ⟨x, rfl, kunhide HX, ((Below.refl _ _).alloc (Nat.le_refl _) _).drew⟩
    · obtain rfl : k = 0 := by omega
      rw [show (((0 : Nat) : Int) - 1) = -1 by omega]
      have HX := khide (bhE_all p.toList hz.out)
      go_wp2
      go_ret
      exact ⟨_, rfl, by rw [kunhide HX, bl_nil], Below.refl _ _⟩

theorem kprefix_any (p : ByteArray) (w : World) (h : p.size ≤ 140737488351232) : Calls Try.prog 11 #[.string p] w fun e w' => ∃ x : ByteArray, e = .returned (.tuple #[.string p, .string x]) ∧ x.toList = bhE p.toList ∧ Below w.heap.size w w' := by
  go_enter Try.func11, Try.ntmps11
  go_wp2_with fail
  refine Calls.mono (kbehind_any p w h) ?_
  rintro e w1 ⟨x, rfl, hx, b1⟩
  have HX := khide hx
  clear hx
  go_wp2
  go_ret2
  exact ⟨x, rfl, kunhide HX, b1⟩
end Go.Proofs.Ytalhhiipgindfaa
