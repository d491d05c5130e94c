/- What Zero, Put and Get of package word do, out of the contracts of what they call; and that 'awake' answers true. -/
import Derived.Test.YtjcemodfpcohgaaWord
import Derived.Laws.EntriesVeiled
namespace Go.Proofs.Ytjcemodfpcohgaa
open Go.RowKit

theorem all_zero (bs : List UInt8) (h : ∀ j (h : j < bs.length), bs[j] = 0) : bs.all (· == 0) = true := by
  rw [List.all_eq_true]
  intro x hx
  obtain ⟨j, hj, rfl⟩ := List.getElem_of_mem hx
  simp [h j hj]
theorem not_all_zero (bs : List UInt8) (j : Nat) (hj : j < bs.length) (h : bs[j] ≠ 0) : bs.all (· == 0) = false := by
  rw [Bool.eq_false_iff]
  intro ha
  rw [List.all_eq_true] at ha
  exact h (by simpa using ha _ (List.getElem_mem hj))
theorem beq_byte (u : UInt8) : ((u.toNat : Int) == 0) = (u == 0) := by
  rw [Bool.eq_iff_iff]
  simp only [beq_iff_eq]
  constructor
  · intro h; exact UInt8.toNat_inj.1 (by simpa using h)
  · intro h; simp [h]

theorem zero_any (s : Value) (bs : List UInt8) (w : World) (h : Row w s bs) :
    Calls Try.prog 26 #[s] w fun e w' => e = .returned (.bool (bs.all (· == 0))) ∧ Below w.heap.size w w' := by
  obtain ⟨a, cap, rfl, h1, h2, h3, h4⟩ := h
  unfold maxLen at h2
  rcases h4 with rfl | ⟨b, off, rfl, hc⟩
  · go_enter Try.func26, Try.ntmps26
    go_wp2_with fail
    refine (over_empty _ _ _ _).mono ?_
    rintro e w' ⟨rfl, rfl⟩
    go_wp2
    go_ret
    exact ⟨rfl, ((Below.refl _ _).alloc (Nat.le_refl _) _).alloc (by simp) _⟩
  · have hcells : ∀ j (h : j < bs.length), ((w.alloc (.cells #[.func (.func 37) #[] #[]] 53)).alloc (.cells #[.func (.func 37) #[] #[]] 53)).cell? ⟨b, off + j, none⟩ = some (B bs[j]) := fun j hj => by
      have hlt := World.block_lt_of_cell? w _ (hc j hj)
      rw [World.cell?_alloc_past _ _ _ (by simp at hlt ⊢; omega), World.cell?_alloc_past _ _ _ hlt]
      exact hc j hj
    have key := over_any 37 #[] b off bs.length cap (w.alloc (.cells #[.func (.func 37) #[] #[]] 53))
      (fun i wr => wr = (w.alloc (.cells #[.func (.func 37) #[] #[]] 53)).alloc (.cells #[.func (.func 37) #[] #[]] 53) ∧ ∀ j (h : j < bs.length), j < i → bs[j] = 0)
      (fun i wr => wr = (w.alloc (.cells #[.func (.func 37) #[] #[]] 53)).alloc (.cells #[.func (.func 37) #[] #[]] 53) ∧ ∃ h : i < bs.length, bs[i] ≠ 0)
      (by omega) ent_zero1 ⟨rfl, fun j _ hj => absurd hj (by omega)⟩
      (by rintro i wr ⟨rfl, _⟩; rw [World.cell?_alloc_at _ _ _ _ rfl]; rfl)
      (by rintro i wr hi ⟨rfl, _⟩; exact ⟨_, hcells i hi⟩)
      (by
        rintro i c wr hi ⟨rfl, hz⟩ hcc
        have e : Value.int .u8 c = B bs[i] := Option.some.inj (hcc.symm.trans (hcells i hi))
        have ec : c = (bs[i].toNat : Int) := by unfold B at e; simpa using e
        subst ec
        refine (zero1_any _ _ _).mono ?_
        rintro e w' ⟨rfl, rfl⟩
        rw [beq_byte]
        by_cases h0 : bs[i] = 0
        · refine Or.inl ⟨by simp [h0], rfl, fun j hj hji => ?_⟩
          by_cases hji' : j = i
          · subst hji'; exact h0
          · exact hz j hj (by omega)
        · exact Or.inr ⟨by simp [h0], rfl, hi, h0⟩)
    have hbel : Below w.heap.size w ((w.alloc (.cells #[.func (.func 37) #[] #[]] 53)).alloc (.cells #[.func (.func 37) #[] #[]] 53)) := ((Below.refl _ _).alloc (Nat.le_refl _) _).alloc (by simp) _
    clear hcells hc
    go_enter Try.func26, Try.ntmps26
    go_wp2_with fail
    refine key.mono ?_
    rintro e w' (⟨rfl, rfl, hz⟩ | ⟨rfl, i, hi, rfl, _, hz⟩)
    · have H : Hid (bs.all (· == 0) = true) := all_zero bs (fun j hj => hz j hj hj)
      clear hz key
      go_wp2
      go_ret
      exact ⟨by rw [H.out]; rfl, hbel⟩
    · have H : Hid (bs.all (· == 0) = false) := not_all_zero bs i hi hz
      clear hz key
      go_wp2
      go_ret
      exact ⟨by rw [H.out]; rfl, hbel⟩

theorem var300 : varF 9 300 = [172, 2] := by decide +kernel

theorem awake_any (w : World) : Calls Try.prog 14 #[] w fun e w' => e = .returned (.bool true) ∧ Below w.heap.size w w' := by
  go_enter Try.func14, Try.ntmps14
  go_wp2_with fail
  refine (var_any 300 (by omega) w).mono ?_
  rintro e w1 ⟨s, rfl, hown, hb1⟩
  rw [var300] at hown
  rcases hown.2 with ⟨_, h2⟩ | ⟨g, cap, cur, rfl, hg, hh, hnc, hcp, hcs, htake⟩
  · simp at h2
  have hc0 : w1.cell? ⟨g, 0, none⟩ = some (.int .u8 172) := hown.cellAt 0 (by simp)
  clear hown hh hcs htake
  go_wp2_with fail
  refine (zero_any _ [] _ (Row.nil _)).mono ?_
  rintro e w2 ⟨rfl, hb2⟩
  have hall : ([] : List UInt8).all (· == 0) = true := rfl
  rw [hall]
  clear hc0
  go_wp2_with fail
  refine (zero_any _ [1] _ ⟨some ⟨w2.heap.size, 0, none⟩, 1, rfl, by simp, by unfold maxLen; omega, by simp, Or.inr ⟨_, 0, rfl, fun j hj => ?_⟩⟩).mono ?_
  · match j, hj with
    | 0, _ => rw [World.cell?_alloc_at _ _ _ _ rfl]; rfl
  rintro e w3 ⟨rfl, hb3⟩
  have hall1 : ([1] : List UInt8).all (· == 0) = false := rfl
  rw [hall1]
  go_wp2
  go_ret
  have s1 := hb1.size
  have s2 := hb2.size
  exact ⟨rfl, (hb1.trans (hb2.mono s1)).trans (((Below.refl _ _).alloc (by omega) _).trans (hb3.mono (by simp; omega)))⟩
end Go.Proofs.Ytjcemodfpcohgaa
