/- What Zero of package word does, out of the contracts of what it calls. -/
import Derived.Test.YtdpoiieblbmofaaWord
import Derived.Laws.EntriesVeiled
namespace Go.Proofs.Ytdpoiieblbmofaa
open Go.RowKit

theorem all_zero (bs : List UInt8) (h : ∀ j (h : j < bs.length), bs[j] = 0) : bs.all (· == 0) = true := by
  rw [List.all_eq_true]
  intro x hx
  obtain ⟨j, hj, rfl⟩ := List.getElem_of_mem hx
  simp [h j hj]
theorem not_all_zero (bs : List UInt8) (j : Nat) (hj : j < bs.length) (h : bs[j] ≠ 0) : bs.all (· == 0) = false := by
  rw [Bool.eq_false_iff]
  intro ha
  rw [List.all_eq_true] at ha
  exact h (by simpa using ha _ (List.getElem_mem hj))
theorem beq_byte (u : UInt8) : ((u.toNat : Int) == 0) = (u == 0) := by
  rw [Bool.eq_iff_iff]
  simp only [beq_iff_eq]
  constructor
  · intro h; exact UInt8.toNat_inj.1 (by simpa using h)
  · intro h; simp [h]

theorem zero_any (s : Value) (bs : List UInt8) (w : World) (h : Row w s bs) :
    Calls Try.prog 106 #[s] w fun e w' => e = .returned (.bool (bs.all (· == 0))) ∧ Below w.heap.size w w' := by
  obtain ⟨a, cap, rfl, h1, h2, h3, h4⟩ := h
  unfold maxLen at h2
  rcases h4 with rfl | ⟨b, off, rfl, hc⟩
  · go_enter Try.func106, Try.ntmps106
    go_wp2_with fail
    refine (over_empty _ _ _ _).mono ?_
    rintro e w' ⟨rfl, rfl⟩
    go_wp2
    go_ret
    exact ⟨rfl, ((Below.refl _ _).alloc (Nat.le_refl _) _).alloc (by simp) _⟩
  · have hcells : ∀ j (h : j < bs.length), ((w.alloc (.cells #[.func (.func 116) #[] #[]] 169)).alloc (.cells #[.func (.func 116) #[] #[]] 169)).cell? ⟨b, off + j, none⟩ = some (B bs[j]) := fun j hj => by
      have hlt := World.block_lt_of_cell? w _ (hc j hj)
      rw [World.cell?_alloc_past _ _ _ (by simp at hlt ⊢; omega), World.cell?_alloc_past _ _ _ hlt]
      exact hc j hj
    have key := over_any 116 #[] b off bs.length cap (w.alloc (.cells #[.func (.func 116) #[] #[]] 169))
      (fun i wr => wr = (w.alloc (.cells #[.func (.func 116) #[] #[]] 169)).alloc (.cells #[.func (.func 116) #[] #[]] 169) ∧ ∀ j (h : j < bs.length), j < i → bs[j] = 0)
      (fun i wr => wr = (w.alloc (.cells #[.func (.func 116) #[] #[]] 169)).alloc (.cells #[.func (.func 116) #[] #[]] 169) ∧ ∃ h : i < bs.length, bs[i] ≠ 0)
      (by omega) ent_zero1 ⟨rfl, fun j _ hj => absurd hj (by omega)⟩
      (by rintro i wr ⟨rfl, _⟩; rw [World.cell?_alloc_at _ _ _ _ rfl]; rfl)
      (by rintro i wr hi ⟨rfl, _⟩; exact ⟨_, hcells i hi⟩)
      (by
        rintro i c wr hi ⟨rfl, hz⟩ hcc
        have e : Value.int .u8 c = B bs[i] := Option.some.inj (hcc.symm.trans (hcells i hi))
        have ec : c = (bs[i].toNat : Int) := by unfold B at e; simpa using e
        subst ec
        refine (zero1_any _ _ _).mono ?_
        rintro e w' ⟨rfl, rfl⟩
        rw [beq_byte]
        by_cases h0 : bs[i] = 0
        · refine Or.inl ⟨by simp [h0], rfl, fun j hj hji => ?_⟩
          by_cases hji' : j = i
          · subst hji'; exact h0
          · exact hz j hj (by omega)
        · exact Or.inr ⟨by simp [h0], rfl, hi, h0⟩)
    have hbel : Below w.heap.size w ((w.alloc (.cells #[.func (.func 116) #[] #[]] 169)).alloc (.cells #[.func (.func 116) #[] #[]] 169)) := ((Below.refl _ _).alloc (Nat.le_refl _) _).alloc (by simp) _
    clear hcells hc
    go_enter Try.func106, Try.ntmps106
    go_wp2_with fail
    refine key.mono ?_
    rintro e w' (⟨rfl, rfl, hz⟩ | ⟨rfl, i, hi, rfl, _, hz⟩)
    · have H : Hid (bs.all (· == 0) = true) := all_zero bs (fun j hj => hz j hj hj)
      clear hz key
      go_wp2
      go_ret
      exact ⟨by rw [H.out]; rfl, hbel⟩
    · have H : Hid (bs.all (· == 0) = false) := not_all_zero bs i hi hz
      clear hz key
      go_wp2
      go_ret
      exact ⟨by rw [H.out]; rfl, hbel⟩
end Go.Proofs.Ytdpoiieblbmofaa
