/- The landed package disk: Write. -/
import Derived.Test.YtdpoiieblbmofaaDiskOwn9
namespace Go.Proofs.Ytdpoiieblbmofaa
open Go.RowKit

set_option maxRecDepth 20000 in
theorem owrite_any (F : Nat → Prop) (p : Value) (s : DK) (a : Int) (bv : Value) (b : List UInt8) (w : World) (h : DRep F w p s) (hb : Row w bv b) (hw : s.waits.length ≤ 1048576) (ht : s.ticks ≤ 1048576) :
    Calls Try.prog 13 #[p, .int .i64 a, bv] w fun e w' => e = .returned (.int .i64 (s.writeE a b)) ∧ ∃ F', DRep F' w' p (s.write a b) ∧ Moves F F' w w' := by
  have H1 := hide (orefuses_any F p s w h)
  have H2 := hide (ohas_any F p s a w h)
  have HD := hide h
  obtain ⟨g, hg⟩ : ∃ g, p = .pointer (some ⟨g, 0, none⟩) := by obtain ⟨g, _, _, _, _, _, h, _⟩ := h; exact ⟨g, h⟩
  subst hg
  cases hf : s.fell with
  | true =>
    rw [hf, if_pos rfl] at H1
    have e1 : s.writeE a b = 40 := by unfold DK.writeE; rw [if_pos hf]
    have e2 : s.write a b = s := by unfold DK.write; rw [if_pos hf]
    rw [e1, e2]
    obtain ⟨bq, bc, l, rfl, hl⟩ := hb.shape
    clear e1 e2 hf h hb hw ht H2
    go_enter Try.func13, Try.ntmps13
    go_wp2_with fail
    refine Calls.mono (unhide H1) ?_
    rintro e w' ⟨rfl, rfl⟩
    go_wp2
    go_ret
    exact ⟨rfl, F, unhide HD, Moves.refl _ _⟩
  | false =>
    rw [hf, if_neg (by decide)] at H1
    by_cases hc : s.noSuch a = true ∨ b.length ≠ 512
    · have e1 : s.writeE a b = 1 := by unfold DK.writeE; rw [if_neg (by rw [hf]; decide), if_pos hc]
      have e2 : s.write a b = s := by unfold DK.write; rw [if_neg (by rw [hf]; decide), if_pos hc]
      rw [e1, e2]
      obtain ⟨bq, bc, l, rfl, hl⟩ := hb.shape
      subst hl
      clear e1 e2 hf h hb hw ht
      cases hs : s.noSuch a with
      | true =>
        rw [hs] at H2
        clear hc hs
        go_enter Try.func13, Try.ntmps13
        go_wp2_with fail
        refine Calls.mono (unhide H1) ?_
        rintro e w' ⟨rfl, rfl⟩
        go_wp2_with fail
        refine Calls.mono (unhide H2) ?_
        rintro e w'' ⟨rfl, rfl⟩
        go_wp2
        go_ret
        exact ⟨rfl, F, unhide HD, Moves.refl _ _⟩
      | false =>
        rw [hs] at H2
        have h3 : ((b.length : Int) != 512) = true := by
          rcases hc with hc | hc
          · rw [hs] at hc; cases hc
          · rw [bne_iff_ne]; omega
        clear hc hs
        go_enter Try.func13, Try.ntmps13
        go_wp2_with fail
        refine Calls.mono (unhide H1) ?_
        rintro e w' ⟨rfl, rfl⟩
        go_wp2_with fail
        refine Calls.mono (unhide H2) ?_
        rintro e w'' ⟨rfl, rfl⟩
        go_wp2
        go_ret
        exact ⟨rfl, F, unhide HD, Moves.refl _ _⟩
    · have hs : s.noSuch a = false := by
        cases h1 : s.noSuch a with
        | false => rfl
        | true => exact absurd (Or.inl h1) hc
      have hl : b.length = 512 := Decidable.byContradiction fun hl => hc (Or.inr hl)
      have e1 : s.writeE a b = if s.armed = 1 then 40 else 0 := by unfold DK.writeE; rw [if_neg (by rw [hf]; decide), if_neg hc]
      have e2 : s.write a b = { s with waits := s.waits ++ [(a.toNat, b)] }.tick := by unfold DK.write; rw [if_neg (by rw [hf]; decide), if_neg hc]
      rw [e1, e2]
      rw [hs] at H2
      obtain ⟨h0, h1, h2⟩ := DK.noSuch_false hs
      obtain ⟨k, rfl⟩ := Int.eq_ofNat_of_zero_le h0
      rw [Int.toNat_natCast]
      have HP := hide (oput_any F g s k bv b w h hb hl (by omega) hw)
      obtain ⟨E, hE⟩ : ∃ E : Int, E = if s.armed = 1 then 40 else 0 := ⟨_, rfl⟩
      have HA : Hid (∀ F' w', DRep F' w' (.pointer (some ⟨g, 0, none⟩)) { s with waits := s.waits ++ [(k, b)] } → Calls Try.prog 38 #[.pointer (some ⟨g, 0, none⟩), .func (.func 39) #[.pointer (some ⟨g, 4, none⟩)] #[]] w' fun e w'' => e = .returned (.int .i64 E) ∧ DRep F' w'' (.pointer (some ⟨g, 0, none⟩)) { s with waits := s.waits ++ [(k, b)] }.tick ∧ Keep F' w' w'') := by
        intro F' w' h'
        rw [hE]
        exact ofalls_any F' g _ w' h' hf ht
      rw [← hE]
      clear hE
      generalize ({ s with waits := s.waits ++ [(k, b)] } : DK) = t at *
      obtain ⟨bq, bc, l, rfl, hl2⟩ := hb.shape
      rw [hl] at hl2
      subst hl2
      clear e1 e2 hf h hb hw ht hc hs h0 h1 h2
      go_enter Try.func13, Try.ntmps13
      go_wp2_with fail
      refine Calls.mono (unhide H1) ?_
      rintro e w' ⟨rfl, rfl⟩
      go_wp2_with fail
      refine Calls.mono (unhide H2) ?_
      rintro e w'' ⟨rfl, rfl⟩
      go_wp2_with fail
      refine Calls.mono (unhide HP) ?_
      rintro e w2 ⟨rfl, F', hr2, hm2⟩
      have HA2 := hide (unhide HA F' w2 hr2)
      have HM2 := hide hm2
      clear hr2 hm2 HA
      go_wp2_with fail
      refine Calls.mono (unhide HA2) ?_
      rintro e w3 ⟨rfl, hr3, hk3⟩
      have HR3 := hide hr3
      have HM3 := hide ((unhide HM2).trans ⟨hk3, fun _ h => Or.inl h⟩)
      clear hr3 hk3
      go_wp2
      go_ret
      exact ⟨rfl, F', unhide HR3, unhide HM3⟩
end Go.Proofs.Ytdpoiieblbmofaa
