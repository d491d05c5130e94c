/- Texts of ours, one behind the other: BatRd1. -/
import Derived.Test.YtehnjanllemnlaaG5
import Derived.Test.YtehnjanllemnlaaG14
import Derived.Test.YtehnjanllemnlaaG15
import Derived.Test.YtehnjanllemnlaaG20
import Derived.Deep.RegionHeld3
import Derived.BigQuiet
/- Readers in memory: where they stand, and what they read; package batch's reader: number, upTo, refuse, left, one. -/
namespace Go.Proofs.Ytehnjanllemnlaa
open Go.RowKit

/-- Block g is a reader of the bytes b, at place p, with the error e (with an error its place is of no account). -/
structure Rd (T : TypeId) (w : World) (g : Nat) (s : Value) (b : List UInt8) (p e : Int) : Prop where
  at3 : ∃ a : Int, At3 w g T s (.int .i64 a) (.int .i64 e) ∧ (e = 0 → a = p) ∧ -9223372036854775808 ≤ a ∧ a ≤ 9223372036854775807
  row : Row w s b
  apart : ∀ bb off c, s = .slice (some ⟨bb, off, none⟩) b.length c → b ≠ [] → bb ≠ g
  room : b.length ≤ 140737488351232
  pos : e = 0 → 0 ≤ p ∧ p ≤ b.length

theorem Rd.keep {T : TypeId} {w w' : World} {g : Nat} {s : Value} {b : List UInt8} {p e : Int} (h : Rd T w g s b p e) {F : Nat → Prop} (hk : Keep F w w') (hg : ¬ F g) (hr : ∀ bb off c, s = .slice (some ⟨bb, off, none⟩) b.length c → b ≠ [] → ¬ F bb) : Rd T w' g s b p e := by
  obtain ⟨⟨a, h3, hr2⟩, h4, h5, h6, h7⟩ := h
  exact ⟨⟨a, (hk.block g (Array.getElem?_eq_some_iff.1 h3).1 hg).trans h3, hr2⟩, h4.keep hk hr, h5, h6, h7⟩
theorem Rd.below {T : TypeId} {w w' : World} {g : Nat} {s : Value} {b : List UInt8} {p e : Int} (h : Rd T w g s b p e) (hb : Below w.heap.size w w') : Rd T w' g s b p e := h.keep (F := fun _ => False) (Keep.of_below hb) (fun h => h) (fun _ _ _ _ _ h => h)
theorem Rd.lt {T : TypeId} {w : World} {g : Nat} {s : Value} {b : List UInt8} {p e : Int} (h : Rd T w g s b p e) : g < w.heap.size := by
  obtain ⟨a, h3, _⟩ := h.at3
  exact (Array.getElem?_eq_some_iff.1 h3).1
theorem keep_set {w : World} {g j : Nat} {v : Value} : Keep (fun k => k = g) w (w.setCell ⟨g, j, none⟩ v) :=
  ⟨rfl, rfl, rfl, by simp [World.setCell], fun k _ hk => heap_setCell_other w ⟨g, j, none⟩ k _ (fun e => hk (by simp at e; exact e.symm ▸ rfl))⟩
/-- A reader whose place and error were set, with the world grown in between. -/
theorem Rd.set {T : TypeId} {w w1 : World} {g : Nat} {s : Value} {b : List UInt8} {p e : Int} (h : Rd T w g s b p e) (hb : Below w.heap.size w w1) (a' p' e' : Int) (ha : e' = 0 → a' = p') (h1 : -9223372036854775808 ≤ a') (h2 : a' ≤ 9223372036854775807) (hp : e' = 0 → 0 ≤ p' ∧ p' ≤ b.length) :
    Rd T ((w1.setCell ⟨g, 1, none⟩ (.int .i64 a')).setCell ⟨g, 2, none⟩ (.int .i64 e')) g s b p' e' ∧ Keep (fun k => k = g) w ((w1.setCell ⟨g, 1, none⟩ (.int .i64 a')).setCell ⟨g, 2, none⟩ (.int .i64 e')) := by
  have hk : Keep (fun k => k = g) w1 ((w1.setCell ⟨g, 1, none⟩ (.int .i64 a')).setCell ⟨g, 2, none⟩ (.int .i64 e')) := keep_set.trans keep_set (fun _ h => Or.inl h)
  have hb' := h.below hb
  obtain ⟨⟨a, h3, _⟩, h4, h5, h6, h7⟩ := hb'
  exact ⟨⟨⟨a', (h3.set1 _).set2 _, ha, h1, h2⟩, h4.keep hk h5, h5, h6, hp⟩, (Keep.of_below hb).trans hk (fun _ h => Or.inl h)⟩

theorem num_pos (b : List UInt8) (p e : Int) : (numF b p e).2.2 = 0 → 0 ≤ (numF b p e).2.1 ∧ (numF b p e).2.1 ≤ b.length := by
  unfold numF
  intro h
  split at h
  · rename_i he; exact absurd h he
  · split at h
    · rename_i h1 h2; exact absurd h h2
    · rename_i h1 h2
      rw [if_neg h1, if_neg h2]
      have := read_ok b p (by simpa using h2)
      simp only
      omega

set_option maxRecDepth 20000 in
set_option maxHeartbeats 2000000 in
theorem bnumber_any (g : Nat) (p e : Int) (s : Value) (b : List UInt8) (w : World) (h : Rd 78 w g s b p e) :
    Calls Try.prog 61 #[.pointer (some ⟨g, 0, none⟩)] w fun x w' => x = .returned (.int .u64 ((numF b p e).1 : Int)) ∧ Rd 78 w' g s b (numF b p e).2.1 (numF b p e).2.2 ∧ Keep (fun k => k = g) w w' := by
  obtain ⟨q0, l0, cc0, hs0⟩ : ∃ q l c, s = .slice q l c := by obtain ⟨p, c, l, e, _⟩ := h.row.shape; exact ⟨p, l, c, e⟩
  subst hs0
  have HH := hide h
  obtain ⟨a, h3, ha, ha1, ha2⟩ := h.at3
  obtain ⟨c0, c1, c2, fz⟩ := h3.cells
  by_cases he : e = 0
  · subst he
    obtain rfl : a = p := ha rfl
    have hdw : Below w.heap.size w w.drew := (Below.refl _ _).drew
    have HRV := hide (readvar_any (.slice q0 l0 cc0) b a w.drew (h.row.below hdw) h.room)
    have hnum : numF b a 0 = if readE b a ≠ 0 then (0, a, readE b a) else (readV b a, readN b a, 0) := by unfold numF; rw [if_neg (by simp)]
    have hV0 : readE b a ≠ 0 → readV b a = 0 ∧ readN b a = 0 := by
      intro hne
      unfold readE at hne
      unfold readV readN
      by_cases h0 : a < 0
      · rw [if_pos h0, if_pos h0]; exact ⟨rfl, rfl⟩
      · rw [if_neg h0] at hne
        rw [if_neg h0, if_neg h0, if_neg (by omega), if_neg (by omega)]
        exact ⟨rfl, rfl⟩
    have hN : -9223372036854775808 ≤ readN b a ∧ readN b a ≤ 9223372036854775807 := by
      by_cases h0 : readE b a = 0
      · have := read_ok b a h0
        have hr := h.room
        omega
      · have := (hV0 h0).2
        omega
    have HFIN : Hid (∀ w1, Below w.heap.size w w1 → (readV b a : Nat) = (numF b a 0).1 ∧ Rd 78 ((w1.setCell ⟨g, 1, none⟩ (.int .i64 (readN b a))).setCell ⟨g, 2, none⟩ (.int .i64 (readE b a))) g (.slice q0 l0 cc0) b (numF b a 0).2.1 (numF b a 0).2.2 ∧ Keep (fun k => k = g) w ((w1.setCell ⟨g, 1, none⟩ (.int .i64 (readN b a))).setCell ⟨g, 2, none⟩ (.int .i64 (readE b a)))) := by
      intro w1 hb
      by_cases h0 : readE b a = 0
      · have e1 : numF b a 0 = (readV b a, readN b a, 0) := by rw [hnum, if_neg (by simp [h0])]
        have hq := read_ok b a h0
        have := (unhide HH).set hb (readN b a) (readN b a) (readE b a) (fun _ => rfl) hN.1 hN.2 (fun _ => by omega)
        rw [e1]
        exact ⟨rfl, by rw [h0] at this ⊢; exact this.1, by rw [h0] at this ⊢; exact this.2⟩
      · have e1 : numF b a 0 = (0, a, readE b a) := by rw [hnum, if_pos h0]
        have := (unhide HH).set hb (readN b a) a (readE b a) (fun h => absurd h h0) hN.1 hN.2 (fun h => absurd h h0)
        rw [e1]
        exact ⟨(hV0 h0).1, this⟩
    have d0 := c0
    have d1 := c1
    have f1 := fz 1
    have f2 := fz 2
    have H3 := hide (h3.below hdw)
    generalize readE b a = E at *
    generalize readN b a = N at *
    generalize readV b a = V at *
    clear fz h3 h hdw hnum hV0 ha hN
    go_enter Try.func61, Try.ntmps61
    go_wp2_with fail
    go_region_held3 (fun w' => w'.cell? ⟨g, 0, none⟩ = some (.slice q0 l0 cc0) ∧ w'.cell? ⟨g, 1, none⟩ = some (.int .i64 a)) (first | assumption | go_keep)
      (first | (go_at_call 69; refine Calls.mono (unhide HRV) ?_; rintro x w1 ⟨rfl, b1⟩; obtain ⟨k0, k1, k2, fz⟩ := ((unhide H3).below b1).cells; have kk : w1.cell? ⟨g, 0, none⟩ = some (.slice q0 l0 cc0) ∧ w1.cell? ⟨g, 1, none⟩ = some (.int .i64 a) := ⟨k0, k1⟩; have g1 := fz 1; have g2 := fz 2; have HFN := hide (unhide HFIN w1 (((Below.refl w.heap.size w).drew).trans b1)); clear fz b1))
    go_wp2
    go_ret
    obtain ⟨e1, e2, e3⟩ := unhide HFN
    exact ⟨by rw [← e1]; rfl, e2, e3⟩
  · have hn : numF b p e = (0, p, e) := by unfold numF; rw [if_pos he]
    rw [hn]
    have he' : (e == 0) = false := by simp [he]
    clear fz
    go_enter Try.func61, Try.ntmps61
    go_wp2
    go_ret
    exact ⟨rfl, unhide HH, Keep.refl _ _⟩

set_option maxRecDepth 20000 in
theorem brefuse_any (g : Nat) (p e x : Int) (s : Value) (b : List UInt8) (w : World) (h : Rd 78 w g s b p e) (hx : x ≠ 0) :
    Calls Try.prog 40 #[.pointer (some ⟨g, 0, none⟩), .int .i64 x] w fun y w' => y = .returned (.tuple #[]) ∧ Rd 78 w' g s b p (if e = 0 then x else e) ∧ Keep (fun k => k = g) w w' := by
  have HH := hide h
  obtain ⟨a, h3, ha, ha1, ha2⟩ := h.at3
  obtain ⟨c0, c1, c2, fz⟩ := h3.cells
  by_cases he : e = 0
  · subst he
    rw [if_pos rfl]
    have f2 := fz 2
    have H3 := hide h3
    clear fz h3 h ha
    go_enter Try.func40, Try.ntmps40
    go_wp2
    go_end0
    have hk : Keep (fun k => k = g) w (w.setCell ⟨g, 2, none⟩ (.int .i64 x)) := keep_set
    refine ⟨rfl, ⟨⟨a, (unhide H3).set2 _, fun h => absurd h hx, ha1, ha2⟩, (unhide HH).row.keep hk (unhide HH).apart, (unhide HH).apart, (unhide HH).room, fun h => absurd h hx⟩, hk⟩
  · rw [if_neg he]
    have he' : (e == 0) = false := by simp [he]
    clear fz h3 h
    go_enter Try.func40, Try.ntmps40
    go_wp2
    go_end0
    exact ⟨rfl, unhide HH, Keep.refl _ _⟩

theorem most_small (b : List UInt8) (m : Nat) (p e : Int) : (mostF b m p e).1 ≤ m := by
  unfold mostF
  split
  · simp
  · split
    · simp
    · omega

set_option maxRecDepth 20000 in
set_option maxHeartbeats 1000000 in
theorem bupto_any (g m : Nat) (p e : Int) (s : Value) (b : List UInt8) (w : World) (h : Rd 78 w g s b p e) (hm : m ≤ 4611686018427387904) :
    Calls Try.prog 62 #[.pointer (some ⟨g, 0, none⟩), .int .u64 (m : Int)] w fun x w' => x = .returned (.int .i64 ((mostF b m p e).1 : Int)) ∧ Rd 78 w' g s b (mostF b m p e).2.1 (mostF b m p e).2.2 ∧ Keep (fun k => k = g) w w' := by
  have HN := hide (bnumber_any g p e s b w h)
  have hv := num_err b p e
  have hz : (numF b p e).2.2 ≠ 0 → (numF b p e).1 = 0 := by
    unfold numF
    split
    · intro _; rfl
    · split
      · intro _; rfl
      · intro h; exact absurd rfl h
  have hmI : (m : Int) ≤ 4611686018427387904 := by omega
  unfold mostF
  generalize numF b p e = R at *
  obtain ⟨V, P, E⟩ := R
  simp only at HN hv hz ⊢
  clear h hm
  have hvI : (V : Int) < 18446744073709551616 := by omega
  clear hv
  by_cases hE : E = 0
  · subst hE
    rw [if_neg (by simp)]
    by_cases hV : m < V
    · rw [if_pos hV]
      have hV' : (m : Int) < V := by omega
      clear hz hV hmI hvI
      go_enter Try.func62, Try.ntmps62
      go_wp2_with fail
      refine Calls.mono (unhide HN) ?_
      rintro x w1 ⟨rfl, r1, k1⟩
      have HR0 := brefuse_any g P 0 11 s b w1 r1 (by omega)
      rw [if_pos rfl] at HR0
      have HR := hide HR0
      clear HR0
      have HK := hide k1
      clear r1 k1 HN
      go_wp2_with fail
      refine Calls.mono (unhide HR) ?_
      rintro x w2 ⟨rfl, r2, k2⟩
      have HF := hide (And.intro r2 ((unhide HK).trans k2 (fun _ h => Or.inl h)))
      clear r2 k2 HR HK
      go_wp2
      go_ret
      exact ⟨rfl, unhide HF⟩
    · rw [if_neg hV]
      have hV' : (V : Int) ≤ m := by omega
      have hV2 : ¬ (m : Int) < V := by omega
      have hwv : IntKind.i64.wrap (V : Int) = V := by rw [IntKind.wrap_i64]; omega
      clear hz hV hmI hvI hV'
      go_enter Try.func62, Try.ntmps62
      go_wp2_with fail
      refine Calls.mono (unhide HN) ?_
      rintro x w1 ⟨rfl, r1, k1⟩
      have HF := hide (And.intro r1 k1)
      clear r1 k1 HN
      go_wp2
      go_ret
      exact ⟨rfl, unhide HF⟩
  · rw [if_pos hE]
    obtain rfl : V = 0 := hz hE
    have hV2 : ¬ (m : Int) < 0 := by omega
    clear hz hvI hmI
    simp only [Int.natCast_zero] at HN ⊢
    go_enter Try.func62, Try.ntmps62
    go_wp2_with fail
    refine Calls.mono (unhide HN) ?_
    rintro x w1 ⟨rfl, r1, k1⟩
    have HF := hide (And.intro r1 k1)
    clear r1 k1 HN
    go_wp2
    go_ret
    exact ⟨rfl, unhide HF⟩

set_option maxRecDepth 20000 in
theorem bleft_any (g : Nat) (a e : Int) (s : Value) (n : Nat) (w : World) (hs : ∃ q c, s = .slice q n c) (h3 : At3 w g 78 s (.int .i64 a) (.int .i64 e)) :
    Calls Try.prog 39 #[.pointer (some ⟨g, 0, none⟩)] w fun x w' => x = .returned (.bool (decide (a < n))) ∧ Below w.heap.size w w' := by
  obtain ⟨q, c, rfl⟩ := hs
  obtain ⟨c0, c1, c2, fz⟩ := h3.cells
  clear fz h3
  go_enter Try.func39, Try.ntmps39
  go_wp2
  go_region
  go_wp2
  go_ret
  exact ⟨rfl, (Below.refl _ _).drew⟩
end Go.Proofs.Ytehnjanllemnlaa
