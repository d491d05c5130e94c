/- Texts of ours, one behind the other: PlSearch, PlOwn2. -/
import Derived.Test.YtehafkbndjifaaaG4
import Derived.Test.YtehafkbndjifaaaG14
import Derived.Deep.LoopGhost
import Derived.Deep.RegionHeld3
/- sort.Search, and package plain's place, find as landed. -/
namespace Go.Proofs.Ytehafkbndjifaaa
open Go.RowKit

set_option maxRecDepth 20000 in
set_option maxHeartbeats 4000000 in
theorem search_any (g : Nat) (cb : Array Value) (n : Nat) (p : Nat → Bool) (w : World) (eg : ∀ args w, (callFunc g args).run Try.prog w = .ok (.enter g args) w) (hsz : n < 4611686018427387904)
    (hf : ∀ (W : World) (i : Nat), Below w.heap.size w W → i < n → Calls Try.prog g (#[.int .i64 (i : Int)] ++ cb) W fun e w' => e = .returned (.bool (p i)) ∧ Below w.heap.size w w') :
    Calls Try.prog 36 #[.int .i64 (n : Int), .func (.func g) #[] cb] w fun e w' => ∃ r : Nat, e = .returned (.int .i64 (r : Int)) ∧ r ≤ n ∧ (∀ t, r = t + 1 → p t = false) ∧ (r < n → p r = true) ∧ Below w.heap.size w w' := by
  have HF := hide hf
  clear hf
  go_enter Try.func36, Try.ntmps36
  go_wp2
  go_loopg [5, 6] n (fun kx s5 s6 wr => ∃ (lo hi : Nat), s5 = .int .i64 lo ∧ s6 = .int .i64 hi ∧ lo ≤ hi ∧ hi ≤ n ∧ hi - lo ≤ kx ∧ Hid ((∀ t, lo = t + 1 → p t = false) ∧ (hi < n → p hi = true) ∧ Below w.heap.size w wr))
  case atStart => exact ⟨0, n, rfl, rfl, Nat.zero_le _, Nat.le_refl _, by omega, fun t ht => by omega, fun h => by omega, Below.refl _ _⟩
  case round =>
    obtain ⟨lo, hi, rfl, rfl, hlh, hin, hg, hst⟩ := hrel
    obtain ⟨h1, h2, hb⟩ := unhide hst
    by_cases hlt : lo < hi
    · have hc := unhide HF wr ((lo + hi) / 2) hb (by omega)
      rw [show (((lo + hi) / 2 : Nat) : Int) = ((lo : Int) + (hi : Int)) / 2 by omega] at hc
      have HC := hide hc
      have HA := hide (And.intro h1 (And.intro h2 hb))
      clear hc h1 h2 hb hst
      cases hp : p ((lo + hi) / 2) <;> rw [hp] at HC
      · have HP := hide hp
        clear hp
        go_wp2_with fail
        refine (unhide HC).mono ?_
        rintro e w' ⟨rfl, hb2⟩
        have HB2 := hide hb2
        clear hb2
        go_wp2
        go_roundg (hi - ((lo + hi) / 2 + 1))
        case measure => omega
        case rel =>
          obtain ⟨h1, h2, hb⟩ := unhide HA
          exact ⟨(lo + hi) / 2 + 1, hi, by rw [show ((lo : Int) + (hi : Int)) / 2 + 1 = (((lo + hi) / 2 + 1 : Nat) : Int) by omega], rfl, by omega, hin, Nat.le_refl _, fun t ht => by rw [show t = (lo + hi) / 2 by omega]; exact unhide HP, h2, unhide HB2⟩
      · have HP := hide hp
        clear hp
        go_wp2_with fail
        refine (unhide HC).mono ?_
        rintro e w' ⟨rfl, hb2⟩
        have HB2 := hide hb2
        clear hb2
        go_wp2
        go_roundg ((lo + hi) / 2 - lo)
        case measure => omega
        case rel =>
          obtain ⟨h1, h2, hb⟩ := unhide HA
          exact ⟨lo, (lo + hi) / 2, rfl, by rw [show ((lo : Int) + (hi : Int)) / 2 = (((lo + hi) / 2 : Nat) : Int) by omega], by omega, by omega, Nat.le_refl _, h1, fun _ => unhide HP, unhide HB2⟩
    · obtain rfl : hi = lo := by omega
      have HA := hide (And.intro h1 (And.intro h2 hb))
      clear h1 h2 hb hst
      go_wp2
      go_ret
      obtain ⟨h1, h2, hb⟩ := unhide HA
      exact ⟨hi, rfl, hin, h1, h2, hb⟩
end Go.Proofs.Ytehafkbndjifaaa

/- Package plain as landed: place, find. -/
namespace Go.Proofs.Ytehafkbndjifaaa
open Go.RowKit

set_option maxRecDepth 20000 in
set_option maxHeartbeats 4000000 in
theorem placeF_any (bl bk b o c l : Nat) (key ak : ByteArray) (i : Nat) (W : World) (hi : (i : Int) < (l : Int)) (_ : (l : Int) ≤ 9223372036854775807)
    (h1 : W.cell? ⟨bl, 0, none⟩ = some (.slice (some ⟨b, o, none⟩) l c)) (h2 : W.cell? ⟨bk, 0, none⟩ = some (.string key)) (h3 : W.cell? ⟨b, o + i * 2, none⟩ = some (.string ak)) :
    Calls Try.prog 60 #[.int .i64 (i : Int), .pointer (some ⟨bl, 0, none⟩), .pointer (some ⟨bk, 0, none⟩)] W fun e w' => e = .returned (.bool (!tl ak.toList key.toList)) ∧ Below W.heap.size W w' := by
  have HLS : Hid (∀ W, Calls Try.prog 41 #[.string ak, .string key] W fun e w' => e = .returned (.bool (tl ak.toList key.toList)) ∧ w' = W) := fun W => kless_any ak key W
  generalize tl ak.toList key.toList = TL at *
  obtain ⟨CC, hCC⟩ : ∃ CC : World → Prop, CC = fun w' => Below W.heap.size W w' := ⟨_, rfl⟩
  have HC0 : Hid (CC { W with drawn := W.drawn + 1 }) := by unfold Hid; rw [hCC]; exact (Below.refl _ _).drew
  have HCC : Hid (∀ w', CC w' → w'.cell? ⟨bl, 0, none⟩ = some (.slice (some ⟨b, o, none⟩) l c) ∧ w'.cell? ⟨bk, 0, none⟩ = some (.string key) ∧ w'.cell? ⟨b, o + i * 2, none⟩ = some (.string ak)) := by
    unfold Hid
    rw [hCC]
    exact fun w' hw => ⟨(hw.cell (World.block_lt_of_cell? W _ h1)).trans h1, (hw.cell (World.block_lt_of_cell? W _ h2)).trans h2, (hw.cell (World.block_lt_of_cell? W _ h3)).trans h3⟩
  have HCW : Hid (∀ w', CC w' → Below W.heap.size W w') := by unfold Hid; rw [hCC]; exact fun w' hw => hw
  clear hCC h1 h2 h3
  go_enter Try.func60, Try.ntmps60
  go_wp2_with fail
  refine region_calm CC (by kernel_rfl) (by kernel_rfl) (unhide HC0) ?_
  repeat (first
    | go_big_quiet_skip
    | (go_big_quiet_want
       apply Exists.intro
       refine ⟨fun w' hw' => ?_, ?_⟩
       · obtain ⟨c0, c1, c2⟩ := unhide HCC w' hw'
         go_simp
         first | done | rfl | exact Calls.mono (unhide HLS w') (fun e w'' hx => ⟨hx.1, hx.2 ▸ hw'⟩)
       simp only [Act.put, List.setIfInBounds_toArray, List.set_cons_zero, List.set_cons_succ]
       go_big_quiet_on))
  refine wpQuiet_nil ?_
  intro w' hw'
  have HBW := hide (unhide HCW w' hw')
  go_wp2
  go_ret
  exact ⟨rfl, unhide HBW⟩

theorem ent_placeF (args : Array Value) (w : World) : (callFunc 60 args).run Try.prog w = .ok (.enter 60 args) w := by kernel_rfl
theorem elN {w : World} {v : Value} {L : List El} (h : EL 2 prC w v L) : L.length ≤ 9223372036854775807 := by
  obtain ⟨p, c, _, h1, h2, _⟩ := h.shape
  unfold maxLen at h2
  omega

set_option maxRecDepth 20000 in
set_option maxHeartbeats 4000000 in
theorem place_any (v : Value) (L : List El) (key : ByteArray) (w : World) (h : EL 2 prC w v L) (hsp : SP (pdat L)) (hsz : L.length < 4611686018427387904) :
    Calls Try.prog 35 #[v, .string key] w fun e w' => e = .returned (.int .i64 (plc (pdat L) key.toList : Int)) ∧ Below w.heap.size w w' := by
  obtain ⟨p1, c1, rfl, k1, k2, k3⟩ := h.shape
  obtain ⟨W2, hW2⟩ : ∃ W2, W2 = (w.alloc (.cells #[.slice p1 L.length c1] 22)).alloc (.cells #[.string key] 9) := ⟨_, rfl⟩
  have hb2 : Below w.heap.size w W2 := by rw [hW2]; exact ((Below.refl _ _).alloc (Nat.le_refl _) _).alloc (by simp) _
  have c1' : W2.cell? ⟨w.heap.size, 0, none⟩ = some (.slice p1 L.length c1) := by rw [hW2]; simp
  have c2' : W2.cell? ⟨w.heap.size + 1, 0, none⟩ = some (.string key) := by rw [hW2]; simp
  have hse := search_any 60 #[.pointer (some ⟨w.heap.size, 0, none⟩), .pointer (some ⟨w.heap.size + 1, 0, none⟩)] L.length (fun i => match (pdat L)[i]? with | some x => !tl (kP x) key.toList | none => true) W2 ent_placeF hsz (by
    intro W i hW hi
    obtain ⟨b, o, c, e, _, _, hsn⟩ := h.seenP (by omega)
    simp only [Value.slice.injEq] at e
    obtain ⟨rfl, _, rfl⟩ := e
    have hWw := hb2.trans (hW.mono hb2.size)
    have := placeF_any w.heap.size (w.heap.size + 1) b o c1 L.length key L[i].1.key i W (by omega) (by have := elN h; omega) ((hW.cell (World.block_lt_of_cell? W2 _ c1')).trans c1') ((hW.cell (World.block_lt_of_cell? W2 _ c2')).trans c2') (hsn i hi W hWw).1
    refine this.mono fun e w' hx => ⟨?_, hW.trans (hx.2.mono hW.size)⟩
    rw [hx.1, List.getElem?_eq_getElem (by rw [pdat_len]; exact hi), pdat_get L i hi])
  have HSE : Hid (Calls Try.prog 36 #[.int .i64 (L.length : Int), .func (.func 60) #[] #[.pointer (some ⟨w.heap.size, 0, none⟩), .pointer (some ⟨w.heap.size + 1, 0, none⟩)]] W2 fun e w' => e = .returned (.int .i64 (plc (pdat L) key.toList : Int)) ∧ Below w.heap.size w w') := by
    refine hse.mono ?_
    rintro e w' ⟨r, rfl, hr, h1, h2, hb⟩
    refine ⟨?_, hb2.trans (hb.mono hb2.size)⟩
    rw [plc_of hsp r (by rw [pdat_len]; exact hr) (fun t x ht hx => ?_) (fun x hx => ?_)]
    · have := h1 t ht
      rw [hx] at this
      simpa using this
    · have := h2 (by have := (List.getElem?_eq_some_iff.1 hx).1; rw [pdat_len] at this; exact this)
      rw [hx] at this
      simpa using this
  generalize plc (pdat L) key.toList = N at *
  have hn := elN h
  generalize L.length = l at *
  have hl0 : (l : Int) ≤ 9223372036854775807 := by omega
  have HW2 := hide hW2
  clear h hsp hsz k1 k2 k3 hse hb2 c1' c2' hn hW2
  go_enter Try.func35, Try.ntmps35
  go_wp2_with (go_at_call 36; rw [← unhide HW2]; refine Calls.mono (unhide HSE) ?_; rintro e w2 ⟨rfl, hb2⟩; have HB2 := hide hb2; clear hb2)
  go_ret
  exact ⟨rfl, unhide HB2⟩

set_option maxRecDepth 20000 in
set_option maxHeartbeats 4000000 in
theorem find_any (v : Value) (L : List El) (key : ByteArray) (w : World) (h : EL 2 prC w v L) (hsp : SP (pdat L)) (hsz : L.length < 4611686018427387904) :
    Calls Try.prog 33 #[v, .string key] w fun e w' => e = .returned (.tuple #[.int .i64 (plc (pdat L) key.toList : Int), .bool (((pdat L)[plc (pdat L) key.toList]?).any fun x => decide (kP x = key.toList))]) ∧ Below w.heap.size w w' := by
  obtain ⟨R, hR⟩ : ∃ R, R = ((pdat L)[plc (pdat L) key.toList]?).any fun x => decide (kP x = key.toList) := ⟨_, rfl⟩
  rw [← hR]
  have HPL := hide (place_any v L key w h hsp hsz)
  have hn := elN h
  have hle := plc_le (pdat L) key.toList
  rw [pdat_len] at hle
  obtain ⟨N, hN⟩ : ∃ N, N = plc (pdat L) key.toList := ⟨_, rfl⟩
  rw [← hN] at hR HPL hle ⊢
  have hl0 : (L.length : Int) ≤ 9223372036854775807 := by omega
  by_cases hlt : (N : Int) < (L.length : Int)
  · have iN : N < L.length := by omega
    obtain ⟨b, o, c, rfl, _, _, hsn⟩ := h.seenP (by omega)
    have HS := hide (fun W hW => (hsn N iN W hW).1)
    rw [List.getElem?_eq_getElem (by rw [pdat_len]; exact iN), pdat_get L N iN] at hR
    simp only [Option.any_some] at hR
    generalize L[N] = x at *
    generalize L.length = l at *
    obtain ⟨⟨ak, ap, an, ac, ad⟩, av⟩ := x
    simp only at *
    have hR2 : R = (ak.toList == key.toList) := by
      rw [hR, Bool.eq_iff_iff]
      simp
    have HR := hide hR2
    clear h hsp hsz hn hle hN hR hR2 hsn iN
    obtain ⟨CC, hCC⟩ : ∃ CC : World → Prop, CC = fun w' => Below w.heap.size w w' := ⟨_, rfl⟩
    have HCD : Hid (∀ W, Below w.heap.size w W → CC { W with drawn := W.drawn + 1 }) := by unfold Hid; rw [hCC]; exact fun W hW => hW.drew
    have HCW : Hid (∀ w', CC w' → Below w.heap.size w w') := by unfold Hid; rw [hCC]; exact fun w' hw => hw
    have HCC : Hid (∀ w', CC w' → w'.cell? ⟨b, o + N * 2, none⟩ = some (.string ak) ∧ True) := fun w' hw => ⟨unhide HS w' (unhide HCW w' hw), trivial⟩
    clear hCC HS
    go_enter Try.func33, Try.ntmps33
    go_wp2_with fail
    refine Calls.mono (unhide HPL) ?_
    rintro e w2 ⟨rfl, hb2⟩
    have HC0 := hide (unhide HCD _ hb2)
    clear hb2
    go_wp2_with fail
    refine region_calm CC (by kernel_rfl) (by kernel_rfl) (unhide HC0) ?_
    repeat (first
      | go_big_quiet_skip
      | (go_big_quiet_want
         apply Exists.intro
         refine ⟨fun w' hw' => ?_, ?_⟩
         · obtain ⟨c0, _⟩ := unhide HCC w' hw'
           go_simp
           first | done | rfl
         simp only [Act.put, List.setIfInBounds_toArray, List.set_cons_zero, List.set_cons_succ]
         go_big_quiet_on))
    refine wpQuiet_nil ?_
    intro w' hw'
    have HBW := hide (unhide HCW w' hw')
    go_wp2
    go_ret2
    exact ⟨by rw [unhide HR]; rfl, unhide HBW⟩
  · have hRf : R = false := by
      rw [hR, List.getElem?_eq_none (by rw [pdat_len]; omega)]
      rfl
    subst hRf
    obtain ⟨p1, c1, rfl, k1, k2, k3⟩ := h.shape
    have g1 : decide ((N : Int) < (L.length : Int)) = false := decide_eq_false hlt
    have g2 : decide (N < L.length) = false := decide_eq_false (by omega)
    have g3 : L.length ≤ N := by omega
    generalize L.length = l at *
    clear h hsp hsz hn hle hN hR k1 k2 k3
    obtain ⟨CC, hCC⟩ : ∃ CC : World → Prop, CC = fun w' => Below w.heap.size w w' := ⟨_, rfl⟩
    have HCD : Hid (∀ W, Below w.heap.size w W → CC { W with drawn := W.drawn + 1 }) := by unfold Hid; rw [hCC]; exact fun W hW => hW.drew
    have HCW : Hid (∀ w', CC w' → Below w.heap.size w w') := by unfold Hid; rw [hCC]; exact fun w' hw => hw
    have HCC : Hid (∀ w', CC w' → True ∧ True) := fun w' hw => ⟨trivial, trivial⟩
    clear hCC
    go_enter Try.func33, Try.ntmps33
    go_wp2_with fail
    refine Calls.mono (unhide HPL) ?_
    rintro e w2 ⟨rfl, hb2⟩
    have HC0 := hide (unhide HCD _ hb2)
    clear hb2
    go_wp2_with fail
    refine region_calm CC (by kernel_rfl) (by kernel_rfl) (unhide HC0) ?_
    repeat (first
      | go_big_quiet_skip
      | (go_big_quiet_want
         apply Exists.intro
         refine ⟨fun w' hw' => ?_, ?_⟩
         · obtain ⟨c0, c1⟩ := unhide HCC w' hw'
           go_simp
           first | done | rfl
         simp only [Act.put, List.setIfInBounds_toArray, List.set_cons_zero, List.set_cons_succ]
         go_big_quiet_on))
    refine wpQuiet_nil ?_
    intro w' hw'
    have HBW := hide (unhide HCW w' hw')
    go_wp2
    go_ret2
    exact ⟨rfl, unhide HBW⟩
end Go.Proofs.Ytehafkbndjifaaa
