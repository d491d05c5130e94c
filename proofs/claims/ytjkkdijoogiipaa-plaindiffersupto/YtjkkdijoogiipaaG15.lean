/- Texts of ours, one behind the other: PlSearch, PlOwn2, PlDif1. -/
import Derived.Test.YtjkkdijoogiipaaG4
import Derived.Test.YtjkkdijoogiipaaG14
import Derived.Deep.LoopGhost
import Derived.Deep.RegionHeld3
/- sort.Search, and package plain's place, find as landed. -/
namespace Go.Proofs.Ytjkkdijoogiipaa
open Go.RowKit

set_option maxRecDepth 20000 in
set_option maxHeartbeats 4000000 in
theorem search_any (g : Nat) (cb : Array Value) (n : Nat) (p : Nat → Bool) (w : World) (eg : ∀ args w, (callFunc g args).run Try.prog w = .ok (.enter g args) w) (hsz : n < 4611686018427387904)
    (hf : ∀ (W : World) (i : Nat), Below w.heap.size w W → i < n → Calls Try.prog g (#[.int .i64 (i : Int)] ++ cb) W fun e w' => e = .returned (.bool (p i)) ∧ Below w.heap.size w w') :
    Calls Try.prog 46 #[.int .i64 (n : Int), .func (.func g) #[] cb] w fun e w' => ∃ r : Nat, e = .returned (.int .i64 (r : Int)) ∧ r ≤ n ∧ (∀ t, r = t + 1 → p t = false) ∧ (r < n → p r = true) ∧ Below w.heap.size w w' := by
  have HF := hide hf
  clear hf
  go_enter Try.func46, Try.ntmps46
  go_wp2
  go_loopg [5, 6] n (fun kx s5 s6 wr => ∃ (lo hi : Nat), s5 = .int .i64 lo ∧ s6 = .int .i64 hi ∧ lo ≤ hi ∧ hi ≤ n ∧ hi - lo ≤ kx ∧ Hid ((∀ t, lo = t + 1 → p t = false) ∧ (hi < n → p hi = true) ∧ Below w.heap.size w wr))
  case atStart => exact ⟨0, n, rfl, rfl, Nat.zero_le _, Nat.le_refl _, by omega, fun t ht => by omega, fun h => by omega, Below.refl _ _⟩
  case round =>
    obtain ⟨lo, hi, rfl, rfl, hlh, hin, hg, hst⟩ := hrel
    obtain ⟨h1, h2, hb⟩ := unhide hst
    by_cases hlt : lo < hi
    · have hc := unhide HF wr ((lo + hi) / 2) hb (by omega)
      rw [show (((lo + hi) / 2 : Nat) : Int) = ((lo : Int) + (hi : Int)) / 2 by omega] at hc
      have HC := hide hc
      have HA := hide (And.intro h1 (And.intro h2 hb))
      clear hc h1 h2 hb hst
      cases hp : p ((lo + hi) / 2) <;> rw [hp] at HC
      · have HP := hide hp
        clear hp
        go_wp2_with fail
        refine (unhide HC).mono ?_
        rintro e w' ⟨rfl, hb2⟩
        have HB2 := hide hb2
        clear hb2
        go_wp2
        go_roundg (hi - ((lo + hi) / 2 + 1))
        case measure => omega
        case rel =>
          obtain ⟨h1, h2, hb⟩ := unhide HA
          exact ⟨(lo + hi) / 2 + 1, hi, by rw [show ((lo : Int) + (hi : Int)) / 2 + 1 = (((lo + hi) / 2 + 1 : Nat) : Int) by omega], rfl, by omega, hin, Nat.le_refl _, fun t ht => by rw [show t = (lo + hi) / 2 by omega]; exact unhide HP, h2, unhide HB2⟩
      · have HP := hide hp
        clear hp
        go_wp2_with fail
        refine (unhide HC).mono ?_
        rintro e w' ⟨rfl, hb2⟩
        have HB2 := hide hb2
        clear hb2
        go_wp2
        go_roundg ((lo + hi) / 2 - lo)
        case measure => omega
        case rel =>
          obtain ⟨h1, h2, hb⟩ := unhide HA
          exact ⟨lo, (lo + hi) / 2, rfl, by rw [show ((lo : Int) + (hi : Int)) / 2 = (((lo + hi) / 2 : Nat) : Int) by omega], by omega, by omega, Nat.le_refl _, h1, fun _ => unhide HP, unhide HB2⟩
    · obtain rfl : hi = lo := by omega
      have HA := hide (And.intro h1 (And.intro h2 hb))
      clear h1 h2 hb hst
      go_wp2
      go_ret
      obtain ⟨h1, h2, hb⟩ := unhide HA
      exact ⟨hi, rfl, hin, h1, h2, hb⟩
end Go.Proofs.Ytjkkdijoogiipaa

/- Package plain as landed: place, find. -/
namespace Go.Proofs.Ytjkkdijoogiipaa
open Go.RowKit

set_option maxRecDepth 20000 in
set_option maxHeartbeats 4000000 in
theorem placeF_any (bl bk b o c l : Nat) (key ak : ByteArray) (i : Nat) (W : World) (hi : (i : Int) < (l : Int)) (_ : (l : Int) ≤ 9223372036854775807)
    (h1 : W.cell? ⟨bl, 0, none⟩ = some (.slice (some ⟨b, o, none⟩) l c)) (h2 : W.cell? ⟨bk, 0, none⟩ = some (.string key)) (h3 : W.cell? ⟨b, o + i * 2, none⟩ = some (.string ak)) :
    Calls Try.prog 47 #[.int .i64 (i : Int), .pointer (some ⟨bl, 0, none⟩), .pointer (some ⟨bk, 0, none⟩)] W fun e w' => e = .returned (.bool (!tl ak.toList key.toList)) ∧ Below W.heap.size W w' := by
  have HLS : Hid (∀ W, Calls Try.prog 27 #[.string ak, .string key] W fun e w' => e = .returned (.bool (tl ak.toList key.toList)) ∧ w' = W) := fun W => kless_any ak key W
  generalize tl ak.toList key.toList = TL at *
  obtain ⟨CC, hCC⟩ : ∃ CC : World → Prop, CC = fun w' => Below W.heap.size W w' := ⟨_, rfl⟩
  have HC0 : Hid (CC { W with drawn := W.drawn + 1 }) := by unfold Hid; rw [hCC]; exact (Below.refl _ _).drew
  have HCC : Hid (∀ w', CC w' → w'.cell? ⟨bl, 0, none⟩ = some (.slice (some ⟨b, o, none⟩) l c) ∧ w'.cell? ⟨bk, 0, none⟩ = some (.string key) ∧ w'.cell? ⟨b, o + i * 2, none⟩ = some (.string ak)) := by
    unfold Hid
    rw [hCC]
    exact fun w' hw => ⟨(hw.cell (World.block_lt_of_cell? W _ h1)).trans h1, (hw.cell (World.block_lt_of_cell? W _ h2)).trans h2, (hw.cell (World.block_lt_of_cell? W _ h3)).trans h3⟩
  have HCW : Hid (∀ w', CC w' → Below W.heap.size W w') := by unfold Hid; rw [hCC]; exact fun w' hw => hw
  clear hCC h1 h2 h3
  go_enter Try.func47, Try.ntmps47
  go_wp2_with fail
  refine region_calm CC (by kernel_rfl) (by kernel_rfl) (unhide HC0) ?_
  repeat (first
    | go_big_quiet_skip
    | (go_big_quiet_want
       apply Exists.intro
       refine ⟨fun w' hw' => ?_, ?_⟩
       · obtain ⟨c0, c1, c2⟩ := unhide HCC w' hw'
         go_simp
         first | done | rfl | exact Calls.mono (unhide HLS w') (fun e w'' hx => ⟨hx.1, hx.2 ▸ hw'⟩)
       simp only [Act.put, List.setIfInBounds_toArray, List.set_cons_zero, List.set_cons_succ]
       go_big_quiet_on))
  refine wpQuiet_nil ?_
  intro w' hw'
  have HBW := hide (unhide HCW w' hw')
  go_wp2
  go_ret
  exact ⟨rfl, unhide HBW⟩

theorem ent_placeF (args : Array Value) (w : World) : (callFunc 47 args).run Try.prog w = .ok (.enter 47 args) w := by kernel_rfl
theorem elN {w : World} {v : Value} {L : List El} (h : EL 2 prC w v L) : L.length ≤ 9223372036854775807 := by
  obtain ⟨p, c, _, h1, h2, _⟩ := h.shape
  unfold maxLen at h2
  omega

set_option maxRecDepth 20000 in
set_option maxHeartbeats 4000000 in
theorem place_any (v : Value) (L : List El) (key : ByteArray) (w : World) (h : EL 2 prC w v L) (hsp : SP (pdat L)) (hsz : L.length < 4611686018427387904) :
    Calls Try.prog 43 #[v, .string key] w fun e w' => e = .returned (.int .i64 (plc (pdat L) key.toList : Int)) ∧ Below w.heap.size w w' := by
  obtain ⟨p1, c1, rfl, k1, k2, k3⟩ := h.shape
  obtain ⟨W2, hW2⟩ : ∃ W2, W2 = (w.alloc (.cells #[.slice p1 L.length c1] 22)).alloc (.cells #[.string key] 9) := ⟨_, rfl⟩
  have hb2 : Below w.heap.size w W2 := by rw [hW2]; exact ((Below.refl _ _).alloc (Nat.le_refl _) _).alloc (by simp) _
  have c1' : W2.cell? ⟨w.heap.size, 0, none⟩ = some (.slice p1 L.length c1) := by rw [hW2]; simp
  have c2' : W2.cell? ⟨w.heap.size + 1, 0, none⟩ = some (.string key) := by rw [hW2]; simp
  have hse := search_any 47 #[.pointer (some ⟨w.heap.size, 0, none⟩), .pointer (some ⟨w.heap.size + 1, 0, none⟩)] L.length (fun i => match (pdat L)[i]? with | some x => !tl (kP x) key.toList | none => true) W2 ent_placeF hsz (by
    intro W i hW hi
    obtain ⟨b, o, c, e, _, _, hsn⟩ := h.seenP (by omega)
    simp only [Value.slice.injEq] at e
    obtain ⟨rfl, _, rfl⟩ := e
    have hWw := hb2.trans (hW.mono hb2.size)
    have := placeF_any w.heap.size (w.heap.size + 1) b o c1 L.length key L[i].1.key i W (by omega) (by have := elN h; omega) ((hW.cell (World.block_lt_of_cell? W2 _ c1')).trans c1') ((hW.cell (World.block_lt_of_cell? W2 _ c2')).trans c2') (hsn i hi W hWw).1
    refine this.mono fun e w' hx => ⟨?_, hW.trans (hx.2.mono hW.size)⟩
    rw [hx.1, List.getElem?_eq_getElem (by rw [pdat_len]; exact hi), pdat_get L i hi])
  have HSE : Hid (Calls Try.prog 46 #[.int .i64 (L.length : Int), .func (.func 47) #[] #[.pointer (some ⟨w.heap.size, 0, none⟩), .pointer (some ⟨w.heap.size + 1, 0, none⟩)]] W2 fun e w' => e = .returned (.int .i64 (plc (pdat L) key.toList : Int)) ∧ Below w.heap.size w w') := by
    refine hse.mono ?_
    rintro e w' ⟨r, rfl, hr, h1, h2, hb⟩
    refine ⟨?_, hb2.trans (hb.mono hb2.size)⟩
    rw [plc_of hsp r (by rw [pdat_len]; exact hr) (fun t x ht hx => ?_) (fun x hx => ?_)]
    · have := h1 t ht
      rw [hx] at this
      simpa using this
    · have := h2 (by have := (List.getElem?_eq_some_iff.1 hx).1; rw [pdat_len] at this; exact this)
      rw [hx] at this
      simpa using this
  generalize plc (pdat L) key.toList = N at *
  have hn := elN h
  generalize L.length = l at *
  have hl0 : (l : Int) ≤ 9223372036854775807 := by omega
  have HW2 := hide hW2
  clear h hsp hsz k1 k2 k3 hse hb2 c1' c2' hn hW2
  go_enter Try.func43, Try.ntmps43
  go_wp2_with (go_at_call 46; rw [← unhide HW2]; refine Calls.mono (unhide HSE) ?_; rintro e w2 ⟨rfl, hb2⟩; have HB2 := hide hb2; clear hb2)
  go_ret
  exact ⟨rfl, unhide HB2⟩

set_option maxRecDepth 20000 in
set_option maxHeartbeats 4000000 in
theorem find_any (v : Value) (L : List El) (key : ByteArray) (w : World) (h : EL 2 prC w v L) (hsp : SP (pdat L)) (hsz : L.length < 4611686018427387904) :
    Calls Try.prog 38 #[v, .string key] w fun e w' => e = .returned (.tuple #[.int .i64 (plc (pdat L) key.toList : Int), .bool (((pdat L)[plc (pdat L) key.toList]?).any fun x => decide (kP x = key.toList))]) ∧ Below w.heap.size w w' := by
  obtain ⟨R, hR⟩ : ∃ R, R = ((pdat L)[plc (pdat L) key.toList]?).any fun x => decide (kP x = key.toList) := ⟨_, rfl⟩
  rw [← hR]
  have HPL := hide (place_any v L key w h hsp hsz)
  have hn := elN h
  have hle := plc_le (pdat L) key.toList
  rw [pdat_len] at hle
  obtain ⟨N, hN⟩ : ∃ N, N = plc (pdat L) key.toList := ⟨_, rfl⟩
  rw [← hN] at hR HPL hle ⊢
  have hl0 : (L.length : Int) ≤ 9223372036854775807 := by omega
  by_cases hlt : (N : Int) < (L.length : Int)
  · have iN : N < L.length := by omega
    obtain ⟨b, o, c, rfl, _, _, hsn⟩ := h.seenP (by omega)
    have HS := hide (fun W hW => (hsn N iN W hW).1)
    rw [List.getElem?_eq_getElem (by rw [pdat_len]; exact iN), pdat_get L N iN] at hR
    simp only [Option.any_some] at hR
    generalize L[N] = x at *
    generalize L.length = l at *
    obtain ⟨⟨ak, ap, an, ac, ad⟩, av⟩ := x
    simp only at *
    have hR2 : R = (ak.toList == key.toList) := by
      rw [hR, Bool.eq_iff_iff]
      simp
    have HR := hide hR2
    clear h hsp hsz hn hle hN hR hR2 hsn iN
    obtain ⟨CC, hCC⟩ : ∃ CC : World → Prop, CC = fun w' => Below w.heap.size w w' := ⟨_, rfl⟩
    have HCD : Hid (∀ W, Below w.heap.size w W → CC { W with drawn := W.drawn + 1 }) := by unfold Hid; rw [hCC]; exact fun W hW => hW.drew
    have HCW : Hid (∀ w', CC w' → Below w.heap.size w w') := by unfold Hid; rw [hCC]; exact fun w' hw => hw
    have HCC : Hid (∀ w', CC w' → w'.cell? ⟨b, o + N * 2, none⟩ = some (.string ak) ∧ True) := fun w' hw => ⟨unhide HS w' (unhide HCW w' hw), trivial⟩
    clear hCC HS
    go_enter Try.func38, Try.ntmps38
    go_wp2_with fail
    refine Calls.mono (unhide HPL) ?_
    rintro e w2 ⟨rfl, hb2⟩
    have HC0 := hide (unhide HCD _ hb2)
    clear hb2
    go_wp2_with fail
    refine region_calm CC (by kernel_rfl) (by kernel_rfl) (unhide HC0) ?_
    repeat (first
      | go_big_quiet_skip
      | (go_big_quiet_want
         apply Exists.intro
         refine ⟨fun w' hw' => ?_, ?_⟩
         · obtain ⟨c0, _⟩ := unhide HCC w' hw'
           go_simp
           first | done | rfl
         simp only [Act.put, List.setIfInBounds_toArray, List.set_cons_zero, List.set_cons_succ]
         go_big_quiet_on))
    refine wpQuiet_nil ?_
    intro w' hw'
    have HBW := hide (unhide HCW w' hw')
    go_wp2
    go_ret2
    exact ⟨by rw [unhide HR]; rfl, unhide HBW⟩
  · have hRf : R = false := by
      rw [hR, List.getElem?_eq_none (by rw [pdat_len]; omega)]
      rfl
    subst hRf
    obtain ⟨p1, c1, rfl, k1, k2, k3⟩ := h.shape
    have g1 : decide ((N : Int) < (L.length : Int)) = false := decide_eq_false hlt
    have g2 : decide (N < L.length) = false := decide_eq_false (by omega)
    have g3 : L.length ≤ N := by omega
    generalize L.length = l at *
    clear h hsp hsz hn hle hN hR k1 k2 k3
    obtain ⟨CC, hCC⟩ : ∃ CC : World → Prop, CC = fun w' => Below w.heap.size w w' := ⟨_, rfl⟩
    have HCD : Hid (∀ W, Below w.heap.size w W → CC { W with drawn := W.drawn + 1 }) := by unfold Hid; rw [hCC]; exact fun W hW => hW.drew
    have HCW : Hid (∀ w', CC w' → Below w.heap.size w w') := by unfold Hid; rw [hCC]; exact fun w' hw => hw
    have HCC : Hid (∀ w', CC w' → True ∧ True) := fun w' hw => ⟨trivial, trivial⟩
    clear hCC
    go_enter Try.func38, Try.ntmps38
    go_wp2_with fail
    refine Calls.mono (unhide HPL) ?_
    rintro e w2 ⟨rfl, hb2⟩
    have HC0 := hide (unhide HCD _ hb2)
    clear hb2
    go_wp2_with fail
    refine region_calm CC (by kernel_rfl) (by kernel_rfl) (unhide HC0) ?_
    repeat (first
      | go_big_quiet_skip
      | (go_big_quiet_want
         apply Exists.intro
         refine ⟨fun w' hw' => ?_, ?_⟩
         · obtain ⟨c0, c1⟩ := unhide HCC w' hw'
           go_simp
           first | done | rfl
         simp only [Act.put, List.setIfInBounds_toArray, List.set_cons_zero, List.set_cons_succ]
         go_big_quiet_on))
    refine wpQuiet_nil ?_
    intro w' hw'
    have HBW := hide (unhide HCW w' hw')
    go_wp2
    go_ret2
    exact ⟨rfl, unhide HBW⟩
end Go.Proofs.Ytjkkdijoogiipaa

/- Package plain as landed: least, taken; bytes.Equal. -/
namespace Go.Proofs.Ytjkkdijoogiipaa
open Go.RowKit

set_option maxRecDepth 20000 in
set_option maxHeartbeats 2000000 in
theorem least_any (va vb : Value) (A B : List El) (w : World) (ha : EL 2 prC w va A) (hb : EL 2 prC w vb B) (hne : 0 < A.length ∨ 0 < B.length) :
    Calls Try.prog 13 #[va, vb] w fun e w' => e = .returned (.string (lstK (pdat A) (pdat B))) ∧ Below w.heap.size w w' := by
  match A, B with
  | [], [] => simp at hne
  | x :: A, [] =>
    obtain ⟨b1, o1, c1, rfl, k1, k2, hs1⟩ := ha.seenP (by simp)
    obtain ⟨p2, c2, rfl, hj⟩ := hb.shape
    obtain ⟨n, hn⟩ : ∃ n, n = (x :: A).length := ⟨_, rfl⟩
    have hn1 : (0 : Int) < (n : Int) := by rw [hn]; simp only [List.length_cons]; omega
    have e : lstK (pdat (x :: A)) (pdat []) = x.1.key := rfl
    rw [e, ← hn]
    simp only [List.length_nil]
    obtain ⟨CC, hCC⟩ : ∃ CC : World → Prop, CC = fun W => Below w.heap.size w W := ⟨_, rfl⟩
    have HC0 : Hid (CC w.drew) := by unfold Hid; rw [hCC]; exact (Below.refl _ _).drew
    have HCW : Hid (∀ W, CC W → Below w.heap.size w W) := by unfold Hid; rw [hCC]; exact fun _ h => h
    have HK : Hid (∀ W, CC W → W.cell? ⟨b1, o1, none⟩ = some (.string x.1.key)) := by
      unfold Hid; rw [hCC]; exact fun W h => by have := (hs1 0 (by simp) W h).1; simpa using this
    generalize x.1.key = ky at *
    clear ha hb hs1 k1 k2 hn e hne hj hCC
    go_enter Try.func13, Try.ntmps13
    go_wp2_with fail
    refine region_pair CC (by kernel_rfl) (by kernel_rfl) (unhide HC0) ?_
    repeat (first
      | go_big_quiet_skip
      | (go_big_quiet_want
         apply Exists.intro
         refine ⟨fun w' hw' => ?_, ?_⟩
         · obtain a1 := unhide HK w' hw'
           go_simp
           first | done | rfl
         simp only [Act.put, List.setIfInBounds_toArray, List.set_cons_zero, List.set_cons_succ]
         go_big_quiet_on))
    refine wpQuiet_nil ?_
    intro w1 hw1
    obtain a1 := unhide HK w1 hw1
    have HBW := hide (unhide HCW w1 hw1)
    clear hw1
    go_wp2_with fail
    go_ret
    exact ⟨rfl, unhide HBW⟩
  | [], y :: B =>
    obtain ⟨b1, o1, c1, rfl, k1, k2, hs1⟩ := hb.seenP (by simp)
    obtain ⟨p2, c2, rfl, hj⟩ := ha.shape
    obtain ⟨n, hn⟩ : ∃ n, n = (y :: B).length := ⟨_, rfl⟩
    have hn1 : (0 : Int) < (n : Int) := by rw [hn]; simp only [List.length_cons]; omega
    have hn2 : ((n : Int) == 0) = false := by simp; omega
    have e : lstK (pdat []) (pdat (y :: B)) = y.1.key := rfl
    rw [e, ← hn]
    simp only [List.length_nil]
    obtain ⟨CC, hCC⟩ : ∃ CC : World → Prop, CC = fun W => Below w.heap.size w W := ⟨_, rfl⟩
    have HC0 : Hid (CC w.drew) := by unfold Hid; rw [hCC]; exact (Below.refl _ _).drew
    have HCW : Hid (∀ W, CC W → Below w.heap.size w W) := by unfold Hid; rw [hCC]; exact fun _ h => h
    have HK : Hid (∀ W, CC W → W.cell? ⟨b1, o1, none⟩ = some (.string y.1.key)) := by
      unfold Hid; rw [hCC]; exact fun W h => by have := (hs1 0 (by simp) W h).1; simpa using this
    generalize y.1.key = ky at *
    clear ha hb hs1 k1 k2 hn e hne hj hCC
    go_enter Try.func13, Try.ntmps13
    go_wp2_with fail
    refine region_pair CC (by kernel_rfl) (by kernel_rfl) (unhide HC0) ?_
    repeat (first
      | go_big_quiet_skip
      | (go_big_quiet_want
         apply Exists.intro
         refine ⟨fun w' hw' => ?_, ?_⟩
         · obtain a1 := unhide HK w' hw'
           go_simp
           first | done | rfl
         simp only [Act.put, List.setIfInBounds_toArray, List.set_cons_zero, List.set_cons_succ]
         go_big_quiet_on))
    refine wpQuiet_nil ?_
    intro w1 hw1
    obtain a1 := unhide HK w1 hw1
    have HBW := hide (unhide HCW w1 hw1)
    clear hw1
    go_wp2_with fail
    go_ret
    exact ⟨rfl, unhide HBW⟩
  | x :: A, y :: B =>
    obtain ⟨b1, o1, c1, rfl, k1, k2, hs1⟩ := ha.seenP (by simp)
    obtain ⟨b2, o2, c2, rfl, k3, k4, hs2⟩ := hb.seenP (by simp)
    obtain ⟨n, hn⟩ : ∃ n, n = (x :: A).length := ⟨_, rfl⟩
    obtain ⟨m, hm⟩ : ∃ m, m = (y :: B).length := ⟨_, rfl⟩
    have hn1 : (0 : Int) < (n : Int) := by rw [hn]; simp only [List.length_cons]; omega
    have hm1 : (0 : Int) < (m : Int) := by rw [hm]; simp only [List.length_cons]; omega
    have hm2 : ((m : Int) == 0) = false := by simp; omega
    have hnN : 0 < n := by omega
    have hmN : 0 < m := by omega
    have e : lstK (pdat (x :: A)) (pdat (y :: B)) = if tl x.1.key.toList y.1.key.toList then x.1.key else y.1.key := rfl
    rw [e, ← hn, ← hm]
    obtain ⟨CC, hCC⟩ : ∃ CC : World → Prop, CC = fun W => Below w.heap.size w W := ⟨_, rfl⟩
    have HC0 : Hid (CC w.drew) := by unfold Hid; rw [hCC]; exact (Below.refl _ _).drew
    have HCW : Hid (∀ W, CC W → Below w.heap.size w W) := by unfold Hid; rw [hCC]; exact fun _ h => h
    have HK : Hid (∀ W, CC W → W.cell? ⟨b1, o1, none⟩ = some (.string x.1.key) ∧ W.cell? ⟨b2, o2, none⟩ = some (.string y.1.key)) := by
      unfold Hid; rw [hCC]; exact fun W h => ⟨by have := (hs1 0 (by simp) W h).1; simpa using this, by have := (hs2 0 (by simp) W h).1; simpa using this⟩
    generalize x.1.key = kx at *
    generalize y.1.key = ky at *
    have HLS : Hid (∀ W, CC W → Calls Try.prog 27 #[.string kx, .string ky] W fun e W' => e = .returned (.bool (tl kx.toList ky.toList)) ∧ CC W') := fun W hW => (kless_any kx ky W).mono fun e W' hx => ⟨hx.1, by rw [hx.2]; exact hW⟩
    generalize tl kx.toList ky.toList = R at *
    clear ha hb hs1 hs2 k1 k2 k3 k4 hn hm e hne hCC
    go_enter Try.func13, Try.ntmps13
    cases R
    all_goals
      go_wp2_with fail
      refine region_pair CC (by kernel_rfl) (by kernel_rfl) (unhide HC0) ?_
      repeat (first
        | go_big_quiet_skip
        | (go_big_quiet_want
           apply Exists.intro
           refine ⟨fun w' hw' => ?_, ?_⟩
           · obtain ⟨a1, a2⟩ := unhide HK w' hw'
             go_simp
             first | done | rfl | exact unhide HLS w' hw'
           simp only [Act.put, List.setIfInBounds_toArray, List.set_cons_zero, List.set_cons_succ]
           go_big_quiet_on))
      refine wpQuiet_nil ?_
      intro w1 hw1
      obtain ⟨a1, a2⟩ := unhide HK w1 hw1
      have HBW := hide (unhide HCW w1 hw1)
      clear hw1
      go_wp2_with fail
      go_ret
      exact ⟨rfl, unhide HBW⟩

/-- 's[l:]' of a row of things of k cells, as an equation. -/
theorem krow_cut_l {P : Program} {t e : TypeId} {k : Nat} (ht : P.underlying t = some (.slice e)) (hsz : (P.info? e).map (·.size) = some k) {w : World} {a : Option Addr} {n cap : Nat} {cs : List Value} (h : KRow k w (.slice a n cap) n cs) (l : Nat) (hl : l ≤ n) :
    ∃ q c, (∀ W, (Instr.slice t (.slice a n cap) (some (.int .i64 (l : Int))) none none).run P W = .ok (.slice q (n - l) c) W) ∧ KRow k w (.slice q (n - l) c) (n - l) (cs.drop (l * k)) := by
  have hcap : n ≤ cap := by obtain ⟨_, _, e, h, _⟩ := h; simp only [Value.slice.injEq] at e; omega
  have hrow := krow_sliced h l n cap hl (Nat.le_refl _) hcap (Nat.le_refl _)
  have hlen : cs.length = n * k := by obtain ⟨_, _, _, _, _, _, h, _⟩ := h; exact h
  rw [List.take_of_length_le (by rw [List.length_drop, hlen, Nat.sub_mul]; omega)] at hrow
  unfold sliced at hrow
  refine ⟨_, _, fun W => ?_, hrow⟩
  have hrun := run_slice_l (P := P) W t a n cap (by rw [elem_of ht]; exact ht) .i64 (l : Int) (by omega) (by omega)
  rw [hrun, ksize ht hsz]
  simp only [Result.andThen_ok, Int.toNat_natCast]
  rfl

theorem bequal_any (s1 s2 : Value) (b1 b2 : List UInt8) (w : World) (h1 : Row w s1 b1) (h2 : Row w s2 b2) :
    Calls Try.prog 15 #[s1, s2] w fun e w' => e = .returned (.bool (b1 == b2)) ∧ w' = w := by
  have e1 := conv_row h1
  have e2 := conv_row h2
  clear h1 h2
  go_enter Try.func15, Try.ntmps15
  go_wp2
  go_ret
  exact ⟨rfl, rfl⟩

set_option maxRecDepth 20000 in
set_option maxHeartbeats 2000000 in
theorem taken_no (v : Value) (L : List El) (k : ByteArray) (w : World) (h : EL 2 prC w v L) (hk : ∀ x R, L = x :: R → x.1.key.toList ≠ k.toList) :
    Calls Try.prog 14 #[v, .string k] w fun e w' => e = .returned (.tuple #[.slice none 0 0, .bool false, v]) ∧ Below w.heap.size w w' := by
  cases L with
  | nil =>
    obtain ⟨p2, c2, rfl, hj⟩ := h.shape
    clear h hk hj
    simp only [List.length_nil]
    go_enter Try.func14, Try.ntmps14
    go_wp2_with fail
    refine bodyPost_ret (v := .tuple #[.slice none 0 0, .bool false, .slice p2 0 c2]) (by simp [results, Try.results14, go_sem]) rfl ⟨rfl, Below.refl _ _⟩
  | cons x R =>
    have hk1 := hk x R rfl
    obtain ⟨b1, o1, c1, rfl, k1, k2, hs1⟩ := h.seenP (by simp)
    have a1 := (hs1 0 (by simp) w (Below.refl _ _)).1
    simp only [List.getElem_cons_zero, Nat.zero_mul, Nat.add_zero] at a1
    obtain ⟨n, hn⟩ : ∃ n, n = (x :: R).length := ⟨_, rfl⟩
    have hn1 : (0 : Int) < (n : Int) := by rw [hn]; simp only [List.length_cons]; omega
    have hn2 : ((n : Int) == 0) = false := by simp; omega
    rw [← hn]
    generalize x.1.key = kx at *
    have hne2 : (kx.toList == k.toList) = false := by simpa using hk1
    clear h hs1 k1 k2 hn hk hk1
    go_enter Try.func14, Try.ntmps14
    go_wp2_with fail
    refine bodyPost_ret (v := .tuple #[.slice none 0 0, .bool false, .slice (some ⟨b1, o1, none⟩) n c1]) (by simp [results, Try.results14, go_sem]) rfl ⟨rfl, Below.refl _ _⟩

set_option maxRecDepth 20000 in
set_option maxHeartbeats 2000000 in
theorem taken_yes (v : Value) (x : El) (R : List El) (w0 w : World) (h0 : EL 2 prC w0 v (x :: R)) (hb0 : Below w0.heap.size w0 w) :
    Calls Try.prog 14 #[v, .string x.1.key] w fun e w' => ∃ q c, e = .returned (.tuple #[vof x.1, .bool true, .slice q R.length c]) ∧ EL 2 prC w0 (.slice q R.length c) R ∧ Below w.heap.size w w' := by
  have h := h0.below hb0
  obtain ⟨b1, o1, c1, rfl, k1, k2, hs1⟩ := h.seenP (by simp)
  obtain ⟨n, hn⟩ : ∃ n, n = (x :: R).length := ⟨_, rfl⟩
  have hkr := h0.1
  rw [← hn] at hkr
  obtain ⟨q, c, hcut, hrow⟩ := krow_cut_l (P := Try.prog) Try.underlying22 (show (Try.prog.info? 34).map (·.size) = some 2 by kernel_rfl) hkr 1 (by rw [hn]; simp)
  have hnl : n - 1 = R.length := by rw [hn]; simp
  rw [hnl] at hcut hrow
  have hel : EL 2 prC w0 (.slice q R.length c) R := ⟨hrow, fun y hy => h0.2 y (List.mem_cons_of_mem _ hy)⟩
  have hn1 : (0 : Int) < (n : Int) := by rw [hn]; simp only [List.length_cons]; omega
  have hn2 : ((n : Int) == 0) = false := by simp; omega
  have hnN : 0 < n := by omega
  rw [← hn]
  obtain ⟨CC, hCC⟩ : ∃ CC : World → Prop, CC = fun W => Below w.heap.size w W := ⟨_, rfl⟩
  have HC0 : Hid (CC w.drew) := by unfold Hid; rw [hCC]; exact (Below.refl _ _).drew
  have HCW : Hid (∀ W, CC W → Below w.heap.size w W) := by unfold Hid; rw [hCC]; exact fun _ h => h
  have HK : Hid (∀ W, CC W → W.cell? ⟨b1, o1, none⟩ = some (.string x.1.key) ∧ W.cell? ⟨b1, o1 + 1, none⟩ = some (vof x.1)) := by
    unfold Hid; rw [hCC]; exact fun W h => ⟨by have := (hs1 0 (by simp) W h).1; simpa using this, by have := (hs1 0 (by simp) W h).2.1; simpa using this⟩
  have a1 : w.cell? ⟨b1, o1, none⟩ = some (.string x.1.key) := by have := (hs1 0 (by simp) w (Below.refl _ _)).1; simpa using this
  have HEL := hide hel
  obtain ⟨⟨kx, xp, xn, xc, xd⟩, xv⟩ := x
  unfold vof at HK ⊢
  dsimp only at HK a1 ⊢
  have hc1 : ∀ W, (Instr.slice 22 (.slice (some ⟨b1, o1, none⟩) n c1) (some (.int .i64 1)) none none).run Try.prog W = .ok (.slice q R.length c) W := hcut
  clear h h0 hb0 hs1 k1 k2 hn hkr hcut hrow hnl hel hCC
  go_enter Try.func14, Try.ntmps14
  go_wp2_with fail
  refine region_pair CC (by kernel_rfl) (by kernel_rfl) (unhide HC0) ?_
  repeat (first
    | go_big_quiet_skip
    | (go_big_quiet_want
       apply Exists.intro
       refine ⟨fun w' hw' => ?_, ?_⟩
       · obtain ⟨a1, a2⟩ := unhide HK w' hw'
         go_simp
         first | done | rfl
       simp only [Act.put, List.setIfInBounds_toArray, List.set_cons_zero, List.set_cons_succ]
       go_big_quiet_on))
  refine wpQuiet_nil ?_
  intro w1 hw1
  have HBW := hide (unhide HCW w1 hw1)
  clear hw1
  go_wp2_with fail
  go_ret3
  exact ⟨q, c, rfl, unhide HEL, unhide HBW⟩
/-- What taken answers. -/
theorem taken_any (v : Value) (L : List El) (k : ByteArray) (w0 w : World) (h0 : EL 2 prC w0 v L) (hb0 : Below w0.heap.size w0 w) :
    Calls Try.prog 14 #[v, .string k] w fun e w' => ∃ op on oc ob is v' L', e = .returned (.tuple #[.slice op on oc, .bool is, v']) ∧ EL 2 prC w0 v' L' ∧ Row w0 (.slice op on oc) ob ∧ tkn (pdat L) k = (ob, is, pdat L') ∧ (∀ y ∈ L', y ∈ L) ∧ (ob = [] ∨ ∃ y ∈ L, ob = y.2) ∧ Below w.heap.size w w' := by
  by_cases hh : ∃ x R, L = x :: R ∧ x.1.key.toList = k.toList
  · obtain ⟨x, R, rfl, hk⟩ := hh
    obtain rfl : x.1.key = k := bl_inj hk
    refine (taken_yes v x R w0 w h0 hb0).mono ?_
    rintro e w' ⟨q, c, rfl, h1, h2⟩
    exact ⟨x.1.p, x.1.n, x.1.c, x.2, true, _, R, rfl, h1, h0.2 x List.mem_cons_self, tkn_hit (x.1.key, x.2) (pdat R), fun y hy => List.mem_cons_of_mem _ hy, Or.inr ⟨x, List.mem_cons_self, rfl⟩, h2⟩
  · refine (taken_no v L k w (h0.below hb0) (fun x R e1 e2 => hh ⟨x, R, e1, e2⟩)).mono ?_
    rintro e w' ⟨rfl, h2⟩
    refine ⟨none, 0, 0, [], false, v, L, rfl, h0, Row.nil w0, ?_, fun y hy => hy, Or.inl rfl, h2⟩
    cases L with
    | nil => rfl
    | cons x R =>
      have : ¬ x.1.key.toList = k.toList := fun e => hh ⟨x, R, rfl, e⟩
      simp [pdat, tkn, kP, this]
end Go.Proofs.Ytjkkdijoogiipaa
