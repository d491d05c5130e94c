/- The statements of layer 7: calm devices; awake; a book in memory; begin. -/
import Derived.Test.YtdpoiieblbmofaaWalLaw1
namespace Go.Proofs.Ytdpoiieblbmofaa
open Go.RowKit

/-- A device that is up, and not armed. -/
def Calm (s : DK) : Prop := s.fell = false ∧ s.armed = 0
theorem calm_new : Calm (DK.new 256) := ⟨rfl, rfl⟩
theorem calm_write {s : DK} {n : Int} {t : Nat} {x : List UInt8} (h : Calm s) (hn : (s.n : Int) = n) (hfit : Fits n) (hx : x.length ≤ 496) :
    s.writeE (logN n t) (sealed 77 t x) = 0 ∧ Calm (s.write (logN n t) (sealed 77 t x)) ∧ (s.write (logN n t) (sealed 77 t x)).waits = s.waits ++ [((logN n t).toNat, sealed 77 t x)] ∧ (s.write (logN n t) (sealed 77 t x)).ticks = s.ticks + 1 ∧ (s.write (logN n t) (sealed 77 t x)).kept = s.kept := by
  have hno := log_there s n t hfit hn
  have hl := length_sealed 77 t x hx
  obtain ⟨h1, h2⟩ := h
  have hc : ¬ (s.noSuch (logN n t) = true ∨ (sealed 77 t x).length ≠ 512) := by rw [hno, hl]; simp
  have e2 : s.write (logN n t) (sealed 77 t x) = { s with waits := s.waits ++ [((logN n t).toNat, sealed 77 t x)] }.tick := by
    unfold DK.write
    rw [if_neg (by rw [h1]; decide), if_neg hc]
  refine ⟨?_, ?_⟩
  · unfold DK.writeE
    rw [if_neg (by rw [h1]; decide), if_neg hc, if_neg (by omega)]
  · rw [e2]
    exact ⟨⟨by show (s.armed == 1) = false; rw [h2]; rfl, by show s.armed - 1 = 0; rw [h2]⟩, rfl, rfl, rfl⟩
theorem lay_calm {n : Int} (hfit : Fits n) : ∀ (ls : List (List UInt8)) (s : DK) (t : Nat), Calm s → (s.n : Int) = n → (∀ x ∈ ls, x.length ≤ 496) →
    (layW n s t ls).2 = 0 ∧ Calm (layW n s t ls).1 ∧ (layW n s t ls).1.waits.length = s.waits.length + ls.length ∧ (layW n s t ls).1.ticks = s.ticks + ls.length
  | [], s, t, h, _, _ => ⟨rfl, h, rfl, rfl⟩
  | x :: l, s, t, h, hn, hl => by
    obtain ⟨a, b, c, d, _⟩ := calm_write (t := t) h hn hfit (hl x (by simp))
    unfold layW
    rw [if_neg (by rw [a]; simp)]
    obtain ⟨e, f, g, i⟩ := lay_calm hfit l _ (t + 1) b (by rw [write_n]; exact hn) (fun y hy => hl y (by simp [hy]))
    refine ⟨e, f, ?_, ?_⟩
    · rw [g, c, List.length_append, List.length_cons]; simp; omega
    · rw [i, d, List.length_cons]; omega
/-- Append, on a calm device, by a log that has not fallen. -/
theorem app_calm {n : Int} {s : DK} {L : LG} {r : List UInt8} (hfit : Fits n) (hn : (s.n : Int) = n) (hc : Calm s) (hL : L.fallen = false) :
    (appE n s L r = if 8192 < r.length then 4 else if lz n - ((L.next - L.first : Nat) : Int) < countN r.length then 3 else 0) ∧ Calm (appS n s L r) ∧ (appS n s L r).waits.length ≤ s.waits.length + 19 ∧ (appS n s L r).ticks ≤ s.ticks + 19 ∧ (appL n s L r).fallen = false ∧
      appL n s L r = (if appE n s L r = 0 then L.add L.age (countN r.length).toNat else L) ∧ (appS n s L r).n = s.n := by
  have hf : ¬ (L.fallen = true ∨ s.fell = true) := by rw [hL, hc.1]; simp
  by_cases h8 : 8192 < r.length
  · have e1 : appE n s L r = 4 := by unfold appE; rw [if_pos h8]
    have e2 : appS n s L r = s := by unfold appS; rw [if_pos h8]
    have e3 : appL n s L r = L := by unfold appL; rw [e1]; rfl
    rw [e1, e2, e3, if_pos h8]
    exact ⟨rfl, hc, by omega, by omega, hL, rfl, rfl⟩
  · by_cases hfull : lz n - ((L.next - L.first : Nat) : Int) < countN r.length
    · have e1 : appE n s L r = 3 := by unfold appE; rw [if_neg h8, if_neg hf, if_pos hfull]
      have e2 : appS n s L r = s := by unfold appS; rw [if_neg h8, if_neg hf, if_pos hfull]
      have e3 : appL n s L r = L := by unfold appL; rw [e1]; rfl
      rw [e1, e2, e3, if_neg h8, if_pos hfull]
      exact ⟨rfl, hc, by omega, by omega, hL, rfl, rfl⟩
    · obtain ⟨a, b, c, d⟩ := lay_calm hfit (cutL L.age L.next r) s L.next hc hn (cut_short _ _ _)
      have e1 : appE n s L r = 0 := by unfold appE; rw [if_neg h8, if_neg hf, if_neg hfull]; exact a
      have e2 : appS n s L r = (layW n s L.next (cutL L.age L.next r)).1 := by unfold appS; rw [if_neg h8, if_neg hf, if_neg hfull]
      have e3 : appL n s L r = L.add L.age (countN r.length).toNat := by unfold appL; rw [e1]; rfl
      have hlen := length_cutL L.age L.next r h8
      have h19 := count_le (n := (r.length : Int)) (by omega)
      rw [e1, e2, e3, if_neg h8, if_neg hfull]
      exact ⟨rfl, b, by omega, by omega, hL, rfl, lay_n _ _ _ _⟩

/-- A book by the document. -/
structure BK where
  age : Nat
  recs : List (List UInt8)
  turns : List Nat
  ages : List Nat
  first : Nat
  next : Nat
  safe : Nat
  dead : Bool
/-- The cells of a book's variable. -/
def bookC (dp lp : Value) (b : BK) (rv tv av : Value) : Array Value :=
  #[dp, .int .i64 256, .int .i64 3, .int .i64 13, .int .i64 30, .int .i64 43, .int .i64 73, .int .i64 30, .int .i64 103, .int .i64 4, lp, .int .u64 (b.age : Int), rv, tv, av, .int .u64 (b.first : Int), .int .u64 (b.next : Int), .int .i64 (b.safe : Int), .bool b.dead]
theorem lay256 : layV 256 = .agg #[.int .i64 256, .int .i64 3, .int .i64 13, .int .i64 30, .int .i64 43, .int .i64 73, .int .i64 30, .int .i64 103, .int .i64 4] := by
  unfold layV lseg lz
  rfl
theorem lz256 : lz 256 = 30 := by unfold lz; rfl

set_option maxRecDepth 20000 in
set_option maxHeartbeats 1000000 in
theorem wawake_any (w : World) : Calls Try.prog 8 #[] w fun e w' => e = .returned (.bool true) ∧ Below w.heap.size w w' := by
  have HDV := hide (device_any w)
  have HOP := hide (fun F dp w' (h : DRep F w' dp (DK.new 256)) => wopen_any F dp (DK.new 256) 256 0 0 1 w' h rfl fits256 (by omega) (by omega) (by omega) (by omega))
  rw [lay256] at HDV HOP
  go_enter Try.func8, Try.ntmps8
  go_wp2_with fail
  refine Calls.mono (unhide HDV) ?_
  rintro e w1 ⟨dp, rfl, ⟨F, hD, hF⟩, b1⟩
  obtain ⟨dg, rfl⟩ := hD.ptr
  have hal : Below w1.heap.size w1 (w1.alloc (.cells #[.int .i64 256, .int .i64 3, .int .i64 13, .int .i64 30, .int .i64 43, .int .i64 73, .int .i64 30, .int .i64 103, .int .i64 4] 33)) := (Below.refl _ _).alloc (Nat.le_refl _) _
  have hD2 := hD.stays hal.size (fun k hk => hal.block k (hD.lt k hk))
  have HO := hide (unhide HOP F _ _ hD2)
  have HD2 := hide hD2
  have HF := hide hF
  have HB2 := hide (b1.trans (hal.mono b1.size))
  clear hD hD2 hF b1 hal HDV HOP
  go_wp2_with fail
  refine Calls.mono (unhide HO) ?_
  rintro e w3 ⟨hO, b3⟩
  unfold OpenR at hO
  rw [if_neg (by decide), opened_new, if_neg (by simp)] at hO
  obtain ⟨lp, v, G, H, rfl, hr, hl, hH, hG, hHG⟩ := hO
  have hD3 := (unhide HD2).stays b3.size (fun k hk => b3.block k ((unhide HD2).lt k hk))
  have hlt2 := (unhide HD2).lt
  have hBo : Both F G w3 lp (.pointer (some dg)) 256 (DK.new 256) (lg0 0 1) := ⟨hD3, hl, fun k hk hg => by have := hlt2 k hk; have := hG k hg; omega, rfl⟩
  obtain ⟨vs, hvs⟩ := hr.owns
  obtain ⟨q5, c5, hv5⟩ : ∃ q cc, v = .slice q 0 cc := by
    rcases hvs.2 with ⟨e1, _⟩ | ⟨g6, cap6, cur6, e1, _⟩
    · exact ⟨_, _, e1⟩
    · exact ⟨_, _, e1⟩
  subst hv5
  obtain ⟨lg, hlg⟩ : ∃ lg, lp = .pointer (some lg) := by obtain ⟨g, sv, e, _⟩ := hl; exact ⟨_, e⟩
  subst hlg
  have HBO := hide hBo
  have HB3 := hide ((unhide HB2).trans (b3.mono (unhide HB2).size))
  have hcv := Lib.run_convert_bytes_const (P := Try.prog) w3 27 5 #[.int .u8 97] 1 1 Try.underlying27 Try.underlying5
  have hb4 : Below w3.heap.size w3 (w3.alloc (.cells #[.int .u8 97] 5 (1, 1 + 1))) := (Below.refl _ _).alloc (Nat.le_refl _) _
  have hrow : Row (w3.alloc (.cells #[.int .u8 97] 5 (1, 1 + 1))) (.slice (some ⟨w3.heap.size, 0, none⟩) 1 1) [97] := by
    refine ⟨_, 1, rfl, by simp, by unfold maxLen; omega, by simp, Or.inr ⟨_, 0, rfl, fun j hj => ?_⟩⟩
    have hj' : j = 0 := by simpa using hj
    subst hj'
    rw [cell_of_row _ _ _ _ _ (1, 1 + 1) (heap_alloc_new _ _)]
    rfl
  have HAP := hide (wappend_any F G _ _ 256 (DK.new 256) (lg0 0 1) _ [97] _ (hBo.below hb4) hrow (by show 0 + 32 ≤ _; omega) (by show 0 + 32 ≤ _; omega) (by show 0 + 32 < _; omega))
  obtain ⟨a1, a2, a3, a4, a5, a6, a7⟩ := app_calm (n := 256) (s := DK.new 256) (L := lg0 0 1) (r := [97]) fits256 rfl calm_new rfl
  have e1 : appE 256 (DK.new 256) (lg0 0 1) [97] = 0 := by
    rw [a1, if_neg (by decide), lz256, if_neg (by decide)]
  have e2 : (appL 256 (DK.new 256) (lg0 0 1) [97]).next = 1 := by
    rw [a6, if_pos e1]
    rfl
  rw [e1] at HAP
  have HE2 := hide e2
  have HGE : Hid (∀ k, orF F G k → w.heap.size ≤ k) := by
    intro k hk
    rcases hk with h | h
    · exact unhide HF k h
    · exact Nat.le_trans (unhide HB2).size (hG k h)
  have HB4 := hide ((unhide HB3).trans (hb4.mono (unhide HB3).size))
  clear hr hl hH hG hHG hD3 hlt2 hBo hvs b3 hb4 hrow a1 a2 a3 a4 a5 a6 a7 e1 e2 HO HBO
  go_wp2_with fail
  refine Calls.mono (unhide HAP) ?_
  rintro e w5 ⟨rfl, F5, G5, hB5, hM5⟩
  have HN := hide (wnext_any G5 _ _ 256 _ w5 hB5.log)
  rw [unhide HE2] at HN
  have HB5 := hide ((unhide HB4).trans (hM5.keep.below (unhide HB4).size (unhide HGE)))
  clear hB5 hM5 HAP
  go_wp2_with fail
  refine Calls.mono (unhide HN) ?_
  rintro e w6 ⟨rfl, b6⟩
  have HB6 := hide ((unhide HB5).trans (b6.mono (unhide HB5).size))
  clear b6 HN
  go_wp2
  go_ret
  exact ⟨rfl, unhide HB6⟩
end Go.Proofs.Ytdpoiieblbmofaa
