/- Texts of ours, one behind the other: WalLaw1, WalLaw2, WalRaw3. -/
import Derived.Test.YtpkpjmebkikgdaaG5
import Derived.Test.YtpkpjmebkikgdaaG24
import Derived.Test.YtpkpjmebkikgdaaG30
import Derived.Test.YtpkpjmebkikgdaaG32
import Derived.Test.YtpkpjmebkikgdaaG33
import Derived.Lib.SlBytesConst
/- The statements of layer 7: a device, a log on it, that the statements are awake; Spoil changes its own bytes alone. -/
namespace Go.Proofs.Ytpkpjmebkikgdaa
open Go.RowKit

theorem Keep.sset {F : Nat → Prop} {w w' : World} (h : Keep F w w') {b o : Nat} (hp : F b) (v : Value) : Keep F w (w'.setCell ⟨b, o, none⟩ v) := h.trans (keep_set w' b o v) (fun x hx => Or.inl (by rw [hx]; exact hp))
theorem Keep.salloc {F : Nat → Prop} {w w' : World} (h : Keep F w w') (ob : Obj) : Keep F w (w'.alloc ob) := h.trans (Keep.of_below (F := fun _ => False) ((Below.refl _ _).alloc (Nat.le_refl _) ob)) (fun _ hx => hx.elim)
theorem Keep.sdrew {F : Nat → Prop} {w w' : World} (h : Keep F w w') : Keep F w w'.drew := h.trans (Keep.of_below (F := fun _ => False) ((Below.refl _ _).drew)) (fun _ hx => hx.elim)

set_option maxRecDepth 20000 in
set_option maxHeartbeats 400000 in
theorem device_any (w : World) : Calls Try.prog 4 #[] w fun e w' => ∃ dp, e = .returned (.tuple #[dp, layV 256]) ∧ (∃ F, DRep F w' dp (DK.new 256) ∧ ∀ k, F k → w.heap.size ≤ k) ∧ Below w.heap.size w w' := by
  have HN := hide (fun w' => onew_ok 256 w' (by omega) (by omega))
  have HP := hide (fun w' => rplan_any 256 w')
  rw [(plan_fits fits256).1, (plan_fits fits256).2] at HP
  unfold layV at HP ⊢
  generalize lz 256 = z at *
  generalize lseg 256 = m at *
  obtain ⟨W0, hW0⟩ : ∃ W0, W0 = w.alloc (.cells #[.int .i64 0, .int .i64 0, .int .i64 0, .int .i64 0, .int .i64 0, .int .i64 0, .int .i64 0, .int .i64 0, .int .i64 0] 27) := ⟨_, rfl⟩
  have hB0 : Below w.heap.size w W0 := by rw [hW0]; exact (Below.refl _ _).alloc (Nat.le_refl _) _
  have hX0 : W0.heap[w.heap.size]? = some (.cells #[.int .i64 0, .int .i64 0, .int .i64 0, .int .i64 0, .int .i64 0, .int .i64 0, .int .i64 0, .int .i64 0, .int .i64 0] 27 (0, 0)) := by rw [hW0]; exact heap_alloc_new w _
  have HW0 := hide hW0
  have HB0 := hide hB0
  have HX0 := hide hX0
  clear hW0 hB0 hX0
  go_enter Try.func4, Try.ntmps4
  go_wp2_with fail
  rw [← unhide HW0]
  refine Calls.mono (unhide HN _) ?_
  rintro e w1 ⟨dp, rfl, ⟨F, hD, hF⟩, b1⟩
  obtain ⟨dg, rfl⟩ := hD.ptr
  have HD1 := hide hD
  have HF1 := hide hF
  have HB1 := hide ((unhide HB0).trans (b1.mono (unhide HB0).size))
  have HX1 := hide ((b1.block w.heap.size (Array.getElem?_eq_some_iff.1 (unhide HX0)).1).trans (unhide HX0))
  have HS0 : Hid (w.heap.size < W0.heap.size) := (Array.getElem?_eq_some_iff.1 (unhide HX0)).1
  clear hD hF b1 HX0
  go_wp2_with fail
  refine Calls.mono (unhide HP _) ?_
  rintro e w2 ⟨rfl, b2⟩
  have HD2 := hide ((unhide HD1).stays b2.size (fun k hk => b2.block k ((unhide HD1).lt k hk)))
  have HB2 := hide ((unhide HB1).trans (b2.mono (unhide HB1).size))
  have hX2 := (b2.block w.heap.size (Array.getElem?_eq_some_iff.1 (unhide HX1)).1).trans (unhide HX1)
  obtain ⟨c0, c1, c2, c3, c4, c5, c6, c7, c8⟩ := nine_cells hX2
  have f : ∀ j, w2.frozen? ⟨w.heap.size, j, none⟩ = false := fun j => frozen_of_block hX2
  have f0 := f 0
  have f1 := f 1
  have f2 := f 2
  have f3 := f 3
  have f4 := f 4
  have f5 := f 5
  have f6 := f 6
  have f7 := f 7
  have f8 := f 8
  have hnl : w.heap.size < w2.heap.size := World.block_lt_of_cell? w2 _ c0
  have hnw : ¬ w2.heap.size = w.heap.size := by omega
  have hnw' : ¬ w.heap.size = w2.heap.size := by omega
  clear b2 f hX2 HX1
  go_wp2_with fail
  go_region
  go_wp2_with fail
  refine bodyPost_ret (v := .tuple #[.pointer (some dg), .agg #[.int .i64 256, .int .i64 3, .int .i64 13, .int .i64 z, .int .i64 (13 + z), .int .i64 (13 + 2 * z), .int .i64 z, .int .i64 (13 + 3 * z), .int .i64 m]]) (by simp [results, Try.results4, go_sem, *]) rfl ?_
  have key : ∀ W, Keep (fun k => k = w.heap.size) w2 W → ∃ dp, Ending.returned (.tuple #[.pointer (some dg), .agg #[.int .i64 256, .int .i64 3, .int .i64 13, .int .i64 z, .int .i64 (13 + z), .int .i64 (13 + 2 * z), .int .i64 z, .int .i64 (13 + 3 * z), .int .i64 m]]) = .returned (.tuple #[dp, .agg #[.int .i64 256, .int .i64 3, .int .i64 13, .int .i64 z, .int .i64 (13 + z), .int .i64 (13 + 2 * z), .int .i64 z, .int .i64 (13 + 3 * z), .int .i64 m]]) ∧ (∃ F, DRep F W dp (DK.new 256) ∧ ∀ k, F k → w.heap.size ≤ k) ∧ Below w.heap.size w W := by
    intro W hK
    refine ⟨_, rfl, ⟨F, (unhide HD2).stays hK.size (fun k hk => hK.block k ((unhide HD2).lt k hk) (fun e => by have h1 := unhide HF1 k hk; have h2 := unhide HS0; omega)), fun k hk => Nat.le_trans (unhide HB0).size (unhide HF1 k hk)⟩, ?_⟩
    exact (unhide HB2).trans (hK.below (unhide HB2).size (fun k hk => by rw [hk]; exact Nat.le_refl _))
  exact key _ (Keep.sdrew (Keep.salloc (Keep.sset (F := fun k => k = w.heap.size) (Keep.sset (F := fun k => k = w.heap.size) (Keep.sset (F := fun k => k = w.heap.size) (Keep.sset (F := fun k => k = w.heap.size) (Keep.sset (F := fun k => k = w.heap.size) (Keep.sset (F := fun k => k = w.heap.size) (Keep.sset (F := fun k => k = w.heap.size) (Keep.sset (F := fun k => k = w.heap.size) (Keep.sset (F := fun k => k = w.heap.size) (Keep.refl _ _) rfl _) rfl _) rfl _) rfl _) rfl _) rfl _) rfl _) rfl _) rfl _) _))

theorem open_blank512 : openR blank = (0, 0, [], 0) := by
  have h1 : blank.all (· == 0) = true := by
    rw [List.all_eq_true]
    intro x hx
    rw [List.eq_of_mem_replicate hx]
    rfl
  unfold openR
  rw [if_neg (by rw [length_blank]; decide), if_pos h1]
theorem shown_new (k : Nat) : (DK.new 256).shown k = blank := rfl
theorem opened_new (p A : Nat) : opened (DK.new 256) 256 0 p A = ([], lg0 0 A, 0) := by
  have hb : ∀ t, bearsW (shW (DK.new 256) 256 t) t = (zeroF, 0) := by
    intro t
    unfold bearsW shW
    rw [shown_new, open_blank512]
    rfl
  have hf : ∀ t, frameW (shW (DK.new 256) 256) (lz 256).toNat 0 t = (zeroF, 0) := by
    intro t
    unfold frameW
    rw [hb]
    split <;> rfl
  have hp : partsW (frameW (shW (DK.new 256) 256) (lz 256).toNat 0) A (lg0 0 A).next p = ([], 0) := by
    unfold partsW
    rw [hf, if_neg (by simp), if_pos (show headBad zeroF (lg0 0 A).next p A from Or.inl (by decide))]
  unfold opened recallW
  rw [hp, if_neg (by simp), if_pos (by decide)]
end Go.Proofs.Ytpkpjmebkikgdaa

/- The statements of layer 7: calm devices; awake; a book in memory; begin. -/
namespace Go.Proofs.Ytpkpjmebkikgdaa
open Go.RowKit

/-- A device that is up, and not armed. -/
def Calm (s : DK) : Prop := s.fell = false ∧ s.armed = 0
theorem calm_new : Calm (DK.new 256) := ⟨rfl, rfl⟩
theorem calm_write {s : DK} {n : Int} {t : Nat} {x : List UInt8} (h : Calm s) (hn : (s.n : Int) = n) (hfit : Fits n) (hx : x.length ≤ 496) :
    s.writeE (logN n t) (sealed 77 t x) = 0 ∧ Calm (s.write (logN n t) (sealed 77 t x)) ∧ (s.write (logN n t) (sealed 77 t x)).waits = s.waits ++ [((logN n t).toNat, sealed 77 t x)] ∧ (s.write (logN n t) (sealed 77 t x)).ticks = s.ticks + 1 ∧ (s.write (logN n t) (sealed 77 t x)).kept = s.kept := by
  have hno := log_there s n t hfit hn
  have hl := length_sealed 77 t x hx
  obtain ⟨h1, h2⟩ := h
  have hc : ¬ (s.noSuch (logN n t) = true ∨ (sealed 77 t x).length ≠ 512) := by rw [hno, hl]; simp
  have e2 : s.write (logN n t) (sealed 77 t x) = { s with waits := s.waits ++ [((logN n t).toNat, sealed 77 t x)] }.tick := by
    unfold DK.write
    rw [if_neg (by rw [h1]; decide), if_neg hc]
  refine ⟨?_, ?_⟩
  · unfold DK.writeE
    rw [if_neg (by rw [h1]; decide), if_neg hc, if_neg (by omega)]
  · rw [e2]
    exact ⟨⟨by show (s.armed == 1) = false; rw [h2]; rfl, by show s.armed - 1 = 0; rw [h2]⟩, rfl, rfl, rfl⟩
theorem lay_calm {n : Int} (hfit : Fits n) : ∀ (ls : List (List UInt8)) (s : DK) (t : Nat), Calm s → (s.n : Int) = n → (∀ x ∈ ls, x.length ≤ 496) →
    (layW n s t ls).2 = 0 ∧ Calm (layW n s t ls).1 ∧ (layW n s t ls).1.waits.length = s.waits.length + ls.length ∧ (layW n s t ls).1.ticks = s.ticks + ls.length
  | [], s, t, h, _, _ => ⟨rfl, h, rfl, rfl⟩
  | x :: l, s, t, h, hn, hl => by
    obtain ⟨a, b, c, d, _⟩ := calm_write (t := t) h hn hfit (hl x (by simp))
    unfold layW
    rw [if_neg (by rw [a]; simp)]
    obtain ⟨e, f, g, i⟩ := lay_calm hfit l _ (t + 1) b (by rw [write_n]; exact hn) (fun y hy => hl y (by simp [hy]))
    refine ⟨e, f, ?_, ?_⟩
    · rw [g, c, List.length_append, List.length_cons]; simp; omega
    · rw [i, d, List.length_cons]; omega
/-- Append, on a calm device, by a log that has not fallen. -/
theorem app_calm {n : Int} {s : DK} {L : LG} {r : List UInt8} (hfit : Fits n) (hn : (s.n : Int) = n) (hc : Calm s) (hL : L.fallen = false) :
    (appE n s L r = if 8192 < r.length then 4 else if lz n - ((L.next - L.first : Nat) : Int) < countN r.length then 3 else 0) ∧ Calm (appS n s L r) ∧ (appS n s L r).waits.length ≤ s.waits.length + 19 ∧ (appS n s L r).ticks ≤ s.ticks + 19 ∧ (appL n s L r).fallen = false ∧
      appL n s L r = (if appE n s L r = 0 then L.add L.age (countN r.length).toNat else L) ∧ (appS n s L r).n = s.n := by
  have hf : ¬ (L.fallen = true ∨ s.fell = true) := by rw [hL, hc.1]; simp
  by_cases h8 : 8192 < r.length
  · have e1 : appE n s L r = 4 := by unfold appE; rw [if_pos h8]
    have e2 : appS n s L r = s := by unfold appS; rw [if_pos h8]
    have e3 : appL n s L r = L := by unfold appL; rw [e1]; rfl
    rw [e1, e2, e3, if_pos h8]
    exact ⟨rfl, hc, by omega, by omega, hL, rfl, rfl⟩
  · by_cases hfull : lz n - ((L.next - L.first : Nat) : Int) < countN r.length
    · have e1 : appE n s L r = 3 := by unfold appE; rw [if_neg h8, if_neg hf, if_pos hfull]
      have e2 : appS n s L r = s := by unfold appS; rw [if_neg h8, if_neg hf, if_pos hfull]
      have e3 : appL n s L r = L := by unfold appL; rw [e1]; rfl
      rw [e1, e2, e3, if_neg h8, if_pos hfull]
      exact ⟨rfl, hc, by omega, by omega, hL, rfl, rfl⟩
    · obtain ⟨a, b, c, d⟩ := lay_calm hfit (cutL L.age L.next r) s L.next hc hn (cut_short _ _ _)
      have e1 : appE n s L r = 0 := by unfold appE; rw [if_neg h8, if_neg hf, if_neg hfull]; exact a
      have e2 : appS n s L r = (layW n s L.next (cutL L.age L.next r)).1 := by unfold appS; rw [if_neg h8, if_neg hf, if_neg hfull]
      have e3 : appL n s L r = L.add L.age (countN r.length).toNat := by unfold appL; rw [e1]; rfl
      have hlen := length_cutL L.age L.next r h8
      have h19 := count_le (n := (r.length : Int)) (by omega)
      rw [e1, e2, e3, if_neg h8, if_neg hfull]
      exact ⟨rfl, b, by omega, by omega, hL, rfl, lay_n _ _ _ _⟩

/-- A book by the document. -/
structure BK where
  age : Nat
  recs : List (List UInt8)
  turns : List Nat
  ages : List Nat
  first : Nat
  next : Nat
  safe : Nat
  dead : Bool
/-- The cells of a book's variable. -/
def bookC (dp lp : Value) (b : BK) (rv tv av : Value) : Array Value :=
  #[dp, .int .i64 256, .int .i64 3, .int .i64 13, .int .i64 30, .int .i64 43, .int .i64 73, .int .i64 30, .int .i64 103, .int .i64 4, lp, .int .u64 (b.age : Int), rv, tv, av, .int .u64 (b.first : Int), .int .u64 (b.next : Int), .int .i64 (b.safe : Int), .bool b.dead]
theorem lay256 : layV 256 = .agg #[.int .i64 256, .int .i64 3, .int .i64 13, .int .i64 30, .int .i64 43, .int .i64 73, .int .i64 30, .int .i64 103, .int .i64 4] := by
  unfold layV lseg lz
  rfl
theorem lz256 : lz 256 = 30 := by unfold lz; rfl

set_option maxRecDepth 20000 in
set_option maxHeartbeats 1000000 in
theorem wawake_any (w : World) : Calls Try.prog 5 #[] w fun e w' => e = .returned (.bool true) ∧ Below w.heap.size w w' := by
  have HDV := hide (device_any w)
  have HOP := hide (fun F dp w' (h : DRep F w' dp (DK.new 256)) => wopen_any F dp (DK.new 256) 256 0 0 1 w' h rfl fits256 (by omega) (by omega) (by omega) (by omega))
  rw [lay256] at HDV HOP
  go_enter Try.func5, Try.ntmps5
  go_wp2_with fail
  refine Calls.mono (unhide HDV) ?_
  rintro e w1 ⟨dp, rfl, ⟨F, hD, hF⟩, b1⟩
  obtain ⟨dg, rfl⟩ := hD.ptr
  have hal : Below w1.heap.size w1 (w1.alloc (.cells #[.int .i64 256, .int .i64 3, .int .i64 13, .int .i64 30, .int .i64 43, .int .i64 73, .int .i64 30, .int .i64 103, .int .i64 4] 27)) := (Below.refl _ _).alloc (Nat.le_refl _) _
  have hD2 := hD.stays hal.size (fun k hk => hal.block k (hD.lt k hk))
  have HO := hide (unhide HOP F _ _ hD2)
  have HD2 := hide hD2
  have HF := hide hF
  have HB2 := hide (b1.trans (hal.mono b1.size))
  clear hD hD2 hF b1 hal HDV HOP
  go_wp2_with fail
  refine Calls.mono (unhide HO) ?_
  rintro e w3 ⟨hO, b3⟩
  unfold OpenR at hO
  rw [if_neg (by decide), opened_new, if_neg (by simp)] at hO
  obtain ⟨lp, v, G, H, rfl, hr, hl, hH, hG, hHG⟩ := hO
  have hD3 := (unhide HD2).stays b3.size (fun k hk => b3.block k ((unhide HD2).lt k hk))
  have hlt2 := (unhide HD2).lt
  have hBo : Both F G w3 lp (.pointer (some dg)) 256 (DK.new 256) (lg0 0 1) := ⟨hD3, hl, fun k hk hg => by have := hlt2 k hk; have := hG k hg; omega, rfl⟩
  obtain ⟨vs, hvs⟩ := hr.owns
  obtain ⟨q5, c5, hv5⟩ : ∃ q cc, v = .slice q 0 cc := by
    rcases hvs.2 with ⟨e1, _⟩ | ⟨g6, cap6, cur6, e1, _⟩
    · exact ⟨_, _, e1⟩
    · exact ⟨_, _, e1⟩
  subst hv5
  obtain ⟨lg, hlg⟩ : ∃ lg, lp = .pointer (some lg) := by obtain ⟨g, sv, e, _⟩ := hl; exact ⟨_, e⟩
  subst hlg
  have HBO := hide hBo
  have HB3 := hide ((unhide HB2).trans (b3.mono (unhide HB2).size))
  have hcv := Lib.run_convert_bytes_const (P := Try.prog) w3 31 5 #[.int .u8 97] 1 1 Try.underlying31 Try.underlying5
  have hb4 : Below w3.heap.size w3 (w3.alloc (.cells #[.int .u8 97] 5 (1, 1 + 1))) := (Below.refl _ _).alloc (Nat.le_refl _) _
  have hrow : Row (w3.alloc (.cells #[.int .u8 97] 5 (1, 1 + 1))) (.slice (some ⟨w3.heap.size, 0, none⟩) 1 1) [97] := by
    refine ⟨_, 1, rfl, by simp, by unfold maxLen; omega, by simp, Or.inr ⟨_, 0, rfl, fun j hj => ?_⟩⟩
    have hj' : j = 0 := by simpa using hj
    subst hj'
    rw [cell_of_row _ _ _ _ _ (1, 1 + 1) (heap_alloc_new _ _)]
    rfl
  have HAP := hide (wappend_any F G _ _ 256 (DK.new 256) (lg0 0 1) _ [97] _ (hBo.below hb4) hrow (by show 0 + 32 ≤ _; omega) (by show 0 + 32 ≤ _; omega) (by show 0 + 32 < _; omega))
  obtain ⟨a1, a2, a3, a4, a5, a6, a7⟩ := app_calm (n := 256) (s := DK.new 256) (L := lg0 0 1) (r := [97]) fits256 rfl calm_new rfl
  have e1 : appE 256 (DK.new 256) (lg0 0 1) [97] = 0 := by
    rw [a1, if_neg (by decide), lz256, if_neg (by decide)]
  have e2 : (appL 256 (DK.new 256) (lg0 0 1) [97]).next = 1 := by
    rw [a6, if_pos e1]
    rfl
  rw [e1] at HAP
  have HE2 := hide e2
  have HGE : Hid (∀ k, orF F G k → w.heap.size ≤ k) := by
    intro k hk
    rcases hk with h | h
    · exact unhide HF k h
    · exact Nat.le_trans (unhide HB2).size (hG k h)
  have HB4 := hide ((unhide HB3).trans (hb4.mono (unhide HB3).size))
  clear hr hl hH hG hHG hD3 hlt2 hBo hvs b3 hb4 hrow a1 a2 a3 a4 a5 a6 a7 e1 e2 HO HBO
  go_wp2_with fail
  refine Calls.mono (unhide HAP) ?_
  rintro e w5 ⟨rfl, F5, G5, hB5, hM5⟩
  have HN := hide (wnext_any G5 _ _ 256 _ w5 hB5.log)
  rw [unhide HE2] at HN
  have HB5 := hide ((unhide HB4).trans (hM5.keep.below (unhide HB4).size (unhide HGE)))
  clear hB5 hM5 HAP
  go_wp2_with fail
  refine Calls.mono (unhide HN) ?_
  rintro e w6 ⟨rfl, b6⟩
  have HB6 := hide ((unhide HB5).trans (b6.mono (unhide HB5).size))
  clear b6 HN
  go_wp2
  go_ret
  exact ⟨rfl, unhide HB6⟩
end Go.Proofs.Ytpkpjmebkikgdaa

/- The state of the statement WalRaw while it fills the ring and the disk. -/
namespace Go.Proofs.Ytpkpjmebkikgdaa
open Go.RowKit

def layC256 : Array Value := #[.int .i64 256, .int .i64 3, .int .i64 13, .int .i64 30, .int .i64 43, .int .i64 73, .int .i64 30, .int .i64 103, .int .i64 4]
/-- k places are gone through; G: what stands in the ring. -/
def RawI (w : World) (dp : Value) (lb x : Nat) (ls : List (List UInt8)) (k : Nat) (G : Nat → List UInt8) (wr : World) : Prop :=
  ∃ F s, DRep F wr dp s ∧ RawD ls k s ∧ ArrH F wr x 32 30 G ∧ wr.heap[lb]? = some (.cells layC256 27 (0, 0)) ∧ ¬ F lb ∧ (∀ k, F k → w.heap.size ≤ k) ∧ w.heap.size ≤ x ∧ lb ≠ x ∧ Below w.heap.size w wr
def ringK (ls : List (List UInt8)) (k : Nat) (j : Nat) : List UInt8 := if j < k then secOf ls j else []
variable {w wr w8 : World} {dp : Value} {lb x k : Nat} {ls : List (List UInt8)} {G : Nat → List UInt8}
theorem RawI.bel (h : RawI w dp lb x ls k G wr) : Below w.heap.size w wr := by obtain ⟨F, s, _, _, _, _, _, _, _, _, hb⟩ := h; exact hb
theorem RawI.below (h : RawI w dp lb x ls k G wr) (hb : Below wr.heap.size wr w8) : RawI w dp lb x ls k G w8 := by
  obtain ⟨F, s, h1, h2, h3, h4, h5, h6, h7, h8, h9⟩ := h
  exact ⟨F, s, h1.stays hb.size (fun k hk => hb.block k (h1.lt k hk)), h2, h3.below hb, (hb.block lb (Array.getElem?_eq_some_iff.1 h4).1).trans h4, h5, h6, h7, h8, h9.trans (hb.mono h9.size)⟩
theorem RawI.congr (h : RawI w dp lb x ls k G wr) {G' : Nat → List UInt8} (hG : ∀ j, j < 30 → G j = G' j) : RawI w dp lb x ls k G' wr := by
  obtain ⟨F, s, h1, h2, h3, h4, h5, h6, h7, h8, h9⟩ := h
  exact ⟨F, s, h1, h2, h3.congr hG, h4, h5, h6, h7, h8, h9⟩
/-- A slice is laid into the ring. -/
theorem raw_lay {F : Nat → Prop} {s : DK} (h1 : DRep F wr dp s) (h2 : RawD ls k s) (h3 : ArrH F wr x 32 30 G) (h4 : wr.heap[lb]? = some (.cells layC256 27 (0, 0))) (h5 : ¬ F lb) (h6 : ∀ k, F k → w.heap.size ≤ k) (h7 : w.heap.size ≤ x) (h8 : lb ≠ x) (h9 : Below w.heap.size w wr)
    (j : Nat) (hj : j < 30) (v : Value) (r : List UInt8) (hH : Held F wr x v r) : RawI w dp lb x ls k (fun i => if i = j then r else G i) (wr.setCell ⟨x, j, none⟩ v) := by
  have hx : ¬ F x := by obtain ⟨_, _, _, q, _⟩ := h3; exact q
  refine ⟨F, s, ?_, h2, h3.store j hj v r hH, ?_, h5, h6, h7, h8, ?_⟩
  · exact h1.stays (by simp) (fun k hk => Below.heap_setCell _ _ _ _ (fun e => hx (by simp only at e; subst e; exact hk)))
  · rw [Below.heap_setCell _ _ _ _ h8]; exact h4
  · exact h9.setCell (p := ⟨x, j, none⟩) h7 _
/-- Bytes of an argument. -/
theorem RawI.given (h : RawI w dp lb x ls k G wr) (j : Nat) (hj : j < 30) (v : Value) (r : List UInt8) (hv : Row w v r) : RawI w dp lb x ls k (fun i => if i = j then r else G i) (wr.setCell ⟨x, j, none⟩ v) := by
  obtain ⟨F, s, h1, h2, h3, h4, h5, h6, h7, h8, h9⟩ := h
  refine raw_lay h1 h2 h3 h4 h5 h6 h7 h8 h9 j hj v r ⟨hv.below h9, fun b off n c e h0 => ?_⟩
  have hb : b < w.heap.size := by
    refine row_block_lt hv e (fun e0 => ?_)
    obtain ⟨p', c', l', e', hl'⟩ := hv.shape
    rw [e] at e'
    simp only [Value.slice.injEq] at e'
    rw [e0] at hl'
    simp at hl'
    omega
  exact ⟨fun hf => by have := h6 b hf; omega, by omega, by have := h9.size; omega⟩
theorem zeros_row {w8 : World} {g : Nat} (m : Nat) (hml : m ≤ 100000) (hm : w8.heap[g]? = some (.cells ((List.replicate m (0 : UInt8)).map B).toArray 5 (0, 0))) : Row w8 (.slice (some ⟨g, 0, none⟩) m m) (List.replicate m 0) := by
  refine ⟨some ⟨g, 0, none⟩, m, by rw [List.length_replicate], by rw [List.length_replicate]; exact Nat.le_refl _, by unfold maxLen; omega, by simp, Or.inr ⟨g, 0, rfl, fun j hj => ?_⟩⟩
  rw [List.length_replicate] at hj
  rw [Nat.zero_add, cell_of_row w8 _ _ _ _ (0, 0) hm, List.getElem?_toArray, List.getElem?_map, List.getElem?_replicate, if_pos hj, List.getElem_replicate]
  rfl
/-- Bytes that are made. -/
theorem RawI.made (h : RawI w dp lb x ls k G wr) (j : Nat) (hj : j < 30) (hb8 : Below wr.heap.size wr w8) (hm : w8.heap[wr.heap.size]? = some (.cells ((List.replicate 512 (0 : UInt8)).map B).toArray 5 (0, 0))) : RawI w dp lb x ls k (fun i => if i = j then blank else G i) (w8.setCell ⟨x, j, none⟩ (.slice (some ⟨wr.heap.size, 0, none⟩) 512 512)) := by
  obtain ⟨F, s, h1, h2, h3, h4, h5, h6, h7, h8, h9⟩ := h
  have hlt := h1.lt
  have hx := h3.lt
  have hrow : Row w8 (.slice (some ⟨wr.heap.size, 0, none⟩) 512 512) blank := by
    exact zeros_row 512 (by omega) hm
  refine raw_lay (h1.stays hb8.size (fun k hk => hb8.block k (hlt k hk))) h2 (h3.below hb8) ((hb8.block lb (Array.getElem?_eq_some_iff.1 h4).1).trans h4) h5 h6 h7 h8 (h9.trans (hb8.mono h9.size)) j hj _ blank ⟨hrow, fun b off n c e h0 => ?_⟩
  simp only [Value.slice.injEq, Option.some.injEq, Addr.mk.injEq, and_true] at e
  obtain ⟨⟨rfl, _⟩, _⟩ := e
  exact ⟨fun hf => absurd (hlt _ hf) (Nat.lt_irrefl _), by omega, (Array.getElem?_eq_some_iff.1 hm).1⟩
theorem RawI.cells (h : RawI w dp lb x ls k G wr) : wr.cell? ⟨lb, 2, none⟩ = some (.int .i64 13) ∧ wr.cell? ⟨lb, 3, none⟩ = some (.int .i64 30) := by
  obtain ⟨F, s, h1, h2, h3, h4, h5, h6, h7, h8, h9⟩ := h
  constructor
  · rw [cell_of_row wr lb _ _ _ (0, 0) h4]; rfl
  · rw [cell_of_row wr lb _ _ _ (0, 0) h4]; rfl
theorem RawI.at (h : RawI w dp lb x ls k G wr) (j : Nat) (hj : j < 30) : ∃ v, wr.cell? ⟨x, j, none⟩ = some v ∧ wr.frozen? ⟨x, j, none⟩ = false := by
  obtain ⟨F, s, h1, h2, h3, h4, h5, h6, h7, h8, h9⟩ := h
  obtain ⟨v, a, b, _⟩ := h3.at j hj
  exact ⟨v, a, b⟩
/-- A sector is written. -/
theorem RawI.writes (h : RawI w dp lb x ls k G wr) (hk : k < 30) (hl : (ls.getD k []).length = 512) (v : Value) (hv : Row wr v (ls.getD k [])) :
    Calls Try.prog 6 #[dp, .int .i64 (13 + (k : Int)), v] wr fun e w' => e = .returned (.int .i64 0) ∧ RawI w dp lb x ls (k + 1) G w' := by
  obtain ⟨F, s, h1, h2, h3, h4, h5, h6, h7, h8, h9⟩ := h
  have q1 := h2.waits
  have q2 := h2.ticks
  refine (owrite_any F dp s (13 + (k : Int)) v _ wr h1 hv (by omega) (by omega)).mono ?_
  rintro e w' ⟨rfl, F', hD, hm⟩
  rw [h2.err hk hl]
  have hlb := (Array.getElem?_eq_some_iff.1 h4).1
  refine ⟨rfl, F', _, hD, h2.write hk hl, h3.moves hm, (hm.keep.block lb hlb h5).trans h4, fun hf => ?_, fun k hk => ?_, h7, h8, h9.trans (hm.keep.below h9.size h6)⟩
  · rcases hm.sub lb hf with h | h
    · exact h5 h
    · omega
  · rcases hm.sub k hk with h | h
    · exact h6 k h
    · have := h9.size; omega
theorem RawI.skip (h : RawI w dp lb x ls k G wr) (hl : (ls.getD k []).length ≠ 512) : RawI w dp lb x ls (k + 1) G wr := by
  obtain ⟨F, s, h1, h2, h3, h4, h5, h6, h7, h8, h9⟩ := h
  exact ⟨F, s, h1, h2.skip hl, h3, h4, h5, h6, h7, h8, h9⟩
/-- What stands in the ring when a place more is gone through. -/
theorem ring_skip (ls : List (List UInt8)) (k : Nat) (hl : (ls.getD k []).length ≠ 512) (j : Nat) : (if j = k then blank else ringK ls k j) = ringK ls (k + 1) j := by
  unfold ringK
  by_cases e : j = k
  · subst e
    rw [if_pos rfl, if_pos (by omega)]
    unfold secOf
    rw [if_neg hl]
  · rw [if_neg e]
    by_cases e2 : j < k
    · rw [if_pos e2, if_pos (by omega)]
    · rw [if_neg e2, if_neg (by omega)]
theorem ring_given (ls : List (List UInt8)) (k : Nat) (hl : (ls.getD k []).length = 512) (r : List UInt8) (j : Nat) : (if j = k then ls.getD k [] else if j = k then r else ringK ls k j) = ringK ls (k + 1) j := by
  unfold ringK
  by_cases e : j = k
  · subst e
    rw [if_pos rfl, if_pos (by omega)]
    unfold secOf
    rw [if_pos hl]
  · rw [if_neg e, if_neg e]
    by_cases e2 : j < k
    · rw [if_pos e2, if_pos (by omega)]
    · rw [if_neg e2, if_neg (by omega)]
/-- Numbers that an opening does not take. -/
theorem RawI.arg (h : RawI w dp lb x ls k G wr) {o p A : Nat} (hb : A < 1 ∨ A < p ∨ 4611686018427387904 < o) :
    Calls Try.prog 7 #[dp, .agg #[.int .i64 256, .int .i64 3, .int .i64 13, .int .i64 30, .int .i64 43, .int .i64 73, .int .i64 30, .int .i64 103, .int .i64 4], .int .u64 (o : Int), .int .u64 (p : Int), .int .u64 (A : Int)] wr fun e w' => e = .returned (.tuple #[.pointer none, .slice none 0 0, .int .i64 1]) ∧ Below wr.heap.size wr w' := by
  obtain ⟨F, s, h1, h2, h3, h4, h5, h6, h7, h8, h9⟩ := h
  have hn : (s.n : Int) = 256 := by rw [h2.n]; rfl
  have key : Calls Try.prog 7 #[dp, layV 256, .int .u64 (o : Int), .int .u64 (p : Int), .int .u64 (A : Int)] wr fun e w' => e = .returned (.tuple #[.pointer none, .slice none 0 0, .int .i64 1]) ∧ Below wr.heap.size wr w' := by
    by_cases e1 : A < 1
    · exact wopen_age F dp s 256 o p A wr h1 hn fits256 e1
    · by_cases e2 : A < p
      · exact wopen_least F dp s 256 o p A wr h1 hn fits256 (by omega) e2
      · exact wopen_from F dp s 256 o p A wr h1 hn fits256 (by omega) (by omega) (by omega)
  rw [lay256] at key
  exact key
/-- What an opening reads, as the statement sees the sectors. -/
def resR (ls : List (List UInt8)) (o p A : Nat) : List (List UInt8) × LG × Int := recallW (frameW (fun t => secOf ls (t % 30)) 30 o) A 31 p [] (lg0 o A)
def RawO (Res : List (List UInt8) × LG × Int) (wr : World) (dp : Value) (e : Ending) (w' : World) : Prop :=
  ∃ lv rv, e = .returned (.tuple #[lv, rv, .int .i64 Res.2.2]) ∧ Below wr.heap.size wr w' ∧ ((Res.2.2 ≠ 0 ∧ lv = .pointer none ∧ rv = .slice none 0 0) ∨ (Res.2.2 = 0 ∧ ∃ lg q c G H, lv = .pointer (some lg) ∧ rv = .slice q Res.1.length c ∧ RecsAt H w' rv Res.1 ∧ LRep G w' lv dp 256 Res.2.1))
theorem RawI.opens (h : RawI w dp lb x ls 30 G wr) {o p A : Nat} (hA1 : 1 ≤ A) (hA : A < 18446744073709551616) (hp : p ≤ A) (ho : o ≤ 4611686018427387904) :
    Calls Try.prog 7 #[dp, .agg #[.int .i64 256, .int .i64 3, .int .i64 13, .int .i64 30, .int .i64 43, .int .i64 73, .int .i64 30, .int .i64 103, .int .i64 4], .int .u64 (o : Int), .int .u64 (p : Int), .int .u64 (A : Int)] wr fun e w' => RawO (resR ls o p A) wr dp e w' := by
  obtain ⟨F, s, h1, h2, h3, h4, h5, h6, h7, h8, h9⟩ := h
  have hn : (s.n : Int) = 256 := by rw [h2.n]; rfl
  have hop : opened s 256 o p A = resR ls o p A := by
    unfold opened resR
    rw [h2.frames o, lzN256]
  have key := wopen_any F dp s 256 o p A wr h1 hn fits256 hA1 hA hp ho
  rw [lay256] at key
  refine key.mono ?_
  rintro e w' ⟨hO, hb⟩
  unfold OpenR at hO
  rw [if_neg (by rw [h2.up]; decide), hop] at hO
  by_cases he : (resR ls o p A).2.2 ≠ 0
  · rw [if_pos he] at hO
    exact ⟨_, _, hO, hb, Or.inl ⟨he, rfl, rfl⟩⟩
  · rw [if_neg he] at hO
    obtain ⟨lp, v, G', H, rfl, hr, hlog, _⟩ := hO
    have h0 : (resR ls o p A).2.2 = 0 := Decidable.byContradiction he
    obtain ⟨q5, c5, hv5, _⟩ := hr.rows.shape
    have hlog2 := hlog
    obtain ⟨lg, sv, hlg, _⟩ := hlog2
    exact ⟨lp, v, by rw [h0], hb, Or.inr ⟨h0, ⟨lg, 0, none⟩, q5, c5, G', H, hlg, hv5, hr, hlog⟩⟩
theorem rawl_start (ls : List (List UInt8)) (o p A : Nat) : RawL (frameW (fun t => secOf ls (t % 30)) 30 o) A o (resR ls o p A) p o [] :=
  ⟨31, lg0 o A, rfl, rfl, rfl, Nat.le_refl _, by omega, by omega⟩
/-- The ring, as it is handed on. -/
theorem RawI.ring (h : RawI w dp lb x ls 30 (ringK ls 30) wr) : ∃ cur : Array Value, cur.size = 30 ∧ ∀ w', Below wr.heap.size wr w' → w'.heap[x]? = some (.cells cur 32 (0, 0)) ∧ w'.cell? ⟨lb, 3, none⟩ = some (.int .i64 30) ∧ ∀ i, i < 30 → ∃ v, cur[i]? = some v ∧ Row w' v (secOf ls i) ∧ (secOf ls i).length ≤ 512 := by
  have hc := h.cells.2
  obtain ⟨F, s, h1, h2, h3, h4, h5, h6, h7, h8, h9⟩ := h
  obtain ⟨cur, a1, a2, a3, a4⟩ := h3
  refine ⟨cur, a2, fun w' hb => ⟨(hb.block x (Array.getElem?_eq_some_iff.1 a1).1).trans a1, (hb.cell (World.block_lt_of_cell? wr _ hc)).trans hc, fun i hi => ?_⟩⟩
  obtain ⟨v, e, hv⟩ := a4 i hi
  refine ⟨v, e, ?_, secOf_len ls i⟩
  have := hv.1.below hb
  unfold ringK at this
  rw [if_pos hi] at this
  exact this
end Go.Proofs.Ytpkpjmebkikgdaa
