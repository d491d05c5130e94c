/- Texts of ours, one behind the other: WalLaw1, WalLaw2, WalLaw3, WalTail, WalLaw4, WalLaw5, WalLaw6. -/
import Derived.Test.YtpkpjmebkikgdaaGreatG6
import Derived.Test.YtpkpjmebkikgdaaGreatG12
import Derived.Test.YtpkpjmebkikgdaaGreatG26
import Derived.Test.YtpkpjmebkikgdaaGreatG27
import Derived.Test.YtpkpjmebkikgdaaGreatG29
import Derived.Test.YtpkpjmebkikgdaaGreatG30
import Derived.Lib.SlBytesConst
import Derived.Deep.MidRow
import Derived.ArgAppend
import Derived.Deep.RegionLaw
/- The statements of layer 7: a device, a log on it, that the statements are awake; Spoil changes its own bytes alone. -/
namespace Go.Proofs.YtpkpjmebkikgdaaGreat
open Go.RowKit

theorem Keep.sset {F : Nat → Prop} {w w' : World} (h : Keep F w w') {b o : Nat} (hp : F b) (v : Value) : Keep F w (w'.setCell ⟨b, o, none⟩ v) := h.trans (keep_set w' b o v) (fun x hx => Or.inl (by rw [hx]; exact hp))
theorem Keep.salloc {F : Nat → Prop} {w w' : World} (h : Keep F w w') (ob : Obj) : Keep F w (w'.alloc ob) := h.trans (Keep.of_below (F := fun _ => False) ((Below.refl _ _).alloc (Nat.le_refl _) ob)) (fun _ hx => hx.elim)
theorem Keep.sdrew {F : Nat → Prop} {w w' : World} (h : Keep F w w') : Keep F w w'.drew := h.trans (Keep.of_below (F := fun _ => False) ((Below.refl _ _).drew)) (fun _ hx => hx.elim)

theorem spoil_own (g : Nat) (bs : List UInt8) (f : UInt8) (w : World) (ho : Owned w g bs f) (hroom : bs.length ≤ 140737488351232) :
    Calls Tryz.prog 50 #[.slice (some ⟨g, 0, none⟩) bs.length (bs.length + 3)] w fun e w' => e = .returned (.tuple #[]) ∧ Keep (fun k => k = g) w w' := by
  obtain ⟨cur, hcur⟩ : ∃ cur, cur = ((bs ++ List.replicate 3 f).map B).toArray := ⟨_, rfl⟩
  have hh : w.heap[g]? = some (.cells cur 5 (0, 0)) := by rw [hcur]; exact ho
  have hint : ∀ j, j < bs.length → ∃ z : Int, cur[j]? = some (.int .u8 z) := fun j hj => by
    have h := ho.cell j hj
    rw [cell_of_row w g j cur _ (0, 0) hh] at h
    exact ⟨(bs[j].toNat : Int), h⟩
  clear ho hcur
  go_enter Tryz.func50, Tryz.ntmps50
  go_wp2
  go_loopw [2] (fun i wr => ∃ (k : Nat) (cur : Array Value), k ≤ bs.length ∧ i = .int .i64 k ∧ wr.heap[g]? = some (.cells cur 5 (0, 0)) ∧ Hid (∀ j, j < bs.length → ∃ z : Int, cur[j]? = some (.int .u8 z)) ∧ Hid (Keep (fun k => k = g) w wr))
    (fun i _ => bs.length - (intOf i).toNat)
  case atStart => exact ⟨0, cur, Nat.zero_le _, rfl, hh, hint, Keep.refl _ _⟩
  case round =>
    obtain ⟨k, cur, hk, rfl, hblk, hint, hbel⟩ := hrel
    by_cases hlt : k < bs.length
    · obtain ⟨z, hz⟩ := hint.out k hlt
      have hc : wr.cell? ⟨g, k, none⟩ = some (.int .u8 z) := by rw [cell_of_row wr g k cur _ (0, 0) hblk]; exact hz
      have hf : wr.frozen? ⟨g, k, none⟩ = false := frozen_of_block hblk
      have hsz : k < cur.size := (Array.getElem?_eq_some_iff.1 hz).1
      clear hz
      go_wp2
      go_roundw
      case rel =>
        refine ⟨k + 1, cur.setIfInBounds k _, by omega, by go_num, heap_setCell_same wr g k cur _ _ hblk, ?_, (unhide hbel).trans (keep_set wr g k _) (fun _ h => Or.inl h)⟩
        intro j hj
        by_cases hjk : k = j
        · subst hjk
          exact ⟨_, by rw [Array.getElem?_setIfInBounds_self_of_lt hsz]⟩
        · rw [Array.getElem?_setIfInBounds_ne (by omega)]
          exact hint.out j hj
      case measure => simp [intOf]; omega
    · have hkn : k = bs.length := by omega
      subst hkn
      go_wp2
      go_end0
      exact ⟨rfl, unhide hbel⟩

set_option maxRecDepth 20000 in
set_option maxHeartbeats 400000 in
theorem device_any (w : World) : Calls Tryz.prog 18 #[] w fun e w' => ∃ dp, e = .returned (.tuple #[dp, layV 256]) ∧ (∃ F, DRep F w' dp (DK.new 256) ∧ ∀ k, F k → w.heap.size ≤ k) ∧ Below w.heap.size w w' := by
  have HN := hide (fun w' => onew_ok 256 w' (by omega) (by omega))
  have HP := hide (fun w' => rplan_any 256 w')
  rw [(plan_fits fits256).1, (plan_fits fits256).2] at HP
  unfold layV at HP ⊢
  generalize lz 256 = z at *
  generalize lseg 256 = m at *
  obtain ⟨W0, hW0⟩ : ∃ W0, W0 = w.alloc (.cells #[.int .i64 0, .int .i64 0, .int .i64 0, .int .i64 0, .int .i64 0, .int .i64 0, .int .i64 0, .int .i64 0, .int .i64 0] 34) := ⟨_, rfl⟩
  have hB0 : Below w.heap.size w W0 := by rw [hW0]; exact (Below.refl _ _).alloc (Nat.le_refl _) _
  have hX0 : W0.heap[w.heap.size]? = some (.cells #[.int .i64 0, .int .i64 0, .int .i64 0, .int .i64 0, .int .i64 0, .int .i64 0, .int .i64 0, .int .i64 0, .int .i64 0] 34 (0, 0)) := by rw [hW0]; exact heap_alloc_new w _
  have HW0 := hide hW0
  have HB0 := hide hB0
  have HX0 := hide hX0
  clear hW0 hB0 hX0
  go_enter Tryz.func18, Tryz.ntmps18
  go_wp2_with fail
  rw [← unhide HW0]
  refine Calls.mono (unhide HN _) ?_
  rintro e w1 ⟨dp, rfl, ⟨F, hD, hF⟩, b1⟩
  obtain ⟨dg, rfl⟩ := hD.ptr
  have HD1 := hide hD
  have HF1 := hide hF
  have HB1 := hide ((unhide HB0).trans (b1.mono (unhide HB0).size))
  have HX1 := hide ((b1.block w.heap.size (Array.getElem?_eq_some_iff.1 (unhide HX0)).1).trans (unhide HX0))
  have HS0 : Hid (w.heap.size < W0.heap.size) := (Array.getElem?_eq_some_iff.1 (unhide HX0)).1
  clear hD hF b1 HX0
  go_wp2_with fail
  refine Calls.mono (unhide HP _) ?_
  rintro e w2 ⟨rfl, b2⟩
  have HD2 := hide ((unhide HD1).stays b2.size (fun k hk => b2.block k ((unhide HD1).lt k hk)))
  have HB2 := hide ((unhide HB1).trans (b2.mono (unhide HB1).size))
  have hX2 := (b2.block w.heap.size (Array.getElem?_eq_some_iff.1 (unhide HX1)).1).trans (unhide HX1)
  obtain ⟨c0, c1, c2, c3, c4, c5, c6, c7, c8⟩ := nine_cells hX2
  have f : ∀ j, w2.frozen? ⟨w.heap.size, j, none⟩ = false := fun j => frozen_of_block hX2
  have f0 := f 0
  have f1 := f 1
  have f2 := f 2
  have f3 := f 3
  have f4 := f 4
  have f5 := f 5
  have f6 := f 6
  have f7 := f 7
  have f8 := f 8
  have hnl : w.heap.size < w2.heap.size := World.block_lt_of_cell? w2 _ c0
  have hnw : ¬ w2.heap.size = w.heap.size := by omega
  have hnw' : ¬ w.heap.size = w2.heap.size := by omega
  clear b2 f hX2 HX1
  go_wp2_with fail
  go_region
  go_wp2_with fail
  refine bodyPost_ret (v := .tuple #[.pointer (some dg), .agg #[.int .i64 256, .int .i64 3, .int .i64 13, .int .i64 z, .int .i64 (13 + z), .int .i64 (13 + 2 * z), .int .i64 z, .int .i64 (13 + 3 * z), .int .i64 m]]) (by simp [results, Tryz.results18, go_sem, *]) rfl ?_
  have key : ∀ W, Keep (fun k => k = w.heap.size) w2 W → ∃ dp, Ending.returned (.tuple #[.pointer (some dg), .agg #[.int .i64 256, .int .i64 3, .int .i64 13, .int .i64 z, .int .i64 (13 + z), .int .i64 (13 + 2 * z), .int .i64 z, .int .i64 (13 + 3 * z), .int .i64 m]]) = .returned (.tuple #[dp, .agg #[.int .i64 256, .int .i64 3, .int .i64 13, .int .i64 z, .int .i64 (13 + z), .int .i64 (13 + 2 * z), .int .i64 z, .int .i64 (13 + 3 * z), .int .i64 m]]) ∧ (∃ F, DRep F W dp (DK.new 256) ∧ ∀ k, F k → w.heap.size ≤ k) ∧ Below w.heap.size w W := by
    intro W hK
    refine ⟨_, rfl, ⟨F, (unhide HD2).stays hK.size (fun k hk => hK.block k ((unhide HD2).lt k hk) (fun e => by have h1 := unhide HF1 k hk; have h2 := unhide HS0; omega)), fun k hk => Nat.le_trans (unhide HB0).size (unhide HF1 k hk)⟩, ?_⟩
    exact (unhide HB2).trans (hK.below (unhide HB2).size (fun k hk => by rw [hk]; exact Nat.le_refl _))
  exact key _ (Keep.sdrew (Keep.salloc (Keep.sset (F := fun k => k = w.heap.size) (Keep.sset (F := fun k => k = w.heap.size) (Keep.sset (F := fun k => k = w.heap.size) (Keep.sset (F := fun k => k = w.heap.size) (Keep.sset (F := fun k => k = w.heap.size) (Keep.sset (F := fun k => k = w.heap.size) (Keep.sset (F := fun k => k = w.heap.size) (Keep.sset (F := fun k => k = w.heap.size) (Keep.sset (F := fun k => k = w.heap.size) (Keep.refl _ _) rfl _) rfl _) rfl _) rfl _) rfl _) rfl _) rfl _) rfl _) rfl _) _))

theorem open_blank512 : openR blank = (0, 0, [], 0) := by
  have h1 : blank.all (· == 0) = true := by
    rw [List.all_eq_true]
    intro x hx
    rw [List.eq_of_mem_replicate hx]
    rfl
  unfold openR
  rw [if_neg (by rw [length_blank]; decide), if_pos h1]
theorem shown_new (k : Nat) : (DK.new 256).shown k = blank := rfl
theorem opened_new (p A : Nat) : opened (DK.new 256) 256 0 p A = ([], lg0 0 A, 0) := by
  have hb : ∀ t, bearsW (shW (DK.new 256) 256 t) t = (zeroF, 0) := by
    intro t
    unfold bearsW shW
    rw [shown_new, open_blank512]
    rfl
  have hf : ∀ t, frameW (shW (DK.new 256) 256) (lz 256).toNat 0 t = (zeroF, 0) := by
    intro t
    unfold frameW
    rw [hb]
    split <;> rfl
  have hp : partsW (frameW (shW (DK.new 256) 256) (lz 256).toNat 0) A (lg0 0 A).next p = ([], 0) := by
    unfold partsW
    rw [hf, if_neg (by simp), if_pos (show headBad zeroF (lg0 0 A).next p A from Or.inl (by decide))]
  unfold opened recallW
  rw [hp, if_neg (by simp), if_pos (by decide)]
end Go.Proofs.YtpkpjmebkikgdaaGreat

/- The statements of layer 7: calm devices; awake; a book in memory; begin. -/
namespace Go.Proofs.YtpkpjmebkikgdaaGreat
open Go.RowKit

/-- A device that is up, and not armed. -/
def Calm (s : DK) : Prop := s.fell = false ∧ s.armed = 0
theorem calm_new : Calm (DK.new 256) := ⟨rfl, rfl⟩
theorem calm_write {s : DK} {n : Int} {t : Nat} {x : List UInt8} (h : Calm s) (hn : (s.n : Int) = n) (hfit : Fits n) (hx : x.length ≤ 496) :
    s.writeE (logN n t) (sealed 77 t x) = 0 ∧ Calm (s.write (logN n t) (sealed 77 t x)) ∧ (s.write (logN n t) (sealed 77 t x)).waits = s.waits ++ [((logN n t).toNat, sealed 77 t x)] ∧ (s.write (logN n t) (sealed 77 t x)).ticks = s.ticks + 1 ∧ (s.write (logN n t) (sealed 77 t x)).kept = s.kept := by
  have hno := log_there s n t hfit hn
  have hl := length_sealed 77 t x hx
  obtain ⟨h1, h2⟩ := h
  have hc : ¬ (s.noSuch (logN n t) = true ∨ (sealed 77 t x).length ≠ 512) := by rw [hno, hl]; simp
  have e2 : s.write (logN n t) (sealed 77 t x) = { s with waits := s.waits ++ [((logN n t).toNat, sealed 77 t x)] }.tick := by
    unfold DK.write
    rw [if_neg (by rw [h1]; decide), if_neg hc]
  refine ⟨?_, ?_⟩
  · unfold DK.writeE
    rw [if_neg (by rw [h1]; decide), if_neg hc, if_neg (by omega)]
  · rw [e2]
    exact ⟨⟨by show (s.armed == 1) = false; rw [h2]; rfl, by show s.armed - 1 = 0; rw [h2]⟩, rfl, rfl, rfl⟩
theorem lay_calm {n : Int} (hfit : Fits n) : ∀ (ls : List (List UInt8)) (s : DK) (t : Nat), Calm s → (s.n : Int) = n → (∀ x ∈ ls, x.length ≤ 496) →
    (layW n s t ls).2 = 0 ∧ Calm (layW n s t ls).1 ∧ (layW n s t ls).1.waits.length = s.waits.length + ls.length ∧ (layW n s t ls).1.ticks = s.ticks + ls.length
  | [], s, t, h, _, _ => ⟨rfl, h, rfl, rfl⟩
  | x :: l, s, t, h, hn, hl => by
    obtain ⟨a, b, c, d, _⟩ := calm_write (t := t) h hn hfit (hl x (by simp))
    unfold layW
    rw [if_neg (by rw [a]; simp)]
    obtain ⟨e, f, g, i⟩ := lay_calm hfit l _ (t + 1) b (by rw [write_n]; exact hn) (fun y hy => hl y (by simp [hy]))
    refine ⟨e, f, ?_, ?_⟩
    · rw [g, c, List.length_append, List.length_cons]; simp; omega
    · rw [i, d, List.length_cons]; omega
/-- Append, on a calm device, by a log that has not fallen. -/
theorem app_calm {n : Int} {s : DK} {L : LG} {r : List UInt8} (hfit : Fits n) (hn : (s.n : Int) = n) (hc : Calm s) (hL : L.fallen = false) :
    (appE n s L r = if 8192 < r.length then 4 else if lz n - ((L.next - L.first : Nat) : Int) < countN r.length then 3 else 0) ∧ Calm (appS n s L r) ∧ (appS n s L r).waits.length ≤ s.waits.length + 19 ∧ (appS n s L r).ticks ≤ s.ticks + 19 ∧ (appL n s L r).fallen = false ∧
      appL n s L r = (if appE n s L r = 0 then L.add L.age (countN r.length).toNat else L) ∧ (appS n s L r).n = s.n := by
  have hf : ¬ (L.fallen = true ∨ s.fell = true) := by rw [hL, hc.1]; simp
  by_cases h8 : 8192 < r.length
  · have e1 : appE n s L r = 4 := by unfold appE; rw [if_pos h8]
    have e2 : appS n s L r = s := by unfold appS; rw [if_pos h8]
    have e3 : appL n s L r = L := by unfold appL; rw [e1]; rfl
    rw [e1, e2, e3, if_pos h8]
    exact ⟨rfl, hc, by omega, by omega, hL, rfl, rfl⟩
  · by_cases hfull : lz n - ((L.next - L.first : Nat) : Int) < countN r.length
    · have e1 : appE n s L r = 3 := by unfold appE; rw [if_neg h8, if_neg hf, if_pos hfull]
      have e2 : appS n s L r = s := by unfold appS; rw [if_neg h8, if_neg hf, if_pos hfull]
      have e3 : appL n s L r = L := by unfold appL; rw [e1]; rfl
      rw [e1, e2, e3, if_neg h8, if_pos hfull]
      exact ⟨rfl, hc, by omega, by omega, hL, rfl, rfl⟩
    · obtain ⟨a, b, c, d⟩ := lay_calm hfit (cutL L.age L.next r) s L.next hc hn (cut_short _ _ _)
      have e1 : appE n s L r = 0 := by unfold appE; rw [if_neg h8, if_neg hf, if_neg hfull]; exact a
      have e2 : appS n s L r = (layW n s L.next (cutL L.age L.next r)).1 := by unfold appS; rw [if_neg h8, if_neg hf, if_neg hfull]
      have e3 : appL n s L r = L.add L.age (countN r.length).toNat := by unfold appL; rw [e1]; rfl
      have hlen := length_cutL L.age L.next r h8
      have h19 := count_le (n := (r.length : Int)) (by omega)
      rw [e1, e2, e3, if_neg h8, if_neg hfull]
      exact ⟨rfl, b, by omega, by omega, hL, rfl, lay_n _ _ _ _⟩

/-- A book by the document. -/
structure BK where
  age : Nat
  recs : List (List UInt8)
  turns : List Nat
  ages : List Nat
  first : Nat
  next : Nat
  safe : Nat
  dead : Bool
/-- The cells of a book's variable. -/
def bookC (dp lp : Value) (b : BK) (rv tv av : Value) : Array Value :=
  #[dp, .int .i64 256, .int .i64 3, .int .i64 13, .int .i64 30, .int .i64 43, .int .i64 73, .int .i64 30, .int .i64 103, .int .i64 4, lp, .int .u64 (b.age : Int), rv, tv, av, .int .u64 (b.first : Int), .int .u64 (b.next : Int), .int .i64 (b.safe : Int), .bool b.dead]
theorem lay256 : layV 256 = .agg #[.int .i64 256, .int .i64 3, .int .i64 13, .int .i64 30, .int .i64 43, .int .i64 73, .int .i64 30, .int .i64 103, .int .i64 4] := by
  unfold layV lseg lz
  rfl
theorem lz256 : lz 256 = 30 := by unfold lz; rfl

set_option maxRecDepth 20000 in
set_option maxHeartbeats 1000000 in
theorem wawake_any (w : World) : Calls Tryz.prog 6 #[] w fun e w' => e = .returned (.bool true) ∧ Below w.heap.size w w' := by
  have HDV := hide (device_any w)
  have HOP := hide (fun F dp w' (h : DRep F w' dp (DK.new 256)) => wopen_any F dp (DK.new 256) 256 0 0 1 w' h rfl fits256 (by omega) (by omega) (by omega) (by omega))
  rw [lay256] at HDV HOP
  go_enter Tryz.func6, Tryz.ntmps6
  go_wp2_with fail
  refine Calls.mono (unhide HDV) ?_
  rintro e w1 ⟨dp, rfl, ⟨F, hD, hF⟩, b1⟩
  obtain ⟨dg, rfl⟩ := hD.ptr
  have hal : Below w1.heap.size w1 (w1.alloc (.cells #[.int .i64 256, .int .i64 3, .int .i64 13, .int .i64 30, .int .i64 43, .int .i64 73, .int .i64 30, .int .i64 103, .int .i64 4] 34)) := (Below.refl _ _).alloc (Nat.le_refl _) _
  have hD2 := hD.stays hal.size (fun k hk => hal.block k (hD.lt k hk))
  have HO := hide (unhide HOP F _ _ hD2)
  have HD2 := hide hD2
  have HF := hide hF
  have HB2 := hide (b1.trans (hal.mono b1.size))
  clear hD hD2 hF b1 hal HDV HOP
  go_wp2_with fail
  refine Calls.mono (unhide HO) ?_
  rintro e w3 ⟨hO, b3⟩
  unfold OpenR at hO
  rw [if_neg (by decide), opened_new, if_neg (by simp)] at hO
  obtain ⟨lp, v, G, H, rfl, hr, hl, hH, hG, hHG⟩ := hO
  have hD3 := (unhide HD2).stays b3.size (fun k hk => b3.block k ((unhide HD2).lt k hk))
  have hlt2 := (unhide HD2).lt
  have hBo : Both F G w3 lp (.pointer (some dg)) 256 (DK.new 256) (lg0 0 1) := ⟨hD3, hl, fun k hk hg => by have := hlt2 k hk; have := hG k hg; omega, rfl⟩
  obtain ⟨vs, hvs⟩ := hr.owns
  obtain ⟨q5, c5, hv5⟩ : ∃ q cc, v = .slice q 0 cc := by
    rcases hvs.2 with ⟨e1, _⟩ | ⟨g6, cap6, cur6, e1, _⟩
    · exact ⟨_, _, e1⟩
    · exact ⟨_, _, e1⟩
  subst hv5
  obtain ⟨lg, hlg⟩ : ∃ lg, lp = .pointer (some lg) := by obtain ⟨g, sv, e, _⟩ := hl; exact ⟨_, e⟩
  subst hlg
  have HBO := hide hBo
  have HB3 := hide ((unhide HB2).trans (b3.mono (unhide HB2).size))
  have hcv := Lib.run_convert_bytes_const (P := Tryz.prog) w3 27 5 #[.int .u8 97] 1 1 Tryz.underlying27 Tryz.underlying5
  have hb4 : Below w3.heap.size w3 (w3.alloc (.cells #[.int .u8 97] 5 (1, 1 + 1))) := (Below.refl _ _).alloc (Nat.le_refl _) _
  have hrow : Row (w3.alloc (.cells #[.int .u8 97] 5 (1, 1 + 1))) (.slice (some ⟨w3.heap.size, 0, none⟩) 1 1) [97] := by
    refine ⟨_, 1, rfl, by simp, by unfold maxLen; omega, by simp, Or.inr ⟨_, 0, rfl, fun j hj => ?_⟩⟩
    have hj' : j = 0 := by simpa using hj
    subst hj'
    rw [cell_of_row _ _ _ _ _ (1, 1 + 1) (heap_alloc_new _ _)]
    rfl
  have HAP := hide (wappend_any F G _ _ 256 (DK.new 256) (lg0 0 1) _ [97] _ (hBo.below hb4) hrow (by show 0 + 32 ≤ _; omega) (by show 0 + 32 ≤ _; omega) (by show 0 + 32 < _; omega))
  obtain ⟨a1, a2, a3, a4, a5, a6, a7⟩ := app_calm (n := 256) (s := DK.new 256) (L := lg0 0 1) (r := [97]) fits256 rfl calm_new rfl
  have e1 : appE 256 (DK.new 256) (lg0 0 1) [97] = 0 := by
    rw [a1, if_neg (by decide), lz256, if_neg (by decide)]
  have e2 : (appL 256 (DK.new 256) (lg0 0 1) [97]).next = 1 := by
    rw [a6, if_pos e1]
    rfl
  rw [e1] at HAP
  have HE2 := hide e2
  have HGE : Hid (∀ k, orF F G k → w.heap.size ≤ k) := by
    intro k hk
    rcases hk with h | h
    · exact unhide HF k h
    · exact Nat.le_trans (unhide HB2).size (hG k h)
  have HB4 := hide ((unhide HB3).trans (hb4.mono (unhide HB3).size))
  clear hr hl hH hG hHG hD3 hlt2 hBo hvs b3 hb4 hrow a1 a2 a3 a4 a5 a6 a7 e1 e2 HO HBO
  go_wp2_with fail
  refine Calls.mono (unhide HAP) ?_
  rintro e w5 ⟨rfl, F5, G5, hB5, hM5⟩
  have HN := hide (wnext_any G5 _ _ 256 _ w5 hB5.log)
  rw [unhide HE2] at HN
  have HB5 := hide ((unhide HB4).trans (hM5.keep.below (unhide HB4).size (unhide HGE)))
  clear hB5 hM5 HAP
  go_wp2_with fail
  refine Calls.mono (unhide HN) ?_
  rintro e w6 ⟨rfl, b6⟩
  have HB6 := hide ((unhide HB5).trans (b6.mono (unhide HB5).size))
  clear b6 HN
  go_wp2
  go_ret
  exact ⟨rfl, unhide HB6⟩
end Go.Proofs.YtpkpjmebkikgdaaGreat

/- The statements of layer 7: a book in memory; what it has and the log has agree. -/
namespace Go.Proofs.YtpkpjmebkikgdaaGreat
open Go.RowKit

/-- A row of one-cell things somewhere in a block, behind which there may be room; its block is in K. -/
def TRow (K : Nat → Prop) (w : World) (e : TypeId) (v : Value) (xs : List Value) : Prop :=
  (∀ k, v.ownBlock = some k → K k) ∧ ((v = .slice none 0 0 ∧ xs = []) ∨ ∃ k off cap cur, v = .slice (some ⟨k, off, none⟩) xs.length cap ∧ w.heap[k]? = some (.cells cur e (0, 0)) ∧ xs.length ≤ cap ∧ cap ≤ maxLen ∧ off + cap ≤ cur.size ∧ w.rangeAt k off xs)
theorem TRow.nil (K : Nat → Prop) (w : World) (e : TypeId) : TRow K w e (.slice none 0 0) [] := ⟨(fun k hk => by cases hk), Or.inl ⟨rfl, rfl⟩⟩
theorem TRow.stays {K : Nat → Prop} {w w' : World} {e : TypeId} {v : Value} {xs : List Value} (h : TRow K w e v xs) (hk : ∀ k, v.ownBlock = some k → w'.heap[k]? = w.heap[k]?) : TRow K w' e v xs := by
  refine ⟨h.1, ?_⟩
  rcases h.2 with h2 | ⟨k, off, cap, cur, rfl, h3, h4, h5, h6, h7⟩
  · exact Or.inl h2
  · exact Or.inr ⟨k, off, cap, cur, rfl, (hk k rfl).trans h3, h4, h5, h6, range_stays h7 (hk k rfl)⟩
theorem TRow.shape {K : Nat → Prop} {w : World} {e : TypeId} {v : Value} {xs : List Value} (h : TRow K w e v xs) : ∃ q c, v = .slice q xs.length c ∧ xs.length ≤ c ∧ c ≤ maxLen := by
  rcases h.2 with ⟨h1, h2⟩ | ⟨k, off, cap, cur, h1, h3, h4, h5, h6, h7⟩
  · exact ⟨none, 0, by rw [h1, h2]; rfl, by rw [h2]; exact Nat.le_refl _, by unfold maxLen; omega⟩
  · exact ⟨_, cap, h1, h4, h5⟩
theorem TRow.kind {K : Nat → Prop} {w : World} {e : TypeId} {v : Value} {xs : List Value} (h : TRow K w e v xs) : ∀ k, v.ownBlock = some k → ∃ cur, w.heap[k]? = some (.cells cur e (0, 0)) := by
  intro k hk
  rcases h.2 with ⟨rfl, _⟩ | ⟨k', off, cap, cur, rfl, h3, _⟩
  · cases hk
  · cases hk; exact ⟨cur, h3⟩
theorem TRow.weak {K K' : Nat → Prop} {w : World} {e : TypeId} {v : Value} {xs : List Value} (h : TRow K w e v xs) (hs : ∀ k, K k → K' k) : TRow K' w e v xs := ⟨fun k hk => hs k (h.1 k hk), h.2⟩
theorem TRow.cell {K : Nat → Prop} {w : World} {e : TypeId} {v : Value} {xs : List Value} (h : TRow K w e v xs) (j : Nat) (hj : j < xs.length) : ∃ k off cap, v = .slice (some ⟨k, off, none⟩) xs.length cap ∧ w.cell? ⟨k, off + j, none⟩ = some xs[j] := by
  rcases h.2 with ⟨_, h2⟩ | ⟨k, off, cap, cur, h1, h3, h4, h5, h6, h7⟩
  · rw [h2] at hj; simp at hj
  · exact ⟨k, off, cap, h1, h7 j _ (List.getElem?_eq_getElem hj)⟩

def U64 (x : Nat) : Value := .int .u64 (x : Int)
/-- Texts in such a row. -/
def TRecs (K : Nat → Prop) (w : World) (v : Value) (ls : List (List UInt8)) : Prop :=
  ∃ vs : List Value, vs.length = ls.length ∧ TRow K w 27 v vs ∧ ∀ j (h : j < ls.length), ∃ t, vs[j]? = some t ∧ Row w t ls[j] ∧ ∀ b off n c, t = .slice (some ⟨b, off, none⟩) n c → ls[j] ≠ [] → K b ∧ ∃ cur, w.heap[b]? = some (.cells cur 5 (0, 0))
theorem TRecs.nil (K : Nat → Prop) (w : World) : TRecs K w (.slice none 0 0) [] := ⟨[], rfl, TRow.nil K w _, fun j h => by simp at h⟩
theorem TRecs.stays {K : Nat → Prop} {w w' : World} {v : Value} {ls : List (List UInt8)} (h : TRecs K w v ls) (hb : ∀ k, K k → (∃ cur, w.heap[k]? = some (.cells cur 5 (0, 0))) ∨ v.ownBlock = some k → w'.heap[k]? = w.heap[k]?) : TRecs K w' v ls := by
  obtain ⟨vs, h1, h2, h3⟩ := h
  refine ⟨vs, h1, h2.stays (fun k hk => hb k (h2.1 k hk) (Or.inr hk)), fun j hj => ?_⟩
  obtain ⟨t, a, b, c⟩ := h3 j hj
  refine ⟨t, a, ?_, fun b' off n c' e hne => ⟨(c b' off n c' e hne).1, ?_⟩⟩
  · obtain ⟨p, cap, e, r1, r2, r3, r4⟩ := b
    refine ⟨p, cap, e, r1, r2, r3, ?_⟩
    by_cases hne : ls[j] = []
    · exact Or.inl hne
    · rcases r4 with r4 | ⟨b', off, rfl, hc⟩
      · exact Or.inl r4
      · obtain ⟨k1, k2⟩ := c b' off _ _ e hne
        exact Or.inr ⟨b', off, rfl, fun i hi => (World.cell?_of_block (w := w) (hb b' k1 (Or.inl k2))).trans (hc i hi)⟩
  · obtain ⟨k1, cur, k2⟩ := c b' off n c' e hne
    exact ⟨cur, (hb b' k1 (Or.inl ⟨cur, k2⟩)).trans k2⟩

/-- A book in memory: its variable g, its three slices; K is all of it. -/
structure BAt (K : Nat → Prop) (w : World) (g : Nat) (dp lp : Value) (b : BK) (rv tv av : Value) : Prop where
  blk : w.heap[g]? = some (.cells (bookC dp lp b rv tv av) 40 (0, 0))
  recs : TRecs K w rv b.recs
  turns : TRow K w 36 tv (b.turns.map U64)
  ages : TRow K w 36 av (b.ages.map U64)
  two : ∀ k, tv.ownBlock = some k → av.ownBlock ≠ some k
  fg : K g
  lt : ∀ k, K k → k < w.heap.size
theorem BAt.stays {K : Nat → Prop} {w w' : World} {g : Nat} {dp lp : Value} {b : BK} {rv tv av : Value} (h : BAt K w g dp lp b rv tv av) (hs : w.heap.size ≤ w'.heap.size) (hk : ∀ k, K k → w'.heap[k]? = w.heap[k]?) : BAt K w' g dp lp b rv tv av where
  blk := (hk g h.fg).trans h.blk
  recs := h.recs.stays (fun k hK _ => hk k hK)
  turns := h.turns.stays (fun k e => hk k (h.turns.1 k e))
  ages := h.ages.stays (fun k e => hk k (h.ages.1 k e))
  two := h.two
  fg := h.fg
  lt := fun k hK => Nat.lt_of_lt_of_le (h.lt k hK) hs
theorem BAt.below {K : Nat → Prop} {w w' : World} {g : Nat} {dp lp : Value} {b : BK} {rv tv av : Value} (h : BAt K w g dp lp b rv tv av) (hb : Below w.heap.size w w') : BAt K w' g dp lp b rv tv av := h.stays hb.size (fun k hk => hb.block k (h.lt k hk))
theorem BAt.keep {F K : Nat → Prop} {w w' : World} {g : Nat} {dp lp : Value} {b : BK} {rv tv av : Value} (h : BAt K w g dp lp b rv tv av) (hk : Keep F w w') (ha : ∀ k, F k → ¬ K k) : BAt K w' g dp lp b rv tv av := h.stays hk.size (fun k hK => hk.block k (h.lt k hK) (fun hF => ha k hF hK))

def BK.least (b : BK) : Nat := match b.ages with | [] => b.age | a :: _ => a

theorem nineteen_cells {w : World} {g e : Nat} {a0 a1 a2 a3 a4 a5 a6 a7 a8 a9 a10 a11 a12 a13 a14 a15 a16 a17 a18 : Value} (h : w.heap[g]? = some (.cells #[a0, a1, a2, a3, a4, a5, a6, a7, a8, a9, a10, a11, a12, a13, a14, a15, a16, a17, a18] e (0, 0))) :
    (w.cell? ⟨g, 0, none⟩ = some a0 ∧ w.cell? ⟨g, 4, none⟩ = some a4 ∧ w.cell? ⟨g, 10, none⟩ = some a10 ∧ w.cell? ⟨g, 11, none⟩ = some a11) ∧ (w.cell? ⟨g, 12, none⟩ = some a12 ∧ w.cell? ⟨g, 13, none⟩ = some a13 ∧ w.cell? ⟨g, 14, none⟩ = some a14) ∧
    (w.cell? ⟨g, 15, none⟩ = some a15 ∧ w.cell? ⟨g, 16, none⟩ = some a16 ∧ w.cell? ⟨g, 17, none⟩ = some a17 ∧ w.cell? ⟨g, 18, none⟩ = some a18) ∧ ∀ j, w.frozen? ⟨g, j, none⟩ = false := by
  refine ⟨⟨?_, ?_, ?_, ?_⟩, ⟨?_, ?_, ?_⟩, ⟨?_, ?_, ?_, ?_⟩, fun j => by simp [World.frozen?, h]⟩
  all_goals (rw [cell_of_row w g _ _ e (0, 0) h]; rfl)

theorem bleast_any (K : Nat → Prop) (g : Nat) (dp lp : Value) (b : BK) (rv tv av : Value) (w : World) (h : BAt K w g dp lp b rv tv av) :
    Calls Tryz.prog 16 #[.pointer (some ⟨g, 0, none⟩)] w fun e w' => e = .returned (.int .u64 (b.least : Int)) ∧ Below w.heap.size w w' := by
  obtain ⟨⟨_, _, _, c11⟩, ⟨_, _, c14⟩, _⟩ := nineteen_cells h.blk
  have hag := h.ages
  unfold BK.least
  cases hb : b.ages with
  | nil =>
    rw [hb] at hag
    obtain ⟨q, c, rfl, _⟩ := hag.shape
    clear hag h hb
    go_enter Tryz.func16, Tryz.ntmps16
    go_wp2
    go_ret
    exact ⟨rfl, Below.refl _ _⟩
  | cons a l =>
    rw [hb] at hag
    obtain ⟨k, off, cap, rfl, hc⟩ := hag.cell 0 (by simp)
    simp only [List.map_cons, List.getElem_cons_zero, U64, Nat.add_zero, List.length_cons, List.length_map] at hc c14
    have h0 : (0 : Int) < ((l.length + 1 : Nat) : Int) := by omega
    generalize l.length + 1 = m at *
    clear hag h hb
    go_enter Tryz.func16, Tryz.ntmps16
    go_wp2
    go_ret
    exact ⟨rfl, Below.refl _ _⟩

theorem five_below {w w' : World} {g : Nat} {a b c d : Value} (h : w.cell? ⟨g, 4, none⟩ = some a ∧ w.cell? ⟨g, 10, none⟩ = some b ∧ w.cell? ⟨g, 15, none⟩ = some c ∧ w.cell? ⟨g, 16, none⟩ = some d) (hb : Below w.heap.size w w') :
    w'.cell? ⟨g, 4, none⟩ = some a ∧ w'.cell? ⟨g, 10, none⟩ = some b ∧ w'.cell? ⟨g, 15, none⟩ = some c ∧ w'.cell? ⟨g, 16, none⟩ = some d := by
  obtain ⟨h0, h1, h2, h3⟩ := h
  have k : ∀ {p : Addr} {v : Value}, w.cell? p = some v → w'.cell? p = some v := fun hc => (hb.cell (World.block_lt_of_cell? w _ hc)).trans hc
  exact ⟨k h0, k h1, k h2, k h3⟩

set_option maxRecDepth 20000 in
set_option maxHeartbeats 1000000 in
theorem agree_any (G K : Nat → Prop) (g : Nat) (dp lp : Value) (b : BK) (rv tv av : Value) (L : LG) (w : World) (h : BAt K w g dp lp b rv tv av) (hL : LRep G w lp dp 256 L) (h1 : L.first = b.first) (h2 : L.next = b.next) (h3 : L.least = b.least) :
    Calls Tryz.prog 12 #[.pointer (some ⟨g, 0, none⟩)] w fun e w' => e = .returned (.bool true) ∧ Below w.heap.size w w' := by
  have hd : Below w.heap.size w w.drew := (Below.refl _ _).drew
  obtain ⟨⟨_, c4, c10, _⟩, _, ⟨c15, c16, _⟩, _⟩ := nineteen_cells h.blk
  have k0 := five_below ⟨c4, c10, c15, c16⟩ hd
  have HF := hide (fun w' (hb : Below w.heap.size w w') => wfirst_any G lp dp 256 L w' (hL.below hb))
  have HN := hide (fun w' (hb : Below w.heap.size w w') => wnext_any G lp dp 256 L w' (hL.below hb))
  have HLe := hide (fun w' (hb : Below w.heap.size w w') => wleast_any G lp dp 256 L w' (hL.below hb))
  have HLf := hide (fun w' (hb : Below w.heap.size w w') => wleft_any G lp dp 256 L w' (hL.below hb))
  have HBl := hide (fun w' (hb : Below w.heap.size w w') => bleast_any K g dp lp b rv tv av w' (h.below hb))
  rw [h1] at HF HLf
  rw [h2] at HN HLf
  rw [h3] at HLe
  rw [lz256] at HLf
  obtain ⟨lg, hlg⟩ : ∃ lg, lp = .pointer (some lg) := by obtain ⟨g, sv, e, _⟩ := hL; exact ⟨_, e⟩
  subst hlg
  have hle : b.first ≤ b.next ∧ b.next ≤ b.first + 30 ∧ b.next < 9223372036854775808 := by
    obtain ⟨_, _, _, R⟩ := hL
    have a1 := R.ok.le
    have a2 := R.ok.ring
    have a3 := R.ok.next
    rw [h1, h2] at a1 a2
    rw [h2] at a3
    rw [show (lz 256).toNat = 30 by rw [lz256]; rfl] at a2
    exact ⟨a1, a2, a3⟩
  obtain ⟨l1, l2, l3⟩ := hle
  have hw1 : IntKind.u64.wrap ((b.next : Int) - (b.first : Int)) = ((b.next - b.first : Nat) : Int) := by rw [IntKind.wrap_u64]; omega
  have hw2 : IntKind.i64.wrap (((b.next - b.first : Nat) : Int)) = ((b.next - b.first : Nat) : Int) := by rw [IntKind.wrap_i64]; omega
  have hw3 : IntKind.i64.wrap (30 - ((b.next - b.first : Nat) : Int)) = 30 - ((b.next - b.first : Nat) : Int) := by rw [IntKind.wrap_i64]; omega
  generalize b.next - b.first = M at *
  generalize b.least = LL at *
  generalize hX : b.first = X at *
  generalize hY : b.next = Y at *
  have e1 : ((X : Int) == (X : Int)) = true := by simp
  have e2 : ((Y : Int) == (Y : Int)) = true := by simp
  have e3 : ((LL : Int) == (LL : Int)) = true := by simp
  have e4 : ((30 - (M : Int)) == (30 - (M : Int))) = true := by simp
  have HBD := hide hd
  have K0 := hide k0
  obtain ⟨d4, d10, d15, d16⟩ := k0
  clear hd h hL h1 h2 h3 hX hY l1 l2 l3
  go_enter Tryz.func12, Tryz.ntmps12
  go_wp2_with fail
  go_region_held3 (fun w' => w'.cell? ⟨g, 4, none⟩ = some (.int .i64 30) ∧ w'.cell? ⟨g, 10, none⟩ = some (.pointer (some lg)) ∧ w'.cell? ⟨g, 15, none⟩ = some (.int .u64 (X : Int)) ∧ w'.cell? ⟨g, 16, none⟩ = some (.int .u64 (Y : Int))) (first | assumption | go_keep)
    (first
      | (go_at_call 27; refine Calls.mono (unhide HF _ (unhide HBD)) ?_; rintro e w1 ⟨rfl, b1⟩; have k1 := five_below (unhide K0) b1; have HB1 := hide ((unhide HBD).trans (b1.mono (unhide HBD).size)); clear b1)
      | (go_at_call 20; refine Calls.mono (unhide HN _ (unhide HB1)) ?_; rintro e w2 ⟨rfl, b2⟩; have k2 := five_below k1 b2; have HB2 := hide ((unhide HB1).trans (b2.mono (unhide HB1).size)); clear b2)
      | (go_at_call 28; refine Calls.mono (unhide HLe _ (unhide HB2)) ?_; rintro e w3 ⟨rfl, b3⟩; have k3 := five_below k2 b3; have HB3 := hide ((unhide HB2).trans (b3.mono (unhide HB2).size)); clear b3)
      | (go_at_call 16; refine Calls.mono (unhide HBl _ (unhide HB3)) ?_; rintro e w4 ⟨rfl, b4⟩; have k4 := five_below k3 b4; have HB4 := hide ((unhide HB3).trans (b4.mono (unhide HB3).size)); clear b4)
      | (go_at_call 29; refine Calls.mono (unhide HLf _ (unhide HB4)) ?_; rintro e w5 ⟨rfl, b5⟩; have k5 := five_below k4 b5; have HB5 := hide ((unhide HB4).trans (b5.mono (unhide HB4).size)); clear b5))
  go_wp2_with fail
  go_ret
  exact ⟨rfl, unhide HB5⟩
end Go.Proofs.YtpkpjmebkikgdaaGreat

/- 'append' of one thing to a row that lies anywhere in its block, as one step of a region that draws its order. -/
namespace Go.Proofs.YtpkpjmebkikgdaaGreat
open Go.RowKit

theorem trow_of_owns {w : World} {base e : Nat} {v : Value} {n : Nat} {xs : List Value} (K : Nat → Prop) (h : w.ownsRow base e 1 v n xs) (hK : ∀ k, base ≤ k → K k) : TRow K w e v xs := by
  have hl := h.1
  rw [Nat.mul_one] at hl
  refine ⟨fun k hk => ?_, ?_⟩
  · rcases h.2 with ⟨e1, _⟩ | ⟨g, cap, cur, e1, hb, _⟩
    · rw [e1] at hk; cases hk
    · rw [e1] at hk; cases hk; exact hK g hb
  · rcases h.2 with ⟨e1, e2⟩ | ⟨g, cap, cur, e1, hb, hh, h1, h2, h3, h4⟩
    · exact Or.inl ⟨e1, List.eq_nil_of_length_eq_zero (by omega)⟩
    · refine Or.inr ⟨g, 0, cap, cur, by rw [e1, hl], hh, by omega, h2, by omega, fun j u hu => ?_⟩
      have hc := h.cells (g := g) (by rw [e1]; rfl)
      have := hc j u hu
      rw [Addr.add_lit] at this
      exact this

theorem run_append_tail {P : Program} {K : Nat → Prop} (w : World) (t ty e : TypeId) (i : TypeInfo) (z : Value) (bytes : Nat) (ht : P.underlying t = some (.slice e)) (hi : P.info? e = some i) (hz : i.zero = some z) (hsize : i.size = 1) (hby : i.bytes = bytes) (hzs : z.cells.size = 1)
    (v : Value) (xs : List Value) (h : TRow K w e v xs) (ad : Addr) (c : Nat) (u : Value) (hu : w.cell? (ad.add 0) = some u) (h1 : u.oneCell' = true) (h63 : xs.length + 1 ≤ maxLen) (hbytes : (xs.length + 1) * bytes ≤ 140737488355328) :
    ∃ v' w', (Builtin.append_ #[t, t] ty #[v, .slice (some ad) 1 c]).run P w = .ok v' w' ∧ TRow (fun k => K k ∨ w.heap.size ≤ k) w' e v' (xs ++ [u]) ∧ Keep (fun k => v.ownBlock = some k) w w' ∧ (∀ k, v'.ownBlock = some k → v.ownBlock = some k ∨ w.heap.size ≤ k) ∧ ∃ q n c, v' = .slice q n c := by
  have hnews : ∀ j x, ([u] : List Value)[j]? = some x → w.cell? (ad.add j) = some x := by
    intro j x hj
    match j, hj with
    | 0, hj => simp at hj; subst hj; exact hu
  have hone : ∀ x ∈ [u], x.oneCell' = true := by intro x hx; simp at hx; subst hx; exact h1
  have hshape : ∀ {w' : World} {base n : Nat} {v' : Value} {ys : List Value}, w'.ownsRow base e 1 v' n ys → ∃ q n c, v' = .slice q n c := by
    intro w' base n v' ys ho
    rcases ho.2 with ⟨e1, _⟩ | ⟨g, cap, cur, e1, _⟩
    · exact ⟨_, _, _, e1⟩
    · exact ⟨_, _, _, e1⟩
  have hbl : ∀ {w' : World} {n : Nat} {v' : Value} {ys : List Value}, w'.ownsRow w.heap.size e 1 v' n ys → ∀ k, v'.ownBlock = some k → w.heap.size ≤ k := by
    intro w' n v' ys ho k hk
    rcases ho.2 with ⟨e1, _⟩ | ⟨g, cap, cur, e1, hb, _⟩
    · rw [e1] at hk; cases hk
    · rw [e1] at hk; cases hk; exact hb
  rcases h.2 with ⟨rfl, rfl⟩ | ⟨k, off, cap, cur, rfl, hh, hn, hc, hs, hr⟩
  · obtain ⟨v', w', hrun, g1, g2, _⟩ := run_append_own (P := P) w w.heap.size t ty e i z 1 bytes ht hi hz hsize hby hzs (by omega) (.slice none 0 0) 0 [] (World.ownsRow_nil _ _ _ _) ad 1 c [u] (by simp) hnews hone (by simpa using h63) (by simpa using hbytes) (Nat.le_refl _)
    exact ⟨v', w', hrun, trow_of_owns _ g1 (fun k hk => Or.inr hk), grown_keep g2, fun k hk => Or.inr (hbl g1 k hk), hshape g1⟩
  · by_cases hroom : xs.length + 1 ≤ cap
    · have hrun := run_append_room_cells (P := P) w t ty e i ht hi k off xs.length cap ad 1 c [u] (by rw [hsize]; rfl) hnews hone hroom
        (fun j hj => by
          have hj0 : j = 0 := by simpa using hj
          subst hj0
          rw [hsize, cell_of_row w k _ cur e (0, 0) hh, Array.getElem?_eq_getElem (by omega)]
          rfl)
        (fun j hj => frozen_of_block hh)
      rw [hsize, Nat.mul_one] at hrun
      obtain ⟨C', hC', hCs⟩ := block_setCells k e [u] (off + xs.length) w cur hh
      refine ⟨_, _, hrun, ⟨fun k' hk' => Or.inl (h.1 k' hk'), Or.inr ⟨k, off, cap, C', by simp, hC', by simp; omega, hc, by omega, ?_⟩⟩, (keep_setCells k [u] _ w).weak (fun x hx => by rw [hx]; rfl), fun k' hk' => Or.inl hk', _, _, _, rfl⟩
      intro j x hj
      by_cases hjl : j < xs.length
      · rw [List.getElem?_append_left hjl] at hj
        exact World.rangeAt_setCells_apart hr k (off + xs.length) [u] (Or.inr (Or.inl (Nat.le_refl _))) j x hj
      · have hj' : j = xs.length := by
          have := (List.getElem?_eq_some_iff.1 hj).1
          simp at this
          omega
        subst hj'
        simp only [List.getElem?_append_right (Nat.le_refl _), Nat.sub_self, List.getElem?_cons_zero, Option.some.injEq] at hj
        subst hj
        have := World.rangeAt_setCells_same w k (off + xs.length) [u] (there_of_block hh (by simp; omega)) 0 u rfl
        rw [Nat.add_zero] at this
        exact this
    · obtain ⟨v', w', hrun, g1, g2⟩ := run_append_arg_grows (P := P) w t ty e i z 1 bytes ht hi hz hsize hby hzs (by omega) ⟨k, off, none⟩ xs.length cap xs (by omega) (fun j x hj => by rw [Addr.add_lit]; exact hr j x hj) ad 1 c [u] (by simp) hnews (by omega) h63 hbytes
      refine ⟨v', w', hrun, trow_of_owns _ g1 (fun k hk => Or.inr hk), (grown_keep g2).weak (fun x hx => by cases hx), fun k hk => Or.inr (hbl g1 k hk), hshape g1⟩

theorem step_append_tail {P : Program} {ops : Array Oper} {o : Oper} {a : Act} {w : World} {K : Act → World → Prop} {Q : Exit → Act → World → Prop} {E : Prop} {KK : Nat → Prop} (hgd : o.guard = none) (s x : Operand) (t : TypeId)
    (ho : o.op = .call { callee := .builtin .append, args := #[s, x], argTypes := #[t, t] })
    (e : TypeId) (i : TypeInfo) (z : Value) (bytes : Nat) (ht : P.underlying t = some (.slice e)) (hi : P.info? e = some i) (hz : i.zero = some z) (hsize : i.size = 1) (hby : i.bytes = bytes) (hzs : z.cells.size = 1)
    (v : Value) (xs : List Value) (hs : a.eval s = v) (h : TRow KK w e v xs) (ad : Addr) (c : Nat) (u : Value) (hx : a.eval x = .slice (some ad) 1 c) (hu : w.cell? (ad.add 0) = some u) (h1 : u.oneCell' = true) (h63 : xs.length + 1 ≤ maxLen) (hbytes : (xs.length + 1) * bytes ≤ 140737488355328)
    (hK : ∀ v' w', TRow (fun k => KK k ∨ w.heap.size ≤ k) w' e v' (xs ++ [u]) → Keep (fun k => v.ownBlock = some k) w w' → (∀ k, v'.ownBlock = some k → v.ownBlock = some k ∨ w.heap.size ≤ k) → (∃ q n c, v' = .slice q n c) → K (a.put o.dst v') w') :
    if Region.wanted o (yielded ops a.tmps) = true then Oper.wp P o a w K Q else E := by
  have hw : Region.wanted o (yielded ops a.tmps) = true := by simp [Region.wanted, hgd]
  rw [if_pos hw]
  obtain ⟨v', w', hr, g1, g2, g3, g4⟩ := run_append_tail (P := P) (K := KK) w t o.type e i z bytes ht hi hz hsize hby hzs v xs h ad c u hu h1 h63 hbytes
  unfold Oper.wp execOp
  simp only [ho, resolve, invoke, builtin, Sem.run_bind, Sem.run_pure, Result.andThen_ok, List.map_toArray, List.map_cons, List.map_nil, hs, hx, hr]
  exact hK v' w' g1 g2 g3 g4
end Go.Proofs.YtpkpjmebkikgdaaGreat

/- The statements of layer 7: a book and its log; a record more. -/
namespace Go.Proofs.YtpkpjmebkikgdaaGreat
open Go.RowKit

/-- A call of a Go function of one argument, as one step of a region that draws its order. -/
theorem step_call1 {P : Program} {ops : Array Oper} {o : Oper} {a : Act} {w : World} {K : Act → World → Prop} {Q : Exit → Act → World → Prop} {E : Prop} (hgd : o.guard = none) (f : FuncId) (x : Operand) (t : TypeId)
    (ho : o.op = .call { callee := .value (.func f), args := #[x], argTypes := #[t] }) (v : Value) (hx : a.eval x = v) (hent : ∀ args w, (callFunc f args).run P w = .ok (.enter f args) w) {Post : Value → World → Prop}
    (hc : Calls P f #[v] w fun e w' => ∃ t, e = .returned t ∧ Post t w') (h : ∀ t w', Post t w' → K (a.put o.dst t) w') :
    if Region.wanted o (yielded ops a.tmps) = true then Oper.wp P o a w K Q else E := by
  have hw : Region.wanted o (yielded ops a.tmps) = true := by simp [Region.wanted, hgd]
  rw [if_pos hw]
  unfold Oper.wp execOp
  have hfe : a.eval (.func f) = .func (.func f) #[] #[] := rfl
  simp only [ho, resolve, invoke, Deferred.ofValue, Sem.run_bind, Sem.run_pure, Result.andThen_ok, List.map_toArray, List.map_cons, List.map_nil, hx, hfe]
  simp only [List.append_toArray, List.append_nil, List.nil_append, hent, Oper.upon_enter]
  refine hc.mono ?_
  rintro e w' ⟨t, rfl, hp⟩
  exact h t w' hp

section
variable {K : Nat → Prop} {w w1 W w2 : World} {g : Nat} {dp lp : Value} {b : BK} {rv tv av rv' tv' av' : Value}
theorem BAt.rg (h : BAt K w g dp lp b rv tv av) : rv.ownBlock ≠ some g := fun e => by
  obtain ⟨vs, _, h2, _⟩ := h.recs
  obtain ⟨cur, hh⟩ := h2.kind g e
  rw [h.blk] at hh
  cases hh
theorem BAt.tg (h : BAt K w g dp lp b rv tv av) : tv.ownBlock ≠ some g := fun e => by
  obtain ⟨cur, hh⟩ := h.turns.kind g e
  rw [h.blk] at hh
  cases hh
theorem BAt.ag (h : BAt K w g dp lp b rv tv av) : av.ownBlock ≠ some g := fun e => by
  obtain ⟨cur, hh⟩ := h.ages.kind g e
  rw [h.blk] at hh
  cases hh
theorem BAt.rt (h : BAt K w g dp lp b rv tv av) : ∀ k, rv.ownBlock = some k → tv.ownBlock ≠ some k ∧ av.ownBlock ≠ some k := fun k e => by
  obtain ⟨vs, _, h2, _⟩ := h.recs
  obtain ⟨cur, hh⟩ := h2.kind k e
  refine ⟨fun e2 => ?_, fun e2 => ?_⟩
  · obtain ⟨cur', hh'⟩ := h.turns.kind k e2
    rw [hh] at hh'
    cases hh'
  · obtain ⟨cur', hh'⟩ := h.ages.kind k e2
    rw [hh] at hh'
    cases hh'

/-- What is there from a size on, is new. -/
def newK (K : Nat → Prop) (w w' : World) : Nat → Prop := fun k => K k ∨ (w.heap.size ≤ k ∧ k < w'.heap.size)

theorem TRow.lt {e : TypeId} {v : Value} {xs : List Value} (h : TRow K w e v xs) : ∀ k, v.ownBlock = some k → k < w.heap.size := fun k hk => by
  obtain ⟨cur, hh⟩ := h.kind k hk
  exact (Array.getElem?_eq_some_iff.1 hh).1
/-- A slice of the book's is another. -/
theorem TRow.new {e : TypeId} {v : Value} {xs : List Value} {N : Nat} (h : TRow (fun k => K k ∨ N ≤ k) w2 e v xs) (hN : w.heap.size ≤ N) (w3 : World) (hs : w2.heap.size ≤ w3.heap.size) : TRow (newK K w w3) w2 e v xs :=
  ⟨fun k hk => (h.1 k hk).imp_right (fun h1 => ⟨Nat.le_trans hN h1, Nat.lt_of_lt_of_le (h.lt k hk) hs⟩), h.2⟩

theorem BAt.addTurn {u : Nat} (h : BAt K w g dp lp b rv tv av) (hW : Below w.heap.size w W) (hk : Keep (fun k => tv.ownBlock = some k) W w2) (hr : TRow (fun k => K k ∨ W.heap.size ≤ k) w2 36 tv' (b.turns.map U64 ++ [U64 u])) (hv : ∀ k, tv'.ownBlock = some k → tv.ownBlock = some k ∨ W.heap.size ≤ k) :
    BAt (newK K w (w2.setCell ⟨g, 13, none⟩ tv')) (w2.setCell ⟨g, 13, none⟩ tv') g dp lp { b with turns := b.turns ++ [u] } rv tv' av ∧ Moves K (newK K w (w2.setCell ⟨g, 13, none⟩ tv')) w (w2.setCell ⟨g, 13, none⟩ tv') := by
  have hgl := h.lt g h.fg
  have hb2 : w2.heap[g]? = _ := (hk.block g (Nat.lt_of_lt_of_le hgl hW.size) h.tg).trans ((hW.block g hgl).trans h.blk)
  have b1 := heap_setCell_same w2 g 13 _ _ tv' hb2
  have hsz : (w2.setCell ⟨g, 13, none⟩ tv').heap.size = w2.heap.size := by simp
  have hoth : ∀ k, k < w.heap.size → k ≠ g → tv.ownBlock ≠ some k → (w2.setCell ⟨g, 13, none⟩ tv').heap[k]? = w.heap[k]? := fun k h1 h2 h3 => (Below.heap_setCell _ _ _ _ h2).trans ((hk.block k (Nat.lt_of_lt_of_le h1 hW.size) h3).trans (hW.block k h1))
  have hvg : ∀ k, tv'.ownBlock = some k → k ≠ g := fun k hk' e => by
    rcases hv k hk' with h1 | h1
    · exact h.tg (e ▸ h1)
    · have := hW.size; omega
  have KA : Keep K w (w2.setCell ⟨g, 13, none⟩ tv') := by
    have k1 : Keep K w w2 := (Keep.of_below hW).trans hk (fun x hx => Or.inl (h.turns.1 x hx))
    exact k1.sset h.fg _
  refine ⟨⟨b1.trans rfl, ?_, ?_, ?_, ?_, Or.inl h.fg, fun k hk' => ?_⟩, KA, fun k hk' => hk'.imp_right (fun h1 => h1.1)⟩
  · have h1 := h.recs.stays (w' := w2.setCell ⟨g, 13, none⟩ tv') (fun k hK hc => hoth k (h.lt k hK) (fun e => by
      rcases hc with ⟨cur, hc⟩ | hc
      · rw [e, h.blk] at hc; cases hc
      · exact h.rg (e ▸ hc)) (fun e => by
      rcases hc with ⟨cur, hc⟩ | hc
      · obtain ⟨cur', hh⟩ := h.turns.kind k e
        rw [hc] at hh
        cases hh
      · exact (h.rt k hc).1 e))
    obtain ⟨vs, a1, a2, a3⟩ := h1
    exact ⟨vs, a1, a2.weak (fun k hK => Or.inl hK), fun j hj => let ⟨t, c1, c2, c3⟩ := a3 j hj; ⟨t, c1, c2, fun b' off n c' e hne => ⟨Or.inl (c3 b' off n c' e hne).1, (c3 b' off n c' e hne).2⟩⟩⟩
  · have h1 := hr.new (w := w) hW.size (w2.setCell ⟨g, 13, none⟩ tv') (by rw [hsz]; exact Nat.le_refl _)
    have h2 := h1.stays (w' := w2.setCell ⟨g, 13, none⟩ tv') (fun k hk' => Below.heap_setCell _ _ _ _ (hvg k hk'))
    simpa using h2
  · exact (h.ages.stays (w' := w2.setCell ⟨g, 13, none⟩ tv') (fun k e => hoth k (h.ages.lt k e) (fun e2 => h.ag (e2 ▸ e)) (fun e2 => h.two k e2 e))).weak (fun k hK => Or.inl hK)
  · intro k hk' ha
    rcases hv k hk' with h1 | h1
    · exact h.two k h1 ha
    · have := h.ages.lt k ha; have := hW.size; omega
  · rcases hk' with h1 | h1
    · exact Nat.lt_of_lt_of_le (h.lt k h1) KA.size
    · exact h1.2
theorem BAt.addAge {u : Nat} (h : BAt K w g dp lp b rv tv av) (hW : Below w.heap.size w W) (hk : Keep (fun k => av.ownBlock = some k) W w2) (hr : TRow (fun k => K k ∨ W.heap.size ≤ k) w2 36 av' (b.ages.map U64 ++ [U64 u])) (hv : ∀ k, av'.ownBlock = some k → av.ownBlock = some k ∨ W.heap.size ≤ k) :
    BAt (newK K w (w2.setCell ⟨g, 14, none⟩ av')) (w2.setCell ⟨g, 14, none⟩ av') g dp lp { b with ages := b.ages ++ [u] } rv tv av' ∧ Moves K (newK K w (w2.setCell ⟨g, 14, none⟩ av')) w (w2.setCell ⟨g, 14, none⟩ av') := by
  have hgl := h.lt g h.fg
  have hb2 : w2.heap[g]? = _ := (hk.block g (Nat.lt_of_lt_of_le hgl hW.size) h.ag).trans ((hW.block g hgl).trans h.blk)
  have b1 := heap_setCell_same w2 g 14 _ _ av' hb2
  have hsz : (w2.setCell ⟨g, 14, none⟩ av').heap.size = w2.heap.size := by simp
  have hoth : ∀ k, k < w.heap.size → k ≠ g → av.ownBlock ≠ some k → (w2.setCell ⟨g, 14, none⟩ av').heap[k]? = w.heap[k]? := fun k h1 h2 h3 => (Below.heap_setCell _ _ _ _ h2).trans ((hk.block k (Nat.lt_of_lt_of_le h1 hW.size) h3).trans (hW.block k h1))
  have hvg : ∀ k, av'.ownBlock = some k → k ≠ g := fun k hk' e => by
    rcases hv k hk' with h1 | h1
    · exact h.ag (e ▸ h1)
    · have := hW.size; omega
  have KA : Keep K w (w2.setCell ⟨g, 14, none⟩ av') := by
    have k1 : Keep K w w2 := (Keep.of_below hW).trans hk (fun x hx => Or.inl (h.ages.1 x hx))
    exact k1.sset h.fg _
  refine ⟨⟨b1.trans rfl, ?_, ?_, ?_, ?_, Or.inl h.fg, fun k hk' => ?_⟩, KA, fun k hk' => hk'.imp_right (fun h1 => h1.1)⟩
  · have h1 := h.recs.stays (w' := w2.setCell ⟨g, 14, none⟩ av') (fun k hK hc => hoth k (h.lt k hK) (fun e => by
      rcases hc with ⟨cur, hc⟩ | hc
      · rw [e, h.blk] at hc; cases hc
      · exact h.rg (e ▸ hc)) (fun e => by
      rcases hc with ⟨cur, hc⟩ | hc
      · obtain ⟨cur', hh⟩ := h.ages.kind k e
        rw [hc] at hh
        cases hh
      · exact (h.rt k hc).2 e))
    obtain ⟨vs, a1, a2, a3⟩ := h1
    exact ⟨vs, a1, a2.weak (fun k hK => Or.inl hK), fun j hj => let ⟨t, c1, c2, c3⟩ := a3 j hj; ⟨t, c1, c2, fun b' off n c' e hne => ⟨Or.inl (c3 b' off n c' e hne).1, (c3 b' off n c' e hne).2⟩⟩⟩
  · exact (h.turns.stays (w' := w2.setCell ⟨g, 14, none⟩ av') (fun k e => hoth k (h.turns.lt k e) (fun e2 => h.tg (e2 ▸ e)) (fun e2 => h.two k e e2))).weak (fun k hK => Or.inl hK)
  · have h1 := hr.new (w := w) hW.size (w2.setCell ⟨g, 14, none⟩ av') (by rw [hsz]; exact Nat.le_refl _)
    have h2 := h1.stays (w' := w2.setCell ⟨g, 14, none⟩ av') (fun k hk' => Below.heap_setCell _ _ _ _ (hvg k hk'))
    simpa using h2
  · intro k ht hk'
    rcases hv k hk' with h1 | h1
    · exact h.two k ht h1
    · have := h.turns.lt k ht; have := hW.size; omega
  · rcases hk' with h1 | h1
    · exact Nat.lt_of_lt_of_le (h.lt k h1) KA.size
    · exact h1.2
theorem BAt.addRec {x : List UInt8} {t : Value} {vs : List Value} (h : BAt K w g dp lp b rv tv av) (hvl : vs.length = b.recs.length) (hvr : TRow K w 27 rv vs) (h1 : Below w.heap.size w w1) (ht : w1.ownsRow w.heap.size 5 1 t x.length (x.map B)) (hW : Below w1.heap.size w1 W)
    (hk : Keep (fun k => rv.ownBlock = some k) W w2) (hr : TRow (fun k => K k ∨ W.heap.size ≤ k) w2 27 rv' (vs ++ [t])) (hv : ∀ k, rv'.ownBlock = some k → rv.ownBlock = some k ∨ W.heap.size ≤ k) :
    BAt (newK K w (w2.setCell ⟨g, 12, none⟩ rv')) (w2.setCell ⟨g, 12, none⟩ rv') g dp lp { b with recs := b.recs ++ [x] } rv' tv av ∧ Moves K (newK K w (w2.setCell ⟨g, 12, none⟩ rv')) w (w2.setCell ⟨g, 12, none⟩ rv') := by
  have hgl := h.lt g h.fg
  have hwW : Below w.heap.size w W := h1.trans (hW.mono h1.size)
  have hb2 : w2.heap[g]? = _ := (hk.block g (Nat.lt_of_lt_of_le hgl hwW.size) h.rg).trans ((hwW.block g hgl).trans h.blk)
  have b1 := heap_setCell_same w2 g 12 _ _ rv' hb2
  have hsz : (w2.setCell ⟨g, 12, none⟩ rv').heap.size = w2.heap.size := by simp
  have hoth : ∀ k, k < w.heap.size → k ≠ g → rv.ownBlock ≠ some k → (w2.setCell ⟨g, 12, none⟩ rv').heap[k]? = w.heap[k]? := fun k h1' h2 h3 => (Below.heap_setCell _ _ _ _ h2).trans ((hk.block k (Nat.lt_of_lt_of_le h1' hwW.size) h3).trans (hwW.block k h1'))
  have hvg : ∀ k, rv'.ownBlock = some k → k ≠ g := fun k hk' e => by
    rcases hv k hk' with h1 | h1
    · exact h.rg (e ▸ h1)
    · have := hwW.size; omega
  have KA : Keep K w (w2.setCell ⟨g, 12, none⟩ rv') := by
    have k1 : Keep K w w2 := (Keep.of_below hwW).trans hk (fun x hx => Or.inl (hvr.1 x hx))
    exact k1.sset h.fg _
  refine ⟨⟨b1.trans rfl, ?_, ?_, ?_, h.two, Or.inl h.fg, fun k hk' => ?_⟩, KA, fun k hk' => hk'.imp_right (fun h1 => h1.1)⟩
  · obtain ⟨vs0, a1, a2, a3⟩ := h.recs
    have hvv : vs0 = vs := by
      rcases a2.2 with ⟨e1, e2⟩ | ⟨k, off, cap, cur, e1, e3, _, _, _, e7⟩
      · rw [e2] at a1; rw [e2]; symm; exact List.eq_nil_of_length_eq_zero (by simp at a1; omega)
      · rcases hvr.2 with ⟨f1, f2⟩ | ⟨k', off', cap', cur', f1, f3, _, _, _, f7⟩
        · rw [e1] at f1; cases f1
        · rw [e1] at f1
          simp only [Value.slice.injEq, Option.some.injEq, Addr.mk.injEq, and_true] at f1
          obtain ⟨⟨rfl, rfl⟩, _, _⟩ := f1
          apply List.ext_getElem (by omega)
          intro i hi1 hi2
          have q1 := e7 i _ (List.getElem?_eq_getElem hi1)
          have q2 := f7 i _ (List.getElem?_eq_getElem hi2)
          rw [q1] at q2
          simpa using q2
    subst hvv
    refine ⟨vs0 ++ [t], by simp [a1], ?_, fun j hj => ?_⟩
    · exact (hr.new (w := w) hwW.size (w2.setCell ⟨g, 12, none⟩ rv') (by rw [hsz]; exact Nat.le_refl _)).stays (fun k hk' => Below.heap_setCell _ _ _ _ (hvg k hk'))
    · by_cases hjl : j < b.recs.length
      · obtain ⟨t', c1, c2, c3⟩ := a3 j hjl
        have e1 : (b.recs ++ [x])[j] = b.recs[j] := List.getElem_append_left hjl
        refine ⟨t', by rw [List.getElem?_append_left (by omega)]; exact c1, ?_, fun b' off n c' e hne => ?_⟩
        · show Row _ t' (b.recs ++ [x])[j]
          rw [e1]
          obtain ⟨p, cap, e, r1, r2, r3, r4⟩ := c2
          refine ⟨p, cap, e, r1, r2, r3, ?_⟩
          by_cases hne : b.recs[j] = []
          · exact Or.inl hne
          · rcases r4 with r4 | ⟨b', off, rfl, hc⟩
            · exact Or.inl r4
            · obtain ⟨k1, cur, k2⟩ := c3 b' off _ _ e hne
              refine Or.inr ⟨b', off, rfl, fun i hi => (World.cell?_of_block (w := w) (hoth b' (h.lt b' k1) (fun e => ?_) (fun e => ?_))).trans (hc i hi)⟩
              · rw [e, h.blk] at k2; cases k2
              · obtain ⟨cur', hh⟩ := hvr.kind b' e
                rw [k2] at hh
                cases hh
        · have hne' : b.recs[j] ≠ [] := by rw [← e1]; exact hne
          obtain ⟨k1, cur, k2⟩ := c3 b' off n c' e hne'
          refine ⟨Or.inl k1, cur, (hoth b' (h.lt b' k1) (fun e => ?_) (fun e => ?_)).trans k2⟩
          · rw [e, h.blk] at k2; cases k2
          · obtain ⟨cur', hh⟩ := hvr.kind b' e
            rw [k2] at hh
            cases hh
      · have hj' : j = b.recs.length := by simp at hj; omega
        subst hj'
        have e1 : (b.recs ++ [x])[b.recs.length] = x := by simp
        have hrow := row_of_owns ht
        have hst : ∀ k, w.heap.size ≤ k → k < w1.heap.size → (w2.setCell ⟨g, 12, none⟩ rv').heap[k]? = w1.heap[k]? := fun k h1' h2' =>
          (Below.heap_setCell _ _ _ _ (by show k ≠ g; omega)).trans ((hk.block k (Nat.lt_of_lt_of_le h2' hW.size) (fun e => by have := hvr.lt k e; omega)).trans (hW.block k h2'))
        refine ⟨t, by rw [← a1]; simp, ?_, fun b' off n c' e hne => ?_⟩
        · show Row _ t (b.recs ++ [x])[b.recs.length]
          rw [e1]
          obtain ⟨p, cap, e, r1, r2, r3, r4⟩ := hrow
          refine ⟨p, cap, e, r1, r2, r3, ?_⟩
          rcases r4 with r4 | ⟨b', off, rfl, hc⟩
          · exact Or.inl r4
          · by_cases hne : x = []
            · exact Or.inl hne
            · refine Or.inr ⟨b', off, rfl, fun i hi => (World.cell?_of_block (w := w1) (hst b' ?_ (World.block_lt_of_cell? w1 _ (hc i hi)))).trans (hc i hi)⟩
              have := (ht.lt b' (by rw [e]; rfl)).1
              exact this
        · obtain ⟨g5, cap5, cur5, e5, hb5, hh5⟩ : ∃ g5 cap5 cur5, t = .slice (some ⟨g5, 0, none⟩) x.length cap5 ∧ w.heap.size ≤ g5 ∧ w1.heap[g5]? = some (.cells cur5 5 (0, 0)) := by
            rcases ht.2 with ⟨q1, q2⟩ | ⟨g5, cap5, cur5, q1, q2, q3, _⟩
            · rw [q1] at e; cases e
            · exact ⟨g5, cap5, cur5, q1, q2, q3⟩
          rw [e5] at e
          simp only [Value.slice.injEq, Option.some.injEq, Addr.mk.injEq, and_true] at e
          obtain ⟨⟨rfl, _⟩, _, _⟩ := e
          have hl5 := (Array.getElem?_eq_some_iff.1 hh5).1
          refine ⟨Or.inr ⟨hb5, ?_⟩, cur5, (hst g5 hb5 hl5).trans hh5⟩
          have := hW.size; have := hk.size; rw [hsz]; omega
  · exact (h.turns.stays (w' := w2.setCell ⟨g, 12, none⟩ rv') (fun k e => hoth k (h.turns.lt k e) (fun e2 => h.tg (e2 ▸ e)) (fun e2 => (h.rt k e2).1 e))).weak (fun k hK => Or.inl hK)
  · exact (h.ages.stays (w' := w2.setCell ⟨g, 12, none⟩ rv') (fun k e => hoth k (h.ages.lt k e) (fun e2 => h.ag (e2 ▸ e)) (fun e2 => (h.rt k e2).2 e))).weak (fun k hK => Or.inl hK)
  · rcases hk' with h1 | h1
    · exact Nat.lt_of_lt_of_le (h.lt k h1) KA.size
    · exact h1.2
/-- The number of the next turn is another. -/
theorem BAt.setNext (h : BAt K w g dp lp b rv tv av) (u : Nat) : BAt K (w.setCell ⟨g, 16, none⟩ (.int .u64 (u : Int))) g dp lp { b with next := u } rv tv av ∧ Keep K w (w.setCell ⟨g, 16, none⟩ (.int .u64 (u : Int))) := by
  have b1 := heap_setCell_same w g 16 _ _ (.int .u64 (u : Int)) h.blk
  have hoth : ∀ k, k ≠ g → (w.setCell ⟨g, 16, none⟩ (.int .u64 (u : Int))).heap[k]? = w.heap[k]? := fun k h2 => Below.heap_setCell _ _ _ _ h2
  refine ⟨⟨b1.trans rfl, h.recs.stays (fun k hK hc => hoth k (fun e => ?_)), h.turns.stays (fun k e => hoth k (fun e2 => h.tg (e2 ▸ e))), h.ages.stays (fun k e => hoth k (fun e2 => h.ag (e2 ▸ e))), h.two, h.fg, fun k hK => by simpa using h.lt k hK⟩, (Keep.refl _ _).sset h.fg _⟩
  rcases hc with ⟨cur, hc⟩ | hc
  · rw [e, h.blk] at hc; cases hc
  · exact h.rg (e ▸ hc)
end
end Go.Proofs.YtpkpjmebkikgdaaGreat

/- The statements of layer 7: a record is appended, on a calm device. -/
namespace Go.Proofs.YtpkpjmebkikgdaaGreat
open Go.RowKit

def all3 (F G K : Nat → Prop) : Nat → Prop := fun k => F k ∨ G k ∨ K k
/-- A book and its log, apart in memory, that tell the same. -/
structure Book (F G K : Nat → Prop) (w : World) (g : Nat) (lp dp : Value) (s : DK) (L : LG) (b : BK) (rv tv av : Value) : Prop where
  both : Both F G w lp dp 256 s L
  at_ : BAt K w g dp lp b rv tv av
  apF : ∀ k, F k → ¬ K k
  apG : ∀ k, G k → ¬ K k
  first : L.first = b.first
  next : L.next = b.next
  age : L.age = b.age
  starts : L.starts = b.turns.zip b.ages
  tl : b.turns.length = b.recs.length
  al : b.ages.length = b.recs.length
theorem Book.least {F G K : Nat → Prop} {w : World} {g : Nat} {lp dp : Value} {s : DK} {L : LG} {b : BK} {rv tv av : Value} (h : Book F G K w g lp dp s L b rv tv av) : L.least = b.least := by
  unfold LG.least BK.least
  rw [h.starts]
  have h1 := h.tl
  have h2 := h.al
  cases ha : b.ages with
  | nil => rw [List.zip_nil_right]; exact h.age
  | cons a l =>
    cases ht : b.turns with
    | nil => rw [ha] at h2; rw [ht] at h1; simp at h1 h2; omega
    | cons t m => rfl
/-- The book behind a record. -/
def BK.app (b : BK) (e : Int) (x : List UInt8) : BK := if e = 0 then { b with recs := b.recs ++ [x], turns := b.turns ++ [b.next], ages := b.ages ++ [b.age], next := b.next + (countN x.length).toNat } else b

/-- One way on for several goals that are alike. -/
theorem one_way {T G : Prop} (main : Hid T → G) (pf : T) : G := main (hide pf)

theorem ent_copy (args : Array Value) (w : World) : (callFunc 52 args).run Tryz.prog w = .ok (.enter 52 args) w := by
  first | kernel_rfl | rfl | simp [callFunc, Tryz.func52]
theorem Tryz.info36 : (Tryz.prog.info? 36).map (fun i => (i.zero, i.size, i.bytes)) = some (some (.int .u64 0), 1, 8) := by kernel_rfl

set_option maxRecDepth 20000 in
set_option maxHeartbeats 8000000 in
theorem bappend_calm (F G K : Nat → Prop) (g : Nat) (lp dp : Value) (s : DK) (L : LG) (b : BK) (rv tv av xv : Value) (x : List UInt8) (w : World) (hB : Book F G K w g lp dp s L b rv tv av) (hc : Calm s) (hL : L.fallen = false) (hx : Row w xv x) (hroom : x.length ≤ 140737488351232)
    (hout : ∀ k off n c, xv = .slice (some ⟨k, off, none⟩) n c → x ≠ [] → ¬ F k ∧ ¬ G k ∧ ¬ K k) (hw : s.waits.length + 64 ≤ 1048576) (ht : s.ticks + 64 ≤ 1048576) (hnx : L.next + 64 < 9223372036854775808) (hrl : b.recs.length ≤ 100000) :
    Calls Tryz.prog 23 #[.pointer (some ⟨g, 0, none⟩), xv] w fun e w' => e = .returned (.bool true) ∧ ∃ F' G' K' rv' tv' av', Book F' G' K' w' g lp dp (appS 256 s L x) (appL 256 s L x) (b.app (appE 256 s L x) x) rv' tv' av' ∧ Moves (all3 F G K) (all3 F' G' K') w w' := by
  obtain ⟨a1, a2, a3, a4, a5, a6, a7⟩ := app_calm (n := 256) (s := s) (L := L) (r := x) fits256 hB.both.size hc hL
  rw [lz256] at a1
  have HOWN := hide (own_any xv x 71 71 rfl w hx hroom)
  have hFlt := hB.both.dev.lt
  have hGlt := hB.both.log.lt
  have hKlt := hB.at_.lt
  have hcn : countN (x.length : Int) ≤ 9223372036854775807 ∧ 1 ≤ countN (x.length : Int) := by
    refine ⟨?_, count_pos (by omega)⟩
    unfold countN
    repeat' split
    all_goals omega
  obtain ⟨E, hE⟩ : ∃ E, E = appE 256 s L x := ⟨_, rfl⟩
  obtain ⟨S, hS⟩ : ∃ S, S = appS 256 s L x := ⟨_, rfl⟩
  obtain ⟨M, hM⟩ : ∃ M, M = appL 256 s L x := ⟨_, rfl⟩
  rw [← hE, ← hS, ← hM]
  rw [← hE] at a1
  rw [← hE, ← hM] at a6
  have HB := hide hB
  have HFL := hide hFlt
  have HGL := hide hGlt
  have HKL := hide hKlt
  have HX := hide hx
  have HOUT := hide hout
  have HAP := hide (fun F' G' w' gi (hb : Both F' G' w' lp dp 256 s L) (ho : Owned w' gi x 71) => wappend_any F' G' lp dp 256 s L (.slice (some ⟨gi, 0, none⟩) x.length (x.length + 3)) x w' hb (ho.row (by unfold maxLen; omega)) (by omega) (by omega) (by omega))
  rw [← hE, ← hS, ← hM] at HAP
  obtain ⟨lg, hlg⟩ : ∃ lg, lp = .pointer (some lg) := by obtain ⟨g, sv, e, _⟩ := hB.both.log; exact ⟨_, e⟩
  subst hlg
  obtain ⟨xp, xc, xl, rfl, hxl⟩ := hx.shape
  have HXL := hide hxl
  have HA1 := hide a1
  have HA6 := hide a6
  have HRO := hide hroom
  have HCN := hide hcn
  have HRL := hide hrl
  have HNX := hide hnx
  clear hB hx hout hE hS hM hxl a1 a2 a3 a4 a5 a6 a7 hFlt hGlt hKlt hw ht hnx hroom hc hL hcn hrl
  go_enter Tryz.func23, Tryz.ntmps23
  go_wp2_with fail
  refine Calls.mono (unhide HOWN) ?_
  rintro e w1 ⟨gi, rfl, hgi, o1, b1⟩
  have hB1 : BAt K w1 g dp (.pointer (some lg)) b rv tv av := (unhide HB).at_.below b1
  have hBo1 := (unhide HB).both.below b1
  have c10 := (nineteen_cells hB1.blk).1.2.2.1
  have HLF := hide (wleft_any G _ dp 256 L w1 hBo1.log)
  rw [lz256] at HLF
  have HB1 := hide hB1
  have HBo1 := hide hBo1
  have HO1 := hide o1
  have HGI := hide hgi
  have HBL1 := hide b1
  clear hB1 hBo1 o1 hgi b1 HOWN
  go_wp2_with fail
  refine Calls.mono (unhide HLF) ?_
  rintro e w2 ⟨rfl, b2⟩
  have hB2 := (unhide HB1).below b2
  have hBo2 := (unhide HBo1).below b2
  have ho2 := (unhide HO1).below b2
  have HA2 := hide (unhide HAP F G w2 gi hBo2 ho2)
  have d10 := (nineteen_cells hB2.blk).1.2.2.1
  have HB2 := hide hB2
  have HBo2 := hide hBo2
  have HO2 := hide ho2
  have HBL2 := hide ((unhide HBL1).trans (b2.mono (unhide HBL1).size))
  have HG2 : Hid (gi < w2.heap.size) := ho2.lt
  clear hB2 hBo2 ho2 b2 c10 HB1 HBo1 HO1 HLF HBL1
  generalize hLFT : (30 : Int) - ((L.next - L.first : Nat) : Int) = LFT at *
  go_wp2_with fail
  refine Calls.mono (unhide HA2) ?_
  rintro e w3 ⟨rfl, F3, G3, hBo3, hM3⟩
  have hgn : ¬ orF F G gi := fun h => by
    rcases h with h | h
    · have := unhide HFL gi h; have := unhide HGI; omega
    · have := unhide HGL gi h; have := unhide HGI; omega
  have ho3 : Owned w3 gi x 71 := (hM3.keep.block gi (unhide HG2) hgn).trans (unhide HO2)
  have hB3 : BAt K w3 g dp (.pointer (some lg)) b rv tv av := (unhide HB2).keep hM3.keep (fun k hk hK => by
    rcases hk with h | h
    · exact (unhide HB).apF k h hK
    · exact (unhide HB).apG k h hK)
  have hx3 : Row w3 (.slice xp xl xc) x := ((unhide HX).below (unhide HBL2)).keep hM3.keep (fun b' off c e hne hk => by
    obtain ⟨n1, n2, _⟩ := unhide HOUT b' off _ c e hne
    rcases hk with h | h
    · exact n1 h
    · exact n2 h)
  have HKP := hide (kept_any gi (.slice xp xl xc) x 71 71 rfl w3 ho3 hx3 (unhide HRO))
  have HB3 := hide hB3
  have HBo3 := hide hBo3
  have HO3 := hide ho3
  have HX3 := hide hx3
  have HM3 : Hid (Moves (orF F G) (orF F3 G3) w w3) := (Moves.of_below (unhide HBL2)).trans hM3
  have HS3 : Hid (∀ k, orF F3 G3 k → orF F G k ∨ w2.heap.size ≤ k) := hM3.sub
  clear hBo3 hM3 ho3 hB3 hx3 hgn d10 HA2 HB2 HBo2 HO2 HBL2 HAP
  go_wp2_with fail
  refine Calls.mono (unhide HKP) ?_
  rintro e w4 ⟨rfl, b4⟩
  have ho4 := (unhide HO3).below b4
  have HSP := hide (spoil_own gi x 71 w4 ho4 (unhide HRO))
  have HB4 := hide ((unhide HB3).below b4)
  have HBo4 := hide ((unhide HBo3).below b4)
  have HX4 := hide ((unhide HX3).below b4)
  have HM4 := hide ((unhide HM3).trans (Moves.of_below b4))
  clear b4 ho4 HB3 HBo3 HO3 HX3 HM3 HKP
  go_wp2_with fail
  refine Calls.mono (unhide HSP) ?_
  rintro e w5 ⟨rfl, k5⟩
  have hng : ¬ orF F3 G3 gi := fun h => by
    rcases unhide HS3 gi h with h1 | h1
    · rcases h1 with h1 | h1
      · have := unhide HFL gi h1; have := unhide HGI; omega
      · have := unhide HGL gi h1; have := unhide HGI; omega
    · have := unhide HG2; omega
  have hB5 : BAt K w5 g dp (.pointer (some lg)) b rv tv av := (unhide HB4).keep k5 (fun k hk hK => by have := unhide HKL k hK; have := unhide HGI; omega)
  have hBo5 : Both F3 G3 w5 (.pointer (some lg)) dp 256 S M := ⟨(unhide HBo4).dev.stays k5.size (fun k hk => k5.block k ((unhide HBo4).dev.lt k hk) (fun e => hng (Or.inl (e ▸ hk)))), (unhide HBo4).log.keep k5 (fun k hk hg => hng (Or.inr (hk ▸ hg))), (unhide HBo4).apart, (unhide HBo4).size⟩
  have hx5 : Row w5 (.slice xp xl xc) x := (unhide HX4).keep k5 (fun b' off c e hne hk => by
    have h1 := row_block_lt (unhide HX) e hne
    have := unhide HGI
    omega)
  have hM5 : Moves (orF F G) (orF F3 G3) w w5 := ⟨(unhide HM4).keep.trans k5 (fun k hk => Or.inr (by rw [hk]; exact unhide HGI)), (unhide HM4).sub⟩
  have HB5 := hide hB5
  have HBo5 := hide hBo5
  have HX5 := hide hx5
  have HM5 := hide hM5
  have HCT := hide (rcount_any (x.length : Int) w5 (by omega) (by have := unhide HRO; omega))
  rw [unhide HXL] at HCT
  clear hB5 hBo5 hx5 hM5 hng k5 HB4 HBo4 HX4 HM4 HSP HS3 HG2
  go_wp2_with fail
  refine Calls.mono (unhide HCT) ?_
  rintro e w6 ⟨rfl, rfl⟩
  have hA1 := unhide HA1
  have hA6 := unhide HA6
  have hCN := unhide HCN
  rw [unhide HXL] at hA1 hA6 hCN
  have HAPP : Hid (b.app E x = if E = 0 then { b with recs := b.recs ++ [x], turns := b.turns ++ [b.next], ages := b.ages ++ [b.age], next := b.next + (countN (xl : Int)).toNat } else b) := by
    unfold Hid BK.app
    rw [unhide HXL]
  generalize hNN : countN (xl : Int) = N at *
  obtain ⟨n1, n2⟩ := hCN
  have HBK := hide (unhide HB)
  have hend : ∀ w7, Below w6.heap.size w6 w7 → E ≠ 0 → M = L → ∃ F' G' K' rv' tv' av', Book F' G' K' w7 g (.pointer (some lg)) dp S M (b.app E x) rv' tv' av' ∧ Moves (all3 F G K) (all3 F' G' K') w w7 := by
    intro w7 b7 hE0 hML
    refine ⟨F3, G3, K, rv, tv, av, ⟨(unhide HBo5).below b7, ?_, ?_, ?_, ?_, ?_, ?_, ?_, ?_, ?_⟩, ?_⟩
    · rw [unhide HAPP, if_neg hE0]; exact (unhide HB5).below b7
    · intro k hk hK
      rcases (unhide HM5).sub k (Or.inl hk) with h | h
      · rcases h with h | h
        · exact (unhide HBK).apF k h hK
        · exact (unhide HBK).apG k h hK
      · have := unhide HKL k hK; omega
    · intro k hk hK
      rcases (unhide HM5).sub k (Or.inr hk) with h | h
      · rcases h with h | h
        · exact (unhide HBK).apF k h hK
        · exact (unhide HBK).apG k h hK
      · have := unhide HKL k hK; omega
    · rw [unhide HAPP, if_neg hE0, hML]; exact (unhide HBK).first
    · rw [unhide HAPP, if_neg hE0, hML]; exact (unhide HBK).next
    · rw [unhide HAPP, if_neg hE0, hML]; exact (unhide HBK).age
    · rw [unhide HAPP, if_neg hE0, hML]; exact (unhide HBK).starts
    · rw [unhide HAPP, if_neg hE0]; exact (unhide HBK).tl
    · rw [unhide HAPP, if_neg hE0]; exact (unhide HBK).al
    · have h6 := (unhide HM5).trans (Moves.of_below b7)
      refine ⟨h6.keep.weak (fun k hk => hk.elim Or.inl (fun h => Or.inr (Or.inl h))), fun k hk => ?_⟩
      rcases hk with hk | hk | hk
      · rcases h6.sub k (Or.inl hk) with h | h
        · exact Or.inl (h.elim Or.inl (fun h => Or.inr (Or.inl h)))
        · exact Or.inr h
      · rcases h6.sub k (Or.inr hk) with h | h
        · exact Or.inl (h.elim Or.inl (fun h => Or.inr (Or.inl h)))
        · exact Or.inr h
      · exact Or.inl (Or.inr (Or.inr hk))
  have HEND := hide hend
  clear hend HCT HA1 HA6
  by_cases h8 : 8192 < xl
  · have hEv : E = 4 := by rw [hA1, if_pos h8]
    have hMv : M = L := by rw [hA6, if_neg (by rw [hEv]; decide)]
    have HAG := hide (agree_any G3 K g dp _ b rv tv av M w6 (unhide HB5) (unhide HBo5).log (by rw [hMv]; exact (unhide HBK).first) (by rw [hMv]; exact (unhide HBK).next) (by rw [hMv]; exact (unhide HBK).least))
    have HEN2 := hide (fun w7 b7 => unhide HEND w7 b7 (by rw [hEv]; decide) hMv)
    have h8' : (8192 : Int) < xl := by omega
    have HEV := hide hEv
    clear hA1 hA6 hMv h8 HEND
    subst hEv
    go_wp2_with fail
    refine Calls.mono (unhide HAG) ?_
    rintro e w7 ⟨rfl, b7⟩
    have HE7 := hide (unhide HEN2 w7 b7)
    clear b7 HAG HEN2
    go_wp2_with fail
    go_ret
    exact ⟨rfl, unhide HE7⟩
  · have h8' : ¬ (8192 : Int) < xl := by omega
    rw [if_neg h8] at hA1
    by_cases hfull : LFT < N
    · have hEv : E = 3 := by rw [hA1, if_pos hfull]
      have hMv : M = L := by rw [hA6, if_neg (by rw [hEv]; decide)]
      have HAG := hide (agree_any G3 K g dp _ b rv tv av M w6 (unhide HB5) (unhide HBo5).log (by rw [hMv]; exact (unhide HBK).first) (by rw [hMv]; exact (unhide HBK).next) (by rw [hMv]; exact (unhide HBK).least))
      have HEN2 := hide (fun w7 b7 => unhide HEND w7 b7 (by rw [hEv]; decide) hMv)
      clear hA1 hA6 hMv h8 HEND
      subst hEv
      go_wp2_with fail
      refine Calls.mono (unhide HAG) ?_
      rintro e w7 ⟨rfl, b7⟩
      have HE7 := hide (unhide HEN2 w7 b7)
      clear b7 HAG HEN2
      go_wp2_with fail
      go_ret
      exact ⟨rfl, unhide HE7⟩
    · have hEv : E = 0 := by rw [hA1, if_neg hfull]
      have hMv : M = L.add L.age N.toNat := by rw [hA6, if_pos hEv]
      have HAP0 : Hid (b.app E x = { b with recs := b.recs ++ [x], turns := b.turns ++ [b.next], ages := b.ages ++ [b.age], next := b.next + N.toNat }) := by unfold Hid; rw [unhide HAPP, if_pos hEv]
      have HMV := hide hMv
      have HNB : Hid (N ≤ 19) := by unfold Hid; rw [← hNN]; exact count_le (by omega)
      obtain ⟨i0, hi, hz0, hz1, hz2⟩ := info_parts Tryz.infoRow
      obtain ⟨i1, hi1, hy0, hy1, hy2⟩ := info_parts Tryz.info36
      obtain ⟨vs, hvl, hvr, _⟩ := (unhide HB5).recs
      obtain ⟨rq, rc, hrv, _⟩ := hvr.shape
      subst hrv
      obtain ⟨uq, uc, htv, _⟩ := (unhide HB5).turns.shape
      subst htv
      obtain ⟨aq, ac, hav, _⟩ := (unhide HB5).ages.shape
      subst hav
      have hgl : g < w6.heap.size := (unhide HB5).lt g (unhide HB5).fg
      obtain ⟨⟨_, _, _, c11⟩, ⟨c12, c13, c14⟩, ⟨_, c16, _⟩, fz⟩ := nineteen_cells (unhide HB5).blk
      have hdw : Below w6.heap.size w6 w6.drew := (Below.refl _ _).drew
      have HCB := hide (copyBytes_any (.slice xp xl xc) x w6.drew ((unhide HX5).below hdw) (unhide HRO))
      have HVL := hide hvl
      have HVR := hide hvr
      have HVN : Hid (vs.length ≤ 100000) := by have := unhide HRL; unfold Hid; omega
      have fz12 := fz 12
      clear hA1 hA6 hMv h8 HEND HAPP hvl hvr fz hNN hdw
      subst hEv
      go_wp2_with fail
      apply one_way
      case main =>
       intro key
       go_region_law (first
        | (refine step_call1 rfl 52 _ 27 rfl (.slice xp xl xc) (by simp [Act.eval, Act.put]) ent_copy (unhide HCB) ?_; rintro t7 w7 ⟨ht7, b7⟩; obtain ⟨tq, tc, tn, e7, e7'⟩ := (row_of_owns ht7).shape; subst e7; clear e7'; have B7 : Below w6.heap.size w6 w7 := ((Below.refl _ _).drew).trans b7; have d12 := (B7.cell (World.block_lt_of_cell? _ _ c12)).trans c12; have hgl7 : g < w7.heap.size := (by have := B7.size; omega); have d12a : (w7.alloc (.cells #[.slice tq tn tc] 27)).cell? ⟨g, 12, none⟩ = some (.slice rq vs.length rc) := (((Below.refl _ w7).alloc (Nat.le_refl _) _).cell hgl7).trans d12; have hn7 : ¬ w7.heap.size = g := (by have := B7.size; omega); have hn7' : ¬ g = w7.heap.size := (by have := B7.size; omega); have HT7 := hide ht7; have HB7 := hide B7; clear ht7 b7 B7)
        | (refine step_append_tail rfl _ _ 37 rfl 27 i0 (.slice none 0 0) 24 Tryz.underlying37 hi hz0 hz1 hz2 rfl (.slice rq vs.length rc) vs (by simp [Act.eval]) ((unhide HVR).stays (fun k hk => (((unhide HB7).alloc (unhide HB7).size _).block k ((unhide HVR).lt k hk)))) ⟨w7.heap.size, 0, none⟩ 1 (.slice tq tn tc) (by simp [Act.eval]) (by simp [Addr.add]) rfl (by have := unhide HVN; unfold maxLen; omega) (by have := unhide HVN; omega) ?_; intro rv' w8 hr8 hk8 hv8 hs8; obtain ⟨q8, n8, c8, e8⟩ := hs8; subst e8; have hJ := (unhide HB5).addRec (unhide HVL) (unhide HVR) (unhide HB7) (unhide HT7) ((Below.refl _ w7).alloc (Nat.le_refl _) _) hk8 hr8 hv8; have hx8 := (hk8.block g (by simp; have := (unhide HB7).size; omega) (unhide HB5).rg).trans (((unhide HB7).alloc (unhide HB7).size _).block g hgl |>.trans (unhide HB5).blk); have x12 := (nineteen_cells hx8).2.1.1; have xf12 := (nineteen_cells hx8).2.2.2 12; have HJ := hide hJ; clear hr8 hk8 hv8 hx8 hJ))
       all_goals
        obtain ⟨hb8, hm8⟩ := unhide HJ
        clear d12 d12a hn7 hn7' hgl7 HB7 x12 xf12 HT7 HJ
        generalize w8.setCell ⟨g, 12, none⟩ (.slice q8 n8 c8) = W8 at *
        generalize newK K w6 W8 = K8 at *
        revert hb8 hm8
        generalize w7.heap.size = p7
        clear w8
        revert W8 K8 q8 n8 c8 tq tn tc p7
        exact unhide key
      case pf =>
        intro tq tc tn q8 n8 c8 W8 K8 p7 hb8 hm8
        have HB8 := hide hb8
        have HM8 := hide hm8
        have hgl8 : g < W8.heap.size := hb8.lt g hb8.fg
        have d13 := (nineteen_cells hb8.blk).2.1.2.1
        have d16 := (nineteen_cells hb8.blk).2.2.1.2.1
        have g13 := (nineteen_cells hb8.blk).2.2.2 13
        have HTR := hide hb8.turns
        have HTN : Hid ((b.turns.map U64).length ≤ 100000) := by have h1 := unhide HRL; have h2 := (unhide HB).tl; unfold Hid; rw [List.length_map]; omega
        have hne8 : ¬ W8.heap.size = g := by omega
        have e13 : (W8.drew.alloc (.cells #[.int .u64 (b.next : Int)] 36)).cell? ⟨g, 13, none⟩ = some (.slice uq (b.turns.map U64).length uc) := (((Below.refl W8.heap.size W8).drew.alloc (Nat.le_refl _) _).cell hgl8).trans d13
        clear hb8 hm8 c11 c12 c13 c14 c16 fz12 HVL HVR HVN HCB
        go_wp2_with fail
        apply one_way
        case main =>
         intro key
         go_region_law (first
          | (refine step_append_tail rfl _ _ 38 rfl 36 i1 (.int .u64 0) 8 Tryz.underlying38 hi1 hy0 hy1 hy2 rfl (.slice uq (b.turns.map U64).length uc) (b.turns.map U64) (by simp [Act.eval]) ((unhide HTR).stays (fun k hk => (((Below.refl W8.heap.size W8).drew.alloc (Nat.le_refl _) _).block k ((unhide HTR).lt k hk)))) ⟨W8.heap.size, 0, none⟩ 1 (.int .u64 (b.next : Int)) (by simp [Act.eval]) (by simp [Addr.add]) rfl (by have := unhide HTN; unfold maxLen; omega) (by have := unhide HTN; omega) ?_; intro tv' w9 hr9 hk9 hv9 hs9; obtain ⟨q9, n9, c9, e9⟩ := hs9; subst e9; have hJ := (unhide HB8).addTurn (u := b.next) ((Below.refl W8.heap.size W8).drew.alloc (Nat.le_refl _) _) hk9 hr9 hv9; have hx9 := (hk9.block g (by simp; omega) (unhide HB8).tg).trans ((((Below.refl W8.heap.size W8).drew.alloc (Nat.le_refl _) _).block g hgl8).trans (unhide HB8).blk); have x13 := (nineteen_cells hx9).2.1.2.1; have xf13 := (nineteen_cells hx9).2.2.2 13; have HJ := hide hJ; clear hr9 hk9 hv9 hx9 hJ))
         all_goals
          obtain ⟨hb9, hm9⟩ := unhide HJ
          clear x13 xf13 HJ
          generalize w9.setCell ⟨g, 13, none⟩ (.slice q9 n9 c9) = W9 at *
          generalize newK K8 W8 W9 = K9 at *
          clear w9
          revert hb9 hm9
          revert W9 K9 q9 n9 c9
          exact unhide key
        case pf =>
         intro q9 n9 c9 W9 K9 hb9 hm9
         have HB9 := hide hb9
         have HM9 := hide hm9
         have hgl9 : g < W9.heap.size := hb9.lt g hb9.fg
         have d14 := (nineteen_cells hb9.blk).2.1.2.2
         have d11 := (nineteen_cells hb9.blk).1.2.2.2
         have g14 := (nineteen_cells hb9.blk).2.2.2 14
         have HAR := hide hb9.ages
         have HAN : Hid ((b.ages.map U64).length ≤ 100000) := by have h1 := unhide HRL; have h2 := (unhide HB).al; unfold Hid; rw [List.length_map]; omega
         have hne9 : ¬ W9.heap.size = g := by omega
         have e14 : (W9.drew.alloc (.cells #[.int .u64 (b.age : Int)] 36)).cell? ⟨g, 14, none⟩ = some (.slice aq (b.ages.map U64).length ac) := (((Below.refl W9.heap.size W9).drew.alloc (Nat.le_refl _) _).cell hgl9).trans d14
         clear hb9 hm9 d13 d16 g13 HTR HTN hne8 e13
         go_wp2_with fail
         apply one_way
         case main =>
          intro key
          go_region_law (first
            | (refine step_append_tail rfl _ _ 38 rfl 36 i1 (.int .u64 0) 8 Tryz.underlying38 hi1 hy0 hy1 hy2 rfl (.slice aq (b.ages.map U64).length ac) (b.ages.map U64) (by simp [Act.eval]) ((unhide HAR).stays (fun k hk => (((Below.refl W9.heap.size W9).drew.alloc (Nat.le_refl _) _).block k ((unhide HAR).lt k hk)))) ⟨W9.heap.size, 0, none⟩ 1 (.int .u64 (b.age : Int)) (by simp [Act.eval]) (by simp [Addr.add]) rfl (by have := unhide HAN; unfold maxLen; omega) (by have := unhide HAN; omega) ?_; intro av' w10 hr10 hk10 hv10 hs10; obtain ⟨q10, n10, c10, e10⟩ := hs10; subst e10; have hJ := (unhide HB9).addAge (u := b.age) ((Below.refl W9.heap.size W9).drew.alloc (Nat.le_refl _) _) hk10 hr10 hv10; have hx10 := (hk10.block g (by simp; omega) (unhide HB9).ag).trans ((((Below.refl W9.heap.size W9).drew.alloc (Nat.le_refl _) _).block g hgl9).trans (unhide HB9).blk); have x14 := (nineteen_cells hx10).2.1.2.2; have xf14 := (nineteen_cells hx10).2.2.2 14; have HJ := hide hJ; clear hr10 hk10 hv10 hx10 hJ))
          all_goals
            obtain ⟨hb10, hm10⟩ := unhide HJ
            clear x14 xf14 HJ
            generalize w10.setCell ⟨g, 14, none⟩ (.slice q10 n10 c10) = W10 at *
            generalize newK K9 W9 W10 = K10 at *
            clear w10
            revert hb10 hm10
            revert W10 K10 q10 n10 c10
            exact unhide key
         case pf =>
          intro q10 n10 c10 W10 K10 hb10 hm10
          have d16 := (nineteen_cells hb10.blk).2.2.1.2.1
          have g16 := (nineteen_cells hb10.blk).2.2.2 16
          have hM10 : Moves K K10 w6 W10 := (unhide HM8).trans ((unhide HM9).trans hm10)
          obtain ⟨hb11, hk11⟩ := hb10.setNext (b.next + N.toNat)
          have hM11 : Moves K K10 w6 (W10.setCell ⟨g, 16, none⟩ (.int .u64 ((b.next + N.toNat : Nat) : Int))) := ⟨hM10.keep.trans hk11 hM10.sub, hM10.sub⟩
          have hNn : (N.toNat : Int) = N := by omega
          rw [Int.natCast_add, hNn] at hb11 hM11
          have hBn : b.next + 64 < 9223372036854775808 := by rw [← (unhide HBK).next]; exact unhide HNX
          have hBI : (b.next : Int) + 64 < 9223372036854775808 := by omega
          have hN19 : N ≤ 19 := unhide HNB
          have hapF3 : ∀ k, F3 k → ¬ K k := fun k hk hK => by
            rcases (unhide HM5).sub k (Or.inl hk) with h | h
            · rcases h with h | h
              · exact (unhide HBK).apF k h hK
              · exact (unhide HBK).apG k h hK
            · have := unhide HKL k hK; omega
          have hapG3 : ∀ k, G3 k → ¬ K k := fun k hk hK => by
            rcases (unhide HM5).sub k (Or.inr hk) with h | h
            · rcases h with h | h
              · exact (unhide HBK).apF k h hK
              · exact (unhide HBK).apG k h hK
            · have := unhide HKL k hK; omega
          have hbo := unhide HBo5
          obtain ⟨W11, hW11⟩ : ∃ W11, W11 = W10.setCell ⟨g, 16, none⟩ (.int .u64 ((b.next : Int) + N)) := ⟨_, rfl⟩
          rw [← hW11] at hb11 hM11
          have hbo11 : Both F3 G3 W11 (.pointer (some lg)) dp 256 S M := ⟨hbo.dev.stays hM11.keep.size (fun k hk => hM11.keep.block k (hbo.dev.lt k hk) (hapF3 k hk)), hbo.log.keep hM11.keep (fun k hk hg => hapG3 k hg hk), hbo.apart, hbo.size⟩
          have hMV := unhide HMV
          have hbk := unhide HBK
          have hBook : Book F3 G3 K10 W11 g (.pointer (some lg)) dp S M (b.app 0 x) (.slice q8 n8 c8) (.slice q9 n9 c9) (.slice q10 n10 c10) := by
            rw [unhide HAP0]
            refine ⟨hbo11, hb11, fun k hk hK => ?_, fun k hk hK => ?_, ?_, ?_, ?_, ?_, ?_, ?_⟩
            · rcases hM11.sub k hK with h | h
              · exact hapF3 k hk h
              · have := hbo.dev.lt k hk; omega
            · rcases hM11.sub k hK with h | h
              · exact hapG3 k hk h
              · have := hbo.log.lt k hk; omega
            · rw [hMV]; exact hbk.first
            · rw [hMV]; show L.next + N.toNat = b.next + N.toNat; rw [hbk.next]
            · rw [hMV]; exact hbk.age
            · rw [hMV]
              show L.starts ++ [(L.next, L.age)] = (b.turns ++ [b.next]).zip (b.ages ++ [b.age])
              rw [List.zip_append (by rw [hbk.tl, hbk.al]), hbk.starts, hbk.next, hbk.age]
              rfl
            · show (b.turns ++ [b.next]).length = (b.recs ++ [x]).length
              simp [hbk.tl]
            · show (b.ages ++ [b.age]).length = (b.recs ++ [x]).length
              simp [hbk.al]
          have hMall : Moves (all3 F G K) (all3 F3 G3 K10) w W11 := by
            have h5 := unhide HM5
            refine ⟨(h5.keep.weak (G := all3 F G K) (fun k hk => hk.elim Or.inl (fun h => Or.inr (Or.inl h)))).trans hM11.keep (fun k hk => Or.inl (Or.inr (Or.inr hk))), fun k hk => ?_⟩
            rcases hk with hk | hk | hk
            · rcases h5.sub k (Or.inl hk) with h | h
              · exact Or.inl (h.elim Or.inl (fun h => Or.inr (Or.inl h)))
              · exact Or.inr h
            · rcases h5.sub k (Or.inr hk) with h | h
              · exact Or.inl (h.elim Or.inl (fun h => Or.inr (Or.inl h)))
              · exact Or.inr h
            · rcases hM11.sub k hk with h | h
              · exact Or.inl (Or.inr (Or.inr h))
              · exact Or.inr (Nat.le_trans h5.keep.size h)
          have HAG := hide (agree_any G3 K10 g dp _ (b.app 0 x) _ _ _ M W11 hBook.at_ hBook.both.log hBook.first hBook.next hBook.least)
          have HBOOK := hide hBook
          have HMALL := hide hMall
          have HW11 := hide hW11
          clear hb10 hm10 hM10 hb11 hk11 hM11 hBn hapF3 hapG3 hbo hW11 hbo11 hMV hbk hBook hMall d14 d11 g14 HAR HAN hne9 e14 hNn
          go_wp2_with fail
          rw [← unhide HW11]
          refine Calls.mono (unhide HAG) ?_
          rintro e w12 ⟨rfl, b12⟩
          have hB12 := unhide HBOOK
          have HE12 : Hid (Book F3 G3 K10 w12 g (.pointer (some lg)) dp S M (b.app 0 x) (.slice q8 n8 c8) (.slice q9 n9 c9) (.slice q10 n10 c10) ∧ Moves (all3 F G K) (all3 F3 G3 K10) w w12) :=
            ⟨⟨hB12.both.below b12, hB12.at_.below b12, hB12.apF, hB12.apG, hB12.first, hB12.next, hB12.age, hB12.starts, hB12.tl, hB12.al⟩, (unhide HMALL).trans (Moves.of_below b12)⟩
          clear b12 hB12 HAG d16 g16
          go_wp2_with fail
          go_ret
          exact ⟨rfl, F3, G3, K10, _, _, _, unhide HE12⟩
end Go.Proofs.YtpkpjmebkikgdaaGreat

/- The statements of layer 7: a log on an empty device, and its book. -/
namespace Go.Proofs.YtpkpjmebkikgdaaGreat
open Go.RowKit

def bk0 : BK := ⟨1, [], [], [], 0, 0, 0, false⟩

set_option maxRecDepth 20000 in
set_option maxHeartbeats 1000000 in
theorem begin_any (w : World) : Calls Tryz.prog 5 #[] w fun e w' => ∃ g, e = .returned (.pointer (some ⟨g, 0, none⟩)) ∧ ∃ lp dp F G K, Book F G K w' g lp dp (DK.new 256) (lg0 0 1) bk0 (.slice none 0 0) (.slice none 0 0) (.slice none 0 0) ∧ (∀ k, all3 F G K k → w.heap.size ≤ k) ∧ Below w.heap.size w w' := by
  have HDV := hide (device_any w)
  have HOP := hide (fun F dp w' (h : DRep F w' dp (DK.new 256)) => wopen_any F dp (DK.new 256) 256 0 0 1 w' h rfl fits256 (by omega) (by omega) (by omega) (by omega))
  rw [lay256] at HDV HOP
  go_enter Tryz.func5, Tryz.ntmps5
  go_wp2_with fail
  refine Calls.mono (unhide HDV) ?_
  rintro e w1 ⟨dp, rfl, ⟨F, hD, hF⟩, b1⟩
  obtain ⟨dg, rfl⟩ := hD.ptr
  obtain ⟨W2, hW2⟩ : ∃ W2, W2 = w1.alloc (.cells #[.int .i64 256, .int .i64 3, .int .i64 13, .int .i64 30, .int .i64 43, .int .i64 73, .int .i64 30, .int .i64 103, .int .i64 4] 34) := ⟨_, rfl⟩
  have hal : Below w1.heap.size w1 W2 := by rw [hW2]; exact (Below.refl _ _).alloc (Nat.le_refl _) _
  have hX2 : W2.heap[w1.heap.size]? = some (.cells #[.int .i64 256, .int .i64 3, .int .i64 13, .int .i64 30, .int .i64 43, .int .i64 73, .int .i64 30, .int .i64 103, .int .i64 4] 34 (0, 0)) := by rw [hW2]; exact heap_alloc_new w1 _
  have hD2 := hD.stays hal.size (fun k hk => hal.block k (hD.lt k hk))
  have HO := hide (unhide HOP F _ W2 hD2)
  have HD2 := hide hD2
  have HF := hide hF
  have HB2 := hide (b1.trans (hal.mono b1.size))
  have HX2 := hide hX2
  have HW2 := hide hW2
  have HWS : Hid (w.heap.size ≤ w1.heap.size) := b1.size
  clear hD hD2 hF b1 hal HDV HOP hX2 hW2
  go_wp2_with fail
  rw [← unhide HW2]
  refine Calls.mono (unhide HO) ?_
  rintro e w3 ⟨hO, b3⟩
  unfold OpenR at hO
  rw [if_neg (by decide), opened_new, if_neg (by simp)] at hO
  obtain ⟨lp, v, G, H, rfl, hr, hl, hH, hG, hHG⟩ := hO
  have hD3 := (unhide HD2).stays b3.size (fun k hk => b3.block k ((unhide HD2).lt k hk))
  have hlt2 := (unhide HD2).lt
  have hBo : Both F G w3 lp (.pointer (some dg)) 256 (DK.new 256) (lg0 0 1) := ⟨hD3, hl, fun k hk hg => by have := hlt2 k hk; have := hG k hg; omega, rfl⟩
  obtain ⟨vs, hvs⟩ := hr.owns
  obtain ⟨q5, c5, hv5⟩ : ∃ q cc, v = .slice q 0 cc := by
    rcases hvs.2 with ⟨e1, _⟩ | ⟨g6, cap6, cur6, e1, _⟩
    · exact ⟨_, _, e1⟩
    · exact ⟨_, _, e1⟩
  subst hv5
  obtain ⟨lg, hlg⟩ : ∃ lg, lp = .pointer (some lg) := by obtain ⟨g, sv, e, _⟩ := hl; exact ⟨_, e⟩
  subst hlg
  have hX3 := (b3.block w1.heap.size (Array.getElem?_eq_some_iff.1 (unhide HX2)).1).trans (unhide HX2)
  obtain ⟨c0, c1, c2, c3, c4, c5', c6, c7, c8⟩ := nine_cells hX3
  have HB3 := hide ((unhide HB2).trans (b3.mono (unhide HB2).size))
  obtain ⟨W4, hW4⟩ : ∃ W4, W4 = w3.alloc (.cells #[.pointer (some dg), .int .i64 256, .int .i64 3, .int .i64 13, .int .i64 30, .int .i64 43, .int .i64 73, .int .i64 30, .int .i64 103, .int .i64 4, .pointer (some lg), .int .u64 1, .slice none 0 0, .slice none 0 0, .slice none 0 0, .int .u64 0, .int .u64 0, .int .i64 0, .bool false] 40) := ⟨_, rfl⟩
  have hb4 : Below w3.heap.size w3 W4 := by rw [hW4]; exact (Below.refl _ _).alloc (Nat.le_refl _) _
  have hBk : Book F G (fun k => k = w3.heap.size) W4 w3.heap.size (.pointer (some lg)) (.pointer (some dg)) (DK.new 256) (lg0 0 1) bk0 (.slice none 0 0) (.slice none 0 0) (.slice none 0 0) := by
    refine ⟨hBo.below hb4, ⟨by rw [hW4]; exact heap_alloc_new w3 _, TRecs.nil _ _, TRow.nil _ _ _, TRow.nil _ _ _, (fun k hk => by cases hk), rfl, fun k hk => by rw [hk, hW4]; simp⟩, fun k hk e => ?_, fun k hk e => ?_, rfl, rfl, rfl, rfl, rfl, rfl⟩
    · have := hBo.dev.lt k hk; omega
    · have := hBo.log.lt k hk; omega
  have HEND : Hid (∃ lp dp F G K, Book F G K W4 w3.heap.size lp dp (DK.new 256) (lg0 0 1) bk0 (.slice none 0 0) (.slice none 0 0) (.slice none 0 0) ∧ (∀ k, all3 F G K k → w.heap.size ≤ k) ∧ Below w.heap.size w W4) := by
    refine ⟨_, _, F, G, _, hBk, fun k hk => ?_, (unhide HB3).trans (hb4.mono (unhide HB3).size)⟩
    rcases hk with h | h | h
    · exact unhide HF k h
    · exact Nat.le_trans (unhide HB2).size (hG k h)
    · rw [h]; exact (unhide HB3).size
  have HW4 := hide hW4
  clear hr hl hH hG hHG hD3 hlt2 hBo hvs b3 hX3 hW4 hb4 hBk HO
  go_wp2_with fail
  rw [← unhide HW4]
  go_ret
  exact ⟨_, rfl, unhide HEND⟩
end Go.Proofs.YtpkpjmebkikgdaaGreat
