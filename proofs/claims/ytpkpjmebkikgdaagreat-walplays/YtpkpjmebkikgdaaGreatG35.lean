/- Texts of ours, one behind the other: WalStep, WalOps, WalTurnM. -/
import Derived.Test.YtpkpjmebkikgdaaGreatG2
import Derived.Test.YtpkpjmebkikgdaaGreatG4
import Derived.Test.YtpkpjmebkikgdaaGreatG32
import Derived.Test.YtpkpjmebkikgdaaGreatG34
import Derived.Test.YtpkpjmebkikgdaaGreatG36
import Derived.StillTailTactics
/- The statements of layer 7: one thing that is done to a book, on a calm device. -/
namespace Go.Proofs.YtpkpjmebkikgdaaGreat
open Go.RowKit

/-- Something done: its kind, its number, its bytes, what is kept. -/
structure OpW where
  kind : Int
  n : Int
  b : List UInt8
  keep : List Bool
/-- The cells of such a thing. -/
def opC (o : OpW) (bv kv : Value) : Array Value := #[.int .i64 o.kind, .int .i64 o.n, bv, kv]

/-- A book in some state on a calm device, nothing of it below a size. -/
def Calmly (w0 : World) (g : Nat) (m : Nat) (w : World) : Prop :=
  ∃ F G K lp dp s L b rv tv av S ids, Run F G K w g lp dp s L b rv tv av S ids m ∧ (∀ j, all3 F G K j → w0.heap.size ≤ j) ∧ Below w0.heap.size w0 w

theorem Run.mono {F G K : Nat → Prop} {w : World} {g : Nat} {lp dp : Value} {s : DK} {L : LG} {b : BK} {rv tv av : Value} {S : Id → Prop} {ids : List Id} {m m' : Nat} (h : Run F G K w g lp dp s L b rv tv av S ids m) (h1 : m ≤ m') (h2 : m' ≤ 1000) : Run F G K w g lp dp s L b rv tv av S ids m' :=
  ⟨h.book, h.calm, h.live, h.dead, h.lst, h.inv, h.right, by have := h.waits; omega, by have := h.ticks; omega, by have := h.next; omega, by have := h.age; omega, h2, h.turns⟩

set_option maxRecDepth 20000 in
set_option maxHeartbeats 8000000 in
theorem step_calm (w0 : World) (g m : Nat) (o : OpW) (bv kv : Value) (w : World) (h : Calmly w0 g m w) (hm : m + 1 ≤ 1000) (hb : Row w0 bv o.b) (hbl : o.b.length ≤ 140737488351232) (hk : BRow w0 kv o.keep) (ho4 : o.kind ≠ 4) (hn : -9223372036854775808 ≤ o.n ∧ o.n ≤ 9223372036854775807) :
    Calls Tryz.prog 7 #[.pointer (some ⟨g, 0, none⟩), .agg (opC o bv kv)] w fun e w' => e = .returned (.bool true) ∧ Calmly w0 g (m + 1) w' := by
  obtain ⟨F, G, K, lp, dp, s, L, b, rv, tv, av, S, ids, hR, hall, hB⟩ := h
  obtain ⟨bp, bc, bl, rfl, hbe⟩ := hb.shape
  obtain ⟨kp, kc, rfl, _, _⟩ := hk.shape
  obtain ⟨dg, hdg⟩ := hR.book.both.dev.ptr
  subst hdg
  obtain ⟨lg, hlg⟩ := hR.book.both.log.ptr
  subst hlg
  unfold opC
  obtain ⟨knd, num, bb, ks⟩ := o
  dsimp only at *
  have HR := hide hR
  have HALL := hide hall
  have HB := hide hB
  have HBV := hide hb
  have HKV := hide hk
  have HBE := hide hbe
  have HHN := hide hn
  have c0 := (nineteen_cells hR.book.at_.blk).1.1
  have hgl : g < w.heap.size := hR.book.at_.lt g hR.book.at_.fg
  have hne : ¬ w.heap.size = g := by omega
  have hne2 : ¬ g = w.heap.size := by omega
  obtain ⟨W1, hW1⟩ : ∃ W1, W1 = w.alloc (.cells #[.int .i64 knd, .int .i64 num, .slice bp bl bc, .slice kp ks.length kc] 30) := ⟨_, rfl⟩
  have b1 : Below w.heap.size w W1 := by rw [hW1]; exact (Below.refl _ _).alloc (Nat.le_refl _) _
  have hX1 : W1.heap[w.heap.size]? = some (.cells #[.int .i64 knd, .int .i64 num, .slice bp bl bc, .slice kp ks.length kc] 30 (0, 0)) := by rw [hW1]; exact heap_alloc_new w _
  have HDN := hide (odown_any F _ s W1 (hR.below b1).book.both.dev)
  rw [hR.calm.1] at HDN
  have HX1 := hide hX1
  have HB1 := hide b1
  have HW1 := hide hW1
  clear hR hall hB hb hk hbe hn b1 hX1 hW1
  go_enter Tryz.func7, Tryz.ntmps7
  go_wp2_with fail
  rw [← unhide HW1]
  refine Calls.mono (unhide HDN) ?_
  rintro e w2 ⟨rfl, b2⟩
  have hX2 := (b2.block w.heap.size (Array.getElem?_eq_some_iff.1 (unhide HX1)).1).trans (unhide HX1)
  have o0 : w2.cell? ⟨w.heap.size, 0, none⟩ = some (.int .i64 knd) := by rw [cell_of_row w2 _ _ _ _ (0, 0) hX2]; rfl
  have o1 : w2.cell? ⟨w.heap.size, 1, none⟩ = some (.int .i64 num) := by rw [cell_of_row w2 _ _ _ _ (0, 0) hX2]; rfl
  have o2 : w2.cell? ⟨w.heap.size, 2, none⟩ = some (.slice bp bl bc) := by rw [cell_of_row w2 _ _ _ _ (0, 0) hX2]; rfl
  have o3 : w2.cell? ⟨w.heap.size, 3, none⟩ = some (.slice kp ks.length kc) := by rw [cell_of_row w2 _ _ _ _ (0, 0) hX2]; rfl
  have hR2 := (unhide HR).below ((unhide HB1).trans (b2.mono (unhide HB1).size))
  have hB2 := (unhide HB).trans (((unhide HB1).trans (b2.mono (unhide HB1).size)).mono (unhide HB).size)
  clear c0
  have c0 := (nineteen_cells hR2.book.at_.blk).1.1
  have c10 := (nineteen_cells hR2.book.at_.blk).1.2.2.1
  have HR2 := hide hR2
  have HB2 := hide hB2
  have HX2 := hide hX2
  clear b2 hR2 hB2 hX2 HDN HX1 HB1 HR HB HW1 hne hne2 hgl
  by_cases hk1 : knd = 1
  · subst hk1
    have HSY := hide (run_sync (unhide HR2) hm)
    go_wp2_with fail
    refine Calls.mono (unhide HSY) ?_
    rintro e w3 ⟨rfl, F3, s3, hR3, hw3, hM3⟩
    obtain ⟨vs, hvl, hvr⟩ := hR3.book.at_.recs.row
    obtain ⟨rq, rc, hrv, _⟩ := hvr.shape
    subst hrv
    obtain ⟨_, ⟨d12, _⟩, ⟨_, _, d17, _⟩, fz⟩ := nineteen_cells hR3.book.at_.blk
    have f17 := fz 17
    obtain ⟨hR4, hK4⟩ := hR3.allSafe hw3 vs.length (by rw [hvl, hR3.len]; exact Nat.le_refl _)
    obtain ⟨W4, hW4⟩ : ∃ W4, W4 = w3.setCell ⟨g, 17, none⟩ (.int .i64 (vs.length : Int)) := ⟨_, rfl⟩
    rw [← hW4] at hR4 hK4
    have hall3 : ∀ j, all3 F3 G K j → w0.heap.size ≤ j := fun j hj => by
      rcases hM3.sub j hj with h | h
      · exact unhide HALL j h
      · exact Nat.le_trans (unhide HB2).size h
    have hB3 := (unhide HB2).trans (hM3.keep.below (unhide HB2).size (unhide HALL))
    have hB4 := hB3.trans (hK4.below hB3.size hall3)
    have HAG := hide (agree_any G K g _ _ _ _ _ _ _ W4 hR4.book.at_ hR4.book.both.log hR4.book.first hR4.book.next hR4.book.least)
    have HFIN : Hid (∀ w5, Below W4.heap.size W4 w5 → Calmly w0 g (m + 1) w5) := fun w5 b5 => ⟨F3, G, K, _, _, s3, L, _, _, tv, av, S, ids, hR4.below b5, hall3, hB4.trans (b5.mono hB4.size)⟩
    have HW4 := hide hW4
    clear hR3 hw3 hM3 hvl hvr fz hR4 hK4 hall3 hB3 hB4 hW4 HSY c10 c0
    go_wp2_with fail
    rw [← unhide HW4]
    refine Calls.mono (unhide HAG) ?_
    rintro e w5 ⟨rfl, b5⟩
    have HE := hide (unhide HFIN w5 b5)
    clear b5 HFIN HAG
    go_wp2_with fail
    go_ret
    exact ⟨rfl, unhide HE⟩
  · by_cases hk2 : knd = 2
    · subst hk2
      clear hk1
      obtain ⟨vs, hvl, hvr⟩ := (unhide HR2).book.at_.recs.row
      obtain ⟨rq, rc, hrv, _⟩ := hvr.shape
      subst hrv
      have c12 := (nineteen_cells (unhide HR2).book.at_.blk).2.1.1
      have hvi : vs.length = ids.length := by rw [hvl, (unhide HR2).len]
      have hcnt := (unhide HR2).inv.count
      obtain ⟨NN, hw1, hNN⟩ : ∃ NN : Int, IntKind.i64.wrap ((vs.length : Int) + 1) = NN ∧ NN = (vs.length : Int) + 1 := ⟨_, rfl, by rw [IntKind.wrap_i64]; omega⟩
      have hw2 : IntKind.u64.wrap NN = NN := by rw [IntKind.wrap_u64]; omega
      obtain ⟨i, hi1, hi2⟩ : ∃ i : Nat, (IntKind.u64.wrap num).tmod NN = (i : Int) ∧ i ≤ ids.length := by
        have h0 : 0 ≤ IntKind.u64.wrap num := by rw [IntKind.wrap_u64]; omega
        rw [Int.tmod_eq_emod_of_nonneg h0]
        have h1 := Int.emod_nonneg (IntKind.u64.wrap num) (b := NN) (by omega)
        have h2 := Int.emod_lt_of_pos (IntKind.u64.wrap num) (b := NN) (by omega)
        exact ⟨(IntKind.u64.wrap num % NN).toNat, by omega, by omega⟩
      have hnz : ¬ NN = 0 := by omega
      have hwi : IntKind.i64.wrap (i : Int) = (i : Int) := by rw [IntKind.wrap_i64]; omega
      have hiI : (i : Int) ≤ 30 := by omega
      have HI2 := hide hi2
      have hdr : Below w2.heap.size w2 w2.drew := (Below.refl _ _).drew
      have HFR := hide (run_free ((unhide HR2).below hdr) i hi2)
      have HBD := hide ((unhide HB2).trans (hdr.mono (unhide HB2).size))
      clear hvl hvr hvi hcnt hNN hi2 c0 c10 hdr
      go_wp2_with fail
      go_still_tail 13, (by kernel_rfl)
      go_wp2_with fail
      refine Calls.mono (unhide HFR) ?_
      rintro e w3 ⟨rfl, rv3, tv3, av3, hR3, hK3⟩
      have HE : Hid (Calmly w0 g (m + 1) w3) := ⟨F, G, K, _, _, s, _, _, rv3, tv3, av3, S, ids.drop i, hR3.mono (by omega) hm, unhide HALL, (unhide HBD).trans (hK3.below (unhide HBD).size (unhide HALL))⟩
      clear hR3 hK3 HFR
      go_wp2_with fail
      go_ret
      exact ⟨rfl, unhide HE⟩
    · by_cases hk3 : knd = 3
      · subst hk3
        clear hk1 hk2
        have hksl : ∀ b' off n' c', Value.slice kp ks.length kc = .slice (some ⟨b', off, none⟩) n' c' → 0 < n' → ¬ F b' := fun b' off n' c' e hn0 h => by
          have hkl : 0 < ks.length := by simp only [Value.slice.injEq] at e; omega
          obtain ⟨b7, o7, cap7, e7, _, hc7⟩ := (unhide HKV).at 0 hkl
          rw [e] at e7
          simp only [Value.slice.injEq, Option.some.injEq, Addr.mk.injEq, and_true] at e7
          have h1 := World.block_lt_of_cell? w0 _ hc7
          have h2 := unhide HALL b' (Or.inl h)
          rw [e7.1.1] at h2
          exact Nat.lt_irrefl _ (Nat.lt_of_lt_of_le h1 h2)
        have hdr : Below w2.heap.size w2 w2.drew := (Below.refl _ _).drew
        have HBD := hide ((unhide HB2).trans (hdr.mono (unhide HB2).size))
        have HCR := hide (held_crash ((unhide HR2).below hdr).book.held ((unhide HKV).below (unhide HBD)) hksl (by have := (unhide HR2).waits; omega))
        clear hksl c10 hdr
        go_wp2_with fail
        go_still_tail 6, (by kernel_rfl)
        go_wp2_with fail
        refine Calls.mono (unhide HCR) ?_
        rintro e w3 ⟨rfl, F3, hH3, hM3⟩
        have d0 := (nineteen_cells hH3.at_.blk).1.1
        have HST := hide (held_start hH3)
        have HB3 := hide ((unhide HBD).trans (hM3.keep.below (unhide HBD).size (fun j hj => unhide HALL j (Or.inl hj))))
        have HN3 : Hid (∀ j, F3 j → w0.heap.size ≤ j) := fun j hj => by
          rcases hM3.sub j hj with h | h
          · exact unhide HALL j (Or.inl h)
          · exact Nat.le_trans (unhide HBD).size h
        clear hH3 hM3 c0 HCR o0 o1 o2 o3
        go_wp2_with fail
        refine Calls.mono (unhide HST) ?_
        rintro e w4 ⟨rfl, F4, hH4, hM4⟩
        have hR := unhide HR2
        have hmay : ∀ j c, May ((s.crash ks).start) j c → May s j c := fun j c h => may_crash (start_may h)
        obtain ⟨l1, l2, hids, hr1, hr2⟩ := split_right ((s.crash ks).start) ids
        have HOPN := hide (run_open (l1 := l1) (l2 := l2) (m := m) hH4 hR.dead (by rw [← hids]; exact hR.lst) (by rw [← hids]; exact hR.inv.less hmay) ⟨rfl, rfl⟩ hr1 hr2 (Or.inl rfl) true (fun _ => rfl) (by show 0 ≤ _; omega) (by show 0 ≤ _; omega) hR.next hR.age hm hR.turns)
        have HB4 := hide ((unhide HB3).trans (hM4.keep.below (unhide HB3).size (unhide HN3)))
        have HN4 : Hid (∀ j, F4 j → w0.heap.size ≤ j) := fun j hj => by
          rcases hM4.sub j hj with h | h
          · exact unhide HN3 j h
          · exact Nat.le_trans (unhide HB3).size h
        clear hH4 hM4 hmay hids hr1 hr2 hR HST d0
        go_wp2_with fail
        refine Calls.mono (unhide HOPN) ?_
        rintro e w5 ⟨rfl, G5, lp5, L5, e5, rv5, tv5, av5, hR5, hG5, hK5, _⟩
        have HE : Hid (Calmly w0 g (m + 1) w5) := by
          refine ⟨F4, G5, K, lp5, _, _, L5, _, rv5, tv5, av5, S, l1, hR5, fun j hj => ?_, (unhide HB4).trans (hK5.below (unhide HB4).size (fun j hj => unhide HALL j (Or.inr (Or.inr hj))))⟩
          rcases hj with h | h | h
          · exact unhide HN4 j h
          · exact Nat.le_trans (unhide HB4).size (hG5 j h)
          · exact unhide HALL j (Or.inr (Or.inr h))
        clear hR5 hG5 hK5 HOPN
        go_wp2_with fail
        go_ret
        exact ⟨rfl, unhide HE⟩
      · by_cases hk5 : knd = 5
        · subst hk5
          clear hk1 hk2 hk3
          have HOPN := hide (run_open (l1 := ids) (l2 := []) (unhide HR2).book.held (unhide HR2).dead (by rw [List.append_nil]; exact (unhide HR2).lst) (by rw [List.append_nil]; exact (unhide HR2).inv) (unhide HR2).calm (unhide HR2).right (fun z l3 h => by cases h) (Or.inr rfl) false (fun h => by cases h) (unhide HR2).waits (unhide HR2).ticks (unhide HR2).next (unhide HR2).age hm (unhide HR2).turns)
          go_wp2_with fail
          refine Calls.mono (unhide HOPN) ?_
          rintro e w3 ⟨rfl, G3, lp3, L3, e3, rv3, tv3, av3, hR3, hG3, hK3, _⟩
          have HE : Hid (Calmly w0 g (m + 1) w3) := by
            refine ⟨F, G3, K, lp3, _, s, L3, _, rv3, tv3, av3, S, ids, hR3, fun j hj => ?_, (unhide HB2).trans (hK3.below (unhide HB2).size (fun j hj => unhide HALL j (Or.inr (Or.inr hj))))⟩
            rcases hj with h | h | h
            · exact unhide HALL j (Or.inl h)
            · exact Nat.le_trans (unhide HB2).size (hG3 j h)
            · exact unhide HALL j (Or.inr (Or.inr h))
          clear hR3 hG3 hK3 HOPN
          go_wp2_with fail
          go_ret
          exact ⟨rfl, unhide HE⟩
        · have HAP := hide (run_append (unhide HR2) hm ((unhide HBV).below (unhide HB2)) hbl (fun j off n c e hne => by
            have h4 := row_block_lt (unhide HBV) e hne
            exact ⟨fun h => by have := unhide HALL j (Or.inl h); omega, fun h => by have := unhide HALL j (Or.inr (Or.inl h)); omega, fun h => by have := unhide HALL j (Or.inr (Or.inr h)); omega⟩))
          go_wp2_with fail
          refine Calls.mono (unhide HAP) ?_
          rintro e w3 ⟨rfl, F3, G3, K3, s3, L3, b3, rv3, tv3, av3, S3, ids3, hR3, hM3, _⟩
          have HE : Hid (Calmly w0 g (m + 1) w3) := ⟨F3, G3, K3, _, _, s3, L3, b3, rv3, tv3, av3, S3, ids3, hR3, fun j hj => by
            rcases hM3.sub j hj with h | h
            · exact unhide HALL j h
            · exact Nat.le_trans (unhide HB2).size h, (unhide HB2).trans (hM3.keep.below (unhide HB2).size (unhide HALL))⟩
          clear hR3 hM3 HAP
          go_wp2_with fail
          go_ret
          exact ⟨rfl, unhide HE⟩
end Go.Proofs.YtpkpjmebkikgdaaGreat

/- A script of things done to a log, as it came in. -/
namespace Go.Proofs.YtpkpjmebkikgdaaGreat
open Go.RowKit

instance : Inhabited OpW := ⟨⟨0, 0, [], []⟩⟩
def opwSh : Sh := .struct (.cons (.int .i64) (.cons (.int .i64) (.cons (.row 1 (.int .u8)) (.cons (.row 1 .bool) .nil))))
def opwsSh : Sh := .row 64 opwSh
/-- A slice value that reads as this script. -/
def OpsW (w : World) (s : Value) (l : List OpW) : Prop :=
  ∃ (a : Option Addr) (cap : Nat), s = .slice a l.length cap ∧ l.length ≤ cap ∧ cap ≤ maxLen ∧
    (l = [] ∨ ∃ b off, a = some ⟨b, off, none⟩ ∧ ∀ j (h : j < l.length), ∃ bv kv, w.cell? ⟨b, off + j * 4, none⟩ = some (.int .i64 l[j].kind) ∧ w.cell? ⟨b, off + j * 4 + 1, none⟩ = some (.int .i64 l[j].n) ∧ w.cell? ⟨b, off + j * 4 + 2, none⟩ = some bv ∧ w.cell? ⟨b, off + j * 4 + 3, none⟩ = some kv ∧
      Row w bv l[j].b ∧ l[j].b.length ≤ 140737488351232 ∧ BRow w kv l[j].keep ∧ -9223372036854775808 ≤ l[j].n ∧ l[j].n ≤ 9223372036854775807)
theorem opsw_of_reads {w : World} {v : Value} {d : Dt} (h : Reads limSaid w opwsSh [v] d) : ∃ l : List OpW, OpsW w v l := by
  obtain ⟨a, cap, l, h1, h2, h3, h4, h5, h6, h7⟩ := h
  simp only [List.cons.injEq, and_true] at h1
  have hb : ∀ j (hj : j < l.length), ∃ o : OpW, ∀ b off, a = some ⟨b, off, none⟩ → ∃ bv kv, w.cell? ⟨b, off + j * 4, none⟩ = some (.int .i64 o.kind) ∧ w.cell? ⟨b, off + j * 4 + 1, none⟩ = some (.int .i64 o.n) ∧ w.cell? ⟨b, off + j * 4 + 2, none⟩ = some bv ∧ w.cell? ⟨b, off + j * 4 + 3, none⟩ = some kv ∧
      Row w bv o.b ∧ o.b.length ≤ 140737488351232 ∧ BRow w kv o.keep ∧ -9223372036854775808 ≤ o.n ∧ o.n ≤ 9223372036854775807 := by
    intro j hj
    rcases h7 with rfl | ⟨b, off, ha, hc⟩
    · cases hj
    · obtain ⟨cs, e1, e2, c1, r1, d1, t1, q1, _, _, ⟨n1, rfl, _, _⟩, c2, r2, d2, t2, rfl, _, _, ⟨n2, rfl, w2, _⟩, c3, r3, d3, t3, rfl, _, _, hr3, c4, r4, d4, t4, rfl, _, _, hk4, rfl, _⟩ := hc j hj
      have hr3' := hr3
      obtain ⟨_, _, _, k3, _⟩ := hr3
      subst k3
      have hk4' := hk4
      obtain ⟨_, _, _, k4, _⟩ := hk4
      subst k4
      obtain ⟨bs, hbs, hbl⟩ := row_of_reads hr3'
      obtain ⟨ks, hks, _⟩ := bools_of_reads hk4'
      have hb2 := bounds_i64 w2
      have hs4 : opwSh.size = 4 := rfl
      rw [hs4] at e2
      refine ⟨⟨n1, n2, bs, ks⟩, fun b' off' ha' => ?_⟩
      rw [ha] at ha'
      cases ha'
      subst q1
      exact ⟨_, _, e2 0 _ rfl, e2 1 _ rfl, e2 2 _ rfl, e2 3 _ rfl, hbs, hbl, hks, hb2⟩
  obtain ⟨f, hf⟩ := Go.Deep.choose_lt hb
  have hlen : (((List.range l.length).map f)).length = l.length := by simp
  refine ⟨(List.range l.length).map f, a, cap, by rw [hlen]; exact h1, by rw [hlen]; exact h3, h4, ?_⟩
  by_cases h0 : l = []
  · left; subst h0; rfl
  · right
    rcases h7 with h7 | ⟨b, off, ha, hc⟩
    · exact absurd h7 h0
    · refine ⟨b, off, ha, fun j hj => ?_⟩
      have hj' : j < l.length := by simpa using hj
      simp only [List.getElem_map, List.getElem_range]
      exact hf j hj' b off ha
end Go.Proofs.YtpkpjmebkikgdaaGreat

/- The statement WalTurned: a device whose bits are turned, the book beside it, the marks, the bits: in memory. -/
namespace Go.Proofs.YtpkpjmebkikgdaaGreat
open Go.RowKit

theorem tbelow_drewN {b : Nat} {w w' : World} (h : Below b w w') (n : Nat) : Below b w (w'.drewN n) := ⟨h.os, h.tape, h.output, h.size, h.block⟩
def hitC (H : Nat → Bool) : Array Value := ((List.range 30).map fun a => Value.bool (H a)).toArray
theorem hitC_size (H : Nat → Bool) : (hitC H).size = 30 := by simp [hitC]
theorem hitC_at (H : Nat → Bool) (a : Nat) (h : a < 30) : (hitC H)[a]? = some (.bool (H a)) := by simp [hitC, h]
theorem hitC_set (H : Nat → Bool) (a0 : Nat) (_h : a0 < 30) : (hitC H).setIfInBounds a0 (.bool true) = hitC (fun a => if a = a0 then true else H a) := by
  apply Array.ext
  · rw [Array.size_setIfInBounds, hitC_size, hitC_size]
  · intro i h1 h2
    have hi : i < 30 := by rw [hitC_size] at h2; exact h2
    rw [Array.getElem_setIfInBounds (by rw [hitC_size]; exact hi)]
    have e2 := hitC_at (fun a => if a = a0 then true else H a) i hi
    have e1 := hitC_at H i hi
    rw [Array.getElem?_eq_getElem h2, Option.some.injEq] at e2
    rw [Array.getElem?_eq_getElem (by rw [hitC_size]; exact hi), Option.some.injEq] at e1
    rw [e2, e1]
    by_cases hia : a0 = i
    · rw [if_pos hia, if_pos hia.symm]
    · rw [if_neg hia, if_neg (fun e => hia e.symm)]

/-- A device, the book beside it, the marks, the bits. -/
structure TM (w wr : World) (K : Nat → Prop) (g gh gb : Nat) (lp dp : Value) (b : BK) (rv tv av : Value) (bits : Array Value) (H : Nat → Bool) (s : DK) : Prop where
  dev : ∃ F, DRep F wr dp s ∧ (∀ k, F k → ¬ K k) ∧ ¬ F gh ∧ ¬ F gb ∧ (∀ k, F k → w.heap.size ≤ k)
  book : BAt K wr g dp lp b rv tv av
  marks : wr.heap[gh]? = some (.cells (hitC H) 4 (0, 0))
  cells : wr.heap[gb]? = some (.cells bits 3 (0, 0))
  apK : ¬ K gh ∧ ¬ K gb
  ne : gh ≠ gb
  base : w.heap.size ≤ gh
  bel : Below w.heap.size w wr
section
variable {w wr wx : World} {K : Nat → Prop} {g gh gb : Nat} {lp dp : Value} {b : BK} {rv tv av : Value} {bits : Array Value} {H : Nat → Bool} {s : DK}
theorem TM.lts (h : TM w wr K g gh gb lp dp b rv tv av bits H s) : gh < wr.heap.size ∧ gb < wr.heap.size ∧ g < wr.heap.size :=
  ⟨(Array.getElem?_eq_some_iff.1 h.marks).1, (Array.getElem?_eq_some_iff.1 h.cells).1, h.book.lt g h.book.fg⟩
theorem TM.below (h : TM w wr K g gh gb lp dp b rv tv av bits H s) (hb : Below wr.heap.size wr wx) : TM w wx K g gh gb lp dp b rv tv av bits H s := by
  obtain ⟨F, h1, h2, h3, h4, h5⟩ := h.dev
  obtain ⟨l1, l2, l3⟩ := h.lts
  exact ⟨⟨F, h1.stays hb.size (fun k hk => hb.block k (h1.lt k hk)), h2, h3, h4, h5⟩, h.book.below hb, (hb.block gh l1).trans h.marks, (hb.block gb l2).trans h.cells, h.apK, h.ne, h.base, h.bel.trans (hb.mono h.bel.size)⟩
theorem TM.hit (h : TM w wr K g gh gb lp dp b rv tv av bits H s) (a : Nat) (ha : a < 30) : wr.cell? ⟨gh, a, none⟩ = some (.bool (H a)) ∧ wr.frozen? ⟨gh, a, none⟩ = false := by
  refine ⟨?_, by simp [World.frozen?, h.marks]⟩
  rw [cell_of_row wr gh _ _ _ (0, 0) h.marks]
  exact hitC_at H a ha
theorem TM.bit (h : TM w wr K g gh gb lp dp b rv tv av bits H s) (a : Nat) (v : Value) (ha : bits[a]? = some v) : wr.cell? ⟨gb, a, none⟩ = some v := by
  rw [cell_of_row wr gb _ _ _ (0, 0) h.cells]
  exact ha
theorem TM.mark (h : TM w wr K g gh gb lp dp b rv tv av bits H s) (a : Nat) (ha : a < 30) : TM w (wr.setCell ⟨gh, a, none⟩ (.bool true)) K g gh gb lp dp b rv tv av bits (fun x => if x = a then true else H x) s := by
  obtain ⟨F, h1, h2, h3, h4, h5⟩ := h.dev
  have hK : Keep (fun k => k = gh) wr (wr.setCell ⟨gh, a, none⟩ (.bool true)) := ⟨rfl, rfl, rfl, by simp, fun k _ hk => heap_setCell_other wr ⟨gh, a, none⟩ k _ (fun e => hk (by simp at e; exact e.symm ▸ rfl))⟩
  obtain ⟨l1, l2, l3⟩ := h.lts
  refine ⟨⟨F, h1.stays hK.size (fun k hk => hK.block k (h1.lt k hk) (fun e => h3 (e ▸ hk))), h2, h3, h4, h5⟩, h.book.stays hK.size (fun k hk => hK.block k (h.book.lt k hk) (fun e => h.apK.1 (e ▸ hk))), ?_, (hK.block gb l2 (fun e => h.ne e.symm)).trans h.cells, h.apK, h.ne, h.base, h.bel.trans (hK.below h.bel.size (fun k hk => by rw [hk]; exact h.base))⟩
  have h6 := heap_setCell_same wr gh a _ _ (.bool true) h.marks
  rw [h6, hitC_set H a ha]
theorem tm_flip (h : TM w wr K g gh gb lp dp b rv tv av bits H s) (a bit : Int) (ht : s.turns ≤ 1048576) :
    Calls Tryz.prog 14 #[dp, .int .i64 a, .int .i64 bit] wr fun e w' => e = .returned (.int .i64 (s.flipE a bit)) ∧ TM w w' K g gh gb lp dp b rv tv av bits H (s.flip a bit) := by
  obtain ⟨F, h1, h2, h3, h4, h5⟩ := h.dev
  obtain ⟨l1, l2, l3⟩ := h.lts
  refine (oflip_any F dp s a bit wr h1 ht).mono ?_
  rintro e w' ⟨rfl, F', hD, hM⟩
  refine ⟨rfl, ⟨F', hD, fun k hk hK => ?_, fun hk => ?_, fun hk => ?_, fun k hk => ?_⟩, h.book.stays hM.keep.size (fun k hk => hM.keep.block k (h.book.lt k hk) (fun hf => h2 k hf hk)), (hM.keep.block gh l1 h3).trans h.marks, (hM.keep.block gb l2 h4).trans h.cells, h.apK, h.ne, h.base, h.bel.trans (hM.keep.below h.bel.size h5)⟩
  · rcases hM.sub k hk with e | e
    · exact h2 k e hK
    · have := h.book.lt k hK; omega
  · rcases hM.sub gh hk with e | e
    · exact h3 e
    · omega
  · rcases hM.sub gb hk with e | e
    · exact h4 e
    · omega
  · rcases hM.sub k hk with e | e
    · exact h5 k e
    · exact Nat.le_trans h.bel.size e
end
theorem flip_turns (s : DK) (a bit : Int) : (s.flip a bit).turns ≤ s.turns + 1 := by
  unfold DK.flip
  split <;> simp

/-- What is so while sectors are hit: of the first k. -/
def TurnL (w wr : World) (K : Nat → Prop) (g gh gb : Nat) (lp dp : Value) (b : BK) (rv tv av : Value) (bits : Array Value) (s0 : DK) (ps : List Nat) (k : Nat) : Prop :=
  ∃ H s, TM w wr K g gh gb lp dp b rv tv av bits H s ∧ TurnI s0 s ps H ∧ s.turns ≤ 3 * k ∧ (k = 0 → ∀ a, H a = false)
/-- .. in the midst of one sector: y bits of it are turned. -/
def TurnN (w wr : World) (K : Nat → Prop) (g gh gb : Nat) (lp dp : Value) (b : BK) (rv tv av : Value) (bits : Array Value) (s0 : DK) (ps : List Nat) (k a y : Nat) (H : Nat → Bool) : Prop :=
  ∃ s, TM w wr K g gh gb lp dp b rv tv av bits H s ∧ s.turns ≤ 3 * k + y ∧ ((H a = true ∧ y = 0 ∧ TurnI s0 s ps H) ∨ (H a = false ∧ TurnY s0 s ps H a y))
theorem TurnN.done {w wr : World} {K : Nat → Prop} {g gh gb : Nat} {lp dp : Value} {b : BK} {rv tv av : Value} {bits : Array Value} {s0 : DK} {ps : List Nat} {k a y : Nat} {H : Nat → Bool}
    (h : TurnN w wr K g gh gb lp dp b rv tv av bits s0 ps k a y H) (ha : a < 30) (hy : H a = true ∨ y = ps.length) (hp : ps.length ≤ 3) :
    TurnL w (wr.setCell ⟨gh, a, none⟩ (.bool true)) K g gh gb lp dp b rv tv av bits s0 ps (k + 1) := by
  obtain ⟨s, h1, h2, h3⟩ := h
  refine ⟨_, s, h1.mark a ha, ?_, ?_, fun e => by omega⟩
  · rcases h3 with ⟨e1, e2, e3⟩ | ⟨e1, e2⟩
    · have : (fun x => if x = a then true else H x) = H := by
        funext x
        by_cases hx : x = a
        · rw [if_pos hx, hx, e1]
        · rw [if_neg hx]
      rw [this]
      exact e3
    · have hy2 : y = ps.length := by
        rcases hy with e | e
        · rw [e1] at e; cases e
        · exact e
      subst hy2
      exact e2.done
  · rcases h3 with ⟨e1, e2, e3⟩ | ⟨e1, e2⟩
    · omega
    · have hy2 : y = ps.length := by
        rcases hy with e | e
        · rw [e1] at e; cases e
        · exact e
      omega
theorem TurnI.start (s : DK) (ps : List Nat) (hw : s.waits = []) : TurnI s s ps (fun _ => false) := ⟨hw, ⟨rfl, rfl⟩, rfl, fun _ _ => Or.inl ⟨rfl, rfl⟩⟩

theorem Tryz.info4 : (Tryz.prog.info? 4).map (fun i => (i.zero, i.size, i.bytes)) = some (some (.bool false), 1, 1) := by kernel_rfl
theorem make_hits (w : World) : ∃ w8, (Instr.makeSlice 28 (.int .i64 30) (.int .i64 30)).run Tryz.prog w = .ok (.slice (some ⟨w.heap.size, 0, none⟩) 30 30) w8 ∧ w8.heap[w.heap.size]? = some (.cells (hitC fun _ => false) 4 (0, 0)) ∧ Below w.heap.size w w8 := by
  obtain ⟨i0, hi, hz0, hz1, hz2⟩ := info_parts Tryz.info4
  obtain ⟨w8, hrun, r1, r2⟩ := run_make_full (P := Tryz.prog) w w.heap.size 28 4 i0 (.bool false) 1 Tryz.underlying28 hi hz0 hz1 .i64 .i64 30 (by rw [hz2]; omega) (by unfold maxLen; omega) (Nat.le_refl _)
  have b8 : Below w.heap.size w w8 := (Below.refl _ _).grown r2 (Nat.le_refl _) (fun k hk => by cases hk)
  rw [Nat.mul_one] at r1
  refine ⟨w8, hrun, ?_, b8⟩
  rcases r1.2 with ⟨e, _⟩ | ⟨g, c, cur, e, hb, hh, h1, h2, h3, h4⟩
  · cases e
  · simp only [Value.slice.injEq, Option.some.injEq, Addr.mk.injEq, and_true] at e
    obtain ⟨rfl, _, rfl⟩ := e
    have hc : cur = hitC fun _ => false := by
      rw [List.take_of_length_le (by simp [h3])] at h4
      rw [← Array.toArray_toList (xs := cur), h4, show (Value.bool false).cells = #[Value.bool false] from rfl, toList_madeCells_one]
      unfold hitC
      rw [List.map_const', List.length_range]
    rw [hh, hc]

/-- What an opening tells behind turned bits. -/
theorem turned_open {S : Id → Prop} {s3 s : DK} {ids : List Id} {first next age safe : Nat} (h : RInv S s3 ids first next age safe) (hR : ∀ y ∈ ids, Right s3 y) (hw3 : s3.waits = []) {ps : List Nat} {H : Nat → Bool} (hT : TurnI s3 s ps H) (hp : Places 4096 ps) (A : Nat) (hA : age < A) :
    (opened s 256 first (leastOf age ids) A = (ids.map Id.r, (lg0 first A).addAll ids, 0) ∧ ∀ t, first ≤ t → t < next → H (t % 30) = false) ∨ ((opened s 256 first (leastOf age ids) A).2.2 = 5 ∧ ∃ a, H a = true) := by
  rw [opened_eq]
  have hpos : ∀ t, pos t - 13 = t % 30 := fun t => by unfold pos; omega
  rcases h.turned hR hw3 hT.waits (fun k => H (k - 13) = true) (hT.hh hp) A hA (lg0 first A) rfl with ⟨h1, h2⟩ | h1
  · refine Or.inl ⟨h1, fun t a b => ?_⟩
    have := h2 t a b
    rw [hpos] at this
    simpa using this
  · refine Or.inr ⟨h1, ?_⟩
    by_cases hx : ∃ a, H a = true
    · exact hx
    · exfalso
      have hs : (fun t => s.shown (pos t)) = fun t => s3.shown (pos t) := by
        funext t
        unfold DK.shown
        rw [hT.waits, hw3]
        show s.kept (pos t) = s3.kept (pos t)
        rcases hT.ring (t % 30) (Nat.mod_lt _ (by decide)) with ⟨_, h2⟩ | ⟨h2, _⟩
        · exact h2
        · exact absurd ⟨_, h2⟩ hx
      obtain ⟨e, c1, c2, _⟩ := (show RInv S s3 (ids ++ []) first next age safe by rw [List.append_nil]; exact h).open hR (fun z l3 h => by cases h) A hA [] (lg0 first A) rfl
      rw [List.append_nil] at c2
      rw [hs, c2] at h1
      cases h1

/-- An opening that is told. -/
def ToldPost (w w' : World) (dp : Value) (rs : List (List UInt8)) (Lx : LG) (v : Value) : Prop :=
  ∃ lg q c G H, v = .tuple #[.pointer (some lg), .slice q rs.length c, .int .i64 0] ∧ RecsAt H w' (.slice q rs.length c) rs ∧ LRep G w' (.pointer (some lg)) dp 256 Lx ∧ Below w.heap.size w w'
theorem open_told {F : Nat → Prop} {w : World} {dp : Value} {s : DK} {o p A : Nat} {rs : List (List UInt8)} {Lx : LG} (hD : DRep F w dp s) (hn : (s.n : Int) = 256) (hup : s.fell = false) (hop : opened s 256 o p A = (rs, Lx, 0)) (hA1 : 1 ≤ A) (hA : A ≤ 1000000) (hp : p ≤ A) (ho : o ≤ 1000000) :
    Calls Tryz.prog 15 #[dp, .agg #[.int .i64 256, .int .i64 3, .int .i64 13, .int .i64 30, .int .i64 43, .int .i64 73, .int .i64 30, .int .i64 103, .int .i64 4], .int .u64 (o : Int), .int .u64 (p : Int), .int .u64 (A : Int)] w fun e w' => ∃ v, e = .returned v ∧ ToldPost w w' dp rs Lx v := by
  have h := wopen_any F dp s 256 o p A w hD hn fits256 hA1 (by omega) hp (by omega)
  rw [lay256] at h
  refine h.mono ?_
  rintro e w' ⟨hO, b4⟩
  unfold OpenR at hO
  rw [if_neg (by rw [hup]; decide), hop, if_neg (by simp)] at hO
  obtain ⟨lp', v, G', H, rfl, hr, hlog, hH, hG, hHG⟩ := hO
  obtain ⟨vs5, hvs5⟩ := hr.owns
  obtain ⟨q5, c5, hv5⟩ := owns_shape hvs5
  subst hv5
  obtain ⟨lg', hlg'⟩ := hlog.ptr
  subst hlg'
  exact ⟨_, rfl, lg', q5, c5, G', H, rfl, hr, hlog, b4⟩
/-- .. and one that says that a sector is bad. -/
theorem open_bad {F : Nat → Prop} {w : World} {dp : Value} {s : DK} {o p A : Nat} (hD : DRep F w dp s) (hn : (s.n : Int) = 256) (hup : s.fell = false) (hop : (opened s 256 o p A).2.2 = 5) (hA1 : 1 ≤ A) (hA : A ≤ 1000000) (hp : p ≤ A) (ho : o ≤ 1000000) :
    Calls Tryz.prog 15 #[dp, .agg #[.int .i64 256, .int .i64 3, .int .i64 13, .int .i64 30, .int .i64 43, .int .i64 73, .int .i64 30, .int .i64 103, .int .i64 4], .int .u64 (o : Int), .int .u64 (p : Int), .int .u64 (A : Int)] w fun e w' => e = .returned (.tuple #[.pointer none, .slice none 0 0, .int .i64 5]) ∧ Below w.heap.size w w' := by
  have h := wopen_any F dp s 256 o p A w hD hn fits256 hA1 (by omega) hp (by omega)
  rw [lay256] at h
  refine h.mono ?_
  rintro e w' ⟨hO, b4⟩
  unfold OpenR at hO
  rw [if_neg (by rw [hup]; decide), hop, if_pos (by decide)] at hO
  exact ⟨hO, b4⟩
end Go.Proofs.YtpkpjmebkikgdaaGreat
