/- What the reference of package disk does: Flush, Crash. -/
import Derived.Test.YtkekikfiijbjmaaDiskRef2
import Derived.Test.YtkekikfiijbjmaaBoolRow
namespace Go.Proofs.Ytkekikfiijbjmaa
open Go.RowKit

/-- The map gets a sector; all else stands. -/
theorem RAt.put {F : Nat → Prop} {w w' : World} {g m : Nat} {wv : Value} {f : Int → Option Value} {xs : List Value} {s : DK} {cnt : Nat} (h : RAt F w g m wv f xs s cnt) (a : Nat) (b : List UInt8) (v : Value)
    (hm : MapIs Try.prog 3 w' m (cnt + 1) (fun x => if x = (a : Int) then some v else f x)) (hg : w.grownBy w' (some m)) (hr : RowIn F w v b) (hb : b.length = 512) :
    RAt F w' g m wv (fun x => if x = (a : Int) then some v else f x) xs { s with kept := keep1 s.kept (a, b) } (cnt + 1) := by
  have hmk := h.map.heap
  have hrow : ∀ k cur e, F k → w.heap[k]? = some (.cells cur e (0, 0)) → w'.heap[k]? = w.heap[k]? := fun k cur e hF hh => hg.block k (h.lt k hF) (fun ek => by
    obtain ⟨es, c, hh'⟩ := hmk
    rw [Option.some.inj ek] at hh
    rw [hh] at hh'
    cases hh')
  refine ⟨?_, hm, ?_, ?_, ?_, h.fg, h.fm, h.fw, fun k hF => Nat.lt_of_lt_of_le (h.lt k hF) hg.size, ?_⟩
  · exact (hrow g _ _ h.fg h.blk).trans h.blk
  · refine owns_stays h.own fun k e => ?_
    obtain ⟨cur, hh⟩ := own_kind h.own k e
    exact hrow k _ _ (h.fw k e) hh
  · intro j hj
    obtain ⟨u, h1, h2, h3⟩ := h.waits j hj
    exact ⟨u, h1, h2, h3.stays fun k cur hF hh => hrow k _ _ hF hh⟩
  · intro x
    by_cases hx : x = a
    · subst hx
      refine Or.inr ⟨v, by simp, ?_⟩
      have : keep1 s.kept (x, b) x = b := by simp [keep1]
      show RowIn F w' v (keep1 s.kept (x, b) x)
      rw [this]
      exact hr.stays fun k cur hF hh => hrow k _ _ hF hh
    · have e1 : (if (x : Int) = (a : Int) then some v else f x) = f x := by rw [if_neg (by omega)]
      have e2 : keep1 s.kept (a, b) x = s.kept x := by simp [keep1, hx]
      dsimp only
      rw [e1, e2]
      rcases h.kept x with h1 | ⟨u, h1, h2⟩
      · exact Or.inl h1
      · exact Or.inr ⟨u, h1, h2.stays fun k cur hF hh => hrow k _ _ hF hh⟩
  · exact ⟨h.ok.size, length_keep1 h.ok.kept hb, h.ok.waits, h.ok.armed⟩

theorem RAt.mono {F : Nat → Prop} {w : World} {g m : Nat} {wv : Value} {f : Int → Option Value} {xs : List Value} {s : DK} {cnt c : Nat} (h : RAt F w g m wv f xs s cnt) (hc : cnt ≤ c) : RAt F w g m wv f xs s c :=
  ⟨h.blk, h.map.mono hc, h.own, h.waits, h.kept, h.fg, h.fm, h.fw, h.lt, h.ok⟩
set_option maxRecDepth 20000 in
theorem RAt.drew {F : Nat → Prop} {w : World} {g m : Nat} {wv : Value} {f : Int → Option Value} {xs : List Value} {s : DK} {cnt : Nat} (h : RAt F w g m wv f xs s cnt) : RAt F w.drew g m wv f xs s cnt :=
  h.stays (Nat.le_refl _) (fun _ _ => rfl)
theorem Keep.drew {F : Nat → Prop} {w w' : World} (h : Keep F w w') : Keep F w w'.drew := ⟨h.os, h.tape, h.output, h.size, h.block⟩
theorem Keep.grown {F : Nat → Prop} {w w1 w2 : World} {k : Nat} (h : Keep F w w1) (hg : w1.grownBy w2 (some k)) (hF : F k) : Keep F w w2 :=
  ⟨hg.os.trans h.os, hg.tape.trans h.tape, hg.output.trans h.output, Nat.le_trans h.size hg.size, fun i hi hn => (hg.block i (Nat.lt_of_lt_of_le hi h.size) (fun e => hn (by rw [Option.some.inj e]; exact hF))).trans (h.block i hi hn)⟩
theorem keepAll_take (f : Nat → List UInt8) (l : List (Nat × List UInt8)) (k : Nat) (h : k < l.length) : keepAll f (l.take (k + 1)) = keep1 (keepAll f (l.take k)) l[k] := by
  unfold keepAll
  rw [List.take_succ_eq_append_getElem h, List.foldl_append]
  rfl

set_option maxHeartbeats 1000000 in
set_option maxRecDepth 20000 in
/-- The loop of Flush, from where it stands on. -/
theorem rflush_ok (F : Nat → Prop) (p : Value) (s : DK) (cnt : Nat) (w : World) (h : RRep F w p s cnt) (hf : s.fell = false) (h1 : ¬ s.armed = 1) (hw : s.waits.length ≤ 1048576) (hc : cnt + s.waits.length ≤ 1048576 * 1048576) :
    Calls Try.prog 30 #[p] w fun e w' => e = .returned (.int .i64 0) ∧ RRep F w' p s.flush (cnt + s.waits.length) ∧ Keep F w w' := by
  have HFL : Hid (s.flush = { s.tick with kept := keepAll s.kept s.waits, waits := [] }) := by
    unfold Hid DK.flush
    rw [if_neg (by rw [hf]; decide), if_neg h1]
    rfl
  have H := hide (rhit_any F p s cnt w h hf)
  rw [show (s.armed == 1) = false by rw [beq_eq_false_iff_ne]; exact h1] at H
  obtain ⟨g, m, wv, f, xs, rfl, R⟩ := h
  obtain ⟨c0, c1, c2, c3, c4, c5, hfz⟩ := six_cells R.blk
  rw [hf] at c4
  have HT : Hid (s.tick.waits = s.waits ∧ s.tick.kept = s.kept) := ⟨rfl, rfl⟩
  clear R hfz hf h1
  go_enter Try.func30, Try.ntmps30
  go_wp2_with fail
  refine Calls.mono (unhide H) ?_
  rintro e w1 ⟨rfl, ⟨g', m', wv', f', xs', ep, R1⟩, hk1⟩
  cases ep
  obtain ⟨q, cw, hwv⟩ := R1.shape
  subst hwv
  have HR1 := hide R1
  clear c0 c1 c2 c3 c4 c5 H R1
  generalize ht : s.tick = t at *
  have HTE := hide ht
  clear ht
  rw [← (unhide HT).1] at hw hc
  go_wp2_with fail
  go_loopw [3] (fun i wr => ∃ (k : Nat) (f2 : Int → Option Value), k ≤ t.waits.length ∧ i = .int .i64 k ∧ Hid (RAt F wr g m' (.slice q t.waits.length cw) f2 xs' { t with kept := keepAll t.kept (t.waits.take k) } (cnt + k)) ∧ Keep F w wr) (fun i _ => t.waits.length - (intOf i).toNat)
  case atStart => exact ⟨0, f', Nat.zero_le _, rfl, by rw [List.take_zero]; exact unhide HR1, hk1⟩
  case round =>
    obtain ⟨k, f2, hk, rfl, hR, hkp⟩ := hrel
    obtain ⟨c0, c1, c2, c3, c4, c5, hfz⟩ := six_cells hR.out.blk
    by_cases hlt : k < t.waits.length
    · obtain ⟨h2, cap, v, ev, hF, hcap, d1, d2, hr⟩ := hR.out.wait k hlt
      simp only [Value.slice.injEq, true_and] at ev
      obtain ⟨rfl, rfl⟩ := ev
      have hwk := hR.out.ok.waits _ (List.getElem_mem hlt)
      have hsz := hR.out.ok.size
      obtain ⟨w2, hrun, hm2, hg2⟩ := hR.out.drew.map.put (t := 66) Try.underlying3 Try.underlying66 (by unfold maxLen; omega) (t.waits[k].1 : Int) (wf64 (by omega) (by have := hwk.1; dsimp only at this hsz; omega)) v
      have HN : Hid (∃ f3, RAt F w2 g m' (.slice (some ⟨h2, 0, none⟩) t.waits.length cw) f3 xs' { t with kept := keepAll t.kept (t.waits.take (k + 1)) } (cnt + (k + 1))) := by
        rw [keepAll_take t.kept t.waits k hlt]
        exact ⟨_, hR.out.drew.put _ _ v hm2 hg2 hr hwk.2⟩
      have HK2 := hide (hkp.drew.grown hg2 hR.out.fm)
      obtain ⟨b3, o3, cap3, cur3, rfl, _⟩ := hr
      have hlt' : (k : Int) < t.waits.length := by omega
      clear hm2 hg2 hwk hsz hfz
      dsimp only at d1 d2
      generalize t.waits[k].1 = ak at *
      go_wp2_with fail
      go_region
      go_wp2
      go_roundw
      case rel =>
        obtain ⟨f3, h3⟩ := unhide HN
        exact ⟨k + 1, f3, by omega, by go_num, h3, unhide HK2⟩
      case measure => simp [intOf]; omega
    · have hkn : k = t.waits.length := by omega
      subst hkn
      have hlt' : ¬ (t.waits.length : Int) < t.waits.length := by omega
      have hfz2 := hfz 2
      have HK : Hid (RAt F (wr.setCell ⟨g, 2, none⟩ (.slice none 0 0)) g m' (.slice none 0 0) f2 [] s.flush (cnt + s.waits.length) ∧ Keep F w (wr.setCell ⟨g, 2, none⟩ (.slice none 0 0))) := by
        have R := hR.out
        have hok := R.ok
        rw [List.take_of_length_le (Nat.le_refl _)] at R hok
        have b1 := heap_setCell_same wr g 2 _ _ (.slice none 0 0) R.blk
        have hk : ∀ k, k ≠ g → (wr.setCell ⟨g, 2, none⟩ (.slice none 0 0)).heap[k]? = wr.heap[k]? := fun k hk => by
          rw [Below.heap_setCell _ _ _ _ hk]
        rw [unhide HFL, ← (unhide HT).1, ← (unhide HT).2]
        refine ⟨R.drop b1 (by simp) (fun k h _ => hk k h) rfl rfl ⟨hok.size, hok.kept, (fun a ha => by cases ha), hok.armed⟩, hkp.trans ⟨rfl, rfl, rfl, by simp, fun k _ hn => hk k (fun e => hn (e ▸ R.fg))⟩ (fun x h => Or.inl h)⟩
      clear hR hfz HR1
      go_wp2
      go_ret
      exact ⟨rfl, ⟨g, m', _, f2, _, rfl, (unhide HK).1⟩, (unhide HK).2⟩

set_option maxRecDepth 20000 in
theorem rflush_any (F : Nat → Prop) (p : Value) (s : DK) (cnt : Nat) (w : World) (h : RRep F w p s cnt) (hw : s.waits.length ≤ 1048576) (hc : cnt + s.waits.length ≤ 1048576 * 1048576) :
    Calls Try.prog 30 #[p] w fun e w' => e = .returned (.int .i64 s.flushE) ∧ (∃ c, c ≤ cnt + s.waits.length ∧ RRep F w' p s.flush c) ∧ Keep F w w' := by
  cases hf : s.fell with
  | true =>
    have e1 : s.flushE = 40 := by unfold DK.flushE; rw [if_pos hf]
    have e2 : s.flush = s := by unfold DK.flush; rw [if_pos hf]
    rw [e1, e2]
    have H := hide h
    obtain ⟨g, m, wv, f, xs, rfl, R⟩ := h
    obtain ⟨c0, c1, c2, c3, c4, c5, hfz⟩ := six_cells R.blk
    rw [hf] at c4
    clear R hfz hf e1 e2
    go_enter Try.func30, Try.ntmps30
    go_wp2
    go_ret
    exact ⟨rfl, ⟨cnt, by omega, unhide H⟩, Keep.refl _ _⟩
  | false =>
    by_cases h1 : s.armed = 1
    · have e1 : s.flushE = 40 := by unfold DK.flushE; rw [if_neg (by rw [hf]; decide), if_pos h1]
      have e2 : s.flush = s.tick := by unfold DK.flush; rw [if_neg (by rw [hf]; decide), if_pos h1]
      rw [e1, e2]
      have H := hide (rhit_any F p s cnt w h hf)
      rw [show (s.armed == 1) = true by rw [h1]; rfl] at H
      obtain ⟨g, m, wv, f, xs, rfl, R⟩ := h
      obtain ⟨c0, c1, c2, c3, c4, c5, hfz⟩ := six_cells R.blk
      rw [hf] at c4
      clear R hfz hf e1 e2 h1
      go_enter Try.func30, Try.ntmps30
      go_wp2_with fail
      refine Calls.mono (unhide H) ?_
      rintro e w1 ⟨rfl, hr, hk⟩
      clear c0 c1 c2 c3 c4 c5
      go_wp2
      go_ret
      exact ⟨rfl, ⟨cnt, by omega, hr⟩, hk⟩
    · have e1 : s.flushE = 0 := by unfold DK.flushE; rw [if_neg (by rw [hf]; decide), if_neg h1]
      rw [e1]
      refine (rflush_ok F p s cnt w h hf h1 hw hc).mono ?_
      rintro e w' ⟨rfl, hr, hk⟩
      exact ⟨rfl, ⟨_, Nat.le_refl _, hr⟩, hk⟩

/-- Those of the first k that are told to be kept. -/
theorem keepSome_take (ks : List Bool) : ∀ (l : List (Nat × List UInt8)) (f : Nat → List UInt8) (i k : Nat) (h : k < l.length),
    keepSome ks f i (l.take (k + 1)) = if ks.getD (i + k) false = true then keep1 (keepSome ks f i (l.take k)) l[k] else keepSome ks f i (l.take k)
  | [], _, _, _, h => by cases h
  | a :: l, f, i, 0, _ => by
    simp [keepSome]
  | a :: l, f, i, k + 1, h => by
    have h' : k < l.length := by simpa using h
    have := keepSome_take ks l (if ks.getD i false = true then keep1 f a else f) (i + 1) k h'
    rw [show i + 1 + k = i + (k + 1) by omega] at this
    simpa [keepSome] using this

set_option maxRecDepth 20000 in
set_option maxHeartbeats 1000000 in
theorem rcrash_any (F : Nat → Prop) (p : Value) (s : DK) (cnt : Nat) (w : World) (kv : Value) (ks : List Bool) (h : RRep F w p s cnt) (hks : BRow w kv ks) (hkF : ∀ b off c, kv = .slice (some ⟨b, off, none⟩) ks.length c → ks ≠ [] → ¬ F b)
    (hw : s.waits.length ≤ 1048576) (hc : cnt + s.waits.length ≤ 1048576 * 1048576) :
    Calls Try.prog 33 #[p, kv] w fun e w' => e = .returned (.int .i64 0) ∧ RRep F w' p (s.crash ks) (cnt + s.waits.length) ∧ Keep F w w' := by
  obtain ⟨g, m, wv, f, xs, rfl, R⟩ := h
  obtain ⟨c0, c1, c2, c3, c4, c5, hfz⟩ := six_cells R.blk
  obtain ⟨q, cw, hwv⟩ := R.shape
  subst hwv
  have HKS := hide hks
  have HKF := hide hkF
  obtain ⟨kq, kc, hkv, hkl1', hkl2'⟩ := hks.shape
  subst hkv
  have hfz4 := hfz 4
  have hkl : ks.length ≤ kc ∧ kc ≤ maxLen := ⟨hkl1', hkl2'⟩
  clear hkl1' hkl2'
  have hkl1 : (ks.length : Int) ≤ 9223372036854775807 := by have := hkl.1; have := hkl.2; unfold maxLen at this; omega
  -- the device is down
  have HK0 : Hid (RAt F (w.setCell ⟨g, 4, none⟩ (.bool true)) g m (.slice q s.waits.length cw) f xs { s with fell := true } cnt ∧ Keep F w (w.setCell ⟨g, 4, none⟩ (.bool true))) := by
    have b1 := heap_setCell_same w g 4 _ _ (.bool true) R.blk
    have hk : ∀ k, k ≠ g → (w.setCell ⟨g, 4, none⟩ (.bool true)).heap[k]? = w.heap[k]? := fun k hk => by
      rw [Below.heap_setCell _ _ _ _ hk]
    exact ⟨R.set b1 (by simp) (fun k h _ => hk k h) rfl rfl ⟨R.ok.size, R.ok.kept, R.ok.waits, R.ok.armed⟩, ⟨rfl, rfl, rfl, by simp, fun k _ hn => hk k (fun e => hn (e ▸ R.fg))⟩⟩
  have HCR : Hid (s.crash ks = { ({ s with fell := true } : DK) with kept := keepSome ks s.kept 0 s.waits, waits := [] }) := rfl
  have HT : Hid (({ s with fell := true } : DK).waits = s.waits ∧ ({ s with fell := true } : DK).kept = s.kept) := ⟨rfl, rfl⟩
  generalize ht : ({ s with fell := true } : DK) = t at *
  clear R hfz hks hkF hkl ht
  rw [← (unhide HT).1] at hw hc
  rw [← (unhide HT).1] at c2 HK0
  go_enter Try.func33, Try.ntmps33
  go_wp2_with fail
  go_loopw [5] (fun i wr => ∃ (k : Nat) (f2 : Int → Option Value), k ≤ t.waits.length ∧ i = .int .i64 k ∧ Hid (RAt F wr g m (.slice q t.waits.length cw) f2 xs { t with kept := keepSome ks t.kept 0 (t.waits.take k) } (cnt + k)) ∧ Keep F w wr) (fun i _ => t.waits.length - (intOf i).toNat)
  case atStart => exact ⟨0, f, Nat.zero_le _, rfl, by rw [List.take_zero]; exact (unhide HK0).1, (unhide HK0).2⟩
  case round =>
    clear c0 c1 c2 c3 c4 c5
    obtain ⟨k, f2, hk, rfl, hR, hkp⟩ := hrel
    obtain ⟨c0, c1, c2, c3, c4, c5, hfz⟩ := six_cells hR.out.blk
    by_cases hlt : k < t.waits.length
    · obtain ⟨h2, cap, v, ev, hF, hcap, d1, d2, hr⟩ := hR.out.wait k hlt
      simp only [Value.slice.injEq, true_and] at ev
      obtain ⟨rfl, rfl⟩ := ev
      have hwk := hR.out.ok.waits _ (List.getElem_mem hlt)
      have hsz := hR.out.ok.size
      have hkt := keepSome_take ks t.waits t.kept 0 k hlt
      rw [Nat.zero_add] at hkt
      have hlt' : (k : Int) < t.waits.length := by omega
      by_cases hin : k < ks.length
      · have hcell : ∃ b off c, kq = some ⟨b, off, none⟩ ∧ kc = c ∧ wr.cell? ⟨b, off + k, none⟩ = some (.bool ks[k]) := by
          obtain ⟨b, off, c, e1, _, e2⟩ := (unhide HKS).at k hin
          have hn := unhide HKF b off c e1 (by intro e; rw [e] at hin; cases hin)
          simp only [Value.slice.injEq, true_and] at e1
          exact ⟨b, off, c, e1.1, e1.2, (hkp.cell (p := ⟨b, off + k, none⟩) (World.block_lt_of_cell? w _ e2) hn).trans e2⟩
        obtain ⟨kb, ko, _, rfl, rfl, kcell⟩ := hcell
        have hin' : (k : Int) < ks.length := by omega
        have hgd : ks.getD k false = ks[k] := by simp [List.getD, List.getElem?_eq_getElem hin]
        have hin2 : k < ks.length := hin
        rw [hgd] at hkt
        cases hb : ks[k] with
        | true =>
          rw [hb, if_pos rfl] at hkt
          rw [hb] at kcell
          obtain ⟨w2, hrun, hm2, hg2⟩ := hR.out.drew.map.put (t := 66) Try.underlying3 Try.underlying66 (by unfold maxLen; omega) (t.waits[k].1 : Int) (wf64 (by omega) (by have := hwk.1; dsimp only at this hsz; omega)) v
          have HN : Hid (∃ f3, RAt F w2 g m (.slice (some ⟨h2, 0, none⟩) t.waits.length cw) f3 xs { t with kept := keepSome ks t.kept 0 (t.waits.take (k + 1)) } (cnt + (k + 1))) := by
            rw [hkt]
            exact ⟨_, hR.out.drew.put _ _ v hm2 hg2 hr hwk.2⟩
          have HK2 := hide (hkp.drew.grown hg2 hR.out.fm)
          obtain ⟨b3, o3, cap3, cur3, rfl, _⟩ := hr
          clear hm2 hg2 hwk hsz hfz hkt hgd hb
          dsimp only at d1 d2
          generalize t.waits[k].1 = ak at *
          go_wp2_with fail
          go_region
          go_wp2
          go_roundw
          case rel =>
            obtain ⟨f3, h3⟩ := unhide HN
            exact ⟨k + 1, f3, by omega, by go_num, h3, unhide HK2⟩
          case measure => simp [intOf]; omega
        | false =>
          rw [hb, if_neg (by decide)] at hkt
          rw [hb] at kcell
          have HN : Hid (RAt F wr g m (.slice (some ⟨h2, 0, none⟩) t.waits.length cw) f2 xs { t with kept := keepSome ks t.kept 0 (t.waits.take (k + 1)) } (cnt + (k + 1))) := by
            rw [hkt]
            exact hR.out.mono (by omega)
          clear hwk hsz hfz hkt hgd hb
          go_wp2
          go_roundw
          case rel => exact ⟨k + 1, f2, by omega, by go_num, unhide HN, hkp⟩
          case measure => simp [intOf]; omega
      · have hgd : ks.getD k false = false := by simp [List.getD, List.getElem?_eq_none (show ks.length ≤ k by omega)]
        have hin' : ¬ (k : Int) < ks.length := by omega
        rw [hgd, if_neg (by decide)] at hkt
        have HN : Hid (RAt F wr g m (.slice (some ⟨h2, 0, none⟩) t.waits.length cw) f2 xs { t with kept := keepSome ks t.kept 0 (t.waits.take (k + 1)) } (cnt + (k + 1))) := by
          rw [hkt]
          exact hR.out.mono (by omega)
        clear hwk hsz hfz hkt hgd hin
        go_wp2
        go_roundw
        case rel => exact ⟨k + 1, f2, by omega, by go_num, unhide HN, hkp⟩
        case measure => simp [intOf]; omega
    · have hkn : k = t.waits.length := by omega
      subst hkn
      have hlt' : ¬ (t.waits.length : Int) < t.waits.length := by omega
      have hfz2 := hfz 2
      have HK : Hid (RAt F (wr.setCell ⟨g, 2, none⟩ (.slice none 0 0)) g m (.slice none 0 0) f2 [] (s.crash ks) (cnt + s.waits.length) ∧ Keep F w (wr.setCell ⟨g, 2, none⟩ (.slice none 0 0))) := by
        have R := hR.out
        have hok := R.ok
        rw [List.take_of_length_le (Nat.le_refl _)] at R hok
        have b1 := heap_setCell_same wr g 2 _ _ (.slice none 0 0) R.blk
        have hk : ∀ k, k ≠ g → (wr.setCell ⟨g, 2, none⟩ (.slice none 0 0)).heap[k]? = wr.heap[k]? := fun k hk => by
          rw [Below.heap_setCell _ _ _ _ hk]
        rw [unhide HCR, ← (unhide HT).1, ← (unhide HT).2]
        refine ⟨R.drop b1 (by simp) (fun k h _ => hk k h) rfl rfl ⟨hok.size, hok.kept, (fun a ha => by cases ha), hok.armed⟩, hkp.trans ⟨rfl, rfl, rfl, by simp, fun k _ hn => hk k (fun e => hn (e ▸ R.fg))⟩ (fun x h => Or.inl h)⟩
      clear hR hfz HK0
      go_wp2
      go_ret
      exact ⟨rfl, ⟨g, m, _, f2, _, rfl, (unhide HK).1⟩, (unhide HK).2⟩
end Go.Proofs.Ytkekikfiijbjmaa
