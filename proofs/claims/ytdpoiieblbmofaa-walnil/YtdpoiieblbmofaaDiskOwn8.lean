/- The landed package disk: Read. -/
import Derived.Test.YtdpoiieblbmofaaDiskOwn7
namespace Go.Proofs.Ytdpoiieblbmofaa
open Go.RowKit

theorem mine_of_range {w : World} {base x : Nat} {t : TypeId} {C : Array Value} {c : List UInt8} (hb : w.heap[x]? = some (.cells C t (0, 0))) (hx : base ≤ x) (hr : w.rangeAt x 0 (c.map B)) (hc : c.length = 512) : Mine w base (.slice (some ⟨x, 0, none⟩) 512 512) c := by
  refine ⟨⟨some ⟨x, 0, none⟩, 512, by rw [hc], by omega, by unfold maxLen; omega, by simp, Or.inr ⟨x, 0, rfl, fun j hj => ?_⟩⟩, Or.inr ⟨x, 0, 512, t, C, by rw [hc], hx, hb⟩⟩
  rw [hr j (B c[j]) (by rw [List.getElem?_map, List.getElem?_eq_getElem hj]; rfl)]

set_option maxRecDepth 20000 in
set_option maxHeartbeats 1000000 in
theorem oread_ok (F : Nat → Prop) (p : Value) (s : DK) (a : Nat) (w : World) (h : DRep F w p s) (hf : s.fell = false) (ha : a < s.n) :
    Calls Try.prog 43 #[p, .int .i64 (a : Int)] w fun e w' => ∃ t, e = .returned (.tuple #[t, .int .i64 0]) ∧ Mine w' w.heap.size t (s.shown a) ∧ Below w.heap.size w w' := by
  have H1 := hide (orefuses_any F p s w h)
  rw [hf, if_neg (by decide)] at H1
  have H2 := hide (ohas_any F p s (a : Int) w h)
  rw [show s.noSuch (a : Int) = false by unfold DK.noSuch; simp; omega] at H2
  have HD := hide h
  obtain ⟨g, kb, kc, wv, mv, hit, rfl, R⟩ := h
  obtain ⟨hz, hzs⟩ := zero_of_info Try.infoImageZ
  obtain ⟨Z, hZ⟩ : ∃ Z : Array Value, Z = (List.replicate 512 (Value.int .u8 0)).toArray := ⟨_, rfl⟩
  rw [← hZ] at hz
  have HZ : Hid (Z.size = 512) := by unfold Hid; rw [hZ]; simp
  clear hZ
  obtain ⟨c0, c1, c2, c3, c4, c5, c6, c7, hfz⟩ := eight_cells R.blk
  have hkl := R.ok.kept a
  have hr : w.rangeAt kb (a * 512) ((s.kept a).map B) := by obtain ⟨C, _, _, _, _, h5⟩ := R.kept; exact h5 a ha
  have hkc : s.n ≤ kc := by obtain ⟨C, _, _, h3, _⟩ := R.kept; exact h3
  have hn := R.ok.size
  have haI : (a : Int) < s.n := by omega
  obtain ⟨bs, hbs⟩ : ∃ bs, bs = (s.kept a).map B := ⟨_, rfl⟩
  have hbl : bs.length = 512 := by rw [hbs, List.length_map]; exact hkl
  have hone : ∀ v ∈ bs, v.oneCell' = true := by rw [hbs]; exact oneCell_bytes _
  rw [← hbs] at hr
  have HBS := hide hbs
  have HI5 : Hid ((Try.prog.info? 117).map (·.size) = some bs.toArray.size) := by unfold Hid; rw [List.size_toArray, hbl]; exact hzs
  have HI6 : Hid (Z.size = bs.toArray.size) := by
    have e : bs.toArray.size = 512 := by rw [List.size_toArray, hbl]
    rw [e]
    exact unhide HZ
  have HI7 : Hid ((Try.prog.info? 117).map (·.size) = some bs.length) := by unfold Hid; rw [hbl]; exact hzs
  have HI8 := hide (all_oneCell_toArray hone)
  have hgl := R.lt g R.fg
  clear R hfz hf hbs hone c1 c2 c3 c4 c5 c6 c7 hkl
  go_enter Try.func43, Try.ntmps43
  go_wp2_with fail
  refine Calls.mono (unhide H1) ?_
  rintro e w' ⟨rfl, rfl⟩
  go_wp2_with fail
  refine Calls.mono (unhide H2) ?_
  rintro e w'' ⟨rfl, rfl⟩
  go_wp2_with (first
    | (with_reducible show wpList _ _ _ (Oper.mk _ (Op.load 117 _) _ _ _ _ :: _) _ _; refine wpList_load_mid rfl 117 _ rfl kb (a * 512) rfl bs _ hr Try.underlying117 rfl (unhide HI7) ?_)
    | (with_reducible show wpList _ _ _ (Oper.mk _ (Op.store 117 _ _) _ _ _ _ :: _) _ _; refine wpList_store_new rfl 117 _ _ rfl Z bs.toArray rfl rfl (unhide HI5) (unhide HI6) (unhide HI8) ?_))
  have hb1 : Below w''.heap.size w'' (w''.alloc (.cells bs.toArray 117)) := (Below.refl _ _).alloc (Nat.le_refl _) _
  have hx1 : (w''.alloc (.cells bs.toArray 117)).heap[w''.heap.size]? = some (.cells bs.toArray 117 (0, 0)) := heap_alloc_new _ _
  have hd1 := (unhide HD).stays hb1.size (fun k hk => hb1.block k ((unhide HD).lt k hk))
  refine Calls.mono (olast_any F g s a _ hd1 (by omega)) ?_
  rintro e w2 ⟨hb2, hcase⟩
  have hb3 : Below w''.heap.size w'' w2 := hb1.trans (hb2.mono hb1.size)
  have hx2 : w2.heap[w''.heap.size]? = some (.cells bs.toArray 117 (0, 0)) := (hb2.block _ (by simp)).trans hx1
  have hl2 : w''.heap.size < w2.heap.size := (Array.getElem?_eq_some_iff.1 hx2).1
  have HB3 := hide hb3
  have HX2 := hide hx2
  clear hb1 hx1 hd1 hb2 hb3 hx2 H1 H2 HD hr HI5 HI6 HI7 HI8
  rcases hcase with ⟨Z2, rfl, hZ1, hZ2, hsh⟩ | ⟨c, rfl, hcl, hsh⟩
  · have HI5 : Hid ((Try.prog.info? 117).map (·.size) = some Z2.size) := by unfold Hid; rw [hZ1]; exact hzs
    have HI6 : Hid (Z.size = Z2.size) := by unfold Hid; rw [hZ1]; exact unhide HZ
    have HI8 := hide hZ2
    have HS := hide (hsh (s.kept a))
    clear hZ1 hZ2 hsh
    go_wp2_with (first
      | (with_reducible show wpList _ _ _ (Oper.mk _ (Op.store 117 _ _) _ _ _ _ :: _) _ _; refine wpList_store_new rfl 117 _ _ rfl Z Z2 rfl rfl (unhide HI5) (unhide HI6) (unhide HI8) ?_))
    go_ret2
    have hb4 : Below w2.heap.size w2 (w2.alloc (.cells Z2 117)) := (Below.refl _ _).alloc (Nat.le_refl _) _
    have hx4 := (hb4.block _ hl2).trans (unhide HX2)
    refine ⟨_, rfl, ?_, (unhide HB3).trans (hb4.mono (unhide HB3).size)⟩
    have e : s.shown a = s.kept a := unhide HS
    rw [e]
    refine mine_of_range hx4 (Nat.le_refl _) ?_ (by have := hbl; rw [unhide HBS, List.length_map] at this; exact this)
    intro j v hv
    rw [Nat.zero_add, cell_of_row _ _ j _ _ (0, 0) hx4]
    rw [← unhide HBS] at hv
    simpa using hv
  · obtain ⟨cb, hcb⟩ : ∃ cb, cb = c.map B := ⟨_, rfl⟩
    have hcbl : cb.length = 512 := by rw [hcb, List.length_map]; exact hcl
    have hone : ∀ v ∈ cb, v.oneCell' = true := by rw [hcb]; exact oneCell_bytes _
    rw [← hcb]
    have HCB := hide hcb
    have HI5 : Hid ((Try.prog.info? 117).map (·.size) = some cb.toArray.size) := by unfold Hid; rw [List.size_toArray, hcbl]; exact hzs
    have HI6 : Hid (Z.size = cb.toArray.size) := by
      have e : cb.toArray.size = 512 := by rw [List.size_toArray, hcbl]
      rw [e]
      exact unhide HZ
    have HI7 : Hid ((Try.prog.info? 117).map (·.size) = some cb.length) := by unfold Hid; rw [hcbl]; exact hzs
    have HI8 := hide (all_oneCell_toArray hone)
    have HS := hide (hsh (s.kept a))
    have HCL := hide hcl
    have hb4 : Below w2.heap.size w2 (w2.alloc (.cells cb.toArray 117)) := (Below.refl _ _).alloc (Nat.le_refl _) _
    have hx4 := (hb4.block _ hl2).trans (unhide HX2)
    have hn4 : (w2.alloc (.cells cb.toArray 117)).heap[w2.heap.size]? = some (.cells cb.toArray 117 (0, 0)) := heap_alloc_new _ _
    have hr4 : (w2.alloc (.cells cb.toArray 117)).rangeAt w2.heap.size 0 cb := by
      intro j v hv
      rw [Nat.zero_add, cell_of_row _ _ j _ _ (0, 0) hn4]
      simpa using hv
    have ht4 : (w2.alloc (.cells cb.toArray 117)).there w''.heap.size 0 cb.toArray.size := there_of_block hx4 (by rw [List.size_toArray, List.size_toArray, hcbl, hbl]; omega)
    have HFIN : Hid (Mine ((w2.alloc (.cells cb.toArray 117)).setCells w''.heap.size 0 cb) w''.heap.size (.slice (some ⟨w''.heap.size, 0, none⟩) 512 512) (s.shown a) ∧ Below w''.heap.size w'' ((w2.alloc (.cells cb.toArray 117)).setCells w''.heap.size 0 cb)) := by
      obtain ⟨C', h6, _⟩ := block_setCells w''.heap.size _ cb 0 _ _ hx4
      have e : s.shown a = c := unhide HS
      rw [e]
      have hrs := World.rangeAt_setCells_same (w2.alloc (.cells cb.toArray 117)) w''.heap.size 0 cb (by rw [List.size_toArray] at ht4; exact ht4)
      have hKs := (keep_setCells w''.heap.size cb 0 (w2.alloc (.cells cb.toArray 117))).below (b := w''.heap.size) (by simp; omega) (fun k e => by omega)
      refine ⟨mine_of_range h6 (Nat.le_refl _) (by rw [unhide HCB] at hrs ⊢; exact hrs) hcl, ((unhide HB3).trans (hb4.mono (unhide HB3).size)).trans hKs⟩
    clear hsh hcl hcb hcbl hone hb4 hx4 hn4
    go_wp2_with (first
      | (with_reducible show wpList _ _ _ (Oper.mk _ (Op.store 117 (Operand.tmp 8) _) _ _ _ _ :: _) _ _; refine wpList_store_new rfl 117 _ _ rfl Z cb.toArray rfl rfl (unhide HI5) (unhide HI6) (unhide HI8) ?_)
      | (with_reducible show wpList _ _ _ (Oper.mk _ (Op.load 117 _) _ _ _ _ :: _) _ _; refine wpList_load_mid rfl 117 _ rfl w2.heap.size 0 rfl cb _ hr4 Try.underlying117 rfl (unhide HI7) ?_)
      | (with_reducible show wpList _ _ _ (Oper.mk _ (Op.store 117 (Operand.tmp 7) _) _ _ _ _ :: _) _ _; refine wpList_store_mid rfl 117 _ _ rfl w''.heap.size 0 cb.toArray rfl rfl ht4 (unhide HI5) (unhide HI8) ?_))
    go_ret2
    exact ⟨_, rfl, (unhide HFIN).1, (unhide HFIN).2⟩

set_option maxRecDepth 20000 in
theorem oread_any (F : Nat → Prop) (p : Value) (s : DK) (a : Int) (w : World) (h : DRep F w p s) :
    Calls Try.prog 43 #[p, .int .i64 a] w fun e w' => ∃ t, e = .returned (.tuple #[t, .int .i64 (s.readE a)]) ∧ Mine w' w.heap.size t (s.readB a) ∧ Below w.heap.size w w' := by
  unfold DK.readE DK.readB
  have H1 := hide (orefuses_any F p s w h)
  cases hf : s.fell with
  | true =>
    rw [hf, if_pos rfl] at H1
    rw [if_pos rfl, if_pos rfl]
    obtain ⟨g, kb, kc, wv, mv, hit, rfl, R⟩ := h
    clear R hf
    go_enter Try.func43, Try.ntmps43
    go_wp2_with fail
    refine Calls.mono (unhide H1) ?_
    rintro e w' ⟨rfl, rfl⟩
    go_wp2
    go_ret2
    exact ⟨_, rfl, ⟨Row.nil _, Or.inl rfl⟩, Below.refl _ _⟩
  | false =>
    rw [hf, if_neg (by decide)] at H1
    rw [if_neg (show ¬ (false = true) by decide), if_neg (show ¬ (false = true) by decide)]
    cases hn : s.noSuch a with
    | true =>
      have H2 := hide (ohas_any F p s a w h)
      rw [hn] at H2
      rw [if_pos rfl, if_pos rfl]
      obtain ⟨g, kb, kc, wv, mv, hit, rfl, R⟩ := h
      clear R hf hn
      go_enter Try.func43, Try.ntmps43
      go_wp2_with fail
      refine Calls.mono (unhide H1) ?_
      rintro e w' ⟨rfl, rfl⟩
      go_wp2_with fail
      refine Calls.mono (unhide H2) ?_
      rintro e w'' ⟨rfl, rfl⟩
      go_wp2
      go_ret2
      exact ⟨_, rfl, ⟨Row.nil _, Or.inl rfl⟩, Below.refl _ _⟩
    | false =>
      obtain ⟨h0, h1, h2⟩ := DK.noSuch_false hn
      obtain ⟨k, rfl⟩ := Int.eq_ofNat_of_zero_le h0
      rw [if_neg (show ¬ (false = true) by decide), if_neg (show ¬ (false = true) by decide), Int.toNat_natCast]
      exact oread_ok F p s k w h hf (by omega)
end Go.Proofs.Ytdpoiieblbmofaa
