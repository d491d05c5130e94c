/- Texts of ours, one behind the other: DiskOwn4, DiskOwn7, DiskOwn8, DiskOwn9, DiskOwn10, DiskOwn5, DiskOwn6. -/
import Derived.Test.YtpkpjmebkikgdaaG1
import Derived.Test.YtpkpjmebkikgdaaG4
import Derived.Test.YtpkpjmebkikgdaaG23
import Derived.Deep.WholeRow
import Derived.Deep.RegionHeld3
/- The landed package disk: what is kept of the writes that wait; Flush, Crash. -/
namespace Go.Proofs.Ytpkpjmebkikgdaa
open Go.RowKit

theorem Try.infoImage : (Try.prog.info? 89).map (·.size) = some 512 := by kernel_rfl
theorem Try.infoWrite : (Try.prog.info? 91).map (fun i => (i.zero, i.size)) = some (some (.agg (.int .i64 0 :: List.replicate 512 (Value.int .u8 0)).toArray), 513) := by kernel_rfl

theorem wpList_store_new {P : Program} {ops : Array Oper} {rest : List Oper} {op : Oper} {a : Act} {w : World} {Q : Exit → Act → World → Prop} (hgd : op.guard = none) (ty : TypeId) (x y : Operand) (ho : op.op = .store ty x y)
    (c c' : Array Value) (hx : a.eval x = .pointer (some ⟨w.heap.size, 0, none⟩)) (hy : a.eval y = .agg c')
    (hi : (P.info? ty).map (·.size) = some c'.size) (hs : c.size = c'.size) (h1 : c'.all (·.oneCell') = true)
    (h : wpList P ops Q rest (a.put op.dst undef) (w.alloc (.cells c' ty))) : wpList P ops Q (op :: rest) a (w.alloc (.cells c ty)) :=
  wpList_plain hgd fun K hK => by
    unfold Oper.wp execOp
    have := run_storeAt_new (P := P) w ty c c' hi hs h1
    simp only [ho, hx, hy, Sem.run_bind, this, Result.andThen_ok, Sem.run_pure]
    exact hK _ _ h

theorem oneCell_wr1 (x : Nat × List UInt8) : ∀ v ∈ wr1 x, v.oneCell' = true := by
  intro v hv
  simp only [wr1, List.mem_cons, List.mem_map] at hv
  rcases hv with rfl | ⟨b, _, rfl⟩ <;> rfl
theorem oneCell_bytes (b : List UInt8) : ∀ v ∈ b.map B, v.oneCell' = true := by
  intro v hv
  simp only [List.mem_map] at hv
  rcases hv with ⟨b, _, rfl⟩
  rfl

/-- A sector is kept. -/
theorem DAt.keeps {F : Nat → Prop} {w : World} {g kb kc : Nat} {wv mv : Value} {s : DK} {hit : Int} (h : DAt F w g kb kc wv mv s hit) {a : Nat} (ha : a < s.n) {b : List UInt8} (hb : b.length = 512) :
    DAt F (w.setCells kb (a * 512) (b.map B)) g kb kc wv mv { s with kept := keep1 s.kept (a, b) } hit ∧ Keep F w (w.setCells kb (a * 512) (b.map B)) := by
  have hK := keep_setCells kb (b.map B) (a * 512) w
  have hk : ∀ k, k ≠ kb → k < w.heap.size → (w.setCells kb (a * 512) (b.map B)).heap[k]? = w.heap[k]? := fun k h1 h2 => hK.block k h2 h1
  refine ⟨⟨(hk g (fun e => h.kg e.symm) (h.lt g h.fg)).trans h.blk, h.kept.store h.ok.kept ha hb, row_stays h.own fun k e => hk k (fun ek => h.wk (ek ▸ e)) (h.lt k (h.fw k e)), h.map.stays fun k hF hm => hk k (fun ek => ?_) (h.lt k hF), h.armed, h.fg, h.fk, h.fw, fun k hF => by rw [size_setCells]; exact h.lt k hF, ⟨h.ok.size, length_keep1 h.ok.kept hb, h.ok.waits, h.ok.armed⟩⟩, hK.weak (fun k e => e ▸ h.fk)⟩
  obtain ⟨es, c, hm⟩ := hm
  obtain ⟨C, hC, _⟩ := h.kept
  rw [ek, hC] at hm
  cases hm

end Go.Proofs.Ytpkpjmebkikgdaa

/- The landed package disk: Read. -/
namespace Go.Proofs.Ytpkpjmebkikgdaa
open Go.RowKit

theorem owf64 {n : Int} (h1 : -9223372036854775808 ≤ n) (h2 : n ≤ 9223372036854775807) : (Lit.int .i64 n).wf = true := by
  simp [Lit.wf, IntKind.min, IntKind.max, IntKind.signed, IntKind.bits]
  omega

theorem Try.infoImageZ : (Try.prog.info? 89).map (fun i => (i.zero, i.size)) = some (some (.agg (List.replicate 512 (Value.int .u8 0)).toArray), 512) := by kernel_rfl

theorem lookup_nil (w : World) (a : Int) : (Instr.lookup 52 (.map none) (.int .i64 a) true).run Try.prog w = .ok (.tuple #[.int .i64 0, .bool false]) w := by
  have hz := Try.zeroValue3 w
  simp [Instr.lookup, run_underlying Try.underlying52, MapKept.run_checkKey Try.underlying3 (k := .int .i64 a) rfl, Instr.findKey, Instr.findNow, hz, Result.andThen]


set_option maxRecDepth 20000 in
/-- What the last write that waits wrote to a sector, if there is one. -/
theorem olast_any (F : Nat → Prop) (g : Nat) (s : DK) (a : Nat) (w : World) (h : DRep F w (.pointer (some ⟨g, 0, none⟩)) s) (ha : a < 65536) :
    Calls Try.prog 37 #[.pointer (some ⟨g, 1, none⟩), .int .i64 (a : Int)] w fun e w' => Below w.heap.size w w' ∧
      ((∃ Z, e = .returned (.tuple #[.agg Z, .bool false]) ∧ Z.size = 512 ∧ Z.all (·.oneCell') = true ∧ ∀ b, shownB a b s.waits = b) ∨ ∃ c : List UInt8, e = .returned (.tuple #[.agg (c.map B).toArray, .bool true]) ∧ c.length = 512 ∧ ∀ b, shownB a b s.waits = c) := by
  obtain ⟨g', kb, kc, wv, mv, hit, e, R⟩ := h
  cases e
  obtain ⟨hz, hzs⟩ := zero_of_info Try.infoImageZ
  obtain ⟨Z, hZ⟩ : ∃ Z : Array Value, Z = (List.replicate 512 (Value.int .u8 0)).toArray := ⟨_, rfl⟩
  rw [← hZ] at hz
  have HZ : Hid (Z.size = 512) := by unfold Hid; rw [hZ]; simp
  have HI1 : Hid ((Try.prog.info? 89).map (·.size) = some Z.size) := by unfold Hid; rw [unhide HZ]; exact hzs
  have HI4 : Hid (Z.all (·.oneCell') = true) := by
    rw [hZ]
    exact all_oneCell_toArray (fun v hv => by rw [List.eq_of_mem_replicate hv]; rfl)
  clear hZ
  obtain ⟨w1, hw1⟩ : ∃ w1, w1 = w.alloc (.cells Z 89) := ⟨_, rfl⟩
  have hb1 : Below w.heap.size w w1 := by rw [hw1]; exact (Below.refl _ _).alloc (Nat.le_refl _) _
  have hx1 : w1.heap[w.heap.size]? = some (.cells Z 89 (0, 0)) := by rw [hw1]; exact heap_alloc_new _ _
  have R1 := R.stays hb1.size (fun k hk => hb1.block k (R.lt k hk))
  have HB1 := hide hb1
  have HX1 := hide hx1
  clear R hb1 hx1
  obtain ⟨c0, c1, c2, c3, c4, c5, c6, c7, hfz⟩ := eight_cells R1.blk
  obtain ⟨q, cw, rfl⟩ := R1.shape
  have HR := hide R1
  clear hfz c0 c3 c4 c5 c6 c7
  rcases R1.map with ⟨rfl, hnil⟩ | ⟨m, f, cnt, rfl, hFm, hM, hcnt, hlast⟩
  · have hlk := lookup_nil w1 (a : Int)
    have HS : Hid (∀ b, shownB a b s.waits = b) := by intro b; rw [hnil]; rfl
    clear R1 hnil ha
    rw [hw1] at c1 c2 hlk
    go_enter Try.func37, Try.ntmps37
    go_wp2_with (first
      | (with_reducible show wpList _ _ _ (Oper.mk _ (Op.store 89 _ _) _ _ _ _ :: _) _ _; refine wpList_store_new rfl 89 _ _ rfl Z Z rfl rfl (unhide HI1) rfl (unhide HI4) ?_))
    refine bodyPost_ret (v := .tuple #[.agg Z, .bool false]) ?_ rfl ⟨by rw [← hw1]; exact unhide HB1, Or.inl ⟨_, rfl, unhide HZ, unhide HI4, unhide HS⟩⟩
    have hld := run_loadVar_new (P := Try.prog) w 89 Z 512 _ Try.underlying89 (unhide HI1)
    rw [results_cell_tmp rfl]
    simp [asAddr, Result.andThen, hld]
  · obtain ⟨r, hr, hf⟩ := hlast a
    have hlk := hM.look Try.underlying3 Try.underlying52 (z := .int .i64 0) (Try.zeroValue3 w1) (a : Int) (owf64 (by omega) (by omega))
    rw [hf] at hlk
    cases r with
    | none =>
      have HS : Hid (∀ b, shownB a b s.waits = b) := fun b => shown_not hr b
      have hlk' : (Instr.lookup 52 (.map (some m)) (.int .i64 (a : Int)) true).run Try.prog w1 = .ok (.tuple #[.int .i64 0, .bool false]) w1 := hlk
      clear R1 ha hr hf hlk hM hlast hFm hcnt
      rw [hw1] at c1 c2 hlk'
      go_enter Try.func37, Try.ntmps37
      go_wp2_with (first
        | (with_reducible show wpList _ _ _ (Oper.mk _ (Op.store 89 _ _) _ _ _ _ :: _) _ _; refine wpList_store_new rfl 89 _ _ rfl Z Z rfl rfl (unhide HI1) rfl (unhide HI4) ?_))
      refine bodyPost_ret (v := .tuple #[.agg Z, .bool false]) ?_ rfl ⟨by rw [← hw1]; exact unhide HB1, Or.inl ⟨_, rfl, unhide HZ, unhide HI4, unhide HS⟩⟩
      have hld := run_loadVar_new (P := Try.prog) w 89 Z 512 _ Try.underlying89 (unhide HI1)
      rw [results_cell_tmp rfl]
      simp [asAddr, Result.andThen, hld]
    | some i =>
      obtain ⟨hi, hr1, hr2⟩ := hr
      have HS : Hid (∀ b, shownB a b s.waits = s.waits[i].2) := fun b => shown_some hi hr1 hr2 b
      have hlk' : (Instr.lookup 52 (.map (some m)) (.int .i64 (a : Int)) true).run Try.prog w1 = .ok (.tuple #[.int .i64 (i : Int), .bool true]) w1 := hlk
      obtain ⟨h2, cap, ev, hF, hcap, hrg⟩ := R1.wait i hi
      simp only [Value.slice.injEq, true_and] at ev
      obtain ⟨rfl, rfl⟩ := ev
      have hwk := R1.ok.waits _ (List.getElem_mem hi)
      have hiI : (i : Int) < s.waits.length := by omega
      have hrb : w1.rangeAt h2 (i * 513 + 1) (s.waits[i].2.map B) := fun j v hv => by
        have := hrg (j + 1) v (by unfold wr1; rw [List.getElem?_cons_succ]; exact hv)
        rw [show i * 513 + 1 + j = i * 513 + (j + 1) by omega]
        exact this
      generalize s.waits[i].2 = c at *
      obtain ⟨bs, hbs⟩ : ∃ bs, bs = c.map B := ⟨_, rfl⟩
      have hbl : bs.length = 512 := by rw [hbs, List.length_map]; exact hwk.2
      have hone : ∀ v ∈ bs, v.oneCell' = true := by rw [hbs]; exact oneCell_bytes c
      rw [← hbs] at hrb
      have HBS := hide hbs
      have HCL := hide hwk.2
      have HI5 : Hid ((Try.prog.info? 89).map (·.size) = some bs.toArray.size) := by unfold Hid; rw [List.size_toArray, hbl]; exact hzs
      have HI6 : Hid (Z.size = bs.toArray.size) := by
        have e : bs.toArray.size = 512 := by rw [List.size_toArray, hbl]
        rw [e]
        exact unhide HZ
      have HI7 : Hid ((Try.prog.info? 89).map (·.size) = some bs.length) := by unfold Hid; rw [hbl]; exact hzs
      have HI8 := hide (all_oneCell_toArray hone)
      clear R1 ha hr1 hr2 hf hlk hM hlast hFm hcnt hrg hwk hbs hbl hone
      rw [hw1] at c1 c2 hlk' hrb
      go_enter Try.func37, Try.ntmps37
      go_wp2_with (first
        | (with_reducible show wpList _ _ _ (Oper.mk _ (Op.load 89 _) _ _ _ _ :: _) _ _; refine wpList_load_mid rfl 89 _ rfl h2 (i * 513 + 1) rfl bs _ hrb Try.underlying89 rfl (unhide HI7) ?_)
        | (with_reducible show wpList _ _ _ (Oper.mk _ (Op.store 89 _ _) _ _ _ _ :: _) _ _; refine wpList_store_new rfl 89 _ _ rfl Z bs.toArray rfl rfl (unhide HI5) (unhide HI6) (unhide HI8) ?_))
      have B3 : Below w.heap.size w (w.alloc (.cells bs.toArray 89)) := (Below.refl _ _).alloc (Nat.le_refl _) _
      refine bodyPost_ret (v := .tuple #[.agg bs.toArray, .bool true]) ?_ rfl ⟨B3, Or.inr ⟨c, by rw [← unhide HBS], unhide HCL, unhide HS⟩⟩
      have hld := run_loadVar_new (P := Try.prog) w 89 bs.toArray 512 _ Try.underlying89 (unhide HI5)
      rw [results_cell_tmp rfl]
      simp [asAddr, Result.andThen, hld]
end Go.Proofs.Ytpkpjmebkikgdaa

/- The landed package disk: Read. -/
namespace Go.Proofs.Ytpkpjmebkikgdaa
open Go.RowKit

theorem mine_of_range {w : World} {base x : Nat} {t : TypeId} {C : Array Value} {c : List UInt8} (hb : w.heap[x]? = some (.cells C t (0, 0))) (hx : base ≤ x) (hr : w.rangeAt x 0 (c.map B)) (hc : c.length = 512) : Mine w base (.slice (some ⟨x, 0, none⟩) 512 512) c := by
  refine ⟨⟨some ⟨x, 0, none⟩, 512, by rw [hc], by omega, by unfold maxLen; omega, by simp, Or.inr ⟨x, 0, rfl, fun j hj => ?_⟩⟩, Or.inr ⟨x, 0, 512, t, C, by rw [hc], hx, hb⟩⟩
  rw [hr j (B c[j]) (by rw [List.getElem?_map, List.getElem?_eq_getElem hj]; rfl)]

set_option maxRecDepth 20000 in
set_option maxHeartbeats 1000000 in
theorem oread_ok (F : Nat → Prop) (p : Value) (s : DK) (a : Nat) (w : World) (h : DRep F w p s) (hf : s.fell = false) (ha : a < s.n) :
    Calls Try.prog 24 #[p, .int .i64 (a : Int)] w fun e w' => ∃ t, e = .returned (.tuple #[t, .int .i64 0]) ∧ Mine w' w.heap.size t (s.shown a) ∧ Below w.heap.size w w' := by
  have H1 := hide (orefuses_any F p s w h)
  rw [hf, if_neg (by decide)] at H1
  have H2 := hide (ohas_any F p s (a : Int) w h)
  rw [show s.noSuch (a : Int) = false by unfold DK.noSuch; simp; omega] at H2
  have HD := hide h
  obtain ⟨g, kb, kc, wv, mv, hit, rfl, R⟩ := h
  obtain ⟨hz, hzs⟩ := zero_of_info Try.infoImageZ
  obtain ⟨Z, hZ⟩ : ∃ Z : Array Value, Z = (List.replicate 512 (Value.int .u8 0)).toArray := ⟨_, rfl⟩
  rw [← hZ] at hz
  have HZ : Hid (Z.size = 512) := by unfold Hid; rw [hZ]; simp
  clear hZ
  obtain ⟨c0, c1, c2, c3, c4, c5, c6, c7, hfz⟩ := eight_cells R.blk
  have hkl := R.ok.kept a
  have hr : w.rangeAt kb (a * 512) ((s.kept a).map B) := by obtain ⟨C, _, _, _, _, h5⟩ := R.kept; exact h5 a ha
  have hkc : s.n ≤ kc := by obtain ⟨C, _, _, h3, _⟩ := R.kept; exact h3
  have hn := R.ok.size
  have haI : (a : Int) < s.n := by omega
  obtain ⟨bs, hbs⟩ : ∃ bs, bs = (s.kept a).map B := ⟨_, rfl⟩
  have hbl : bs.length = 512 := by rw [hbs, List.length_map]; exact hkl
  have hone : ∀ v ∈ bs, v.oneCell' = true := by rw [hbs]; exact oneCell_bytes _
  rw [← hbs] at hr
  have HBS := hide hbs
  have HI5 : Hid ((Try.prog.info? 89).map (·.size) = some bs.toArray.size) := by unfold Hid; rw [List.size_toArray, hbl]; exact hzs
  have HI6 : Hid (Z.size = bs.toArray.size) := by
    have e : bs.toArray.size = 512 := by rw [List.size_toArray, hbl]
    rw [e]
    exact unhide HZ
  have HI7 : Hid ((Try.prog.info? 89).map (·.size) = some bs.length) := by unfold Hid; rw [hbl]; exact hzs
  have HI8 := hide (all_oneCell_toArray hone)
  have hgl := R.lt g R.fg
  clear R hfz hf hbs hone c1 c2 c3 c4 c5 c6 c7 hkl
  go_enter Try.func24, Try.ntmps24
  go_wp2_with fail
  refine Calls.mono (unhide H1) ?_
  rintro e w' ⟨rfl, rfl⟩
  go_wp2_with fail
  refine Calls.mono (unhide H2) ?_
  rintro e w'' ⟨rfl, rfl⟩
  go_wp2_with (first
    | (with_reducible show wpList _ _ _ (Oper.mk _ (Op.load 89 _) _ _ _ _ :: _) _ _; refine wpList_load_mid rfl 89 _ rfl kb (a * 512) rfl bs _ hr Try.underlying89 rfl (unhide HI7) ?_)
    | (with_reducible show wpList _ _ _ (Oper.mk _ (Op.store 89 _ _) _ _ _ _ :: _) _ _; refine wpList_store_new rfl 89 _ _ rfl Z bs.toArray rfl rfl (unhide HI5) (unhide HI6) (unhide HI8) ?_))
  have hb1 : Below w''.heap.size w'' (w''.alloc (.cells bs.toArray 89)) := (Below.refl _ _).alloc (Nat.le_refl _) _
  have hx1 : (w''.alloc (.cells bs.toArray 89)).heap[w''.heap.size]? = some (.cells bs.toArray 89 (0, 0)) := heap_alloc_new _ _
  have hd1 := (unhide HD).stays hb1.size (fun k hk => hb1.block k ((unhide HD).lt k hk))
  refine Calls.mono (olast_any F g s a _ hd1 (by omega)) ?_
  rintro e w2 ⟨hb2, hcase⟩
  have hb3 : Below w''.heap.size w'' w2 := hb1.trans (hb2.mono hb1.size)
  have hx2 : w2.heap[w''.heap.size]? = some (.cells bs.toArray 89 (0, 0)) := (hb2.block _ (by simp)).trans hx1
  have hl2 : w''.heap.size < w2.heap.size := (Array.getElem?_eq_some_iff.1 hx2).1
  have HB3 := hide hb3
  have HX2 := hide hx2
  clear hb1 hx1 hd1 hb2 hb3 hx2 H1 H2 HD hr HI5 HI6 HI7 HI8
  rcases hcase with ⟨Z2, rfl, hZ1, hZ2, hsh⟩ | ⟨c, rfl, hcl, hsh⟩
  · have HI5 : Hid ((Try.prog.info? 89).map (·.size) = some Z2.size) := by unfold Hid; rw [hZ1]; exact hzs
    have HI6 : Hid (Z.size = Z2.size) := by unfold Hid; rw [hZ1]; exact unhide HZ
    have HI8 := hide hZ2
    have HS := hide (hsh (s.kept a))
    clear hZ1 hZ2 hsh
    go_wp2_with (first
      | (with_reducible show wpList _ _ _ (Oper.mk _ (Op.store 89 _ _) _ _ _ _ :: _) _ _; refine wpList_store_new rfl 89 _ _ rfl Z Z2 rfl rfl (unhide HI5) (unhide HI6) (unhide HI8) ?_))
    go_ret2
    have hb4 : Below w2.heap.size w2 (w2.alloc (.cells Z2 89)) := (Below.refl _ _).alloc (Nat.le_refl _) _
    have hx4 := (hb4.block _ hl2).trans (unhide HX2)
    refine ⟨_, rfl, ?_, (unhide HB3).trans (hb4.mono (unhide HB3).size)⟩
    have e : s.shown a = s.kept a := unhide HS
    rw [e]
    refine mine_of_range hx4 (Nat.le_refl _) ?_ (by have := hbl; rw [unhide HBS, List.length_map] at this; exact this)
    intro j v hv
    rw [Nat.zero_add, cell_of_row _ _ j _ _ (0, 0) hx4]
    rw [← unhide HBS] at hv
    simpa using hv
  · obtain ⟨cb, hcb⟩ : ∃ cb, cb = c.map B := ⟨_, rfl⟩
    have hcbl : cb.length = 512 := by rw [hcb, List.length_map]; exact hcl
    have hone : ∀ v ∈ cb, v.oneCell' = true := by rw [hcb]; exact oneCell_bytes _
    rw [← hcb]
    have HCB := hide hcb
    have HI5 : Hid ((Try.prog.info? 89).map (·.size) = some cb.toArray.size) := by unfold Hid; rw [List.size_toArray, hcbl]; exact hzs
    have HI6 : Hid (Z.size = cb.toArray.size) := by
      have e : cb.toArray.size = 512 := by rw [List.size_toArray, hcbl]
      rw [e]
      exact unhide HZ
    have HI7 : Hid ((Try.prog.info? 89).map (·.size) = some cb.length) := by unfold Hid; rw [hcbl]; exact hzs
    have HI8 := hide (all_oneCell_toArray hone)
    have HS := hide (hsh (s.kept a))
    have HCL := hide hcl
    have hb4 : Below w2.heap.size w2 (w2.alloc (.cells cb.toArray 89)) := (Below.refl _ _).alloc (Nat.le_refl _) _
    have hx4 := (hb4.block _ hl2).trans (unhide HX2)
    have hn4 : (w2.alloc (.cells cb.toArray 89)).heap[w2.heap.size]? = some (.cells cb.toArray 89 (0, 0)) := heap_alloc_new _ _
    have hr4 : (w2.alloc (.cells cb.toArray 89)).rangeAt w2.heap.size 0 cb := by
      intro j v hv
      rw [Nat.zero_add, cell_of_row _ _ j _ _ (0, 0) hn4]
      simpa using hv
    have ht4 : (w2.alloc (.cells cb.toArray 89)).there w''.heap.size 0 cb.toArray.size := there_of_block hx4 (by rw [List.size_toArray, List.size_toArray, hcbl, hbl]; omega)
    have HFIN : Hid (Mine ((w2.alloc (.cells cb.toArray 89)).setCells w''.heap.size 0 cb) w''.heap.size (.slice (some ⟨w''.heap.size, 0, none⟩) 512 512) (s.shown a) ∧ Below w''.heap.size w'' ((w2.alloc (.cells cb.toArray 89)).setCells w''.heap.size 0 cb)) := by
      obtain ⟨C', h6, _⟩ := block_setCells w''.heap.size _ cb 0 _ _ hx4
      have e : s.shown a = c := unhide HS
      rw [e]
      have hrs := World.rangeAt_setCells_same (w2.alloc (.cells cb.toArray 89)) w''.heap.size 0 cb (by rw [List.size_toArray] at ht4; exact ht4)
      have hKs := (keep_setCells w''.heap.size cb 0 (w2.alloc (.cells cb.toArray 89))).below (b := w''.heap.size) (by simp; omega) (fun k e => by omega)
      refine ⟨mine_of_range h6 (Nat.le_refl _) (by rw [unhide HCB] at hrs ⊢; exact hrs) hcl, ((unhide HB3).trans (hb4.mono (unhide HB3).size)).trans hKs⟩
    clear hsh hcl hcb hcbl hone hb4 hx4 hn4
    go_wp2_with (first
      | (with_reducible show wpList _ _ _ (Oper.mk _ (Op.store 89 (Operand.tmp 8) _) _ _ _ _ :: _) _ _; refine wpList_store_new rfl 89 _ _ rfl Z cb.toArray rfl rfl (unhide HI5) (unhide HI6) (unhide HI8) ?_)
      | (with_reducible show wpList _ _ _ (Oper.mk _ (Op.load 89 _) _ _ _ _ :: _) _ _; refine wpList_load_mid rfl 89 _ rfl w2.heap.size 0 rfl cb _ hr4 Try.underlying89 rfl (unhide HI7) ?_)
      | (with_reducible show wpList _ _ _ (Oper.mk _ (Op.store 89 (Operand.tmp 7) _) _ _ _ _ :: _) _ _; refine wpList_store_mid rfl 89 _ _ rfl w''.heap.size 0 cb.toArray rfl rfl ht4 (unhide HI5) (unhide HI8) ?_))
    go_ret2
    exact ⟨_, rfl, (unhide HFIN).1, (unhide HFIN).2⟩

set_option maxRecDepth 20000 in
theorem oread_any (F : Nat → Prop) (p : Value) (s : DK) (a : Int) (w : World) (h : DRep F w p s) :
    Calls Try.prog 24 #[p, .int .i64 a] w fun e w' => ∃ t, e = .returned (.tuple #[t, .int .i64 (s.readE a)]) ∧ Mine w' w.heap.size t (s.readB a) ∧ Below w.heap.size w w' := by
  unfold DK.readE DK.readB
  have H1 := hide (orefuses_any F p s w h)
  cases hf : s.fell with
  | true =>
    rw [hf, if_pos rfl] at H1
    rw [if_pos rfl, if_pos rfl]
    obtain ⟨g, kb, kc, wv, mv, hit, rfl, R⟩ := h
    clear R hf
    go_enter Try.func24, Try.ntmps24
    go_wp2_with fail
    refine Calls.mono (unhide H1) ?_
    rintro e w' ⟨rfl, rfl⟩
    go_wp2
    go_ret2
    exact ⟨_, rfl, ⟨Row.nil _, Or.inl rfl⟩, Below.refl _ _⟩
  | false =>
    rw [hf, if_neg (by decide)] at H1
    rw [if_neg (show ¬ (false = true) by decide), if_neg (show ¬ (false = true) by decide)]
    cases hn : s.noSuch a with
    | true =>
      have H2 := hide (ohas_any F p s a w h)
      rw [hn] at H2
      rw [if_pos rfl, if_pos rfl]
      obtain ⟨g, kb, kc, wv, mv, hit, rfl, R⟩ := h
      clear R hf hn
      go_enter Try.func24, Try.ntmps24
      go_wp2_with fail
      refine Calls.mono (unhide H1) ?_
      rintro e w' ⟨rfl, rfl⟩
      go_wp2_with fail
      refine Calls.mono (unhide H2) ?_
      rintro e w'' ⟨rfl, rfl⟩
      go_wp2
      go_ret2
      exact ⟨_, rfl, ⟨Row.nil _, Or.inl rfl⟩, Below.refl _ _⟩
    | false =>
      obtain ⟨h0, h1, h2⟩ := DK.noSuch_false hn
      obtain ⟨k, rfl⟩ := Int.eq_ofNat_of_zero_le h0
      rw [if_neg (show ¬ (false = true) by decide), if_neg (show ¬ (false = true) by decide), Int.toNat_natCast]
      exact oread_ok F p s k w h hf (by omega)
end Go.Proofs.Ytpkpjmebkikgdaa

/- The landed package disk: Write. -/
namespace Go.Proofs.Ytpkpjmebkikgdaa
open Go.RowKit

/-- Cells that are laid one by one over others. -/
theorem fold_set (l : List Value) : ∀ (k : Nat) (d : Array Value), (l.zipIdx k).foldl (fun cs (x : Value × Nat) => cs.setIfInBounds x.2 x.1) d = (d.toList.take k ++ (l.take (d.size - k)) ++ d.toList.drop (k + l.length)).toArray := by
  induction l with
  | nil =>
    intro k d
    simp
  | cons v l ih =>
    intro k d
    rw [List.zipIdx_cons, List.foldl_cons, ih (k + 1)]
    dsimp only
    rw [Array.toList_setIfInBounds, Array.size_setIfInBounds]
    by_cases hk : k < d.size
    · have h1 : (d.toList.set k v).take (k + 1) = d.toList.take k ++ [v] := by
        rw [List.take_succ_eq_append_getElem (by simpa using hk), List.take_set_of_le (Nat.le_refl _), List.getElem_set_self]
      have h2 : (d.toList.set k v).drop (k + 1 + l.length) = d.toList.drop (k + 1 + l.length) := List.drop_set_of_lt (by omega)
      rw [h1, h2, List.length_cons, show d.size - k = (d.size - (k + 1)) + 1 by omega, List.take_succ_cons, show k + (l.length + 1) = k + 1 + l.length by omega]
      simp
    · have e1 : d.toList.take (k + 1) = d.toList := List.take_of_length_le (by simp; omega)
      have e2 : d.toList.take k = d.toList := List.take_of_length_le (by simp; omega)
      have e3 : d.toList.drop (k + 1 + l.length) = [] := List.drop_eq_nil_of_le (by simp; omega)
      have e4 : d.toList.drop (k + (v :: l).length) = [] := List.drop_eq_nil_of_le (by simp; omega)
      rw [List.set_eq_of_length_le (by simpa using Nat.le_of_not_lt hk), show d.size - k = 0 by omega, show d.size - (k + 1) = 0 by omega, e1, e2, e3, e4]
      simp
theorem fold_all (C d : Array Value) (h : d.size = C.size) : C.zipIdx.foldl (fun cs (x : Value × Nat) => cs.setIfInBounds x.2 x.1) d = C := by
  rw [← Array.foldl_toList, Array.toList_zipIdx, fold_set]
  simp [h]
  rw [List.take_of_length_le (by simp), List.drop_eq_nil_of_le (by simp [h])]
  simp

theorem run_buildSlice_one {P : Program} (w : World) (t e : TypeId) (C : Array Value) (Z : Value) (hu : P.underlying t = some (.slice e)) (hs : (P.info? e).map (·.size) = some C.size) (hz : ∀ w, (zeroValue e).run P w = .ok Z w) (h0 : 0 < C.size) (h1 : C.size ≤ 16777216) :
    (Instr.buildSlice t 1 #[(0, .agg C)]).run P w = .ok (.slice (some ⟨w.heap.size, 0, none⟩) 1 1) (w.alloc (.cells C e)) := by
  have hsz : ∀ w, (sizeOf e).run P w = .ok C.size w := by
    intro w
    cases hq : P.info? e with
    | none => simp [hq] at hs
    | some i =>
      have : i.size = C.size := by simpa [hq] using hs
      simp [sizeOf, typeInfo, hq, this]
  have hf : Instr.fill (fun i => some (i * C.size, C.size)) ((Array.range (1 * C.size)).map (Z.cells[· % Z.cells.size]!)) [(0, .agg C)] = some C := by
    unfold Instr.fill
    simp only [Value.cells, Nat.zero_mul, Nat.zero_add]
    rw [if_neg (by simp)]
    unfold Instr.fill
    rw [fold_all C _ (by simp)]
  unfold Instr.buildSlice
  simp only [Sem.run_bind, run_underlying hu, Result.andThen_ok, hsz]
  rw [if_neg (by omega), if_neg (by omega)]
  simp only [Sem.run_bind, hz, Result.andThen_ok, Sem.run_pure]
  rw [hf]
  simp [newRow, go_sem]

/-- The cells of a row, as the laws on copy ask for them. -/
theorem copy_cells' {w w1 : World} {q : Option Addr} {c n : Nat} {bs : List UInt8} (h : Row w (.slice q n c) bs) (hb : Below w.heap.size w w1) (hp : 0 < (bs.map B).length) :
    ∃ ad, q = some ad ∧ ∀ j u, (bs.map B)[j]? = some u → w1.cell? (ad.add j) = some u := by
  obtain ⟨g2, o2, c2, e2, _, _, hc⟩ := (h.below hb).open (by intro e; rw [e] at hp; simp at hp)
  simp only [Value.slice.injEq] at e2
  obtain ⟨rfl, _, _⟩ := e2
  refine ⟨_, rfl, fun j u hu => ?_⟩
  rw [List.getElem?_map] at hu
  obtain ⟨x, hx, rfl⟩ := Option.map_eq_some_iff.1 hu
  obtain ⟨hj, rfl⟩ := List.getElem?_eq_some_iff.1 hx
  rw [Addr.add_lit, hc j hj]

section
variable {P : Program} (w : World)
theorem run_equalIn_map_nil (d : Nat) (t k e : TypeId) (p : Option Nat) (h : P.underlying t = some (.map k e)) :
    (Op.equalIn (d + 1) t (.map p) (.map none)).run P w = .ok p.isNone w := by
  cases p <;> simp [Op.equalIn, run_underlying h]
/-- A map held against nil. -/
theorem run_eql_map_nil (t k e : TypeId) (p : Option Nat) (h : P.underlying t = some (.map k e)) :
    (binOp .eql t (.map p) (.map none)).run P w = .ok (.bool p.isNone) w := by
  simp only [binOp]
  simp [show Op.equal t (.map p) (.map none) = Op.equalIn (9999 + 1) t (.map p) (.map none) from rfl, run_equalIn_map_nil w 9999 t k e p h]
end
theorem wp_stop {p : Prop} (h : Hid p) : p := h
theorem zero_over (a : Nat) (b : List UInt8) (hl : b.length = 512) (Z : Array Value) (hZ : Z = (.int .i64 0 :: List.replicate 512 (Value.int .u8 0)).toArray) : splice (Z.setIfInBounds 0 (.int .i64 (a : Int))).toList 1 (b.map B) = wr1 (a, b) := by
  have e1 : (Z.setIfInBounds 0 (.int .i64 (a : Int))).toList = .int .i64 (a : Int) :: List.replicate 512 (Value.int .u8 0) := by
    rw [hZ, Array.toList_setIfInBounds]
    rfl
  unfold splice wr1
  rw [e1, List.length_map, hl]
  have e2 : (List.drop (1 + 512) (Value.int .i64 (a : Int) :: List.replicate 512 (Value.int .u8 0))) = [] := List.drop_eq_nil_of_le (by rw [List.length_cons, List.length_replicate]; omega)
  rw [e2, List.append_nil]
  rfl

/-- A write joins those that wait: the device in memory behind it. -/
theorem DAt.join {F : Nat → Prop} {w w5 w6 w7 : World} {g kb kc m cnt : Nat} {wv v' : Value} {s : DK} {hit : Int} {f : Int → Option Value} {a : Nat} {b : List UInt8} (h : DAt F w g kb kc wv (.map (some m)) s hit)
    (hFm : F m) (hm : ∃ es c, w.heap[m]? = some (.map es c)) (hcnt : cnt ≤ s.waits.length) (hlast : ∀ a : Nat, ∃ r, LastOf s.waits a r ∧ f (a : Int) = r.map (fun i : Nat => Value.int .i64 (i : Int)))
    (ha : a < s.n) (hl : b.length = 512) (hM5 : MapIs Try.prog 3 w5 m (cnt + 1) (fun x => if x = (a : Int) then some (.int .i64 (s.waits.length : Int)) else f x)) (hg5 : w.grownBy w5 (some m)) (hb6 : Below w5.heap.size w5 w6)
    (hown : w7.ownsRow 0 91 513 v' (s.waits.length + 1) (wrs s.waits ++ wr1 (a, b))) (hg7 : w6.grownBy w7 wv.ownBlock) (hv : v'.ownBlock = wv.ownBlock ∨ v'.ownBlock = some w6.heap.size) :
    ∃ F', DAt F' (w7.setCell ⟨g, 1, none⟩ v') g kb kc v' (.map (some m)) { s with waits := s.waits ++ [(a, b)] } hit ∧ Moves F F' w (w7.setCell ⟨g, 1, none⟩ v') := by
  have hsz5 := hg5.size
  have hsz6 := hb6.size
  have hsz7 := hg7.size
  have hk : ∀ k, k < w.heap.size → k ≠ m → wv.ownBlock ≠ some k → w7.heap[k]? = w.heap[k]? := fun k h1 h2 h3 =>
    (hg7.block k (by omega) (fun e => h3 e.symm)).trans ((hb6.block k (by omega)).trans (hg5.block k h1 (fun e => h2 (Option.some.inj e))))
  have hgm : g ≠ m := fun e => by obtain ⟨es, c, hm⟩ := hm; rw [← e, h.blk] at hm; cases hm
  have hkm : kb ≠ m := fun e => by obtain ⟨es, c, hm⟩ := hm; obtain ⟨C, hC, _⟩ := h.kept; rw [← e, hC] at hm; cases hm
  have hwm : wv.ownBlock ≠ some m := fun e => by obtain ⟨es, c, hm⟩ := hm; obtain ⟨cur, hh⟩ := row_kind h.own m e; rw [hm] at hh; cases hh
  have hblk7 := (hk g (h.lt g h.fg) hgm h.wg).trans h.blk
  have hset : ∀ k, k ≠ g → (w7.setCell ⟨g, 1, none⟩ v').heap[k]? = w7.heap[k]? := fun k hk => Below.heap_setCell _ _ _ _ hk
  have hvo := row_kind hown
  have hvg : v'.ownBlock ≠ some g := fun e => by obtain ⟨cur, hh⟩ := hvo g e; rw [hblk7] at hh; cases hh
  refine ⟨fun k => F k ∨ v'.ownBlock = some k, ⟨?_, ?_, ?_, ?_, h.armed, Or.inl h.fg, Or.inl h.fk, fun k e => Or.inr e, ?_, ?_⟩, ?_⟩
  · have b1 := heap_setCell_same w7 g 1 _ _ v' hblk7
    rw [b1]
    rfl
  · exact h.kept.stays ((hset kb h.kg).trans (hk kb (h.lt kb h.fk) hkm h.wk))
  · show (w7.setCell ⟨g, 1, none⟩ v').ownsRow 0 91 513 v' (s.waits ++ [(a, b)]).length (wrs (s.waits ++ [(a, b)]))
    rw [wrs_snoc, List.length_append]
    exact row_stays hown fun k e => hset k (fun e' => hvg (by rw [← e']; exact e))
  · refine Or.inr ⟨m, _, cnt + 1, rfl, Or.inl hFm, ((hM5.stays (hb6.block m hM5.lt)).stays (hg7.block m (by have := hM5.lt; omega) (fun e => hwm e.symm))).stays (hset m (fun e => hgm e.symm)), by rw [List.length_append]; show _ ≤ s.waits.length + 1; omega, fun x => ?_⟩
    obtain ⟨r, hr, hf⟩ := hlast x
    refine ⟨_, hr.snoc a b, ?_⟩
    by_cases hx : x = a
    · rw [if_pos hx, if_pos (by rw [hx])]
      rfl
    · rw [if_neg hx, if_neg (by omega)]
      exact hf
  · intro k hk'
    rw [World.size_setCell]
    rcases hk' with hk' | hk'
    · have := h.lt k hk'; omega
    · obtain ⟨cur, hh⟩ := hvo k hk'
      exact (Array.getElem?_eq_some_iff.1 hh).1
  · exact ⟨h.ok.size, h.ok.kept, fun x hx => by
      rcases List.mem_append.1 hx with hx | hx
      · exact h.ok.waits x hx
      · simp only [List.mem_singleton] at hx; subst hx; exact ⟨ha, hl⟩, h.ok.armed⟩
  · refine ⟨⟨hg7.os.trans (hb6.os.trans hg5.os), hg7.tape.trans (hb6.tape.trans hg5.tape), hg7.output.trans (hb6.output.trans hg5.output), by rw [World.size_setCell]; omega, fun k hk' hn => ?_⟩, fun k hk' => ?_⟩
    · rw [hset k (fun e => hn (e ▸ h.fg))]
      exact hk k hk' (fun e => hn (e ▸ hFm)) (fun e => hn (h.fw k e))
    · rcases hk' with hk' | hk'
      · exact Or.inl hk'
      · rcases hv with hv | hv
        · exact Or.inl (h.fw k (hv ▸ hk'))
        · right
          rw [hv] at hk'
          have := Option.some.inj hk'
          omega

theorem step_append_wr {P : Program} {ops : Array Oper} {o : Oper} {a : Act} {w : World} {K : Act → World → Prop} {Q : Exit → Act → World → Prop} {E : Prop} (hgd : o.guard = none) (s x : Operand) (t : TypeId)
    (ho : o.op = .call { callee := .builtin .append, args := #[s, x], argTypes := #[t, t] })
    (e : TypeId) (i : TypeInfo) (z : Value) (ht : P.underlying t = some (.slice e)) (hi : P.info? e = some i) (hz : i.zero = some z)
    (size bytes : Nat) (hsz0 : 0 < size) (hsize : i.size = size) (hby : i.bytes = bytes) (hzs : z.cells.size = size)
    (v : Value) (n : Nat) (xs : List Value) (hs : a.eval s = v) (hown : w.ownsRow 0 e size v n xs) (ad : Addr) (c : Nat) (news : List Value) (hx : a.eval x = .slice (some ad) 1 c)
    (hl : news.length = size) (hnews : ∀ j u, news[j]? = some u → w.cell? (ad.add j) = some u) (hone : ∀ u ∈ news, u.oneCell' = true) (h63 : n + 1 ≤ maxLen) (hbytes : (n + 1) * bytes ≤ 140737488355328)
    (h : ∀ v' w', w'.ownsRow 0 e size v' (n + 1) (xs ++ news) → w.grownBy w' v.ownBlock → (v'.ownBlock = v.ownBlock ∨ v'.ownBlock = some w.heap.size) → K (a.put o.dst v') w') :
    if Region.wanted o (yielded ops a.tmps) = true then Oper.wp P o a w K Q else E := by
  have hw : Region.wanted o (yielded ops a.tmps) = true := by simp [Region.wanted, hgd]
  rw [if_pos hw]
  obtain ⟨v', w', hr, g1, g2, _⟩ := run_append_own (P := P) w 0 t o.type e i z size bytes ht hi hz hsize hby hzs hsz0 v n xs hown ad 1 c news (by omega) hnews hone h63 hbytes (Nat.zero_le _)
  have g3 := append_block (P := P) w t o.type e i z ht hi hz (base := 0) (v := v) (n := n) (xs := xs) (by rw [hsize]; exact hown) ad 1 c news (by rw [hsize]; omega) hnews hone h63 (by rw [hby]; exact hbytes) hr
  unfold Oper.wp execOp
  simp only [ho, resolve, invoke, builtin, Sem.run_bind, Sem.run_pure, Result.andThen_ok, List.map_toArray, List.map_cons, List.map_nil, hs, hx, hr]
  exact h v' w' g1 g2 g3

theorem size_writes (w : World) : (sizeOf 51).run Try.prog w = .ok 1 w := by
  have h : (Try.prog.info? 51).map (·.size) = some 1 := by kernel_rfl
  cases hq : Try.prog.info? 51 with
  | none => simp [hq] at h
  | some i =>
    have : i.size = 1 := by simpa [hq] using h
    simp [sizeOf, typeInfo, hq, this]
theorem Try.infoWrite3 : (Try.prog.info? 91).map (fun i => (i.zero, i.size, i.bytes)) = some (some (.agg (.int .i64 0 :: List.replicate 512 (Value.int .u8 0)).toArray), 513, 520) := by kernel_rfl

set_option maxRecDepth 20000 in
set_option maxHeartbeats 1000000 in
theorem oput_any (F : Nat → Prop) (g : Nat) (s : DK) (a : Nat) (bv : Value) (b : List UInt8) (w : World) (h : DRep F w (.pointer (some ⟨g, 0, none⟩)) s) (hb : Row w bv b) (hl : b.length = 512) (ha : a < s.n) (hw : s.waits.length ≤ 1048576) :
    Calls Try.prog 17 #[.pointer (some ⟨g, 1, none⟩), .int .i64 (a : Int), bv] w fun e w' => e = .returned (.tuple #[]) ∧ ∃ F', DRep F' w' (.pointer (some ⟨g, 0, none⟩)) { s with waits := s.waits ++ [(a, b)] } ∧ Moves F F' w w' := by
  obtain ⟨g', kb, kc, wv, mv, hit, e, R⟩ := h
  cases e
  obtain ⟨hz, hzs⟩ := zero_of_info Try.infoWrite
  obtain ⟨Z, hZ⟩ : ∃ Z : Array Value, Z = (.int .i64 0 :: List.replicate 512 (Value.int .u8 0)).toArray := ⟨_, rfl⟩
  rw [← hZ] at hz
  have hZs : Z.size = 513 := by rw [hZ]; simp
  have HZO : Hid (∀ v ∈ (Z.setIfInBounds 0 (.int .i64 (a : Int))).toList, v.oneCell' = true) := by
    intro v hv
    rw [hZ] at hv
    simp only [List.setIfInBounds_toArray, List.set_cons_zero, List.mem_cons] at hv
    rcases hv with rfl | hv
    · rfl
    · rw [List.eq_of_mem_replicate hv]; rfl
  have HSP := hide (zero_over a b hl Z hZ)
  clear hZ
  obtain ⟨Z1, hZ1⟩ : ∃ Z1, Z1 = Z.setIfInBounds 0 (.int .i64 (a : Int)) := ⟨_, rfl⟩
  have hZ1s : Z1.size = 513 := by rw [hZ1, Array.size_setIfInBounds]; exact hZs
  rw [← hZ1] at HZO HSP
  have HI1 : Hid ((Try.prog.info? 91).map (·.size) = some Z1.size) := by unfold Hid; rw [hZ1s]; exact hzs
  have HI2 : Hid (Z.size = Z1.size) := by unfold Hid; rw [hZs, hZ1s]
  have HI4 : Hid (Z1.all (·.oneCell') = true) := Array.all_eq_true_iff_forall_mem.2 (fun v hv => unhide HZO v (by simpa using hv))
  have HZ1 := hide hZ1
  obtain ⟨c0, c1, c2, c3, c4, c5, c6, c7, hfz⟩ := eight_cells R.blk
  obtain ⟨q, cw, rfl⟩ := R.shape
  obtain ⟨bq, bc, l, rfl, hl2⟩ := hb.shape
  rw [hl] at hl2
  subst hl2
  have hgl := R.lt g R.fg
  have HR := hide R
  have HB := hide hb
  have HBL : Hid ((b.map B).length = Nat.min 512 512) := by unfold Hid; rw [List.length_map]; exact hl
  have HZ1S := hide hZ1s
  have hZne : ¬ Z = #[] := by intro e; rw [e] at hZs; simp at hZs
  have HX1 : Hid ((w.alloc (.cells Z1 91)).heap[w.heap.size]? = some (.cells Z1.toList.toArray 91 (0, 0))) := by unfold Hid; rw [Array.toArray_toList]; exact heap_alloc_new _ _
  have HB1 : Hid (Below w.heap.size w (w.alloc (.cells Z1 91))) := (Below.refl _ _).alloc (Nat.le_refl _) _
  clear hfz R hb hZ1 hZ1s
  go_enter Try.func17, Try.ntmps17
  go_wp2_with (first
    | (with_reducible show wpList _ _ _ (Oper.mk _ (Op.store 91 _ _) _ _ _ _ :: _) _ _; rw [← unhide HZ1]; refine wpList_store_new rfl 91 _ _ rfl Z Z1 rfl rfl (unhide HI1) (unhide HI2) (unhide HI4) ?_)
    | (with_reducible show wpList _ _ _ (Oper.mk _ (Op.call _) _ _ _ _ :: _) _ _; refine wp_stop ?_))
  unfold Hid
  refine wpList_copy_splice rfl (.tmp 10) (.tmp 11) 31 31 rfl 5 Try.underlying31 Try.size5 _ _ _ _ _ _ rfl rfl w.heap.size 1 Z1.toList 91 (unhide HX1) (b.map B) (unhide HBL) (fun hp => ⟨rfl, copy_cells' (unhide HB) (unhide HB1) hp⟩) (by rw [List.length_map, hl, Array.length_toList, unhide HZ1S]; omega) (oneCell_bytes b) w.heap.size w (unhide HB1) (Nat.le_refl _) ?_
  intro w3 hw3 hb3
  have h3 := hw3.out
  rw [unhide HSP] at h3
  have R3 := (unhide HR).stays hb3.size (fun k hk => hb3.block k ((unhide HR).lt k hk))
  have hxF : ¬ F w.heap.size := fun hf => absurd ((unhide HR).lt _ hf) (Nat.lt_irrefl _)
  have HB3 := hide hb3
  have HX3 := hide h3
  clear hw3 hb3 h3 HX1 HB1 HZO HSP HI1 HI2 HI4 HZ1 HZ1S HR HB HBL c0 c1 c2 c3 c4 c5 c6 c7
  have hsl : s.waits.length ≤ 1048576 := hw
  have hnl := R3.ok.size
  obtain ⟨c0, c1, c2, c3, c4, c5, c6, c7, hfz⟩ := eight_cells R3.blk
  have hfz2 := hfz 2
  have hgl3 := R3.lt g R3.fg
  have HR3 := hide R3
  have hmk : ∀ w, (Instr.makeMap 52 none).run Try.prog w = .ok (.map (some w.heap.size)) (w.alloc (.map #[] 0)) := fun _ => rfl
  rcases R3.map with ⟨rfl, hnil⟩ | ⟨m, f, cnt, rfl, hFm, hM, hcnt, hlast⟩
  focus
    have hq := fun w' => run_eql_map_nil (P := Try.prog) w' 52 _ _ none Try.underlying52
    obtain ⟨w4, hw4⟩ : ∃ w4, w4 = (w3.setCell ⟨g, 2, none⟩ (.map (some w3.heap.size))).alloc (.map #[] 0) := ⟨_, rfl⟩
    have H4 : Hid (∃ m F4 f cnt, m = w3.heap.size ∧ DAt F4 w4 g kb kc (.slice q s.waits.length cw) (.map (some m)) s hit ∧ F4 m ∧ MapIs Try.prog 3 w4 m cnt f ∧ cnt ≤ s.waits.length ∧ (∀ a : Nat, ∃ r, LastOf s.waits a r ∧ f (a : Int) = r.map (fun i : Nat => Value.int .i64 (i : Int))) ∧ Moves F F4 w w4 ∧ w4.heap[w.heap.size]? = some (.cells (wr1 (a, b)).toArray 91 (0, 0)) ∧ ¬ F4 w.heap.size) := by
      have R3 := unhide HR3
      have b1 := heap_setCell_same w3 g 2 _ _ (.map (some w3.heap.size)) R3.blk
      have hK := keep_set w3 g 2 (.map (some w3.heap.size))
      have hsz4 : w4.heap.size = w3.heap.size + 1 := by rw [hw4]; simp
      have hk4 : ∀ k, k < w3.heap.size → k ≠ g → w4.heap[k]? = w3.heap[k]? := fun k h1 h2 => by
        rw [hw4, Below.heap_alloc _ _ _ (by simp; exact h1)]
        exact hK.block k h1 h2
      have hx3 := unhide HX3
      have hxl : w.heap.size < w3.heap.size := (Array.getElem?_eq_some_iff.1 hx3).1
      have hm4 : MapIs Try.prog 3 w4 w3.heap.size 0 (fun _ => none) := by
        have := MapIs.made Try.prog 3 (w3.setCell ⟨g, 2, none⟩ (.map (some w3.heap.size)))
        rw [World.size_setCell] at this
        rw [hw4]
        exact this
      have hl4 : ∀ a : Nat, ∃ r, LastOf s.waits a r ∧ (none : Option Value) = r.map (fun i : Nat => Value.int .i64 (i : Int)) := fun x => ⟨none, by rw [hnil]; exact LastOf.nil x, rfl⟩
      refine ⟨w3.heap.size, fun k => F k ∨ k = w3.heap.size, fun _ => none, 0, rfl, ⟨?_, ?_, ?_, ?_, R3.armed, Or.inl R3.fg, Or.inl R3.fk, fun k e => Or.inl (R3.fw k e), ?_, R3.ok⟩, Or.inr rfl, hm4, Nat.zero_le _, hl4, ⟨⟨?_, ?_, ?_, ?_, fun k hk hn => ?_⟩, fun k hk => ?_⟩, ?_, ?_⟩
      · rw [hw4, Below.heap_alloc _ _ _ (by simp; exact hgl3), b1]
        rfl
      · exact R3.kept.stays (hk4 kb (R3.lt kb R3.fk) R3.kg)
      · exact row_stays R3.own fun k e => hk4 k (R3.lt k (R3.fw k e)) (fun ek => R3.wg (ek ▸ e))
      · exact Or.inr ⟨_, _, 0, rfl, Or.inr rfl, hm4, Nat.zero_le _, hl4⟩
      · intro k hk
        rcases hk with hk | hk
        · have := R3.lt k hk; omega
        · omega
      · rw [hw4]; exact (unhide HB3).os
      · rw [hw4]; exact (unhide HB3).tape
      · rw [hw4]; exact (unhide HB3).output
      · have := (unhide HB3).size; omega
      · rw [hk4 k (by have := (unhide HB3).size; omega) (fun e => hn (e ▸ R3.fg))]
        exact (unhide HB3).block k hk
      · rcases hk with hk | hk
        · exact Or.inl hk
        · right; have := (unhide HB3).size; omega
      · rw [hk4 _ hxl (by omega)]; exact hx3
      · intro hf
        rcases hf with hf | hf
        · exact hxF hf
        · omega
    clear R3
    go_wp2_with fail
    rw [← hw4]
    clear hw4 c0 c1 c2 c3 c4 c5 c6 c7 hfz hfz2 HR3 hq hnil HX3 HB3 hgl3
    obtain ⟨m, F4, f, cnt, hmm, R4, hF4, hM4, hcnt, hlast, hMv4, hx4, hxF4⟩ := unhide H4
    rw [← hmm]
    clear hmm H4
    -- (the rest is one for both)
    have HMv4 := hide hMv4
    have HR4 := hide R4
    have HX4 := hide hx4
    have HL4 := hide hlast
    have HG4 := hide hF4
    have HXF := hide hxF4
    clear hMv4 R4 hx4 hlast hF4 hxF4 hxF hmk
  rotate_left
  focus
    have hq := fun w' => run_eql_map_nil (P := Try.prog) w' 52 _ _ (some m) Try.underlying52
    clear R3
    go_wp2_with fail
    obtain ⟨w4, hw4⟩ : ∃ w4, w4 = w3 := ⟨_, rfl⟩
    obtain ⟨F4, HMv4, HR4, HG4, HXF⟩ : ∃ F4, Hid (Moves F F4 w w3) ∧ Hid (DAt F4 w3 g kb kc (.slice q s.waits.length cw) (.map (some m)) s hit) ∧ Hid (F4 m) ∧ Hid (¬ F4 w.heap.size) := ⟨F, Moves.of_below (unhide HB3), unhide HR3, hFm, hxF⟩
    have HX4 := HX3
    have HL4 := hide hlast
    have hM4 := hM
    clear c0 c1 c2 c3 c4 c5 c6 c7 hfz hfz2 HR3 hq HX3 HB3 hgl3 hFm hM hlast hxF hmk
    rw [← hw4] at HMv4 HR4 HX4 hM4
    rw [← hw4]
    clear hw4
  rotate_left
  all_goals
    obtain ⟨i0, hi, hz0, hz1, hz2⟩ := info_parts Try.infoWrite3
    obtain ⟨w5, hrun5, hM5, hg5⟩ := (hM4.stays (w' := w4.drew) rfl).put (t := 52) Try.underlying3 Try.underlying52 (by unfold maxLen; omega) (a : Int) (owf64 (by omega) (by omega)) (.int .i64 (s.waits.length : Int))
    have hmm := hM4.isMap
    have R4d := (unhide HR4).stays (w' := w4.drew) (Nat.le_refl _) (fun _ _ => rfl)
    have hgm : g ≠ m := fun e => by obtain ⟨es, c, hm⟩ := hmm; rw [← e, (unhide HR4).blk] at hm; cases hm
    have hxm : w.heap.size ≠ m := fun e => unhide HXF (e ▸ unhide HG4)
    have hxl4 : w.heap.size < w4.heap.size := (Array.getElem?_eq_some_iff.1 (unhide HX4)).1
    have hgl4 : g < w4.heap.size := (unhide HR4).lt g (unhide HR4).fg
    have hblk5 := (hg5.block g hgl4 (fun e => hgm (Option.some.inj e))).trans R4d.blk
    have hx5 : w5.heap[w.heap.size]? = some (.cells (wr1 (a, b)).toArray 91 (0, 0)) := (hg5.block _ hxl4 (fun e => hxm (Option.some.inj e))).trans (unhide HX4)
    obtain ⟨c0, c1, c2, c3, c4, c5, c6, c7, hfz⟩ := eight_cells (unhide HR4).blk
    obtain ⟨d0, d1, d2, d3, d4, d5, d6, d7, dfz⟩ := eight_cells hblk5
    have dfz1 := dfz 1
    obtain ⟨C, hC⟩ : ∃ C, C = wr1 (a, b) := ⟨_, rfl⟩
    have hCl : C.length = 513 := by rw [hC]; exact length_wr1 hl
    have hone : ∀ v ∈ C, v.oneCell' = true := by rw [hC]; exact oneCell_wr1 _
    rw [← hC] at hx5
    have hr5 : w5.drew.rangeAt w.heap.size 0 C := fun j v hv => by
      show w5.cell? _ = _
      rw [Nat.zero_add, cell_of_row w5 _ j _ _ (0, 0) hx5]
      simpa using hv
    have hg5l : g < w5.heap.size := Nat.lt_of_lt_of_le hgl4 hg5.size
    have HM5 := hide hM5
    have HG5 := hide hg5
    have HR4d := hide R4d
    have HCC := hide hC
    have HMM := hide hmm
    have HX5 := hide hx5
    have hui := Try.underlying91
    have hii : (Try.prog.info? 91).map (·.size) = some C.length := by rw [hCl]; exact hzs
    clear hfz dfz hM5 hg5 R4d hC hmm hblk5 hM4 hx5 HX4 d0 d2 d3 d4 d5 d6 d7 c0 c3 c4 c5 c6 c7
    go_region
    clear c1 c2 hrun5
    go_wp2_with fail
    have hTT : ∃ T N U : Nat, T = 91 ∧ N = 513 ∧ U = 51 := ⟨_, _, _, rfl, rfl, rfl⟩
    obtain ⟨T, N, U, hT, hN, hU⟩ := hTT
    have hagg : ∀ w, (isAgg T).run Try.prog w = .ok true w := fun w => by rw [hT]; unfold isAgg; rw [Sem.run_bind, run_underlying hui w]; rfl
    have hszT : ∀ w, (sizeOf T).run Try.prog w = .ok N w := fun w => by rw [hT, hN]; simp [sizeOf, typeInfo, hi, hz1]
    have hzT : ∀ w, (zeroValue T).run Try.prog w = .ok (.agg Z) w := fun w => by rw [hT]; exact hz w
    have haggU : ∀ w, (isAgg U).run Try.prog w = .ok false w := fun w => by rw [hU]; unfold isAgg; rw [Sem.run_bind, run_underlying Try.underlying51 w]; rfl
    have hszU : ∀ w, (sizeOf U).run Try.prog w = .ok 1 w := fun w => by rw [hU]; exact size_writes w
    have huU : Try.prog.underlying U = some (.slice T) := by rw [hU, hT]; exact Try.underlying51
    have huR : ∀ w, (underlying U).run Try.prog w = .ok (.slice T) w := fun w => run_underlying huU w
    have hiT : Try.prog.info? T = some i0 := by rw [hT]; exact hi
    have hNN : ¬ 16777216 < N := by omega
    have hN0 : ¬ N = 0 := by omega
    have hCN : C.length = N := by rw [hCl, hN]
    have hlc : (loadCellsFrom ⟨w.heap.size, 0, none⟩ 0 N #[]).run Try.prog w5.drew = .ok C.toArray w5.drew := by
      have := run_loadCells_list (P := Try.prog) w5.drew ⟨w.heap.size, 0, none⟩ C (fun j v hv => by rw [Addr.add_mid]; exact hr5 j v hv)
      rw [hCl, ← hN] at this
      exact this
    have hfold : List.foldl (fun cs x => cs.setIfInBounds x.snd x.fst) (Array.map (fun x => Z[x % Z.size]!) (Array.range N)) C.zipIdx = C.toArray := by
      have := fold_all C.toArray (Array.map (fun x => Z[x % Z.size]!) (Array.range N)) (by rw [Array.size_map, Array.size_range, List.size_toArray, hCN])
      rw [← Array.foldl_toList, Array.toList_zipIdx] at this
      exact this
    have hgF := (unhide HR4d).fg
    have hw6 : Below w5.heap.size w5 (w5.alloc (.cells C.toArray T)).drew := ((Below.refl _ _).alloc (Nat.le_refl _) _).drew
    have hwlt : ∀ k, (Value.slice q s.waits.length cw).ownBlock = some k → k < w4.heap.size ∧ k ≠ m := fun k hk => ⟨(unhide HR4d).lt k ((unhide HR4d).fw k hk), fun e => by
      obtain ⟨cur, hh⟩ := row_kind (unhide HR4d).own k hk
      obtain ⟨es, c, hm⟩ := unhide HMM
      rw [e] at hh
      rw [show w4.drew.heap[m]? = w4.heap[m]? from rfl, hm] at hh
      cases hh⟩
    have hown6 : (w5.alloc (.cells C.toArray T)).drew.ownsRow 0 T 513 (.slice q s.waits.length cw) s.waits.length (wrs s.waits) := by
      have h0 := (unhide HR4d).own
      rw [← hT] at h0
      exact row_stays h0 fun k hk => (hw6.block k (Nat.lt_of_lt_of_le (hwlt k hk).1 (unhide HG5).size)).trans ((unhide HG5).block k (hwlt k hk).1 (fun e => (hwlt k hk).2 (Option.some.inj e)))
    have hnew6 : ∀ j u, C[j]? = some u → (w5.alloc (.cells C.toArray T)).drew.cell? ((⟨w5.heap.size, 0, none⟩ : Addr).add j) = some u := fun j u hu => by
      rw [Addr.add_mid, Nat.zero_add]
      show (w5.alloc (.cells C.toArray T)).cell? _ = _
      rw [cell_of_row _ w5.heap.size j C.toArray T (0, 0) (heap_alloc_new _ _)]
      simpa using hu
    have hwg : (Value.slice q s.waits.length cw).ownBlock ≠ some g := (unhide HR4d).wg
    have hblk6 : (w5.alloc (.cells C.toArray T)).drew.heap[g]? = w5.heap[g]? := hw6.block g hg5l
    have hblk5' := ((unhide HG5).block g hgl4 (fun e => hgm (Option.some.inj e))).trans (unhide HR4d).blk
    have HW6 := hide hw6
    have HOWN := hide hown6
    have HNEW := hide hnew6
    have HWG := hide hwg
    have HBLK := hide (hblk6.trans hblk5')
    have HWI := hide hw
    clear hgF hw6 hwlt hown6 hnew6 hwg hblk6 hblk5'
    have HT := hide hT
    have HN := hide hN
    have HCL := hide hCl
    clear hui hii hCl hi hz hzs hZs hZne hr5
    rw [← hT, ← hU]
    clear hN hU hT
    go_region_law (first
      | (refine step_append_wr rfl _ _ U rfl T i0 _ huU hiT hz0 513 520 (by omega) hz1 hz2 rfl (.slice q s.waits.length cw) s.waits.length (wrs s.waits) (by simp [Act.eval]) (unhide HOWN) ⟨w5.heap.size, 0, none⟩ 1 C (by simp [Act.eval]) (unhide HCL) (unhide HNEW) hone (by have := unhide HWI; unfold maxLen; omega) (by have := unhide HWI; omega) ?_; intro v7 w7 hown7 hgrow7 hob7; have hblk7 := (hgrow7.block g (Array.getElem?_eq_some_iff.1 (unhide HBLK)).1 (fun e => unhide HWG e.symm)).trans (unhide HBLK); obtain ⟨x0, x1, x2, x3, x4, x5, x6, x7, hfx⟩ := eight_cells hblk7; have hfx1 := hfx 1; rw [unhide HT] at hown7; rw [unhide HCC] at hown7; have HJ := hide ((unhide HR4d).join (unhide HG4) (unhide HMM) hcnt (unhide HL4) ha hl (unhide HM5) (unhide HG5) (unhide HW6) hown7 hgrow7 hob7); rcases hown7.2 with ⟨_, h0⟩ | ⟨h2, cap2, cur2, e2, _⟩; (exact absurd h0 (by omega)); subst e2; clear hown7 hgrow7 hob7 hblk7 hfx x0 x2 x3 x4 x5 x6 x7))
    all_goals
      obtain ⟨F', hR', hM'⟩ := unhide HJ
      have HMF := hide ((unhide HMv4).trans ((Moves.of_below (F := F4) ((Below.refl w4.heap.size w4).drew)).trans hM'))
      have HRF := hide hR'
      clear HJ hR' hM'
      go_wp2
      go_end0
      exact ⟨rfl, F', ⟨g, kb, kc, _, _, hit, rfl, unhide HRF⟩, unhide HMF⟩
end Go.Proofs.Ytpkpjmebkikgdaa

/- The landed package disk: Write. -/
namespace Go.Proofs.Ytpkpjmebkikgdaa
open Go.RowKit

set_option maxRecDepth 20000 in
theorem owrite_any (F : Nat → Prop) (p : Value) (s : DK) (a : Int) (bv : Value) (b : List UInt8) (w : World) (h : DRep F w p s) (hb : Row w bv b) (hw : s.waits.length ≤ 1048576) (ht : s.ticks ≤ 1048576) :
    Calls Try.prog 6 #[p, .int .i64 a, bv] w fun e w' => e = .returned (.int .i64 (s.writeE a b)) ∧ ∃ F', DRep F' w' p (s.write a b) ∧ Moves F F' w w' := by
  have H1 := hide (orefuses_any F p s w h)
  have H2 := hide (ohas_any F p s a w h)
  have HD := hide h
  obtain ⟨g, hg⟩ : ∃ g, p = .pointer (some ⟨g, 0, none⟩) := by obtain ⟨g, _, _, _, _, _, h, _⟩ := h; exact ⟨g, h⟩
  subst hg
  cases hf : s.fell with
  | true =>
    rw [hf, if_pos rfl] at H1
    have e1 : s.writeE a b = 40 := by unfold DK.writeE; rw [if_pos hf]
    have e2 : s.write a b = s := by unfold DK.write; rw [if_pos hf]
    rw [e1, e2]
    obtain ⟨bq, bc, l, rfl, hl⟩ := hb.shape
    clear e1 e2 hf h hb hw ht H2
    go_enter Try.func6, Try.ntmps6
    go_wp2_with fail
    refine Calls.mono (unhide H1) ?_
    rintro e w' ⟨rfl, rfl⟩
    go_wp2
    go_ret
    exact ⟨rfl, F, unhide HD, Moves.refl _ _⟩
  | false =>
    rw [hf, if_neg (by decide)] at H1
    by_cases hc : s.noSuch a = true ∨ b.length ≠ 512
    · have e1 : s.writeE a b = 1 := by unfold DK.writeE; rw [if_neg (by rw [hf]; decide), if_pos hc]
      have e2 : s.write a b = s := by unfold DK.write; rw [if_neg (by rw [hf]; decide), if_pos hc]
      rw [e1, e2]
      obtain ⟨bq, bc, l, rfl, hl⟩ := hb.shape
      subst hl
      clear e1 e2 hf h hb hw ht
      cases hs : s.noSuch a with
      | true =>
        rw [hs] at H2
        clear hc hs
        go_enter Try.func6, Try.ntmps6
        go_wp2_with fail
        refine Calls.mono (unhide H1) ?_
        rintro e w' ⟨rfl, rfl⟩
        go_wp2_with fail
        refine Calls.mono (unhide H2) ?_
        rintro e w'' ⟨rfl, rfl⟩
        go_wp2
        go_ret
        exact ⟨rfl, F, unhide HD, Moves.refl _ _⟩
      | false =>
        rw [hs] at H2
        have h3 : ((b.length : Int) != 512) = true := by
          rcases hc with hc | hc
          · rw [hs] at hc; cases hc
          · rw [bne_iff_ne]; omega
        clear hc hs
        go_enter Try.func6, Try.ntmps6
        go_wp2_with fail
        refine Calls.mono (unhide H1) ?_
        rintro e w' ⟨rfl, rfl⟩
        go_wp2_with fail
        refine Calls.mono (unhide H2) ?_
        rintro e w'' ⟨rfl, rfl⟩
        go_wp2
        go_ret
        exact ⟨rfl, F, unhide HD, Moves.refl _ _⟩
    · have hs : s.noSuch a = false := by
        cases h1 : s.noSuch a with
        | false => rfl
        | true => exact absurd (Or.inl h1) hc
      have hl : b.length = 512 := Decidable.byContradiction fun hl => hc (Or.inr hl)
      have e1 : s.writeE a b = if s.armed = 1 then 40 else 0 := by unfold DK.writeE; rw [if_neg (by rw [hf]; decide), if_neg hc]
      have e2 : s.write a b = { s with waits := s.waits ++ [(a.toNat, b)] }.tick := by unfold DK.write; rw [if_neg (by rw [hf]; decide), if_neg hc]
      rw [e1, e2]
      rw [hs] at H2
      obtain ⟨h0, h1, h2⟩ := DK.noSuch_false hs
      obtain ⟨k, rfl⟩ := Int.eq_ofNat_of_zero_le h0
      rw [Int.toNat_natCast]
      have HP := hide (oput_any F g s k bv b w h hb hl (by omega) hw)
      obtain ⟨E, hE⟩ : ∃ E : Int, E = if s.armed = 1 then 40 else 0 := ⟨_, rfl⟩
      have HA : Hid (∀ F' w', DRep F' w' (.pointer (some ⟨g, 0, none⟩)) { s with waits := s.waits ++ [(k, b)] } → Calls Try.prog 18 #[.pointer (some ⟨g, 0, none⟩), .func (.func 19) #[.pointer (some ⟨g, 4, none⟩)] #[]] w' fun e w'' => e = .returned (.int .i64 E) ∧ DRep F' w'' (.pointer (some ⟨g, 0, none⟩)) { s with waits := s.waits ++ [(k, b)] }.tick ∧ Keep F' w' w'') := by
        intro F' w' h'
        rw [hE]
        exact ofalls_any F' g _ w' h' hf ht
      rw [← hE]
      clear hE
      generalize ({ s with waits := s.waits ++ [(k, b)] } : DK) = t at *
      obtain ⟨bq, bc, l, rfl, hl2⟩ := hb.shape
      rw [hl] at hl2
      subst hl2
      clear e1 e2 hf h hb hw ht hc hs h0 h1 h2
      go_enter Try.func6, Try.ntmps6
      go_wp2_with fail
      refine Calls.mono (unhide H1) ?_
      rintro e w' ⟨rfl, rfl⟩
      go_wp2_with fail
      refine Calls.mono (unhide H2) ?_
      rintro e w'' ⟨rfl, rfl⟩
      go_wp2_with fail
      refine Calls.mono (unhide HP) ?_
      rintro e w2 ⟨rfl, F', hr2, hm2⟩
      have HA2 := hide (unhide HA F' w2 hr2)
      have HM2 := hide hm2
      clear hr2 hm2 HA
      go_wp2_with fail
      refine Calls.mono (unhide HA2) ?_
      rintro e w3 ⟨rfl, hr3, hk3⟩
      have HR3 := hide hr3
      have HM3 := hide ((unhide HM2).trans ⟨hk3, fun _ h => Or.inl h⟩)
      clear hr3 hk3
      go_wp2
      go_ret
      exact ⟨rfl, F', unhide HR3, unhide HM3⟩
end Go.Proofs.Ytpkpjmebkikgdaa

/- The landed package disk: Flush, Crash, New. -/
namespace Go.Proofs.Ytpkpjmebkikgdaa
open Go.RowKit

end Go.Proofs.Ytpkpjmebkikgdaa

/- The landed package disk: New, Flip. -/
namespace Go.Proofs.Ytpkpjmebkikgdaa
open Go.RowKit

theorem onew_arg (n : Int) (w : World) (h : n < 1 ∨ 65536 < n) : Calls Try.prog 12 #[.int .i64 n] w fun e w' => e = .returned (.tuple #[.pointer none, .int .i64 1]) ∧ Below w.heap.size w w' := by
  rcases h with h | h
  · go_enter Try.func12, Try.ntmps12
    go_wp2
    go_ret2
    exact ⟨rfl, Below.refl _ _⟩
  · have h' : ¬ n < 1 := by omega
    go_enter Try.func12, Try.ntmps12
    go_wp2
    go_ret2
    exact ⟨rfl, Below.refl _ _⟩

theorem Try.infoImage3 : (Try.prog.info? 89).map (fun i => (i.zero, i.size, i.bytes)) = some (some (.agg (List.replicate 512 (Value.int .u8 0)).toArray), 512, 512) := by kernel_rfl

theorem made_all (z : Value) (L m : Nat) (hL : 0 < L) : (madeCells (List.replicate L z).toArray m).toList = List.replicate m z := by
  apply List.ext_getElem?
  intro i
  unfold madeCells
  by_cases h : i < m
  · have h5 : i % L < L := Nat.mod_lt _ hL
    simp [h, getElem!_def, h5]
  · simp [h]

theorem blank_B : blank.map B = List.replicate 512 (Value.int .u8 0) := by
  unfold blank
  rw [List.map_replicate]
  rfl

set_option maxRecDepth 20000 in
theorem onew_ok (n : Nat) (w : World) (h1 : 1 ≤ n) (h2 : n ≤ 65536) : Calls Try.prog 12 #[.int .i64 (n : Int)] w fun e w' => ∃ p, e = .returned (.tuple #[p, .int .i64 0]) ∧ (∃ F, DRep F w' p (DK.new n) ∧ ∀ k, F k → w.heap.size ≤ k) ∧ Below w.heap.size w w' := by
  obtain ⟨i0, hi, hz0, hz1, hz2⟩ := info_parts Try.infoImage3
  obtain ⟨Z, hZ⟩ : ∃ Z : Array Value, Z = (List.replicate 512 (Value.int .u8 0)).toArray := ⟨_, rfl⟩
  rw [← hZ] at hz0
  have HZ := hide hZ
  clear hZ
  have i1 : ¬ (n : Int) < 1 := by omega
  have i2 : (n : Int) ≤ 65536 := by omega
  go_enter Try.func12, Try.ntmps12
  go_wp2_with (at_make; refine wpList_make_full _ rfl _ _ 50 rfl w.heap.size 89 i0 (.agg Z) 512 Try.underlying50 hi hz0 hz1 .i64 .i64 n n n rfl rfl (by omega) (by omega) (by rw [hz2]; omega) (by unfold maxLen; omega) (Nat.le_refl _) ?_)
  intro w2 hown hgrow
  have HO := hide hown
  have HB := hide ((Below.refl w.heap.size w).grown hgrow (Nat.le_refl _) (fun k hk => by cases hk))
  clear hown hgrow
  go_wp2
  go_ret2
  have bel : Below w.heap.size w (w2.alloc (.cells #[.slice (some ⟨w.heap.size, 0, none⟩) n n, .slice none 0 0, .map none, .bool false, .int .i64 0, .int .i64 0, .int .i64 0, .int .i64 0] 58)) := (unhide HB).alloc (unhide HB).size _
  have hown : w2.ownsRow w.heap.size 89 512 (.slice (some ⟨w.heap.size, 0, none⟩) n n) n (madeCells Z (n * 512)).toList := unhide HO
  obtain ⟨cur, hcur⟩ := row_kind hown w.heap.size rfl
  have hlt : w.heap.size < w2.heap.size := (Array.getElem?_eq_some_iff.1 hcur).1
  have hc := hown.cells (g := w.heap.size) rfl
  rw [unhide HZ, made_all _ _ _ (by omega)] at hc
  have hcs : cur.size = n * 512 := by
    rcases hown.2 with ⟨h', _⟩ | ⟨g', cap, cur', h', _, hh, _, _, hcs, _⟩
    · cases h'
    · simp only [Value.slice.injEq, Option.some.injEq, Addr.mk.injEq, and_true, true_and] at h'
      obtain ⟨rfl, rfl⟩ := h'
      rw [hcur] at hh
      cases hh
      exact hcs
  have hI : Imgs w2 w.heap.size n n (fun _ => blank) := by
    refine ⟨cur, hcur, hcs, Nat.le_refl _, by unfold maxLen; omega, fun a ha j v hv => ?_⟩
    have hj : j < 512 := by have := (List.getElem?_eq_some_iff.1 hv).1; rw [List.length_map, length_blank] at this; exact this
    have := hc (a * 512 + j) v (by
      rw [blank_B] at hv
      rw [List.getElem?_replicate] at hv ⊢
      rw [if_pos hj] at hv
      rw [if_pos (by omega)]
      exact hv)
    rw [Addr.add_lit, Nat.zero_add] at this
    exact this
  refine ⟨_, rfl, ⟨fun k => k = w.heap.size ∨ k = w2.heap.size, ⟨w2.heap.size, w.heap.size, n, .slice none 0 0, .map none, 0, rfl, ?_⟩, fun k h => ?_⟩, bel⟩
  · constructor
    · exact heap_alloc_new _ _
    · exact hI.stays (Below.heap_alloc _ _ _ hlt)
    · exact World.ownsRow_nil _ _ _ _
    · exact Or.inl ⟨rfl, rfl⟩
    · rfl
    · exact Or.inr rfl
    · exact Or.inl rfl
    · exact fun k hk => by cases hk
    · intro k hk
      rw [World.size_alloc]
      rcases hk with hk | hk <;> omega
    · exact DK.Ok.new h2
  · rcases h with h | h <;> omega

/-- One byte of a sector. -/
theorem Imgs.setByte {w : World} {kb n kc : Nat} {f : Nat → List UInt8} (h : Imgs w kb n kc f) (hf : ∀ k, (f k).length = 512) {a q : Nat} (ha : a < n) (hq : q < 512) (u : UInt8) :
    Imgs (w.setCell ⟨kb, a * 512 + q, none⟩ (B u)) kb n kc (keep1 f (a, (f a).set q u)) := by
  obtain ⟨C, h1, h2, h3, h4, h5⟩ := h
  have hb := heap_setCell_same w kb (a * 512 + q) C _ (B u) h1
  refine ⟨_, hb, by rw [Array.size_setIfInBounds]; exact h2, h3, h4, fun x hx j v hv => ?_⟩
  have hr := h5 x hx
  by_cases e : x = a
  · subst e
    have : keep1 f (x, (f x).set q u) x = (f x).set q u := by simp [keep1]
    rw [this] at hv
    by_cases hj : j = q
    · subst hj
      have hc := hr j (B ((f x)[j]'(by rw [hf]; exact hq))) (by rw [List.getElem?_map, List.getElem?_eq_getElem (by rw [hf]; exact hq)]; rfl)
      rw [World.cell?_setCell_same _ _ _ hc]
      rw [List.getElem?_map, List.getElem?_set_self (by rw [hf]; exact hq)] at hv
      exact hv
    · rw [World.cell?_setCell_other _ _ _ _ (by intro e'; have := congrArg Addr.off e'; simp at this; omega)]
      apply hr
      rw [List.getElem?_map, List.getElem?_set_ne (fun e => hj e.symm)] at hv
      rw [List.getElem?_map]
      exact hv
  · have : keep1 f (a, (f a).set q u) x = f x := by simp [keep1, e]
    rw [this] at hv
    have hj : j < 512 := by have := (List.getElem?_eq_some_iff.1 hv).1; rw [List.length_map, hf] at this; exact this
    rw [World.cell?_setCell_other _ _ _ _ (by intro e'; have := congrArg Addr.off e'; simp at this; omega)]
    exact hr j v hv

/-- A bit of a sector that is kept is turned, and counted. -/
theorem DAt.flips {F : Nat → Prop} {w : World} {g kb kc : Nat} {wv mv : Value} {s : DK} {hit : Int} (h : DAt F w g kb kc wv mv s hit) {a q : Nat} (ha : a < s.n) (hq : q < 512) (u : UInt8) :
    DAt F (w.setCell ⟨kb, a * 512 + q, none⟩ (B u)) g kb kc wv mv { s with kept := keep1 s.kept (a, (s.kept a).set q u) } hit ∧ Keep F w (w.setCell ⟨kb, a * 512 + q, none⟩ (B u)) := by
  have hK := keep_set w kb (a * 512 + q) (B u)
  have hk : ∀ k, k ≠ kb → k < w.heap.size → (w.setCell ⟨kb, a * 512 + q, none⟩ (B u)).heap[k]? = w.heap[k]? := fun k h1 h2 => hK.block k h2 h1
  refine ⟨⟨(hk g (fun e => h.kg e.symm) (h.lt g h.fg)).trans h.blk, h.kept.setByte h.ok.kept ha hq u, row_stays h.own fun k e => hk k (fun ek => h.wk (ek ▸ e)) (h.lt k (h.fw k e)), h.map.stays fun k hF hm => hk k (fun ek => ?_) (h.lt k hF), h.armed, h.fg, h.fk, h.fw, fun k hF => by rw [World.size_setCell]; exact h.lt k hF, ⟨h.ok.size, length_keep1 h.ok.kept (by rw [List.length_set]; exact h.ok.kept a), h.ok.waits, h.ok.armed⟩⟩, hK.weak (fun k e => e ▸ h.fk)⟩
  obtain ⟨es, c, hm⟩ := hm
  obtain ⟨C, hC, _⟩ := h.kept
  rw [ek, hC] at hm
  cases hm

end Go.Proofs.Ytpkpjmebkikgdaa
