/- The landed package disk: Read. -/
import Derived.Test.YtdpoiieblbmofaaDiskOwn4
namespace Go.Proofs.Ytdpoiieblbmofaa
open Go.RowKit

theorem owf64 {n : Int} (h1 : -9223372036854775808 ≤ n) (h2 : n ≤ 9223372036854775807) : (Lit.int .i64 n).wf = true := by
  simp [Lit.wf, IntKind.min, IntKind.max, IntKind.signed, IntKind.bits]
  omega

theorem Try.infoImageZ : (Try.prog.info? 117).map (fun i => (i.zero, i.size)) = some (some (.agg (List.replicate 512 (Value.int .u8 0)).toArray), 512) := by kernel_rfl

theorem lookup_nil (w : World) (a : Int) : (Instr.lookup 75 (.map none) (.int .i64 a) true).run Try.prog w = .ok (.tuple #[.int .i64 0, .bool false]) w := by
  have hz := Try.zeroValue3 w
  simp [Instr.lookup, run_underlying Try.underlying75, MapKept.run_checkKey Try.underlying3 (k := .int .i64 a) rfl, Instr.findKey, Instr.findNow, hz, Result.andThen]


set_option maxRecDepth 20000 in
/-- What the last write that waits wrote to a sector, if there is one. -/
theorem olast_any (F : Nat → Prop) (g : Nat) (s : DK) (a : Nat) (w : World) (h : DRep F w (.pointer (some ⟨g, 0, none⟩)) s) (ha : a < 65536) :
    Calls Try.prog 65 #[.pointer (some ⟨g, 1, none⟩), .int .i64 (a : Int)] w fun e w' => Below w.heap.size w w' ∧
      ((∃ Z, e = .returned (.tuple #[.agg Z, .bool false]) ∧ Z.size = 512 ∧ Z.all (·.oneCell') = true ∧ ∀ b, shownB a b s.waits = b) ∨ ∃ c : List UInt8, e = .returned (.tuple #[.agg (c.map B).toArray, .bool true]) ∧ c.length = 512 ∧ ∀ b, shownB a b s.waits = c) := by
  obtain ⟨g', kb, kc, wv, mv, hit, e, R⟩ := h
  cases e
  obtain ⟨hz, hzs⟩ := zero_of_info Try.infoImageZ
  obtain ⟨Z, hZ⟩ : ∃ Z : Array Value, Z = (List.replicate 512 (Value.int .u8 0)).toArray := ⟨_, rfl⟩
  rw [← hZ] at hz
  have HZ : Hid (Z.size = 512) := by unfold Hid; rw [hZ]; simp
  have HI1 : Hid ((Try.prog.info? 117).map (·.size) = some Z.size) := by unfold Hid; rw [unhide HZ]; exact hzs
  have HI4 : Hid (Z.all (·.oneCell') = true) := by
    rw [hZ]
    exact all_oneCell_toArray (fun v hv => by rw [List.eq_of_mem_replicate hv]; rfl)
  clear hZ
  obtain ⟨w1, hw1⟩ : ∃ w1, w1 = w.alloc (.cells Z 117) := ⟨_, rfl⟩
  have hb1 : Below w.heap.size w w1 := by rw [hw1]; exact (Below.refl _ _).alloc (Nat.le_refl _) _
  have hx1 : w1.heap[w.heap.size]? = some (.cells Z 117 (0, 0)) := by rw [hw1]; exact heap_alloc_new _ _
  have R1 := R.stays hb1.size (fun k hk => hb1.block k (R.lt k hk))
  have HB1 := hide hb1
  have HX1 := hide hx1
  clear R hb1 hx1
  obtain ⟨c0, c1, c2, c3, c4, c5, c6, c7, hfz⟩ := eight_cells R1.blk
  obtain ⟨q, cw, rfl⟩ := R1.shape
  have HR := hide R1
  clear hfz c0 c3 c4 c5 c6 c7
  rcases R1.map with ⟨rfl, hnil⟩ | ⟨m, f, cnt, rfl, hFm, hM, hcnt, hlast⟩
  · have hlk := lookup_nil w1 (a : Int)
    have HS : Hid (∀ b, shownB a b s.waits = b) := by intro b; rw [hnil]; rfl
    clear R1 hnil ha
    rw [hw1] at c1 c2 hlk
    go_enter Try.func65, Try.ntmps65
    go_wp2_with (first
      | (with_reducible show wpList _ _ _ (Oper.mk _ (Op.store 117 _ _) _ _ _ _ :: _) _ _; refine wpList_store_new rfl 117 _ _ rfl Z Z rfl rfl (unhide HI1) rfl (unhide HI4) ?_))
    refine bodyPost_ret (v := .tuple #[.agg Z, .bool false]) ?_ rfl ⟨by rw [← hw1]; exact unhide HB1, Or.inl ⟨_, rfl, unhide HZ, unhide HI4, unhide HS⟩⟩
    have hld := run_loadVar_new (P := Try.prog) w 117 Z 512 _ Try.underlying117 (unhide HI1)
    rw [results_cell_tmp rfl]
    simp [asAddr, Result.andThen, hld]
  · obtain ⟨r, hr, hf⟩ := hlast a
    have hlk := hM.look Try.underlying3 Try.underlying75 (z := .int .i64 0) (Try.zeroValue3 w1) (a : Int) (owf64 (by omega) (by omega))
    rw [hf] at hlk
    cases r with
    | none =>
      have HS : Hid (∀ b, shownB a b s.waits = b) := fun b => shown_not hr b
      have hlk' : (Instr.lookup 75 (.map (some m)) (.int .i64 (a : Int)) true).run Try.prog w1 = .ok (.tuple #[.int .i64 0, .bool false]) w1 := hlk
      clear R1 ha hr hf hlk hM hlast hFm hcnt
      rw [hw1] at c1 c2 hlk'
      go_enter Try.func65, Try.ntmps65
      go_wp2_with (first
        | (with_reducible show wpList _ _ _ (Oper.mk _ (Op.store 117 _ _) _ _ _ _ :: _) _ _; refine wpList_store_new rfl 117 _ _ rfl Z Z rfl rfl (unhide HI1) rfl (unhide HI4) ?_))
      refine bodyPost_ret (v := .tuple #[.agg Z, .bool false]) ?_ rfl ⟨by rw [← hw1]; exact unhide HB1, Or.inl ⟨_, rfl, unhide HZ, unhide HI4, unhide HS⟩⟩
      have hld := run_loadVar_new (P := Try.prog) w 117 Z 512 _ Try.underlying117 (unhide HI1)
      rw [results_cell_tmp rfl]
      simp [asAddr, Result.andThen, hld]
    | some i =>
      obtain ⟨hi, hr1, hr2⟩ := hr
      have HS : Hid (∀ b, shownB a b s.waits = s.waits[i].2) := fun b => shown_some hi hr1 hr2 b
      have hlk' : (Instr.lookup 75 (.map (some m)) (.int .i64 (a : Int)) true).run Try.prog w1 = .ok (.tuple #[.int .i64 (i : Int), .bool true]) w1 := hlk
      obtain ⟨h2, cap, ev, hF, hcap, hrg⟩ := R1.wait i hi
      simp only [Value.slice.injEq, true_and] at ev
      obtain ⟨rfl, rfl⟩ := ev
      have hwk := R1.ok.waits _ (List.getElem_mem hi)
      have hiI : (i : Int) < s.waits.length := by omega
      have hrb : w1.rangeAt h2 (i * 513 + 1) (s.waits[i].2.map B) := fun j v hv => by
        have := hrg (j + 1) v (by unfold wr1; rw [List.getElem?_cons_succ]; exact hv)
        rw [show i * 513 + 1 + j = i * 513 + (j + 1) by omega]
        exact this
      generalize s.waits[i].2 = c at *
      obtain ⟨bs, hbs⟩ : ∃ bs, bs = c.map B := ⟨_, rfl⟩
      have hbl : bs.length = 512 := by rw [hbs, List.length_map]; exact hwk.2
      have hone : ∀ v ∈ bs, v.oneCell' = true := by rw [hbs]; exact oneCell_bytes c
      rw [← hbs] at hrb
      have HBS := hide hbs
      have HCL := hide hwk.2
      have HI5 : Hid ((Try.prog.info? 117).map (·.size) = some bs.toArray.size) := by unfold Hid; rw [List.size_toArray, hbl]; exact hzs
      have HI6 : Hid (Z.size = bs.toArray.size) := by
        have e : bs.toArray.size = 512 := by rw [List.size_toArray, hbl]
        rw [e]
        exact unhide HZ
      have HI7 : Hid ((Try.prog.info? 117).map (·.size) = some bs.length) := by unfold Hid; rw [hbl]; exact hzs
      have HI8 := hide (all_oneCell_toArray hone)
      clear R1 ha hr1 hr2 hf hlk hM hlast hFm hcnt hrg hwk hbs hbl hone
      rw [hw1] at c1 c2 hlk' hrb
      go_enter Try.func65, Try.ntmps65
      go_wp2_with (first
        | (with_reducible show wpList _ _ _ (Oper.mk _ (Op.load 117 _) _ _ _ _ :: _) _ _; refine wpList_load_mid rfl 117 _ rfl h2 (i * 513 + 1) rfl bs _ hrb Try.underlying117 rfl (unhide HI7) ?_)
        | (with_reducible show wpList _ _ _ (Oper.mk _ (Op.store 117 _ _) _ _ _ _ :: _) _ _; refine wpList_store_new rfl 117 _ _ rfl Z bs.toArray rfl rfl (unhide HI5) (unhide HI6) (unhide HI8) ?_))
      have B3 : Below w.heap.size w (w.alloc (.cells bs.toArray 117)) := (Below.refl _ _).alloc (Nat.le_refl _) _
      refine bodyPost_ret (v := .tuple #[.agg bs.toArray, .bool true]) ?_ rfl ⟨B3, Or.inr ⟨c, by rw [← unhide HBS], unhide HCL, unhide HS⟩⟩
      have hld := run_loadVar_new (P := Try.prog) w 117 bs.toArray 512 _ Try.underlying117 (unhide HI5)
      rw [results_cell_tmp rfl]
      simp [asAddr, Result.andThen, hld]
end Go.Proofs.Ytdpoiieblbmofaa
