/- The landed package disk: what is kept of the writes that wait; Flush, Crash. -/
import Derived.Test.YtdpoiieblbmofaaDiskOwn3
import Derived.Deep.WholeRow
import Derived.Deep.RegionHeld3
namespace Go.Proofs.Ytdpoiieblbmofaa
open Go.RowKit

theorem Try.infoImage : (Try.prog.info? 117).map (·.size) = some 512 := by kernel_rfl
theorem Try.infoWrite : (Try.prog.info? 119).map (fun i => (i.zero, i.size)) = some (some (.agg (.int .i64 0 :: List.replicate 512 (Value.int .u8 0)).toArray), 513) := by kernel_rfl

theorem wpList_store_new {P : Program} {ops : Array Oper} {rest : List Oper} {op : Oper} {a : Act} {w : World} {Q : Exit → Act → World → Prop} (hgd : op.guard = none) (ty : TypeId) (x y : Operand) (ho : op.op = .store ty x y)
    (c c' : Array Value) (hx : a.eval x = .pointer (some ⟨w.heap.size, 0, none⟩)) (hy : a.eval y = .agg c')
    (hi : (P.info? ty).map (·.size) = some c'.size) (hs : c.size = c'.size) (h1 : c'.all (·.oneCell') = true)
    (h : wpList P ops Q rest (a.put op.dst undef) (w.alloc (.cells c' ty))) : wpList P ops Q (op :: rest) a (w.alloc (.cells c ty)) :=
  wpList_plain hgd fun K hK => by
    unfold Oper.wp execOp
    have := run_storeAt_new (P := P) w ty c c' hi hs h1
    simp only [ho, hx, hy, Sem.run_bind, this, Result.andThen_ok, Sem.run_pure]
    exact hK _ _ h

theorem oneCell_wr1 (x : Nat × List UInt8) : ∀ v ∈ wr1 x, v.oneCell' = true := by
  intro v hv
  simp only [wr1, List.mem_cons, List.mem_map] at hv
  rcases hv with rfl | ⟨b, _, rfl⟩ <;> rfl
theorem oneCell_bytes (b : List UInt8) : ∀ v ∈ b.map B, v.oneCell' = true := by
  intro v hv
  simp only [List.mem_map] at hv
  rcases hv with ⟨b, _, rfl⟩
  rfl

/-- A sector is kept. -/
theorem DAt.keeps {F : Nat → Prop} {w : World} {g kb kc : Nat} {wv mv : Value} {s : DK} {hit : Int} (h : DAt F w g kb kc wv mv s hit) {a : Nat} (ha : a < s.n) {b : List UInt8} (hb : b.length = 512) :
    DAt F (w.setCells kb (a * 512) (b.map B)) g kb kc wv mv { s with kept := keep1 s.kept (a, b) } hit ∧ Keep F w (w.setCells kb (a * 512) (b.map B)) := by
  have hK := keep_setCells kb (b.map B) (a * 512) w
  have hk : ∀ k, k ≠ kb → k < w.heap.size → (w.setCells kb (a * 512) (b.map B)).heap[k]? = w.heap[k]? := fun k h1 h2 => hK.block k h2 h1
  refine ⟨⟨(hk g (fun e => h.kg e.symm) (h.lt g h.fg)).trans h.blk, h.kept.store h.ok.kept ha hb, row_stays h.own fun k e => hk k (fun ek => h.wk (ek ▸ e)) (h.lt k (h.fw k e)), h.map.stays fun k hF hm => hk k (fun ek => ?_) (h.lt k hF), h.armed, h.fg, h.fk, h.fw, fun k hF => by rw [size_setCells]; exact h.lt k hF, ⟨h.ok.size, length_keep1 h.ok.kept hb, h.ok.waits, h.ok.armed⟩⟩, hK.weak (fun k e => e ▸ h.fk)⟩
  obtain ⟨es, c, hm⟩ := hm
  obtain ⟨C, hC, _⟩ := h.kept
  rw [ek, hC] at hm
  cases hm

set_option maxRecDepth 20000 in
set_option maxHeartbeats 2000000 in
theorem osettle_any (F : Nat → Prop) (g : Nat) (s : DK) (w : World) (k0 : Nat) (caps : Array Value) (ch : Nat → Bool) (h : DRep F w (.pointer (some ⟨g, 0, none⟩)) s)
    (hent : ∀ args w, (callFunc k0 args).run Try.prog w = .ok (.enter k0 args) w)
    (hch : ∀ (i : Nat) w', i < s.waits.length → Keep F w w' → Calls Try.prog k0 (#[.int .i64 (i : Int)] ++ caps) w' fun e w'' => e = .returned (.bool (ch i)) ∧ Below w'.heap.size w' w'') (hw : s.waits.length ≤ 1048576) :
    Calls Try.prog 53 #[.pointer (some ⟨g, 0, none⟩), .func (.func k0) #[] caps] w fun e w' => e = .returned (.tuple #[]) ∧ DRep F w' (.pointer (some ⟨g, 0, none⟩)) { s with kept := settled ch s.kept 0 s.waits, waits := [] } ∧ Keep F w w' := by
  obtain ⟨g', kb, kc, wv, mv, hit, e, R⟩ := h
  cases e
  obtain ⟨hz, hzs⟩ := zero_of_info Try.infoWrite
  obtain ⟨Z, hZ⟩ : ∃ Z : Array Value, Z = (.int .i64 0 :: List.replicate 512 (Value.int .u8 0)).toArray := ⟨_, rfl⟩
  rw [← hZ] at hz
  have HZ : Hid (Z.size = 513) := by unfold Hid; rw [hZ]; simp
  clear hZ
  have HZS := hide hzs
  have HCH := hide hch
  obtain ⟨c0, c1, c2, c3, c4, c5, c6, c7, hfz⟩ := eight_cells R.blk
  obtain ⟨q, cw, rfl⟩ := R.shape
  obtain ⟨m, rfl⟩ := R.mshape
  have HR := hide R
  clear R hfz hch hzs
  go_enter Try.func53, Try.ntmps53
  go_wp2_with fail
  go_loopw [12] (fun i wr => ∃ k : Nat, k ≤ s.waits.length ∧ i = .int .i64 k ∧ Hid (DAt F wr g kb kc (.slice q s.waits.length cw) (.map m) { s with kept := settled ch s.kept 0 (s.waits.take k) } hit) ∧ Keep F w wr) (fun i _ => s.waits.length - (intOf i).toNat)
  case atStart => exact ⟨0, Nat.zero_le _, rfl, by rw [List.take_zero]; exact unhide HR, Keep.refl _ _⟩
  case round =>
    clear c0 c1 c2 c3 c4 c5 c6 c7
    obtain ⟨k, hk, rfl, hR, hkp⟩ := hrel
    obtain ⟨c0, c1, c2, c3, c4, c5, c6, c7, hfz⟩ := eight_cells hR.out.blk
    by_cases hlt : k < s.waits.length
    · obtain ⟨h2, cap, ev, hF, hcap, hrg⟩ := hR.out.wait k hlt
      dsimp only at ev hrg hcap
      simp only [Value.slice.injEq, true_and] at ev
      obtain ⟨rfl, rfl⟩ := ev
      have hwk := hR.out.ok.waits _ (List.getElem_mem hlt)
      have hsz := hR.out.ok.size
      dsimp only at hwk hsz
      have hst := settled_take ch s.waits s.kept 0 k hlt
      rw [Nat.zero_add] at hst
      have hlt' : (k : Int) < s.waits.length := by omega
      generalize s.waits[k] = x at *
      have HI1 : Hid ((Try.prog.info? 119).map (·.size) = some (wr1 x).toArray.size) := by
        have e : (wr1 x).toArray.size = 513 := by rw [List.size_toArray, length_wr1 hwk.2]
        rw [e]
        exact unhide HZS
      have HI2 : Hid (Z.size = (wr1 x).toArray.size) := by
        have e : (wr1 x).toArray.size = 513 := by rw [List.size_toArray, length_wr1 hwk.2]
        rw [e]
        exact unhide HZ
      have HI3 : Hid ((Try.prog.info? 119).map (·.size) = some (wr1 x).length) := by
        rw [length_wr1 hwk.2]
        exact unhide HZS
      have HI4 := hide (all_oneCell_toArray (oneCell_wr1 x))
      go_wp2_with (first
        | (with_reducible show wpList _ _ _ (Oper.mk _ (Op.load 119 _) _ _ _ _ :: _) _ _; refine wpList_load_mid rfl 119 _ rfl h2 (k * 513) rfl (wr1 x) _ hrg Try.underlying119 rfl (unhide HI3) ?_)
        | (with_reducible show wpList _ _ _ (Oper.mk _ (Op.store 119 _ _) _ _ _ _ :: _) _ _; refine wpList_store_new rfl 119 _ _ rfl Z (wr1 x).toArray rfl rfl (unhide HI1) (unhide HI2) (unhide HI4) ?_))
      have hb1 : Below wr.heap.size wr (wr.alloc (.cells (wr1 x).toArray 119)) := (Below.refl _ _).alloc (Nat.le_refl _) _
      refine Calls.mono (unhide HCH k _ hlt (hkp.trans (Keep.of_below (F := F) hb1) (fun _ h => Or.inl h))) ?_
      rintro e w2 ⟨rfl, hb2⟩
      have hx2 : w2.heap[wr.heap.size]? = some (.cells (wr1 x).toArray 119 (0, 0)) := (hb2.block _ (by simp)).trans (heap_alloc_new _ _)
      have hb3 : Below wr.heap.size wr w2 := hb1.trans (hb2.mono hb1.size)
      have R2 := hR.out.stays hb3.size (fun j hj => hb3.block j (hR.out.lt j hj))
      have hk2 := hkp.trans (Keep.of_below (F := F) hb3) (fun _ h => Or.inl h)
      have d0 := (eight_cells R2.blk).1
      have d1 : w2.cell? ⟨wr.heap.size, 0, none⟩ = some (.int .i64 (x.1 : Int)) := by
        rw [cell_of_row w2 _ 0 _ _ (0, 0) hx2]
        rfl
      have hr2 : w2.rangeAt wr.heap.size 1 (x.2.map B) := fun j v hv => by
        rw [cell_of_row w2 _ (1 + j) _ _ (0, 0) hx2, Nat.add_comm 1 j]
        simpa [wr1] using hv
      have hxn : (x.1 : Int) < s.n := by omega
      have hkc : s.n ≤ kc := by obtain ⟨C, _, _, h3, _⟩ := R2.kept; exact h3
      cases hck : ch k with
      | false =>
        rw [hck, if_neg (by decide)] at hst
        have HN : Hid (DAt F w2 g kb kc (.slice (some ⟨h2, 0, none⟩) s.waits.length cw) (.map m) { s with kept := settled ch s.kept 0 (s.waits.take (k + 1)) } hit) := by rw [hst]; exact R2
        clear hR hrg R2 hst hck hkp hb1 hb2 hb3 hx2 hr2 HI1 HI2 HI3 HI4 d0 d1 c0 c1 c2 c3 c4 c5 c6 c7 hfz
        go_wp2
        go_roundw
        case rel => exact ⟨k + 1, by omega, by go_num, HN, hk2⟩
        case measure => simp [intOf]; omega
      | true =>
        rw [hck, if_pos rfl] at hst
        have hK3 := (R2.stays (w' := w2.drew) (Nat.le_refl _) (fun _ _ => rfl)).keeps (a := x.1) (b := x.2) hwk.1 hwk.2
        have HN : Hid (DAt F (w2.drew.setCells kb (x.1 * 512) (x.2.map B)) g kb kc (.slice (some ⟨h2, 0, none⟩) s.waits.length cw) (.map m) { s with kept := settled ch s.kept 0 (s.waits.take (k + 1)) } hit) := by rw [hst]; exact hK3.1
        have hkd : Keep F w w2.drew := ⟨hk2.os, hk2.tape, hk2.output, hk2.size, hk2.block⟩
        have HK3 := hide (hkd.trans hK3.2 (fun _ h => Or.inl h))
        have ht2 : w2.drew.there kb (x.1 * 512) 512 := (World.there_drew _ _ _ _).2 (R2.kept.there hwk.1)
        obtain ⟨bs, hbs⟩ : ∃ bs, bs = x.2.map B := ⟨_, rfl⟩
        have hbl : bs.length = 512 := by rw [hbs, List.length_map]; exact hwk.2
        have hone : ∀ v ∈ bs, v.oneCell' = true := by rw [hbs]; exact oneCell_bytes x.2
        rw [← hbs] at hr2 HN HK3
        have hkg : kb ≠ g := R2.kg
        have hkn : kb ≠ wr.heap.size := by have := hR.out.lt kb hR.out.fk; omega
        have hSa : w2.drew.cell? ⟨g, 0, none⟩ = some (.slice (some ⟨kb, 0, none⟩) s.n kc) ∧ w2.drew.cell? ⟨wr.heap.size, 0, none⟩ = some (.int .i64 (x.1 : Int)) ∧ w2.drew.rangeAt wr.heap.size 1 bs ∧ w2.drew.there kb (x.1 * 512) 512 := ⟨d0, d1, (World.rangeAt_drew _ _ _ _).2 hr2, ht2⟩
        have HSa := hide hSa
        have HSb : Hid ((w2.drew.setCells kb (x.1 * 512) bs).cell? ⟨g, 0, none⟩ = some (.slice (some ⟨kb, 0, none⟩) s.n kc) ∧ (w2.drew.setCells kb (x.1 * 512) bs).cell? ⟨wr.heap.size, 0, none⟩ = some (.int .i64 (x.1 : Int)) ∧ (w2.drew.setCells kb (x.1 * 512) bs).rangeAt wr.heap.size 1 bs ∧ (w2.drew.setCells kb (x.1 * 512) bs).there kb (x.1 * 512) 512) := by
          refine ⟨?_, ?_, World.rangeAt_setCells_apart hSa.2.2.1 _ _ _ (Or.inl (fun e => hkn e.symm)), World.there_setCells ht2 _ _ _⟩
          · rw [World.cell?_setCells_out kb bs (x.1 * 512) _ _ (fun e _ => absurd e.symm hkg)]
            exact d0
          · rw [World.cell?_setCells_out kb bs (x.1 * 512) _ _ (fun e _ => absurd e.symm hkn)]
            exact d1
        have hui := Try.underlying117
        have hii : (Try.prog.info? 117).map (·.size) = some bs.length := by rw [hbl]; exact Try.infoImage
        have hx1 := hwk.1
        clear hR hrg R2 hst hck hkp hkd hb1 hb2 hb3 hx2 HI1 HI2 HI3 HI4 hK3 c0 c1 c2 c3 c4 c5 c6 c7 hfz hr2 hbs hwk hSa ht2
        go_wp2_with fail
        go_region_held3 (fun w' => w'.cell? ⟨g, 0, none⟩ = some (.slice (some ⟨kb, 0, none⟩) s.n kc) ∧ w'.cell? ⟨wr.heap.size, 0, none⟩ = some (.int .i64 (x.1 : Int)) ∧ w'.rangeAt wr.heap.size 1 bs ∧ w'.there kb (x.1 * 512) 512) (first | exact unhide HSa | exact unhide HSb) (fail)
        go_wp2
        go_roundw
        case rel => exact ⟨k + 1, by omega, by go_num, HN, unhide HK3⟩
        case measure => simp [intOf]; omega
    · have hkn : k = s.waits.length := by omega
      subst hkn
      have hlt' : ¬ (s.waits.length : Int) < s.waits.length := by omega
      have hfz1 := hfz 1
      have hfz2 := hfz 2
      have HK : Hid (DAt F ((wr.setCell ⟨g, 1, none⟩ (.slice none 0 0)).setCell ⟨g, 2, none⟩ (.map none)) g kb kc (.slice none 0 0) (.map none) { s with kept := settled ch s.kept 0 s.waits, waits := [] } hit ∧ Keep F w ((wr.setCell ⟨g, 1, none⟩ (.slice none 0 0)).setCell ⟨g, 2, none⟩ (.map none))) := by
        have R := hR.out
        have hok := R.ok
        rw [List.take_of_length_le (Nat.le_refl _)] at R hok
        have b1 := heap_setCell_same wr g 1 _ _ (.slice none 0 0) R.blk
        have b2 := heap_setCell_same _ g 2 _ _ (.map none) b1
        have hK := (keep_set wr g 1 (.slice none 0 0)).also 2 (.map none)
        exact ⟨R.drop b2 hK.size (fun k h1 h2 => hK.block k h2 h1) rfl rfl rfl R.armed ⟨hok.size, hok.kept, (fun a ha => by cases ha), hok.armed⟩, hkp.trans (hK.weak (G := F) (fun k e => e ▸ R.fg)) (fun x h => Or.inl h)⟩
      clear hR
      go_wp2
      go_end0
      exact ⟨rfl, ⟨g, kb, kc, _, _, hit, rfl, (unhide HK).1⟩, (unhide HK).2⟩
end Go.Proofs.Ytdpoiieblbmofaa
