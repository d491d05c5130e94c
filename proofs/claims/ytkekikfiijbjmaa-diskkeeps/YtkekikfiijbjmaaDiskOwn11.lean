/- The landed package disk: copies of rows and maps, as Fork makes them. -/
import Derived.Test.YtkekikfiijbjmaaDiskOwn4
import Derived.Laws.Externs
import Derived.MapKept
namespace Go.Proofs.Ytkekikfiijbjmaa
open Go.RowKit

section
variable {P : Program} (w : World)
theorem run_equalIn_row_nil (d : Nat) (t e : TypeId) (a : Option Addr) (l c : Nat) (h : P.underlying t = some (.slice e)) :
    (Op.equalIn (d + 1) t (.slice a l c) (.slice none 0 0)).run P w = .ok a.isNone w := by
  cases a <;> simp [Op.equalIn, run_underlying h]
/-- A row held against nil. -/
theorem run_eql_row_nil (t e : TypeId) (a : Option Addr) (l c : Nat) (h : P.underlying t = some (.slice e)) :
    (binOp .eql t (.slice a l c) (.slice none 0 0)).run P w = .ok (.bool a.isNone) w := by
  simp only [binOp]
  simp [show Op.equal t (.slice a l c) (.slice none 0 0) = Op.equalIn (9999 + 1) t (.slice a l c) (.slice none 0 0) from rfl, run_equalIn_row_nil w 9999 t e a l c h]
theorem run_equalIn_mapnil (d : Nat) (t k e : TypeId) (p : Option Nat) (h : P.underlying t = some (.map k e)) :
    (Op.equalIn (d + 1) t (.map p) (.map none)).run P w = .ok p.isNone w := by
  cases p <;> simp [Op.equalIn, run_underlying h]
theorem run_eql_mapnil (t k e : TypeId) (p : Option Nat) (h : P.underlying t = some (.map k e)) :
    (binOp .eql t (.map p) (.map none)).run P w = .ok (.bool p.isNone) w := by
  simp only [binOp]
  simp [show Op.equal t (.map p) (.map none) = Op.equalIn (9999 + 1) t (.map p) (.map none) from rfl, run_equalIn_mapnil w 9999 t k e p h]
end

/-- An empty row of the call's own. -/
theorem empty_own (w : World) (e size : Nat) : (w.alloc (.cells #[] e)).ownsRow w.heap.size e size (.slice (some ⟨w.heap.size, 0, none⟩) 0 0) 0 [] :=
  ⟨by simp, Or.inr ⟨w.heap.size, 0, #[], rfl, Nat.le_refl _, heap_alloc_new _ _, Nat.le_refl _, Nat.zero_le _, by simp, by simp⟩⟩

theorem Imgs.cells {w : World} {kb n kc : Nat} {f : Nat → List UInt8} (h : Imgs w kb n kc f) (hf : ∀ k, (f k).length = 512) : ∀ j u, (ims f n)[j]? = some u → w.cell? ⟨kb, j, none⟩ = some u := by
  intro j u hu
  have hj : j < n * 512 := by
    have := (List.getElem?_eq_some_iff.1 hu).1
    rw [length_ims hf] at this
    exact this
  obtain ⟨C, _, _, _, _, h5⟩ := h
  have e : j = j / 512 * 512 + j % 512 := by omega
  have h1 := h5 (j / 512) (by omega) (j % 512) u (by
    rw [← ims_get hf n (j / 512) (j % 512) (by omega) (by omega), ← e]
    exact hu)
  rw [← e] at h1
  exact h1
theorem imgs_of_row {w : World} {base g n cap : Nat} {f : Nat → List UInt8} (hf : ∀ k, (f k).length = 512) (h : w.ownsRow base 80 512 (.slice (some ⟨g, 0, none⟩) n cap) n (ims f n)) : Imgs w g n cap f ∧ base ≤ g := by
  have hc := h.cells (g := g) rfl
  rcases h.2 with ⟨h', _⟩ | ⟨g', cap', cur, h', hb, hh, h1, h2, h3, _⟩
  · cases h'
  · simp only [Value.slice.injEq, Option.some.injEq, Addr.mk.injEq, and_true, true_and] at h'
    obtain ⟨rfl, rfl⟩ := h'
    refine ⟨⟨cur, hh, h3, h1, h2, fun a ha j v hv => ?_⟩, hb⟩
    have hj : j < 512 := by have := (List.getElem?_eq_some_iff.1 hv).1; rw [List.length_map, hf] at this; exact this
    have := hc (a * 512 + j) v (by rw [ims_get hf n a j ha hj]; exact hv)
    rw [Addr.add_lit, Nat.zero_add] at this
    exact this
theorem oneCell_ims {f : Nat → List UInt8} {n : Nat} : ∀ u ∈ ims f n, u.oneCell' = true := by
  intro u hu
  unfold ims at hu
  obtain ⟨a, _, hu⟩ := List.mem_flatMap.1 hu
  exact oneCell_bytes _ u hu
theorem oneCell_wrs {l : List (Nat × List UInt8)} : ∀ u ∈ wrs l, u.oneCell' = true := by
  intro u hu
  unfold wrs at hu
  obtain ⟨a, _, hu⟩ := List.mem_flatMap.1 hu
  exact oneCell_wr1 _ u hu

theorem Try.infoImg3 : (Try.prog.info? 80).map (fun i => (i.zero, i.size, i.bytes)) = some (some (.agg (List.replicate 512 (Value.int .u8 0)).toArray), 512, 512) := by kernel_rfl
theorem Try.infoWr3 : (Try.prog.info? 87).map (fun i => (i.zero, i.size, i.bytes)) = some (some (.agg (.int .i64 0 :: List.replicate 512 (Value.int .u8 0)).toArray), 513, 520) := by kernel_rfl

set_option maxRecDepth 20000 in
theorem ocloneI_any (w : World) (kb n kc : Nat) (f : Nat → List UInt8) (h : Imgs w kb n kc f) (hf : ∀ k, (f k).length = 512) (hn : n ≤ 65536) :
    Calls Try.prog 50 #[.slice (some ⟨kb, 0, none⟩) n kc] w fun e w' => ∃ g cap, e = .returned (.slice (some ⟨g, 0, none⟩) n cap) ∧ w.heap.size ≤ g ∧ Imgs w' g n cap f ∧ Below w.heap.size w w' := by
  obtain ⟨i0, hi, hz0, hz1, hz2⟩ := info_parts Try.infoImg3
  obtain ⟨Z, hZ⟩ : ∃ Z : Array Value, Z = (List.replicate 512 (Value.int .u8 0)).toArray := ⟨_, rfl⟩
  rw [← hZ] at hz0
  have HZ : Hid ((Value.agg Z).cells.size = 512) := by unfold Hid; rw [hZ]; simp [Value.cells]
  clear hZ
  have hq := fun w' => run_eql_row_nil (P := Try.prog) w' 57 _ (some ⟨kb, 0, none⟩) n kc Try.underlying57
  have HO := hide (empty_own w 80 512)
  have hlt : kb < w.heap.size := by obtain ⟨C, hC, _⟩ := h; exact (Array.getElem?_eq_some_iff.1 hC).1
  have HN : Hid (∀ j u, (ims f n)[j]? = some u → (w.alloc (.cells #[] 80)).cell? ((⟨kb, 0, none⟩ : Addr).add j) = some u) := fun j u hu => by
    rw [Addr.add_mid, Nat.zero_add]
    exact (h.stays (Below.heap_alloc _ _ _ hlt)).cells hf j u hu
  have HL : Hid ((ims f n).length = n * 512) := length_ims hf n
  have HF := hide hf
  clear h hf hlt
  go_enter Try.func50, Try.ntmps50
  go_wp2_with (first
    | (with_reducible show wpList _ _ _ (Oper.mk _ (Op.call _) _ _ _ _ :: _) _ _; refine wpList_append_own _ rfl _ _ 57 rfl w.heap.size 80 i0 (.agg Z) 512 512 Try.underlying57 hi hz0 hz1 hz2 (unhide HZ) (by omega) (.slice (some ⟨w.heap.size, 0, none⟩) 0 0) 0 [] rfl (unhide HO) ⟨kb, 0, none⟩ n kc (ims f n) rfl (unhide HL) (unhide HN) oneCell_ims (by unfold maxLen; omega) (by omega) (by simp) ?_))
  intro v' w' hown hgrow hnil
  have HB := hide (((Below.refl w.heap.size w).alloc (Nat.le_refl _) (.cells #[] 80)).grown hgrow (by simp) (fun k hk => by cases hk; exact Nat.le_refl _))
  have HOW := hide hown
  rcases hown.2 with ⟨h', _⟩ | ⟨g', cap', cur, h', _⟩
  · exact (hnil h').elim
  · subst h'
    clear hown hgrow hnil
    go_wp2
    go_ret
    obtain ⟨q1, q2⟩ := imgs_of_row (unhide HF) (unhide HOW)
    exact ⟨g', cap', rfl, q2, q1, unhide HB⟩

set_option maxRecDepth 20000 in
theorem ocloneW_any (w : World) (wv : Value) (l : List (Nat × List UInt8)) (h : w.ownsRow 0 87 513 wv l.length (wrs l)) (hl : ∀ x ∈ l, x.2.length = 512) (hn : l.length ≤ 1048576) :
    Calls Try.prog 51 #[wv] w fun e w' => ∃ v', e = .returned v' ∧ w'.ownsRow w.heap.size 87 513 v' l.length (wrs l) ∧ (∃ q c, v' = .slice q l.length c) ∧ Below w.heap.size w w' := by
  rcases h.2 with ⟨rfl, h0⟩ | ⟨kb, kc, cur, rfl, _, hh, _⟩
  · have hq := fun w' => run_eql_row_nil (P := Try.prog) w' 58 _ none 0 0 Try.underlying58
    have hl0 : l = [] := List.eq_nil_of_length_eq_zero h0
    subst hl0
    clear h hl hn h0
    go_enter Try.func51, Try.ntmps51
    go_wp2
    go_ret
    exact ⟨_, rfl, World.ownsRow_nil _ _ _ _, ⟨none, 0, rfl⟩, Below.refl _ _⟩
  · obtain ⟨i0, hi, hz0, hz1, hz2⟩ := info_parts Try.infoWr3
    obtain ⟨Z, hZ⟩ : ∃ Z : Array Value, Z = (.int .i64 0 :: List.replicate 512 (Value.int .u8 0)).toArray := ⟨_, rfl⟩
    rw [← hZ] at hz0
    have HZ : Hid ((Value.agg Z).cells.size = 513) := by unfold Hid; rw [hZ]; simp [Value.cells]
    clear hZ
    have hq := fun w' => run_eql_row_nil (P := Try.prog) w' 58 _ (some ⟨kb, 0, none⟩) l.length kc Try.underlying58
    have HO := hide (empty_own w 87 513)
    have hlt : kb < w.heap.size := (Array.getElem?_eq_some_iff.1 hh).1
    have hc := h.cells (g := kb) rfl
    have HN : Hid (∀ j u, (wrs l)[j]? = some u → (w.alloc (.cells #[] 87)).cell? ((⟨kb, 0, none⟩ : Addr).add j) = some u) := fun j u hu => by
      have := hc j u hu
      rw [Addr.add_mid, Nat.zero_add] at this ⊢
      exact (World.cell?_of_block (w := w) (a := ⟨kb, j, none⟩) (Below.heap_alloc _ _ _ hlt)).trans this
    have HL : Hid ((wrs l).length = l.length * 513) := length_wrs hl
    clear h hl hlt hh hc
    go_enter Try.func51, Try.ntmps51
    go_wp2_with (first
      | (with_reducible show wpList _ _ _ (Oper.mk _ (Op.call _) _ _ _ _ :: _) _ _; refine wpList_append_own _ rfl _ _ 58 rfl w.heap.size 87 i0 (.agg Z) 513 520 Try.underlying58 hi hz0 hz1 hz2 (unhide HZ) (by omega) (.slice (some ⟨w.heap.size, 0, none⟩) 0 0) 0 [] rfl (unhide HO) ⟨kb, 0, none⟩ l.length kc (wrs l) rfl (unhide HL) (unhide HN) oneCell_wrs (by unfold maxLen; omega) (by omega) (by simp) ?_))
    intro v' w' hown hgrow hnil
    have HB := hide (((Below.refl w.heap.size w).alloc (Nat.le_refl _) (.cells #[] 87)).grown hgrow (by simp) (fun k hk => by cases hk; exact Nat.le_refl _))
    have HOW := hide hown
    rcases hown.2 with ⟨h', _⟩ | ⟨g', cap', cur', h', _⟩
    · exact (hnil h').elim
    · subst h'
      clear hown hgrow hnil
      go_wp2
      go_ret
      exact ⟨_, rfl, unhide HOW, ⟨_, cap', rfl⟩, unhide HB⟩

section
variable {P : Program} (w : World)
theorem run_typeAssert_map (t xT k e : TypeId) (v : Value) (h : P.underlying t = some (.map k e)) : (Instr.typeAssert (.iface t v) xT t false).run P w = .ok v w := by
  simp [Instr.typeAssert, run_underlying h, go_sem, Result.andThen]
theorem run_maps_clone {r : Nat} {es : Array MapEntry} {clock : Nat} (t : TypeId) (hb : w.heap[r]? = some (.map es clock)) :
    (Extern.MapsClone.clone #[.iface t (.map (some r))]).run P w = .ok (.iface t (.map (some w.heap.size))) (w.alloc (.map es clock)) := by
  have e : Extern.MapsClone.clone #[.iface t (.map (some r))] = (getObj r >>= fun o => match o with
      | .map entries clock => (newObj (.map entries clock) >>= fun n => pure (.iface t (.map (some n))))
      | _ => stuck "maps.clone: a map expected") := rfl
  rw [e]
  simp [MapKept.run_getObj_map hb, Result.andThen, go_sem]
end

set_option maxRecDepth 20000 in
theorem ocloneM_nil (w : World) : Calls Try.prog 52 #[.map none] w fun e w' => e = .returned (.map none) ∧ w' = w := by
  have hq := fun w => run_eql_mapnil (P := Try.prog) w 59 _ _ none Try.underlying59
  go_enter Try.func52, Try.ntmps52
  go_wp2
  go_ret
  exact ⟨rfl, rfl⟩

set_option maxRecDepth 20000 in
theorem ocloneM_some (m : Nat) (es : Array MapEntry) (clock : Nat) (w : World) (hb : w.heap[m]? = some (.map es clock)) : Calls Try.prog 52 #[.map (some m)] w fun e w' => e = .returned (.map (some w.heap.size)) ∧ w' = w.alloc (.map es clock) := by
  have hq := fun w => run_eql_mapnil (P := Try.prog) w 59 _ _ (some m) Try.underlying59
  go_enter Try.func52, Try.ntmps52
  go_wp2_with fail
  rw [run_callFunc_extern Try.func57 (by kernel_rfl) (by kernel_rfl) (by kernel_rfl) (e := Extern.MapsClone.clone) (by kernel_rfl), run_maps_clone w 59 hb]
  simp only [Result.andThen]
  rw [Oper.upon_value]
  go_wp2_with fail
  rw [run_typeAssert_map _ 59 _ _ _ _ Try.underlying59]
  simp only [Result.andThen]
  rw [Oper.upon_value]
  go_wp2
  go_ret
  exact ⟨rfl, rfl⟩
end Go.Proofs.Ytkekikfiijbjmaa
