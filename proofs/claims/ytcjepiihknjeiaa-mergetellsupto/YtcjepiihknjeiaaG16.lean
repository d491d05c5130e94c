/- Texts of ours, one behind the other: MgKey, MgLeast, MgRows1, MgRows2, MgAll1, MgBegin. -/
import Derived.Test.YtcjepiihknjeiaaG4
import Derived.Test.YtcjepiihknjeiaaG6
import Derived.Test.YtcjepiihknjeiaaG12
import Derived.Test.YtcjepiihknjeiaaG13
import Derived.Test.YtcjepiihknjeiaaG15
import Derived.Test.YtcjepiihknjeiaaG18
import Derived.Test.YtcjepiihknjeiaaG19
import Derived.Test.YtcjepiihknjeiaaG20
/- Package merge as landed: a head's entry, its key, below, push. -/
namespace Go.Proofs.Ytcjepiihknjeiaa.QH
open Go.RowKit

macro "calm_keys" h:term:max m:term:max l:term:max k:term:max : tactic => `(tactic| (
  repeat (first
    | go_big_quiet_skip
    | (go_big_quiet_want
       apply Exists.intro
       refine ⟨fun w' hw' => ?_, ?_⟩
       · obtain ⟨c0, c1, c2, c3⟩ := unhide $h w' hw'
         go_simp
         first | done | (with_reducible exact unhide $m w' hw') | (with_reducible exact unhide $l w' hw') | (with_reducible exact unhide $k w' hw') | rfl
       simp only [Act.put, List.setIfInBounds_toArray, List.set_cons_zero, List.set_cons_succ]
       go_big_quiet_on))
  refine wpQuiet_nil ?_))

theorem HdE.open {w : World} {x : Hd} (h : HdE w x) : ∃ b o, x.p = some ⟨b, o, none⟩ ∧ x.n = x.es.length ∧ x.n ≤ x.c ∧ x.c ≤ maxLen ∧ ∀ W, Below w.heap.size w W →
    W.cell? ⟨b, o, none⟩ = some (.string x.fst.1) ∧ W.cell? ⟨b, o + 1, none⟩ = some (.int .u64 x.fst.2.1) ∧ W.cell? ⟨b, o + 2, none⟩ = some (.int .i64 x.fst.2.2.1) ∧ W.cell? ⟨b, o + 3, none⟩ = some (.int .i64 x.fst.2.2.2) := by
  obtain ⟨b, o, c, e, h1, h2, hc⟩ := h.er.seen h.pos
  simp only [Value.slice.injEq] at e
  obtain ⟨e1, e2, e3⟩ := e
  refine ⟨b, o, e1, h.len, by rw [e2, e3]; exact h1, by rw [e3]; exact h2, fun W hW => ?_⟩
  have hx : x.es[0]? = some x.fst := by
    rw [es_fst (x := x) (fun e => by have := h.pos; rw [e] at this; simp at this)]; rfl
  have := hc 0 _ hx W hW
  simpa using this
set_option maxRecDepth 20000 in
set_option maxHeartbeats 2000000 in
theorem hentry_any (w : World) (x : Hd) (h : HdE w x) : Calls Try.prog 33 #[itV x] w fun e w' => e = .returned (eV x.fst) ∧ Below w.heap.size w w' := by
  obtain ⟨b, o, e1, e2, h1, h2, hc⟩ := h.open
  obtain ⟨c0, c1, c2, c3⟩ := hc _ (((Below.refl _ w).alloc (Nat.le_refl _) (.cells #[.int .i64 x.of, .slice x.p x.n x.c] 71)).alloc (by simp) (.cells #[.string ⟨#[]⟩, .int .u64 0, .int .i64 0, .int .i64 0] 37))
  have hpos : (0 : Int) < (x.n : Int) := by have := h.pos; omega
  unfold eV itV
  rw [e1] at *
  generalize x.fst = F at *
  clear hc h1 h2 e1 e2 h
  go_enter Try.func33, Try.ntmps33
  go_wp2_with fail
  refine bodyPost_ret (v := .agg #[.string F.1, .int .u64 F.2.1, .int .i64 F.2.2.1, .int .i64 F.2.2.2]) (by simp [results, Try.results33, go_sem]) rfl ?_
  exact ⟨rfl, ((Below.refl _ w).alloc (Nat.le_refl _) _).alloc (by simp) _⟩
set_option maxRecDepth 20000 in
set_option maxHeartbeats 2000000 in
theorem hkey_any (w : World) (x : Hd) (h : HdE w x) : Calls Try.prog 44 #[itV x] w fun e w' => e = .returned (.string (keyH x)) ∧ Below w.heap.size w w' := by
  have HE := hide (fun W (hb : Below w.heap.size w W) => hentry_any W x (h.below hb))
  have HB := hide ((Below.refl _ w).alloc (Nat.le_refl _) (.cells #[.int .i64 x.of, .slice x.p x.n x.c] 71))
  unfold itV keyH
  unfold itV at HE
  clear h
  go_enter Try.func44, Try.ntmps44
  go_wp2_with fail
  refine Calls.mono (unhide HE _ (unhide HB)) ?_
  rintro e w1 ⟨rfl, b1⟩
  unfold eV
  have hfd : ∀ (a b c d : Value) W, Sem.run Try.prog (Instr.field 37 (.agg #[a, b, c, d]) 0) W = .ok a W := fun _ _ _ _ _ => by kernel_rfl
  have HB1 := hide ((unhide HB).trans (b1.mono (unhide HB).size))
  clear b1
  go_wp2_with fail
  go_ret
  exact ⟨rfl, unhide HB1⟩

set_option maxRecDepth 20000 in
set_option maxHeartbeats 2000000 in
theorem below_any (w : World) (x y : Hd) (hx : HdE w x) (hy : HdE w y) : Calls Try.prog 37 #[itV x, itV y] w fun e w' => e = .returned (.bool (ltH x y)) ∧ Below w.heap.size w w' := by
  have HX := hide (fun W (hb : Below w.heap.size w W) => hkey_any W x (hx.below hb))
  have HY := hide (fun W (hb : Below w.heap.size w W) => hkey_any W y (hy.below hb))
  have HKE := hide (fun W => kless_any (keyH x) (keyH y) W)
  have hbl : ltH x y = if (keyH x).toList == (keyH y).toList then decide (x.of < y.of) else tl (keyH x).toList (keyH y).toList := by
    unfold ltH
    by_cases e : keyH x = keyH y
    · rw [if_pos e, if_pos (by rw [e]; simp)]
    · rw [if_neg e, if_neg (by simp only [beq_iff_eq]; exact fun h => e (bl_inj h))]
  rw [hbl]
  obtain ⟨R, hR⟩ : ∃ R : Bool, R = if (keyH x).toList == (keyH y).toList then decide (x.of < y.of) else tl (keyH x).toList (keyH y).toList := ⟨_, rfl⟩
  rw [← hR]
  have HR := hide hR
  clear hbl hx hy hR
  unfold itV at *
  generalize keyH x = kx at *
  generalize keyH y = ky at *
  obtain ⟨W0, hW0⟩ : ∃ W0, (w.alloc (.cells #[.int .i64 x.of, .slice x.p x.n x.c] 71)).alloc (.cells #[.int .i64 y.of, .slice y.p y.n y.c] 71) = W0 := ⟨_, rfl⟩
  have hb0 : Below w.heap.size w W0 := by rw [← hW0]; exact ((Below.refl _ w).alloc (Nat.le_refl _) _).alloc (by simp) _
  have h1 : W0.heap[w.heap.size]? = some (.cells #[.int .i64 x.of, .slice x.p x.n x.c] 71 (0, 0)) := by
    rw [← hW0]; exact (Below.heap_alloc _ _ _ (by simp)).trans (World.alloc_heap_new w _)
  have h2 : W0.heap[w.heap.size + 1]? = some (.cells #[.int .i64 y.of, .slice y.p y.n y.c] 71 (0, 0)) := by
    rw [← hW0]; have := World.alloc_heap_new (w.alloc (.cells #[.int .i64 x.of, .slice x.p x.n x.c] 71)) (.cells #[.int .i64 y.of, .slice y.p y.n y.c] 71); rwa [World.size_alloc] at this
  obtain ⟨CC, hCC⟩ : ∃ CC : World → Prop, CC = fun w' => Below W0.heap.size W0 w' := ⟨_, rfl⟩
  have HC0 : Hid (CC { W0 with drawn := W0.drawn + 1 }) := by unfold Hid; rw [hCC]; exact (Below.refl _ _).drew
  have HB := hide (fun (w' : World) (hw' : CC w') => show Below w.heap.size w w' from by rw [hCC] at hw'; exact hb0.trans (hw'.mono hb0.size))
  have HCC := hide (fun (w' : World) (hw' : CC w') => show w'.cell? ⟨w.heap.size, 0, none⟩ = some (.int .i64 x.of) ∧ w'.cell? ⟨w.heap.size, 1, none⟩ = some (.slice x.p x.n x.c) ∧ w'.cell? ⟨w.heap.size + 1, 0, none⟩ = some (.int .i64 y.of) ∧ w'.cell? ⟨w.heap.size + 1, 1, none⟩ = some (.slice y.p y.n y.c) from by
    rw [hCC] at hw'
    have e1 := (hw'.block _ (Array.getElem?_eq_some_iff.1 h1).1).trans h1
    have e2 := (hw'.block _ (Array.getElem?_eq_some_iff.1 h2).1).trans h2
    refine ⟨?_, ?_, ?_, ?_⟩
    · rw [cell_of_row _ _ _ _ _ (0, 0) e1]; rfl
    · rw [cell_of_row _ _ _ _ _ (0, 0) e1]; rfl
    · rw [cell_of_row _ _ _ _ _ (0, 0) e2]; rfl
    · rw [cell_of_row _ _ _ _ _ (0, 0) e2]; rfl)
  have HKX : Hid (∀ W, CC W → Calls Try.prog 44 #[.agg #[.int .i64 x.of, .slice x.p x.n x.c]] W fun e w' => e = .returned (.string kx) ∧ CC w') := hide fun W hW => (unhide HX W (unhide HB W hW)).mono fun e w'' hx => ⟨hx.1, by have h3 := hx.2; rw [hCC] at hW ⊢; exact hW.trans (h3.mono hW.size)⟩
  have HKY : Hid (∀ W, CC W → Calls Try.prog 44 #[.agg #[.int .i64 y.of, .slice y.p y.n y.c]] W fun e w' => e = .returned (.string ky) ∧ CC w') := hide fun W hW => (unhide HY W (unhide HB W hW)).mono fun e w'' hx => ⟨hx.1, by have h3 := hx.2; rw [hCC] at hW ⊢; exact hW.trans (h3.mono hW.size)⟩
  have HKL : Hid (∀ W, CC W → Calls Try.prog 29 #[.string kx, .string ky] W fun e w' => e = .returned (.bool (tl kx.toList ky.toList)) ∧ CC w') := hide fun W hW => (unhide HKE W).mono fun e w'' hx => ⟨hx.1, hx.2 ▸ hW⟩
  have HDR : Hid (∀ W, CC W → CC { W with drawn := W.drawn + 1 }) := hide fun W hW => by rw [hCC] at hW ⊢; exact Below.drew hW
  clear HX HY HKE hb0 h1 h2 hCC
  go_enter Try.func37, Try.ntmps37
  go_wp2_with fail
  refine region_calm CC (by kernel_rfl) (by kernel_rfl) (by subst hW0; exact unhide HC0) ?_
  calm_keys HCC HKX HKY HKL
  intro w' hw'
  obtain ⟨c0, c1, c2, c3⟩ := unhide HCC w' hw'
  cases hk : (kx.toList == ky.toList) with
  | true =>
    have HBW := hide (unhide HB w' hw')
    have HRR : Hid (R = decide (x.of < y.of)) := by have := unhide HR; rw [hk, if_pos rfl] at this; exact this
    clear hk
    go_wp2_with fail
    go_ret
    exact ⟨by rw [unhide HRR]; rfl, unhide HBW⟩
  | false =>
    have HD := hide (unhide HDR w' hw')
    go_wp2_with fail
    refine region_calm CC (by kernel_rfl) (by kernel_rfl) (unhide HD) ?_
    calm_keys HCC HKX HKY HKL
    intro w'' hw''
    have HBW := hide (unhide HB w'' hw'')
    have HRR : Hid (R = tl kx.toList ky.toList) := by have := unhide HR; rw [hk, if_neg Bool.false_ne_true] at this; exact this
    clear hk
    go_wp2_with fail
    go_ret
    exact ⟨by rw [unhide HRR]; rfl, unhide HBW⟩
/-- What the queue is asked of it. -/
theorem lessH : LessC (.func (.func 37) #[] #[]) ltH where
  ord := orderH
  calls := ⟨_, rfl, fun _ _ => by kernel_rfl, fun x y w hx hy => below_any w x y hx hy⟩

/-- One head into the queue, or none. -/
def pushH (x : Hd) (Z : List Hd) : List Hd := if x.es.isEmpty then Z else ins ltH x Z
abbrev QA (F : Nat → Prop) (w : World) (q : Nat) (Z : List Hd) (n : Nat) : Prop := QAt F w q (.func (.func 37) #[] #[]) ltH Z n
set_option maxRecDepth 20000 in
set_option maxHeartbeats 2000000 in
theorem hpush_none (F : Nat → Prop) (w : World) (q n : Nat) (o : Int) (p : Option Addr) (c : Nat) (Z : List Hd) (h : QA F w q Z n) :
    Calls Try.prog 38 #[.pointer (some ⟨q, 0, none⟩), .agg #[.int .i64 o, .slice p 0 c]] w fun e w' => e = .returned (.tuple #[]) ∧ QA F w' q Z n ∧ Below w.heap.size w w' := by
  have hb := (Below.refl _ w).alloc (Nat.le_refl _) (.cells #[.int .i64 o, .slice p 0 c] 71)
  have H := hide (And.intro (h.below hb) hb)
  clear h hb
  go_enter Try.func38, Try.ntmps38
  go_wp2_with fail
  go_end0
  exact ⟨rfl, unhide H⟩
set_option maxRecDepth 20000 in
set_option maxHeartbeats 2000000 in
theorem hpush_some (F : Nat → Prop) (w : World) (q n : Nat) (x : Hd) (Z : List Hd) (h : QA F w q Z n) (hx : HdE w x ∧ ∀ k, x.blk k → ¬ F k) (hs : (Z.length + 1) * 40 ≤ 140737488355328) (hn : n < 4611686018427387904) :
    Calls Try.prog 38 #[.pointer (some ⟨q, 0, none⟩), itV x] w fun e w' => e = .returned (.tuple #[]) ∧ ∃ F', QA F' w' q (ins ltH x Z) (n + 1) ∧ Moves F F' w w' := by
  have hb := (Below.refl _ w).alloc (Nat.le_refl _) (.cells #[.int .i64 x.of, .slice x.p x.n x.c] 71)
  have hpos : (0 : Int) < (x.n : Int) := by have := hx.1.pos; have := hx.1.len; omega
  have H := hide (And.intro (h.below hb) hb)
  have HX := hide (And.intro (hx.1.below hb) hx.2)
  have HS := hide (And.intro hs hn)
  unfold itV
  clear h hb hx hs hn
  go_enter Try.func38, Try.ntmps38
  go_wp2_with fail
  refine Calls.mono (qpush_any ltH F _ q n x _ Z (unhide H).1 (unhide HX) (unhide HS).1 (unhide HS).2) ?_
  rintro e w1 ⟨rfl, F', q1, m1⟩
  have HE : Hid (QA F' w1 q (ins ltH x Z) (n + 1) ∧ Moves F F' w w1) := hide ⟨q1, (Moves.of_below (unhide H).2).trans m1⟩
  clear q1 m1
  go_wp2_with fail
  go_end0
  exact ⟨rfl, F', unhide HE⟩
end Go.Proofs.Ytcjepiihknjeiaa.QH

/- Package merge as landed: least. -/
namespace Go.Proofs.Ytcjepiihknjeiaa.QH
open Go.RowKit

/-- A row of heads in memory. -/
def hC (x : Hd) : List Value := [.int .i64 x.of, .slice x.p x.n x.c]
theorem hC_len (x : Hd) : (hC x).length = 2 := rfl
theorem hC_flat_len : ∀ (L : List Hd), (L.flatMap hC).length = L.length * 2
  | [] => rfl
  | x :: L => by rw [List.flatMap_cons, List.length_append, hC_flat_len L, hC_len, List.length_cons]; omega
theorem Try.infoHd : (Try.prog.info? 71).map (fun i => (i.zero, i.size, i.bytes)) = some (some (.agg #[.int .i64 0, .slice none 0 0]), 2, 32) := by kernel_rfl

/-- Where least stands: the row of what is taken out, the variable of the loop, the queue of what is left. -/
structure LSt (b : Nat) (w : World) (F F' : Nat → Prop) (q n : Nat) (R B : List Hd) (v : Value) (hb : Nat) (y : Hd) (wr : World) : Prop where
  row : wr.ownsRow b 71 2 v R.length (R.flatMap hC)
  blk : wr.heap[hb]? = some (.cells #[.int .i64 y.of, .slice y.p y.n y.c] 71 (0, 0))
  low : b ≤ hb
  vhb : v.ownBlock ≠ some hb
  que : QA F' wr q B n
  mov : Moves F F' w wr
  hbF : ¬ F' hb
  vF : ∀ k, v.ownBlock = some k → ¬ F' k
theorem LSt.calm {b : Nat} {w wr w' : World} {F F' : Nat → Prop} {q n : Nat} {R B : List Hd} {v : Value} {hb : Nat} {y : Hd} (h : LSt b w F F' q n R B v hb y wr) (hw : Below wr.heap.size wr w') : LSt b w F F' q n R B v hb y w' :=
  ⟨owns_keep (F := fun _ => False) h.row (Keep.of_below hw) (fun _ _ => id), (hw.block hb (Array.getElem?_eq_some_iff.1 h.blk).1).trans h.blk, h.low, h.vhb, h.que.below hw, h.mov.trans (Moves.of_below hw), h.hbF, h.vF⟩
theorem LSt.app {b : Nat} {w W w2 : World} {F F' : Nat → Prop} {q n : Nat} {R B : List Hd} {v v2 : Value} {hb : Nat} {x y : Hd} (h : LSt b w F F' q n R B v hb y W) (own : w2.ownsRow b 71 2 v2 (R.length + 1) (R.flatMap hC ++ hC x)) (g : W.grownBy w2 v.ownBlock) (ob : v2.ownBlock = v.ownBlock ∨ v2.ownBlock = some W.heap.size) (hd : ∀ z ∈ B, ∀ k, z.blk k → v.ownBlock ≠ some k) (hm : ∀ k, v.ownBlock = some k → w.heap.size ≤ k) : LSt b w F F' q n (R ++ [x]) B v2 hb y w2 := by
  have K := grown_keep g
  have hlt : ∀ k, F' k → k < W.heap.size := h.que.lt
  have hbl := (Array.getElem?_eq_some_iff.1 h.blk).1
  refine ⟨by rw [List.length_append, List.flatMap_append]; simpa using own, (K.block hb hbl (fun e => h.vhb e)).trans h.blk, h.low, ?_, h.que.keep K (fun k hk e => h.vF k e hk) (fun z hz k hk e => hd z hz k hk e), ⟨h.mov.keep.trans K (fun k e => Or.inr (hm k e)), h.mov.sub⟩, h.hbF, ?_⟩
  · rcases ob with e | e
    · rw [e]; exact h.vhb
    · rw [e]; intro e; simp only [Option.some.injEq] at e; omega
  · intro k hk hf
    rcases ob with e | e
    · exact h.vF k (e ▸ hk) hf
    · rw [e] at hk; simp only [Option.some.injEq] at hk; have := hlt k hf; omega
theorem LSt.pop {b : Nat} {w W w2 : World} {F F' F2 : Nat → Prop} {q n : Nat} {R B B2 : List Hd} {v : Value} {hb : Nat} {y : Hd} (h : LSt b w F F' q n R B v hb y W) (hq : QA F2 w2 q B2 n) (hm : Moves F' F2 W w2) : LSt b w F F2 q n R B2 v hb y w2 := by
  have hbl := (Array.getElem?_eq_some_iff.1 h.blk).1
  refine ⟨owns_keep h.row hm.keep h.vF, (hm.keep.block hb hbl h.hbF).trans h.blk, h.low, h.vhb, hq, h.mov.trans hm, fun hf => ?_, fun k hk hf => ?_⟩
  · rcases hm.sub _ hf with h1 | h1
    · exact h.hbF h1
    · omega
  · rcases hm.sub _ hf with h1 | h1
    · exact h.vF k hk h1
    · have := (h.row.lt k hk).2; omega
theorem LSt.again {b : Nat} {w W w2 : World} {F F' : Nat → Prop} {q n : Nat} {R B : List Hd} {v : Value} {hb : Nat} {y : Hd} {V : Value × Value} (h : LSt b w F F' q n R B v hb y W) (hw : Below (W.alloc (.cells #[V.1, V.2] 71)).heap.size (W.alloc (.cells #[V.1, V.2] 71)) w2) (y2 : Hd) :
    LSt b w F F' q n R B v W.heap.size y2 ((w2.setCell ⟨W.heap.size, 0, none⟩ (.int .i64 y2.of)).setCell ⟨W.heap.size, 1, none⟩ (.slice y2.p y2.n y2.c)) := by
  have hbl := (Array.getElem?_eq_some_iff.1 h.blk).1
  have ha := (hw.block W.heap.size (by simp)).trans (World.alloc_heap_new W (.cells #[V.1, V.2] 71))
  have s1 := heap_setCell_same w2 W.heap.size 0 _ _ (.int .i64 y2.of) ha
  have s2 := heap_setCell_same _ W.heap.size 1 _ _ (.slice y2.p y2.n y2.c) s1
  have K : Keep (fun k => k = W.heap.size) w2 ((w2.setCell ⟨W.heap.size, 0, none⟩ (.int .i64 y2.of)).setCell ⟨W.heap.size, 1, none⟩ (.slice y2.p y2.n y2.c)) := (keep_set w2 W.heap.size 0 _).trans (keep_set _ W.heap.size 1 _) (fun _ e => Or.inl e)
  have hB : Below W.heap.size W w2 := ((Below.refl _ W).alloc (Nat.le_refl _) _).trans (hw.mono (by simp))
  have hB2 : Below W.heap.size W ((w2.setCell ⟨W.heap.size, 0, none⟩ (.int .i64 y2.of)).setCell ⟨W.heap.size, 1, none⟩ (.slice y2.p y2.n y2.c)) := hB.trans (K.below hB.size (fun k e => by omega))
  have hl := h.low
  have h2 := h.calm hB2
  refine ⟨h2.row, by rw [s2]; rfl, by omega, fun e => ?_, h2.que, h2.mov, fun hf => ?_, h2.vF⟩
  · have := (h.row.lt _ e).2; omega
  · have := h.que.lt _ hf; omega
theorem QAt.count {F : Nat → Prop} {w : World} {q n : Nat} {f : Value} {lt : It → It → Bool} {Z : List It} (h : QAt F w q f lt Z n) : ∃ p c, w.cell? ⟨q, 1, none⟩ = some (.slice p Z.length c) := by
  obtain ⟨hC, L, v, hL, hQ, hF⟩ := h
  obtain ⟨p, cap, rfl, _⟩ := hL.shape
  obtain ⟨c0, c1, _⟩ := hL.cells
  rw [hQ.length] at c1
  exact ⟨p, cap, c1⟩
/-- How many stand in the queue. -/
def cntQ (q : Nat) (w : World) : Nat := match w.cell? ⟨q, 1, none⟩ with
  | some (.slice _ n _) => n
  | _ => 0
theorem QAt.cnt {F : Nat → Prop} {w : World} {q n : Nat} {f : Value} {lt : It → It → Bool} {Z : List It} (h : QAt F w q f lt Z n) : cntQ q w = Z.length := by
  obtain ⟨p, c, e⟩ := h.count
  unfold cntQ
  rw [e]
theorem take_part {Z A B : List Hd} {k : ByteArray} (h : A ++ B = Z) (hA : ∀ x ∈ A, keyH x = k) (hB : ∀ b B', B = b :: B' → keyH b ≠ k) : rowH Z k = A ∧ behH Z k = B := by
  subst h
  unfold rowH behH
  induction A with
  | nil =>
    cases B with
    | nil => exact ⟨rfl, rfl⟩
    | cons b B => simp [hB b B rfl]
  | cons a A ih =>
    obtain ⟨h1, h2⟩ := ih (fun x hx => hA x (by simp [hx]))
    have hk := hA a (by simp)
    simp only [List.cons_append, List.takeWhile_cons, List.dropWhile_cons, hk, decide_true, if_true]
    exact ⟨by rw [h1], h2⟩

set_option maxRecDepth 20000 in
set_option maxHeartbeats 4000000 in
theorem least_any (F : Nat → Prop) (w : World) (q n : Nat) (z : Hd) (Z : List Hd) (h : QA F w q (z :: Z) n) :
    Calls Try.prog 43 #[.pointer (some ⟨q, 0, none⟩)] w fun e w' => ∃ v F', e = .returned v ∧ w'.ownsRow w.heap.size 71 2 v (rowH (z :: Z) (keyH z)).length ((rowH (z :: Z) (keyH z)).flatMap hC) ∧ QA F' w' q (behH (z :: Z) (keyH z)) n ∧ Moves F F' w w' ∧ (∀ k, v.ownBlock = some k → ¬ F' k) := by
  obtain ⟨ii, hii, hi0, hi1, hi2⟩ := info_parts Try.infoHd
  have H := hide h
  have HD := hide h.heads
  have HSM := hide h.small
  have HLT := hide h.lt
  clear h
  go_enter Try.func43, Try.ntmps43
  go_wp2_with fail
  refine Calls.mono (qpeek_some ltH F _ q n _ z Z (unhide H)) ?_
  rintro e w1 ⟨rfl, b1⟩
  have HST : Hid (LSt w.heap.size w F F q n [] (z :: Z) (.slice none 0 0) w1.heap.size z (w1.alloc (.cells #[.int .i64 z.of, .slice z.p z.n z.c] 71))) := hide ⟨World.ownsRow_nil _ _ _ _, World.alloc_heap_new _ _, b1.size, fun e => (by cases e), ((unhide H).below b1).below ((Below.refl _ _).alloc (Nat.le_refl _) _), (Moves.of_below b1).trans (Moves.of_below ((Below.refl _ _).alloc (Nat.le_refl _) _)), fun hf => by have := unhide HLT _ hf; have := b1.size; omega, fun k hk => (by cases hk)⟩
  clear b1
  go_wp2_with fail
  go_loopw [3, 4, 5] (fun t3 t4 t5 wr => ∃ (A B : List Hd) (F' : Nat → Prop) (hb : Nat) (y : Hd), t4 = .pointer (some ⟨hb, 0, none⟩) ∧ t5 = .bool (!B.isEmpty) ∧ A ++ B = z :: Z ∧ Hid (∀ x ∈ A, keyH x = keyH z) ∧ Hid (∀ b B', B = b :: B' → y = b) ∧ LSt w.heap.size w F F' q n A B t3 hb y wr) (fun _ _ _ wr => cntQ q wr)
  case atStart => exact ⟨[], z :: Z, F, _, z, rfl, rfl, rfl, (by intro x hx; cases hx), (by intro b B' e; exact (List.cons.inj e).1), unhide HST⟩
  case round =>
    obtain ⟨A, B, F', hb, y, rfl, rfl, hAB, hA, hy, hst⟩ := hrel
    obtain ⟨pv, cv, rfl⟩ := ownsV_shape hst.row
    have hblk := hst.blk
    have y0 : wr.cell? ⟨hb, 0, none⟩ = some (.int .i64 y.of) := by rw [cell_of_row _ _ _ _ _ (0, 0) hblk]; rfl
    have y1 : wr.cell? ⟨hb, 1, none⟩ = some (.slice y.p y.n y.c) := by rw [cell_of_row _ _ _ _ _ (0, 0) hblk]; rfl
    have HS := hide hst
    have HAB := hide hAB
    cases B with
    | nil =>
      have HEND : Hid (rowH (z :: Z) (keyH z) = A ∧ behH (z :: Z) (keyH z) = []) := hide (take_part hAB (unhide hA) (fun b B' e => by cases e))
      have HD0 := hide (show LSt w.heap.size w F F' q n A [] (.slice pv A.length cv) hb y wr.drew from hst.calm ((Below.refl _ _).drew))
      have hbf : (!([] : List Hd).isEmpty) = false := rfl
      clear hst hblk hAB
      rw [hbf]
      go_wp2_with fail
      refine region_calm (fun w' => w' = wr.drew) (by kernel_rfl) (by kernel_rfl) rfl ?_
      repeat (first
        | go_big_quiet_skip
        | (go_big_quiet_want
           apply Exists.intro
           refine ⟨fun w' hw' => ?_, ?_⟩
           · subst hw'
             go_simp
             first | done | rfl
           simp only [Act.put, List.setIfInBounds_toArray, List.set_cons_zero, List.set_cons_succ]
           go_big_quiet_on))
      refine wpQuiet_nil ?_
      rintro w' rfl
      have HD1 := HD0
      obtain ⟨W5, hW5⟩ : ∃ W5, wr.drew = W5 := ⟨_, rfl⟩
      rw [hW5] at HD1 ⊢
      clear hW5 HD0 HS
      go_wp2_with fail
      go_ret
      obtain ⟨e1, e2⟩ := unhide HEND
      rw [e1, e2]
      exact ⟨_, _, rfl, (unhide HD1).row, (unhide HD1).que, (unhide HD1).mov, (unhide HD1).vF⟩
    | cons b B =>
      obtain rfl := unhide hy b B rfl
      have hbf : (!(y :: B).isEmpty) = true := rfl
      rw [hbf]
      have HYE : Hid (HdE wr y) := hide (hst.que.heads y (by simp)).1
      have HHD : Hid (∀ x ∈ z :: Z, HdE wr x) := hide (fun x hx => (unhide HD x hx).1.keep hst.mov.keep (unhide HD x hx).2)
      have HAL : Hid (A.length + 1 ≤ (z :: Z).length) := by unfold Hid; rw [← hAB, List.length_append]; simp
      have HB63 : Hid (A.length + 1 ≤ maxLen ∧ (A.length + 1) * 32 ≤ 140737488355328) := by
        have h1 := unhide HAL
        have h2 := unhide HSM
        unfold Hid maxLen
        constructor <;> omega
      have HBS : Hid (∀ W : World, w.heap.size ≤ W.heap.size → w.heap.size ≤ (W.alloc (.cells #[.int .i64 y.of, .slice y.p y.n y.c] 71)).heap.size) := hide (fun W h => by rw [World.size_alloc]; omega)
      have HBK := hide (fun (x : Hd) (hx : x ∈ y :: B) => (unhide HD x (by rw [← hAB]; simp only [List.mem_append]; exact Or.inr hx)).1.lt)
      have hc : A = [] ∨ ∃ a A', A = a :: A' := by
        cases A with
        | nil => exact Or.inl rfl
        | cons a A => exact Or.inr ⟨a, A, rfl⟩
      obtain ⟨A2, hA2⟩ : ∃ A2, A2 = A ++ [y] := ⟨_, rfl⟩
      have HA2 := hide hA2
      have HAB2 : Hid (A2 ++ B = z :: Z) := by unfold Hid; rw [hA2, ← hAB]; simp
      clear hst hAB hblk hA2
      rcases hc with rfl | ⟨a, A', rfl⟩
      case' inl =>
        have HKY : Hid (∀ x ∈ [y], keyH x = keyH z) := hide (fun x hx => by rw [List.mem_singleton.1 hx]; rw [(List.cons.inj (unhide HAB)).1])
        have HB0 := hide ((Below.refl wr.heap.size wr).drew)
        go_wp2_with fail
        refine region_calm (fun w' => Below wr.heap.size wr w') (by kernel_rfl) (by kernel_rfl) (unhide HB0) ?_
        repeat (first
          | go_big_quiet_skip
          | (go_big_quiet_want
             apply Exists.intro
             refine ⟨fun w' hw' => ?_, ?_⟩
             · go_simp
               first | done | exact hw' | exact ⟨rfl, hw'⟩ | rfl
             simp only [Act.put, List.setIfInBounds_toArray, List.set_cons_zero, List.set_cons_succ]
             go_big_quiet_on))
        refine wpQuiet_nil ?_
        intro w' hw'
      case' inr =>
        obtain ⟨g, hpv, r0, r1⟩ : ∃ g, pv = some ⟨g, 0, none⟩ ∧ wr.cell? ⟨g, 0, none⟩ = some (.int .i64 a.of) ∧ wr.cell? ⟨g, 1, none⟩ = some (.slice a.p a.n a.c) := by
          rcases (unhide HS).row.2 with ⟨_, h0⟩ | ⟨g, cap, cur, hv, _⟩
          · simp at h0
          · cases hv
            have q0 := (unhide HS).row.cells (g := g) rfl 0 (.int .i64 a.of) rfl
            have q1 := (unhide HS).row.cells (g := g) rfl 1 (.slice a.p a.n a.c) rfl
            rw [Addr.add_lit] at q0 q1
            exact ⟨g, rfl, q0, q1⟩
        subst hpv
        have hka : keyH a = keyH z := unhide hA a (by simp)
        have HAE : Hid (HdE wr a) := hide (unhide HHD a (by have := unhide HAB; rw [← this]; simp))
        obtain ⟨bv, hbv⟩ : ∃ bv, ((keyH y).toList == (keyH a).toList) = bv := ⟨_, rfl⟩
        have HBV := hide hbv
        have HEND : Hid (bv = false → rowH (z :: Z) (keyH z) = a :: A' ∧ behH (z :: Z) (keyH z) = y :: B) := hide (fun e => take_part (unhide HAB) (unhide hA) (fun b B' e2 => by
          obtain ⟨rfl, _⟩ := List.cons.inj e2
          rw [← hka]
          intro e3
          rw [← hbv, e3] at e
          simp at e))
        have HKYb : Hid (bv = true → ∀ x ∈ [y], keyH x = keyH z) := hide (fun e x hx => by
          rw [List.mem_singleton.1 hx, ← hka]
          rw [← hbv] at e
          exact bl_inj (by simpa using e))
        have HX : Hid (∀ W, Below wr.heap.size wr W → Calls Try.prog 44 #[.agg #[.int .i64 y.of, .slice y.p y.n y.c]] W fun e w' => e = .returned (.string (keyH y)) ∧ Below wr.heap.size wr w') := hide (fun W hW => (hkey_any W y ((unhide HYE).below hW)).mono fun e w'' hx => ⟨hx.1, hW.trans (hx.2.mono hW.size)⟩)
        have HX2 : Hid (∀ W, Below wr.heap.size wr W → Calls Try.prog 44 #[.agg #[.int .i64 a.of, .slice a.p a.n a.c]] W fun e w' => e = .returned (.string (keyH a)) ∧ Below wr.heap.size wr w') := hide (fun W hW => (hkey_any W a ((unhide HAE).below hW)).mono fun e w'' hx => ⟨hx.1, hW.trans (hx.2.mono hW.size)⟩)
        have HCC := hide (fun (w' : World) (hw' : Below wr.heap.size wr w') => show w'.cell? ⟨hb, 0, none⟩ = some (.int .i64 y.of) ∧ w'.cell? ⟨hb, 1, none⟩ = some (.slice y.p y.n y.c) ∧ w'.cell? ⟨g, 0, none⟩ = some (.int .i64 a.of) ∧ w'.cell? ⟨g, 1, none⟩ = some (.slice a.p a.n a.c) from
          ⟨(hw'.cell (World.block_lt_of_cell? _ _ y0)).trans y0, (hw'.cell (World.block_lt_of_cell? _ _ y1)).trans y1, (hw'.cell (World.block_lt_of_cell? _ _ r0)).trans r0, (hw'.cell (World.block_lt_of_cell? _ _ r1)).trans r1⟩)
        have hlen0 : ((((a :: A').length : Nat) : Int) == 0) = false := by rw [beq_eq_false_iff_ne]; simp only [List.length_cons]; omega
        have HB0 := hide ((Below.refl wr.heap.size wr).drew)
        have hlenN : 0 < (a :: A').length := Nat.succ_pos _
        obtain ⟨N, hN⟩ : ∃ N, (a :: A').length = N := ⟨_, rfl⟩
        have HN := hide hN
        rw [hN] at hlen0 hlenN ⊢
        generalize keyH y = ky at *
        generalize keyH a = ka at *
        clear r0 r1 hka hN
        go_wp2_with fail
        refine region_calm (fun w' => Below wr.heap.size wr w') (by kernel_rfl) (by kernel_rfl) (unhide HB0) ?_
        repeat (first
          | go_big_quiet_skip
          | (go_big_quiet_want
             apply Exists.intro
             refine ⟨fun w' hw' => ?_, ?_⟩
             · obtain ⟨c0, c1, c2, c3⟩ := unhide HCC w' hw'
               go_simp
               first | done | exact hw' | exact ⟨rfl, hw'⟩ | (with_reducible exact unhide HX w' hw') | (with_reducible exact unhide HX2 w' hw') | rfl
             simp only [Act.put, List.setIfInBounds_toArray, List.set_cons_zero, List.set_cons_succ]
             go_big_quiet_on))
        refine wpQuiet_nil ?_
        intro w' hw'
        cases bv
        case false =>
          have HE12 := hide (unhide HEND rfl)
          have HST2 := hide (show LSt w.heap.size w F F' q n (a :: A') (y :: B) (.slice (some ⟨g, 0, none⟩) N cv) hb y w' by rw [← unhide HN]; exact (unhide HS).calm hw')
          clear HB0 hbf
          go_wp2_with fail
          go_ret
          obtain ⟨e1, e2⟩ := unhide HE12
          first
            | (rw [e1, e2]; exact ⟨_, _, rfl, (unhide HST2).row, (unhide HST2).que, (unhide HST2).mov, (unhide HST2).vF⟩)
            | exact ⟨_, rfl, by rw [e1]; exact (unhide HST2).row, F', by rw [e2]; exact (unhide HST2).que, (unhide HST2).mov, (unhide HST2).vF⟩
        have HKY := hide (unhide HKYb rfl)
        rw [← unhide HN]
      all_goals
        have hst2 := (unhide HS).calm hw'
        have y0 : w'.cell? ⟨hb, 0, none⟩ = some (.int .i64 y.of) := by rw [cell_of_row _ _ _ _ _ (0, 0) hst2.blk]; rfl
        have y1 : w'.cell? ⟨hb, 1, none⟩ = some (.slice y.p y.n y.c) := by rw [cell_of_row _ _ _ _ _ (0, 0) hst2.blk]; rfl
        have HST2 := hide hst2
        clear hst2 hw'
        go_wp2_with (first
          | (with_reducible show wpList _ _ _ (Oper.mk _ (Op.call _) _ _ _ _ :: _) _ _
             refine wpList_append_gen rfl _ _ 68 rfl w.heap.size 71 ii (.agg #[.int .i64 0, .slice none 0 0]) Try.underlying68 hii hi0 2 32 (by omega) hi1 hi2 rfl _ _ _ rfl ((unhide HST2).calm ((Below.refl _ w').alloc (Nat.le_refl _) _)).row ⟨w'.heap.size, 0, none⟩ 1 1 (hC y) rfl rfl (by intro j u hj; match j, hj with | 0, hj => (simp [hC] at hj; subst hj; simp [Addr.add]) | 1, hj => (simp [hC] at hj; subst hj; simp [Addr.add])) (by intro u hu; simp [hC] at hu; rcases hu with rfl | rfl <;> rfl) (unhide HB63).1 (unhide HB63).2 (unhide HBS w' (unhide HST2).mov.keep.size) ?_))
        intro v2 w2 hown hg hob
        have HST3 := hide (show LSt w.heap.size w F F' q n A2 (y :: B) v2 hb y w2 by
          rw [unhide HA2]
          exact ((unhide HST2).calm ((Below.refl _ w').alloc (Nat.le_refl _) (.cells #[.int .i64 y.of, .slice y.p y.n y.c] 71))).app hown hg (by
            rcases hob with e | e
            · exact Or.inl e
            · exact Or.inr (by rw [World.size_alloc]; exact e)) (fun x hx k hk e => by
            have h1 := unhide HBK x hx k hk
            have h2 := ((unhide HST2).row.lt k e).1
            omega) (fun k hk => ((unhide HST2).row.lt k hk).1))
        clear hown hg hob y0 y1
        obtain ⟨p2, c2, rfl⟩ := ownsV_shape (unhide HST3).row
        go_wp2_with fail
        refine Calls.mono (qpop_some ltH F' _ q n _ y B (unhide HST3).que) ?_
        rintro e w3 ⟨rfl, F2, q2, m2⟩
        have hst4 := (unhide HST3).pop q2 m2
        have y0 : w3.cell? ⟨hb, 0, none⟩ = some (.int .i64 y.of) := by rw [cell_of_row _ _ _ _ _ (0, 0) hst4.blk]; rfl
        have y1 : w3.cell? ⟨hb, 1, none⟩ = some (.slice y.p y.n y.c) := by rw [cell_of_row _ _ _ _ _ (0, 0) hst4.blk]; rfl
        have HST4 := hide hst4
        clear hst4 q2 m2
        have HQ4 := hide ((unhide HST4).que.below ((Below.refl _ w3).alloc (Nat.le_refl _) (.cells #[.int .i64 y.of, .slice y.p y.n y.c] 71)))
        have HCNT : Hid (B.length < cntQ q wr) := by unfold Hid; rw [(unhide HS).que.cnt]; simp
        have HK2 : Hid (∀ x ∈ A2, keyH x = keyH z) := hide (fun x hx => by
          rw [unhide HA2] at hx
          rcases List.mem_append.1 hx with hx | hx
          · exact unhide hA x hx
          · exact unhide HKY x hx)
        go_wp2_with fail
        cases B with
        | nil =>
          refine Calls.mono (qpeek_none ltH F2 _ q n _ (unhide HQ4)) ?_
          rintro e w5 ⟨rfl, b5⟩
          have ha := (b5.block w3.heap.size (by simp)).trans (World.alloc_heap_new w3 (.cells #[.int .i64 y.of, .slice y.p y.n y.c] 71))
          have z0 : w5.cell? ⟨w3.heap.size, 0, none⟩ = some (.int .i64 y.of) := by rw [cell_of_row _ _ _ _ _ (0, 0) ha]; rfl
          have z1 : w5.cell? ⟨w3.heap.size, 1, none⟩ = some (.slice y.p y.n y.c) := by rw [cell_of_row _ _ _ _ _ (0, 0) ha]; rfl
          have zf0 : w5.frozen? ⟨w3.heap.size, 0, none⟩ = false := frozen_of_block ha
          have zf1 : w5.frozen? ⟨w3.heap.size, 1, none⟩ = false := frozen_of_block ha
          have HST6 := hide ((unhide HST4).again (V := (.int .i64 y.of, .slice y.p y.n y.c)) b5 Hd.zero)
          clear b5 ha
          go_wp2_with fail
          exact ⟨⟨A2, [], F2, _, Hd.zero, rfl, rfl, unhide HAB2, HK2, (by intro b B' e; cases e), unhide HST6⟩, Nat.lt_of_le_of_lt (Nat.le_of_eq (unhide HST6).que.cnt) (unhide HCNT)⟩
        | cons y2 B2 =>
          refine Calls.mono (qpeek_some ltH F2 _ q n _ y2 B2 (unhide HQ4)) ?_
          rintro e w5 ⟨rfl, b5⟩
          have ha := (b5.block w3.heap.size (by simp)).trans (World.alloc_heap_new w3 (.cells #[.int .i64 y.of, .slice y.p y.n y.c] 71))
          have z0 : w5.cell? ⟨w3.heap.size, 0, none⟩ = some (.int .i64 y.of) := by rw [cell_of_row _ _ _ _ _ (0, 0) ha]; rfl
          have z1 : w5.cell? ⟨w3.heap.size, 1, none⟩ = some (.slice y.p y.n y.c) := by rw [cell_of_row _ _ _ _ _ (0, 0) ha]; rfl
          have zf0 : w5.frozen? ⟨w3.heap.size, 0, none⟩ = false := frozen_of_block ha
          have zf1 : w5.frozen? ⟨w3.heap.size, 1, none⟩ = false := frozen_of_block ha
          have HST6 := hide ((unhide HST4).again (V := (.int .i64 y.of, .slice y.p y.n y.c)) b5 y2)
          clear b5 ha
          go_wp2_with fail
          exact ⟨⟨A2, y2 :: B2, F2, _, y2, rfl, rfl, unhide HAB2, HK2, (by intro b B' e; exact (List.cons.inj e).1), unhide HST6⟩, Nat.lt_of_le_of_lt (Nat.le_of_eq (unhide HST6).que.cnt) (unhide HCNT)⟩
end Go.Proofs.Ytcjepiihknjeiaa.QH

/- Package merge as landed: what stands while the rows of heads are gone through. -/
namespace Go.Proofs.Ytcjepiihknjeiaa.QH
open Go.RowKit Go.Shelf

theorem nextH_app (A B : List Hd) : nextH (A ++ B) = nextH A ++ nextH B := by unfold nextH; rw [List.map_append, List.filter_append]
theorem nextH_nil : nextH [] = [] := rfl
theorem nextH_one (x : Hd) : nextH [x] = if x.es.tail = [] then [] else [tlH x] := by
  unfold nextH
  simp only [List.map_cons, List.map_nil, List.filter_cons, List.filter_nil]
  have : (tlH x).es = x.es.tail := rfl
  rw [this]
  cases x.es.tail <;> simp
theorem nextH_len : ∀ A : List Hd, (nextH A).length ≤ A.length := fun A => by
  unfold nextH
  exact Nat.le_trans (List.length_filter_le _ _) (by rw [List.length_map]; exact Nat.le_refl _)
theorem tl_blk {x : Hd} {k : Nat} (hp : ∃ b o, x.p = some ⟨b, o, none⟩) (h : (tlH x).blk k) : x.blk k := by
  obtain ⟨b, o, hp⟩ := hp
  obtain ⟨o2, e⟩ := h
  unfold tlH at e
  simp only [hp, Option.map_some, Addr.add_lit, Option.some.injEq, Addr.mk.injEq] at e
  exact ⟨o, by rw [hp, e.1]⟩
theorem HdE.addr {w : World} {x : Hd} (h : HdE w x) : ∃ b o, x.p = some ⟨b, o, none⟩ := by
  obtain ⟨b, o, e, _⟩ := h.open
  exact ⟨b, o, e⟩
theorem drop1_flat (l : List En) : (l.flatMap eC).drop (1 * 4) = l.tail.flatMap eC := by
  cases l with
  | nil => rfl
  | cons x t => rfl
/-- 's[1:]' of what is left. -/
theorem cut_tail {w : World} {x : Hd} (h : HdE w x) : ∃ p n c, (∀ W, (Instr.slice 24 (.slice x.p x.n x.c) (some (.int .i64 1)) none none).run Try.prog W = .ok (.slice p n c) W) ∧
    ((x.es.tail = [] ∧ n = 0) ∨ (x.es.tail ≠ [] ∧ p = (tlH x).p ∧ n = (tlH x).n ∧ c = (tlH x).c ∧ HdE w (tlH x))) := by
  obtain ⟨b, o, e1, e2, h1, h2, _⟩ := h.open
  have her := h.er
  have hlen : x.es.tail.length = x.es.length - 1 := List.length_tail
  have hpos := h.pos
  have hrow := krow_sliced (k := 4) (show KRow 4 w (.slice x.p x.n x.c) x.n (x.es.flatMap eC) by rw [e2]; rw [e2] at her; exact her) 1 x.n x.c (by omega) (Nat.le_refl _) h1 (Nat.le_refl _)
  have hcl : (x.es.flatMap eC).length = x.n * 4 := by rw [eC_flat_len, e2]
  rw [List.take_of_length_le (by rw [List.length_drop, hcl, Nat.sub_mul]; omega), drop1_flat] at hrow
  have hrun : ∀ W, (Instr.slice 24 (.slice x.p x.n x.c) (some (.int .i64 1)) none none).run Try.prog W = .ok (sliced x.p 1 x.n x.c 4) W := fun W => by
    have hr := run_slice_l (P := Try.prog) W 24 x.p x.n x.c (by rw [elem_of Try.underlying24]; exact Try.underlying24) .i64 1 (by omega) (by omega)
    rw [hr, ksize Try.underlying24 (k := 4) (by kernel_rfl)]
    rfl
  unfold sliced at hrun hrow
  refine ⟨_, _, _, hrun, ?_⟩
  cases ht : x.es.tail with
  | nil =>
    rw [ht] at hlen
    simp only [List.length_nil] at hlen
    exact Or.inl ⟨rfl, by omega⟩
  | cons y t =>
    rw [ht] at hlen
    simp only [List.length_cons] at hlen
    have hne : ¬ x.c = 1 := by omega
    refine Or.inr ⟨by simp, ?_, rfl, rfl, ?_⟩
    · unfold tlH
      simp only
      split
      · rename_i hh; omega
      · rfl
    · refine ⟨by unfold tlH; simp only [List.length_tail]; omega, by unfold tlH; simp only [ht]; simp, ?_⟩
      unfold tlH
      simp only
      unfold ER
      rw [List.length_tail, ← e2]
      rw [if_neg hne] at hrow
      exact hrow
/-- A head put back behind its first entry, or none. -/
theorem hpush_tl (F : Nat → Prop) (w : World) (q n : Nat) (x : Hd) (Z : List Hd) (p : Option Addr) (m c : Nat) (h : QA F w q Z n) (hx : ∀ k, x.blk k → ¬ F k) (hp : ∃ b o, x.p = some ⟨b, o, none⟩)
    (hc : (x.es.tail = [] ∧ m = 0) ∨ (x.es.tail ≠ [] ∧ p = (tlH x).p ∧ m = (tlH x).n ∧ c = (tlH x).c ∧ HdE w (tlH x))) (hs : (Z.length + 1) * 40 ≤ 140737488355328) (hn : n < 4611686018427387904) :
    Calls Try.prog 38 #[.pointer (some ⟨q, 0, none⟩), .agg #[.int .i64 x.of, .slice p m c]] w fun e w' => e = .returned (.tuple #[]) ∧ ∃ F' Z', QA F' w' q Z' (n + (nextH [x]).length) ∧ Moves F F' w w' ∧ Z'.Perm (nextH [x] ++ Z) := by
  rcases hc with ⟨ht, rfl⟩ | ⟨ht, rfl, rfl, rfl, hh⟩
  · refine (hpush_none F w q n x.of p c Z h).mono ?_
    rintro e w' ⟨rfl, h1, h2⟩
    rw [nextH_one, if_pos ht]
    exact ⟨rfl, F, Z, h1, Moves.of_below h2, List.Perm.refl _⟩
  · refine (hpush_some F w q n (tlH x) Z h ⟨hh, fun k hk => hx k (tl_blk hp hk)⟩ hs hn).mono ?_
    rintro e w' ⟨rfl, F', h1, h2⟩
    rw [nextH_one, if_neg ht]
    exact ⟨rfl, F', _, h1, h2, ins_perm _ _ _⟩
theorem tot_row (k : ByteArray) : ∀ (S : List (List En)) (j : Nat), totS (S.map (drop1 k)) + (hdK k j S).length = totS S
  | [], _ => rfl
  | [] :: S, j => by
    have := tot_row k S (j + 1)
    have e : hdK k j ([] :: S) = hdK k (j + 1) S := rfl
    rw [e]
    simp only [totS, List.map_cons, List.sum_cons, List.length_nil, drop1] at *
    omega
  | (x :: t) :: S, j => by
    have := tot_row k S (j + 1)
    rw [hdK_cons]
    simp only [totS, List.map_cons, List.sum_cons, drop1_cons] at *
    by_cases e : x.1 = k
    · simp only [if_pos e, List.length_cons] at *; omega
    · simp only [if_neg e, List.length_cons] at *; omega

/-- A row of heads as it is told: the numbers of the lists, and their entries. -/
def encR (C : Nat → Prop) (_ : World) (r : List (Nat × En)) (vs : Array Value) (W2 : World) : Prop :=
  ∃ (v : Value) (hs : List Hd), vs = #[v] ∧ hs.map hE = r ∧ KRow 2 W2 v hs.length (hs.flatMap hC) ∧ (∀ b o c, v = .slice (some ⟨b, o, none⟩) hs.length c → ¬ C b) ∧ ∀ y ∈ hs, HdE W2 y ∧ (∀ k, y.blk k → ¬ C k) ∧ 0 ≤ y.of

/-- While rows are gone through: what the caller has, the fork, the heads in it. -/
structure RS {α : Type} (J : List α → (Nat → Prop) → World → Prop) (C0 : Nat → Prop) (W : World) (q : Nat) (pre : List α) (Z : List Hd) (n : Nat) (C F : Nat → Prop) (wr : World) : Prop where
  j : J pre C wr
  que : QA F wr q Z n
  dis : ∀ k, F k → ¬ C k
  new : ∀ k, F k → W.heap.size ≤ k
  mov : Moves C0 C W wr
  ent : ∀ x ∈ Z, HdE W x ∧ ∀ k, x.blk k → ¬ C0 k
section
variable {α : Type} {J : List α → (Nat → Prop) → World → Prop} {C0 C F : Nat → Prop} {W wr w' : World} {q n : Nat} {pre : List α} {Z : List Hd}
theorem RS.calm (hJ : SOk W.heap.size J) (h : RS J C0 W q pre Z n C F wr) (hb : Below wr.heap.size wr w') : RS J C0 W q pre Z n C F w' :=
  ⟨hJ.below h.j hb, h.que.below hb, h.dis, h.new, h.mov.trans (Moves.of_below hb), h.ent⟩
theorem RS.own (hJ : SOk W.heap.size J) (h : RS J C0 W q pre Z n C F wr) {F4 : Nat → Prop} {Z4 : List Hd} {n4 : Nat} (hq : QA F4 w' q Z4 n4) (hm : Moves F F4 wr w') (he : ∀ x ∈ Z4, HdE W x ∧ ∀ k, x.blk k → ¬ C0 k) : RS J C0 W q pre Z4 n4 C F4 w' :=
  ⟨hJ.stays _ _ _ _ F h.j hm.keep (fun k hc hf => h.dis k hf hc) h.new, hq, fun k hk hc => by
    rcases hm.sub k hk with h1 | h1
    · exact h.dis k h1 hc
    · have := hJ.lt _ _ _ h.j k hc; omega, fun k hk => by
    rcases hm.sub k hk with h1 | h1
    · exact h.new k h1
    · exact Nat.le_trans h.mov.keep.size h1, ⟨h.mov.keep.trans hm.keep (fun k hk => Or.inr (h.new k hk)), h.mov.sub⟩, he⟩
theorem RS.head (h : RS J C0 W q pre Z n C F wr) {x : Hd} (hx : HdE W x ∧ ∀ k, x.blk k → ¬ C0 k) : HdE wr x ∧ (∀ k, x.blk k → ¬ C k) ∧ ∀ k, x.blk k → ¬ F k := by
  refine ⟨hx.1.keep h.mov.keep hx.2, fun k hk hc => ?_, fun k hk hf => ?_⟩
  · rcases h.mov.sub k hc with h1 | h1
    · exact hx.2 k hk h1
    · have := hx.1.lt k hk; omega
  · have := hx.1.lt k hk; have := h.new k hf; omega
theorem RS.yield (h : RS J C0 W q pre Z n C F wr) {pre' : List α} {C' : Nat → Prop} (hj : J pre' C' w') (hm : Moves C C' wr w') : RS J C0 W q pre' Z n C' F w' :=
  ⟨hj, h.que.keep hm.keep h.dis (fun x hx k hk => (h.head (h.ent x hx)).2.1 k hk), fun k hk hc => by
    rcases hm.sub k hc with h1 | h1
    · exact h.dis k hk h1
    · have := h.que.lt k hk; omega, h.new, h.mov.trans hm, h.ent⟩
end
end Go.Proofs.Ytcjepiihknjeiaa.QH

/- Package merge as landed: the rows of heads, gone through. -/
namespace Go.Proofs.Ytcjepiihknjeiaa.QH
open Go.RowKit Go.Shelf
attribute [local go_sem] Oper.semAt_some

/-- How far one has come: what is left of the lists, and the heads of it. -/
structure RI (J : List (List (Nat × En)) → (Nat → Prop) → World → Prop) (C0 : Nat → Prop) (W : World) (q M : Nat) (R : List (List (Nat × En))) (pre : List (List (Nat × En))) (S : List (List En)) (m : Nat) (Z : List Hd) (n : Nat) (C F : Nat → Prop) (wr : World) : Prop where
  st : RS J C0 W q pre Z n C F wr
  hs : Hs Z S
  se : ∀ l ∈ S, SE l
  rest : R = pre ++ rowsS m S
  fuel : totS S ≤ m
  cnt : n + totS S ≤ M

/-- How many were pushed. -/
def pshQ (q : Nat) (w : World) : Nat := match w.cell? ⟨q, 2, none⟩ with
  | some (.int _ n) => n.toNat
  | _ => 0
theorem QAt.psh {F : Nat → Prop} {w : World} {q n : Nat} {f : Value} {lt : It → It → Bool} {Z : List It} (h : QAt F w q f lt Z n) : pshQ q w = n := by
  obtain ⟨hC, L, v, hL, hQ, hF⟩ := h
  obtain ⟨_, _, c2, _⟩ := hL.cells
  unfold pshQ
  rw [c2]
  rfl
theorem Hs.none {S : List (List En)} {m : Nat} (h : Hs [] S) : rowsS m S = [] := by
  refine rows_none ?_
  cases hl : leastE S with
  | none => rfl
  | some x =>
    obtain ⟨i, r, e⟩ := hdK_first S 0 x hl
    obtain ⟨t, _, h2, _⟩ := (hdK_mem x.1 S 0 i x).1 (by rw [e]; simp)
    obtain ⟨y, hy, _⟩ := h.all (i - 0) _ h2 (by simp)
    cases hy

/-- The next row, and what is behind it. -/
structure NX (C0 : Nat → Prop) (W : World) (M : Nat) (R pre : List (List (Nat × En))) (n len : Nat) (A B : List Hd) (r : List (Nat × En)) (S2 : List (List En)) (m2 : Nat) : Prop where
  enc : A.map hE = r
  rest : R = pre ++ r :: rowsS m2 S2
  hs : Hs (nextH A ++ B) S2
  se : ∀ l ∈ S2, SE l
  fuel : totS S2 ≤ m2
  cnt : n + A.length + totS S2 ≤ M
  pos : 0 < A.length
  len : A.length + B.length = len
  entA : ∀ y ∈ A, HdE W y ∧ (∀ k, y.blk k → ¬ C0 k) ∧ 0 ≤ y.of
  entB : ∀ y ∈ B, HdE W y ∧ ∀ k, y.blk k → ¬ C0 k
theorem RI.row {J : List (List (Nat × En)) → (Nat → Prop) → World → Prop} {C0 C F : Nat → Prop} {W wr : World} {q M n k : Nat} {R pre : List (List (Nat × En))} {S : List (List En)} {z : Hd} {Z : List Hd} (h : RI J C0 W q M R pre S k (z :: Z) n C F wr) :
    ∃ r S2 m2, NX C0 W M R pre n (z :: Z).length (rowH (z :: Z) (keyH z)) (behH (z :: Z) (keyH z)) r S2 m2 := by
  have hsrt := h.st.que.sorted
  obtain ⟨x, hl, hk⟩ := least_key h.hs h.se hsrt
  obtain ⟨m2, _, e2, e3⟩ := rows_some hl h.fuel
  have e4 := row_is h.hs h.se hsrt hl
  have e5 := tot_row x.1 S 0
  have e6 := h.cnt
  have e7 := row_beh (z :: Z) x.1
  have e8 : (rowH (z :: Z) x.1).length + (behH (z :: Z) x.1).length = (z :: Z).length := by rw [← List.length_append, e7]
  have e9 : (rowH (z :: Z) x.1).length = (hdK x.1 0 S).length := by rw [← e4, List.length_map]
  rw [hk]
  refine ⟨_, S.map (drop1 x.1), m2, e4, by rw [h.rest, e2], h.hs.next h.se hsrt hl, SE.drops _ h.se, e3, by omega, ?_, e8, fun y hy => ?_, fun y hy => ?_⟩
  · unfold rowH
    rw [List.takeWhile_cons, if_pos (by simpa using hk)]
    simp
  · have hy2 : y ∈ z :: Z := by rw [← e7]; simp only [List.mem_append]; exact Or.inl hy
    obtain ⟨i, f1, _⟩ := h.hs.mem y hy2
    exact ⟨(h.st.ent y hy2).1, (h.st.ent y hy2).2, by omega⟩
  · exact h.st.ent y (by rw [← e7]; simp only [List.mem_append]; exact Or.inr hy)
theorem ent_next {C0 : Nat → Prop} {W : World} {A B : List Hd} (hA : ∀ y ∈ A, HdE W y ∧ (∀ k, y.blk k → ¬ C0 k) ∧ 0 ≤ y.of) (hB : ∀ y ∈ B, HdE W y ∧ ∀ k, y.blk k → ¬ C0 k) : ∀ y ∈ nextH A ++ B, HdE W y ∧ ∀ k, y.blk k → ¬ C0 k := fun y hy => by
  rcases List.mem_append.1 hy with hy | hy
  · obtain ⟨h1, h2⟩ := List.mem_filter.1 hy
    obtain ⟨a, ha, rfl⟩ := List.mem_map.1 h1
    obtain ⟨e1, e2, _⟩ := hA a ha
    obtain ⟨p, n, c, _, h3⟩ := cut_tail e1
    rcases h3 with ⟨ht, _⟩ | ⟨_, _, _, _, h4⟩
    · have : (tlH a).es = a.es.tail := rfl
      rw [this, ht] at h2
      cases h2
    · exact ⟨h4, fun k hk => e2 k (tl_blk e1.addr hk)⟩
  · exact hB y hy
theorem take_next {A : List Hd} {j : Nat} (h : j < A.length) : nextH (A.take (j + 1)) = nextH (A.take j) ++ nextH [A[j]] := by
  rw [← nextH_app, List.take_succ_eq_append_getElem h]

set_option maxRecDepth 20000 in
set_option maxHeartbeats 4000000 in
theorem rows_seq (Bn q M : Nat) (Fq : Nat → Prop) (Z0 : List Hd) (S : List (List En)) (n0 : Nat) (hH : Hs Z0 S) (hS : ∀ l ∈ S, SE l) (hM : n0 + totS S ≤ M) (hM2 : M < 4611686018427387904) :
    SeqH 40 #[.pointer (some ⟨Bn, 0, none⟩)] encR (rowsS (totS S) S) (fun k => k = Bn ∨ Fq k ∨ ∃ x ∈ Z0, x.blk k) (fun W => W.cell? ⟨Bn, 0, none⟩ = some (.pointer (some ⟨q, 0, none⟩)) ∧ QA Fq W q Z0 n0) := by
  intro J Jx l m C0 W hJ hJx hY h0 hD hF
  obtain ⟨hB, hQ⟩ := hD
  refine callsIn_of_wp Try.func40 rfl trivial ?_ rfl
  simp only [Try.ntmps40, List.size_toArray, List.length_cons, List.length_nil, Nat.reduceAdd, Nat.reduceSub, Array.replicate_succ, Array.replicate_zero, List.push_toArray, List.append_toArray, List.nil_append, List.cons_append]
  have HY := hide hY
  have HQ := hide hQ
  have HF := hide hF
  have HJ := hide (And.intro hJ hJx)
  have H0 := hide h0
  have HH := hide (And.intro hH (And.intro hS (And.intro hM hM2)))
  clear hY hQ hF hJ hJx h0 hH hS hM hM2
  gi_wp2_with fail
  refine ⟨trivial, (fun h => (by cases h)), (callsIn_wide.2 (qfork_any ltH Fq W q n0 _ Z0 (unhide HQ))).mono ?_⟩
  rintro e w1 ⟨q1, F1, rfl, hq1, b1, hf1⟩
  have hC0 := (unhide HJ).1.lt _ _ _ (unhide H0)
  have HST : Hid (∃ pre S' k Z n C F, RI J C0 W q1 M (rowsS (totS S) S) pre S' k Z n C F w1) := by
    obtain ⟨hH, hS, hM, hM2⟩ := unhide HH
    refine ⟨[], S, totS S, Z0, n0, C0, F1, ⟨⟨(unhide HJ).1.below (unhide H0) b1, hq1, fun k hk hc => ?_, hf1, Moves.of_below b1, fun x hx => ⟨((unhide HQ).heads x hx).1, fun k hk hc => ?_⟩⟩, hH, hS, rfl, Nat.le_refl _, hM⟩⟩
    · have := hC0 k hc; have := hf1 k hk; omega
    · exact (unhide HF k (Or.inr (Or.inr ⟨x, hx, hk⟩))).1 hc
  clear hq1 b1 hf1 hC0
  gi_wp2_with fail
  gi_loopw [4] (fun _ wr => ∃ pre S' k Z n C F, RI J C0 W q1 M (rowsS (totS S) S) pre S' k Z n C F wr) (fun _ wr => (M - pshQ q1 wr) + cntQ q1 wr)
  case atStart => exact unhide HST
  case round =>
    obtain ⟨pre, S', k, Z, n, C, F, hri⟩ := hrel
    have HRI := hide hri
    have HLE := hide (qlen_any ltH F wr q1 n _ Z hri.st.que)
    clear HST hri
    gi_wp2_with fail
    refine ⟨trivial, (fun h => (by cases h)), (callsIn_wide.2 (unhide HLE)).mono ?_⟩
    rintro e w2 ⟨rfl, b2⟩
    have HS2 := hide ((unhide HRI).st.calm (unhide HJ).1 b2)
    clear b2
    cases Z with
    | nil =>
      have HE := hide (show ∃ C, J (rowsS (totS S) S) C w2 ∧ Moves C0 C W w2 from ⟨C, by rw [(unhide HRI).rest, Hs.none (unhide HRI).hs, List.append_nil]; exact (unhide HS2).j, (unhide HS2).mov⟩)
      clear HLE
      gi_wp2_with fail
      go_end0
      exact ⟨⟨_, rfl⟩, Or.inl (unhide HE)⟩
    | cons z Z =>
      have hpos : (0 : Int) < (((z :: Z).length : Nat) : Int) := by simp only [List.length_cons]; omega
      have HMS := hide (show (M - pshQ q1 wr) + cntQ q1 wr = (M - n) + (z :: Z).length by rw [(unhide HRI).st.que.cnt, (unhide HRI).st.que.psh])
      have HSM := hide (unhide HRI).st.que.small
      obtain ⟨r, S2, m2, hnx⟩ := (unhide HRI).row
      have HLS := hide (least_any F w2 q1 n z Z (unhide HS2).que)
      have hlenZ : (z :: Z).length = (rowH (z :: Z) (keyH z)).length + (behH (z :: Z) (keyH z)).length := by rw [← List.length_append, row_beh]
      generalize rowH (z :: Z) (keyH z) = A at *
      generalize behH (z :: Z) (keyH z) = B at *
      have HNX := hide hnx
      have HLZ := hide hlenZ
      clear hnx hlenZ HLE
      generalize (((z :: Z).length : Nat) : Int) = N at *
      gi_wp2_with fail
      refine ⟨trivial, (fun h => (by cases h)), (callsIn_wide.2 (unhide HLS)).mono ?_⟩
      rintro e w3 ⟨v, F3, rfl, hrow, hq3, hm3, hv3⟩
      have hs3 := (unhide HS2).own (unhide HJ).1 hq3 hm3 (unhide HNX).entB
      have HV := hide (And.intro hv3 (And.intro (show ∀ k, v.ownBlock = some k → ¬ C k from fun k hk hc => by
        have := (hrow.lt k hk).1
        have := (unhide HJ).1.lt _ _ _ (unhide HS2).j k hc
        omega) (show ∀ k, v.ownBlock = some k → W.heap.size ≤ k from fun k hk => Nat.le_trans (unhide HS2).mov.keep.size (hrow.lt k hk).1)))
      have hyl := unhide HY pre r _ C w3 w3 #[v] (unhide HNX).rest hs3.j hs3.mov (Below.refl _ _) ⟨v, A, rfl, (unhide HNX).enc, krow_of_owns hrow (hC_flat_len A), fun b o c e => by
        rcases hrow.2 with ⟨h9, _⟩ | ⟨g, cap, cur, h9, _⟩
        · rw [h9] at e; cases e
        · have := (unhide HV).2.1 g (by rw [h9]; rfl)
          rw [h9] at e
          simp only [Value.slice.injEq, Option.some.injEq, Addr.mk.injEq] at e
          rw [← e.1.1]; exact this, fun y hy => ⟨(hs3.head ⟨((unhide HNX).entA y hy).1, ((unhide HNX).entA y hy).2.1⟩).1, (hs3.head ⟨((unhide HNX).entA y hy).1, ((unhide HNX).entA y hy).2.1⟩).2.1, ((unhide HNX).entA y hy).2.2⟩⟩
      obtain ⟨fn, tmps, assign, body, hy, hRo⟩ := hyl
      have HRO := hide hRo
      have HS3 := hide hs3
      have HROW := hide hrow
      obtain ⟨pv, cv, rfl⟩ := ownsV_shape hrow
      clear hrow hq3 hm3 hv3 hs3 hRo HLS
      gi_wp2_with fail
      refine ⟨(fun h => (by cases h)), (unhide HRO).mono ?_⟩
      rintro e w4 (⟨rfl, C', j4, mv4⟩ | ⟨rfl, C', jx4, mv4⟩)
      case inr =>
        have HE := hide (show ∃ pre x rest C, rowsS (totS S) S = pre ++ x :: rest ∧ Jx (pre ++ [x]) C w4 ∧ Moves C0 C W w4 from ⟨pre, r, _, C', (unhide HNX).rest, jx4, (unhide HS3).mov.trans mv4⟩)
        clear jx4 mv4
        gi_wp2_with fail
        refine bodyPost_ret (results_none rfl _ _ _) rfl ?_
        exact ⟨⟨_, rfl⟩, Or.inr (unhide HE)⟩
      have HS4 := hide ((unhide HS3).yield j4 mv4)
      have HROW4 := hide (owns_keep (unhide HROW) mv4.keep (unhide HV).2.1)
      clear j4 mv4 HRO
      have hAlen : ((A.length : Nat) : Int) ≤ 4611686018427387904 := by have := unhide HSM; have := unhide HLZ; omega
      gi_wp2_with fail
      gi_loopw [20] (fun i wx => ∃ (j : Nat) (F5 : Nat → Prop) (Zc : List Hd), i = .int .i64 (j : Int) ∧ j ≤ A.length ∧ Hid (RS J C0 W q1 (pre ++ [r]) Zc (n + (nextH (A.take j)).length) C' F5 wx ∧ Zc.Perm (nextH (A.take j) ++ B) ∧ wx.ownsRow w2.heap.size 71 2 (.slice pv A.length cv) A.length (A.flatMap hC) ∧ ∀ k, (.slice pv A.length cv : Value).ownBlock = some k → ¬ F5 k)) (fun i _ => A.length - (intOf i).toNat)
      case atStart => exact ⟨0, F3, B, rfl, Nat.zero_le _, unhide HS4, List.Perm.refl _, unhide HROW4, (unhide HV).1⟩
      case round =>
        obtain ⟨j, F5, Zc, rfl, hj, hin⟩ := hrel
        by_cases hlt : j < A.length
        · have hjI : (j : Int) < ((A.length : Nat) : Int) := by omega
          obtain ⟨hs5, hp5, hr5, hv5⟩ := unhide hin
          obtain ⟨g, hpv, r0, r1⟩ : ∃ g, pv = some ⟨g, 0, none⟩ ∧ wr.cell? ⟨g, j * 2, none⟩ = some (.int .i64 A[j].of) ∧ wr.cell? ⟨g, j * 2 + 1, none⟩ = some (.slice A[j].p A[j].n A[j].c) := by
            rcases hr5.2 with ⟨_, h0⟩ | ⟨g, cap, cur, hv, _⟩
            · omega
            · cases hv
              have q0 := hr5.cells (g := g) rfl (j * 2 + 0) (.int .i64 A[j].of) (by rw [flat_get hC_len A j hlt 0 (by omega)]; rfl)
              have q1 := hr5.cells (g := g) rfl (j * 2 + 1) (.slice A[j].p A[j].n A[j].c) (by rw [flat_get hC_len A j hlt 1 (by omega)]; rfl)
              rw [Addr.add_lit] at q0 q1
              exact ⟨g, rfl, by simpa using q0, by simpa using q1⟩
          subst hpv
          have hent := (unhide HNX).entA A[j] (List.getElem_mem hlt)
          have HTN := hide (take_next hlt)
          have hbx : Below wr.heap.size wr ((wr.alloc (.cells #[.int .i64 A[j].of, .slice A[j].p A[j].n A[j].c] 71)).drew) := ((Below.refl _ wr).alloc (Nat.le_refl _) _).drew
          have HS6 := hide (hs5.calm (unhide HJ).1 hbx)
          have HR6 := hide (owns_keep (F := fun _ => False) hr5 (Keep.of_below hbx) (fun _ _ => id))
          have hhd := (unhide HS6).head ⟨hent.1, hent.2.1⟩
          obtain ⟨p6, n6, c6, hcut, hcase⟩ := cut_tail hhd.1
          have hlen6 : (Zc.length + 1) * 40 ≤ 140737488355328 := by
            have h1 := hp5.length_eq
            rw [List.length_append] at h1
            have h2 := nextH_len (A.take j)
            rw [List.length_take] at h2
            have h3 := unhide HSM
            have h4 := unhide HLZ
            omega
          have hcnt6 : n + (nextH (A.take j)).length < 4611686018427387904 := by
            have h2 := nextH_len (A.take j)
            rw [List.length_take] at h2
            have h3 := (unhide HNX).cnt
            have h4 := (unhide HH).2.2.2
            omega
          have HPU := hide (hpush_tl F5 _ q1 _ A[j] Zc p6 n6 c6 (unhide HS6).que hhd.2.2 hent.1.addr hcase hlen6 hcnt6)
          have HP5 := hide (And.intro hp5 hv5)
          have HB6 := hide hbx
          have hjw : IntKind.i64.wrap ((j : Int) + 1) = (j : Int) + 1 := by rw [IntKind.wrap_i64]; omega
          have hcut2 : ∀ W, Sem.run Try.prog (Instr.slice 24 (.slice A[j].p A[j].n A[j].c) (some (.int .i64 1)) none none) W = .ok (.slice p6 n6 c6) W := hcut
          have HLT := hide hlt
          generalize A[j] = a at *
          clear hs5 hp5 hr5 hv5 hent hhd hcase hlen6 hcnt6 hbx hin hcut
          have hnew := World.alloc_heap_new wr (.cells #[.int .i64 a.of, .slice a.p a.n a.c] 71)
          gi_wp2_with fail
          obtain ⟨W2, hW2⟩ : ∃ W2, wr.alloc (.cells #[.int .i64 a.of, .slice a.p a.n a.c] 71) = W2 := ⟨_, rfl⟩
          rw [hW2] at HS6 HR6 HPU HB6 hnew ⊢
          have c0 : W2.cell? ⟨wr.heap.size, 0, none⟩ = some (.int .i64 a.of) := (cell_of_row W2 _ _ _ _ (0, 0) hnew).trans rfl
          have c1 : W2.cell? ⟨wr.heap.size, 1, none⟩ = some (.slice a.p a.n a.c) := (cell_of_row W2 _ _ _ _ (0, 0) hnew).trans rfl
          have c0d : ({ W2 with drawn := W2.drawn + 1 } : World).cell? ⟨wr.heap.size, 0, none⟩ = some (.int .i64 a.of) := (cell_of_row W2 _ _ _ _ (0, 0) hnew).trans rfl
          have c1d : ({ W2 with drawn := W2.drawn + 1 } : World).cell? ⟨wr.heap.size, 1, none⟩ = some (.slice a.p a.n a.c) := (cell_of_row W2 _ _ _ _ (0, 0) hnew).trans rfl
          clear hnew hW2
          refine region_tailO 7 (by kernel_rfl) (by kernel_rfl) ?hlo ?_
          case hlo =>
            rintro ⟨a5, w5, h5⟩
            obtain ⟨⟨v5, h6⟩, _⟩ := (h5 : (∃ v, Ending.outgrown = Ending.returned v) ∧ _)
            cases h6
          simp only [List.take_succ_cons, List.take_zero, List.drop_succ_cons, List.drop_zero]
          repeat still_step
          refine wpStill_nil ?_
          go_wp2_with fail
          refine Calls.mono (unhide HPU) ?_
          rintro e w7 ⟨rfl, F7, Z7, q7, m7, p7⟩
          have HS7 := hide (show RS J C0 W q1 (pre ++ [r]) Z7 (n + (nextH (A.take (j + 1))).length) C' F7 w7 ∧ Z7.Perm (nextH (A.take (j + 1)) ++ B) ∧ w7.ownsRow w2.heap.size 71 2 (.slice (some ⟨g, 0, none⟩) A.length cv) A.length (A.flatMap hC) ∧ ∀ k, (.slice (some ⟨g, 0, none⟩) A.length cv : Value).ownBlock = some k → ¬ F7 k from by
            have e1 := unhide HTN
            have hp7 : Z7.Perm (nextH (A.take (j + 1)) ++ B) := by
              rw [e1]
              refine p7.trans ?_
              refine (((unhide HP5).1).append_left _).trans ?_
              rw [← List.append_assoc]
              exact List.perm_append_comm.append_right B
            have hl7 : (nextH (A.take j)).length + (nextH [a]).length = (nextH (A.take (j + 1))).length := by rw [e1, List.length_append]
            rw [← hl7, ← Nat.add_assoc]
            refine ⟨(unhide HS6).own (unhide HJ).1 q7 m7 (fun y hy => ?_), hp7, owns_keep (unhide HR6) m7.keep (unhide HP5).2, fun k hk hf => ?_⟩
            · have hsub : ∀ y ∈ nextH (A.take (j + 1)) ++ B, y ∈ nextH A ++ B := fun y hy => by
                rcases List.mem_append.1 hy with hy | hy
                · refine List.mem_append.2 (Or.inl ?_)
                  obtain ⟨h1, h2⟩ := List.mem_filter.1 hy
                  obtain ⟨b, hb, rfl⟩ := List.mem_map.1 h1
                  exact List.mem_filter.2 ⟨List.mem_map_of_mem (List.mem_of_mem_take hb), h2⟩
                · exact List.mem_append.2 (Or.inr hy)
              exact ent_next (unhide HNX).entA (unhide HNX).entB y (hsub y (hp7.mem_iff.1 hy))
            · rcases m7.sub k hf with h1 | h1
              · exact (unhide HP5).2 k hk h1
              · have h2 := ((unhide HR6).lt k hk).2; omega)
          clear q7 m7 p7
          go_wp2_with fail
          gi_wp2_with fail
          refine ⟨⟨j + 1, F7, Z7, by go_num, unhide HLT, HS7⟩, ?_⟩
          have := unhide HLT
          simp [intOf]
          omega
        · have hje : ¬ (j : Int) < ((A.length : Nat) : Int) := by omega
          have hjl : j = A.length := by omega
          have HIN := hin
          rw [hjl, List.take_of_length_le (Nat.le_refl _)] at HIN
          have HEND := hide (show (∃ pre S' k Z n C F, RI J C0 W q1 M (rowsS (totS S) S) pre S' k Z n C F wr) ∧ (M - pshQ q1 wr) + cntQ q1 wr < (M - n) + (z :: Z).length from by
            obtain ⟨hs5, hp5, _, _⟩ := unhide HIN
            have e1 := (unhide HNX).cnt
            have e2 := nextH_len A
            have e3 := (unhide HNX).pos
            have e4 := hp5.length_eq
            have e5 := unhide HLZ
            rw [List.length_append] at e4
            refine ⟨⟨pre ++ [r], S2, m2, Zc, _, C', F5, hs5, (unhide HNX).hs.perm hp5, (unhide HNX).se, by rw [(unhide HNX).rest]; simp, (unhide HNX).fuel, by omega⟩, ?_⟩
            rw [hs5.que.cnt, hs5.que.psh]
            omega)
          clear hin HIN hlt
          gi_wp2_with fail
          refine ⟨(unhide HEND).1, ?_⟩
          rw [unhide HMS]
          exact (unhide HEND).2
end Go.Proofs.Ytcjepiihknjeiaa.QH

/- Package merge as landed: rows of no heads; rows; what the sequence of All tells. -/
namespace Go.Proofs.Ytcjepiihknjeiaa.QH
open Go.RowKit Go.Shelf
attribute [local go_sem] Oper.semAt_some

set_option maxRecDepth 20000 in
theorem qfork_nil (w : World) : Calls Try.prog 41 #[.pointer none] w fun e w' => e = .returned (.pointer none) ∧ w' = w := by
  go_enter Try.func41, Try.ntmps41
  go_wp2_with fail
  go_ret
  exact ⟨rfl, rfl⟩
set_option maxRecDepth 20000 in
theorem qlen_nil (w : World) : Calls Try.prog 42 #[.pointer none] w fun e w' => e = .returned (.int .i64 0) ∧ w' = w := by
  go_enter Try.func42, Try.ntmps42
  go_wp2_with fail
  go_ret
  exact ⟨rfl, rfl⟩
set_option maxRecDepth 20000 in
set_option maxHeartbeats 2000000 in
theorem rows_nil (Bn : Nat) : SeqH 40 #[.pointer (some ⟨Bn, 0, none⟩)] encR [] (fun k => k = Bn ∨ False) (fun W => W.cell? ⟨Bn, 0, none⟩ = some (.pointer none) ∧ True) := by
  intro J Jx l m C0 W hJ hJx hY h0 hD hF
  obtain ⟨hB, _⟩ := hD
  refine callsIn_of_wp Try.func40 rfl trivial ?_ rfl
  simp only [Try.ntmps40, List.size_toArray, List.length_cons, List.length_nil, Nat.reduceAdd, Nat.reduceSub, Array.replicate_succ, Array.replicate_zero, List.push_toArray, List.append_toArray, List.nil_append, List.cons_append]
  have H0 := hide h0
  have HF := hide (fun w => qfork_nil w)
  have HL := hide (fun w => qlen_nil w)
  clear hJ hJx hY h0 hF
  gi_wp2_with fail
  refine ⟨trivial, (fun h => (by cases h)), (callsIn_wide.2 (unhide HF _)).mono ?_⟩
  rintro e w1 ⟨rfl, rfl⟩
  gi_wp2_with fail
  gi_loopw [4] (fun _ wr => wr = w1) (fun _ _ => 0)
  case atStart => rfl
  case round =>
    subst hrel
    gi_wp2_with fail
    refine ⟨trivial, (fun h => (by cases h)), (callsIn_wide.2 (unhide HL _)).mono ?_⟩
    rintro e w2 ⟨rfl, rfl⟩
    gi_wp2_with fail
    go_end0
    exact ⟨⟨_, rfl⟩, Or.inl ⟨C0, unhide H0, Moves.refl _ _⟩⟩
set_option maxRecDepth 20000 in
theorem rows_any (w : World) (p : Option Addr) : Calls Try.prog 32 #[.pointer p] w fun e w' => e = .returned (.func (.func 40) #[] #[.pointer (some ⟨w.heap.size, 0, none⟩)]) ∧ w' = w.alloc (.cells #[.pointer p] 62) := by
  have hmf : ∀ (fn : Fn) (first cap : Array Value) (w : World), (Instr.makeFunc fn first cap).run Try.prog w = .ok (.func fn first cap) w := fun _ _ _ _ => rfl
  go_enter Try.func32, Try.ntmps32
  go_wp2_with fail
  go_ret
  exact ⟨rfl, rfl⟩
/-- What a caller has between two rounds of the range within. -/
def MaJ (J : List En → (Nat → Prop) → World → Prop) (C0 : Nat → Prop) (W : World) (pre : List (List (Nat × En))) (C : Nat → Prop) (W' : World) : Prop := J (pre.map firstR) C W' ∧ Moves C0 C W W'
theorem MaJ.ok {J : List En → (Nat → Prop) → World → Prop} {C0 : Nat → Prop} {W : World} {b : Nat} (h : SOk W.heap.size J) (hb : W.heap.size ≤ b) : SOk b (MaJ J C0 W) :=
  ⟨fun _ C X X' G ⟨h1, h2⟩ hk hn hg => ⟨(h.from hb).stays _ C X X' G h1 hk hn hg, h2.keep.trans hk (fun k hk => Or.inr (Nat.le_trans hb (hg k hk))), h2.sub⟩, fun _ C X ⟨h1, _⟩ => h.lt _ C X h1⟩
theorem MaJ.okx {J : List En → (Nat → Prop) → World → Prop} {C0 : Nat → Prop} {W : World} {b : Nat} {c : Code} (h : SOk W.heap.size J) (hb : W.heap.size ≤ b) : SOk b (fun pre C X => c = .ret ∧ MaJ J C0 W pre C X) :=
  ⟨fun pre C X X' G ⟨h0, h1⟩ hk hn hg => ⟨h0, (MaJ.ok h hb).stays pre C X X' G h1 hk hn hg⟩, fun pre C X ⟨_, h1⟩ => (MaJ.ok (C0 := C0) h hb).lt pre C X h1⟩
/-- A row that has come, read by whoever has it. -/
def RowAt (v : Value) (hs : List Hd) (C : Nat → Prop) (X : World) : Prop := KRow 2 X v hs.length (hs.flatMap hC) ∧ (∀ y ∈ hs, HdE X y) ∧ (∀ b o c, v = .slice (some ⟨b, o, none⟩) hs.length c → ¬ C b) ∧ ∀ y ∈ hs, ∀ k, y.blk k → ¬ C k
theorem RowAt.keep {v : Value} {hs : List Hd} {C G : Nat → Prop} {X Y : World} (h : RowAt v hs C X) (hk : Keep G X Y) (hg : ∀ k, G k → C k) : RowAt v hs C Y :=
  ⟨h.1.keep hk fun b o c e _ hb => h.2.2.1 b o c e (hg b hb), fun y hy => (h.2.1 y hy).keep hk fun k hk2 hg2 => h.2.2.2 y hy k hk2 (hg k hg2), h.2.2⟩
theorem RowAt.below {v : Value} {hs : List Hd} {C : Nat → Prop} {X Y : World} (h : RowAt v hs C X) (hb : Below X.heap.size X Y) : RowAt v hs C Y := h.keep (G := fun _ => False) (Keep.of_below hb) (fun _ h => h.elim)
def encE (_ : Nat → Prop) (_ : World) (x : En) (vs : Array Value) (_ : World) : Prop := vs = #[eV x]

set_option maxRecDepth 20000 in
set_option maxHeartbeats 4000000 in
theorem mall_seq (Hn : Nat) (p : Option Addr) (R : List (List (Nat × En))) (Fe : Nat → Prop) (De : World → Prop)
    (hrows : ∀ Bn, SeqH 40 #[.pointer (some ⟨Bn, 0, none⟩)] encR R (fun k => k = Bn ∨ Fe k) (fun W => W.cell? ⟨Bn, 0, none⟩ = some (.pointer p) ∧ De W)) (hDe : ∀ W W', De W → Below W.heap.size W W' → De W') (hne : ∀ r ∈ R, r ≠ []) :
    SeqH 34 #[.pointer (some ⟨Hn, 0, none⟩)] encE (R.map firstR) (fun k => k = Hn ∨ Fe k) (fun W => W.cell? ⟨Hn, 0, none⟩ = some (.pointer p) ∧ De W) := by
  intro J Jx l m C0 W hJ hJx hY h0 hD hF
  obtain ⟨hB, hDW⟩ := hD
  refine callsIn_of_wp_marks Try.func34 rfl trivial ?_ rfl
  simp only [Try.ntmps34, List.size_toArray, List.length_cons, List.length_nil, Nat.reduceAdd, Nat.reduceSub, Array.replicate_succ, Array.replicate_zero, List.push_toArray, List.append_toArray, List.nil_append, List.cons_append]
  have HY := hide hY
  have HF := hide hF
  have HJ := hide (And.intro hJ hJx)
  have H0 := hide h0
  have HDE := hide (And.intro hDe (And.intro hDW hne))
  have HR := hide hrows
  have HRA := hide (fun w => rows_any w p)
  have hbY : Below W.heap.size W (W.alloc (.cells #[.func (.yield l) #[] #[]] 73)) := (Below.refl _ W).alloc (Nat.le_refl _) _
  have hB0 := (hbY.cell (p := ⟨Hn, 0, none⟩) (unhide HF Hn (Or.inl rfl)).2).trans hB
  have HBY := hide hbY
  clear hY hF hJ hJx h0 hDe hDW hne hrows hbY
  gi_wp2_with fail
  refine ⟨trivial, (fun h => (by cases h)), (callsIn_wide.2 (unhide HRA _)).mono ?_⟩
  rintro e w1 ⟨rfl, rfl⟩
  gi_wp2_with fail
  have hbW : Below W.heap.size W ((W.alloc (.cells #[.func (.yield l) #[] #[]] 73)).alloc (.cells #[.pointer p] 62)) := ((Below.refl _ W).alloc (Nat.le_refl _) _).alloc (by simp) _
  have HBW := hide hbW
  have HYN : Hid (((W.alloc (.cells #[.func (.yield l) #[] #[]] 73)).alloc (.cells #[.pointer p] 62)).heap[W.heap.size]? = some (.cells #[.func (.yield l) #[] #[]] 73 (0, 0)) ∧ ((W.alloc (.cells #[.func (.yield l) #[] #[]] 73)).alloc (.cells #[.pointer p] 62)).heap[W.heap.size + 1]? = some (.cells #[.pointer p] 62 (0, 0))) := hide ⟨(Below.heap_alloc _ _ _ (by simp)).trans (World.alloc_heap_new W _), by
    have := World.alloc_heap_new (W.alloc (.cells #[.func (.yield l) #[] #[]] 73)) (.cells #[.pointer p] 62); rwa [World.size_alloc] at this⟩
  have hsz : ((W.alloc (.cells #[.func (.yield l) #[] #[]] 73)).alloc (.cells #[.pointer p] 62)).heap.size = W.heap.size + 2 := by simp
  have HSZ := hide hsz
  generalize (W.alloc (.cells #[.func (.yield l) #[] #[]] 73)).alloc (.cells #[.pointer p] 62) = W1 at *
  clear hbW hsz hB0 hB
  refine wpIn_seqHR (C0 := C0) (unhide HR (W.heap.size + 1)) rfl (fun _ _ => by kernel_rfl) (fun _ _ _ _ _ h => by obtain ⟨v, hs, e, _⟩ := h; rw [e]; rfl)
    (MaJ J C0 W) (fun c pre C W' => c = .ret ∧ MaJ Jx C0 W pre C W') (MaJ.ok (unhide HJ).1 (unhide HBW).size) (fun c => MaJ.okx (unhide HJ).2 (unhide HBW).size) ⟨(unhide HJ).1.below (unhide H0) (unhide HBW), Moves.of_below (unhide HBW)⟩ ?data ?apart ?round ?done ?stop
  case data =>
    intro X hb
    have h2 := (unhide HYN).2
    have l2 := (Array.getElem?_eq_some_iff.1 h2).1
    have c1 : W1.cell? ⟨W.heap.size + 1, 0, none⟩ = some (.pointer p) := by rw [cell_of_row W1 _ _ _ _ (0, 0) h2]; rfl
    exact ⟨(hb.cell (p := ⟨W.heap.size + 1, 0, none⟩) l2).trans c1, (unhide HDE).1 _ _ ((unhide HDE).1 _ _ (unhide HDE).2.1 (unhide HBW)) hb⟩
  case apart =>
    intro k hk
    have hlt : ∀ k, C0 k → k < W.heap.size := fun k hk => (unhide HJ).1.lt _ _ _ (unhide H0) k hk
    have hs := unhide HSZ
    rcases hk with rfl | hk
    · exact ⟨fun hc => by have := hlt _ hc; omega, by omega⟩
    · obtain ⟨h1, h2⟩ := unhide HF k (Or.inr hk)
      exact ⟨h1, by omega⟩
  case round =>
    rintro l2 pre r rest C W3 WB vs hZ ⟨hj3, hm3⟩ hm _ hbB ⟨v, hs, rfl, hr, hrow, hvC, hhs⟩
    have hs2 := unhide HSZ
    have hrowat : RowAt v hs (fun k => C k ∨ k = W1.heap.size ∨ k = W1.heap.size + 1) WB := ⟨hrow, fun y hy => (hhs y hy).1, hvC, fun y hy => (hhs y hy).2.1⟩
    have hj4 : MaJ J C0 W pre C WB := ⟨(unhide HJ).1.below hj3 hbB, hm3.trans (Moves.of_below hbB)⟩
    have HJ4 := hide (And.intro hj4 hrowat)
    have HZ := hide hZ
    have HRR := hide hr
    have HMB := hide (Moves.of_below (F := C) hbB)
    clear hZ hj3 hm3 hm hbB hr hrow hvC hhs hj4 hrowat
    gi_wp2
    refine ⟨fun C' X => MaJ J C0 W pre C' X ∧ RowAt v hs (fun k => C k ∨ k = W1.heap.size ∨ k = W1.heap.size + 1) X, C, ?put, unhide HJ4, unhide HMB, fun W4 hi4 hm4 => ?_⟩
    case put =>
      rintro hn X o ⟨h1, h2⟩
      refine ⟨(MaJ.ok (unhide HJ).1 (unhide HBW).size).stays _ _ _ _ _ h1 (keep_put X (W1.heap.size + 1) o) (fun k hc e => hn (e ▸ hc)) (fun k e => by omega), h2.keep (keep_put X (W1.heap.size + 1) o) (fun k e => Or.inr (Or.inr e))⟩
    have hmx : Try.prog.follows .mixedOrders = true := by kernel_rfl
    have hrne : r ≠ [] := (unhide HDE).2.2 r (by rw [unhide HZ]; simp)
    obtain ⟨hj4, hro4⟩ := hi4
    cases hs with
    | nil => exact absurd (unhide HRR).symm hrne
    | cons y t =>
      have hfst : firstR r = y.fst := by rw [← unhide HRR]; rfl
      obtain ⟨g, o, c, hv, hc1, hc2, hcl⟩ := KRow.open hro4.1 (by simp)
      have r0 : W4.cell? ⟨g, o, none⟩ = some (.int .i64 y.of) := by have := hcl 0 (.int .i64 y.of) rfl; simpa using this
      have r1 : W4.cell? ⟨g, o + 1, none⟩ = some (.slice y.p y.n y.c) := hcl 1 (.slice y.p y.n y.c) rfl
      obtain ⟨hy1, _⟩ := unhide HYN
      have hC0 : ∀ k, C0 k → k < W.heap.size := fun k hk => (unhide HJ).1.lt _ _ _ (unhide H0) k hk
      have hyb4 := (hm4.keep.block W.heap.size (by omega) (fun hc => by have := hC0 _ hc; omega)).trans hy1
      have hcY : W4.cell? ⟨W.heap.size, 0, none⟩ = some (.func (.yield l) #[] #[]) := by rw [cell_of_row W4 _ _ _ _ (0, 0) hyb4]; rfl
      have HI0 : Hid (∀ X, Below W4.heap.size W4 X → X.cell? ⟨g, o, none⟩ = some (.int .i64 y.of) ∧ X.cell? ⟨g, o + 1, none⟩ = some (.slice y.p y.n y.c) ∧ X.cell? ⟨W.heap.size, 0, none⟩ = some (.func (.yield l) #[] #[])) := fun X hb =>
        ⟨(hb.cell (World.block_lt_of_cell? _ _ r0)).trans r0, (hb.cell (World.block_lt_of_cell? _ _ r1)).trans r1, (hb.cell (World.block_lt_of_cell? _ _ hcY)).trans hcY⟩
      have HYE := hide ((hro4.2.1 y (by simp)).below ((Below.refl W4.heap.size W4).drew))
      have HI4 := hide hj4
      have HFST := hide hfst
      have hlen : 0 < (y :: t).length := Nat.succ_pos _
      obtain ⟨N, hN⟩ : ∃ N, (y :: t).length = N := ⟨_, rfl⟩
      rw [hN] at hv hlen
      subst hv
      clear hN hj4 hro4 hm4 hrne hfst hc1 hc2 hcl r0 r1 hy1 hC0 hyb4 hcY hs2 HJ4
      gi_wp2_with fail
      refine region_actW 4 _ (fun X => X = W4.drew) (fun v X => v = eV y.fst ∧ Below W4.drew.heap.size W4.drew X)
        (fun C => ∀ X, C X → X.cell? ⟨g, o, none⟩ = some (.int .i64 y.of) ∧ X.cell? ⟨g, o + 1, none⟩ = some (.slice y.p y.n y.c) ∧ X.cell? ⟨W.heap.size, 0, none⟩ = some (.func (.yield l) #[] #[])) hmx (by kernel_rfl) rfl rfl (by kernel_rfl) (by simp) ?hlo ?i0 ?i1 rfl ?_
      case hlo => rintro ⟨a5, w5, h5⟩; exact h5
      case i0 => rintro X rfl; exact unhide HI0 _ ((Below.refl _ W4).drew)
      case i1 => rintro v X ⟨rfl, hb⟩; exact unhide HI0 _ (((Below.refl _ W4).drew).trans hb)
      apply Exists.intro
      refine ⟨fun C hC => ?_, fun X hX => ?_, fun v X hX => ?_⟩
      · simp only [List.take_succ_cons, List.take_zero]
        repeat (first
          | go_big_quiet_skip
          | (go_big_quiet_want
             apply Exists.intro
             refine ⟨fun w' hw' => ?_, ?_⟩
             · obtain ⟨z0, z1, z2⟩ := hC w' hw'
               go_simp
               first | done | rfl
             simp only [Act.put, List.setIfInBounds_toArray, List.set_cons_zero, List.set_cons_succ]
             go_big_quiet_on))
        refine wpQuiet_nil ?_
        rfl
      · subst hX
        go_simp
        refine Calls.mono (hentry_any W4.drew y (unhide HYE)) ?_
        rintro e X ⟨rfl, b2⟩
        exact ⟨_, rfl, rfl, b2⟩
      · obtain ⟨rfl, b2⟩ := hX
        have hbX := ((Below.refl _ W4).drew).trans b2
        obtain ⟨fn, tmps, assign, body, hy, hRo⟩ := unhide HY (pre.map firstR) (firstR r) (rest.map firstR) C W4 X #[eV y.fst] (by rw [unhide HZ]; simp) (unhide HI4).1 (unhide HI4).2 hbX (by rw [unhide HFST]; rfl)
        have HRO := hide (roundIn_wide (n' := m - 1 - 1 - 1) (l' := l2) hRo)
        have HBX := hide hbX
        clear hRo b2 hbX
        simp only [List.drop_succ_cons, List.drop_zero, Act.put, List.setIfInBounds_toArray, List.set_cons_zero, List.set_cons_succ]
        gi_wp2_with fail
        refine ⟨(fun h => (by cases h)), (unhide HRO).mono ?_⟩
        have HMAP : Hid (∀ xs : List (List (Nat × En)), (xs ++ [r]).map firstR = xs.map firstR ++ [firstR r]) := fun xs => by simp
        rintro e w2 (⟨rfl, C', j2, mv2⟩ | ⟨rfl, C', jx2, mv2⟩)
        · have HE := hide (And.intro j2 mv2)
          clear j2 mv2
          gi_wp2_with fail
          exact ⟨C', ⟨by rw [unhide HMAP]; exact (unhide HE).1, (unhide HI4).2.trans (unhide HE).2⟩, (unhide HE).2⟩
        · have HE := hide (And.intro jx2 mv2)
          clear jx2 mv2
          gi_wp2_with fail
          exact ⟨C', ⟨rfl, by rw [unhide HMAP]; exact (unhide HE).1, (unhide HI4).2.trans (unhide HE).2⟩, (unhide HE).2⟩
  case done =>
    rintro dd C W5 hdd ⟨hj, hm5⟩ hm hnc hK
    have HE := hide (And.intro hj hm5)
    have HK := hide hK
    have HNC := hide hnc
    have HD := hide (Nat.le_trans (unhide HBW).size hdd)
    clear hj hm5 hm hnc hK
    gi_wp2_with fail
    refine ⟨by simp, .inl ⟨_, _, rfl, run_takeDeferred (unhide HK), ?_⟩⟩
    refine ⟨_, results_none rfl _ _ _, ⟨_, rfl⟩, Or.inl ⟨C, ?_, ?_⟩⟩
    · exact (unhide HJ).1.stays _ _ _ _ _ (unhide HE).1 (keep_put W5 dd _) (fun k hc e => unhide HNC (e ▸ hc)) (fun k e => by have := unhide HD; omega)
    · exact ⟨(unhide HE).2.keep.trans (keep_put W5 dd _) (fun k e => Or.inr (by have := unhide HD; omega)), (unhide HE).2.sub⟩
  case stop =>
    rintro dd c pre x rest C W5 hdd hZ ⟨rfl, hj, hm5⟩ hm hnc hK
    have HE := hide (And.intro hj hm5)
    have HK := hide hK
    have HNC := hide hnc
    have HZ := hide (show R.map firstR = pre.map firstR ++ firstR x :: rest.map firstR by rw [hZ]; simp)
    have HD := hide (Nat.le_trans (unhide HBW).size hdd)
    have HMAP : Hid (∀ xs : List (List (Nat × En)), (xs ++ [x]).map firstR = xs.map firstR ++ [firstR x]) := fun xs => by simp
    clear hj hm5 hm hnc hK hZ
    gi_wp2_with fail
    refine ⟨by simp, .inl ⟨_, _, rfl, run_takeDeferred (unhide HK), ?_⟩⟩
    refine ⟨_, results_none rfl _ _ _, ⟨_, rfl⟩, Or.inr ⟨pre.map firstR, firstR x, rest.map firstR, C, unhide HZ, ?_, ?_⟩⟩
    · exact (unhide HJ).2.stays _ _ _ _ _ (by rw [← unhide HMAP]; exact (unhide HE).1) (keep_put W5 dd _) (fun k hc e => unhide HNC (e ▸ hc)) (fun k e => by have := unhide HD; omega)
    · exact ⟨(unhide HE).2.keep.trans (keep_put W5 dd _) (fun k e => Or.inr (by have := unhide HD; omega)), (unhide HE).2.sub⟩
end Go.Proofs.Ytcjepiihknjeiaa.QH

/- Package merge as landed: begin. -/
namespace Go.Proofs.Ytcjepiihknjeiaa.QH
open Go.RowKit

theorem empty_en (w : World) (e size : Nat) : (w.alloc (.cells #[] e)).ownsRow w.heap.size e size (.slice (some ⟨w.heap.size, 0, none⟩) 0 0) 0 [] :=
  ⟨by simp, Or.inr ⟨w.heap.size, 0, #[], rfl, Nat.le_refl _, heap_alloc_new _ _, Nat.le_refl _, Nat.zero_le _, by simp, by simp⟩⟩
set_option maxRecDepth 20000 in
set_option maxHeartbeats 2000000 in
theorem eclone_any (v : Value) (L : List En) (w : World) (h : ER w v L) (hroom : L.length * 40 ≤ 140737488355328) :
    Calls Try.prog 39 #[v] w fun e w' => ∃ p c, e = .returned (.slice p L.length c) ∧ w'.ownsRow w.heap.size 37 4 (.slice p L.length c) L.length (L.flatMap eC) ∧ Below w.heap.size w w' := by
  obtain ⟨is, his, hs0, hs1, hs2⟩ := info_parts Try.infoEnt
  obtain ⟨p, cap, rfl, k1, k2, k3⟩ := h.shape
  cases p with
  | none =>
    have hc := k3 rfl
    have hL : L = [] := List.eq_nil_of_length_eq_zero (by omega)
    subst hL
    subst hc
    have he : ∀ W : World, (binOp .eql 24 (.slice none 0 0) (.slice none 0 0)).run Try.prog W = .ok (.bool true) W := fun W => by rfl
    simp only [List.length_nil]
    go_enter Try.func39, Try.ntmps39
    go_wp2
    go_ret
    exact ⟨none, 0, rfl, World.ownsRow_nil _ _ _ _, Below.refl _ _⟩
  | some ad =>
    have he : ∀ W : World, (binOp .eql 24 (.slice (some ad) L.length cap) (.slice none 0 0)).run Try.prog W = .ok (.bool false) W := fun W => by rfl
    have HN : Hid (∀ j u, (L.flatMap eC)[j]? = some u → (w.alloc (.cells #[] 37)).cell? (ad.add j) = some u) := fun j u hu => by
      have hj := (List.getElem?_eq_some_iff.1 hu).1
      rw [eC_flat_len] at hj
      obtain ⟨b, off, cap', e, _, _, hc⟩ := KRow.open h (by omega)
      simp only [Value.slice.injEq, Option.some.injEq] at e
      rw [e.1, Addr.add_lit]
      have := hc j u hu
      exact (World.cell?_of_block (w := w) (Below.heap_alloc _ _ _ (World.block_lt_of_cell? w _ this))).trans this
    have HO := hide (empty_en w 37 4)
    have HS1 : Hid (0 + L.length ≤ maxLen) := by unfold Hid maxLen; omega
    have HS2 : Hid ((0 + L.length) * 40 ≤ 140737488355328) := by unfold Hid; omega
    have HL := hide (eC_flat_len L)
    clear h hroom k1 k2 k3
    go_enter Try.func39, Try.ntmps39
    go_wp2_with (first
      | (with_reducible show wpList _ _ _ (Oper.mk _ (Op.call _) _ _ _ _ :: _) _ _; refine wpList_append_gen rfl _ _ 24 rfl w.heap.size 37 is (.agg #[.string ⟨#[]⟩, .int .u64 0, .int .i64 0, .int .i64 0]) Try.underlying24 his hs0 4 40 (by omega) hs1 hs2 rfl (.slice (some ⟨w.heap.size, 0, none⟩) 0 0) 0 [] rfl (unhide HO) ad L.length cap (L.flatMap eC) rfl (unhide HL) (unhide HN) (eC_all L) (unhide HS1) (unhide HS2) (by simp) ?_))
    intro v' w' hown hgrow hob
    have HB := hide (((Below.refl w.heap.size w).alloc (Nat.le_refl _) (.cells #[] 37)).grown hgrow (by simp) (fun k hk => by cases hk; exact Nat.le_refl _))
    have HOW := hide hown
    have hsh : ∃ p c, v' = .slice p L.length c := by
      rcases hown.2 with ⟨h', h0⟩ | ⟨g', cap', cur, h', _⟩
      · exact ⟨none, 0, by rw [h', h0]⟩
      · exact ⟨_, _, h'⟩
    obtain ⟨p, c, rfl⟩ := hsh
    clear hown hgrow hob
    go_wp2
    go_ret
    exact ⟨p, c, rfl, unhide HOW, unhide HB⟩
/-- The heads of no list yet. -/
theorem Hs.empty (LL : List (List En)) : Hs [] (LL.take 0) := ⟨by simp, fun x hx => (by cases hx), fun i l h => by simp at h⟩
theorem Hs.skip {Z : List Hd} {LL : List (List En)} {k : Nat} (h : Hs Z (LL.take k)) (hk : k < LL.length) (he : LL[k] = []) : Hs Z (LL.take (k + 1)) := by
  refine ⟨h.nodup, fun x hx => ?_, fun i l h1 h2 => ?_⟩
  · obtain ⟨i, e1, e2, e3⟩ := h.mem x hx
    refine ⟨i, e1, ?_, e3⟩
    rw [List.getElem?_take] at e2 ⊢
    split at e2
    · rw [if_pos (by omega)]; exact e2
    · cases e2
  · rw [List.getElem?_take] at h1
    split at h1
    · rename_i hi
      by_cases e : i = k
      · subst e
        rw [List.getElem?_eq_getElem hk, he] at h1
        exact absurd (Option.some.inj h1).symm h2
      · exact h.all i l (by rw [List.getElem?_take, if_pos (by omega)]; exact h1) h2
    · cases h1
theorem Hs.add {Z : List Hd} {LL : List (List En)} {k : Nat} (h : Hs Z (LL.take k)) (hk : k < LL.length) {x : Hd} (ho : x.of = (k : Int)) (he : x.es = LL[k]) (hn : x.es ≠ []) : Hs (x :: Z) (LL.take (k + 1)) := by
  refine ⟨?_, fun y hy => ?_, fun i l h1 h2 => ?_⟩
  · rw [List.map_cons, List.nodup_cons]
    refine ⟨fun hm => ?_, h.nodup⟩
    obtain ⟨y, hy, e⟩ := List.mem_map.1 hm
    obtain ⟨i, e1, e2, e3⟩ := h.mem y hy
    rw [List.getElem?_take] at e2
    split at e2
    · omega
    · cases e2
  · rcases List.mem_cons.1 hy with rfl | hy
    · exact ⟨k, ho, by rw [List.getElem?_take, if_pos (by omega), List.getElem?_eq_getElem hk, he], hn⟩
    · obtain ⟨i, e1, e2, e3⟩ := h.mem y hy
      refine ⟨i, e1, ?_, e3⟩
      rw [List.getElem?_take] at e2 ⊢
      split at e2
      · rw [if_pos (by omega)]; exact e2
      · cases e2
  · rw [List.getElem?_take] at h1
    split at h1
    · by_cases e : i = k
      · exact ⟨x, by simp, by rw [ho, e]⟩
      · obtain ⟨y, hy, e2⟩ := h.all i l (by rw [List.getElem?_take, if_pos (by omega)]; exact h1) h2
        exact ⟨y, List.mem_cons_of_mem _ hy, e2⟩
    · cases h1

/-- What begin answers. -/
def BegD (LL : List (List En)) (b : Nat) (e : Ending) (w' : World) : Prop :=
  if (mrgR LL).2 = 0 then ∃ q Fq Z n, e = .returned (.tuple #[.pointer (some ⟨q, 0, none⟩), .int .i64 0]) ∧ QA Fq w' q Z n ∧ Hs Z LL ∧ n ≤ 16 ∧ (∀ k, Fq k → b ≤ k) ∧ ∀ x ∈ Z, ∀ k, x.blk k → b ≤ k
  else e = .returned (.tuple #[.pointer none, .int .i64 (mrgR LL).2])

/-- The heads of the first k lists. -/
structure BI (LL : List (List En)) (w : World) (k : Nat) (F : Nat → Prop) (Z : List Hd) (n : Nat) (wr : World) : Prop where
  que : QA F wr w.heap.size Z n
  hs : Hs Z (LL.take k)
  cnt : n ≤ k
  len : Z.length ≤ k
  new : ∀ j, F j → w.heap.size ≤ j
  ent : ∀ x ∈ Z, ∀ j, x.blk j → w.heap.size ≤ j
  low : Below w.heap.size w wr
theorem BI.calm {LL : List (List En)} {w wr w' : World} {k n : Nat} {F : Nat → Prop} {Z : List Hd} (h : BI LL w k F Z n wr) (hb : Below wr.heap.size wr w') : BI LL w k F Z n w' :=
  ⟨h.que.below hb, h.hs, h.cnt, h.len, h.new, h.ent, h.low.trans (hb.mono h.low.size)⟩

set_option maxRecDepth 20000 in
set_option maxHeartbeats 4000000 in
theorem begin_any (v : Value) (LL : List (List En)) (w : World) (h : LR w v LL) (hl : ∀ l ∈ LL, l.length * 40 ≤ 140737488355328) :
    Calls Try.prog 30 #[v] w fun r w' => BegD LL w.heap.size r w' ∧ Below w.heap.size w w' := by
  have HH := hide h
  have HL := hide hl
  obtain ⟨vs, h1, h2, _⟩ := h
  obtain ⟨p, c, rfl, _⟩ := h2.shape
  rw [h1] at HH ⊢
  clear h2 h1 hl
  by_cases hq : 16 < (LL.length : Int)
  · have HR : Hid (mrgR LL = ([], 4)) := if_pos (by omega)
    go_enter Try.func30, Try.ntmps30
    go_wp2_with fail
    go_ret2
    unfold BegD
    rw [unhide HR]
    exact ⟨rfl, Below.refl _ _⟩
  · have hqn : ¬ 16 < LL.length := by omega
    have HRN : Hid (mrgR LL = if LL.all rightE = true then (mrgE LL, 0) else ([], 11)) := if_neg hqn
    have HQ := hide hqn
    have HNW := hide (qnew_any ltH (.func (.func 37) #[] #[]) lessH w)
    clear hqn
    go_enter Try.func30, Try.ntmps30
    go_wp2_with fail
    refine Calls.mono (unhide HNW) ?_
    rintro e w1 ⟨rfl, q1, b1⟩
    have H1 := hide (And.intro q1 b1)
    clear q1 b1 HNW
    go_wp2_with fail
    go_loopw [14] (fun iv wr => ∃ (k : Nat) (F : Nat → Prop) (Z : List Hd) (n : Nat), iv = .int .i64 (k : Int) ∧ k ≤ LL.length ∧ Hid ((LL.take k).all rightE = true) ∧ BI LL w k F Z n wr) (fun iv _ => LL.length - (intOf iv).toNat)
    case atStart => exact ⟨0, _, [], 0, rfl, Nat.zero_le _, by simp [Hid], ⟨(unhide H1).1, Hs.empty LL, Nat.le_refl _, Nat.le_refl _, fun j e => Nat.le_of_eq e.symm, fun x hx => (by cases hx), (unhide H1).2⟩⟩
    case round =>
      obtain ⟨k, F, Z, n, rfl, hk, hall, hbi⟩ := hrel
      by_cases hlt : k < LL.length
      · have hkI : (k : Int) < (LL.length : Int) := by omega
        obtain ⟨b, off, s, rfl, hc, her⟩ := ((unhide HH).below hbi.low).at k hlt
        have HT := hide (show (LL.take (k + 1)).all rightE = rightE LL[k] by rw [List.take_succ_eq_append_getElem hlt, List.all_append, hall.out]; simp)
        have HAF := hide (show rightE LL[k] = false → mrgR LL = ([], 11) by
          intro h
          rw [unhide HRN, if_neg (by intro hh; have := List.all_eq_true.1 hh LL[k] (List.getElem_mem hlt); rw [this] at h; cases h)])
        have hll := unhide HL _ (List.getElem_mem hlt)
        have HCH := hide (mcheck_any s LL[k] wr her (by omega))
        have HCL := hide (fun W (hb : Below wr.heap.size wr W) => eclone_any s LL[k] W (her.below hb) hll)
        have hknw : IntKind.i64.wrap ((k : Int) + 1) = (k : Int) + 1 := by have := unhide HQ; rw [IntKind.wrap_i64]; omega
        have HBI := hide hbi
        have HK := hide hlt
        obtain ⟨ps, pn, pc, rfl⟩ : ∃ ps pn pc, s = .slice ps pn pc := by obtain ⟨q1, q2, e, _⟩ := her.shape; exact ⟨_, _, _, e⟩
        have HSK := hide (fun (Z : List Hd) (h : Hs Z (LL.take k)) (e : LL[k] = []) => h.skip hlt e)
        have HAD := hide (fun (Z : List Hd) (h : Hs Z (LL.take k)) (x : Hd) (e1 : x.of = (k : Int)) (e2 : x.es = LL[k]) (e3 : x.es ≠ []) => h.add hlt (x := x) e1 e2 e3)
        generalize LL[k] = l at *
        obtain ⟨R, hR⟩ : ∃ R : Int, R = if rightE l = true then 0 else 11 := ⟨_, rfl⟩
        rw [← hR] at HCH
        have HRR := hide hR
        clear hlt hk hall hbi her hll hR
        go_wp2_with fail
        refine Calls.mono (unhide HCH) ?_
        rintro e w2 ⟨rfl, b2⟩
        have HB2 := hide b2
        clear b2 hc
        cases hr : rightE l with
        | false =>
          have hR11 : R = 11 := by rw [unhide HRR, hr]; rfl
          subst hR11
          have HF := hide (unhide HAF hr)
          clear hr
          go_wp2_with fail
          go_ret2
          unfold BegD
          rw [unhide HF]
          exact ⟨rfl, ((unhide HBI).calm (unhide HB2)).low⟩
        | true =>
          have hR0 : R = 0 := by rw [unhide HRR, hr]; rfl
          subst hR0
          have HALL := hide ((unhide HT).trans hr)
          clear hr
          go_wp2_with fail
          refine Calls.mono (unhide HCL _ (unhide HB2)) ?_
          rintro e w3 ⟨p3, c3, rfl, o3, b3⟩
          have hbi3 := ((unhide HBI).calm (unhide HB2)).calm b3
          have HO3 := hide (And.intro o3 (And.intro hbi3 (And.intro b3.size (And.intro (unhide HB2).size (fun j hj => ((unhide HBI).calm (unhide HB2)).que.lt j hj)))))
          clear o3 b3 hbi3
          cases l with
          | nil =>
            have HPU := hide (hpush_none F w3 w.heap.size n (k : Int) p3 c3 Z (unhide HO3).2.1.que)
            go_wp2_with fail
            refine Calls.mono (unhide HPU) ?_
            rintro e w4 ⟨rfl, q4, b4⟩
            have HE := hide (show BI LL w (k + 1) F Z n w4 from by
              have h := (unhide HO3).2.1.calm b4
              exact ⟨h.que, unhide HSK _ h.hs (by first | trivial | rfl), Nat.le_succ_of_le h.cnt, Nat.le_succ_of_le h.len, h.new, h.ent, h.low⟩)
            clear q4 b4
            go_wp2_with fail
            refine ⟨⟨k + 1, F, Z, n, by go_num, unhide HK, unhide HALL, unhide HE⟩, ?_⟩
            have := unhide HK
            simp [intOf]
            omega
          | cons y t =>
            have her3 : ER w3 (.slice p3 (y :: t).length c3) (y :: t) := er_of_own (unhide HO3).1
            have hxe : HdE w3 ⟨(k : Int), p3, (y :: t).length, c3, y :: t⟩ := ⟨rfl, Nat.succ_pos _, her3⟩
            have hxb : ∀ j, (⟨(k : Int), p3, (y :: t).length, c3, y :: t⟩ : Hd).blk j → w2.heap.size ≤ j := fun j hj => by
              obtain ⟨o, e⟩ := hj
              simp only at e
              rcases (unhide HO3).1.2 with ⟨h9, _⟩ | ⟨g, cap, cur, h9, hg, _⟩
              · simp only [Value.slice.injEq] at h9; rw [e] at h9; cases h9.1
              · simp only [Value.slice.injEq] at h9
                rw [e] at h9
                have := h9.1
                simp only [Option.some.injEq, Addr.mk.injEq] at this
                omega
            have hbi := (unhide HO3).2.1
            have hbn : n < 4611686018427387904 ∧ (Z.length + 1) * 40 ≤ 140737488355328 := by
              have h1 := hbi.cnt; have h2 := hbi.len; have h3 := unhide HK; have h4 := unhide HQ; omega
            have HPU := hide (hpush_some F w3 w.heap.size n ⟨(k : Int), p3, (y :: t).length, c3, y :: t⟩ Z hbi.que ⟨hxe, fun j hj hf => by have := hxb j hj; have := (unhide HO3).2.2.2.2 j hf; omega⟩ hbn.2 hbn.1)
            have HXB := hide hxb
            unfold itV at HPU
            simp only at HPU
            clear her3 hxe hxb hbi hbn
            go_wp2_with fail
            refine Calls.mono (unhide HPU) ?_
            rintro e w4 ⟨rfl, F4, q4, m4⟩
            have HE := hide (show BI LL w (k + 1) F4 (ins ltH ⟨(k : Int), p3, (y :: t).length, c3, y :: t⟩ Z) (n + 1) w4 from by
              have h := (unhide HO3).2.1
              have hp := ins_perm ltH ⟨(k : Int), p3, (y :: t).length, c3, y :: t⟩ Z
              have hnew : ∀ j, F4 j → w.heap.size ≤ j := fun j hj => by
                rcases m4.sub j hj with h1 | h1
                · exact h.new j h1
                · exact Nat.le_trans h.low.size h1
              refine ⟨q4, (unhide HAD _ h.hs ⟨(k : Int), p3, (y :: t).length, c3, y :: t⟩ rfl rfl (by simp)).perm hp, Nat.succ_le_succ h.cnt, by rw [length_ins]; exact Nat.succ_le_succ h.len, hnew, fun x hx j hj => ?_, h.low.trans (m4.keep.below h.low.size h.new)⟩
              rcases List.mem_cons.1 (hp.mem_iff.1 hx) with rfl | hx
              · have h1 := unhide HXB j hj
                have h2 := (unhide HO3).2.2.2.1
                have h3 := (unhide HBI).low.size
                omega
              · exact h.ent x hx j hj)
            clear q4 m4
            go_wp2_with fail
            refine ⟨⟨k + 1, F4, _, n + 1, by go_num, unhide HK, unhide HALL, unhide HE⟩, ?_⟩
            have := unhide HK
            simp [intOf]
            omega
      · have hke : k = LL.length := by omega
        subst hke
        rw [List.take_length] at hall
        have HRR : Hid (mrgR LL = (mrgE LL, 0)) := (unhide HRN).trans (if_pos (unhide hall))
        have HBI := hide hbi
        clear hlt hk hall hbi
        go_wp2_with fail
        go_ret2
        have h := unhide HBI
        unfold BegD
        rw [unhide HRR]
        have hs := h.hs
        rw [List.take_length] at hs
        refine ⟨?_, h.low⟩
        rw [if_pos rfl]
        exact ⟨_, F, Z, n, rfl, h.que, hs, by have := h.cnt; have := unhide HQ; omega, h.new, h.ent⟩
end Go.Proofs.Ytcjepiihknjeiaa.QH
