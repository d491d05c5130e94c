/- Texts of ours, one behind the other: ArSeen. -/
import Derived.Test.YtlbhhdldeaehkaaG5
import Derived.Test.YtlbhhdldeaehkaaG11
import Derived.Test.YtlbhhdldeaehkaaG20
import Derived.Test.YtlbhhdldeaehkaaG34
import Derived.Test.YtlbhhdldeaehkaaG35
/- The statements' own functions of layer 16: seen. -/
namespace Go.Proofs.Ytlbhhdldeaehkaa
open Go.RowKit

/-- A row of the call's own. -/
def OwR (E sz : Nat) (v : Value) (n : Nat) (xs : List Value) : Ow := fun C W => W.ownsRow 0 E sz v n xs ∧ ∀ k, C k ↔ v.ownBlock = some k
theorem OwR.ok (E sz : Nat) (v : Value) (n : Nat) (xs : List Value) : OwOk (OwR E sz v n xs) where
  stays := fun _ _ _ _ ⟨h1, h2⟩ hk hn => ⟨ownsV_keep h1 hk (fun k hv => hn k ((h2 k).2 hv)), h2⟩
  lt := fun _ _ ⟨h1, h2⟩ k hk => (h1.lt k ((h2 k).1 hk)).2
/-- An object, and where its parts lie. -/
abbrev TO := Ob × Value × Value
def toV (L : List TO) : List Value := L.flatMap fun y => [.int .i64 y.1.1, y.2.1, y.2.2]
/-- The parts of objects. -/
def PDg (L : List TO) : Ow := fun C W => (∀ k, C k → k < W.heap.size) ∧ ∀ y ∈ L, VRow W y.2.1 (Iw y.1.2.1) ∧ VRow W y.2.2 (Uw y.1.2.2) ∧ ∀ k, y.2.1.ownBlock = some k ∨ y.2.2.ownBlock = some k → C k
theorem PDg.ok (L : List TO) : OwOk (PDg L) where
  stays := fun C W W' G ⟨h1, h2⟩ hk hn => ⟨fun k hc => Nat.lt_of_lt_of_le (h1 k hc) hk.size, fun y hy => by
    obtain ⟨a, b, c⟩ := h2 y hy
    exact ⟨a.keep hk (fun b off cc e _ => hn b (c b (Or.inl (by rw [e]; rfl)))), b.keep hk (fun b off cc e _ => hn b (c b (Or.inr (by rw [e]; rfl)))), c⟩⟩
  lt := fun _ _ h => h.1
theorem toV_get : ∀ (L : List TO) (j : Nat) (h : j < L.length), (toV L)[j * 3]? = some (.int .i64 L[j].1.1) ∧ (toV L)[j * 3 + 1]? = some L[j].2.1 ∧ (toV L)[j * 3 + 2]? = some L[j].2.2
  | y :: L, 0, _ => ⟨rfl, rfl, rfl⟩
  | y :: L, j + 1, h => by
    have ih := toV_get L j (by simpa using h)
    have e : toV (y :: L) = [.int .i64 y.1.1, y.2.1, y.2.2] ++ toV L := rfl
    rw [e, show (j + 1) * 3 = j * 3 + 3 by omega, List.getElem?_append_right (by simp), List.getElem?_append_right (by simp only [List.length_cons, List.length_nil]; omega), List.getElem?_append_right (by simp only [List.length_cons, List.length_nil]; omega)]
    simp only [List.length_cons, List.length_nil, Nat.zero_add, Nat.reduceAdd, List.getElem_cons_succ]
    rw [show j * 3 + 3 - 3 = j * 3 by omega, show j * 3 + 3 + 1 - 3 = j * 3 + 1 by omega, show j * 3 + 3 + 2 - 3 = j * 3 + 2 by omega]
    exact ih
theorem ol_own {W : World} {v : Value} {L : List TO} {C : Nat → Prop} (hown : W.ownsRow 0 35 3 v L.length (toV L)) (hp : PDg L C W) : OL W v (L.map Prod.fst) := by
  rcases hown.2 with ⟨rfl, h0⟩ | ⟨g, cap, cur, rfl, _⟩
  · exact ⟨none, 0, by rw [List.length_map, h0], Or.inl (List.eq_nil_of_length_eq_zero (by rw [List.length_map, h0]))⟩
  · refine ⟨some ⟨g, 0, none⟩, cap, by rw [List.length_map], Or.inr ⟨g, 0, rfl, fun j hj => ?_⟩⟩
    have hj' : j < L.length := by rw [List.length_map] at hj; exact hj
    obtain ⟨h1, h2, h3⟩ := toV_get L j hj'
    obtain ⟨r1, r2, _⟩ := hp.2 L[j] (List.getElem_mem hj')
    obtain ⟨a1, c1, e1, _⟩ := r1.shape
    obtain ⟨a2, c2, e2, _⟩ := r2.shape
    have q1 := hown.cells (g := g) rfl _ _ h1
    have q2 := hown.cells (g := g) rfl _ _ h2
    have q3 := hown.cells (g := g) rfl _ _ h3
    rw [Addr.add_lit] at q1 q2 q3
    rw [e1] at q2 r1
    rw [e2] at q3 r2
    rw [List.getElem_map]
    exact ⟨_, _, _, _, _, _, q1, by rw [← Nat.add_assoc] at q2; exact q2, by rw [← Nat.add_assoc] at q3; exact q3, r1, r2⟩

/-- An object in a variable of its own, and the row of its data. -/
def LocQ (B : Nat) (kd : Int) (p d : Value) (ds : List Int) : Ow := fun C W => W.heap[B]? = some (.cells #[.int .i64 kd, p, d] 35 (0, 0)) ∧ VRow W d (Uw ds) ∧ C B ∧ (∀ k, d.ownBlock = some k → C k) ∧ ∀ k, C k → k < W.heap.size
theorem LocQ.ok (B : Nat) (kd : Int) (p d : Value) (ds : List Int) : OwOk (LocQ B kd p d ds) where
  stays := fun _ _ _ _ ⟨h1, h2, h3, h4, h5⟩ hk hn => ⟨(hk.block B (Array.getElem?_eq_some_iff.1 h1).1 (hn B h3)).trans h1, h2.keep hk (fun b _ _ e _ => hn b (h4 b (by rw [e]; rfl))), h3, h4, fun k hk2 => Nat.lt_of_lt_of_le (h5 k hk2) hk.size⟩
  lt := fun _ _ ⟨_, _, _, _, h5⟩ => h5
/-- What stands while an object's pointers are gone through. -/
abbrev RestQ (ov : Value) (N : Nat) (L : List TO) (B : Nat) (kd : Int) (p d : Value) (ds : List Int) : Ow := Star (Star (OwR 35 3 ov N (toV L)) (PDg L)) (LocQ B kd p d ds)
theorem RestQ.ok (ov : Value) (N : Nat) (L : List TO) (B : Nat) (kd : Int) (p d : Value) (ds : List Int) : OwOk (RestQ ov N L B kd p d ds) := Star.ok (Star.ok (OwR.ok ..) (PDg.ok _)) (LocQ.ok ..)
theorem kstart {wr w2 : World} {lv ov p d : Value} {N : Nat} {list ps ds : List Int} {L : List TO} {kd : Int} {C1 C2 : Nat → Prop} (h1 : OwR 3 1 lv list.length (Iw list) C1 wr) (h2 : Star (OwR 35 3 ov N (toV L)) (PDg L) C2 wr) (hd : ∀ k, C1 k → ¬ C2 k)
    (op : w2.ownsRow wr.heap.size 3 1 p ps.length (Iw ps)) (od : w2.ownsRow wr.heap.size 44 1 d ds.length (Uw ds)) (b2 : Below wr.heap.size wr w2) :
    ∃ C', Star (OwR 3 1 lv list.length (Iw list)) (Star (OwR 3 1 p ps.length (Iw ps)) (RestQ ov N L w2.heap.size kd p d ds)) C' (w2.alloc (.cells #[.int .i64 kd, p, d] 35)) ∧ (∀ k, C' k → C1 k ∨ C2 k ∨ wr.heap.size ≤ k) := by
  have hb3 : Below w2.heap.size w2 (w2.alloc (.cells #[.int .i64 kd, p, d] 35)) := (Below.refl _ _).alloc (Nat.le_refl _) _
  have hb := b2.trans (hb3.mono b2.size)
  have l1 := (OwR.ok ..).lt C1 wr h1
  have l2 := (Star.ok (OwR.ok ..) (PDg.ok L)).lt C2 wr h2
  have hs := b2.size
  have s1 := (OwR.ok ..).below h1 hb
  have s2 := (Star.ok (OwR.ok ..) (PDg.ok L)).below h2 hb
  have P := ownsV_keep (F := fun _ => False) (ownsV_base op (Nat.zero_le _)) (Keep.of_below hb3) (fun _ _ => id)
  have hnew := World.alloc_heap_new w2 (.cells #[.int .i64 kd, p, d] 35)
  have hsz : (w2.alloc (.cells #[.int .i64 kd, p, d] 35)).heap.size = w2.heap.size + 1 := World.size_alloc _ _
  refine ⟨fun k => C1 k ∨ (p.ownBlock = some k ∨ (C2 k ∨ (k = w2.heap.size ∨ d.ownBlock = some k))), ⟨C1, _, s1, ⟨fun k => p.ownBlock = some k, _, ⟨P, fun _ => Iff.rfl⟩, ⟨C2, fun k => k = w2.heap.size ∨ d.ownBlock = some k, s2, ⟨hnew, (ownsV_row od (by simp)).below hb3, Or.inl rfl, fun k hk => Or.inr hk, fun k hk => ?_⟩, fun k hk h => ?_, fun _ => Iff.rfl⟩, fun k hk h => ?_, fun _ => Iff.rfl⟩, fun k hk h => ?_, fun _ => Iff.rfl⟩, fun k hk => ?_⟩
  · rcases hk with rfl | hk
    · omega
    · have := (od.lt k hk).2; omega
  · have := l2 k hk
    rcases h with rfl | h
    · omega
    · have := (od.lt k h).1; omega
  · have h0 := op.lt k hk
    rcases h with h | h | h
    · have := l2 k h; omega
    · omega
    · exact own_unlike op od (by decide) k hk h
  · have := l1 k hk
    rcases h with h | h | h | h
    · have := (op.lt k h).1; omega
    · exact hd k hk h
    · omega
    · have := (od.lt k h).1; omega
  · rcases hk with h | h | h | h | h
    · exact Or.inl h
    · exact Or.inr (Or.inr (op.lt k h).1)
    · exact Or.inr (Or.inl h)
    · exact Or.inr (Or.inr (by omega))
    · exact Or.inr (Or.inr (od.lt k h).1)

theorem row_app {R : Ow} {X Xa Y : World} {E sz : Nat} {lv lv' : Value} {n n' : Nat} {xs xs' : List Value} {C : Nat → Prop} (hR : OwOk R) (hst : Star (OwR E sz lv n xs) R C X) (hb : Below X.heap.size X Xa) (hown : Y.ownsRow 0 E sz lv' n' xs') (hg : Xa.grownBy Y lv.ownBlock) (hob : lv'.ownBlock = lv.ownBlock ∨ lv'.ownBlock = some Xa.heap.size) :
    ∃ C', Star (OwR E sz lv' n' xs') R C' Y ∧ Moves C C' X Y := by
  obtain ⟨D1, D2, ⟨_, x2⟩, hr, hd, hD⟩ := hst
  have hgk : Keep (fun k => lv.ownBlock = some k) Xa Y := ⟨hg.os, hg.tape, hg.output, hg.size, fun k hk hn => hg.block k hk (fun e => hn e.symm)⟩
  have hm : Moves D1 (fun k => lv'.ownBlock = some k) X Y := ⟨(Keep.of_below hb).trans hgk (fun k h => Or.inl ((x2 k).2 h)), fun k hk => by
    rcases hob with h | h
    · exact Or.inl ((x2 k).2 (h ▸ hk))
    · rw [h] at hk; simp only [Option.some.injEq] at hk; have := hb.size; exact Or.inr (by omega)⟩
  exact ⟨_, Star.left hR hr hd hD ⟨hown, fun _ => Iff.rfl⟩ hm⟩
theorem row_set {I R : Ow} {X : World} {E b n c : Nat} {xs : List Value} {C : Nat → Prop} (hI : OwOk I) (hR : OwOk R) (hst : Star I (Star (OwR E 1 (.slice (some ⟨b, 0, none⟩) n c) n xs) R) C X) (j : Nat) (u : Value) :
    Star I (Star (OwR E 1 (.slice (some ⟨b, 0, none⟩) n c) n (xs.set j u)) R) C (X.setCell ⟨b, j, none⟩ u) ∧ Keep C X (X.setCell ⟨b, j, none⟩ u) := by
  obtain ⟨D1, D2, hi, ⟨D21, D22, ⟨x1, x2⟩, hr, hd2, hD2⟩, hd, hD⟩ := hst
  have K := keep_set X b j u
  have hb : D21 b := (x2 b).2 rfl
  refine ⟨⟨D1, D2, hI.stays _ _ _ _ hi K (fun k hk e => hd k hk ((hD2 k).2 (Or.inl (e ▸ hb)))), ⟨D21, D22, ⟨owns_set x1 j u, x2⟩, hR.stays _ _ _ _ hr K (fun k hk e => hd2 b hb (e ▸ hk)), hd2, hD2⟩, hd, hD⟩, K.weak (fun k e => (hD k).2 (Or.inr ((hD2 k).2 (Or.inl (e ▸ hb)))))⟩
theorem kcells {I : Ow} {X : World} {ov p d : Value} {N m c b B : Nat} {xs : List Value} {ds : List Int} {L : List TO} {kd : Int} {C : Nat → Prop} (hst : Star I (Star (OwR 3 1 (.slice (some ⟨b, 0, none⟩) m c) m xs) (RestQ ov N L B kd p d ds)) C X) :
    X.cell? ⟨B, 0, none⟩ = some (.int .i64 kd) ∧ X.cell? ⟨B, 1, none⟩ = some p ∧ X.cell? ⟨B, 2, none⟩ = some d ∧ (∀ K, X.frozen? ⟨b, K, none⟩ = false) ∧ (∀ K u, xs[K]? = some u → X.cell? ⟨b, K, none⟩ = some u) := by
  obtain ⟨D1, D2, hi, ⟨Dp, Dr, ⟨p1, p2⟩, ⟨Do, Dq, hst, hq, hdq, hDq⟩, hdp, hDp⟩, hd, hD⟩ := hst
  obtain ⟨q0, q1, q2, _⟩ := three_cells hq.1
  refine ⟨q0, q1, q2, fun K => ?_, fun K u hu => ?_⟩
  · rcases p1.2 with ⟨h, _⟩ | ⟨g', cap', cur, h, _, hh, _⟩
    · cases h
    · simp only [Value.slice.injEq, Option.some.injEq, Addr.mk.injEq] at h
      obtain ⟨⟨rfl, _⟩, _⟩ := h
      exact frozen_of_block hh
  · have := p1.cells (g := b) rfl K u hu
    rwa [Addr.add_lit, Nat.zero_add] at this
theorem set_mid (ns T : List Int) (q n : Int) (K : Nat) (h : ns.length = K) : (Iw (ns ++ q :: T)).set K (.int .i64 n) = Iw (ns ++ [n] ++ T) := by
  subst h
  simp [List.map_append]
theorem kend {I : Ow} {X Xa Y : World} {ov ov' p d : Value} {N m : Nat} {ns ds : List Int} {L : List TO} {B : Nat} {kd : Int} {C : Nat → Prop} (hI : OwOk I) (hst : Star I (Star (OwR 3 1 p m (Iw ns)) (RestQ ov N L B kd p d ds)) C X) (hm : m = ns.length) (hb : Below X.heap.size X Xa)
    (hown : Y.ownsRow 0 35 3 ov' (N + 1) (toV (L ++ [((kd, ns, ds), p, d)]))) (hg : Xa.grownBy Y ov.ownBlock) (hob : ov'.ownBlock = ov.ownBlock ∨ ov'.ownBlock = some Xa.heap.size) :
    ∃ C', Star I (Star (OwR 35 3 ov' (N + 1) (toV (L ++ [((kd, ns, ds), p, d)]))) (PDg (L ++ [((kd, ns, ds), p, d)]))) C' Y ∧ Moves C C' X Y := by
  obtain ⟨D1, D2, hi, ⟨Dp, Dr, ⟨p1, p2⟩, ⟨Do, Dq, ⟨D3, D4, ⟨o1, o2⟩, hpd, hd4, hD4⟩, hq, hdq, hDq⟩, hdp, hDp⟩, hd, hD⟩ := hst
  have hgk : Keep (fun k => ov.ownBlock = some k) Xa Y := ⟨hg.os, hg.tape, hg.output, hg.size, fun k hk hn => hg.block k hk (fun e => hn e.symm)⟩
  have K : Keep D3 X Y := (Keep.of_below hb).trans hgk (fun k h => Or.inl ((o2 k).2 h))
  have hs := hb.size
  have prow : VRow X p (Iw ns) := ownsV_row p1 (by simp [hm])
  have nD3 : ∀ k, D3 k → Do k ∧ Dr k ∧ D2 k := fun k hk => ⟨(hD4 k).2 (Or.inl hk), (hDq k).2 (Or.inl ((hD4 k).2 (Or.inl hk))), (hDp k).2 (Or.inr ((hDq k).2 (Or.inl ((hD4 k).2 (Or.inl hk)))))⟩
  have i' := hI.stays _ _ _ _ hi K (fun k hk h => hd k hk (nD3 k h).2.2)
  have pd' := (PDg.ok L).stays _ _ _ _ hpd K (fun k hk h => hd4 k h hk)
  have p' := prow.keep K (fun b off c e _ h => hdp b ((p2 b).2 (by rw [e]; rfl)) (nD3 b h).2.1)
  have d' := hq.2.1.keep K (fun b off c e _ h => hdq b (nD3 b h).1 (hq.2.2.2.1 b (by rw [e]; rfl)))
  have nob : ∀ k, ov'.ownBlock = some k → D3 k ∨ X.heap.size ≤ k := fun k hk => by
    rcases hob with h | h
    · exact Or.inl ((o2 k).2 (h ▸ hk))
    · rw [h] at hk; simp only [Option.some.injEq] at hk; exact Or.inr (by omega)
  have l1 := hI.lt _ _ hi
  have lq := hq.2.2.2.2
  have lpd := hpd.1
  have lp : ∀ k, Dp k → k < X.heap.size := fun k hk => (p1.lt k ((p2 k).1 hk)).2
  refine ⟨fun k => D1 k ∨ (ov'.ownBlock = some k ∨ (D4 k ∨ (Dp k ∨ Dq k))), ⟨D1, _, i', ⟨fun k => ov'.ownBlock = some k, fun k => D4 k ∨ (Dp k ∨ Dq k), ⟨hown, fun _ => Iff.rfl⟩, ⟨fun k hk => ?_, fun y hy => ?_⟩, fun k hk h => ?_, fun _ => Iff.rfl⟩, fun k hk h => ?_, fun _ => Iff.rfl⟩, ⟨K.weak (fun k hk => (hD k).2 (Or.inr (nD3 k hk).2.2)), fun k hk => ?_⟩⟩
  · have := K.size
    rcases hk with h | h | h
    · exact Nat.lt_of_lt_of_le (lpd k h) this
    · exact Nat.lt_of_lt_of_le (lp k h) this
    · exact Nat.lt_of_lt_of_le (lq k h) this
  · rcases List.mem_append.1 hy with hy | hy
    · obtain ⟨t1, t2, t3⟩ := pd'.2 y hy
      exact ⟨t1, t2, fun k hk => Or.inl (t3 k hk)⟩
    · obtain rfl := List.mem_singleton.1 hy
      refine ⟨p', d', fun k hk => Or.inr ?_⟩
      rcases hk with hk | hk
      · exact Or.inl ((p2 k).2 hk)
      · exact Or.inr (hq.2.2.2.1 k hk)
  · rcases nob k hk with h3 | h3
    · rcases h with h | h | h
      · exact hd4 k h3 h
      · exact hdp k h (nD3 k h3).2.1
      · exact hdq k (nD3 k h3).1 h
    · rcases h with h | h | h
      · have := lpd k h; omega
      · have := lp k h; omega
      · have := lq k h; omega
  · have hk2 := l1 k hk
    rcases h with h | h | h | h
    · rcases nob k h with h3 | h3
      · exact hd k hk (nD3 k h3).2.2
      · omega
    · exact hd k hk ((hDp k).2 (Or.inr ((hDq k).2 (Or.inl ((hD4 k).2 (Or.inr h))))))
    · exact hd k hk ((hDp k).2 (Or.inl h))
    · exact hd k hk ((hDp k).2 (Or.inr ((hDq k).2 (Or.inr h))))
  · rcases hk with h | h | h | h | h
    · exact Or.inl ((hD k).2 (Or.inl h))
    · rcases nob k h with h3 | h3
      · exact Or.inl ((hD k).2 (Or.inr (nD3 k h3).2.2))
      · exact Or.inr h3
    · exact Or.inl ((hD k).2 (Or.inr ((hDp k).2 (Or.inr ((hDq k).2 (Or.inl ((hD4 k).2 (Or.inr h))))))))
    · exact Or.inl ((hD k).2 (Or.inr ((hDp k).2 (Or.inl h))))
    · exact Or.inl ((hD k).2 (Or.inr ((hDp k).2 (Or.inr ((hDq k).2 (Or.inr h))))))

theorem root_ob {n : Nat} {ws rs : List Int} (h : AOk n ws rs) (s : Int) : rootP rs s = 0 ∨ isOb ws (rootP rs s) := by
  unfold rootP
  split
  · rename_i hs
    obtain ⟨_, _, q3⟩ := right_iff'.1 h.right
    have hlt : s.toNat < rs.length := by rw [h.slots]; omega
    have hm : wd rs s.toNat ∈ rs := by
      unfold wd
      rw [List.getElem?_eq_getElem hlt]
      exact List.getElem_mem hlt
    exact isPl_iff.1 (q3 _ hm)
  · exact Or.inl rfl
theorem met_root {n : Nat} {ws rs : List Int} (h : AOk n ws rs) (s : Int) : MetL ws (lst0 (rootP rs s)) := by
  unfold lst0
  split
  · exact ⟨by simp, by simp⟩
  · rename_i h0
    exact ⟨by simp, by simpa using (root_ob h s).resolve_left h0⟩

set_option maxRecDepth 20000 in
set_option maxHeartbeats 4000000 in
theorem seen_any (F : Nat → Prop) (w : World) (g n : Nat) (ws rs : List Int) (s : Int) (hA : AR F w g n ws rs) :
    Calls Try.prog 14 #[.pointer (some ⟨g, 0, none⟩), .int .i64 s] w fun e w' => ∃ N vo, e = .returned vo ∧ OL w' vo (seenN ws (lst0 (rootP rs s)) N).2 ∧ (seenN ws (lst0 (rootP rs s)) N).1.length ≤ N ∧ Below w.heap.size w w' := by
  have HA := hide hA
  have HOK := hide hA.ok
  have HRT := hide (fun (W : World) (hb : Below w.heap.size w W) => aroot_ar s (hA.below hb))
  obtain ⟨ii, hii, hi0, hi1, hi2⟩ := info_parts Try.infoInt
  obtain ⟨io, hio, ho0, ho1, ho2⟩ := info_parts Try.infoObj
  have HM0 : Hid (MetL ws (lst0 (rootP rs s))) := met_root hA.ok s
  obtain ⟨r, hr⟩ : ∃ r, r = rootP rs s := ⟨_, rfl⟩
  rw [← hr] at HRT HM0 ⊢
  obtain ⟨l0, hl0⟩ : ∃ l0, l0 = lst0 r := ⟨_, rfl⟩
  rw [← hl0] at HM0 ⊢
  clear hA
  have hmx : Try.prog.follows .mixedOrders = true := by kernel_rfl
  rcases Decidable.em (r = 0) with h0 | h0
  have ht : (r != 0) = false := by simp [h0]
  have hl1 : l0 = [] := by rw [hl0, h0]; rfl
  clear hr hl0
  go_enter Try.func14, Try.ntmps14
  go_wp2_with fail
  refine Calls.mono (unhide HRT _ (Below.refl _ _)) ?_
  rintro e w1 ⟨rfl, hq⟩
  obtain rfl : w = w1 := hq.symm
  go_wp2_with fail
  have HST : Hid (∃ C0, OwR 3 1 (.slice none 0 0) l0.length (Iw l0) C0 w ∧ (∀ k, C0 k → w.heap.size ≤ k) ∧ Below w.heap.size w w) := by
    refine ⟨fun _ => False, ⟨by rw [hl1]; exact World.ownsRow_nil _ _ _ _, fun k => by simp [Value.ownBlock]⟩, fun k h => h.elim, Below.refl _ _⟩
  rotate_left
  have ht : (r != 0) = true := by simp [h0]
  have hl1 : l0 = [r] := by rw [hl0]; unfold lst0; rw [if_neg h0]
  clear hr hl0
  go_enter Try.func14, Try.ntmps14
  go_wp2_with fail
  refine Calls.mono (unhide HRT _ (Below.refl _ _)) ?_
  rintro e w1 ⟨rfl, hq⟩
  obtain rfl : w = w1 := hq.symm
  go_wp2_with fail
  refine Calls.mono (unhide HRT _ (Below.refl _ _)) ?_
  rintro e w2 ⟨rfl, hq⟩
  obtain rfl : w = w2 := hq.symm
  have HNW := hide (show ∀ (j : Nat) (u : Value), [Value.int .i64 r][j]? = some u → (w.alloc (.cells #[.int .i64 r] 3)).cell? ((⟨w.heap.size, 0, none⟩ : Addr).add j) = some u from fun j u hj => by match j, hj with | 0, hj => (simp at hj; subst hj; simp [Addr.add]))
  go_wp2_with (first
    | (at_builtin; refine wpList_append_gen rfl _ _ 33 rfl w.heap.size 3 ii (.int .i64 0) Try.underlying33 hii hi0 1 8 (by omega) hi1 hi2 rfl (.slice none 0 0) 0 [] rfl (World.ownsRow_nil _ _ _ _) ⟨w.heap.size, 0, none⟩ 1 1 [.int .i64 r] rfl rfl (unhide HNW) (by intro u hu; simp at hu; subst hu; rfl) (by unfold maxLen; omega) (by omega) (by simp) ?_))
  intro lv w3 hown3 hg3 hob3
  have HST : Hid (∃ C0, OwR 3 1 lv l0.length (Iw l0) C0 w3 ∧ (∀ k, C0 k → w.heap.size ≤ k) ∧ Below w.heap.size w w3) := by
    refine ⟨fun k => lv.ownBlock = some k, ⟨?_, fun _ => Iff.rfl⟩, fun k hk => (hown3.lt k hk).1, ?_⟩
    · rw [hl1]; exact ownsV_base hown3 (Nat.zero_le _)
    · exact (((Below.refl w.heap.size w).alloc (Nat.le_refl _) (.cells #[.int .i64 r] 3)).grown hg3 (by simp) (fun k hk => by cases hk))
  obtain ⟨p3, c3, rfl⟩ := ownsV_shape hown3
  clear hown3 hg3 hob3 HNW
  go_wp2_with fail
  all_goals
    clear ht h0 hl1
    go_loopw [5, 6, 7] (fun lv ov iv wr => ∃ (N : Nat) (C : Nat → Prop) (L : List TO), iv = .int .i64 (N : Int) ∧ N ≤ (seenN ws l0 N).1.length ∧ L.map Prod.fst = (seenN ws l0 N).2 ∧ L.length = N ∧ MetL ws (seenN ws l0 N).1 ∧
      Star (OwR 3 1 lv (seenN ws l0 N).1.length (Iw (seenN ws l0 N).1)) (Star (OwR 35 3 ov N (toV L)) (PDg L)) C wr ∧ (∀ k, C k → w.heap.size ≤ k) ∧ Below w.heap.size w wr) (fun _ _ iv _ => ws.length - (intOf iv).toNat)
    case atStart =>
      obtain ⟨C0, h1, h2, h3⟩ := unhide HST
      refine ⟨0, fun k => C0 k ∨ (False ∨ False), [], rfl, Nat.zero_le _, rfl, rfl, unhide HM0, ⟨C0, fun k => False ∨ False, h1, ⟨fun _ => False, fun _ => False, ⟨World.ownsRow_nil _ _ _ _, fun k => by simp [Value.ownBlock]⟩, ⟨fun k h => h.elim, fun y hy => by cases hy⟩, fun k h => h.elim, fun _ => Iff.rfl⟩, fun k _ h => h.elim id id, fun _ => Iff.rfl⟩, fun k hk => ?_, h3⟩
      rcases hk with hk | hk | hk
      · exact h2 k hk
      · exact hk.elim
      · exact hk.elim
    case round =>
      obtain ⟨N, C, L, rfl, hN, hLo, hLl, hmet, hst, hC, hb⟩ := hrel
      have hle := hmet.len
      have hws := (unhide HOK).len
      obtain ⟨list, hlist⟩ : ∃ list, list = (seenN ws l0 N).1 := ⟨_, rfl⟩
      rw [← hlist] at hN hmet hst hle
      obtain ⟨C1, C2, ⟨hw1, hw2⟩, ⟨C21, C22, ⟨ho1, ho2⟩, hpd, hd2, hC2⟩, hd1, hC1⟩ := hst
      obtain ⟨pl, cl, rfl⟩ := ownsV_shape hw1
      obtain ⟨po, co, rfl⟩ := ownsV_shape ho1
      have HLS := hide hlist
      by_cases hlt : N < list.length
      · have hob := hmet.ob _ (List.getElem_mem hlt)
        have hNI : (N : Int) < (list.length : Int) := by omega
        have HSN : Hid (seenN ws l0 (N + 1) = ((allPtrs list (ptsA ws list[N])).1, (seenN ws l0 N).2 ++ [(wd ws list[N].toNat % 16, (allPtrs list (ptsA ws list[N])).2, dtA ws list[N])])) := by
          unfold Hid
          have hg : (seenN ws l0 N).1[N]? = some list[N] := by rw [← hlist]; exact List.getElem?_eq_getElem hlt
          simp only [seenN]
          rw [hg, ← hlist]
        have hrow : VRow wr (.slice pl list.length cl) (Iw list) := ownsV_row hw1 (by simp)
        obtain ⟨bl, ofl, cl', e0, _, _, hcl⟩ := hrow.open (by intro e; have := congrArg List.length e; simp at this; rw [this] at hlt; simp at hlt)
        simp only [Value.slice.injEq] at e0
        obtain ⟨rfl, e1, rfl⟩ := e0
        have hcN := hcl N (.int .i64 list[N]) (by rw [List.getElem?_map, List.getElem?_eq_getElem hlt]; rfl)
        have hat := aat_ar list[N] ((unhide HA).below hb)
        rw [atR_is hob] at hat
        have hpo := ptrs_ob (unhide HOK) hob
        obtain ⟨z1, z2, z3, z4⟩ := isOb_size hob
        have hpl : (ptsA ws list[N]).length ≤ 1048576 := by have := hob.2.1; rw [ptsA_len hob]; omega
        generalize hag : list[N] = a at *
        generalize hps : ptsA ws a = ps at *
        generalize hds : dtA ws a = ds at *
        generalize wd ws a.toNat % 16 = kd at *
        have HAT := hide hat
        have HQ := hide (And.intro hpo (And.intro hmet (And.intro hLo (And.intro hLl (And.intro hC hb)))))
        have HST2 := hide (And.intro hw1 (And.intro hw2 (And.intro ho1 (And.intro ho2 (And.intro hpd (And.intro hd2 (And.intro hC2 (And.intro hd1 hC1))))))))
        have HN := hide (And.intro hN (And.intro hlt (And.intro hle (And.intro hws hpl))))
        clear hat hpo hmet hLo hLl hC hb hw1 hw2 ho1 ho2 hpd hd2 hC2 hd1 hC1 hN hlt hle hws hpl z1 z2 z3 z4 hob hag hps hds hrow hcl e1 hlist HST
        go_wp2_with fail
        refine Calls.mono (unhide HAT) ?_
        rintro e w2 ⟨pv, dv, kd', er, rfl, ps', ds', heq, op, od, b2⟩
        simp only [Prod.mk.injEq] at heq
        obtain ⟨rfl, rfl, rfl, rfl⟩ := heq
        obtain ⟨pp, pc, rfl⟩ := ownsV_shape op
        obtain ⟨dp, dc, rfl⟩ := ownsV_shape od
        have HOP := hide (And.intro op (And.intro od b2))
        clear op od b2 hcN
        go_wp2_with fail
        obtain ⟨W3, hW3⟩ : ∃ W3, w2.alloc (.cells #[.int .i64 kd, .slice pp ps.length pc, .slice dp ds.length dc] 35) = W3 := ⟨_, rfl⟩
        have HKS : Hid (∃ C', Star (OwR 3 1 (.slice (some ⟨bl, ofl, none⟩) list.length cl) list.length (Iw list)) (Star (OwR 3 1 (.slice pp ps.length pc) ps.length (Iw ps)) (RestQ (.slice po N co) N L w2.heap.size kd (.slice pp ps.length pc) (.slice dp ds.length dc) ds)) C' W3 ∧ (∀ k, C' k → w.heap.size ≤ k) ∧ Below w.heap.size w W3) := by
          obtain ⟨hw1, hw2, ho1, ho2, hpd, hd2, hC2, hd1, hC1⟩ := unhide HST2
          obtain ⟨op, od, b2⟩ := unhide HOP
          obtain ⟨_, _, _, _, hC, hb⟩ := unhide HQ
          obtain ⟨C', h1, h2⟩ := kstart (kd := kd) ⟨hw1, hw2⟩ ⟨C21, C22, ⟨ho1, ho2⟩, hpd, hd2, hC2⟩ hd1 op od b2
          have hB2 := hb.trans (b2.mono hb.size)
          rw [hW3] at h1
          refine ⟨C', h1, fun k hk => ?_, by rw [← hW3]; exact hB2.trans (((Below.refl _ _).alloc (Nat.le_refl _) _).mono hB2.size)⟩
          rcases h2 k hk with h | h | h
          · exact hC k ((hC1 k).2 (Or.inl h))
          · exact hC k ((hC1 k).2 (Or.inr h))
          · exact Nat.le_trans hb.size h
        rw [hW3]
        go_loopw [5, 10] (fun lv kv wk => ∃ (K : Nat) (C' : Nat → Prop), kv = .int .i64 (K : Int) ∧ K ≤ ps.length ∧ MetL ws (allPtrs list (ps.take K)).1 ∧
          Star (OwR 3 1 lv (allPtrs list (ps.take K)).1.length (Iw (allPtrs list (ps.take K)).1)) (Star (OwR 3 1 (.slice pp ps.length pc) ps.length (Iw ((allPtrs list (ps.take K)).2 ++ ps.drop K))) (RestQ (.slice po N co) N L w2.heap.size kd (.slice pp ps.length pc) (.slice dp ds.length dc) ds)) C' wk ∧ (∀ k, C' k → w.heap.size ≤ k) ∧ Below w.heap.size w wk) (fun _ kv _ => ps.length - (intOf kv).toNat)
        case atStart =>
          obtain ⟨C', h1, h2, h3⟩ := unhide HKS
          exact ⟨0, C', rfl, Nat.zero_le _, (unhide HQ).2.1, h1, h2, h3⟩
        case round =>
          obtain ⟨K, C', rfl, hK, hmet2, hst, hC', hbk⟩ := hrel
          obtain ⟨lst, hlst⟩ : ∃ lst, lst = (allPtrs list (ps.take K)).1 := ⟨_, rfl⟩
          obtain ⟨ns, hns⟩ : ∃ ns, ns = (allPtrs list (ps.take K)).2 := ⟨_, rfl⟩
          have hnl : ns.length = K := by rw [hns, allPtrs_len, List.length_take]; omega
          rw [← hlst, ← hns] at hst
          rw [← hlst] at hmet2
          have HLN := hide (And.intro hlst hns)
          have hle2 := hmet2.len
          obtain ⟨D1, D2, ⟨x1, x2⟩, ⟨D21, D22, ⟨y1, y2⟩, hrest, hd2, hD2⟩, hd1, hD1⟩ := hst
          obtain ⟨pl2, cl2, rfl⟩ := ownsV_shape x1
          obtain ⟨R1, R2, hr1, hr2, hr3, hr4⟩ := hrest
          obtain ⟨q0, q1, q2, qf⟩ := three_cells hr2.1
          have HST3 := hide (And.intro x1 (And.intro x2 (And.intro y1 (And.intro y2 (And.intro (show RestQ (.slice po N co) N L w2.heap.size kd (.slice pp ps.length pc) (.slice dp ds.length dc) ds D22 _ from ⟨R1, R2, hr1, hr2, hr3, hr4⟩) (And.intro hd2 (And.intro hD2 (And.intro hd1 hD1))))))))
          by_cases hKl : K < ps.length
          · have hKI : (K : Int) < (ps.length : Int) := by omega
            have hrp : VRow wr (.slice pp ps.length pc) (Iw (ns ++ ps.drop K)) := ownsV_row y1 (by simp only [List.length_map, List.length_append, List.length_drop]; omega)
            obtain ⟨bp, ofp, pc', e0, _, _, hcp⟩ := hrp.open (by intro e; have := congrArg List.length e; simp only [List.length_map, List.length_append, List.length_drop, List.length_nil] at this; omega)
            have hlp : (Iw (ns ++ ps.drop K)).length = ps.length := by simp only [List.length_map, List.length_append, List.length_drop]; omega
            simp only [Value.slice.injEq] at e0
            obtain ⟨rfl, e1, rfl⟩ := e0
            obtain rfl : ofp = 0 := by
              rcases y1.2 with ⟨h, _⟩ | ⟨g', cap', cur, h, _⟩
              · cases h
              · simp only [Value.slice.injEq, Option.some.injEq, Addr.mk.injEq] at h; exact h.1.2.1
            have hcK := hcp K (.int .i64 ps[K]) (by
              rw [List.getElem?_map, List.getElem?_append_right (by omega), hnl, Nat.sub_self, List.getElem?_drop, Nat.add_zero, List.getElem?_eq_getElem hKl]; rfl)
            rw [Nat.zero_add] at hcK
            have hq0 := (unhide HQ).1 ps[K] (List.getElem_mem hKl)
            have HTK := hide (show ps.take (K + 1) = ps.take K ++ [ps[K]] from List.take_succ_eq_append_getElem hKl)
            have HDK := hide (show ps.drop K = ps[K] :: ps.drop (K + 1) from List.drop_eq_getElem_cons hKl)
            generalize ps[K] = q at *
            have hrl : VRow wr (.slice pl2 lst.length cl2) (Iw lst) := ownsV_row x1 (by simp)
            obtain ⟨wk, rfl⟩ : ∃ wk, wk = wr := ⟨_, rfl⟩
            have HCJ := hide (fun (X : World) (hb : Below wk.heap.size wk X) => show X.cell? ⟨w2.heap.size, 0, none⟩ = some (.int .i64 kd) ∧ X.cell? ⟨w2.heap.size, 1, none⟩ = some (.slice (some ⟨bp, 0, none⟩) ps.length pc) ∧ X.cell? ⟨w2.heap.size, 2, none⟩ = some (.slice dp ds.length dc) ∧ X.cell? ⟨bp, K, none⟩ = some (.int .i64 q) ∧ VRow X (.slice pl2 lst.length cl2) (Iw lst) from
              ⟨(hb.cell (World.block_lt_of_cell? wk _ q0)).trans q0, (hb.cell (World.block_lt_of_cell? wk _ q1)).trans q1, (hb.cell (World.block_lt_of_cell? wk _ q2)).trans q2, (hb.cell (World.block_lt_of_cell? wk _ hcK)).trans hcK, hrl.below hb⟩)
            have hll : lst.length ≤ 1048576 := by have := (unhide HN).2.2.2.1; omega
            have HK := hide (And.intro hK (And.intro hmet2 (And.intro hC' (And.intro hbk (And.intro hnl (And.intro hKl (And.intro hll hq0)))))))
            clear hK hmet2 hC' hbk hnl hKl hq0 x1 x2 y1 y2 hd2 hD2 hd1 hD1 hr1 hr2 hr3 hr4 qf hrp hcp hlp e1 hle2 hlst hns hrl q0 q2 hcK
            go_wp2_with fail
            go_loopw [11, 12] (fun nv jv wj => ∃ J : Nat, jv = .int .i64 (J : Int) ∧ J ≤ lst.length ∧ nv = .int .i64 (lastIx q (lst.take J) 0 (-1)) ∧ Below wk.heap.size wk wj) (fun _ jv _ => lst.length - (intOf jv).toNat)
            case atStart => exact ⟨0, rfl, Nat.zero_le _, rfl, Below.refl _ _⟩
            case round =>
              obtain ⟨J, rfl, hJ, rfl, hbj⟩ := hrel
              obtain ⟨q0, q1, q2, qK, hrl⟩ := unhide HCJ _ hbj
              by_cases hJl : J < lst.length
              · have hJI : (J : Int) < (lst.length : Int) := by omega
                obtain ⟨b5, o5, c5, e5, _, _, hcl5⟩ := hrl.open (by intro e; have := congrArg List.length e; simp at this; rw [this] at hJl; simp at hJl)
                simp only [Value.slice.injEq] at e5
                obtain ⟨rfl, e51, rfl⟩ := e5
                have hcJ := hcl5 J (.int .i64 lst[J]) (by rw [List.getElem?_map, List.getElem?_eq_getElem hJl]; rfl)
                have HTJ := hide (show lst.take (J + 1) = lst.take J ++ [lst[J]] from List.take_succ_eq_append_getElem hJl)
                have htl : (lst.take J).length = J := by rw [List.length_take]; omega
                generalize lst[J] = z at *
                have hJw : IntKind.i64.wrap ((J : Int) + 1) = (J : Int) + 1 := by rw [IntKind.wrap_i64]; omega
                have HJ2 := hide (And.intro hJl (And.intro htl hbj))
                clear hJ hJl hcl5 e51 hrl htl hbj q0 q2
                rcases Decidable.em (z = q) with hz | hz
                · subst hz
                  go_wp2_with fail
                  refine wp_region_still_lit hmx (by kernel_rfl) ?_
                  repeat (first | still_step)
                  refine wpStill_nil ?_
                  go_wp2_with fail
                  go_roundw
                  case rel =>
                    obtain ⟨j1, j2, j3⟩ := unhide HJ2
                    refine ⟨J + 1, by go_num, j1, ?_, j3.trans ((Below.refl _ _).drew.mono j3.size)⟩
                    rw [unhide HTJ, lastIx_snoc, if_pos rfl, j2, Nat.zero_add]
                  case measure => (have := (unhide HJ2).1; simp [intOf]; omega)
                · have hzf : (z == q) = false := by simp [hz]
                  have hz2 := hide hz
                  clear hz
                  go_wp2_with fail
                  refine wp_region_still_lit hmx (by kernel_rfl) ?_
                  repeat (first | still_step)
                  refine wpStill_nil ?_
                  go_wp2_with fail
                  go_roundw
                  case rel =>
                    obtain ⟨j1, j2, j3⟩ := unhide HJ2
                    refine ⟨J + 1, by go_num, j1, ?_, j3.trans ((Below.refl _ _).drew.mono j3.size)⟩
                    rw [unhide HTJ, lastIx_snoc, if_neg (unhide hz2)]
                  case measure => (have := (unhide HJ2).1; simp [intOf]; omega)
              · have hJe : J = lst.length := by omega
                subst hJe
                rw [List.take_length, show lastIx q lst 0 (-1) = numOf lst q from rfl]
                have HBJ := hide hbj
                have hbj2 := hbj
                have hlw : IntKind.i64.wrap (lst.length : Int) = (lst.length : Int) := by have := (unhide HK).2.2.2.2.2.2.1; rw [IntKind.wrap_i64]; omega
                clear hJ hJl hrl hbj
                generalize hno : numOf lst q = no at *
                obtain ⟨x1, x2, y1, y2, hrest, hd2, hD2, hd1, hD1⟩ := unhide HST3
                obtain ⟨k1, k2, k3, k4, k5, k6, k7, k8⟩ := unhide HK
                have hstk := (Star.ok (OwR.ok ..) (Star.ok (OwR.ok ..) (RestQ.ok ..))).below (show Star (OwR 3 1 (.slice pl2 lst.length cl2) lst.length (Iw lst)) (Star (OwR 3 1 (.slice (some ⟨bp, 0, none⟩) ps.length pc) ps.length (Iw (ns ++ ps.drop K))) (RestQ (.slice po N co) N L w2.heap.size kd (.slice (some ⟨bp, 0, none⟩) ps.length pc) (.slice dp ds.length dc) ds)) C' wk from ⟨D1, D2, ⟨x1, x2⟩, ⟨D21, D22, ⟨y1, y2⟩, hrest, hd2, hD2⟩, hd1, hD1⟩) hbj2
                have hbw := k4.trans (hbj2.mono k4.size)
                have HREL : Hid (∀ (lv : Value) (C2 : Nat → Prop) (X : World), Star (OwR 3 1 lv (onePtr lst q).1.length (Iw (onePtr lst q).1)) (Star (OwR 3 1 (.slice (some ⟨bp, 0, none⟩) ps.length pc) ps.length (Iw (ns ++ ps.drop K))) (RestQ (.slice po N co) N L w2.heap.size kd (.slice (some ⟨bp, 0, none⟩) ps.length pc) (.slice dp ds.length dc) ds)) C2 X → (∀ k, C2 k → w.heap.size ≤ k) → Below w.heap.size w X →
                    ∃ (K' : Nat) (C' : Nat → Prop), Value.int .i64 ((K : Int) + 1) = .int .i64 (K' : Int) ∧ K' ≤ ps.length ∧ MetL ws (allPtrs list (ps.take K')).1 ∧
                      Star (OwR 3 1 lv (allPtrs list (ps.take K')).1.length (Iw (allPtrs list (ps.take K')).1)) (Star (OwR 3 1 (.slice (some ⟨bp, 0, none⟩) ps.length pc) ps.length (Iw ((allPtrs list (ps.take K')).2 ++ ps.drop K'))) (RestQ (.slice po N co) N L w2.heap.size kd (.slice (some ⟨bp, 0, none⟩) ps.length pc) (.slice dp ds.length dc) ds)) C' (X.setCell ⟨bp, K, none⟩ (.int .i64 (onePtr lst q).2)) ∧ (∀ k, C' k → w.heap.size ≤ k) ∧ Below w.heap.size w (X.setCell ⟨bp, K, none⟩ (.int .i64 (onePtr lst q).2))) := by
                  intro lv C2 X hst hC2 hbX
                  obtain ⟨h1, h2⟩ := row_set (OwR.ok ..) (RestQ.ok ..) hst K (.int .i64 (onePtr lst q).2)
                  have eA : allPtrs list (ps.take (K + 1)) = ((onePtr lst q).1, ns ++ [(onePtr lst q).2]) := by
                    rw [unhide HTK, allPtrs_snoc, ← (unhide HLN).1, ← (unhide HLN).2]
                  refine ⟨K + 1, C2, rfl, k6, ?_, ?_, hC2, hbX.trans (h2.below hbX.size hC2)⟩
                  · rw [eA]; exact k2.one k8
                  · rw [eA]
                    dsimp only
                    rw [unhide HDK, set_mid _ _ _ _ _ k5] at h1
                    exact h1
                have HSTW := hide (And.intro hstk (And.intro k3 hbw))
                have hll := k7
                clear x1 x2 y1 y2 hrest hd2 hD2 hd1 hD1 k1 k2 k3 k4 k5 k6 k7 k8 hbj2 hstk hbw
                have hKw : IntKind.i64.wrap ((K : Int) + 1) = (K : Int) + 1 := by have := (unhide HN).2.2.2.2; have := (unhide HK).2.2.2.2.2.1; rw [IntKind.wrap_i64]; omega
                rcases Decidable.em (no < 0 ∧ q ≠ 0) with hneg | hneg
                · have hone : onePtr lst q = (lst ++ [q], (lst.length : Int)) := by unfold onePtr; rw [hno, if_pos hneg]
                  obtain ⟨hneg, hq0⟩ := hneg
                  have hqt : (q != 0) = true := by simp [hq0]
                  obtain ⟨hstk, hCk, hbw⟩ := unhide HSTW
                  obtain ⟨q0, q1, q2, qf, qc⟩ := kcells hstk
                  have qK := qc K (.int .i64 q) (by rw [List.getElem?_map, unhide HDK, List.getElem?_append_right (by rw [(unhide HK).2.2.2.2.1]; exact Nat.le_refl _), (unhide HK).2.2.2.2.1, Nat.sub_self]; rfl)
                  have hbX : Below wr.heap.size wr (wr.alloc (.cells #[.int .i64 q] 3)) := (Below.refl _ _).alloc (Nat.le_refl _) _
                  have HOWL := hide (ownsV_keep (F := fun _ => False) (show wr.ownsRow 0 3 1 (.slice pl2 lst.length cl2) lst.length (Iw lst) from by obtain ⟨_, _, h, _⟩ := hstk; exact h.1) (Keep.of_below hbX) (fun _ _ => id))
                  have HNW4 := hide (show ∀ (j : Nat) (u : Value), [Value.int .i64 q][j]? = some u → (wr.alloc (.cells #[.int .i64 q] 3)).cell? ((⟨wr.heap.size, 0, none⟩ : Addr).add j) = some u from fun j u hj => by match j, hj with | 0, hj => (simp at hj; subst hj; simp [Addr.add]))
                  have HBX := hide hbX
                  clear hstk hCk hbw qf qc hq0 hbX q0 q2
                  go_wp2_with (first
                    | (at_builtin; refine wpList_append_gen rfl _ _ 33 rfl 0 3 ii (.int .i64 0) Try.underlying33 hii hi0 1 8 (by omega) hi1 hi2 rfl (.slice pl2 lst.length cl2) lst.length (Iw lst) rfl (unhide HOWL) ⟨wr.heap.size, 0, none⟩ 1 1 [.int .i64 q] rfl rfl (unhide HNW4) (by intro u hu; simp at hu; subst hu; rfl) (by unfold maxLen; omega) (by omega) (Nat.zero_le _) ?_))
                  intro v4 w4 hown4 hg4 hob4
                  obtain ⟨hstk, hCk, hbw⟩ := unhide HSTW
                  obtain ⟨C4, hst4, hm4⟩ := row_app (Star.ok (OwR.ok ..) (RestQ.ok ..)) hstk (unhide HBX) (show w4.ownsRow 0 3 1 v4 (onePtr lst q).1.length (Iw (onePtr lst q).1) from by rw [hone]; simpa using hown4) hg4 (by rw [World.size_alloc]; exact hob4)
                  obtain ⟨q0, q1, q2, qf, qc⟩ := kcells hst4
                  have qfK := qf K
                  have qK4 := qc K (.int .i64 q) (by rw [List.getElem?_map, unhide HDK, List.getElem?_append_right (by rw [(unhide HK).2.2.2.2.1]; exact Nat.le_refl _), (unhide HK).2.2.2.2.1, Nat.sub_self]; rfl)
                  have HR4 := hide (unhide HREL v4 C4 w4 hst4 (fun k hk => by
                    rcases hm4.sub k hk with h | h
                    · exact hCk k h
                    · exact Nat.le_trans hbw.size h) (hbw.trans (hm4.keep.below hbw.size hCk)))
                  rw [hone] at HR4
                  obtain ⟨p4, c4, rfl⟩ := ownsV_shape hown4
                  clear hown4 hg4 hob4 hstk hCk hbw hst4 hm4 qf qc q0 q2
                  go_wp2_with fail
                  exact ⟨unhide HR4, by have := (unhide HK).2.2.2.2.2.1; simp [intOf]; omega⟩
                · have hone : onePtr lst q = (lst, no) := by unfold onePtr; rw [hno, if_neg hneg]
                  obtain ⟨hstk, hCk, hbw⟩ := unhide HSTW
                  obtain ⟨q0, q1, q2, qf, qc⟩ := kcells hstk
                  have qK := qc K (.int .i64 q) (by rw [List.getElem?_map, unhide HDK, List.getElem?_append_right (by rw [(unhide HK).2.2.2.2.1]; exact Nat.le_refl _), (unhide HK).2.2.2.2.1, Nat.sub_self]; rfl)
                  have qfK := qf K
                  have HR4 := hide (unhide HREL _ _ wr (by rw [hone]; exact hstk) hCk hbw)
                  rw [hone] at HR4
                  clear hstk hCk hbw qf qc q0 q2
                  rcases Decidable.em (no < 0) with h1 | h1
                  · have hq0 : q = 0 := Decidable.byContradiction fun h => hneg ⟨h1, h⟩
                    subst hq0
                    clear hneg
                    go_wp2_with fail
                    exact ⟨unhide HR4, by have := (unhide HK).2.2.2.2.2.1; simp [intOf]; omega⟩
                  · have h2 : (0 : Int) ≤ no := by omega
                    clear hneg h1
                    go_wp2_with fail
                    exact ⟨unhide HR4, by have := (unhide HK).2.2.2.2.2.1; simp [intOf]; omega⟩
          · have hKe : K = ps.length := by omega
            subst hKe
            rw [List.take_length] at hlst hns
            rw [List.drop_length, List.append_nil] at y1
            have hge : ¬ ((ps.length : Int) < (ps.length : Int)) := by omega
            obtain ⟨x1, x2, _, y2, hrest, hd2, hD2, hd1, hD1⟩ := unhide HST3
            have hst : Star (OwR 3 1 (.slice pl2 lst.length cl2) lst.length (Iw lst)) (Star (OwR 3 1 (.slice pp ps.length pc) ps.length (Iw ns)) (RestQ (.slice po N co) N L w2.heap.size kd (.slice pp ps.length pc) (.slice dp ds.length dc) ds)) C' wr := ⟨D1, D2, ⟨x1, x2⟩, ⟨D21, D22, ⟨y1, y2⟩, hrest, hd2, hD2⟩, hd1, hD1⟩
            have HSTE := hide (And.intro hst (And.intro hC' (And.intro hbk (And.intro hmet2 (And.intro hnl (And.intro hlst hns))))))
            have hbX : Below wr.heap.size wr (wr.alloc (.cells #[.int .i64 kd, .slice pp ps.length pc, .slice dp ds.length dc] 35)) := (Below.refl _ _).alloc (Nat.le_refl _) _
            have HBX := hide hbX
            have HOWO := hide (ownsV_keep (F := fun _ => False) (show wr.ownsRow 0 35 3 (.slice po N co) N (toV L) from by obtain ⟨_, _, h, _⟩ := hr1; exact h.1) (Keep.of_below hbX) (fun _ _ => id))
            have HNWO : Hid (∀ (j : Nat) (u : Value), [Value.int .i64 kd, .slice pp ps.length pc, .slice dp ds.length dc][j]? = some u → (wr.alloc (.cells #[.int .i64 kd, .slice pp ps.length pc, .slice dp ds.length dc] 35)).cell? ((⟨wr.heap.size, 0, none⟩ : Addr).add j) = some u) := fun j u hj => by
              match j, hj with
              | 0, hj => simp at hj; subst hj; simp [Addr.add]
              | 1, hj => simp at hj; subst hj; simp [Addr.add]
              | 2, hj => simp at hj; subst hj; simp [Addr.add]
            have hNl : N ≤ 1048576 := by have := unhide HN; omega
            clear x1 x2 y1 y2 hrest hd2 hD2 hd1 hD1 hr1 hr2 hr3 hr4 qf hst hC' hbk hmet2 hnl hlst hns hK hKl hle2 hbX HST3
            go_wp2_with (first
              | (at_builtin; refine wpList_append_gen rfl _ _ 36 rfl 0 35 io _ Try.underlying36 hio ho0 3 56 (by omega) ho1 ho2 rfl (.slice po N co) N (toV L) rfl (unhide HOWO) ⟨wr.heap.size, 0, none⟩ 1 1 [.int .i64 kd, .slice pp ps.length pc, .slice dp ds.length dc] rfl rfl (unhide HNWO) (by intro u hu; simp at hu; rcases hu with rfl | rfl | rfl <;> rfl) (by unfold maxLen; omega) (by omega) (Nat.zero_le _) ?_))
            intro v7 w7 hown7 hg7 hob7
            obtain ⟨hst, hC', hbk, hmet2, hnl, hlst, hns⟩ := unhide HSTE
            have hown7' : w7.ownsRow 0 35 3 v7 (N + 1) (toV (L ++ [((kd, ns, ds), .slice pp ps.length pc, .slice dp ds.length dc)])) := by
              unfold toV at hown7 ⊢
              rw [List.flatMap_append]
              exact hown7
            obtain ⟨C7, hst7, hm7⟩ := kend (OwR.ok ..) hst hnl.symm (unhide HBX) hown7' hg7 (by rw [World.size_alloc]; exact hob7)
            have HFIN : Hid (∃ (N' : Nat) (C : Nat → Prop) (L : List TO), Value.int .i64 ((N : Int) + 1) = .int .i64 (N' : Int) ∧ N' ≤ (seenN ws l0 N').1.length ∧ L.map Prod.fst = (seenN ws l0 N').2 ∧ L.length = N' ∧ MetL ws (seenN ws l0 N').1 ∧
                Star (OwR 3 1 (.slice pl2 lst.length cl2) (seenN ws l0 N').1.length (Iw (seenN ws l0 N').1)) (Star (OwR 35 3 v7 N' (toV L)) (PDg L)) C w7 ∧ (∀ k, C k → w.heap.size ≤ k) ∧ Below w.heap.size w w7) := by
              have hS := unhide HSN
              rw [← hlst, ← hns] at hS
              refine ⟨N + 1, C7, L ++ [((kd, ns, ds), .slice pp ps.length pc, .slice dp ds.length dc)], rfl, ?_, ?_, ?_, ?_, ?_, fun k hk => ?_, hbk.trans (hm7.keep.below hbk.size hC')⟩
              · rw [hS]
                dsimp only
                obtain ⟨m, hm⟩ := allPtrs_pre ps list
                rw [hlst, hm, List.length_append]
                have := (unhide HN).2.1
                omega
              · rw [hS, List.map_append, (unhide HQ).2.2.1]; rfl
              · rw [List.length_append, (unhide HQ).2.2.2.1]; rfl
              · rw [hS]; exact hmet2
              · rw [hS]; exact hst7
              · rcases hm7.sub k hk with h | h
                · exact hC' k h
                · exact Nat.le_trans hbk.size h
            obtain ⟨p7, c7, rfl⟩ := ownsV_shape hown7
            have hNw : IntKind.i64.wrap ((N : Int) + 1) = (N : Int) + 1 := by rw [IntKind.wrap_i64]; omega
            clear hst hC' hbk hmet2 hnl hlst hns hown7 hown7' hst7 hm7 hg7 hob7
            go_wp2_with fail
            exact ⟨unhide HFIN, by have := unhide HN; simp [intOf]; omega⟩
      · have hge : ¬ ((N : Int) < (list.length : Int)) := by omega
        have HE := hide (show OL wr (.slice po N co) (seenN ws l0 N).2 ∧ (seenN ws l0 N).1.length ≤ N ∧ Below w.heap.size w wr from ⟨by rw [← hLo]; exact ol_own (by rw [hLl]; exact ho1) hpd, by rw [← hlist]; omega, hb⟩)
        clear hmet hLo hLl hw1 hw2 ho1 ho2 hpd hd2 hC2 hd1 hC1 hN hlt hle hws hC hb hlist
        go_wp2_with fail
        go_ret
        exact ⟨N, _, rfl, (unhide HE).1, (unhide HE).2.1, (unhide HE).2.2⟩
end Go.Proofs.Ytlbhhdldeaehkaa
