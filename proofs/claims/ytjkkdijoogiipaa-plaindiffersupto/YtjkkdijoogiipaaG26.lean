/- Texts of ours, one behind the other: PlDifR0, PlDifR. -/
import Derived.Test.YtjkkdijoogiipaaG14
import Derived.Test.YtjkkdijoogiipaaG20
import Derived.Test.YtjkkdijoogiipaaG21
import Derived.Test.YtjkkdijoogiipaaG25
/- The document's own answer: Differ. -/
namespace Go.Proofs.Ytjkkdijoogiipaa
open Go.RowKit

/-- The same world, but for what it drew. -/
def Dn (w w' : World) : Prop := ∃ n, w' = { w with drawn := n }
theorem Dn.refl (w : World) : Dn w w := ⟨w.drawn, rfl⟩
theorem Dn.trans {w w' w'' : World} (h : Dn w w') (h2 : Dn w' w'') : Dn w w'' := by
  obtain ⟨n, rfl⟩ := h
  obtain ⟨m, rfl⟩ := h2
  exact ⟨m, rfl⟩
theorem Dn.drew {w w' : World} (h : Dn w w') : Dn w w'.drew := h.trans ⟨_, rfl⟩
theorem Dn.below {w w' : World} (h : Dn w w') : Below w.heap.size w w' := by
  obtain ⟨n, rfl⟩ := h
  exact ⟨rfl, rfl, rfl, Nat.le_refl _, fun _ _ => rfl⟩

theorem rless_dn (a b : ByteArray) (w : World) (ha : a.size ≤ 140737488351232) : Calls Try.prog 22 #[.string a, .string b] w fun e w' => e = .returned (.bool (tl a.toList b.toList)) ∧ Dn w w' := by
  go_enter Try.func22, Try.ntmps22
  go_wp2
  go_loopw [5] (fun i wr => ∃ k : Nat, k ≤ a.size ∧ k ≤ b.size ∧ i = .int .i64 (k : Int) ∧ Hid (a.toList.take k = b.toList.take k) ∧ Dn w wr) (fun i _ => a.size - (intOf i).toNat)
  case atStart => exact ⟨0, Nat.zero_le _, Nat.zero_le _, rfl, rfl, Dn.refl _⟩
  case round =>
    obtain ⟨k, hk1, hk2, rfl, ht, hbel⟩ := hrel
    by_cases h1 : k < a.size
    · by_cases h2 : k < b.size
      · have i1 : (k : Int) < (a.size : Int) := by omega
        have i2 : (k : Int) < (b.size : Int) := by omega
        by_cases hd : a[k].toNat = b[k].toNat
        · have HT := khide (take_step h1 h2 (UInt8.toNat_inj.1 hd) ht.out)
          have hd2 : ((a[k].toNat : Int) != (b[k].toNat : Int)) = false := by rw [hd]; simp
          have hd3 : ¬ ((a[k].toNat : Int) ≠ (b[k].toNat : Int)) := by rw [hd]; simp
          clear hd
          go_wp2
          go_region
          go_wp2
          go_roundw
          case rel => exact ⟨k + 1, by omega, by omega, by go_num, kunhide HT, hbel.drew⟩
          case measure => simp [intOf]; omega
        · have HT := khide (tl_differ h1 h2 hd ht.out)
          have hd2 : ((a[k].toNat : Int) != (b[k].toNat : Int)) = true := by simp; omega
          go_wp2
          go_region
          go_wp2
          go_region
          go_wp2
          go_ret
          refine ⟨?_, hbel.drew.drew⟩
          rw [kunhide HT]
          simp
      · have HT := khide (tl_end hk1 hk2 (fun h => h2 h.2) ht.out)
        have i1 : (k : Int) < (a.size : Int) := by omega
        have i2 : ¬ (k : Int) < (b.size : Int) := by omega
        go_wp2
        go_ret
        refine ⟨?_, hbel⟩
        rw [kunhide HT]
        simp
    · have HT := khide (tl_end hk1 hk2 (fun h => h1 h.1) ht.out)
      have i1 : ¬ (k : Int) < (a.size : Int) := by omega
      go_wp2
      go_ret
      refine ⟨?_, hbel⟩
      rw [kunhide HT]
      simp

/-- A new difference's variable, as made. -/
def dz : Obj := .cells #[.string ⟨#[]⟩, .bool false, .bool false, .slice none 0 0, .slice none 0 0] 31 (0, 0)
theorem alloc_dz {w W : World} {g : Nat} (hg : g = w.heap.size) (a : Act) (h : Dn w W) : ∃ w', (execOp a.eval ⟨some 8, .alloc 31, 0, "plain.go:88", #[], none⟩).run Try.prog W = .ok (.value (.pointer (some ⟨g, 0, none⟩))) w' ∧ Dn (w.alloc dz) w' := by
  obtain ⟨i0, hi, hz0, hz1, hz2⟩ := info_parts Try.infoDiff
  obtain ⟨dn, rfl⟩ := h
  subst hg
  go_simp
  exact ⟨dn, rfl⟩
theorem dz_open {w W : World} {g : Nat} (hg : g = w.heap.size) (h : Dn (w.alloc dz) W) : W.heap[g]? = some (.cells #[.string ⟨#[]⟩, .bool false, .bool false, .slice none 0 0, .slice none 0 0] 31 (0, 0)) ∧ Below w.heap.size w W := by
  obtain ⟨dn, rfl⟩ := h
  subst hg
  exact ⟨heap_alloc_new _ _, ((Below.refl _ w).alloc (Nat.le_refl _) _).trans ((show Dn (w.alloc dz) _ from ⟨dn, rfl⟩).below.mono (by simp))⟩
theorem set_five {w : World} {g : Nat} {a b c d e a' b' c' d' e' : Value} (h : w.heap[g]? = some (.cells #[a, b, c, d, e] 31 (0, 0))) : (((((w.setCell ⟨g, 0, none⟩ a').setCell ⟨g, 1, none⟩ b').setCell ⟨g, 2, none⟩ c').setCell ⟨g, 3, none⟩ d').setCell ⟨g, 4, none⟩ e').heap[g]? = some (.cells #[a', b', c', d', e'] 31 (0, 0)) ∧ Keep (fun k => k = g) w (((((w.setCell ⟨g, 0, none⟩ a').setCell ⟨g, 1, none⟩ b').setCell ⟨g, 2, none⟩ c').setCell ⟨g, 3, none⟩ d').setCell ⟨g, 4, none⟩ e') := by
  have h1 := heap_setCell_same w g 0 _ _ a' h
  have h2 := heap_setCell_same _ g 1 _ _ b' h1
  have h3 := heap_setCell_same _ g 2 _ _ c' h2
  have h4 := heap_setCell_same _ g 3 _ _ d' h3
  exact ⟨heap_setCell_same _ g 4 _ _ e' h4, (((kset7.trans kset7 (fun _ h => Or.inl h)).trans kset7 (fun _ h => Or.inl h)).trans kset7 (fun _ h => Or.inl h)).trans kset7 (fun _ h => Or.inl h)⟩
theorem set_k3 {w : World} {g : Nat} {a b c d e x y : Value} (h : w.heap[g]? = some (.cells #[a, b, c, d, e] 31 (0, 0))) : ((w.setCell ⟨g, 0, none⟩ x).setCell ⟨g, 3, none⟩ y).heap[g]? = some (.cells #[x, b, c, y, e] 31 (0, 0)) ∧ Keep (fun k => k = g) w ((w.setCell ⟨g, 0, none⟩ x).setCell ⟨g, 3, none⟩ y) := by
  have h1 := heap_setCell_same w g 0 _ _ x h
  exact ⟨heap_setCell_same _ g 3 _ _ y h1, kset7.trans kset7 (fun _ h => Or.inl h)⟩
theorem set_k4 {w : World} {g : Nat} {a b c d e x y : Value} (h : w.heap[g]? = some (.cells #[a, b, c, d, e] 31 (0, 0))) : ((w.setCell ⟨g, 0, none⟩ x).setCell ⟨g, 4, none⟩ y).heap[g]? = some (.cells #[x, b, c, d, y] 31 (0, 0)) ∧ Keep (fun k => k = g) w ((w.setCell ⟨g, 0, none⟩ x).setCell ⟨g, 4, none⟩ y) := by
  have h1 := heap_setCell_same w g 0 _ _ x h
  exact ⟨heap_setCell_same _ g 4 _ _ y h1, kset7.trans kset7 (fun _ h => Or.inl h)⟩
/-- What a difference's variable in memory holds, made since wr. -/
structure Dvr (wr X : World) (g : Nat) (o : Dv) : Prop where
  blk : X.heap[g]? = some (.cells #[.string o.key, .bool o.was, .bool o.is, .slice o.op o.on o.oc, .slice o.np o.nn o.nc] 31 (0, 0))
  ge : g = wr.heap.size
  bel : Below wr.heap.size wr X
/-- Copying a thing's value while the variable stands. -/
theorem dvr_copy {w wr X W : World} {g b o1 j : Nat} {o : Dv} {ak : ByteArray} {ap : Option Addr} {an ac : Nat} {av : List UInt8} (h : Dvr wr X g o) (hw : Below w.heap.size w wr) (hl : av.length ≤ 140737488351232) (hs : ∀ W : World, Below w.heap.size w W → W.cell? ⟨b, o1 + j * 2, none⟩ = some (.string ak) ∧ W.cell? ⟨b, o1 + j * 2 + 1, none⟩ = some (.slice ap an ac) ∧ Row W (.slice ap an ac) av) (hXW : Below X.heap.size X W) :
    Calls Try.prog 11 #[.slice ap an ac] W fun e w5 => ∃ tp tn tc, e = .returned (.slice tp tn tc) ∧ w5.cell? ⟨b, o1 + j * 2, none⟩ = some (.string ak) ∧ (w5.cell? ⟨g, 0, none⟩ = some (.string o.key) ∧ w5.cell? ⟨g, 1, none⟩ = some (.bool o.was) ∧ w5.cell? ⟨g, 2, none⟩ = some (.bool o.is) ∧ w5.cell? ⟨g, 3, none⟩ = some (.slice o.op o.on o.oc) ∧ w5.cell? ⟨g, 4, none⟩ = some (.slice o.np o.nn o.nc)) ∧ (w5.frozen? ⟨g, 0, none⟩ = false ∧ w5.frozen? ⟨g, 3, none⟩ = false ∧ w5.frozen? ⟨g, 4, none⟩ = false) ∧ Hid (Dvr wr w5 g o ∧ Mine w5 X.heap.size (.slice tp tn tc) av ∧ Below X.heap.size X w5) := by
  have hb := h.bel.trans (hXW.mono h.bel.size)
  have hwW := hw.trans (hb.mono hw.size)
  refine (copyBytes_any _ _ W (hs W hwW).2.2 hl).mono ?_
  rintro e w5 ⟨t, rfl, ho5, hb5⟩
  have m5 := (mine_of_owns ho5).base hXW.size
  obtain ⟨tp, tn, tc, rfl⟩ := mine_opv m5
  have hX5 := hXW.trans (hb5.mono hXW.size)
  have h5 := (hX5.block g (Array.getElem?_eq_some_iff.1 h.blk).1).trans h.blk
  obtain ⟨y0, y1, y2, y3, y4, yf⟩ := five_cells h5
  have hd : Dvr wr w5 g o := ⟨h5, h.ge, h.bel.trans (hX5.mono h.bel.size)⟩
  exact ⟨tp, tn, tc, rfl, (hs w5 (hw.trans (hd.bel.mono hw.size))).1, ⟨y0, y1, y2, y3, y4⟩, ⟨yf 0, yf 3, yf 4⟩, hd, m5, hX5⟩
theorem Dvr.old {wr X : World} {g : Nat} {o : Dv} (h : Dvr wr X g o) (ak : ByteArray) (tp : Option Addr) (tn tc : Nat) : Dvr wr ((X.setCell ⟨g, 0, none⟩ (.string ak)).setCell ⟨g, 3, none⟩ (.slice tp tn tc)) g { o with key := ak, op := tp, on := tn, oc := tc } ∧ Keep (fun k => k = g) X ((X.setCell ⟨g, 0, none⟩ (.string ak)).setCell ⟨g, 3, none⟩ (.slice tp tn tc)) := by
  obtain ⟨h1, k1⟩ := set_k3 (x := .string ak) (y := .slice tp tn tc) h.blk
  exact ⟨⟨h1, h.ge, h.bel.trans (k1.below h.bel.size (fun k e => by rw [e, h.ge]; exact Nat.le_refl _))⟩, k1⟩
theorem Dvr.new {wr X : World} {g : Nat} {o : Dv} (h : Dvr wr X g o) (ak : ByteArray) (tp : Option Addr) (tn tc : Nat) : Dvr wr ((X.setCell ⟨g, 0, none⟩ (.string ak)).setCell ⟨g, 4, none⟩ (.slice tp tn tc)) g { o with key := ak, np := tp, nn := tn, nc := tc } ∧ Keep (fun k => k = g) X ((X.setCell ⟨g, 0, none⟩ (.string ak)).setCell ⟨g, 4, none⟩ (.slice tp tn tc)) := by
  obtain ⟨h1, k1⟩ := set_k4 (x := .string ak) (y := .slice tp tn tc) h.blk
  exact ⟨⟨h1, h.ge, h.bel.trans (k1.below h.bel.size (fun k e => by rw [e, h.ge]; exact Nat.le_refl _))⟩, k1⟩
theorem dvr_first {wr W : World} {g : Nat} (hg : g = wr.heap.size) (h : Dn (wr.alloc dz) W) (p q : Bool) : Dvr wr (((((W.setCell ⟨g, 0, none⟩ (.string ⟨#[]⟩)).setCell ⟨g, 1, none⟩ (.bool p)).setCell ⟨g, 2, none⟩ (.bool q)).setCell ⟨g, 3, none⟩ (.slice none 0 0)).setCell ⟨g, 4, none⟩ (.slice none 0 0)) g ⟨⟨#[]⟩, p, q, none, 0, 0, none, 0, 0⟩ := by
  obtain ⟨h1, h2⟩ := dz_open hg h
  obtain ⟨h3, k3⟩ := set_five (a' := .string ⟨#[]⟩) (b' := .bool p) (c' := .bool q) (d' := .slice none 0 0) (e' := .slice none 0 0) h1
  exact ⟨h3, hg, h2.trans (k3.below h2.size (fun k e => by rw [e, hg]; exact Nat.le_refl _))⟩

/-- What the first region needs of a class of worlds. -/
structure IQ (a1 a2 : Addr) (xk yk : ByteArray) (p q : Bool) (C : World → Prop) : Prop where
  cel : ∀ W, C W → W.cell? a1 = some (.string xk) ∧ W.cell? a2 = some (.string yk)
  l1 : ∀ W, C W → Calls Try.prog 22 #[.string yk, .string xk] W fun e W' => e = .returned (.bool p) ∧ C W'
  l2 : ∀ W, C W → Calls Try.prog 22 #[.string xk, .string yk] W fun e W' => e = .returned (.bool q) ∧ C W'
theorem iq_dn {W0 : World} {a1 a2 : Addr} {xk yk : ByteArray} {p q : Bool} (h1 : W0.cell? a1 = some (.string xk)) (h2 : W0.cell? a2 = some (.string yk)) (hx : xk.size ≤ 140737488351232) (hy : yk.size ≤ 140737488351232) (hp : tl yk.toList xk.toList = p) (hq : tl xk.toList yk.toList = q) : IQ a1 a2 xk yk p q (Dn W0) := by
  refine ⟨?_, fun W hW => ?_, fun W hW => ?_⟩
  · rintro W ⟨n, rfl⟩
    exact ⟨h1, h2⟩
  · refine (rless_dn yk xk W hy).mono ?_
    rintro e W' ⟨h, hd⟩
    exact ⟨by rw [h, hp], hW.trans hd⟩
  · refine (rless_dn xk yk W hx).mono ?_
    rintro e W' ⟨h, hd⟩
    exact ⟨by rw [h, hq], hW.trans hd⟩
theorem drop_pd (L : List El) (i : Nat) (x : El) (hx : L[i]? = some x) : (pdat L).drop i = (x.1.key, x.2) :: (pdat L).drop (i + 1) := by
  obtain ⟨h, rfl⟩ := List.getElem?_eq_some_iff.1 hx
  have h2 : i < (pdat L).length := by rw [pdat_len]; exact h
  rw [List.drop_eq_getElem_cons h2, pdat_get L i h]
theorem drop_end (L : List El) (i : Nat) (h : i = L.length) : (pdat L).drop i = [] := by
  rw [List.drop_eq_nil_iff, pdat_len, h]
  exact Nat.le_refl _
theorem Dvr.oldF {wr X w5 : World} {g : Nat} {o : Dv} {ak : ByteArray} {tp : Option Addr} {tn tc : Nat} {av : List UInt8} (hg : g < X.heap.size) (h : Dvr wr w5 g o ∧ Mine w5 X.heap.size (.slice tp tn tc) av ∧ Below X.heap.size X w5) :
    Hid (Dvr wr ((w5.setCell ⟨g, 0, none⟩ (.string ak)).setCell ⟨g, 3, none⟩ (.slice tp tn tc)) g { o with key := ak, op := tp, on := tn, oc := tc } ∧ Mine ((w5.setCell ⟨g, 0, none⟩ (.string ak)).setCell ⟨g, 3, none⟩ (.slice tp tn tc)) X.heap.size (.slice tp tn tc) av ∧ Keep (fun k => k = g) X ((w5.setCell ⟨g, 0, none⟩ (.string ak)).setCell ⟨g, 3, none⟩ (.slice tp tn tc)) ∧ X.heap.size ≤ ((w5.setCell ⟨g, 0, none⟩ (.string ak)).setCell ⟨g, 3, none⟩ (.slice tp tn tc)).heap.size) := by
  obtain ⟨h1, h2, h3⟩ := h
  obtain ⟨d, k⟩ := h1.old ak tp tn tc
  exact ⟨d, mkeep7 h2 k (fun b hb e => by omega), (Keep.of_below (F := fun k => k = g) h3).trans k (fun _ h => Or.inl h), by simpa using h3.size⟩
theorem Dvr.newF {wr X w5 : World} {g : Nat} {o : Dv} {ak : ByteArray} {tp : Option Addr} {tn tc : Nat} {av : List UInt8} (hg : g < X.heap.size) (h : Dvr wr w5 g o ∧ Mine w5 X.heap.size (.slice tp tn tc) av ∧ Below X.heap.size X w5) :
    Hid (Dvr wr ((w5.setCell ⟨g, 0, none⟩ (.string ak)).setCell ⟨g, 4, none⟩ (.slice tp tn tc)) g { o with key := ak, np := tp, nn := tn, nc := tc } ∧ Mine ((w5.setCell ⟨g, 0, none⟩ (.string ak)).setCell ⟨g, 4, none⟩ (.slice tp tn tc)) X.heap.size (.slice tp tn tc) av ∧ Keep (fun k => k = g) X ((w5.setCell ⟨g, 0, none⟩ (.string ak)).setCell ⟨g, 4, none⟩ (.slice tp tn tc)) ∧ X.heap.size ≤ ((w5.setCell ⟨g, 0, none⟩ (.string ak)).setCell ⟨g, 4, none⟩ (.slice tp tn tc)).heap.size) := by
  obtain ⟨h1, h2, h3⟩ := h
  obtain ⟨d, k⟩ := h1.new ak tp tn tc
  exact ⟨d, mkeep7 h2 k (fun b hb e => by omega), (Keep.of_below (F := fun k => k = g) h3).trans k (fun _ h => Or.inl h), by simpa using h3.size⟩
theorem Dvr.lt {wr X : World} {g : Nat} {o : Dv} (h : Dvr wr X g o) : g < X.heap.size := (Array.getElem?_eq_some_iff.1 h.blk).1
/-- Several ways to one place. -/
theorem cut_many {G : Prop} (F : World → Option Addr → Nat → Nat → Prop) (h : ∃ P : World → Option Addr → Nat → Nat → Prop, ((∀ X p n c, F X p n c → P X p n c) → G) ∧ ∀ X p n c, F X p n c → P X p n c) : G := by
  obtain ⟨P, h1, h2⟩ := h
  exact h1 h2
end Go.Proofs.Ytjkkdijoogiipaa

/- The document's own answer: Differ. -/
namespace Go.Proofs.Ytjkkdijoogiipaa
open Go.RowKit

set_option maxRecDepth 20000 in
set_option maxHeartbeats 4000000 in
theorem rdiffer_yes (va vb : Value) (A B : List El) (w : World) (ha : EL 2 prC w va A) (hb : EL 2 prC w vb B) (hla : A.length ≤ 1048576) (hlb : B.length ≤ 1048576) (hA : rightD (pdat A) = true) (hB : rightD (pdat B) = true) (hka : ∀ x ∈ A, x.1.key.size ≤ 140737488351232 ∧ x.2.length ≤ 140737488351232) (hkb : ∀ x ∈ B, x.1.key.size ≤ 140737488351232 ∧ x.2.length ≤ 140737488351232) :
    Calls Try.prog 8 #[va, vb] w fun e w' => ∃ v D, e = .returned v ∧ DR w' w.heap.size v D ∧ ddat D = difD (pdat A) (pdat B) ∧ Below w.heap.size w w' := by
  obtain ⟨i0, hi, hz0, hz1, hz2⟩ := info_parts Try.infoDiff
  have HCA := hide (rright_any va A w ha (fun x hx => (hka x hx).1))
  rw [hA] at HCA
  have HCB := hide (fun W (h : Below w.heap.size w W) => rright_any vb B W (hb.below h) (fun x hx => (hkb x hx).1))
  rw [hB] at HCB
  obtain ⟨pa, ca, rfl, _⟩ := ha.shape
  obtain ⟨pb, cb, rfl, _⟩ := hb.shape
  have HSA : Hid (∀ (k : Nat) (x : El), A[k]? = some x → ∃ b o, pa = some ⟨b, o, none⟩ ∧ ∀ W : World, Below w.heap.size w W → W.cell? ⟨b, o + k * 2, none⟩ = some (.string x.1.key) ∧ W.cell? ⟨b, o + k * 2 + 1, none⟩ = some (vof x.1) ∧ Row W (vof x.1) x.2) := fun k x hx => by
    obtain ⟨hk, rfl⟩ := List.getElem?_eq_some_iff.1 hx
    obtain ⟨b, o, c, e, _, _, hs⟩ := ha.seenP (by omega)
    simp only [Value.slice.injEq] at e
    exact ⟨b, o, e.1, fun W hW => hs k hk W hW⟩
  have HSB : Hid (∀ (k : Nat) (x : El), B[k]? = some x → ∃ b o, pb = some ⟨b, o, none⟩ ∧ ∀ W : World, Below w.heap.size w W → W.cell? ⟨b, o + k * 2, none⟩ = some (.string x.1.key) ∧ W.cell? ⟨b, o + k * 2 + 1, none⟩ = some (vof x.1) ∧ Row W (vof x.1) x.2) := fun k x hx => by
    obtain ⟨hk, rfl⟩ := List.getElem?_eq_some_iff.1 hx
    obtain ⟨b, o, c, e, _, _, hs⟩ := hb.seenP (by omega)
    simp only [Value.slice.injEq] at e
    exact ⟨b, o, e.1, fun W hW => hs k hk W hW⟩
  obtain ⟨n, hn⟩ : ∃ n, n = A.length := ⟨_, rfl⟩
  obtain ⟨m, hm⟩ : ∃ m, m = B.length := ⟨_, rfl⟩
  rw [← hn] at HCA ⊢
  rw [← hm] at HCB ⊢
  have HN := hide hn
  have HM := hide hm
  have hn0 : n ≤ 1048576 := by omega
  have hm0 : m ≤ 1048576 := by omega
  have HKA := hide hka
  have HKB := hide hkb
  clear ha hb hla hlb hn hm hka hkb
  go_enter Try.func8, Try.ntmps8
  go_wp2_with fail
  refine Calls.mono (unhide HCA) ?_
  rintro e w1 ⟨rfl, b1⟩
  have HB1 := hide b1
  clear b1
  go_wp2_with fail
  refine Calls.mono (unhide HCB w1 (unhide HB1)) ?_
  rintro e w2 ⟨rfl, b2⟩
  have HB2 := hide ((unhide HB1).trans (b2.mono (unhide HB1).size))
  clear b2
  go_wp2_with fail
  go_loopw [6, 7, 5] (fun iv kv dv wr => ∃ (i k : Nat) (D : List Dm), i ≤ n ∧ k ≤ m ∧ iv = .int .i64 i ∧ kv = .int .i64 k ∧ Hid (D.length ≤ i + k) ∧ Hid (∃ f, (n - i) + (m - k) ≤ f ∧ ddat D ++ difF f ((pdat A).drop i) ((pdat B).drop k) = difD (pdat A) (pdat B)) ∧ Hid (DR wr w.heap.size dv D) ∧ Hid (Below w.heap.size w wr)) (fun iv kv _ _ => (n - (intOf iv).toNat) + (m - (intOf kv).toNat))
  case atStart => exact ⟨0, 0, [], Nat.zero_le _, Nat.zero_le _, rfl, rfl, Nat.zero_le _, by have e1 := unhide HN; have e2 := unhide HM; exact ⟨n + m, by omega, by simp [ddat, difD, pdat_len, e1, e2]⟩, DR.nil _ _, unhide HB2⟩
  case round =>
    obtain ⟨i, k, D, hin, hkm, rfl, rfl, h2, h3, h4, h5⟩ := hrel
    obtain ⟨dp, dc, rfl⟩ := (unhide h4).shape
    by_cases hz : i = n ∧ k = m
    · obtain ⟨rfl, rfl⟩ := hz
      have HEND := hide (show ddat D = difD (pdat A) (pdat B) by
        obtain ⟨f, _, h9⟩ := unhide h3
        rw [drop_end A i (unhide HN), drop_end B k (unhide HM), difF_nil, List.append_nil] at h9
        exact h9)
      clear h2 h3
      go_wp2_with fail
      go_ret
      exact ⟨_, D, rfl, unhide h4, unhide HEND, unhide h5⟩
    · have hlen := unhide HN
      have hlem := unhide HM
      have hcs : (i < n ∧ k = m) ∨ (i = n ∧ k < m) ∨ (i < n ∧ k < m) := by omega
      obtain ⟨f1, hf1, h9⟩ := unhide h3
      obtain ⟨f, rfl⟩ : ∃ f, f1 = f + 1 := ⟨f1 - 1, by omega⟩
      have HFU := hide hf1
      have HEQ := hide h9
      clear hf1 h9 h3
      rcases hcs with ⟨h1, h1k⟩ | ⟨h1k, h1⟩ | ⟨h1, h1k⟩
      · obtain rfl : m = k := h1k.symm
        obtain ⟨x, hx⟩ : ∃ x, A[i]? = some x := ⟨_, List.getElem?_eq_getElem (by omega)⟩
        obtain ⟨b1, o1, rfl, hs1⟩ := unhide HSA i x hx
        have HVX := hide (unhide HKA x (List.mem_of_getElem? hx)).2
        have hkx := (unhide HKA x (List.mem_of_getElem? hx)).1
        have hdx := drop_pd A i x hx
        obtain ⟨⟨xk, xp, xn, xc, xd⟩, xv⟩ := x
        have HS1 : Hid (∀ W : World, Below w.heap.size w W → W.cell? ⟨b1, o1 + i * 2, none⟩ = some (.string xk) ∧ W.cell? ⟨b1, o1 + i * 2 + 1, none⟩ = some (.slice xp xn xc) ∧ Row W (.slice xp xn xc) xv) := hs1
        have i1 : (i : Int) < (n : Int) := by omega
        have i2 : ¬ ((m : Int) < (m : Int)) := by omega
        have i3 : ¬ ((i : Int) = (n : Int)) := by omega
        have i4 : ((i : Int) == (n : Int)) = false := by simpa using i3
        have HST := hide (show difF (f + 1) ((pdat A).drop i) ((pdat B).drop m) = (xk, true, false, xv, []) :: difF f ((pdat A).drop (i + 1)) ((pdat B).drop m) by
          rw [hdx, drop_end B m hlem]
          exact dif_a _ (xk, xv) _)
        have HNM := hide (show i < n ∧ m ≤ m ∧ n ≤ 1048576 ∧ m ≤ 1048576 from ⟨h1, hkm, hn0, hm0⟩)
        clear hx hs1 hz hlen hlem hdx hkx
        go_wp2_with fail
        obtain ⟨g, hg⟩ : ∃ g, g = wr.heap.size := ⟨_, rfl⟩
        have HG := hide hg
        clear hg
        refine region_onceE 49 ⟨some 8, .alloc 31, 0, "plain.go:88", #[], none⟩ (.pointer (some ⟨g, 0, none⟩)) (Dn wr) (Dn (wr.alloc dz)) (fun C => True) (by kernel_rfl) (by kernel_rfl) (by kernel_rfl) rfl (by kernel_rfl) trivial trivial ⟨_, rfl⟩ (fun a W h => alloc_dz (unhide HG) a h) ?hd
        case hd =>
          apply Exists.intro
          refine ⟨fun C hC => ?_, fun w' hw' => ?_⟩
          · skip
            simp only [List.take_succ_cons, List.take_zero]
            repeat (first
              | go_big_quiet_skip
              | (go_big_quiet_want
                 apply Exists.intro
                 refine ⟨fun w' hw' => ?_, ?_⟩
                 · skip
                   go_simp
                   first | done | rfl
                 simp only [Act.put, List.setIfInBounds_toArray, List.set_cons_zero, List.set_cons_succ]
                 go_big_quiet_on))
            refine wpQuiet_nil ?_
            rfl
          · simp only [List.drop_succ_cons, List.drop_zero]
            obtain ⟨y0, y1, y2, y3, y4, yf⟩ := five_cells (dz_open (unhide HG) hw').1
            have yf0 := yf 0
            have yf1 := yf 1
            have yf2 := yf 2
            have yf3 := yf 3
            have yf4 := yf 4
            have HD0 := hide (dvr_first (unhide HG) hw' true false)
            clear yf hw'
            go_wp2_with fail
            obtain ⟨X, hX⟩ : ∃ X, (((((w'.setCell ⟨g, 0, none⟩ (.string ⟨#[]⟩)).setCell ⟨g, 1, none⟩ (.bool true)).setCell ⟨g, 2, none⟩ (.bool false)).setCell ⟨g, 3, none⟩ (.slice none 0 0)).setCell ⟨g, 4, none⟩ (.slice none 0 0)) = X := ⟨_, rfl⟩
            rw [hX] at HD0 ⊢
            clear hX y0 y1 y2 y3 y4 yf0 yf1 yf2 yf3 yf4
            obtain ⟨z0, z1⟩ := (show X.drew.cell? ⟨b1, o1 + i * 2, none⟩ = some (.string xk) ∧ X.drew.cell? ⟨b1, o1 + i * 2 + 1, none⟩ = some (.slice xp xn xc) from by
              have hW := (unhide h5).trans ((unhide HD0).bel.mono (unhide h5).size)
              obtain ⟨q1, q2, _⟩ := unhide HS1 X.drew (hW.trans ((Below.refl _ X).drew.mono hW.size))
              exact ⟨q1, q2⟩)
            have HC := hide (dvr_copy (unhide HD0) (unhide h5) (unhide HVX) (unhide HS1) (Below.refl _ X).drew)
            refine cut_many (fun Y p n c => Hid (Dvr wr Y g ⟨xk, true, false, p, n, c, none, 0, 0⟩ ∧ Mine Y X.heap.size (.slice p n c) xv ∧ Keep (fun k => k = g) X Y ∧ X.heap.size ≤ Y.heap.size)) ?_
            apply Exists.intro
            refine ⟨fun HH => ?_, ?_⟩
            · have HHH := hide HH
              clear HH
              go_region_law (go_simp; go_at_call 11; refine Calls.mono (unhide HC) ?_; rintro e X10 ⟨tp1, tn1, tc1, rfl, v0, ⟨c0, c1, c2, c3, c4⟩, ⟨f0, f3, f4⟩, H7⟩; dsimp only)
              all_goals
                have hF := Dvr.oldF (ak := xk) (unhide HD0).lt (unhide H7)
                obtain ⟨X1, hY⟩ : ∃ X1, (X10.setCell ⟨g, 0, none⟩ (.string xk)).setCell ⟨g, 3, none⟩ (.slice tp1 tn1 tc1) = X1 := ⟨_, rfl⟩
                rw [hY] at hF ⊢
                exact (unhide HHH) X1 tp1 tn1 tc1 hF
            clear z0 z1 HC
            intro X1 tp1 tn1 tc1 HF1
            have HX1 := hide (unhide HF1).1
            obtain ⟨u0, u1, u2, u3, u4, _⟩ := five_cells (unhide HX1).blk
            obtain ⟨W9, hW9⟩ : ∃ W9, X1.alloc (.cells #[.string xk, .bool true, .bool false, .slice tp1 tn1 tc1, .slice none 0 0] 31) = W9 := ⟨_, rfl⟩
            have bYW : Below X1.heap.size X1 W9 := by rw [← hW9]; exact (Below.refl _ _).alloc (Nat.le_refl _) _
            have hnew : W9.heap[X1.heap.size]? = some (.cells #[.string xk, .bool true, .bool false, .slice tp1 tn1 tc1, .slice none 0 0] 31 (0, 0)) := by rw [← hW9]; exact heap_alloc_new _ _
            have brW : Below wr.heap.size wr W9 := (unhide HX1).bel.trans (bYW.mono (unhide HX1).bel.size)
            have HMO : Hid (Mine W9 wr.heap.size (.slice tp1 tn1 tc1) xv ∧ Mine W9 X1.heap.size (.slice none 0 0) ([] : List UInt8) ∧ (∀ b off, (tp1 : Option Addr) = some ⟨b, off, none⟩ → xv ≠ [] → b < X1.heap.size) ∧ wr.heap.size ≤ X1.heap.size) := ⟨((unhide HF1).2.1.base (unhide HD0).bel.size).below bYW, (mine_nil X1 _).below bYW, fun b off e hne => row_lt (o := ⟨xk, tp1, tn1, tc1, false⟩) (unhide HF1).2.1.1 e hne, (unhide HX1).bel.size⟩
            have hd9 := (unhide h4).below brW
            have HOW := hide hd9.1
            have HBW := hide brW
            have HN9 := hide (five_cells hnew)
            have HBS := hide (Nat.le_trans (unhide h5).size brW.size)
            have HDL := hide (show D.length + 1 ≤ 2097153 by have := unhide h2; have := unhide HNM; omega)
            have HW9 := hide hW9
            clear bYW hnew brW hd9 hW9
            go_wp2_with (first
              | (at_builtin; rw [unhide HW9]; refine wpList_append_gen rfl _ _ 24 rfl w.heap.size 31 i0 (.agg #[.string ⟨#[]⟩, .bool false, .bool false, .slice none 0 0, .slice none 0 0]) Try.underlying24 hi hz0 5 72 (by omega) hz1 hz2 rfl (.slice dp D.length dc) D.length (dfl D) rfl (unhide HOW) ⟨X1.heap.size, 0, none⟩ 1 1 (dfC ⟨xk, true, false, tp1, tn1, tc1, none, 0, 0⟩) rfl rfl ?cells (dfC_one _) (by have := unhide HDL; unfold maxLen; omega) (by have := unhide HDL; omega) (unhide HBS) ?_))
            case cells =>
              obtain ⟨q0, q1, q2, q3, q4, _⟩ := unhide HN9
              intro j u hj
              match j, hj with
              | 0, hj => (simp [dfC] at hj; subst hj; simpa [Addr.add] using q0)
              | 1, hj => (simp [dfC] at hj; subst hj; simpa [Addr.add] using q1)
              | 2, hj => (simp [dfC] at hj; subst hj; simpa [Addr.add] using q2)
              | 3, hj => (simp [dfC] at hj; subst hj; simpa [Addr.add] using q3)
              | 4, hj => (simp [dfC] at hj; subst hj; simpa [Addr.add] using q4)
            intro v10 w10 hown10 hgrow10 hob10
            obtain ⟨mo, mn, hol, hs7⟩ := unhide HMO
            have hdr := (unhide h4).push (x := (⟨xk, true, false, tp1, tn1, tc1, none, 0, 0⟩, xv, ([] : List UInt8))) (unhide HBW) X1.heap.size hs7 mo hol mn (unhide h5).size hown10 hgrow10 hob10
            have hbW := (unhide h5).trans ((unhide HBW).mono (unhide h5).size)
            have HJ := hide (And.intro hdr (hbW.grown hgrow10 hbW.size (fun k e => ((unhide HOW).lt k e).1)))
            clear hown10 hgrow10 hob10 mo mn hol hs7 hdr hbW
            go_wp2_with fail
            go_roundw
            case rel =>
              refine ⟨i + 1, _, D ++ [((⟨xk, true, false, tp1, tn1, tc1, none, 0, 0⟩ : Dv), xv, ([] : List UInt8))], by have := unhide HNM; omega, by have := unhide HNM; omega, by go_num, by go_num, ?_, ?_, hide (unhide HJ).1, hide (unhide HJ).2⟩
              · have := unhide h2
                unfold Hid
                rw [List.length_append, List.length_singleton]
                omega
              · have h9 := unhide HEQ
                rw [unhide HST] at h9
                refine ⟨f, by have := unhide HFU; have := unhide HNM; omega, ?_⟩
                rw [ddat_app]
                simpa [ddat] using h9
            case measure => (have := unhide HNM; simp [intOf]; omega)
      · obtain rfl : n = i := h1k.symm
        obtain ⟨y, hy⟩ : ∃ y, B[k]? = some y := ⟨_, List.getElem?_eq_getElem (by omega)⟩
        obtain ⟨b2, o2, rfl, hs2⟩ := unhide HSB k y hy
        have HVY := hide (unhide HKB y (List.mem_of_getElem? hy)).2
        have hky := (unhide HKB y (List.mem_of_getElem? hy)).1
        have hdy := drop_pd B k y hy
        obtain ⟨⟨yk, yp, yn, yc, yd⟩, yv⟩ := y
        have HS2 : Hid (∀ W : World, Below w.heap.size w W → W.cell? ⟨b2, o2 + k * 2, none⟩ = some (.string yk) ∧ W.cell? ⟨b2, o2 + k * 2 + 1, none⟩ = some (.slice yp yn yc) ∧ Row W (.slice yp yn yc) yv) := hs2
        have i1 : (k : Int) < (m : Int) := by omega
        have i2 : ¬ ((n : Int) < (n : Int)) := by omega
        have i3 : ¬ ((k : Int) = (m : Int)) := by omega
        have i4 : ((k : Int) == (m : Int)) = false := by simpa using i3
        have HST := hide (show difF (f + 1) ((pdat A).drop n) ((pdat B).drop k) = (yk, false, true, [], yv) :: difF f ((pdat A).drop n) ((pdat B).drop (k + 1)) by
          rw [hdy, drop_end A n hlen]
          exact dif_b _ (yk, yv) _)
        have HNM := hide (show n ≤ n ∧ k < m ∧ n ≤ 1048576 ∧ m ≤ 1048576 from ⟨hin, h1, hn0, hm0⟩)
        clear hy hs2 hz hlen hlem hdy hky
        go_wp2_with fail
        obtain ⟨g, hg⟩ : ∃ g, g = wr.heap.size := ⟨_, rfl⟩
        have HG := hide hg
        clear hg
        refine region_onceE 49 ⟨some 8, .alloc 31, 0, "plain.go:88", #[], none⟩ (.pointer (some ⟨g, 0, none⟩)) (Dn wr) (Dn (wr.alloc dz)) (fun C => True) (by kernel_rfl) (by kernel_rfl) (by kernel_rfl) rfl (by kernel_rfl) trivial trivial ⟨_, rfl⟩ (fun a W h => alloc_dz (unhide HG) a h) ?hd
        case hd =>
          apply Exists.intro
          refine ⟨fun C hC => ?_, fun w' hw' => ?_⟩
          · skip
            simp only [List.take_succ_cons, List.take_zero]
            repeat (first
              | go_big_quiet_skip
              | (go_big_quiet_want
                 apply Exists.intro
                 refine ⟨fun w' hw' => ?_, ?_⟩
                 · skip
                   go_simp
                   first | done | rfl
                 simp only [Act.put, List.setIfInBounds_toArray, List.set_cons_zero, List.set_cons_succ]
                 go_big_quiet_on))
            refine wpQuiet_nil ?_
            rfl
          · simp only [List.drop_succ_cons, List.drop_zero]
            obtain ⟨y0, y1, y2, y3, y4, yf⟩ := five_cells (dz_open (unhide HG) hw').1
            have yf0 := yf 0
            have yf1 := yf 1
            have yf2 := yf 2
            have yf3 := yf 3
            have yf4 := yf 4
            have HD0 := hide (dvr_first (unhide HG) hw' false true)
            clear yf hw'
            go_wp2_with fail
            obtain ⟨X, hX⟩ : ∃ X, (((((w'.setCell ⟨g, 0, none⟩ (.string ⟨#[]⟩)).setCell ⟨g, 1, none⟩ (.bool false)).setCell ⟨g, 2, none⟩ (.bool true)).setCell ⟨g, 3, none⟩ (.slice none 0 0)).setCell ⟨g, 4, none⟩ (.slice none 0 0)) = X := ⟨_, rfl⟩
            rw [hX] at HD0 ⊢
            clear hX y0 y1 y2 y3 y4 yf0 yf1 yf2 yf3 yf4
            obtain ⟨z0, z1⟩ := (show X.drew.cell? ⟨b2, o2 + k * 2, none⟩ = some (.string yk) ∧ X.drew.cell? ⟨b2, o2 + k * 2 + 1, none⟩ = some (.slice yp yn yc) from by
              have hW := (unhide h5).trans ((unhide HD0).bel.mono (unhide h5).size)
              obtain ⟨q1, q2, _⟩ := unhide HS2 X.drew (hW.trans ((Below.refl _ X).drew.mono hW.size))
              exact ⟨q1, q2⟩)
            have HC := hide (dvr_copy (unhide HD0) (unhide h5) (unhide HVY) (unhide HS2) (Below.refl _ X).drew)
            refine cut_many (fun Y p n c => Hid (Dvr wr Y g ⟨yk, false, true, none, 0, 0, p, n, c⟩ ∧ Mine Y X.heap.size (.slice p n c) yv ∧ Keep (fun k => k = g) X Y ∧ X.heap.size ≤ Y.heap.size)) ?_
            apply Exists.intro
            refine ⟨fun HH => ?_, ?_⟩
            · have HHH := hide HH
              clear HH
              go_region_law (go_simp; go_at_call 11; refine Calls.mono (unhide HC) ?_; rintro e X10 ⟨tp2, tn2, tc2, rfl, v0, ⟨c0, c1, c2, c3, c4⟩, ⟨f0, f3, f4⟩, H7⟩; dsimp only)
              all_goals
                have hF := Dvr.newF (ak := yk) (unhide HD0).lt (unhide H7)
                obtain ⟨X1, hY⟩ : ∃ X1, (X10.setCell ⟨g, 0, none⟩ (.string yk)).setCell ⟨g, 4, none⟩ (.slice tp2 tn2 tc2) = X1 := ⟨_, rfl⟩
                rw [hY] at hF ⊢
                exact (unhide HHH) X1 tp2 tn2 tc2 hF
            clear z0 z1 HC
            intro X1 tp2 tn2 tc2 HF2
            have HX1 := hide (unhide HF2).1
            obtain ⟨u0, u1, u2, u3, u4, _⟩ := five_cells (unhide HX1).blk
            obtain ⟨W9, hW9⟩ : ∃ W9, X1.alloc (.cells #[.string yk, .bool false, .bool true, .slice none 0 0, .slice tp2 tn2 tc2] 31) = W9 := ⟨_, rfl⟩
            have bYW : Below X1.heap.size X1 W9 := by rw [← hW9]; exact (Below.refl _ _).alloc (Nat.le_refl _) _
            have hnew : W9.heap[X1.heap.size]? = some (.cells #[.string yk, .bool false, .bool true, .slice none 0 0, .slice tp2 tn2 tc2] 31 (0, 0)) := by rw [← hW9]; exact heap_alloc_new _ _
            have brW : Below wr.heap.size wr W9 := (unhide HX1).bel.trans (bYW.mono (unhide HX1).bel.size)
            have HMO : Hid (Mine W9 wr.heap.size (.slice none 0 0) ([] : List UInt8) ∧ Mine W9 wr.heap.size (.slice tp2 tn2 tc2) yv ∧ (∀ b off, (none : Option Addr) = some ⟨b, off, none⟩ → ([] : List UInt8) ≠ [] → b < wr.heap.size) ∧ wr.heap.size ≤ wr.heap.size) := ⟨(mine_nil X1 _).below bYW, ((unhide HF2).2.1.base (unhide HD0).bel.size).below bYW, fun b off e hne => absurd rfl hne, Nat.le_refl _⟩
            have hd9 := (unhide h4).below brW
            have HOW := hide hd9.1
            have HBW := hide brW
            have HN9 := hide (five_cells hnew)
            have HBS := hide (Nat.le_trans (unhide h5).size brW.size)
            have HDL := hide (show D.length + 1 ≤ 2097153 by have := unhide h2; have := unhide HNM; omega)
            have HW9 := hide hW9
            clear bYW hnew brW hd9 hW9
            go_wp2_with (first
              | (at_builtin; rw [unhide HW9]; refine wpList_append_gen rfl _ _ 24 rfl w.heap.size 31 i0 (.agg #[.string ⟨#[]⟩, .bool false, .bool false, .slice none 0 0, .slice none 0 0]) Try.underlying24 hi hz0 5 72 (by omega) hz1 hz2 rfl (.slice dp D.length dc) D.length (dfl D) rfl (unhide HOW) ⟨X1.heap.size, 0, none⟩ 1 1 (dfC ⟨yk, false, true, none, 0, 0, tp2, tn2, tc2⟩) rfl rfl ?cells (dfC_one _) (by have := unhide HDL; unfold maxLen; omega) (by have := unhide HDL; omega) (unhide HBS) ?_))
            case cells =>
              obtain ⟨q0, q1, q2, q3, q4, _⟩ := unhide HN9
              intro j u hj
              match j, hj with
              | 0, hj => (simp [dfC] at hj; subst hj; simpa [Addr.add] using q0)
              | 1, hj => (simp [dfC] at hj; subst hj; simpa [Addr.add] using q1)
              | 2, hj => (simp [dfC] at hj; subst hj; simpa [Addr.add] using q2)
              | 3, hj => (simp [dfC] at hj; subst hj; simpa [Addr.add] using q3)
              | 4, hj => (simp [dfC] at hj; subst hj; simpa [Addr.add] using q4)
            intro v10 w10 hown10 hgrow10 hob10
            obtain ⟨mo, mn, hol, hs7⟩ := unhide HMO
            have hdr := (unhide h4).push (x := (⟨yk, false, true, none, 0, 0, tp2, tn2, tc2⟩, ([] : List UInt8), yv)) (unhide HBW) wr.heap.size hs7 mo hol mn (unhide h5).size hown10 hgrow10 hob10
            have hbW := (unhide h5).trans ((unhide HBW).mono (unhide h5).size)
            have HJ := hide (And.intro hdr (hbW.grown hgrow10 hbW.size (fun k e => ((unhide HOW).lt k e).1)))
            clear hown10 hgrow10 hob10 mo mn hol hs7 hdr hbW
            go_wp2_with fail
            go_roundw
            case rel =>
              refine ⟨_, k + 1, D ++ [((⟨yk, false, true, none, 0, 0, tp2, tn2, tc2⟩ : Dv), ([] : List UInt8), yv)], by have := unhide HNM; omega, by have := unhide HNM; omega, by go_num, by go_num, ?_, ?_, hide (unhide HJ).1, hide (unhide HJ).2⟩
              · have := unhide h2
                unfold Hid
                rw [List.length_append, List.length_singleton]
                omega
              · have h9 := unhide HEQ
                rw [unhide HST] at h9
                refine ⟨f, by have := unhide HFU; have := unhide HNM; omega, ?_⟩
                rw [ddat_app]
                simpa [ddat] using h9
            case measure => (have := unhide HNM; simp [intOf]; omega)
      · obtain ⟨x, hx⟩ : ∃ x, A[i]? = some x := ⟨_, List.getElem?_eq_getElem (by omega)⟩
        obtain ⟨b1, o1, rfl, hs1⟩ := unhide HSA i x hx
        have HVX := hide (unhide HKA x (List.mem_of_getElem? hx)).2
        have hkx := (unhide HKA x (List.mem_of_getElem? hx)).1
        have hdx := drop_pd A i x hx
        obtain ⟨⟨xk, xp, xn, xc, xd⟩, xv⟩ := x
        have HS1 : Hid (∀ W : World, Below w.heap.size w W → W.cell? ⟨b1, o1 + i * 2, none⟩ = some (.string xk) ∧ W.cell? ⟨b1, o1 + i * 2 + 1, none⟩ = some (.slice xp xn xc) ∧ Row W (.slice xp xn xc) xv) := hs1
        obtain ⟨y, hy⟩ : ∃ y, B[k]? = some y := ⟨_, List.getElem?_eq_getElem (by omega)⟩
        obtain ⟨b2, o2, rfl, hs2⟩ := unhide HSB k y hy
        have HVY := hide (unhide HKB y (List.mem_of_getElem? hy)).2
        have hky := (unhide HKB y (List.mem_of_getElem? hy)).1
        have hdy := drop_pd B k y hy
        obtain ⟨⟨yk, yp, yn, yc, yd⟩, yv⟩ := y
        have HS2 : Hid (∀ W : World, Below w.heap.size w W → W.cell? ⟨b2, o2 + k * 2, none⟩ = some (.string yk) ∧ W.cell? ⟨b2, o2 + k * 2 + 1, none⟩ = some (.slice yp yn yc) ∧ Row W (.slice yp yn yc) yv) := hs2
        have i1 : (i : Int) < (n : Int) := by omega
        have i2 : (k : Int) < (m : Int) := by omega
        have i3 : ¬ ((i : Int) = (n : Int)) := by omega
        have i4 : ((i : Int) == (n : Int)) = false := by simpa using i3
        have i5 : ¬ ((k : Int) = (m : Int)) := by omega
        have i6 : ((k : Int) == (m : Int)) = false := by simpa using i5
        have HNM := hide (show i < n ∧ k < m ∧ n ≤ 1048576 ∧ m ≤ 1048576 from ⟨h1, h1k, hn0, hm0⟩)
        cases hq : tl xk.toList yk.toList with
        | true =>
          have hp : tl yk.toList xk.toList = false := tl_asym _ _ hq
          have HST := hide (show difF (f + 1) ((pdat A).drop i) ((pdat B).drop k) = (xk, true, false, xv, []) :: difF f ((pdat A).drop (i + 1)) ((pdat B).drop k) by
            rw [hdx, hdy]
            exact dif_lt _ _ _ hq)
          clear hx hs1 hy hs2 hz hlen hlem hdx hdy
          have HI0 := hide (iq_dn (unhide HS1 wr (unhide h5)).1 (unhide HS2 wr (unhide h5)).1 hkx hky hp hq)
          have HI1 := hide (iq_dn (unhide HS1 (wr.alloc dz) ((unhide h5).alloc (unhide h5).size _)).1 (unhide HS2 (wr.alloc dz) ((unhide h5).alloc (unhide h5).size _)).1 hkx hky hp hq)
          clear hkx hky hp hq
          go_wp2_with fail
          obtain ⟨g, hg⟩ : ∃ g, g = wr.heap.size := ⟨_, rfl⟩
          have HG := hide hg
          clear hg
          refine region_onceE 49 ⟨some 8, .alloc 31, 0, "plain.go:88", #[], none⟩ (.pointer (some ⟨g, 0, none⟩)) (Dn wr) (Dn (wr.alloc dz)) (fun C => IQ ⟨b1, o1 + i * 2, none⟩ ⟨b2, o2 + k * 2, none⟩ xk yk false true C) (by kernel_rfl) (by kernel_rfl) (by kernel_rfl) rfl (by kernel_rfl) (unhide HI0) (unhide HI1) ⟨_, rfl⟩ (fun a W h => alloc_dz (unhide HG) a h) ?hd
          case hd =>
            apply Exists.intro
            refine ⟨fun C hC => ?_, fun w' hw' => ?_⟩
            · have HCC := hide hC
              clear hC
              simp only [List.take_succ_cons, List.take_zero]
              repeat (first
                | go_big_quiet_skip
                | (go_big_quiet_want
                   apply Exists.intro
                   refine ⟨fun w' hw' => ?_, ?_⟩
                   · obtain ⟨cl1, cl2⟩ := (unhide HCC).cel w' hw'
                     go_simp
                     first | done | (with_reducible exact (unhide HCC).l1 w' hw') | (with_reducible exact (unhide HCC).l2 w' hw') | rfl
                   simp only [Act.put, List.setIfInBounds_toArray, List.set_cons_zero, List.set_cons_succ]
                   go_big_quiet_on))
              refine wpQuiet_nil ?_
              rfl
            · simp only [List.drop_succ_cons, List.drop_zero]
              obtain ⟨y0, y1, y2, y3, y4, yf⟩ := five_cells (dz_open (unhide HG) hw').1
              have yf0 := yf 0
              have yf1 := yf 1
              have yf2 := yf 2
              have yf3 := yf 3
              have yf4 := yf 4
              have HD0 := hide (dvr_first (unhide HG) hw' true false)
              clear yf hw'
              go_wp2_with fail
              obtain ⟨X, hX⟩ : ∃ X, (((((w'.setCell ⟨g, 0, none⟩ (.string ⟨#[]⟩)).setCell ⟨g, 1, none⟩ (.bool true)).setCell ⟨g, 2, none⟩ (.bool false)).setCell ⟨g, 3, none⟩ (.slice none 0 0)).setCell ⟨g, 4, none⟩ (.slice none 0 0)) = X := ⟨_, rfl⟩
              rw [hX] at HD0 ⊢
              clear hX y0 y1 y2 y3 y4 yf0 yf1 yf2 yf3 yf4
              obtain ⟨z0, z1⟩ := (show X.drew.cell? ⟨b1, o1 + i * 2, none⟩ = some (.string xk) ∧ X.drew.cell? ⟨b1, o1 + i * 2 + 1, none⟩ = some (.slice xp xn xc) from by
                have hW := (unhide h5).trans ((unhide HD0).bel.mono (unhide h5).size)
                obtain ⟨q1, q2, _⟩ := unhide HS1 X.drew (hW.trans ((Below.refl _ X).drew.mono hW.size))
                exact ⟨q1, q2⟩)
              have HC := hide (dvr_copy (unhide HD0) (unhide h5) (unhide HVX) (unhide HS1) (Below.refl _ X).drew)
              refine cut_many (fun Y p n c => Hid (Dvr wr Y g ⟨xk, true, false, p, n, c, none, 0, 0⟩ ∧ Mine Y X.heap.size (.slice p n c) xv ∧ Keep (fun k => k = g) X Y ∧ X.heap.size ≤ Y.heap.size)) ?_
              apply Exists.intro
              refine ⟨fun HH => ?_, ?_⟩
              · have HHH := hide HH
                clear HH
                go_region_law (go_simp; go_at_call 11; refine Calls.mono (unhide HC) ?_; rintro e X10 ⟨tp1, tn1, tc1, rfl, v0, ⟨c0, c1, c2, c3, c4⟩, ⟨f0, f3, f4⟩, H7⟩; dsimp only)
                all_goals
                  have hF := Dvr.oldF (ak := xk) (unhide HD0).lt (unhide H7)
                  obtain ⟨X1, hY⟩ : ∃ X1, (X10.setCell ⟨g, 0, none⟩ (.string xk)).setCell ⟨g, 3, none⟩ (.slice tp1 tn1 tc1) = X1 := ⟨_, rfl⟩
                  rw [hY] at hF ⊢
                  exact (unhide HHH) X1 tp1 tn1 tc1 hF
              clear z0 z1 HC
              intro X1 tp1 tn1 tc1 HF1
              have HX1 := hide (unhide HF1).1
              obtain ⟨u0, u1, u2, u3, u4, _⟩ := five_cells (unhide HX1).blk
              obtain ⟨W9, hW9⟩ : ∃ W9, X1.alloc (.cells #[.string xk, .bool true, .bool false, .slice tp1 tn1 tc1, .slice none 0 0] 31) = W9 := ⟨_, rfl⟩
              have bYW : Below X1.heap.size X1 W9 := by rw [← hW9]; exact (Below.refl _ _).alloc (Nat.le_refl _) _
              have hnew : W9.heap[X1.heap.size]? = some (.cells #[.string xk, .bool true, .bool false, .slice tp1 tn1 tc1, .slice none 0 0] 31 (0, 0)) := by rw [← hW9]; exact heap_alloc_new _ _
              have brW : Below wr.heap.size wr W9 := (unhide HX1).bel.trans (bYW.mono (unhide HX1).bel.size)
              have HMO : Hid (Mine W9 wr.heap.size (.slice tp1 tn1 tc1) xv ∧ Mine W9 X1.heap.size (.slice none 0 0) ([] : List UInt8) ∧ (∀ b off, (tp1 : Option Addr) = some ⟨b, off, none⟩ → xv ≠ [] → b < X1.heap.size) ∧ wr.heap.size ≤ X1.heap.size) := ⟨((unhide HF1).2.1.base (unhide HD0).bel.size).below bYW, (mine_nil X1 _).below bYW, fun b off e hne => row_lt (o := ⟨xk, tp1, tn1, tc1, false⟩) (unhide HF1).2.1.1 e hne, (unhide HX1).bel.size⟩
              have hd9 := (unhide h4).below brW
              have HOW := hide hd9.1
              have HBW := hide brW
              have HN9 := hide (five_cells hnew)
              have HBS := hide (Nat.le_trans (unhide h5).size brW.size)
              have HDL := hide (show D.length + 1 ≤ 2097153 by have := unhide h2; have := unhide HNM; omega)
              have HW9 := hide hW9
              clear bYW hnew brW hd9 hW9
              go_wp2_with (first
                | (at_builtin; rw [unhide HW9]; refine wpList_append_gen rfl _ _ 24 rfl w.heap.size 31 i0 (.agg #[.string ⟨#[]⟩, .bool false, .bool false, .slice none 0 0, .slice none 0 0]) Try.underlying24 hi hz0 5 72 (by omega) hz1 hz2 rfl (.slice dp D.length dc) D.length (dfl D) rfl (unhide HOW) ⟨X1.heap.size, 0, none⟩ 1 1 (dfC ⟨xk, true, false, tp1, tn1, tc1, none, 0, 0⟩) rfl rfl ?cells (dfC_one _) (by have := unhide HDL; unfold maxLen; omega) (by have := unhide HDL; omega) (unhide HBS) ?_))
              case cells =>
                obtain ⟨q0, q1, q2, q3, q4, _⟩ := unhide HN9
                intro j u hj
                match j, hj with
                | 0, hj => (simp [dfC] at hj; subst hj; simpa [Addr.add] using q0)
                | 1, hj => (simp [dfC] at hj; subst hj; simpa [Addr.add] using q1)
                | 2, hj => (simp [dfC] at hj; subst hj; simpa [Addr.add] using q2)
                | 3, hj => (simp [dfC] at hj; subst hj; simpa [Addr.add] using q3)
                | 4, hj => (simp [dfC] at hj; subst hj; simpa [Addr.add] using q4)
              intro v10 w10 hown10 hgrow10 hob10
              obtain ⟨mo, mn, hol, hs7⟩ := unhide HMO
              have hdr := (unhide h4).push (x := (⟨xk, true, false, tp1, tn1, tc1, none, 0, 0⟩, xv, ([] : List UInt8))) (unhide HBW) X1.heap.size hs7 mo hol mn (unhide h5).size hown10 hgrow10 hob10
              have hbW := (unhide h5).trans ((unhide HBW).mono (unhide h5).size)
              have HJ := hide (And.intro hdr (hbW.grown hgrow10 hbW.size (fun k e => ((unhide HOW).lt k e).1)))
              clear hown10 hgrow10 hob10 mo mn hol hs7 hdr hbW
              go_wp2_with fail
              go_roundw
              case rel =>
                refine ⟨i + 1, _, D ++ [((⟨xk, true, false, tp1, tn1, tc1, none, 0, 0⟩ : Dv), xv, ([] : List UInt8))], by have := unhide HNM; omega, by have := unhide HNM; omega, by go_num, by go_num, ?_, ?_, hide (unhide HJ).1, hide (unhide HJ).2⟩
                · have := unhide h2
                  unfold Hid
                  rw [List.length_append, List.length_singleton]
                  omega
                · have h9 := unhide HEQ
                  rw [unhide HST] at h9
                  refine ⟨f, by have := unhide HFU; have := unhide HNM; omega, ?_⟩
                  rw [ddat_app]
                  simpa [ddat] using h9
              case measure => (have := unhide HNM; simp [intOf]; omega)
        | false =>
          cases hp : tl yk.toList xk.toList with
          | true =>
            have HST := hide (show difF (f + 1) ((pdat A).drop i) ((pdat B).drop k) = (yk, false, true, [], yv) :: difF f ((pdat A).drop i) ((pdat B).drop (k + 1)) by
              rw [hdx, hdy]
              exact dif_gt _ _ _ hp)
            clear hx hs1 hy hs2 hz hlen hlem hdx hdy
            have HI0 := hide (iq_dn (unhide HS1 wr (unhide h5)).1 (unhide HS2 wr (unhide h5)).1 hkx hky hp hq)
            have HI1 := hide (iq_dn (unhide HS1 (wr.alloc dz) ((unhide h5).alloc (unhide h5).size _)).1 (unhide HS2 (wr.alloc dz) ((unhide h5).alloc (unhide h5).size _)).1 hkx hky hp hq)
            clear hkx hky hp hq
            go_wp2_with fail
            obtain ⟨g, hg⟩ : ∃ g, g = wr.heap.size := ⟨_, rfl⟩
            have HG := hide hg
            clear hg
            refine region_onceE 49 ⟨some 8, .alloc 31, 0, "plain.go:88", #[], none⟩ (.pointer (some ⟨g, 0, none⟩)) (Dn wr) (Dn (wr.alloc dz)) (fun C => IQ ⟨b1, o1 + i * 2, none⟩ ⟨b2, o2 + k * 2, none⟩ xk yk true false C) (by kernel_rfl) (by kernel_rfl) (by kernel_rfl) rfl (by kernel_rfl) (unhide HI0) (unhide HI1) ⟨_, rfl⟩ (fun a W h => alloc_dz (unhide HG) a h) ?hd
            case hd =>
              apply Exists.intro
              refine ⟨fun C hC => ?_, fun w' hw' => ?_⟩
              · have HCC := hide hC
                clear hC
                simp only [List.take_succ_cons, List.take_zero]
                repeat (first
                  | go_big_quiet_skip
                  | (go_big_quiet_want
                     apply Exists.intro
                     refine ⟨fun w' hw' => ?_, ?_⟩
                     · obtain ⟨cl1, cl2⟩ := (unhide HCC).cel w' hw'
                       go_simp
                       first | done | (with_reducible exact (unhide HCC).l1 w' hw') | (with_reducible exact (unhide HCC).l2 w' hw') | rfl
                     simp only [Act.put, List.setIfInBounds_toArray, List.set_cons_zero, List.set_cons_succ]
                     go_big_quiet_on))
                refine wpQuiet_nil ?_
                rfl
              · simp only [List.drop_succ_cons, List.drop_zero]
                obtain ⟨y0, y1, y2, y3, y4, yf⟩ := five_cells (dz_open (unhide HG) hw').1
                have yf0 := yf 0
                have yf1 := yf 1
                have yf2 := yf 2
                have yf3 := yf 3
                have yf4 := yf 4
                have HD0 := hide (dvr_first (unhide HG) hw' false true)
                clear yf hw'
                go_wp2_with fail
                obtain ⟨X, hX⟩ : ∃ X, (((((w'.setCell ⟨g, 0, none⟩ (.string ⟨#[]⟩)).setCell ⟨g, 1, none⟩ (.bool false)).setCell ⟨g, 2, none⟩ (.bool true)).setCell ⟨g, 3, none⟩ (.slice none 0 0)).setCell ⟨g, 4, none⟩ (.slice none 0 0)) = X := ⟨_, rfl⟩
                rw [hX] at HD0 ⊢
                clear hX y0 y1 y2 y3 y4 yf0 yf1 yf2 yf3 yf4
                obtain ⟨z0, z1⟩ := (show X.drew.cell? ⟨b2, o2 + k * 2, none⟩ = some (.string yk) ∧ X.drew.cell? ⟨b2, o2 + k * 2 + 1, none⟩ = some (.slice yp yn yc) from by
                  have hW := (unhide h5).trans ((unhide HD0).bel.mono (unhide h5).size)
                  obtain ⟨q1, q2, _⟩ := unhide HS2 X.drew (hW.trans ((Below.refl _ X).drew.mono hW.size))
                  exact ⟨q1, q2⟩)
                have HC := hide (dvr_copy (unhide HD0) (unhide h5) (unhide HVY) (unhide HS2) (Below.refl _ X).drew)
                refine cut_many (fun Y p n c => Hid (Dvr wr Y g ⟨yk, false, true, none, 0, 0, p, n, c⟩ ∧ Mine Y X.heap.size (.slice p n c) yv ∧ Keep (fun k => k = g) X Y ∧ X.heap.size ≤ Y.heap.size)) ?_
                apply Exists.intro
                refine ⟨fun HH => ?_, ?_⟩
                · have HHH := hide HH
                  clear HH
                  go_region_law (go_simp; go_at_call 11; refine Calls.mono (unhide HC) ?_; rintro e X10 ⟨tp2, tn2, tc2, rfl, v0, ⟨c0, c1, c2, c3, c4⟩, ⟨f0, f3, f4⟩, H7⟩; dsimp only)
                  all_goals
                    have hF := Dvr.newF (ak := yk) (unhide HD0).lt (unhide H7)
                    obtain ⟨X1, hY⟩ : ∃ X1, (X10.setCell ⟨g, 0, none⟩ (.string yk)).setCell ⟨g, 4, none⟩ (.slice tp2 tn2 tc2) = X1 := ⟨_, rfl⟩
                    rw [hY] at hF ⊢
                    exact (unhide HHH) X1 tp2 tn2 tc2 hF
                clear z0 z1 HC
                intro X1 tp2 tn2 tc2 HF2
                have HX1 := hide (unhide HF2).1
                obtain ⟨u0, u1, u2, u3, u4, _⟩ := five_cells (unhide HX1).blk
                obtain ⟨W9, hW9⟩ : ∃ W9, X1.alloc (.cells #[.string yk, .bool false, .bool true, .slice none 0 0, .slice tp2 tn2 tc2] 31) = W9 := ⟨_, rfl⟩
                have bYW : Below X1.heap.size X1 W9 := by rw [← hW9]; exact (Below.refl _ _).alloc (Nat.le_refl _) _
                have hnew : W9.heap[X1.heap.size]? = some (.cells #[.string yk, .bool false, .bool true, .slice none 0 0, .slice tp2 tn2 tc2] 31 (0, 0)) := by rw [← hW9]; exact heap_alloc_new _ _
                have brW : Below wr.heap.size wr W9 := (unhide HX1).bel.trans (bYW.mono (unhide HX1).bel.size)
                have HMO : Hid (Mine W9 wr.heap.size (.slice none 0 0) ([] : List UInt8) ∧ Mine W9 wr.heap.size (.slice tp2 tn2 tc2) yv ∧ (∀ b off, (none : Option Addr) = some ⟨b, off, none⟩ → ([] : List UInt8) ≠ [] → b < wr.heap.size) ∧ wr.heap.size ≤ wr.heap.size) := ⟨(mine_nil X1 _).below bYW, ((unhide HF2).2.1.base (unhide HD0).bel.size).below bYW, fun b off e hne => absurd rfl hne, Nat.le_refl _⟩
                have hd9 := (unhide h4).below brW
                have HOW := hide hd9.1
                have HBW := hide brW
                have HN9 := hide (five_cells hnew)
                have HBS := hide (Nat.le_trans (unhide h5).size brW.size)
                have HDL := hide (show D.length + 1 ≤ 2097153 by have := unhide h2; have := unhide HNM; omega)
                have HW9 := hide hW9
                clear bYW hnew brW hd9 hW9
                go_wp2_with (first
                  | (at_builtin; rw [unhide HW9]; refine wpList_append_gen rfl _ _ 24 rfl w.heap.size 31 i0 (.agg #[.string ⟨#[]⟩, .bool false, .bool false, .slice none 0 0, .slice none 0 0]) Try.underlying24 hi hz0 5 72 (by omega) hz1 hz2 rfl (.slice dp D.length dc) D.length (dfl D) rfl (unhide HOW) ⟨X1.heap.size, 0, none⟩ 1 1 (dfC ⟨yk, false, true, none, 0, 0, tp2, tn2, tc2⟩) rfl rfl ?cells (dfC_one _) (by have := unhide HDL; unfold maxLen; omega) (by have := unhide HDL; omega) (unhide HBS) ?_))
                case cells =>
                  obtain ⟨q0, q1, q2, q3, q4, _⟩ := unhide HN9
                  intro j u hj
                  match j, hj with
                  | 0, hj => (simp [dfC] at hj; subst hj; simpa [Addr.add] using q0)
                  | 1, hj => (simp [dfC] at hj; subst hj; simpa [Addr.add] using q1)
                  | 2, hj => (simp [dfC] at hj; subst hj; simpa [Addr.add] using q2)
                  | 3, hj => (simp [dfC] at hj; subst hj; simpa [Addr.add] using q3)
                  | 4, hj => (simp [dfC] at hj; subst hj; simpa [Addr.add] using q4)
                intro v10 w10 hown10 hgrow10 hob10
                obtain ⟨mo, mn, hol, hs7⟩ := unhide HMO
                have hdr := (unhide h4).push (x := (⟨yk, false, true, none, 0, 0, tp2, tn2, tc2⟩, ([] : List UInt8), yv)) (unhide HBW) wr.heap.size hs7 mo hol mn (unhide h5).size hown10 hgrow10 hob10
                have hbW := (unhide h5).trans ((unhide HBW).mono (unhide h5).size)
                have HJ := hide (And.intro hdr (hbW.grown hgrow10 hbW.size (fun k e => ((unhide HOW).lt k e).1)))
                clear hown10 hgrow10 hob10 mo mn hol hs7 hdr hbW
                go_wp2_with fail
                go_roundw
                case rel =>
                  refine ⟨_, k + 1, D ++ [((⟨yk, false, true, none, 0, 0, tp2, tn2, tc2⟩ : Dv), ([] : List UInt8), yv)], by have := unhide HNM; omega, by have := unhide HNM; omega, by go_num, by go_num, ?_, ?_, hide (unhide HJ).1, hide (unhide HJ).2⟩
                  · have := unhide h2
                    unfold Hid
                    rw [List.length_append, List.length_singleton]
                    omega
                  · have h9 := unhide HEQ
                    rw [unhide HST] at h9
                    refine ⟨f, by have := unhide HFU; have := unhide HNM; omega, ?_⟩
                    rw [ddat_app]
                    simpa [ddat] using h9
                case measure => (have := unhide HNM; simp [intOf]; omega)
          | false =>
            have HST := hide (show difF (f + 1) ((pdat A).drop i) ((pdat B).drop k) = if xv == yv then difF f ((pdat A).drop (i + 1)) ((pdat B).drop (k + 1)) else (yk, true, true, xv, yv) :: difF f ((pdat A).drop (i + 1)) ((pdat B).drop (k + 1)) by
              rw [hdx, hdy]
              exact (dif_eq f (x := (xk, xv)) (y := (yk, yv)) ((pdat A).drop (i + 1)) ((pdat B).drop (k + 1)) hq hp).2)
            clear hx hs1 hy hs2 hz hlen hlem hdx hdy
            have HI0 := hide (iq_dn (unhide HS1 wr (unhide h5)).1 (unhide HS2 wr (unhide h5)).1 hkx hky hp hq)
            have HI1 := hide (iq_dn (unhide HS1 (wr.alloc dz) ((unhide h5).alloc (unhide h5).size _)).1 (unhide HS2 (wr.alloc dz) ((unhide h5).alloc (unhide h5).size _)).1 hkx hky hp hq)
            clear hkx hky hp hq
            go_wp2_with fail
            obtain ⟨g, hg⟩ : ∃ g, g = wr.heap.size := ⟨_, rfl⟩
            have HG := hide hg
            clear hg
            refine region_onceE 49 ⟨some 8, .alloc 31, 0, "plain.go:88", #[], none⟩ (.pointer (some ⟨g, 0, none⟩)) (Dn wr) (Dn (wr.alloc dz)) (fun C => IQ ⟨b1, o1 + i * 2, none⟩ ⟨b2, o2 + k * 2, none⟩ xk yk false false C) (by kernel_rfl) (by kernel_rfl) (by kernel_rfl) rfl (by kernel_rfl) (unhide HI0) (unhide HI1) ⟨_, rfl⟩ (fun a W h => alloc_dz (unhide HG) a h) ?hd
            case hd =>
              apply Exists.intro
              refine ⟨fun C hC => ?_, fun w' hw' => ?_⟩
              · have HCC := hide hC
                clear hC
                simp only [List.take_succ_cons, List.take_zero]
                repeat (first
                  | go_big_quiet_skip
                  | (go_big_quiet_want
                     apply Exists.intro
                     refine ⟨fun w' hw' => ?_, ?_⟩
                     · obtain ⟨cl1, cl2⟩ := (unhide HCC).cel w' hw'
                       go_simp
                       first | done | (with_reducible exact (unhide HCC).l1 w' hw') | (with_reducible exact (unhide HCC).l2 w' hw') | rfl
                     simp only [Act.put, List.setIfInBounds_toArray, List.set_cons_zero, List.set_cons_succ]
                     go_big_quiet_on))
                refine wpQuiet_nil ?_
                rfl
              · simp only [List.drop_succ_cons, List.drop_zero]
                obtain ⟨y0, y1, y2, y3, y4, yf⟩ := five_cells (dz_open (unhide HG) hw').1
                have yf0 := yf 0
                have yf1 := yf 1
                have yf2 := yf 2
                have yf3 := yf 3
                have yf4 := yf 4
                have HD0 := hide (dvr_first (unhide HG) hw' true true)
                clear yf hw'
                go_wp2_with fail
                obtain ⟨X, hX⟩ : ∃ X, (((((w'.setCell ⟨g, 0, none⟩ (.string ⟨#[]⟩)).setCell ⟨g, 1, none⟩ (.bool true)).setCell ⟨g, 2, none⟩ (.bool true)).setCell ⟨g, 3, none⟩ (.slice none 0 0)).setCell ⟨g, 4, none⟩ (.slice none 0 0)) = X := ⟨_, rfl⟩
                rw [hX] at HD0 ⊢
                clear hX y0 y1 y2 y3 y4 yf0 yf1 yf2 yf3 yf4
                obtain ⟨z0, z1⟩ := (show X.drew.cell? ⟨b1, o1 + i * 2, none⟩ = some (.string xk) ∧ X.drew.cell? ⟨b1, o1 + i * 2 + 1, none⟩ = some (.slice xp xn xc) from by
                  have hW := (unhide h5).trans ((unhide HD0).bel.mono (unhide h5).size)
                  obtain ⟨q1, q2, _⟩ := unhide HS1 X.drew (hW.trans ((Below.refl _ X).drew.mono hW.size))
                  exact ⟨q1, q2⟩)
                have HC := hide (dvr_copy (unhide HD0) (unhide h5) (unhide HVX) (unhide HS1) (Below.refl _ X).drew)
                refine cut_many (fun Y p n c => Hid (Dvr wr Y g ⟨xk, true, true, p, n, c, none, 0, 0⟩ ∧ Mine Y X.heap.size (.slice p n c) xv ∧ Keep (fun k => k = g) X Y ∧ X.heap.size ≤ Y.heap.size)) ?_
                apply Exists.intro
                refine ⟨fun HH => ?_, ?_⟩
                · have HHH := hide HH
                  clear HH
                  go_region_law (go_simp; go_at_call 11; refine Calls.mono (unhide HC) ?_; rintro e X10 ⟨tp1, tn1, tc1, rfl, v0, ⟨c0, c1, c2, c3, c4⟩, ⟨f0, f3, f4⟩, H7⟩; dsimp only)
                  all_goals
                    have hF := Dvr.oldF (ak := xk) (unhide HD0).lt (unhide H7)
                    obtain ⟨X1, hY⟩ : ∃ X1, (X10.setCell ⟨g, 0, none⟩ (.string xk)).setCell ⟨g, 3, none⟩ (.slice tp1 tn1 tc1) = X1 := ⟨_, rfl⟩
                    rw [hY] at hF ⊢
                    exact (unhide HHH) X1 tp1 tn1 tc1 hF
                clear z0 z1 HC
                intro X1 tp1 tn1 tc1 HF1
                have HX1 := hide (unhide HF1).1
                obtain ⟨u0, u1, u2, u3, u4, _⟩ := five_cells (unhide HX1).blk
                go_wp2_with fail
                clear u0 u1 u2 u3 u4
                obtain ⟨z0, z1⟩ := (show X1.drew.cell? ⟨b2, o2 + k * 2, none⟩ = some (.string yk) ∧ X1.drew.cell? ⟨b2, o2 + k * 2 + 1, none⟩ = some (.slice yp yn yc) from by
                  have hW := (unhide h5).trans ((unhide HX1).bel.mono (unhide h5).size)
                  obtain ⟨q1, q2, _⟩ := unhide HS2 X1.drew (hW.trans ((Below.refl _ X1).drew.mono hW.size))
                  exact ⟨q1, q2⟩)
                have HC := hide (dvr_copy (unhide HX1) (unhide h5) (unhide HVY) (unhide HS2) (Below.refl _ X1).drew)
                refine cut_many (fun Y p n c => Hid (Dvr wr Y g ⟨yk, true, true, tp1, tn1, tc1, p, n, c⟩ ∧ Mine Y X1.heap.size (.slice p n c) yv ∧ Keep (fun k => k = g) X1 Y ∧ X1.heap.size ≤ Y.heap.size)) ?_
                apply Exists.intro
                refine ⟨fun HH => ?_, ?_⟩
                · have HHH := hide HH
                  clear HH
                  go_region_law (go_simp; go_at_call 11; refine Calls.mono (unhide HC) ?_; rintro e X20 ⟨tp2, tn2, tc2, rfl, v0, ⟨c0, c1, c2, c3, c4⟩, ⟨f0, f3, f4⟩, H7⟩; dsimp only)
                  all_goals
                    have hF := Dvr.newF (ak := yk) (unhide HX1).lt (unhide H7)
                    obtain ⟨X2, hY⟩ : ∃ X2, (X20.setCell ⟨g, 0, none⟩ (.string yk)).setCell ⟨g, 4, none⟩ (.slice tp2 tn2 tc2) = X2 := ⟨_, rfl⟩
                    rw [hY] at hF ⊢
                    exact (unhide HHH) X2 tp2 tn2 tc2 hF
                clear z0 z1 HC
                intro X2 tp2 tn2 tc2 HF2
                have HX2 := hide (unhide HF2).1
                obtain ⟨u0, u1, u2, u3, u4, _⟩ := five_cells (unhide HX2).blk
                have HM2 := hide (mkeep7 (unhide HF1).2.1 (unhide HF2).2.2.1 (fun b hb e => by have := (unhide HD0).lt; omega))
                have HBY := hide (bytes_any _ _ xv yv X2 (unhide HM2).1 (unhide HF2).2.1.1)
                cases hvv : (xv == yv) with
                | true =>
                  rw [hvv] at HBY HST
                  go_wp2_with fail
                  refine Calls.mono (unhide HBY) ?_
                  rintro e w6 ⟨rfl, hw6⟩
                  obtain rfl : X2 = w6 := hw6.symm
                  clear hw6
                  go_wp2_with fail
                  go_roundw
                  case rel =>
                    refine ⟨i + 1, k + 1, D, by have := unhide HNM; omega, by have := unhide HNM; omega, by go_num, by go_num, ?_, ?_, hide ((unhide h4).below (unhide HX2).bel), hide ((unhide h5).trans ((unhide HX2).bel.mono (unhide h5).size))⟩
                    · have := unhide h2
                      unfold Hid
                      omega
                    · have h9 := unhide HEQ
                      rw [unhide HST] at h9
                      refine ⟨f, by have := unhide HFU; have := unhide HNM; omega, ?_⟩
                      simpa using h9
                  case measure => (have := unhide HNM; simp [intOf]; omega)
                | false =>
                  rw [hvv] at HBY HST
                  go_wp2_with fail
                  refine Calls.mono (unhide HBY) ?_
                  rintro e w6 ⟨rfl, hw6⟩
                  obtain rfl : X2 = w6 := hw6.symm
                  clear hw6
                  obtain ⟨W9, hW9⟩ : ∃ W9, X2.alloc (.cells #[.string yk, .bool true, .bool true, .slice tp1 tn1 tc1, .slice tp2 tn2 tc2] 31) = W9 := ⟨_, rfl⟩
                  have bYW : Below X2.heap.size X2 W9 := by rw [← hW9]; exact (Below.refl _ _).alloc (Nat.le_refl _) _
                  have hnew : W9.heap[X2.heap.size]? = some (.cells #[.string yk, .bool true, .bool true, .slice tp1 tn1 tc1, .slice tp2 tn2 tc2] 31 (0, 0)) := by rw [← hW9]; exact heap_alloc_new _ _
                  have brW : Below wr.heap.size wr W9 := (unhide HX2).bel.trans (bYW.mono (unhide HX2).bel.size)
                  have HMO : Hid (Mine W9 wr.heap.size (.slice tp1 tn1 tc1) xv ∧ Mine W9 X1.heap.size (.slice tp2 tn2 tc2) yv ∧ (∀ b off, (tp1 : Option Addr) = some ⟨b, off, none⟩ → xv ≠ [] → b < X1.heap.size) ∧ wr.heap.size ≤ X1.heap.size) := ⟨((unhide HM2).base (unhide HD0).bel.size).below bYW, ((unhide HF2).2.1).below bYW, fun b off e hne => row_lt (o := ⟨xk, tp1, tn1, tc1, false⟩) (unhide HF1).2.1.1 e hne, (unhide HX1).bel.size⟩
                  have hd9 := (unhide h4).below brW
                  have HOW := hide hd9.1
                  have HBW := hide brW
                  have HN9 := hide (five_cells hnew)
                  have HBS := hide (Nat.le_trans (unhide h5).size brW.size)
                  have HDL := hide (show D.length + 1 ≤ 2097153 by have := unhide h2; have := unhide HNM; omega)
                  have HW9 := hide hW9
                  clear bYW hnew brW hd9 hW9
                  go_wp2_with (first
                    | (at_builtin; rw [unhide HW9]; refine wpList_append_gen rfl _ _ 24 rfl w.heap.size 31 i0 (.agg #[.string ⟨#[]⟩, .bool false, .bool false, .slice none 0 0, .slice none 0 0]) Try.underlying24 hi hz0 5 72 (by omega) hz1 hz2 rfl (.slice dp D.length dc) D.length (dfl D) rfl (unhide HOW) ⟨X2.heap.size, 0, none⟩ 1 1 (dfC ⟨yk, true, true, tp1, tn1, tc1, tp2, tn2, tc2⟩) rfl rfl ?cells (dfC_one _) (by have := unhide HDL; unfold maxLen; omega) (by have := unhide HDL; omega) (unhide HBS) ?_))
                  case cells =>
                    obtain ⟨q0, q1, q2, q3, q4, _⟩ := unhide HN9
                    intro j u hj
                    match j, hj with
                    | 0, hj => (simp [dfC] at hj; subst hj; simpa [Addr.add] using q0)
                    | 1, hj => (simp [dfC] at hj; subst hj; simpa [Addr.add] using q1)
                    | 2, hj => (simp [dfC] at hj; subst hj; simpa [Addr.add] using q2)
                    | 3, hj => (simp [dfC] at hj; subst hj; simpa [Addr.add] using q3)
                    | 4, hj => (simp [dfC] at hj; subst hj; simpa [Addr.add] using q4)
                  intro v10 w10 hown10 hgrow10 hob10
                  obtain ⟨mo, mn, hol, hs7⟩ := unhide HMO
                  have hdr := (unhide h4).push (x := (⟨yk, true, true, tp1, tn1, tc1, tp2, tn2, tc2⟩, xv, yv)) (unhide HBW) X1.heap.size hs7 mo hol mn (unhide h5).size hown10 hgrow10 hob10
                  have hbW := (unhide h5).trans ((unhide HBW).mono (unhide h5).size)
                  have HJ := hide (And.intro hdr (hbW.grown hgrow10 hbW.size (fun k e => ((unhide HOW).lt k e).1)))
                  clear hown10 hgrow10 hob10 mo mn hol hs7 hdr hbW
                  go_wp2_with fail
                  go_roundw
                  case rel =>
                    refine ⟨i + 1, k + 1, D ++ [((⟨yk, true, true, tp1, tn1, tc1, tp2, tn2, tc2⟩ : Dv), xv, yv)], by have := unhide HNM; omega, by have := unhide HNM; omega, by go_num, by go_num, ?_, ?_, hide (unhide HJ).1, hide (unhide HJ).2⟩
                    · have := unhide h2
                      unfold Hid
                      rw [List.length_append, List.length_singleton]
                      omega
                    · have h9 := unhide HEQ
                      rw [unhide HST] at h9
                      refine ⟨f, by have := unhide HFU; have := unhide HNM; omega, ?_⟩
                      rw [ddat_app]
                      simpa [ddat] using h9
                  case measure => (have := unhide HNM; simp [intOf]; omega)
end Go.Proofs.Ytjkkdijoogiipaa
