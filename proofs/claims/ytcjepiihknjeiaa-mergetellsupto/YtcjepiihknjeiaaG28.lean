/- Texts of ours, one behind the other: MergeWalksWalk, MgTell1, MgTell2, MgTell3. -/
import Derived.Test.YtcjepiihknjeiaaG26
import Derived.Test.YtcjepiihknjeiaaG27
/- The walk of the statement MergeWalks. -/
namespace Go.Proofs.Ytcjepiihknjeiaa.QH
open Go.RowKit Go.Shelf
attribute [local go_sem] Oper.semAt_some

/-- append of a row of things, at a fence. -/
theorem wpListIn_append_krow {F : Fence} {nn : Nat} {P : Program} {w : World} {ops : Array Oper} {rest : List Oper} {o : Oper} {a : Act} {Q : Exit → Act → World → Prop} (hgd : o.guard = none) (s x : Operand) (t : TypeId)
    (ho : o.op = .call { callee := .builtin .append, args := #[s, x], argTypes := #[t, t] })
    (base : Nat) (e : TypeId) (i : TypeInfo) (z : Value) (ht : P.underlying t = some (.slice e)) (hi : P.info? e = some i) (hz : i.zero = some z)
    (size bytes : Nat) (hsz0 : 0 < size) (hsize : i.size = size) (hby : i.bytes = bytes) (hzs : z.cells.size = size)
    (v : Value) (n : Nat) (xs : List Value) (hs : a.eval s = v) (hown : w.ownsRow base e size v n xs) (p : Option Addr) (m c : Nat) (news : List Value) (hx : a.eval x = .slice p m c)
    (hrow : KRow size w (.slice p m c) m news) (hone : ∀ u ∈ news, u.oneCell' = true) (h63 : n + m ≤ maxLen) (hbytes : (n + m) * bytes ≤ 140737488355328) (hbase : base ≤ w.heap.size)
    (h : ∀ v' w', w'.ownsRow base e size v' (n + m) (xs ++ news) → w.grownBy w' v.ownBlock → (v'.ownBlock = v.ownBlock ∨ v'.ownBlock = some w.heap.size) → wpListIn F nn P ops Q rest (a.put o.dst v') w') : wpListIn F nn P ops Q (o :: rest) a w := by
  have hr := hrow
  obtain ⟨a', cap', e', k1, k2, k3, k5, k4⟩ := hr
  simp only [Value.slice.injEq] at e'
  obtain ⟨rfl, _, rfl⟩ := e'
  cases p with
  | none =>
    have hc0 := k3 rfl
    subst hc0
    have hm0 : m = 0 := by omega
    subst hm0
    have hn0 : news = [] := List.eq_nil_of_length_eq_zero (by rw [k5]; simp)
    subst hn0
    have hrun := run_append_owned_none (P := P) (w := w) base t o.type e i size ht hi v n xs hown
    refine wpListIn_plain hgd fun K hK => ?_
    unfold Oper.wpIn
    refine ⟨?_, ?_⟩
    · simp [Oper.about, ho, resolve, Target.leads, Sem.run_pure]
    · rw [Oper.semAt_plain F _ _ (by rw [ho]; intro c hc'; cases hc')]
      simp [execOp, ho, resolve, invoke, builtin, hs, hx, hrun, Result.andThen]
      exact hK _ _ (h v w (by simpa using hown) (World.grownBy.refl _ _) (Or.inl rfl))
  | some ad =>
    refine wpListIn_append_any hgd s x t ho base e i z ht hi hz size bytes hsz0 hsize hby hzs v n xs hs hown ad m c news hx k5 (fun j u hu => ?_) hone h63 hbytes hbase h
    rcases k4 with k4 | ⟨b, off, e2, hc⟩
    · subst k4
      have : news = [] := List.eq_nil_of_length_eq_zero (by rw [k5]; simp)
      subst this
      simp at hu
    · cases e2
      rw [Addr.add_lit]
      exact hc j u hu
/-- A cell of the own row written. -/
theorem own_set {w : World} {base e sz n : Nat} {g cap : Nat} {xs : List Value} (h : w.ownsRow base e sz (.slice (some ⟨g, 0, none⟩) n cap) n xs) (j : Nat) (u : Value) : ∃ xs', (w.setCell ⟨g, j, none⟩ u).ownsRow base e sz (.slice (some ⟨g, 0, none⟩) n cap) n xs' := by
  obtain ⟨h0, h1 | ⟨g2, cap2, cur, e1, h2, h3, h4, h5, h6, h7⟩⟩ := h
  · obtain ⟨h1, _⟩ := h1
    cases h1
  · simp only [Value.slice.injEq, Option.some.injEq, Addr.mk.injEq] at e1
    obtain ⟨⟨rfl, _, _⟩, _, rfl⟩ := e1
    have hh := heap_setCell_same w g j _ _ u h3
    exact ⟨_, ⟨by simp; rw [h6, Nat.min_eq_left (Nat.mul_le_mul_right _ h4)], Or.inr ⟨g, cap, _, rfl, h2, hh, h4, h5, by simpa using h6, rfl⟩⟩⟩

set_option maxRecDepth 20000 in
set_option maxHeartbeats 4000000 in
theorem mwalks_any (v1 v2 : Value) (a b : List En) (w : World) (h1 : ER w v1 a) (h2 : ER w v2 b) (hks : ∀ l ∈ [a, b], ∀ x ∈ l, x.1.size ≤ 140737488351232) (hl : (totE [a, b] + 1) * 40 ≤ 140737488355328) :
    Calls Try.prog 4 #[v1, v2] w fun e w' => e = .returned (.bool true) ∧ Below w.heap.size w w' := by
  refine (callsIn_wide (n := 5)).1 ?_
  refine callsIn_of_wp_marks Try.func4 rfl trivial ?_ rfl
  simp only [Try.ntmps4, List.size_toArray, List.length_cons, List.length_nil, Nat.reduceAdd, Nat.reduceSub, Array.replicate_succ, Array.replicate_zero, List.push_toArray, List.append_toArray, List.nil_append, List.cons_append]
  obtain ⟨ie, hie, he0, he1, he2⟩ := info_parts Try.infoEnt
  have hla : a.length * 40 ≤ 140737488355328 ∧ b.length * 40 ≤ 140737488355328 := by
    have k1 := len_tot (LL := [a, b]) (l := a) (by simp)
    have k2 := len_tot (LL := [a, b]) (l := b) (by simp)
    constructor <;> omega
  have HLA := hide (show (0 + a.length ≤ maxLen ∧ (0 + a.length) * 40 ≤ 140737488355328) ∧ (0 + b.length ≤ maxLen ∧ (0 + b.length) * 40 ≤ 140737488355328) from by unfold maxLen; omega)
  have HL := hide hl
  have HRW := hide (fun W (hb : Below w.heap.size w W) => ewalk_own v1 v2 a b W (h1.below hb) (h2.below hb) hks hl)
  have HMW := hide (fun W x y (hx : ER W x a) (hy : ER W y b) => mwalk_any x y a b W hx hy (by omega))
  have H1 := hide (And.intro h1 h2)
  obtain ⟨p1, c1, rfl, _⟩ := h1.shape
  obtain ⟨p2, c2, rfl, _⟩ := h2.shape
  have hmx : Try.prog.follows .mixedOrders = true := by kernel_rfl
  have HAW := hide (fun W => mawake12_any W)
  have hb0 : Below w.heap.size w (w.alloc (.cells #[.bool false] 4)) := (Below.refl _ _).alloc (Nat.le_refl _) _
  have hR0 := World.alloc_heap_new w (.cells #[.bool false] 4)
  have hs0 : (w.alloc (.cells #[.bool false] 4)).heap.size = w.heap.size + 1 := by rw [World.size_alloc]
  have HR := hide hR0
  have HB0 := hide (And.intro hb0 hs0)
  have HA0 := hide (h1.below hb0)
  have HO0 := hide (World.ownsRow_nil (w.alloc (.cells #[.bool false] 4)) (w.heap.size + 1) 37 4)
  clear h1 h2 hks hl hla hb0 hR0 hs0
  gi_wp2_with (first
    | (gi_at_builtin; refine wpListIn_append_krow rfl (.const (.slice none 0 0)) (.tmp 17) 24 rfl (w.heap.size + 1) 37 ie _ Try.underlying24 hie he0 4 40 (by omega) he1 he2 rfl (.slice none 0 0) 0 [] rfl (unhide HO0) p1 a.length c1 (a.flatMap eC) rfl (unhide HA0) (fun u hu => eC_all a u hu) (unhide HLA).1.1 (unhide HLA).1.2 (by rw [(unhide HB0).2]; omega) ?_))
  intro vi w1 hi1 hg1 _
  have hb1 : Below w.heap.size w w1 := (unhide HB0).1.grown hg1 (by rw [(unhide HB0).2]; omega) (fun k hk => by cases hk)
  have hs1 : w.heap.size + 1 ≤ w1.heap.size := by have := hg1.size; rw [(unhide HB0).2] at this; exact this
  have hr1 := (hg1.block _ (Array.getElem?_eq_some_iff.1 (unhide HR)).1 (by intro h; cases h)).trans (unhide HR)
  have hlo1 : ∀ k, vi.ownBlock = some k → w.heap.size + 1 ≤ k ∧ k < w1.heap.size := fun k hk => hi1.lt k hk
  have HB1 := hide (And.intro hb1 (And.intro hs1 hr1))
  have HI1 := hide hi1
  have HLO1 := hide hlo1
  have HA1 := hide ((unhide H1).2.below hb1)
  have HO1 := hide (World.ownsRow_nil w1 w1.heap.size 37 4)
  obtain ⟨pi, ci, rfl⟩ := ownsV_shape hi1
  clear hi1 hg1 hb1 hs1 hr1 hlo1 HA0 HO0
  gi_wp2_with (first
    | (gi_at_builtin; refine wpListIn_append_krow rfl (.const (.slice none 0 0)) (.tmp 19) 24 rfl w1.heap.size 37 ie _ Try.underlying24 hie he0 4 40 (by omega) he1 he2 rfl (.slice none 0 0) 0 [] rfl (unhide HO1) p2 b.length c2 (b.flatMap eC) rfl (unhide HA1) (fun u hu => eC_all b u hu) (unhide HLA).2.1 (unhide HLA).2.2 (Nat.le_refl _) ?_))
  intro vo w2 hi2 hg2 _
  have hb12 : Below w1.heap.size w1 w2 := (Below.refl _ _).grown hg2 (Nat.le_refl _) (fun k hk => by cases hk)
  have hlo2 : ∀ k, vo.ownBlock = some k → w1.heap.size ≤ k ∧ k < w2.heap.size := fun k hk => hi2.lt k hk
  have HI2 := hide (ownsV_keep (F := fun _ => False) (unhide HI1) (Keep.of_below hb12) (fun _ _ => id))
  have HB2 := hide (And.intro ((unhide HB1).1.trans (hb12.mono (unhide HB1).1.size)) (And.intro hb12.size ((hb12.block _ (Array.getElem?_eq_some_iff.1 (unhide HB1).2.2).1).trans (unhide HB1).2.2)))
  have HLO2 := hide hlo2
  have HON2 := hide (er_of_own hi2)
  have HMW2 := hide (unhide HMW w2 _ _ (er_of_own (unhide HI2)) (er_of_own hi2))
  obtain ⟨po, co, rfl⟩ := ownsV_shape hi2
  clear hi2 hg2 hb12 hlo2 HA1 HO1 HMW
  obtain ⟨er, her⟩ : ∃ er, er = (mrgR [a, b]).2 := ⟨_, rfl⟩
  rw [← her] at HMW2 HRW
  clear her
  gi_wp2_with fail
  refine ⟨trivial, (callsIn_wide.2 (unhide HMW2)).mono ?_⟩
  rintro e w3 ⟨f, rfl, hf, b3⟩
  have HB3 := hide (And.intro ((unhide HB2).1.trans (b3.mono (unhide HB2).1.size)) (And.intro b3.size ((b3.block _ (Array.getElem?_eq_some_iff.1 (unhide HB2).2.2).1).trans (unhide HB2).2.2)))
  have HI3 := hide (ownsV_keep (F := fun _ => False) (unhide HI2) (Keep.of_below b3) (fun _ _ => id))
  have HON3 := hide ((unhide HON2).below b3)
  obtain ⟨Hn, F, D, rfl, hsq, hli⟩ := hf
  have hnil : ∀ w, (binOp .eql 43 (.func (.func 31) #[] #[.pointer (some ⟨Hn, 0, none⟩)]) .nilFunc).run Try.prog w = .ok (.bool false) w := fun _ => by kernel_rfl
  have HSQ := hide hsq
  have HLI := hide hli
  have HRW3 := hide (unhide HRW w3 (unhide HB3).1)
  clear b3 hsq hli HMW2 HRW HON2 HI2
  gi_wp2_with fail
  refine ⟨trivial, (callsIn_wide.2 (unhide HRW3)).mono ?_⟩
  rintro e w4 ⟨vx, vy, rfl, hx4, hy4, hox, hoy, b4⟩
  have HB4 := hide (And.intro ((unhide HB3).1.trans (b4.mono (unhide HB3).1.size)) (And.intro b4.size ((b4.block _ (Array.getElem?_eq_some_iff.1 (unhide HB3).2.2).1).trans (unhide HB3).2.2)))
  have HI4 := hide (ownsV_keep (F := fun _ => False) (unhide HI3) (Keep.of_below b4) (fun _ _ => id))
  have HON4 := hide ((unhide HON3).below b4)
  have HLI4 := hide ((unhide HLI).below b4)
  have HBV4 := hide ((unhide H1).2.below (unhide HB4).1)
  clear b4 HRW3 HON3 HI3
  generalize hXs : sidX a (mrgR [a, b]).1 = Xs at *
  generalize hYs : sidX b (mrgR [a, b]).1 = Ys at *
  have HXY4 := hide (And.intro hx4 hy4)
  have HOXY := hide (And.intro hox hoy)
  obtain ⟨px, cx, rfl, _⟩ := hx4.shape
  obtain ⟨py, cy, rfl, _⟩ := hy4.shape
  have HXL := hide (And.intro hXs hYs)
  clear hx4 hy4 hox hoy hXs hYs
  gi_wp2_with fail
  have hb5 : Below w4.heap.size w4 ((w4.alloc (.cells #[.slice px Xs.length cx] 24)).alloc (.cells #[.slice py Ys.length cy] 24)) := ((Below.refl _ _).alloc (Nat.le_refl _) _).alloc (by simp) _
  have hx5 : ((w4.alloc (.cells #[.slice px Xs.length cx] 24)).alloc (.cells #[.slice py Ys.length cy] 24)).heap[w4.heap.size]? = some (.cells #[.slice px Xs.length cx] 24 (0, 0)) := (Below.heap_alloc _ _ _ (by simp)).trans (World.alloc_heap_new w4 _)
  have hy5 : ((w4.alloc (.cells #[.slice px Xs.length cx] 24)).alloc (.cells #[.slice py Ys.length cy] 24)).heap[w4.heap.size + 1]? = some (.cells #[.slice py Ys.length cy] 24 (0, 0)) := by
    have := World.alloc_heap_new (w4.alloc (.cells #[.slice px Xs.length cx] 24)) (.cells #[.slice py Ys.length cy] 24); rwa [World.size_alloc] at this
  have hs5 : ((w4.alloc (.cells #[.slice px Xs.length cx] 24)).alloc (.cells #[.slice py Ys.length cy] 24)).heap.size = w4.heap.size + 2 := by simp
  have H5 := hide (And.intro hb5 (And.intro hx5 (And.intro hy5 hs5)))
  clear hb5 hx5 hy5 hs5
  refine ⟨trivial, (callsIn_wide.2 (unhide HAW _)).mono ?_⟩
  rintro e w6 ⟨rfl, b6⟩
  obtain ⟨k1, k2, k3, k4⟩ := unhide H5
  have hb46 := k1.trans (b6.mono k1.size)
  have H6 := hide (And.intro hb46 (And.intro ((b6.block _ (Array.getElem?_eq_some_iff.1 k2).1).trans k2) (And.intro ((b6.block _ (Array.getElem?_eq_some_iff.1 k3).1).trans k3) (Nat.le_trans (Nat.le_of_eq k4.symm) b6.size))))
  have HI6 := hide (ownsV_keep (F := fun _ => False) (unhide HI4) (Keep.of_below hb46) (fun _ _ => id))
  have HAL := hide (show a.length < 4611686018427387904 by have := (unhide HLA).1.2; omega)
  clear b6 k1 k2 k3 k4 hb46 H5 HI4
  gi_wp2_with fail
  gi_loopw [12] (fun iv wr => ∃ k : Nat, iv = .int .i64 (k : Int) ∧ k ≤ a.length ∧ Hid (Keep (fun k => (Value.slice pi a.length ci).ownBlock = some k) w6 wr ∧ ∃ xs, wr.ownsRow (w.heap.size + 1) 37 4 (.slice pi a.length ci) a.length xs)) (fun iv _ => a.length - (intOf iv).toNat)
  case atStart => exact ⟨0, rfl, Nat.zero_le _, hide ⟨Keep.refl _ _, _, unhide HI6⟩⟩
  case round =>
    obtain ⟨k, rfl, hk, hinv⟩ := hrel
    by_cases hlt : k < a.length
    · have hkI : (k : Int) < (a.length : Int) := by omega
      have hknw : IntKind.i64.wrap ((k : Int) + 1) = (k : Int) + 1 := by have := unhide HAL; rw [IntKind.wrap_i64]; omega
      obtain ⟨g, rfl⟩ : ∃ g, pi = some ⟨g, 0, none⟩ := by
        obtain ⟨_, _, hown⟩ := unhide hinv
        rcases hown.2 with ⟨_, h0⟩ | ⟨g, cap, cur, e1, _⟩
        · omega
        · simp only [Value.slice.injEq] at e1
          exact ⟨g, e1.1⟩
      have hcell : ∃ u, wr.cell? ⟨g, k * 4, none⟩ = some u ∧ wr.frozen? ⟨g, k * 4, none⟩ = false := by
        obtain ⟨_, _, hown⟩ := unhide hinv
        rcases hown.2 with ⟨_, h0⟩ | ⟨g2, cap, cur, e1, _, h3, h4, _, h6, _⟩
        · omega
        · simp only [Value.slice.injEq, Option.some.injEq, Addr.mk.injEq] at e1
          obtain ⟨⟨rfl, _, _⟩, _, rfl⟩ := e1
          have hl : k * 4 < cur.size := by rw [h6]; omega
          exact ⟨cur[k * 4], by rw [cell_of_row wr _ _ _ _ (0, 0) h3]; simp [hl], frozen_of_block h3⟩
      obtain ⟨u, hu1, hu2⟩ := hcell
      have HK := hide hlt
      clear hlt hk
      gi_wp2_with fail
      refine ⟨⟨k + 1, by go_num, unhide HK, hide ⟨(unhide hinv).1.trans (keep_set wr g (k * 4) _) (fun x e => Or.inl (by rw [e]; rfl)), own_set (unhide hinv).2.choose_spec (k * 4) _⟩⟩, ?_⟩
      have := unhide HK
      simp [intOf]
      omega
    · have hke : k = a.length := by omega
      subst hke
      have hge : ¬ (a.length : Int) < (a.length : Int) := by omega
      clear hlt hk
      gi_wp2_with fail
      have hG : ∀ k, (Value.slice pi a.length ci).ownBlock = some k → w.heap.size + 1 ≤ k ∧ k < w1.heap.size := unhide HLO1
      obtain ⟨hk7, _⟩ := unhide hinv
      obtain ⟨m1, m2, m3, m4⟩ := unhide H6
      have z12 := (unhide HB2).2.1
      have z34 := (unhide HB4).2.1
      have z23 := (unhide HB3).2.1
      have hrl : w.heap.size < w4.heap.size := (Array.getElem?_eq_some_iff.1 (unhide HB4).2.2).1
      have hbw6 : Below w.heap.size w w6 := (unhide HB4).1.trans (m1.mono (unhide HB4).1.size)
      have hbw7 : Below w.heap.size w wr := hbw6.trans (hk7.below hbw6.size (fun k hk => by have := (hG k hk).1; omega))
      have hr7 : wr.heap[w.heap.size]? = some (.cells #[.bool false] 4 (0, 0)) := by
        have h6 := (m1.block _ hrl).trans (unhide HB4).2.2
        exact (hk7.block _ (Array.getElem?_eq_some_iff.1 h6).1 (fun h => by have := (hG _ h).1; omega)).trans h6
      have hx7 : wr.heap[w4.heap.size]? = some (.cells #[.slice px Xs.length cx] 24 (0, 0)) := (hk7.block _ (Array.getElem?_eq_some_iff.1 m2).1 (fun h => by have := (hG _ h).2; omega)).trans m2
      have hy7 : wr.heap[w4.heap.size + 1]? = some (.cells #[.slice py Ys.length cy] 24 (0, 0)) := (hk7.block _ (Array.getElem?_eq_some_iff.1 m3).1 (fun h => by have := (hG _ h).2; omega)).trans m3
      have hs7 := hk7.size
      have hv4 : ∀ y ∈ ([(.slice px Xs.length cx, Xs), (.slice py Ys.length cy, Ys), (.slice po b.length co, b), (.slice p2 b.length c2, b)] : List (Value × List En)), ER w4 y.1 y.2 := fun y hy => by
        simp only [List.mem_cons, List.not_mem_nil, or_false] at hy
        rcases hy with rfl | rfl | rfl | rfl
        · exact (unhide HXY4).1
        · exact (unhide HXY4).2
        · exact unhide HON4
        · exact unhide HBV4
      have hvn : ∀ y ∈ ([(.slice px Xs.length cx, Xs), (.slice py Ys.length cy, Ys), (.slice po b.length co, b), (.slice p2 b.length c2, b)] : List (Value × List En)), ∀ g o c, y.1 = .slice (some ⟨g, o, none⟩) y.2.length c → 0 < y.2.length → ¬ (Value.slice pi a.length ci).ownBlock = some g := fun y hy g o c e hp hg => by
        have hgg := hG g hg
        simp only [List.mem_cons, List.not_mem_nil, or_false] at hy
        rcases hy with rfl | rfl | rfl | rfl
        · have := (unhide HOXY).1 g (by rw [show (Value.slice px Xs.length cx) = _ from e]; rfl); omega
        · have := (unhide HOXY).2 g (by rw [show (Value.slice py Ys.length cy) = _ from e]; rfl); omega
        · have := (unhide HLO2 g (by rw [show (Value.slice po b.length co) = _ from e]; rfl)).1; omega
        · have h9 := lowV_of (vs := [(.slice p2 b.length c2, b)]) (W := w) (fun y hy => by rw [List.mem_singleton.1 hy]; exact (unhide H1).2) _ (by simp) g o c e hp; omega
      have hv7 : ∀ y ∈ ([(.slice px Xs.length cx, Xs), (.slice py Ys.length cy, Ys), (.slice po b.length co, b), (.slice p2 b.length c2, b)] : List (Value × List En)), ER wr y.1 y.2 := fun y hy => KRow.keep ((hv4 y hy).below m1) hk7 (hvn y hy)
      have HLOW := hide (lowV_of hv4)
      have HLI7 : Hid (Lies F D w2.heap.size wr) := hide (((unhide HLI4).below m1).move hk7 (fun k hf hg => by have := (unhide HLI).low k hf; have := (hG k hg).2; omega))
      have HV7 := hide hv7
      have H7 := hide (And.intro hbw7 (And.intro hr7 (And.intro hx7 (And.intro hy7 (And.intro hrl (Nat.le_trans m4 hs7))))))
      have HZX : Hid (∀ pre x y rest, sideR a b = pre ++ (x, y) :: rest → Xs[pre.length]? = some x ∧ Ys[pre.length]? = some y) := by
        intro pre x y rest hZ
        rw [side_sid, (unhide HXL).1, (unhide HXL).2] at hZ
        have h9 : (List.zip Xs Ys)[pre.length]? = some (x, y) := by rw [hZ, List.getElem?_append_right (Nat.le_refl _), Nat.sub_self]; rfl
        exact List.getElem?_zip_eq_some.1 h9
      have HZL : Hid ((sideR a b).length = Xs.length) := by
        unfold Hid
        rw [← (unhide HXL).1]
        simp [sideR, sidX]
      have HML : Hid (Xs.length + 3 ≤ 4611686018427387904) := by
        unfold Hid
        have h9 := mrgR_len [a, b]
        have := unhide HL
        rw [← (unhide HXL).1]
        simp only [sidX, List.length_map]
        omega
      clear hG hk7 m1 m2 m3 m4 z12 z34 z23 hrl hbw6 hbw7 hr7 hx7 hy7 hs7 hv4 hvn hv7 hinv H6 HI6 HXY4 HON4 HBV4
      refine wpIn_loop_rounds 3 ?_
      rw [roundsIn_succ]
      gi_wp2_with fail
      have hb8 : Below wr.heap.size wr (wr.alloc (.cells #[.int .i64 0] 3)) := (Below.refl _ _).alloc (Nat.le_refl _) _
      have hi8 := World.alloc_heap_new wr (.cells #[.int .i64 0] 3)
      obtain ⟨w8, hw8⟩ : ∃ w8, wr.alloc (.cells #[.int .i64 0] 3) = w8 := ⟨_, rfl⟩
      have hs8 : w8.heap.size = wr.heap.size + 1 := by rw [← hw8]; simp
      rw [hw8] at hb8 hi8 ⊢
      clear hw8
      obtain ⟨q1, q2, q3, q4, q5, q6⟩ := unhide H7
      have HST : Hid (CtJ [(w.heap.size, .cells #[.bool false] 4 (0, 0)), (w4.heap.size, .cells #[.slice px Xs.length cx] 24 (0, 0)), (w4.heap.size + 1, .cells #[.slice py Ys.length cy] 24 (0, 0))] wr.heap.size [(.slice px Xs.length cx, Xs), (.slice py Ys.length cy, Ys), (.slice po b.length co, b), (.slice p2 b.length c2, b)] 0 (fun k => k = w.heap.size ∨ k = w4.heap.size ∨ k = w4.heap.size + 1 ∨ k = wr.heap.size) w8) := by
        refine ⟨fun x hx => ?_, hi8, fun x hx => ?_, fun k => by simp [or_assoc], fun y hy => (unhide HV7 y hy).below hb8⟩
        · simp only [List.mem_cons, List.not_mem_nil, or_false] at hx
          rcases hx with rfl | rfl | rfl
          · exact (hb8.block _ (Array.getElem?_eq_some_iff.1 q2).1).trans q2
          · exact (hb8.block _ (Array.getElem?_eq_some_iff.1 q3).1).trans q3
          · exact (hb8.block _ (Array.getElem?_eq_some_iff.1 q4).1).trans q4
        · simp only [List.mem_cons, List.not_mem_nil, or_false] at hx
          rcases hx with rfl | rfl | rfl
          · show w.heap.size ≠ wr.heap.size; omega
          · show w4.heap.size ≠ wr.heap.size; omega
          · show w4.heap.size + 1 ≠ wr.heap.size; omega
      have HLIx := hide ((unhide HLI7).below hb8)
      have HBS := hide (And.intro (q1.trans (hb8.mono q1.size)) (And.intro q5 (And.intro q6 hs8)))
      clear hb8 hi8 hs8 q1 q2 q3 q4 q5 q6
      refine wpIn_seqHR (C0 := (fun k => k = w.heap.size ∨ k = w4.heap.size ∨ k = w4.heap.size + 1 ∨ k = wr.heap.size)) (unhide HSQ) rfl (fun _ _ => by kernel_rfl) (fun _ _ _ _ _ h => by rw [h]; rfl)
        (fun pre C W => True ∧ CtJ [(w.heap.size, .cells #[.bool false] 4 (0, 0)), (w4.heap.size, .cells #[.slice px Xs.length cx] 24 (0, 0)), (w4.heap.size + 1, .cells #[.slice py Ys.length cy] 24 (0, 0))] wr.heap.size [(.slice px Xs.length cx, Xs), (.slice py Ys.length cy, Ys), (.slice po b.length co, b), (.slice p2 b.length c2, b)] pre.length C W) (fun _ _ _ _ => False) (CtJ.ok _ _ _ _ ((unhide HLOW).from (by have := unhide HBS; omega)) _ _) (fun _ => SOk.none _) ⟨trivial, unhide HST⟩ ?data0 ?apart0 ?round0 ?done0 ?stop0
      case data0 =>
        intro W hb
        exact (unhide HLIx).stays _ _ (fun _ => False) (unhide HLIx).at_ (Keep.of_below hb) (fun _ _ => id)
      case apart0 =>
        intro k hk
        have h1 := (unhide HLIx).lt k hk
        have h2 := (unhide HLI).lt k hk
        have h3 := (unhide HLI).low k hk
        have h4 := unhide HBS
        have h5 := (unhide HB4).2.1
        have h6 := (unhide HB2).2.1
        have h7 := (unhide HB1).2.1
        refine ⟨fun hc => ?_, h1⟩
        rcases hc with hc | hc | hc | hc <;> omega
      case stop0 =>
        rintro dd c pre x rest C W _ _ h
        exact h.elim

      case round0 =>
        rintro l2 pre ⟨x, y⟩ rest C W3 WB vs hZ hj3 hm hlt3 hbB hen
        unfold encW at hen
        subst hen
        obtain ⟨hmX, hmY⟩ := unhide HZX _ _ _ _ hZ
        have hlen : pre.length < Xs.length := (List.getElem?_eq_some_iff.1 hmX).1
        have hlenY : pre.length < Ys.length := (List.getElem?_eq_some_iff.1 hmY).1
        have hbn : Below WB.heap.size WB ((WB.alloc (.cells #[.string x.1, .int .u64 x.2.1, .int .i64 x.2.2.1, .int .i64 x.2.2.2] 37)).alloc (.cells #[.string y.1, .int .u64 y.2.1, .int .i64 y.2.2.1, .int .i64 y.2.2.2] 37)) := ((Below.refl _ _).alloc (Nat.le_refl _) _).alloc (by simp) _
        have hx1 : ((WB.alloc (.cells #[.string x.1, .int .u64 x.2.1, .int .i64 x.2.2.1, .int .i64 x.2.2.2] 37)).alloc (.cells #[.string y.1, .int .u64 y.2.1, .int .i64 y.2.2.1, .int .i64 y.2.2.2] 37)).heap[WB.heap.size]? = some (.cells #[.string x.1, .int .u64 x.2.1, .int .i64 x.2.2.1, .int .i64 x.2.2.2] 37 (0, 0)) := (Below.heap_alloc _ _ _ (by simp)).trans (World.alloc_heap_new WB _)
        have hy1 : ((WB.alloc (.cells #[.string x.1, .int .u64 x.2.1, .int .i64 x.2.2.1, .int .i64 x.2.2.2] 37)).alloc (.cells #[.string y.1, .int .u64 y.2.1, .int .i64 y.2.2.1, .int .i64 y.2.2.2] 37)).heap[WB.heap.size + 1]? = some (.cells #[.string y.1, .int .u64 y.2.1, .int .i64 y.2.2.1, .int .i64 y.2.2.2] 37 (0, 0)) := by
          have := World.alloc_heap_new (WB.alloc (.cells #[.string x.1, .int .u64 x.2.1, .int .i64 x.2.2.1, .int .i64 x.2.2.2] 37)) (.cells #[.string y.1, .int .u64 y.2.1, .int .i64 y.2.2.1, .int .i64 y.2.2.2] 37); rwa [World.size_alloc] at this
        have HI2 := hide (And.intro (And.intro ((hj3.2.below hbB).below hbn) (And.intro hx1 hy1)) ((Moves.of_below (F := C) hbB).trans (Moves.of_below hbn)))
        have HSB := hide (Nat.lt_of_lt_of_le hlt3 hbB.size)
        have HMX := hide (And.intro hmX hmY)
        have HLN := hide (And.intro hlen hlenY)
        unfold eV
        clear hZ hj3 hm hlt3 hbB hbn hx1 hy1 hmX hmY hlen hlenY
        gi_wp2
        refine ⟨fun C' Y => CtJ [(w.heap.size, .cells #[.bool false] 4 (0, 0)), (w4.heap.size, .cells #[.slice px Xs.length cx] 24 (0, 0)), (w4.heap.size + 1, .cells #[.slice py Ys.length cy] 24 (0, 0))] wr.heap.size [(.slice px Xs.length cx, Xs), (.slice py Ys.length cy, Ys), (.slice po b.length co, b), (.slice p2 b.length c2, b)] pre.length C' Y ∧ Y.heap[WB.heap.size]? = some (.cells #[.string x.1, .int .u64 x.2.1, .int .i64 x.2.2.1, .int .i64 x.2.2.2] 37 (0, 0)) ∧ Y.heap[WB.heap.size + 1]? = some (.cells #[.string y.1, .int .u64 y.2.1, .int .i64 y.2.2.1, .int .i64 y.2.2.2] 37 (0, 0)), C, ?put, (unhide HI2).1, (unhide HI2).2, fun W4 hi4 hm4 => ?_⟩
        case put =>
          rintro hn Y o ⟨h1, h2, h3⟩
          have hp := keep_put Y (w8.heap.size + 1) o
          have hs := unhide HBS
          have hb := unhide HSB
          exact ⟨h1.stays hp (fun k hc e => hn (e ▸ hc)) (fun y hy g o c e hp2 e2 => by have := (unhide HLOW) y hy g o c e hp2; omega), (hp.block _ (Array.getElem?_eq_some_iff.1 h2).1 (by omega)).trans h2, (hp.block _ (Array.getElem?_eq_some_iff.1 h3).1 (by omega)).trans h3⟩
        obtain ⟨hct, hxc, hyc⟩ := hi4
        obtain ⟨g, o, c', e1, hc1, _, _⟩ := (hct.2.2.2.2 (.slice px Xs.length cx, Xs) (by simp)).seen (by show 0 < Xs.length; have := (unhide HLN).1; omega)
        simp only [Value.slice.injEq] at e1
        obtain ⟨rfl, _, rfl⟩ := e1
        obtain ⟨g2, o2, c2', e2, hc2, _, _⟩ := (hct.2.2.2.2 (.slice py Ys.length cy, Ys) (by simp)).seen (by show 0 < Ys.length; have := (unhide HLN).2; omega)
        simp only [Value.slice.injEq] at e2
        obtain ⟨rfl, _, rfl⟩ := e2
        have HCT := hide hct
        have h5X := hct.1 (w4.heap.size, .cells #[.slice (some ⟨g, o, none⟩) Xs.length cx] 24 (0, 0)) (by simp)
        have h5Y := hct.1 (w4.heap.size + 1, .cells #[.slice (some ⟨g2, o2, none⟩) Ys.length cy] 24 (0, 0)) (by simp)
        have h5I := hct.2.1
        have h5R := er_at (hct.2.2.2.2 (.slice (some ⟨g, o, none⟩) Xs.length cx, Xs) (by simp)) (unhide HMX).1
        have h5S := er_at (hct.2.2.2.2 (.slice (some ⟨g2, o2, none⟩) Ys.length cy, Ys) (by simp)) (unhide HMX).2
        obtain ⟨CC, hCC⟩ : ∃ CC : World → Prop, CC = fun w' => Below W4.heap.size W4 w' := ⟨_, rfl⟩
        have HCC : Hid (∀ w', CC w' → w'.cell? ⟨w4.heap.size, 0, none⟩ = some (.slice (some ⟨g, o, none⟩) Xs.length cx) ∧ w'.cell? ⟨w4.heap.size + 1, 0, none⟩ = some (.slice (some ⟨g2, o2, none⟩) Ys.length cy) ∧ w'.cell? ⟨wr.heap.size, 0, none⟩ = some (.int .i64 (pre.length : Int)) ∧ w'.frozen? ⟨wr.heap.size, 0, none⟩ = false ∧ (w'.cell? ⟨WB.heap.size, 0, none⟩ = some (.string x.1) ∧ w'.cell? ⟨WB.heap.size, 1, none⟩ = some (.int .u64 x.2.1) ∧ w'.cell? ⟨WB.heap.size, 2, none⟩ = some (.int .i64 x.2.2.1) ∧ w'.cell? ⟨WB.heap.size, 3, none⟩ = some (.int .i64 x.2.2.2)) ∧ (w'.cell? ⟨WB.heap.size + 1, 0, none⟩ = some (.string y.1) ∧ w'.cell? ⟨WB.heap.size + 1, 1, none⟩ = some (.int .u64 y.2.1) ∧ w'.cell? ⟨WB.heap.size + 1, 2, none⟩ = some (.int .i64 y.2.2.1) ∧ w'.cell? ⟨WB.heap.size + 1, 3, none⟩ = some (.int .i64 y.2.2.2)) ∧ (w'.cell? ⟨g, o + pre.length * 4, none⟩ = some (.string x.1) ∧ w'.cell? ⟨g, o + pre.length * 4 + 1, none⟩ = some (.int .u64 x.2.1) ∧ w'.cell? ⟨g, o + pre.length * 4 + 2, none⟩ = some (.int .i64 x.2.2.1) ∧ w'.cell? ⟨g, o + pre.length * 4 + 3, none⟩ = some (.int .i64 x.2.2.2)) ∧ (w'.cell? ⟨g2, o2 + pre.length * 4, none⟩ = some (.string y.1) ∧ w'.cell? ⟨g2, o2 + pre.length * 4 + 1, none⟩ = some (.int .u64 y.2.1) ∧ w'.cell? ⟨g2, o2 + pre.length * 4 + 2, none⟩ = some (.int .i64 y.2.2.1) ∧ w'.cell? ⟨g2, o2 + pre.length * 4 + 3, none⟩ = some (.int .i64 y.2.2.2))) := by
          unfold Hid
          rw [hCC]
          intro w' hw
          have q1 := (hw.block _ (Array.getElem?_eq_some_iff.1 h5X).1).trans h5X
          have q2 := (hw.block _ (Array.getElem?_eq_some_iff.1 h5Y).1).trans h5Y
          have q3 := (hw.block _ (Array.getElem?_eq_some_iff.1 h5I).1).trans h5I
          have q4 := (hw.block _ (Array.getElem?_eq_some_iff.1 hxc).1).trans hxc
          have q5 := (hw.block _ (Array.getElem?_eq_some_iff.1 hyc).1).trans hyc
          obtain ⟨x0, x1, x2, x3, _⟩ := ecells q4
          obtain ⟨y0, y1, y2, y3, _⟩ := ecells q5
          exact ⟨by rw [cell_of_row w' _ _ _ _ (0, 0) q1]; rfl, by rw [cell_of_row w' _ _ _ _ (0, 0) q2]; rfl, by rw [cell_of_row w' _ _ _ _ (0, 0) q3]; rfl, frozen_of_block q3, ⟨x0, x1, x2, x3⟩, ⟨y0, y1, y2, y3⟩, h5R w' hw, h5S w' hw⟩
        have HC0 : Hid (CC { W4 with drawn := W4.drawn + 1 }) := by unfold Hid; rw [hCC]; exact (Below.refl _ W4).drew
        have HCW : Hid (∀ w', CC w' → Below W4.heap.size W4 w') := by unfold Hid; rw [hCC]; exact fun w' hw => hw
        have hlI : (pre.length : Int) < (Xs.length : Int) := by have := (unhide HLN).1; omega
        have hlI2 : ¬ (Xs.length : Int) ≤ (pre.length : Int) := by omega
        have hlN : ¬ Xs.length ≤ pre.length := by omega
        have hlY : (pre.length : Int) < (Ys.length : Int) := by have := (unhide HLN).2; omega
        have hlY2 : pre.length < Ys.length := (unhide HLN).2
        have hnw : IntKind.i64.wrap ((pre.length : Int) + 1) = (pre.length : Int) + 1 := by have := unhide HML; rw [IntKind.wrap_i64]; omega
        clear hCC h5X h5Y h5I h5R h5S hct hxc hyc hm4 HI2
        gi_wp2_with fail
        refine region_calmW CC (by kernel_rfl) (by kernel_rfl) (by simp) (unhide HC0) ?_
        repeat (first
          | go_big_quiet_skip
          | (go_big_quiet_want
             apply Exists.intro
             refine ⟨fun w' hw' => ?_, ?_⟩
             · obtain ⟨d0, d1, d2, _, ⟨d3, d4, d5, d6⟩, ⟨d7, d8, d9, d10⟩, ⟨f3, f4, f5, f6⟩, ⟨f7, f8, f9, f10⟩⟩ := unhide HCC w' hw'
               go_simp
               first | done | rfl
             simp only [Act.put, List.setIfInBounds_toArray, List.set_cons_zero, List.set_cons_succ]
             go_big_quiet_on))
        refine wpQuiet_nil ?_
        intro W6 hw6
        obtain ⟨_, _, d1, d1f, _⟩ := unhide HCC W6 hw6
        have HB6 := hide (unhide HCW W6 hw6)
        clear hw6 HCC HC0 HCW
        gi_wp2_with fail
        have ht := ((unhide HCT).below (unhide HB6)).tick (fun v hv gg oo cc e hp2 => by have := unhide HLOW v hv gg oo cc e hp2; have := unhide HBS; omega)
        refine ⟨C, ⟨trivial, ?_⟩, (Moves.of_below (unhide HB6)).trans ht.2⟩
        rw [List.length_append]
        exact ht.1

      case done0 =>
        rintro dd C W9 hdd ⟨_, hct⟩ hm hnc hK
        have hx9 := hct.1 (w4.heap.size, .cells #[.slice px Xs.length cx] 24 (0, 0)) (by simp)
        have hy9 := hct.1 (w4.heap.size + 1, .cells #[.slice py Ys.length cy] 24 (0, 0)) (by simp)
        have hr9 := hct.1 (w.heap.size, .cells #[.bool false] 4 (0, 0)) (by simp)
        have hi9 := hct.2.1
        rw [unhide HZL] at hi9
        have xc9 : W9.cell? ⟨w4.heap.size, 0, none⟩ = some (.slice px Xs.length cx) := by rw [cell_of_row W9 _ _ _ _ (0, 0) hx9]; rfl
        have ic9 : W9.cell? ⟨wr.heap.size, 0, none⟩ = some (.int .i64 (Xs.length : Int)) := by rw [cell_of_row W9 _ _ _ _ (0, 0) hi9]; rfl
        obtain ⟨q1, q2, q3, q4⟩ := unhide HBS
        have hBW9 : Below w.heap.size w W9 := q1.trans (hm.keep.below q1.size (fun k hk => by omega))
        have hs89 := hm.keep.size
        have hdl : dd < W9.heap.size := (Array.getElem?_eq_some_iff.1 hK).1
        have HV9 := hide hct.2.2.2.2
        have HLI9 : Hid (Lies F D w2.heap.size W9) := hide ((unhide HLIx).move hm.keep (fun k hf hk => by
          have h2 := (unhide HLI).lt k hf
          have h3 := (unhide HLI).low k hf
          have h5 := (unhide HB4).2.1
          have h6 := (unhide HB2).2.1
          have h7 := (unhide HB1).2.1
          rcases hk with hk | hk | hk | hk <;> omega))
        have H9 := hide (And.intro hBW9 (And.intro hr9 (And.intro hx9 (And.intro hy9 (And.intro hK (And.intro hs89 (And.intro hdd hdl)))))))
        clear hx9 hy9 hr9 hi9 q1 q2 q3 q4 hBW9 hs89 hdl hct hm hnc hK hdd HST
        gi_wp2_with fail
        rw [roundsIn_succ]
        gi_wp2_with fail
        have hb10 : Below W9.heap.size W9 (W9.alloc (.cells #[.int .i64 0] 3)) := (Below.refl _ _).alloc (Nat.le_refl _) _
        have hi10 := World.alloc_heap_new W9 (.cells #[.int .i64 0] 3)
        obtain ⟨w10, hw10⟩ : ∃ w10, W9.alloc (.cells #[.int .i64 0] 3) = w10 := ⟨_, rfl⟩
        have hs10 : w10.heap.size = W9.heap.size + 1 := by rw [← hw10]; simp
        rw [hw10] at hb10 hi10 ⊢
        clear hw10
        obtain ⟨p1, p2', p3, p4, p5, p6, p7, p8⟩ := unhide H9
        obtain ⟨q1, q2, q3, q4⟩ := unhide HBS
        have HST : Hid (CtJ [(w.heap.size, .cells #[.bool false] 4 (0, 0)), (w4.heap.size, .cells #[.slice px Xs.length cx] 24 (0, 0)), (w4.heap.size + 1, .cells #[.slice py Ys.length cy] 24 (0, 0)), (dd, .deferred (some []))] W9.heap.size [(.slice px Xs.length cx, Xs), (.slice py Ys.length cy, Ys), (.slice po b.length co, b), (.slice p2 b.length c2, b)] 0 (fun k => k = w.heap.size ∨ k = w4.heap.size ∨ k = w4.heap.size + 1 ∨ k = dd ∨ k = W9.heap.size) w10) := by
          refine ⟨fun x hx => ?_, hi10, fun x hx => ?_, fun k => by simp [or_assoc], fun y hy => (unhide HV9 y hy).below hb10⟩
          · simp only [List.mem_cons, List.not_mem_nil, or_false] at hx
            rcases hx with rfl | rfl | rfl | rfl
            · exact (hb10.block _ (Array.getElem?_eq_some_iff.1 p2').1).trans p2'
            · exact (hb10.block _ (Array.getElem?_eq_some_iff.1 p3).1).trans p3
            · exact (hb10.block _ (Array.getElem?_eq_some_iff.1 p4).1).trans p4
            · exact (hb10.block _ p8).trans p5
          · simp only [List.mem_cons, List.not_mem_nil, or_false] at hx
            rcases hx with rfl | rfl | rfl | rfl
            · show w.heap.size ≠ W9.heap.size; omega
            · show w4.heap.size ≠ W9.heap.size; omega
            · show w4.heap.size + 1 ≠ W9.heap.size; omega
            · show dd ≠ W9.heap.size; omega
        have HLIy := hide ((unhide HLI9).below hb10)
        have HBS := hide (And.intro (p1.trans (hb10.mono p1.size)) (And.intro q2 (And.intro (show w4.heap.size + 2 ≤ W9.heap.size by omega) (And.intro hs10 (And.intro (show w4.heap.size + 2 < dd by omega) p8)))))
        clear hb10 hi10 hs10 p1 p2' p3 p4 p5 p6 p7 p8 q1 q2 q3 q4
        refine wpIn_seqHR (C0 := (fun k => k = w.heap.size ∨ k = w4.heap.size ∨ k = w4.heap.size + 1 ∨ k = dd ∨ k = W9.heap.size)) (unhide HSQ) rfl (fun _ _ => by kernel_rfl) (fun _ _ _ _ _ h => by rw [h]; rfl)
          (fun pre C W => True ∧ CtJ [(w.heap.size, .cells #[.bool false] 4 (0, 0)), (w4.heap.size, .cells #[.slice px Xs.length cx] 24 (0, 0)), (w4.heap.size + 1, .cells #[.slice py Ys.length cy] 24 (0, 0)), (dd, .deferred (some []))] W9.heap.size [(.slice px Xs.length cx, Xs), (.slice py Ys.length cy, Ys), (.slice po b.length co, b), (.slice p2 b.length c2, b)] pre.length C W) (fun _ _ _ _ => False) (CtJ.ok _ _ _ _ ((unhide HLOW).from (by have := unhide HBS; omega)) _ _) (fun _ => SOk.none _) ⟨trivial, unhide HST⟩ ?data1 ?apart1 ?round1 ?done1 ?stop1
        case data1 =>
          intro W hb
          exact (unhide HLIy).stays _ _ (fun _ => False) (unhide HLIy).at_ (Keep.of_below hb) (fun _ _ => id)
        case apart1 =>
          intro k hk
          have h1 := (unhide HLIy).lt k hk
          have h2 := (unhide HLI).lt k hk
          have h3 := (unhide HLI).low k hk
          have h4 := unhide HBS
          have h5 := (unhide HB4).2.1
          have h6 := (unhide HB2).2.1
          have h7 := (unhide HB1).2.1
          refine ⟨fun hc => ?_, h1⟩
          rcases hc with hc | hc | hc | hc | hc <;> omega
        case stop1 =>
          rintro dd c pre x rest C W _ _ h
          exact h.elim

        case round1 =>
          rintro l2 pre ⟨x, y⟩ rest C W3 WB vs hZ hj3 hm hlt3 hbB hen
          unfold encW at hen
          subst hen
          obtain ⟨hmX, hmY⟩ := unhide HZX _ _ _ _ hZ
          have hlen : pre.length < Xs.length := (List.getElem?_eq_some_iff.1 hmX).1
          have hlenY : pre.length < Ys.length := (List.getElem?_eq_some_iff.1 hmY).1
          have hbn : Below WB.heap.size WB ((WB.alloc (.cells #[.string x.1, .int .u64 x.2.1, .int .i64 x.2.2.1, .int .i64 x.2.2.2] 37)).alloc (.cells #[.string y.1, .int .u64 y.2.1, .int .i64 y.2.2.1, .int .i64 y.2.2.2] 37)) := ((Below.refl _ _).alloc (Nat.le_refl _) _).alloc (by simp) _
          have hx1 : ((WB.alloc (.cells #[.string x.1, .int .u64 x.2.1, .int .i64 x.2.2.1, .int .i64 x.2.2.2] 37)).alloc (.cells #[.string y.1, .int .u64 y.2.1, .int .i64 y.2.2.1, .int .i64 y.2.2.2] 37)).heap[WB.heap.size]? = some (.cells #[.string x.1, .int .u64 x.2.1, .int .i64 x.2.2.1, .int .i64 x.2.2.2] 37 (0, 0)) := (Below.heap_alloc _ _ _ (by simp)).trans (World.alloc_heap_new WB _)
          have hy1 : ((WB.alloc (.cells #[.string x.1, .int .u64 x.2.1, .int .i64 x.2.2.1, .int .i64 x.2.2.2] 37)).alloc (.cells #[.string y.1, .int .u64 y.2.1, .int .i64 y.2.2.1, .int .i64 y.2.2.2] 37)).heap[WB.heap.size + 1]? = some (.cells #[.string y.1, .int .u64 y.2.1, .int .i64 y.2.2.1, .int .i64 y.2.2.2] 37 (0, 0)) := by
            have := World.alloc_heap_new (WB.alloc (.cells #[.string x.1, .int .u64 x.2.1, .int .i64 x.2.2.1, .int .i64 x.2.2.2] 37)) (.cells #[.string y.1, .int .u64 y.2.1, .int .i64 y.2.2.1, .int .i64 y.2.2.2] 37); rwa [World.size_alloc] at this
          have HI2 := hide (And.intro (And.intro ((hj3.2.below hbB).below hbn) (And.intro hx1 hy1)) ((Moves.of_below (F := C) hbB).trans (Moves.of_below hbn)))
          have HSB := hide (Nat.lt_of_lt_of_le hlt3 hbB.size)
          have HMX := hide (And.intro hmX hmY)
          have HLN := hide (And.intro hlen hlenY)
          unfold eV
          clear hZ hj3 hm hlt3 hbB hbn hx1 hy1 hmX hmY hlen hlenY
          gi_wp2
          refine ⟨fun C' Y => CtJ [(w.heap.size, .cells #[.bool false] 4 (0, 0)), (w4.heap.size, .cells #[.slice px Xs.length cx] 24 (0, 0)), (w4.heap.size + 1, .cells #[.slice py Ys.length cy] 24 (0, 0)), (dd, .deferred (some []))] W9.heap.size [(.slice px Xs.length cx, Xs), (.slice py Ys.length cy, Ys), (.slice po b.length co, b), (.slice p2 b.length c2, b)] pre.length C' Y ∧ Y.heap[WB.heap.size]? = some (.cells #[.string x.1, .int .u64 x.2.1, .int .i64 x.2.2.1, .int .i64 x.2.2.2] 37 (0, 0)) ∧ Y.heap[WB.heap.size + 1]? = some (.cells #[.string y.1, .int .u64 y.2.1, .int .i64 y.2.2.1, .int .i64 y.2.2.2] 37 (0, 0)), C, ?put, (unhide HI2).1, (unhide HI2).2, fun W4 hi4 hm4 => ?_⟩
          case put =>
            rintro hn Y o ⟨h1, h2, h3⟩
            have hp := keep_put Y (w10.heap.size + 1) o
            have hs := unhide HBS
            have hb := unhide HSB
            exact ⟨h1.stays hp (fun k hc e => hn (e ▸ hc)) (fun y hy g o c e hp2 e2 => by have := (unhide HLOW) y hy g o c e hp2; omega), (hp.block _ (Array.getElem?_eq_some_iff.1 h2).1 (by omega)).trans h2, (hp.block _ (Array.getElem?_eq_some_iff.1 h3).1 (by omega)).trans h3⟩
          obtain ⟨hct, hxc, hyc⟩ := hi4
          obtain ⟨g, o, c', e1, hc1, _, _⟩ := (hct.2.2.2.2 (.slice px Xs.length cx, Xs) (by simp)).seen (by show 0 < Xs.length; have := (unhide HLN).1; omega)
          simp only [Value.slice.injEq] at e1
          obtain ⟨rfl, _, rfl⟩ := e1
          obtain ⟨g2, o2, c2', e2, hc2, _, _⟩ := (hct.2.2.2.2 (.slice py Ys.length cy, Ys) (by simp)).seen (by show 0 < Ys.length; have := (unhide HLN).2; omega)
          simp only [Value.slice.injEq] at e2
          obtain ⟨rfl, _, rfl⟩ := e2
          have HCT := hide hct
          have h5X := hct.1 (w4.heap.size, .cells #[.slice (some ⟨g, o, none⟩) Xs.length cx] 24 (0, 0)) (by simp)
          have h5Y := hct.1 (w4.heap.size + 1, .cells #[.slice (some ⟨g2, o2, none⟩) Ys.length cy] 24 (0, 0)) (by simp)
          have h5I := hct.2.1
          have h5R := er_at (hct.2.2.2.2 (.slice (some ⟨g, o, none⟩) Xs.length cx, Xs) (by simp)) (unhide HMX).1
          have h5S := er_at (hct.2.2.2.2 (.slice (some ⟨g2, o2, none⟩) Ys.length cy, Ys) (by simp)) (unhide HMX).2
          obtain ⟨CC, hCC⟩ : ∃ CC : World → Prop, CC = fun w' => Below W4.heap.size W4 w' := ⟨_, rfl⟩
          have HCC : Hid (∀ w', CC w' → w'.cell? ⟨w4.heap.size, 0, none⟩ = some (.slice (some ⟨g, o, none⟩) Xs.length cx) ∧ w'.cell? ⟨w4.heap.size + 1, 0, none⟩ = some (.slice (some ⟨g2, o2, none⟩) Ys.length cy) ∧ w'.cell? ⟨W9.heap.size, 0, none⟩ = some (.int .i64 (pre.length : Int)) ∧ w'.frozen? ⟨W9.heap.size, 0, none⟩ = false ∧ (w'.cell? ⟨WB.heap.size, 0, none⟩ = some (.string x.1) ∧ w'.cell? ⟨WB.heap.size, 1, none⟩ = some (.int .u64 x.2.1) ∧ w'.cell? ⟨WB.heap.size, 2, none⟩ = some (.int .i64 x.2.2.1) ∧ w'.cell? ⟨WB.heap.size, 3, none⟩ = some (.int .i64 x.2.2.2)) ∧ (w'.cell? ⟨WB.heap.size + 1, 0, none⟩ = some (.string y.1) ∧ w'.cell? ⟨WB.heap.size + 1, 1, none⟩ = some (.int .u64 y.2.1) ∧ w'.cell? ⟨WB.heap.size + 1, 2, none⟩ = some (.int .i64 y.2.2.1) ∧ w'.cell? ⟨WB.heap.size + 1, 3, none⟩ = some (.int .i64 y.2.2.2)) ∧ (w'.cell? ⟨g, o + pre.length * 4, none⟩ = some (.string x.1) ∧ w'.cell? ⟨g, o + pre.length * 4 + 1, none⟩ = some (.int .u64 x.2.1) ∧ w'.cell? ⟨g, o + pre.length * 4 + 2, none⟩ = some (.int .i64 x.2.2.1) ∧ w'.cell? ⟨g, o + pre.length * 4 + 3, none⟩ = some (.int .i64 x.2.2.2)) ∧ (w'.cell? ⟨g2, o2 + pre.length * 4, none⟩ = some (.string y.1) ∧ w'.cell? ⟨g2, o2 + pre.length * 4 + 1, none⟩ = some (.int .u64 y.2.1) ∧ w'.cell? ⟨g2, o2 + pre.length * 4 + 2, none⟩ = some (.int .i64 y.2.2.1) ∧ w'.cell? ⟨g2, o2 + pre.length * 4 + 3, none⟩ = some (.int .i64 y.2.2.2))) := by
            unfold Hid
            rw [hCC]
            intro w' hw
            have q1 := (hw.block _ (Array.getElem?_eq_some_iff.1 h5X).1).trans h5X
            have q2 := (hw.block _ (Array.getElem?_eq_some_iff.1 h5Y).1).trans h5Y
            have q3 := (hw.block _ (Array.getElem?_eq_some_iff.1 h5I).1).trans h5I
            have q4 := (hw.block _ (Array.getElem?_eq_some_iff.1 hxc).1).trans hxc
            have q5 := (hw.block _ (Array.getElem?_eq_some_iff.1 hyc).1).trans hyc
            obtain ⟨x0, x1, x2, x3, _⟩ := ecells q4
            obtain ⟨y0, y1, y2, y3, _⟩ := ecells q5
            exact ⟨by rw [cell_of_row w' _ _ _ _ (0, 0) q1]; rfl, by rw [cell_of_row w' _ _ _ _ (0, 0) q2]; rfl, by rw [cell_of_row w' _ _ _ _ (0, 0) q3]; rfl, frozen_of_block q3, ⟨x0, x1, x2, x3⟩, ⟨y0, y1, y2, y3⟩, h5R w' hw, h5S w' hw⟩
          have HC0 : Hid (CC { W4 with drawn := W4.drawn + 1 }) := by unfold Hid; rw [hCC]; exact (Below.refl _ W4).drew
          have HCW : Hid (∀ w', CC w' → Below W4.heap.size W4 w') := by unfold Hid; rw [hCC]; exact fun w' hw => hw
          have hlI : (pre.length : Int) < (Xs.length : Int) := by have := (unhide HLN).1; omega
          have hlI2 : ¬ (Xs.length : Int) ≤ (pre.length : Int) := by omega
          have hlN : ¬ Xs.length ≤ pre.length := by omega
          have hlY : (pre.length : Int) < (Ys.length : Int) := by have := (unhide HLN).2; omega
          have hlY2 : pre.length < Ys.length := (unhide HLN).2
          have hnw : IntKind.i64.wrap ((pre.length : Int) + 1) = (pre.length : Int) + 1 := by have := unhide HML; rw [IntKind.wrap_i64]; omega
          clear hCC h5X h5Y h5I h5R h5S hct hxc hyc hm4 HI2
          gi_wp2_with fail
          refine region_calmW CC (by kernel_rfl) (by kernel_rfl) (by simp) (unhide HC0) ?_
          repeat (first
            | go_big_quiet_skip
            | (go_big_quiet_want
               apply Exists.intro
               refine ⟨fun w' hw' => ?_, ?_⟩
               · obtain ⟨d0, d1, d2, _, ⟨d3, d4, d5, d6⟩, ⟨d7, d8, d9, d10⟩, ⟨f3, f4, f5, f6⟩, ⟨f7, f8, f9, f10⟩⟩ := unhide HCC w' hw'
                 go_simp
                 first | done | rfl
               simp only [Act.put, List.setIfInBounds_toArray, List.set_cons_zero, List.set_cons_succ]
               go_big_quiet_on))
          refine wpQuiet_nil ?_
          intro W6 hw6
          obtain ⟨_, _, d1, d1f, _⟩ := unhide HCC W6 hw6
          have HB6 := hide (unhide HCW W6 hw6)
          clear hw6 HCC HC0 HCW
          gi_wp2_with fail
          have ht := ((unhide HCT).below (unhide HB6)).tick (fun v hv gg oo cc e hp2 => by have := unhide HLOW v hv gg oo cc e hp2; have := unhide HBS; omega)
          refine ⟨C, ⟨trivial, ?_⟩, (Moves.of_below (unhide HB6)).trans ht.2⟩
          rw [List.length_append]
          exact ht.1

        case done1 =>
          rintro dd2 C2 W11 hdd2 ⟨_, hct2⟩ hm2 hnc2 hK2
          have hx11 := hct2.1 (w4.heap.size, .cells #[.slice px Xs.length cx] 24 (0, 0)) (by simp)
          have hr11 := hct2.1 (w.heap.size, .cells #[.bool false] 4 (0, 0)) (by simp)
          have hd11 := hct2.1 (dd, .deferred (some [])) (by simp)
          have hi11 := hct2.2.1
          rw [unhide HZL] at hi11
          have xc11 : W11.cell? ⟨w4.heap.size, 0, none⟩ = some (.slice px Xs.length cx) := by rw [cell_of_row W11 _ _ _ _ (0, 0) hx11]; rfl
          have ic11 : W11.cell? ⟨W9.heap.size, 0, none⟩ = some (.int .i64 (Xs.length : Int)) := by rw [cell_of_row W11 _ _ _ _ (0, 0) hi11]; rfl
          have HPL := hide (eplain_any (.slice po b.length co) (.slice p2 b.length c2) b W11 (hct2.2.2.2.2 (.slice po b.length co, b) (by simp)) (hct2.2.2.2.2 (.slice p2 b.length c2, b) (by simp)))
          have HE := hide (And.intro hm2 (And.intro hnc2 (And.intro hdd2 (And.intro hK2 (And.intro hd11 hr11)))))
          clear hct2 hx11 hr11 hd11 hi11 hm2 hnc2 hK2 hdd2
          gi_wp2_with fail
          rw [roundsIn_succ]
          gi_wp2_with fail
          refine ⟨trivial, (callsIn_wide.2 (unhide HPL)).mono ?_⟩
          rintro e W12 ⟨rfl, b12⟩
          obtain ⟨hm2, hnc2, hdd2, hK2, hd11, hr11⟩ := unhide HE
          have hr12 := (b12.block _ (Array.getElem?_eq_some_iff.1 hr11).1).trans hr11
          have hk12 := (b12.block _ (Array.getElem?_eq_some_iff.1 hK2).1).trans hK2
          have hd12 := (b12.block _ (Array.getElem?_eq_some_iff.1 hd11).1).trans hd11
          have rc12 : W12.cell? ⟨w.heap.size, 0, none⟩ = some (.bool false) := by rw [cell_of_row W12 _ _ _ _ (0, 0) hr12]; rfl
          have rf12 : W12.frozen? ⟨w.heap.size, 0, none⟩ = false := frozen_of_block hr12
          have HF := hide (And.intro b12 (And.intro hr12 (And.intro hk12 hd12)))
          clear b12 hr12 hk12 hd12 hm2 hnc2 hdd2 hK2 hd11 hr11
          gi_wp2_with fail
          obtain ⟨b12, hr12, hk12, hd12⟩ := unhide HF
          obtain ⟨hm2, hnc2, hdd2, hK2, hd11, hr11⟩ := unhide HE
          have hbs := unhide HBS
          have hne2 : dd2 ≠ w.heap.size := by have := hbs.1.size; omega
          have hne1 : dd ≠ w.heap.size := by omega
          have hK9 : (W12.setCell ⟨w.heap.size, 0, none⟩ (.bool true)).heap[dd2]? = some (.deferred (some [])) := (heap_setCell_other W12 ⟨w.heap.size, 0, none⟩ dd2 _ (fun e => hne2 (by simpa using e))).trans hk12
          have hD9 : ((W12.setCell ⟨w.heap.size, 0, none⟩ (.bool true)).putObj dd2 (.deferred none)).heap[dd]? = some (.deferred (some [])) := (World.putObj_heap_other (by omega)).trans ((heap_setCell_other W12 ⟨w.heap.size, 0, none⟩ dd _ (fun e => hne1 (by simpa using e))).trans hd12)
          have hR9 := heap_setCell_same W12 w.heap.size 0 _ _ (.bool true) hr12
          have hR10 : (((W12.setCell ⟨w.heap.size, 0, none⟩ (.bool true)).putObj dd2 (.deferred none)).putObj dd (.deferred none)).heap[w.heap.size]? = some (.cells #[.bool true] 4 (0, 0)) := (World.putObj_heap_other (by omega)).trans ((World.putObj_heap_other (by omega)).trans hR9)
          have c10 : (((W12.setCell ⟨w.heap.size, 0, none⟩ (.bool true)).putObj dd2 (.deferred none)).putObj dd (.deferred none)).cell? ⟨w.heap.size, 0, none⟩ = some (.bool true) := by rw [cell_of_row _ w.heap.size _ _ _ (0, 0) hR10]; rfl
          refine ⟨by simp, .inl ⟨_, _, rfl, run_takeDeferred hK9, ?_⟩⟩
          refine ⟨by simp, .inl ⟨_, _, rfl, run_takeDeferred hD9, ?_⟩⟩
          refine ⟨.bool true, ?_, rfl, ?_⟩
          · simp [results, Try.results4, go_sem, c10]
          · have hbw11 : Below w.heap.size w W11 := hbs.1.trans (hm2.keep.below hbs.1.size (fun k hk => by omega))
            have hbw12 := hbw11.trans (b12.mono hbw11.size)
            have hbset : Below w.heap.size w (W12.setCell ⟨w.heap.size, 0, none⟩ (.bool true)) := hbw12.setCell (Nat.le_refl _) _
            have hp2 := keep_put (W12.setCell ⟨w.heap.size, 0, none⟩ (.bool true)) dd2 (.deferred none)
            have hb2 := hbset.trans (hp2.below hbset.size (fun k e => by have := hbs.1.size; omega))
            have hp1 := keep_put ((W12.setCell ⟨w.heap.size, 0, none⟩ (.bool true)).putObj dd2 (.deferred none)) dd (.deferred none)
            exact hb2.trans (hp1.below hb2.size (fun k e => by omega))
end Go.Proofs.Ytcjepiihknjeiaa.QH
namespace Go.Proofs.Ytcjepiihknjeiaa
open Go.RowKit QH
theorem walk_MergeWalks (s0 : Value) (d0 : Dt) (s1 : Value) (d1 : Dt) (w : World) (h0 : Reads limUpto w (.row 40 enSh) [s0] d0) (h1 : Reads limUpto w (.row 40 enSh) [s1] d1) :
    Calls Try.prog 4 #[s0, s1] w fun e w' => e = .returned (.bool true) ∧ Below w.heap.size w w' := by
  obtain ⟨a, ha1, ha2, ha3⟩ := ers_of_reads h0
  obtain ⟨b, hb1, hb2, hb3⟩ := ers_of_reads h1
  have h2 := upto_tot (LL := [a, b]) (fun l hl => by
    simp only [List.mem_cons, List.not_mem_nil, or_false] at hl
    rcases hl with rfl | rfl
    · exact ⟨ha2, ha3⟩
    · exact ⟨hb2, hb3⟩) (by unfold limUpto; simp)
  exact mwalks_any s0 s1 a b w ha1 hb1 h2.2 h2.1
end Go.Proofs.Ytcjepiihknjeiaa

/- The verifier's own of MergeTells: lists held against each other, copied. -/
namespace Go.Proofs.Ytcjepiihknjeiaa.QH
open Go.RowKit

set_option maxRecDepth 20000 in
set_option maxHeartbeats 2000000 in
theorem samel_any (v1 v2 : Value) (LL : List (List En)) (w : World) (h1 : LR w v1 LL) (h2 : LR w v2 LL) (hn : LL.length ≤ 1048576) :
    Calls Try.prog 17 #[v1, v2, .func (.func 14) #[] #[]] w fun e w' => e = .returned (.bool true) ∧ Below w.heap.size w w' := by
  have H1 := hide h1
  have H2 := hide h2
  have HL := hide hn
  obtain ⟨p1, c1, rfl⟩ : ∃ p c, v1 = .slice p LL.length c := by
    obtain ⟨vs, h1, h2, _⟩ := h1
    obtain ⟨p, c, e, _⟩ := h2.shape
    exact ⟨p, c, by rw [e, h1]⟩
  obtain ⟨p2, c2, rfl⟩ : ∃ p c, v2 = .slice p LL.length c := by
    obtain ⟨vs, h1, h2, _⟩ := h2
    obtain ⟨p, c, e, _⟩ := h2.shape
    exact ⟨p, c, by rw [e, h1]⟩
  have hn : ((LL.length : Int) == (LL.length : Int)) = true := by simp
  clear h1 h2
  go_enter Try.func17, Try.ntmps17
  go_wp2_with fail
  go_loopw [7] (fun i wr => ∃ k : Nat, k ≤ LL.length ∧ i = .int .i64 (k : Int) ∧ Hid (Below w.heap.size w wr)) (fun i _ => LL.length - (intOf i).toNat)
  case atStart => exact ⟨0, Nat.zero_le _, rfl, Below.refl _ _⟩
  case round =>
    obtain ⟨k, hk, rfl, hb⟩ := hrel
    have hkw : IntKind.i64.wrap ((k : Int) + 1) = (k : Int) + 1 := by have := unhide HL; rw [IntKind.wrap_i64]; omega
    by_cases hlt : k < LL.length
    · have hkI : (k : Int) < (LL.length : Int) := by omega
      obtain ⟨b1, o1, s1, rfl, x0, e1⟩ := (unhide H1).at k hlt
      obtain ⟨b2, o2, s2, rfl, y0, e2⟩ := (unhide H2).at k hlt
      have HCA := hide (fun W (hW : Below w.heap.size w W) => And.intro ((hW.cell (World.block_lt_of_cell? _ _ x0)).trans x0) ((hW.cell (World.block_lt_of_cell? _ _ y0)).trans y0))
      have HLT := hide hlt
      obtain ⟨CC, hCC⟩ : ∃ CC : World → Prop, CC = fun w' => Below w.heap.size w w' := ⟨_, rfl⟩
      have HC0 : Hid (CC { wr with drawn := wr.drawn + 1 }) := by rw [hCC]; exact (unhide hb).drew
      have HCW : Hid (∀ w', CC w' → Below w.heap.size w w') := by rw [hCC]; exact fun w' hw => hw
      have HCL : Hid (∀ w', CC w' → Calls Try.prog 14 #[s1, s2] w' fun e w'' => e = .returned (.bool true) ∧ CC w'') := by
        rw [hCC]
        exact fun w' hw => (eplain_any s1 s2 LL[k] w' (e1.below hw) (e2.below hw)).mono fun e w'' hx => ⟨hx.1, hw.trans (hx.2.mono hw.size)⟩
      obtain ⟨q1, n1, hq1, z1⟩ := e1.shape
      obtain ⟨q2, n2, hq2, z2⟩ := e2.shape
      clear z1 z2
      generalize LL[k].length = m at *
      subst hq1
      subst hq2
      clear e1 e2 x0 y0 hlt hk hb hCC
      go_wp2_with fail
      refine region_calm CC (by kernel_rfl) (by kernel_rfl) (unhide HC0) ?_
      repeat (first
        | go_big_quiet_skip
        | (go_big_quiet_want
           apply Exists.intro
           refine ⟨fun w' hw' => ?_, ?_⟩
           · obtain ⟨c0, c1⟩ := unhide HCA w' (unhide HCW w' hw')
             go_simp
             first | done | rfl | exact unhide HCL w' hw'
           simp only [Act.put, List.setIfInBounds_toArray, List.set_cons_zero, List.set_cons_succ]
           go_big_quiet_on))
      refine wpQuiet_nil ?_
      intro w' hw'
      have HBW := hide (unhide HCW w' hw')
      clear hw' HCL HC0 HCW
      go_wp2_with fail
      go_roundw
      case rel => exact ⟨k + 1, unhide HLT, by go_num, unhide HBW⟩
      case measure => (have := unhide HLT; simp [intOf]; omega)
    · have hke : k = LL.length := by omega
      subst hke
      have hge : ¬ (LL.length : Int) < (LL.length : Int) := by omega
      have HBR := hide (unhide hb)
      clear hb hlt hk hkw
      go_wp2_with fail
      go_ret
      exact ⟨rfl, unhide HBR⟩
end Go.Proofs.Ytcjepiihknjeiaa.QH

/- The verifier's own of MergeTells: lists copied. -/
namespace Go.Proofs.Ytcjepiihknjeiaa.QH
open Go.RowKit

theorem Try.infoEnts : (Try.prog.info? 24).map (fun i => (i.zero, i.size, i.bytes)) = some (some (.slice none 0 0), 1, 24) := by kernel_rfl
/-- The copies of the first k lists. -/
structure CpI (w : World) (LL : List (List En)) (k : Nat) (ov : Value) (vs : List Value) (wr : World) : Prop where
  len : vs.length = k
  own : wr.ownsRow w.heap.size 24 1 ov k vs
  ers : ∀ (j : Nat) (s : Value) (l : List En), vs[j]? = some s → LL[j]? = some l → ER wr s l ∧ ∀ b off c, s = .slice (some ⟨b, off, none⟩) l.length c → 0 < l.length → ov.ownBlock ≠ some b
  low : Below w.heap.size w wr

set_option maxRecDepth 20000 in
set_option maxHeartbeats 2000000 in
theorem ecopies_any (v : Value) (LL : List (List En)) (w : World) (h : LR w v LL) (hl : ∀ l ∈ LL, l.length * 40 ≤ 140737488355328) (hn : LL.length ≤ 1048576) :
    Calls Try.prog 9 #[v] w fun r w' => ∃ v', r = .returned v' ∧ LR w' v' LL ∧ Below w.heap.size w w' := by
  have H1 := hide h
  have HL := hide (And.intro hl hn)
  obtain ⟨p1, c1, rfl⟩ : ∃ p c, v = .slice p LL.length c := by
    obtain ⟨vs, h1, h2, _⟩ := h
    obtain ⟨p, c, e, _⟩ := h2.shape
    exact ⟨p, c, by rw [e, h1]⟩
  obtain ⟨ie, hie, he0, he1, he2⟩ := info_parts Try.infoEnt
  obtain ⟨il, hil, hl0, hl1, hl2⟩ := info_parts Try.infoEnts
  clear h hl hn
  go_enter Try.func9, Try.ntmps9
  go_wp2_with fail
  go_loopw [3, 4] (fun ov iv wr => ∃ (k : Nat) (vs : List Value), iv = .int .i64 (k : Int) ∧ k ≤ LL.length ∧ CpI w LL k ov vs wr) (fun _ iv _ => LL.length - (intOf iv).toNat)
  case atStart => exact ⟨0, [], rfl, Nat.zero_le _, ⟨rfl, World.ownsRow_nil _ _ _ _, fun j s l h => by simp at h, Below.refl _ _⟩⟩
  case round =>
    obtain ⟨k, vs, rfl, hk, hI⟩ := hrel
    by_cases hlt : k < LL.length
    · have hkI : (k : Int) < (LL.length : Int) := by omega
      obtain ⟨b, off, s, rfl, hc, her⟩ := ((unhide H1).below hI.low).at k hlt
      have hknw : IntKind.i64.wrap ((k : Int) + 1) = (k : Int) + 1 := by have := (unhide HL).2; rw [IntKind.wrap_i64]; omega
      have hll := (unhide HL).1 LL[k] (List.getElem_mem hlt)
      have HLK := hide (show LL[k]? = some LL[k] from List.getElem?_eq_getElem hlt)
      have HK := hide (show k < LL.length ∧ k + 1 ≤ maxLen ∧ (k + 1) * 24 ≤ 140737488355328 from ⟨hlt, by have := (unhide HL).2; unfold maxLen; omega, by have := (unhide HL).2; omega⟩)
      have HI := hide hI
      obtain ⟨ps, cs, rfl, _⟩ := her.shape
      obtain ⟨po, co, rfl⟩ := ownsV_shape hI.own
      have HER := hide her
      generalize LL[k] = L at *
      have HLL := hide (show 0 + L.length ≤ maxLen ∧ (0 + L.length) * 40 ≤ 140737488355328 from by unfold maxLen; omega)
      have HO := hide (World.ownsRow_nil wr wr.heap.size 37 4)
      rename_i hz
      clear hz hll her hI hlt hk
      go_wp2_with (first
        | (at_builtin; refine wpList_append_krow rfl (.const (.slice none 0 0)) (.tmp 15) 24 rfl wr.heap.size 37 ie _ Try.underlying24 hie he0 4 40 (by omega) he1 he2 rfl (.slice none 0 0) 0 [] rfl (unhide HO) ps L.length cs (L.flatMap eC) rfl (unhide HER) (fun u hu => eC_all L u hu) (unhide HLL).1 (unhide HLL).2 (Nat.le_refl _) ?_))
      intro v' w1 hown hg _
      have hb1 : Below wr.heap.size wr w1 := (Below.refl _ _).grown hg (Nat.le_refl _) (fun k hk => by cases hk)
      have hlo := fun j (hj : v'.ownBlock = some j) => hown.lt j hj
      have her1 := er_of_own hown
      obtain ⟨q, n, rfl⟩ := ownsV_shape hown
      have hb2 : Below w1.heap.size w1 (w1.alloc (.cells #[.slice q L.length n] 24)) := (Below.refl _ _).alloc (Nat.le_refl _) _
      have hn2 := World.alloc_heap_new w1 (.cells #[.slice q L.length n] 24)
      have hs2 : (w1.alloc (.cells #[.slice q L.length n] 24)).heap.size = w1.heap.size + 1 := World.size_alloc _ _
      have HNW : Hid (∀ (j : Nat) (u : Value), [Value.slice q L.length n][j]? = some u → (w1.alloc (.cells #[.slice q L.length n] 24)).cell? ((⟨w1.heap.size, 0, none⟩ : Addr).add j) = some u) := by
        intro j u hu
        match j, hu with
        | 0, hu =>
          simp only [List.getElem?_cons_zero, Option.some.injEq] at hu
          subst hu
          rw [Addr.add_lit, cell_of_row _ _ _ _ _ (0, 0) hn2]
          rfl
        | j + 1, hu => simp at hu
      have hb02 := hb1.trans (hb2.mono hb1.size)
      have HOW := hide (ownsV_keep (F := fun _ => False) (unhide HI).own (Keep.of_below hb02) (fun _ _ => id))
      have HF := hide (And.intro hb02 (And.intro hb1.size (And.intro hs2 (And.intro hlo (her1.below hb2)))))
      have hwl : w.heap.size ≤ (w1.alloc (.cells #[.slice q L.length n] 24)).heap.size := Nat.le_trans (unhide HI).low.size hb02.size
      clear hb1 hb2 hn2 hs2 hb02 hown hg hlo her1
      go_wp2_with (first
        | (at_builtin; refine wpList_append_gen rfl (.tmp 11) (.tmp 17) 22 rfl w.heap.size 24 il _ Try.underlying22 hil hl0 1 24 (by omega) hl1 hl2 rfl (.slice po k co) k vs rfl (unhide HOW) ⟨w1.heap.size, 0, none⟩ 1 1 [.slice q L.length n] rfl rfl (unhide HNW) (fun u hu => by rw [List.mem_singleton.1 hu]; rfl) (unhide HK).2.1 (unhide HK).2.2 hwl ?_))
      intro v3 w3 hown3 hg3 hob3
      have HFIN : Hid (CpI w LL (k + 1) v3 (vs ++ [.slice q L.length n]) w3) := by
        obtain ⟨k1, k2, k3, k4, k5⟩ := unhide HF
        obtain ⟨i1, i2, i3, i4⟩ := unhide HI
        have hk := grown_keep hg3
        have hol : ∀ j, (Value.slice po k co).ownBlock = some j → w.heap.size ≤ j ∧ j < wr.heap.size := fun j hj => i2.lt j hj
        refine ⟨by rw [List.length_append, i1]; rfl, hown3, fun j s l hs hl => ?_, ?_⟩
        · by_cases hj : j < vs.length
          · rw [List.getElem?_append_left hj] at hs
            obtain ⟨e1, e2⟩ := i3 j s l hs hl
            refine ⟨KRow.keep (e1.below k1) hk e2, fun b off c he hp => ?_⟩
            rcases hob3 with h | h
            · rw [h]; exact e2 b off c he hp
            · rw [h]
              have h9 := lowV_of (vs := [(s, l)]) (W := wr) (fun y hy => by rw [List.mem_singleton.1 hy]; exact e1) (s, l) (by simp) b off c he hp
              intro e
              simp only [Option.some.injEq] at e
              have := k1.size
              omega
          · have hjl : j = vs.length := by
              have := (List.getElem?_eq_some_iff.1 hs).1
              simp at this
              omega
            subst hjl
            rw [List.getElem?_append_right (Nat.le_refl _), Nat.sub_self] at hs
            simp only [List.getElem?_cons_zero, Option.some.injEq] at hs
            subst hs
            rw [i1, unhide HLK] at hl
            simp only [Option.some.injEq] at hl
            subst hl
            have hne : ∀ b off c, (Value.slice q L.length n) = .slice (some ⟨b, off, none⟩) L.length c → wr.heap.size ≤ b ∧ b < w1.heap.size := fun b off c he => k4 b (by rw [he]; rfl)
            refine ⟨KRow.keep k5 hk (fun b off c he hp hb => ?_), fun b off c he hp => ?_⟩
            · have h1 := hne b off c he
              have h2 := hol b hb
              omega
            · have h1 := hne b off c he
              rcases hob3 with h | h
              · rw [h]; intro e; have h2 := hol b e; omega
              · rw [h]; intro e; simp only [Option.some.injEq] at e; omega
        · have h1 := i4.trans (k1.mono i4.size)
          exact h1.trans (hk.below h1.size (fun j hj => (hol j hj).1))
      clear hown3 hg3 hob3
      obtain ⟨p3, c3, rfl⟩ := ownsV_shape (unhide HFIN).own
      go_wp2_with fail
      refine ⟨⟨k + 1, _, by go_num, (unhide HK).1, unhide HFIN⟩, ?_⟩
      have := (unhide HK).1
      simp [intOf]
      omega
    · have hke : k = LL.length := by omega
      subst hke
      have hge : ¬ (LL.length : Int) < (LL.length : Int) := by omega
      have HI := hide hI
      obtain ⟨po, co, rfl⟩ := ownsV_shape hI.own
      clear hI hlt hk
      go_wp2_with fail
      go_ret
      obtain ⟨h0, h1, h2, h3⟩ := unhide HI
      exact ⟨_, rfl, ⟨vs, h0, vrow_of_owns (by rw [h0]; exact h1), fun j s l hs hl => (h2 j s l hs hl).1⟩, h3⟩
end Go.Proofs.Ytcjepiihknjeiaa.QH

/- The verifier's own of MergeTells: what All tells, so many at the most. -/
namespace Go.Proofs.Ytcjepiihknjeiaa.QH
open Go.RowKit Go.Shelf
attribute [local go_sem] Oper.semAt_some

set_option maxRecDepth 20000 in
set_option maxHeartbeats 4000000 in
theorem eall_any (v : Value) (LL : List (List En)) (k : Nat) (w : World) (h : LR w v LL) (hl : (totE LL + 1) * 40 ≤ 140737488355328) (hk : k < 4611686018427387904) :
    Calls Try.prog 12 #[v, .int .i64 (k : Int)] w fun r w' => ∃ v', r = .returned (.tuple #[v', .int .i64 (mrgR LL).2, .bool true]) ∧ ER w' v' ((mrgR LL).1.take k) ∧ Below w.heap.size w w' := by
  refine (callsIn_wide (n := 5)).1 ?_
  refine callsIn_of_wp_marks Try.func12 rfl trivial ?_ rfl
  simp only [Try.ntmps12, List.size_toArray, List.length_cons, List.length_nil, Nat.reduceAdd, Nat.reduceSub, Array.replicate_succ, Array.replicate_zero, List.push_toArray, List.append_toArray, List.nil_append, List.cons_append]
  obtain ⟨is, his, hs0, hs1, hs2⟩ := info_parts Try.infoEnt
  have hll : ∀ l ∈ LL, l.length * 40 ≤ 140737488355328 := fun l hm => by have := len_tot hm; omega
  have HW := hide (fun W (hb : Below w.heap.size w W) => mall_any v LL W (LR.below h hb) hll (by omega))
  have HL := hide hl
  have HKK := hide hk
  obtain ⟨p, c, rfl⟩ : ∃ p c, v = .slice p LL.length c := by
    obtain ⟨vs, h1, h2, _⟩ := h
    obtain ⟨p, c, e, _⟩ := h2.shape
    exact ⟨p, c, by rw [e, h1]⟩
  have hmx : Try.prog.follows .mixedOrders = true := by kernel_rfl
  clear h hll hl hk
  have hb0 : Below w.heap.size w (w.alloc (.cells #[.int .i64 (k : Int)] 3)) := (Below.refl _ _).alloc (Nat.le_refl _) _
  have HM0 := hide (World.alloc_heap_new w (.cells #[.int .i64 (k : Int)] 3))
  have HB0 := hide (And.intro hb0 (show (w.alloc (.cells #[.int .i64 (k : Int)] 3)).heap.size = w.heap.size + 1 from World.size_alloc _ _))
  have HWK := hide (unhide HW _ hb0)
  have hml := mrgR_len LL
  have HXL := hide (show ((mrgR LL).1.length + 1) * 40 ≤ 140737488355328 by have := unhide HL; omega)
  generalize hX : (mrgR LL).1 = X at *
  generalize hE : (mrgR LL).2 = er at *
  clear hb0 HW hml hX hE
  gi_wp2_with fail
  refine ⟨trivial, (callsIn_wide.2 (unhide HWK)).mono ?_⟩
  rintro e w1 ⟨f, rfl, hf, b1⟩
  have HB1 := hide (And.intro ((unhide HB0).1.trans (b1.mono (unhide HB0).1.size)) (And.intro (show w.heap.size + 1 ≤ w1.heap.size by have := b1.size; rw [(unhide HB0).2] at this; exact this) ((b1.block _ (Array.getElem?_eq_some_iff.1 (unhide HM0)).1).trans (unhide HM0))))
  obtain ⟨Hn, F, D, rfl, hsq, hli⟩ := hf
  have hnil : ∀ w, (binOp .eql 53 (.func (.func 34) #[] #[.pointer (some ⟨Hn, 0, none⟩)]) .nilFunc).run Try.prog w = .ok (.bool false) w := fun _ => by kernel_rfl
  have HSQ := hide hsq
  have HLI := hide hli
  clear b1 hsq hli HWK
  gi_wp2_with fail
  have hb3 : Below w1.heap.size w1 (w1.alloc (.cells #[.slice none 0 0] 24)) := (Below.refl _ _).alloc (Nat.le_refl _) _
  have hn3 := World.alloc_heap_new w1 (.cells #[.slice none 0 0] 24)
  have hs3 : (w1.alloc (.cells #[.slice none 0 0] 24)).heap.size = w1.heap.size + 1 := World.size_alloc _ _
  obtain ⟨w3, hw3⟩ : ∃ w3, w1.alloc (.cells #[.slice none 0 0] 24) = w3 := ⟨_, rfl⟩
  rw [hw3] at hb3 hn3 hs3 ⊢
  clear hw3
  have hLi := (unhide HLI).below hb3
  have HST : Hid (EnI w1.heap.size [] (VF w1.heap.size (.slice none 0 0)) w3) := ⟨_, hn3, World.ownsRow_nil _ _ _ _, by simp [Value.ownBlock], fun _ => Iff.rfl⟩
  have HMR := hide ((hb3.block _ (Array.getElem?_eq_some_iff.1 (unhide HB1).2.2).1).trans (unhide HB1).2.2)
  have HBS := hide (And.intro ((unhide HB1).1.trans (hb3.mono (unhide HB1).1.size)) (And.intro (unhide HB1).2.1 hs3))
  clear hb3 hn3 hs3
  refine wpIn_seqHL (C0 := VF w1.heap.size (.slice none 0 0)) (unhide HSQ) rfl (fun _ _ => by kernel_rfl) (fun _ _ _ _ _ h => by rw [h]; rfl)
    (fun pre C W => ((pre.length ≤ k ∧ ∃ rest, X = pre ++ rest) ∧ W.heap[w.heap.size]? = some (.cells #[.int .i64 (k : Int)] 3 (0, 0))) ∧ EnI w1.heap.size pre C W) 0 (fun C W => EnI w1.heap.size (X.take k) C W)
    ⟨fun pre C W W' G ⟨⟨h1, h2⟩, h3⟩ hk hn hg => ⟨⟨h1, (hk.block _ (Array.getElem?_eq_some_iff.1 h2).1 (fun h => by have := hg _ h; have := unhide HBS; omega)).trans h2⟩, GR.stays h3 hk hn⟩, fun pre C W h k hc => GR.lt h.2 k hc⟩
    ⟨fun _ _ _ _ _ h hk hn _ => GR.stays h hk hn, fun _ _ _ h k hc => GR.lt h k hc⟩ (fun C W h => by rw [List.take_of_length_le h.1.1.1]; exact h.2) ⟨⟨⟨Nat.zero_le _, X, rfl⟩, unhide HMR⟩, unhide HST⟩ ?data ?apart ?round ?fin
  case data =>
    intro W hb
    exact hLi.stays _ _ (fun _ => False) hLi.at_ (Keep.of_below hb) (fun _ _ => id)
  case apart =>
    intro k hk
    have h1 := hLi.lt k hk
    have h2 := (unhide HLI).lt k hk
    refine ⟨fun hc => ?_, h1⟩
    rcases hc with hc | hc
    · omega
    · cases hc
  case round =>
    rintro l2 pre x rest C W3 WB vs hZ hi3 hm hlt3 hbB hen
    unfold encE at hen
    subst hen
    have HZ := hide hZ
    have HP := hide (And.intro hi3.1.1.1 (show WB.heap[w.heap.size]? = _ from (hbB.block _ (Array.getElem?_eq_some_iff.1 hi3.1.2).1).trans hi3.1.2))
    have HCM := hide (show ¬ C w.heap.size from fun hc => by
      have h9 := unhide HBS
      rcases hm.sub _ hc with h | h
      · rcases h with h | h
        · omega
        · cases h
      · omega)
    have HI := hide (show EnI w1.heap.size pre C WB from GR.stays hi3.2 (Keep.of_below hbB) (fun _ _ h => h) (G := fun _ => False))
    have HMB := hide (Moves.of_below (F := C) hbB)
    have HSB := hide (Nat.lt_of_lt_of_le hlt3 hbB.size)
    have HNB := hide (World.alloc_heap_new WB (.cells #[.string x.1, .int .u64 x.2.1, .int .i64 x.2.2.1, .int .i64 x.2.2.2] 37))
    unfold eV
    clear hZ hi3 hm hbB hlt3
    have hbn : Below WB.heap.size WB (WB.alloc (.cells #[.string x.1, .int .u64 x.2.1, .int .i64 x.2.2.1, .int .i64 x.2.2.2] 37)) := (Below.refl _ _).alloc (Nat.le_refl _) _
    have HI2 := hide (And.intro (show EnI w1.heap.size pre C (WB.alloc (.cells #[.string x.1, .int .u64 x.2.1, .int .i64 x.2.2.1, .int .i64 x.2.2.2] 37)) from GR.stays (unhide HI) (Keep.of_below hbn) (fun _ _ h => h) (G := fun _ => False)) (unhide HNB))
    have HM2 := hide ((unhide HMB).trans (Moves.of_below (F := C) hbn))
    have HPM := hide ((hbn.block _ (Array.getElem?_eq_some_iff.1 (unhide HP).2).1).trans (unhide HP).2)
    clear hbn
    gi_wp2
    refine ⟨fun C' Y => Y.heap[w.heap.size]? = some (.cells #[.int .i64 (k : Int)] 3 (0, 0)) ∧ EnI w1.heap.size pre C' Y ∧ Y.heap[WB.heap.size]? = some (.cells #[.string x.1, .int .u64 x.2.1, .int .i64 x.2.2.1, .int .i64 x.2.2.2] 37 (0, 0)), C, ?put, ⟨unhide HPM, unhide HI2⟩, unhide HM2, fun W4 hi4 hm4 => ?_⟩
    case put =>
      rintro hn Y o ⟨h0, h1, h2⟩
      refine ⟨((keep_put Y (w3.heap.size + 1) o).block _ (Array.getElem?_eq_some_iff.1 h0).1 (fun e => by have := unhide HBS; omega)).trans h0, GR.stays h1 (keep_put Y (w3.heap.size + 1) o) (fun k hc e => hn (e ▸ hc)), ((keep_put Y (w3.heap.size + 1) o).block _ (Array.getElem?_eq_some_iff.1 h2).1 (fun e => by have := unhide HSB; omega)).trans h2⟩
    have HEN := hide hi4.2.1
    have HM4 := hide hi4.1
    obtain ⟨hmo, ⟨v, k1, k2, k3, k4⟩, hx4⟩ := hi4
    have mo0 : W4.cell? ⟨w.heap.size, 0, none⟩ = some (.int .i64 (k : Int)) := by rw [cell_of_row W4 _ _ _ _ (0, 0) hmo]; rfl
    clear hmo
    obtain ⟨y0, y1, y2, y3, _⟩ := ecells hx4
    have d0 : W4.cell? ⟨w1.heap.size, 0, none⟩ = some v := by rw [cell_of_row W4 _ _ _ _ (0, 0) k1]; rfl
    by_cases hge : k ≤ pre.length
    · have hgI : (k : Int) ≤ (pre.length : Int) := by omega
      have hek : pre.length = k := by have := (unhide HP).1; omega
      obtain ⟨pv, cv, rfl⟩ := ownsV_shape k2
      have HEK := hide hek
      clear k1 k2 k3 k4 hx4 hm4 hek hge
      gi_wp2_with fail
      refine ⟨C, ⟨rfl, ?_⟩, Moves.refl _ _⟩
      rw [unhide HZ, ← unhide HEK, List.take_left']
      · exact unhide HEN
      · rfl
    have hgI : ¬ (k : Int) ≤ (pre.length : Int) := by omega
    have HGE := hide (show pre.length + 1 ≤ k by omega)
    have hlen : (pre.length + 1) * 40 ≤ 140737488355328 := by
      have h1 := unhide HXL
      have h2 : pre.length + 1 ≤ X.length + 1 := by
        rw [unhide HZ, List.length_append, List.length_cons]
        exact Nat.succ_le_succ (Nat.le_add_right _ _)
      exact Nat.le_trans (Nat.mul_le_mul_right 40 h2) h1
    have HLEN := hide (show pre.length + 1 ≤ maxLen ∧ (pre.length + 1) * 40 ≤ 140737488355328 from ⟨by unfold maxLen; omega, hlen⟩)
    obtain ⟨W5, hW5⟩ : ∃ W5, W4.alloc (.cells #[.string x.1, .int .u64 x.2.1, .int .i64 x.2.2.1, .int .i64 x.2.2.2] 37) = W5 := ⟨_, rfl⟩
    have hb5 : Below W4.heap.size W4 W5 := by rw [← hW5]; exact (Below.refl _ _).alloc (Nat.le_refl _) _
    have HNEW : Hid (∀ (j : Nat) (u : Value), [Value.string x.1, .int .u64 x.2.1, .int .i64 x.2.2.1, .int .i64 x.2.2.2][j]? = some u → W5.cell? ((⟨W4.heap.size, 0, none⟩ : Addr).add j) = some u) := by unfold Hid; rw [← hW5]; exact four_new W4 _ _ _ _ _
    have HK2 := hide (ownsV_keep (F := fun _ => False) k2 (Keep.of_below hb5) (fun _ _ => id))
    have HG := hide (fun (v2 : Value) (w2 : World) (h1 : w2.ownsRow 0 37 4 v2 (pre.length + 1) (pre.flatMap eC ++ [.string x.1, .int .u64 x.2.1, .int .i64 x.2.2.1, .int .i64 x.2.2.2])) (h2 : W5.grownBy w2 v.ownBlock) (h3 : v2.ownBlock = v.ownBlock ∨ v2.ownBlock = some W5.heap.size) => GR.more (C := C) k1 k3 (fun k hk => (k4 k).2 hk) hb5 h1 h2 h3)
    have HCE := hide (fun (w2 : World) (hg : W5.grownBy w2 v.ownBlock) => show w2.frozen? ⟨w1.heap.size, 0, none⟩ = false ∧ w2.cell? ⟨w1.heap.size, 0, none⟩ = some v from by
      have hB := (hg.block w1.heap.size (Nat.lt_of_lt_of_le (Array.getElem?_eq_some_iff.1 k1).1 hb5.size) (fun e => k3 e.symm)).trans ((hb5.block _ (Array.getElem?_eq_some_iff.1 k1).1).trans k1)
      exact ⟨frozen_of_block hB, by rw [cell_of_row w2 _ _ _ _ (0, 0) hB]; rfl⟩)
    obtain ⟨pv, cv, rfl⟩ := ownsV_shape k2
    have HFL : Hid ((pre ++ [x]).flatMap eC = pre.flatMap eC ++ [.string x.1, .int .u64 x.2.1, .int .i64 x.2.2.1, .int .i64 x.2.2.2] ∧ (pre ++ [x]).length = pre.length + 1) := hide ⟨by rw [List.flatMap_append]; rfl, by simp⟩
    clear k1 k2 k3 k4 hx4 hm4 hlen HI2 HM2
    gi_wp2_with (first
      | (gi_at_builtin; refine wpListIn_append_any rfl (.tmp 25) (.tmp 27) 24 rfl 0 37 is _ Try.underlying24 his hs0 4 40 (by omega) hs1 hs2 rfl (.slice pv pre.length cv) pre.length (pre.flatMap eC) rfl (unhide HK2) ⟨W4.heap.size, 0, none⟩ 1 1 [.string x.1, .int .u64 x.2.1, .int .i64 x.2.2.1, .int .i64 x.2.2.2] rfl rfl (unhide HNEW) (by intro u hu; simp at hu; rcases hu with rfl | rfl | rfl | rfl <;> rfl) (unhide HLEN).1 (unhide HLEN).2 (Nat.zero_le _) ?_))
    intro v2 w2 hown hg hob
    obtain ⟨yf, yc⟩ := unhide HCE w2 hg
    have HFIN := hide (unhide HG v2 w2 hown hg hob)
    obtain ⟨p7, n7, rfl⟩ := ownsV_shape hown
    clear hown hg hob
    gi_wp2_with fail
    refine ⟨_, ⟨⟨⟨by rw [(unhide HFL).2]; exact unhide HGE, by rw [unhide HZ]; exact ⟨rest, by simp⟩⟩, ?_⟩, ?_⟩, (unhide HFIN).2⟩
    · exact ((unhide HFIN).2.keep.block _ (Array.getElem?_eq_some_iff.1 (unhide HM4)).1 (unhide HCM)).trans (unhide HM4)
    unfold EnI
    rw [(unhide HFL).1, (unhide HFL).2]
    exact (unhide HFIN).1
  case fin =>
    rintro dd C W5 hdd ⟨v, k1, k2, k3, k4⟩ hm hnc hK
    have y1 : W5.cell? ⟨w1.heap.size, 0, none⟩ = some v := by rw [cell_of_row W5 _ _ _ _ (0, 0) k1]; rfl
    have HE := hide (And.intro k2 (And.intro k4 (And.intro hm (And.intro hnc hdd))))
    have HK := hide hK
    obtain ⟨q1, n1, rfl⟩ := ownsV_shape k2
    clear k1 k2 k3 k4 hm hnc hK hdd
    gi_wp2_with fail
    refine ⟨by simp, .inl ⟨_, _, rfl, run_takeDeferred (unhide HK), ?_⟩⟩
    obtain ⟨k2, k4, hm, hnc, hdd⟩ := unhide HE
    have hp := keep_put W5 dd (.deferred none)
    have hown : ∀ j, (.slice q1 (X.take k).length n1 : Value).ownBlock = some j → ¬ j = dd := fun j hj e => hnc ((k4 dd).2 (Or.inr (e ▸ hj)))
    refine ⟨.tuple #[.slice q1 (X.take k).length n1, .int .i64 er, .bool true], by simp [results, Try.results12, go_sem], .slice q1 (X.take k).length n1, rfl, er_of_own (ownsV_keep k2 hp hown), ?_⟩
    exact below_put (unhide HBS).1 hm (fun j hj => by
        rcases hj with h | h
        · have := unhide HBS; omega
        · cases h) hdd _
end Go.Proofs.Ytcjepiihknjeiaa.QH
