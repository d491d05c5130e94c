/- Texts of ours, one behind the other: QSorted, QNil. -/
import Derived.Test.YtbannlomemkjbaaG3
import Derived.Test.YtbannlomemkjbaaG5
import Derived.Test.YtbannlomemkjbaaG9
import Derived.Test.YtbannlomemkjbaaG12
import Derived.Laws.EntriesVeiled
/- The landed package queue: Drain's value, and Sorted. -/
namespace Go.Proofs.Ytbannlomemkjbaa
open Go.RowKit Go.Shelf
attribute [local go_sem] Oper.semAt_some

theorem wpListIn_append_gen {F : Fence} {n : Nat} {P : Program} {w : World} {ops : Array Oper} {rest : List Oper} {o : Oper} {a : Act} {Q : Exit → Act → World → Prop} (hgd : o.guard = none) (s x : Operand) (t : TypeId)
    (ho : o.op = .call { callee := .builtin .append, args := #[s, x], argTypes := #[t, t] })
    (base : Nat) (e : TypeId) (i : TypeInfo) (z : Value) (ht : P.underlying t = some (.slice e)) (hi : P.info? e = some i) (hz : i.zero = some z)
    (size bytes : Nat) (hsz0 : 0 < size) (hsize : i.size = size) (hby : i.bytes = bytes) (hzs : z.cells.size = size)
    (v : Value) (k : Nat) (xs : List Value) (hs : a.eval s = v) (hown : w.ownsRow base e size v k xs) (ad : Addr) (m c : Nat) (news : List Value) (hx : a.eval x = .slice (some ad) m c)
    (hl : news.length = m * size) (hnews : ∀ j u, news[j]? = some u → w.cell? (ad.add j) = some u) (hone : ∀ u ∈ news, u.oneCell' = true) (h63 : k + m ≤ maxLen) (hbytes : (k + m) * bytes ≤ 140737488355328) (hbase : base ≤ w.heap.size)
    (h : ∀ v' w', w'.ownsRow base e size v' (k + m) (xs ++ news) → w.grownBy w' v.ownBlock → (v'.ownBlock = v.ownBlock ∨ v'.ownBlock = some w.heap.size) → wpListIn F n P ops Q rest (a.put o.dst v') w') : wpListIn F n P ops Q (o :: rest) a w := by
  obtain ⟨v', w', hr, g1, g2, _⟩ := run_append_own (P := P) w base t o.type e i z size bytes ht hi hz hsize hby hzs hsz0 v k xs hown ad m c news hl hnews hone h63 hbytes hbase
  have g3 := append_block (P := P) w t o.type e i z ht hi hz (base := base) (v := v) (n := k) (xs := xs) (by rw [hsize]; exact hown) ad m c news (by rw [hsize]; omega) hnews hone h63 (by rw [hby]; exact hbytes) hr
  refine wpListIn_plain hgd fun K hK => ?_
  unfold Oper.wpIn
  refine ⟨?_, ?_⟩
  · simp [Oper.about, ho, resolve, Target.leads, Sem.run_pure]
  · rw [Oper.semAt_plain F _ _ (by rw [ho]; intro c hc'; cases hc')]
    simp [execOp, ho, resolve, invoke, builtin, hs, hx, hr, Result.andThen]
    exact hK _ _ (h v' w' g1 g2 g3)

theorem qdrain_any (w : World) (q : Option Addr) :
    Calls Try.prog 31 #[.pointer q] w fun e w' => e = .returned (.func (.func 48) #[] #[.pointer (some ⟨w.heap.size, 0, none⟩)]) ∧ w'.cell? ⟨w.heap.size, 0, none⟩ = some (.pointer q) ∧ Below w.heap.size w w' := by
  have hmf : ∀ (fn : Fn) (first cap : Array Value) (w : World), (Instr.makeFunc fn first cap).run Try.prog w = .ok (.func fn first cap) w := fun _ _ _ _ => rfl
  go_enter Try.func31, Try.ntmps31
  go_wp2
  go_ret
  exact ⟨rfl, by simp, (Below.refl _ _).alloc (Nat.le_refl _) _⟩

/-- What was told so far, in a row that a variable holds. -/
def Out (B : Nat) (pre : List It) (C : Nat → Prop) (W : World) : Prop :=
  ∃ v, W.heap[B]? = some (.cells #[v] 29 (0, 0)) ∧ W.ownsRow 0 26 2 v pre.length (cellsI pre) ∧ v.ownBlock ≠ some B ∧ ∀ k, C k ↔ QF B v k
theorem Out.ok (B : Nat) : JOk (Out B) := by
  refine ⟨fun pre C W W' G h hk hn => ?_, fun pre C W h k hc => ?_⟩
  · obtain ⟨v, h1, h2, h3, h4⟩ := h
    exact ⟨v, (hk.block B (Array.getElem?_eq_some_iff.1 h1).1 (hn B ((h4 B).2 (Or.inl rfl)))).trans h1, owns_keep h2 hk (fun k hv => hn k ((h4 k).2 (Or.inr hv))), h3, h4⟩
  · obtain ⟨v, h1, h2, h3, h4⟩ := h
    rcases (h4 k).1 hc with h | h
    · rw [h]; exact (Array.getElem?_eq_some_iff.1 h1).1
    · exact (h2.lt k h).2
/-- The loop's variable beside it. -/
def Out1 (B : Nat) (fa : It → Nat → Act) (pre : List It) (x : It) (a' : Act) (C : Nat → Prop) (W : World) : Prop :=
  ∃ bx Ci, Out B pre Ci W ∧ W.heap[bx]? = some (.cells #[.int .i64 x.1, .string x.2] 26 (0, 0)) ∧ ¬ Ci bx ∧ (∀ k, C k ↔ Ci k ∨ k = bx) ∧ a' = fa x bx
theorem Out1.ok (B : Nat) (fa : It → Nat → Act) (x : It) (a' : Act) : JOk (fun pre => Out1 B fa pre x a') := by
  refine ⟨fun pre C W W' G h hk hn => ?_, fun pre C W h k hc => ?_⟩
  · obtain ⟨bx, Ci, h1, h2, h3, h4, h5⟩ := h
    exact ⟨bx, Ci, (Out.ok B).stays _ _ _ _ G h1 hk (fun k hc => hn k ((h4 k).2 (Or.inl hc))), (hk.block bx (Array.getElem?_eq_some_iff.1 h2).1 (hn bx ((h4 bx).2 (Or.inr rfl)))).trans h2, h3, h4, h5⟩
  · obtain ⟨bx, Ci, h1, h2, h3, h4, h5⟩ := h
    rcases (h4 k).1 hc with h | h
    · exact (Out.ok B).lt _ _ _ h1 k h
    · rw [h]; exact (Array.getElem?_eq_some_iff.1 h2).1
/-- One more is told. -/
theorem Out.more {B : Nat} {pre : List It} {x : It} {C : Nat → Prop} {v v2 : Value} {W Wx w2 : World} (h1 : W.heap[B]? = some (.cells #[v] 29 (0, 0))) (h3 : v.ownBlock ≠ some B) (hC : ∀ k, QF B v k → C k)
    (hW : Below W.heap.size W Wx) (hown : w2.ownsRow 0 26 2 v2 (pre.length + 1) (cellsI pre ++ iC x)) (hg : Wx.grownBy w2 v.ownBlock) (hob : v2.ownBlock = v.ownBlock ∨ v2.ownBlock = some Wx.heap.size) :
    Out B (pre ++ [x]) (QF B v2) (w2.setCell ⟨B, 0, none⟩ v2) ∧ Moves C (QF B v2) W (w2.setCell ⟨B, 0, none⟩ v2) := by
  have hBl : B < W.heap.size := (Array.getElem?_eq_some_iff.1 h1).1
  have hb2 : w2.heap[B]? = some (.cells #[v] 29 (0, 0)) := (hg.block B (Nat.lt_of_lt_of_le hBl hW.size) (fun e => h3 e.symm)).trans ((hW.block B hBl).trans h1)
  have b2 := heap_setCell_same w2 B 0 _ _ v2 hb2
  have hv2 : v2.ownBlock ≠ some B := by
    rcases hob with e | e
    · rw [e]; exact h3
    · rw [e]; intro e2; simp only [Option.some.injEq] at e2; have := hW.size; omega
  have K3 : Keep (fun k => k = B) w2 (w2.setCell ⟨B, 0, none⟩ v2) := ⟨rfl, rfl, rfl, by simp [World.setCell], fun k _ hk => heap_setCell_other w2 ⟨B, 0, none⟩ k _ (fun e => hk (by simp at e; exact e.symm ▸ rfl))⟩
  have K2 : Keep (QF B v) Wx w2 := ⟨hg.os, hg.tape, hg.output, hg.size, fun k hk hn => hg.block k hk (fun e => hn (Or.inr e.symm))⟩
  have K1 : Keep (QF B v) W w2 := (Keep.of_below hW).trans K2 (fun x hx => Or.inl hx)
  refine ⟨⟨v2, by rw [b2]; rfl, ?_, hv2, fun _ => Iff.rfl⟩, (K1.trans K3 (fun x hx => Or.inl (Or.inl hx))).weak hC, fun k hk => ?_⟩
  · rw [List.length_append, cellsI_append, cellsI_one]
    exact owns_keep hown K3 (fun k hk e => hv2 (e ▸ hk))
  · rcases hk with hk | hk
    · exact Or.inl (hC k (Or.inl hk))
    · rcases hob with e | e
      · exact Or.inl (hC k (Or.inr (e ▸ hk)))
      · rw [e] at hk; simp only [Option.some.injEq] at hk; exact Or.inr (by have := hW.size; omega)

set_option maxRecDepth 20000 in
set_option maxHeartbeats 2000000 in
theorem qsorted_any (lt : It → It → Bool) (f : Value) (hC : LessC f lt) (s : Value) (l : List It) (w : World) (hs : TI w s l) (hl : l.length ≤ 1048576) :
    Calls Try.prog 19 #[s, f] w fun e w' => ∃ v, e = .returned v ∧ w'.ownsRow 0 26 2 v l.length (cellsI (srt lt l)) ∧ (∀ k, v.ownBlock = some k → w.heap.size ≤ k) ∧ Below w.heap.size w w' := by
  refine (callsIn_wide (n := 3)).1 ?_
  refine callsIn_of_wp_marks Try.func19 rfl trivial ?_ rfl
  simp only [Try.ntmps19, List.size_toArray, List.length_cons, List.length_nil, Nat.reduceAdd, Nat.reduceSub, Array.replicate_succ, Array.replicate_zero, List.push_toArray, List.append_toArray, List.nil_append, List.cons_append]
  obtain ⟨is, his, hs0, hs1, hs2⟩ := info_parts Try.info26
  obtain ⟨p, cap, rfl, k1, k2⟩ := hs.shape
  have HS := hide hs
  have HL := hide hl
  have hlI : (l.length : Int) ≤ 1048576 := by omega
  have HC := hide hC
  clear hs hl k1 k2 hC
  gi_wp2_with fail
  refine ⟨trivial, (callsIn_wide.2 (qnew_any lt f (unhide HC) w)).mono ?_⟩
  rintro e w1 ⟨rfl, q1, b1⟩
  have HQ1 := hide q1
  have HB1 := hide b1
  clear q1 b1
  gi_wp2_with fail
  gi_loopw [14] (fun i wr => ∃ (k : Nat) (F : Nat → Prop), k ≤ l.length ∧ i = .int .i64 (k : Int) ∧ QAt F wr w.heap.size f lt (srt lt (l.take k)) k ∧ (∀ b, F b → w.heap.size ≤ b) ∧ Below w.heap.size w wr) (fun i _ => l.length - (intOf i).toNat)
  case atStart => exact ⟨0, _, Nat.zero_le _, rfl, unhide HQ1, fun b e => Nat.le_of_eq e.symm, unhide HB1⟩
  case round =>
    clear HQ1 HB1
    obtain ⟨k, F, hk, rfl, hQ, hFb, hB⟩ := hrel
    by_cases hlt : k < l.length
    · have hkI : (k : Int) < (l.length : Int) := by omega
      have hT := (unhide HS).below (Below.mono hB (Nat.le_refl _))
      obtain ⟨b, off, cap', e0, _, _, hbl, hat, _⟩ := hT.at (by omega)
      simp only [Value.slice.injEq] at e0
      obtain ⟨rfl, _, rfl⟩ := e0
      obtain ⟨a1, a2⟩ := hat k hlt
      have hQ2 := hQ.below (w' := wr.alloc (.cells #[.int .i64 l[k].1, .string l[k].2] 26)) ((Below.refl _ _).alloc (Nat.le_refl _) _)
      have hsn : srt lt (l.take (k + 1)) = ins lt l[k] (srt lt (l.take k)) := by rw [List.take_succ_eq_append_getElem hlt, srt_snoc]
      have HSN := hide hsn
      have hlen : (srt lt (l.take k)).length = k := by rw [length_srt, List.length_take]; omega
      have HLEN := hide hlen
      have HQ2 := hide hQ2
      have HB := hide hB
      have HLT := hide hlt
      generalize l[k] = X at *
      clear hk hlt hQ hB hT hat hsn hlen hQ2
      gi_wp2_with fail
      refine ⟨trivial, (callsIn_wide.2 (qpush_any lt F _ w.heap.size k X f _ (unhide HQ2) (by rw [unhide HLEN]; have := unhide HL; have := unhide HLT; omega) (by have := unhide HL; have := unhide HLT; omega))).mono ?_⟩
      rintro e w3 ⟨rfl, F3, q3, m3⟩
      have hBs := (unhide HB).size
      have HE : Hid (QAt F3 w3 w.heap.size f lt (srt lt (l.take (k + 1))) (k + 1) ∧ (∀ b, F3 b → w.heap.size ≤ b) ∧ Below w.heap.size w w3) := by
        rw [← unhide HSN] at q3
        have hba : Below w.heap.size w (wr.alloc (.cells #[.int .i64 X.1, .string X.2] 26)) := (unhide HB).alloc hBs _
        refine ⟨q3, fun b hb => ?_, hba.trans (m3.keep.below hba.size hFb)⟩
        rcases m3.sub b hb with h | h
        · exact hFb b h
        · have := hba.size; omega
      clear q3 m3 hBs
      gi_wp2_with fail
      go_roundw
      case rel => exact ⟨k + 1, F3, unhide HLT, by go_num, unhide HE⟩
      case measure => (have := unhide HLT; simp [intOf]; omega)
    · have hke : k = l.length := by omega
      subst hke
      rw [List.take_length] at hQ
      have HQ := hide hQ
      have HB := hide hB
      have hBs := hB.size
      clear hk hlt hQ hB
      gi_wp2_with (first
        | (gi_at_make; refine wpListIn_make_own _ rfl _ _ 29 rfl 0 26 is (.agg #[.int .i64 0, .string ⟨#[]⟩]) 2 Try.underlying29 his hs0 hs1 .i64 .i64 (l.length : Int) l.length rfl rfl rfl (by have := unhide HL; rw [hs2]; omega) (by have := unhide HL; unfold maxLen; omega) (Nat.zero_le _) ?_))
      intro w3 hown3 hgrow3
      have hQ3 : QAt F w3 w.heap.size f lt (srt lt l) l.length := (unhide HQ).keep (G := fun _ => False) ⟨hgrow3.os, hgrow3.tape, hgrow3.output, hgrow3.size, fun k hk _ => hgrow3.block k hk (fun e => (nomatch e))⟩ (fun _ _ => id)
      have hB3 : Below w.heap.size w w3 := (unhide HB).grown hgrow3 hBs (fun k e => (nomatch e))
      have hs3 := hgrow3.size
      have hgl := (hown3.lt wr.heap.size rfl).2
      have hb4 : Below w3.heap.size w3 (w3.alloc (.cells #[.slice (some ⟨wr.heap.size, 0, none⟩) 0 l.length] 29)) := (Below.refl _ _).alloc (Nat.le_refl _) _
      have hFw : ∀ k, F k → k < wr.heap.size := (unhide HQ).lt
      have HQ4 := hide (hQ3.below hb4)
      have HO4 : Hid (Out w3.heap.size [] (QF w3.heap.size (.slice (some ⟨wr.heap.size, 0, none⟩) 0 l.length)) (w3.alloc (.cells #[.slice (some ⟨wr.heap.size, 0, none⟩) 0 l.length] 29))) := ⟨_, heap_alloc_new w3 _, owns_keep (F := fun _ => False) hown3 (Keep.of_below hb4) (fun _ _ => id), (by simp [Value.ownBlock]; omega), fun _ => Iff.rfl⟩
      have HB4 := hide (hB3.trans (hb4.mono hB3.size))
      clear hQ3 hB3 hown3 hgrow3 hb4 HQ HB
      gi_wp2_with fail
      refine ⟨trivial, (callsIn_wide.2 (qdrain_any _ (some ⟨w.heap.size, 0, none⟩))).mono ?_⟩
      rintro e w5 ⟨rfl, hBn, b5⟩
      have hQ5 := (unhide HQ4).below b5
      have hO5 := (Out.ok w3.heap.size).stays _ _ _ _ (fun _ => False) (unhide HO4) (Keep.of_below b5) (fun _ _ => id)
      have hB5 := (unhide HB4).trans (b5.mono (unhide HB4).size)
      have hs5 := b5.size
      rw [World.size_alloc] at hBn hs5
      clear b5 HQ4 HO4 HB4
      gi_wp2_with fail
      refine wpIn_drain (Bn := w3.heap.size + 1) (q := w.heap.size) (lt := lt) (f := f) (n := l.length) (Z := srt lt l) rfl rfl (Out w3.heap.size) (Out1 w3.heap.size (fun x bx => { tmps := #[.slice p l.length cap, f, undef, undef, .slice none 0 0, .pointer (some ⟨w.heap.size, 0, none⟩), undef, u7, .pointer (some ⟨w3.heap.size, 0, none⟩), .pointer (some ⟨bx, 0, none⟩), f, .pointer (some ⟨w.heap.size, 0, none⟩), .slice p l.length cap, .int .i64 (l.length : Int), .int .i64 (l.length : Int), .bool false, u16, u17, u18, u19, u20, u21, .slice p l.length cap, .int .i64 (l.length : Int), .slice (some ⟨wr.heap.size, 0, none⟩) 0 l.length, .pointer (some ⟨w.heap.size, 0, none⟩), .func (.func 48) #[] #[.pointer (some ⟨w3.heap.size + 1, 0, none⟩)], .agg #[.int .i64 x.1, .string x.2], undef, undef, undef, undef, undef], defers := [] })) (fun _ _ _ _ => False) (Out.ok _) (Out1.ok _ _) hBn hO5 hQ5 ?_ ?_ ?_ ?assign ?body ?ixok ?done ?stop
      · intro k hf hc
        have := hFw k hf
        rcases hc with hc | hc
        · omega
        · simp [Value.ownBlock] at hc; omega
      · intro hc
        rcases hc with hc | hc
        · omega
        · simp [Value.ownBlock] at hc; omega
      · intro hf
        have := hFw _ hf
        omega
      case assign =>
        intro ll pre C x W K hi hK
        gi_wp2
        have hb : Below W.heap.size W (W.alloc (.cells #[.int .i64 x.1, .string x.2] 26)) := (Below.refl _ _).alloc (Nat.le_refl _) _
        refine hK _ (fun k => C k ∨ k = W.heap.size) _ ⟨W.heap.size, C, (Out.ok _).stays _ _ _ _ (fun _ => False) hi (Keep.of_below hb) (fun _ _ => id), heap_alloc_new W _, fun hc => by have := (Out.ok _).lt _ _ _ hi _ hc; omega, fun _ => Iff.rfl, rfl⟩ ⟨Keep.of_below hb, fun k hk => ?_⟩
        rcases hk with hk | hk
        · exact Or.inl hk
        · exact Or.inr (by omega)
      case body =>
        rintro ll pre C x a' W ⟨bx, Ci, ⟨v, o1, o2, o3, o4⟩, hbx, hnb, hCC, rfl⟩ hlen
        have hlen2 : pre.length < 1048576 := by rw [length_srt] at hlen; have := unhide HL; omega
        have HLN := hide hlen2
        obtain ⟨pv, nv, cv, rfl⟩ : ∃ pv nv cv, v = .slice pv nv cv := by
          rcases o2.2 with ⟨h', _⟩ | ⟨g', cap', cur, h', _⟩
          · exact ⟨_, _, _, h'⟩
          · exact ⟨_, _, _, h'⟩
        have d0 : W.cell? ⟨w3.heap.size, 0, none⟩ = some (.slice pv nv cv) := by rw [cell_of_row W w3.heap.size _ _ _ (0, 0) o1]; rfl
        have x0 : W.cell? ⟨bx, 0, none⟩ = some (.int .i64 x.1) := by rw [cell_of_row W bx _ _ _ (0, 0) hbx]; rfl
        have x1 : W.cell? ⟨bx, 1, none⟩ = some (.string x.2) := by rw [cell_of_row W bx _ _ _ (0, 0) hbx]; rfl
        have hbW : Below W.heap.size W (W.alloc (.cells #[.int .i64 x.1, .string x.2] 26)) := (Below.refl _ _).alloc (Nat.le_refl _) _
        have HO2 := hide (owns_keep (F := fun _ => False) o2 (Keep.of_below hbW) (fun _ _ => id))
        have HO1 := hide o1
        have HO3 := hide o3
        have HCV : Hid (∀ k, QF w3.heap.size (.slice pv nv cv) k → C k) := fun k hk => (hCC k).2 (Or.inl ((o4 k).2 hk))
        have HBW := hide hbW
        have hBlW : w3.heap.size < W.heap.size := (Array.getElem?_eq_some_iff.1 o1).1
        clear hlen hlen2 o1 o2 o3 o4 hbx hnb hCC hbW
        gi_wp2_with (first
          | (gi_at_builtin; refine wpListIn_append_gen rfl (.tmp 28) (.tmp 30) 29 rfl 0 26 is (.agg #[.int .i64 0, .string ⟨#[]⟩]) Try.underlying29 his hs0 2 24 (by omega) hs1 hs2 rfl (.slice pv nv cv) pre.length (cellsI pre) rfl (unhide HO2) ⟨W.heap.size, 0, none⟩ 1 1 (iC x) rfl rfl (by intro j u hj; match j, hj with | 0, hj => (simp [iC] at hj; subst hj; simp [Addr.add]) | 1, hj => (simp [iC] at hj; subst hj; simp [Addr.add])) (by intro u hu; simp [iC] at hu; rcases hu with rfl | rfl <;> rfl) (by have := unhide HLN; unfold maxLen; omega) (by have := unhide HLN; omega) (Nat.zero_le _) ?_))
        intro v2 w2 hown2 hgrow2 hob2
        have hblk2 := (hgrow2.block w3.heap.size (by simp; omega) (fun e => unhide HO3 e.symm)).trans (((unhide HBW).block w3.heap.size hBlW).trans (unhide HO1))
        have y0 : w2.cell? ⟨w3.heap.size, 0, none⟩ = some (.slice pv nv cv) := by rw [cell_of_row w2 w3.heap.size _ _ _ (0, 0) hblk2]; rfl
        have yf : w2.frozen? ⟨w3.heap.size, 0, none⟩ = false := frozen_of_block hblk2
        rcases hown2.2 with ⟨_, h0⟩ | ⟨g2, cap2, cur2, e2, _⟩
        · exact absurd h0 (by omega)
        subst e2
        have HJ := hide (Out.more (unhide HO1) (unhide HO3) (unhide HCV) (unhide HBW) hown2 hgrow2 (by rw [World.size_alloc]; exact hob2))
        clear hown2 hgrow2 hob2 hblk2 d0 x0 x1
        gi_wp2_with fail
        exact ⟨_, unhide HJ⟩
      case ixok => exact fun _ => ⟨fun _ _ _ _ _ h _ _ => h, fun _ _ _ h => h.elim⟩
      case done =>
        rintro D C F2 W hD ⟨v, o1, o2, o3, o4⟩ hq2 hdj hnC hnF hm hK
        have d0 : W.cell? ⟨w3.heap.size, 0, none⟩ = some v := by rw [cell_of_row W w3.heap.size _ _ _ (0, 0) o1]; rfl
        gi_wp2
        refine ⟨by simp, .inl ⟨_, _, rfl, run_takeDeferred hK, ?_⟩⟩
        have hs5' := hB5.size
        have hC0b : ∀ k, (F k ∨ QF w3.heap.size (.slice (some ⟨wr.heap.size, 0, none⟩) 0 l.length) k) → w.heap.size ≤ k := fun k hk => by
          rcases hk with hk | hk | hk
          · exact hFb k hk
          · omega
          · simp [Value.ownBlock] at hk; omega
        have hp := keep_putObj W D (.deferred none)
        refine ⟨_, results_tmp rfl _ _ _, v, rfl, ?_, fun k hk => ?_, hB5.trans ((hm.keep.below hs5' hC0b).trans ?_)⟩
        · rw [length_srt] at o2
          exact owns_keep o2 hp (fun k hk e => hnC ((o4 D).2 (Or.inr (e ▸ hk))))
        · rcases hm.sub k (Or.inr ((o4 k).2 (Or.inr hk))) with h | h
          · exact hC0b k h
          · omega
        · exact ⟨hp.os, hp.tape, hp.output, hp.size, fun k hk => by
            by_cases hkl : k < W.heap.size
            · exact hp.block k hkl (fun e => by omega)
            · have := hm.keep.size; omega⟩
      case stop =>
        rintro D c pre x rest C F2 W _ _ h
        exact h.elim
end Go.Proofs.Ytbannlomemkjbaa

/- A nil queue. -/
namespace Go.Proofs.Ytbannlomemkjbaa
open Go.RowKit Go.Shelf
attribute [local go_sem] Oper.semAt_some

theorem nlen_any (w : World) : Calls Try.prog 13 #[.pointer none] w fun e w' => e = .returned (.int .i64 0) ∧ Below w.heap.size w w' := by
  go_enter Try.func13, Try.ntmps13
  go_wp2
  go_ret
  exact ⟨rfl, Below.refl _ _⟩
theorem npush_any (x : It) (w : World) : Calls Try.prog 14 #[.pointer none, .agg #[.int .i64 x.1, .string x.2]] w fun e w' => e = .returned (.int .i64 2) ∧ Below w.heap.size w w' := by
  go_enter Try.func14, Try.ntmps14
  go_wp2
  go_ret
  exact ⟨rfl, (Below.refl _ _).alloc (Nat.le_refl _) _⟩
theorem nfork_any (w : World) : Calls Try.prog 32 #[.pointer none] w fun e w' => e = .returned (.pointer none) ∧ Below w.heap.size w w' := by
  go_enter Try.func32, Try.ntmps32
  go_wp2
  go_ret
  exact ⟨rfl, Below.refl _ _⟩
set_option maxRecDepth 20000 in
theorem npeek_any (w : World) : Calls Try.prog 30 #[.pointer none] w fun e w' => e = .returned (.tuple #[.agg #[.int .i64 0, .string ⟨#[]⟩], .bool false]) ∧ Below w.heap.size w w' := by
  go_enter Try.func30, Try.ntmps30
  go_wp2_with fail
  refine Calls.mono (nlen_any _) ?_
  rintro e w1 ⟨rfl, b1⟩
  obtain ⟨r0, r1, g0, g1, hlt, hB⟩ := res2 b1
  have HB := hide hB
  have ne1 : ¬ w1.heap.size = w.heap.size := by omega
  clear b1 hB
  go_wp2_with fail
  refine bodyPost_ret (v := .tuple #[.agg #[.int .i64 0, .string ⟨#[]⟩], .bool false]) (by simp [results, Try.results30, go_sem, r0, r1, hlt]) rfl ⟨rfl, ?_⟩
  have hB := unhide HB
  exact ((hB.setCell (p := ⟨w.heap.size, 0, none⟩) (Nat.le_refl _) _).setCell (p := ⟨w.heap.size, 1, none⟩) (Nat.le_refl _) _).alloc (by simp [World.setCell]; omega) _
set_option maxRecDepth 20000 in
theorem npop_any (w : World) : Calls Try.prog 29 #[.pointer none] w fun e w' => e = .returned (.tuple #[.agg #[.int .i64 0, .string ⟨#[]⟩], .bool false]) ∧ Below w.heap.size w w' := by
  go_enter Try.func29, Try.ntmps29
  go_wp2_with fail
  refine Calls.mono (npeek_any _) ?_
  rintro e w1 ⟨rfl, b1⟩
  obtain ⟨r0, r1, g0, g1, hlt, hB⟩ := res2 b1
  have HB := hide hB
  have ne1 : ¬ w1.heap.size = w.heap.size := by omega
  clear b1 hB
  go_wp2_with fail
  refine bodyPost_ret (v := .tuple #[.agg #[.int .i64 0, .string ⟨#[]⟩], .bool false]) (by simp [results, Try.results29, go_sem, r0, r1, hlt]) rfl ⟨rfl, ?_⟩
  have hB := unhide HB
  exact ((hB.setCell (p := ⟨w.heap.size, 0, none⟩) (Nat.le_refl _) _).setCell (p := ⟨w.heap.size, 1, none⟩) (Nat.le_refl _) _).alloc (by simp [World.setCell]; omega) _

theorem grown_of_below {W W' : World} (h : Below W.heap.size W W') : W.grownBy W' none := ⟨h.os, h.tape, h.output, h.size, fun k hk _ => h.block k hk⟩
set_option maxRecDepth 20000 in
set_option maxHeartbeats 1000000 in
theorem nil_stops (n Bn : Nat) (w : World) (hB : w.cell? ⟨Bn, 0, none⟩ = some (.pointer none)) :
    SeqStopsK Fence.wide n Try.prog 48 #[.pointer (some ⟨Bn, 0, none⟩)] (fun x : It => #[.agg #[.int .i64 x.1, .string x.2]]) (Below w.heap.size) (fun xs => xs = []) (fun _ => False) 0 w := fun l J Jx W hW hJ hJx hY h0 => by
  show CallsIn Fence.wide n Try.prog 48 #[.func (.yield l) #[] #[], .pointer (some ⟨Bn, 0, none⟩)] W _
  refine callsIn_of_wp Try.func48 rfl trivial ?_ rfl
  simp only [Try.ntmps48, List.size_toArray, List.length_cons, List.length_nil, Nat.reduceAdd, Nat.reduceSub, Array.replicate_succ, Array.replicate_zero, List.push_toArray, List.append_toArray, List.nil_append, List.cons_append]
  have hBW := (hW.cell (p := ⟨Bn, 0, none⟩) (World.block_lt_of_cell? w _ hB)).trans hB
  have HJ := hide (fun (W' : World) (hb : Below W.heap.size W W') => hJ [] W W' none h0 (grown_of_below hb) (fun r e => (nomatch e)))
  clear hY hJ hJx h0 hW hB
  gi_wp2_with fail
  refine ⟨trivial, (fun h => (by cases h)), (callsIn_wide.2 (npop_any _)).mono ?_⟩
  rintro e w1 ⟨rfl, b1⟩
  have HB := hide (b1.alloc (o := .cells #[.int .i64 0, .string ⟨#[]⟩] 26) b1.size)
  clear b1
  gi_wp2_with fail
  gi_loopw [3, 4] (fun p b wr => b = .bool false ∧ Below W.heap.size W wr) (fun _ _ _ => 0)
  case atStart => exact ⟨rfl, unhide HB⟩
  case round =>
    obtain ⟨rfl, hb⟩ := hrel
    have HB2 := hide hb
    clear hb HB
    gi_wp2_with fail
    go_end0
    exact ⟨⟨_, rfl⟩, Or.inl ⟨[], rfl, unhide HJ _ (unhide HB2)⟩⟩
end Go.Proofs.Ytbannlomemkjbaa
