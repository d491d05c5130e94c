/- Texts of ours, one behind the other: QSorted, QDrained. -/
import Derived.Test.YtbannlomemkjbabG3
import Derived.Test.YtbannlomemkjbabG5
import Derived.Test.YtbannlomemkjbabG10
import Derived.Laws.EntriesVeiled
/- The landed package queue: Drain's value, and Sorted. -/
namespace Go.Proofs.Ytbannlomemkjbab
open Go.RowKit Go.Shelf
attribute [local go_sem] Oper.semAt_some

theorem wpListIn_append_gen {F : Fence} {n : Nat} {P : Program} {w : World} {ops : Array Oper} {rest : List Oper} {o : Oper} {a : Act} {Q : Exit → Act → World → Prop} (hgd : o.guard = none) (s x : Operand) (t : TypeId)
    (ho : o.op = .call { callee := .builtin .append, args := #[s, x], argTypes := #[t, t] })
    (base : Nat) (e : TypeId) (i : TypeInfo) (z : Value) (ht : P.underlying t = some (.slice e)) (hi : P.info? e = some i) (hz : i.zero = some z)
    (size bytes : Nat) (hsz0 : 0 < size) (hsize : i.size = size) (hby : i.bytes = bytes) (hzs : z.cells.size = size)
    (v : Value) (k : Nat) (xs : List Value) (hs : a.eval s = v) (hown : w.ownsRow base e size v k xs) (ad : Addr) (m c : Nat) (news : List Value) (hx : a.eval x = .slice (some ad) m c)
    (hl : news.length = m * size) (hnews : ∀ j u, news[j]? = some u → w.cell? (ad.add j) = some u) (hone : ∀ u ∈ news, u.oneCell' = true) (h63 : k + m ≤ maxLen) (hbytes : (k + m) * bytes ≤ 140737488355328) (hbase : base ≤ w.heap.size)
    (h : ∀ v' w', w'.ownsRow base e size v' (k + m) (xs ++ news) → w.grownBy w' v.ownBlock → (v'.ownBlock = v.ownBlock ∨ v'.ownBlock = some w.heap.size) → wpListIn F n P ops Q rest (a.put o.dst v') w') : wpListIn F n P ops Q (o :: rest) a w := by
  obtain ⟨v', w', hr, g1, g2, _⟩ := run_append_own (P := P) w base t o.type e i z size bytes ht hi hz hsize hby hzs hsz0 v k xs hown ad m c news hl hnews hone h63 hbytes hbase
  have g3 := append_block (P := P) w t o.type e i z ht hi hz (base := base) (v := v) (n := k) (xs := xs) (by rw [hsize]; exact hown) ad m c news (by rw [hsize]; omega) hnews hone h63 (by rw [hby]; exact hbytes) hr
  refine wpListIn_plain hgd fun K hK => ?_
  unfold Oper.wpIn
  refine ⟨?_, ?_⟩
  · simp [Oper.about, ho, resolve, Target.leads, Sem.run_pure]
  · rw [Oper.semAt_plain F _ _ (by rw [ho]; intro c hc'; cases hc')]
    simp [execOp, ho, resolve, invoke, builtin, hs, hx, hr, Result.andThen]
    exact hK _ _ (h v' w' g1 g2 g3)

theorem qdrain_any (w : World) (q : Option Addr) :
    Calls Try.prog 18 #[.pointer q] w fun e w' => e = .returned (.func (.func 28) #[] #[.pointer (some ⟨w.heap.size, 0, none⟩)]) ∧ w'.cell? ⟨w.heap.size, 0, none⟩ = some (.pointer q) ∧ Below w.heap.size w w' := by
  have hmf : ∀ (fn : Fn) (first cap : Array Value) (w : World), (Instr.makeFunc fn first cap).run Try.prog w = .ok (.func fn first cap) w := fun _ _ _ _ => rfl
  go_enter Try.func18, Try.ntmps18
  go_wp2
  go_ret
  exact ⟨rfl, by simp, (Below.refl _ _).alloc (Nat.le_refl _) _⟩

/-- What was told so far, in a row that a variable holds. -/
def Out (B : Nat) (pre : List It) (C : Nat → Prop) (W : World) : Prop :=
  ∃ v, W.heap[B]? = some (.cells #[v] 22 (0, 0)) ∧ W.ownsRow 0 26 2 v pre.length (cellsI pre) ∧ v.ownBlock ≠ some B ∧ ∀ k, C k ↔ QF B v k
theorem Out.ok (B : Nat) : JOk (Out B) := by
  refine ⟨fun pre C W W' G h hk hn => ?_, fun pre C W h k hc => ?_⟩
  · obtain ⟨v, h1, h2, h3, h4⟩ := h
    exact ⟨v, (hk.block B (Array.getElem?_eq_some_iff.1 h1).1 (hn B ((h4 B).2 (Or.inl rfl)))).trans h1, owns_keep h2 hk (fun k hv => hn k ((h4 k).2 (Or.inr hv))), h3, h4⟩
  · obtain ⟨v, h1, h2, h3, h4⟩ := h
    rcases (h4 k).1 hc with h | h
    · rw [h]; exact (Array.getElem?_eq_some_iff.1 h1).1
    · exact (h2.lt k h).2
/-- The loop's variable beside it. -/
def Out1 (B : Nat) (fa : It → Nat → Act) (pre : List It) (x : It) (a' : Act) (C : Nat → Prop) (W : World) : Prop :=
  ∃ bx Ci, Out B pre Ci W ∧ W.heap[bx]? = some (.cells #[.int .i64 x.1, .string x.2] 26 (0, 0)) ∧ ¬ Ci bx ∧ (∀ k, C k ↔ Ci k ∨ k = bx) ∧ a' = fa x bx
theorem Out1.ok (B : Nat) (fa : It → Nat → Act) (x : It) (a' : Act) : JOk (fun pre => Out1 B fa pre x a') := by
  refine ⟨fun pre C W W' G h hk hn => ?_, fun pre C W h k hc => ?_⟩
  · obtain ⟨bx, Ci, h1, h2, h3, h4, h5⟩ := h
    exact ⟨bx, Ci, (Out.ok B).stays _ _ _ _ G h1 hk (fun k hc => hn k ((h4 k).2 (Or.inl hc))), (hk.block bx (Array.getElem?_eq_some_iff.1 h2).1 (hn bx ((h4 bx).2 (Or.inr rfl)))).trans h2, h3, h4, h5⟩
  · obtain ⟨bx, Ci, h1, h2, h3, h4, h5⟩ := h
    rcases (h4 k).1 hc with h | h
    · exact (Out.ok B).lt _ _ _ h1 k h
    · rw [h]; exact (Array.getElem?_eq_some_iff.1 h2).1
/-- One more is told. -/
theorem Out.more {B : Nat} {pre : List It} {x : It} {C : Nat → Prop} {v v2 : Value} {W Wx w2 : World} (h1 : W.heap[B]? = some (.cells #[v] 22 (0, 0))) (h3 : v.ownBlock ≠ some B) (hC : ∀ k, QF B v k → C k)
    (hW : Below W.heap.size W Wx) (hown : w2.ownsRow 0 26 2 v2 (pre.length + 1) (cellsI pre ++ iC x)) (hg : Wx.grownBy w2 v.ownBlock) (hob : v2.ownBlock = v.ownBlock ∨ v2.ownBlock = some Wx.heap.size) :
    Out B (pre ++ [x]) (QF B v2) (w2.setCell ⟨B, 0, none⟩ v2) ∧ Moves C (QF B v2) W (w2.setCell ⟨B, 0, none⟩ v2) := by
  have hBl : B < W.heap.size := (Array.getElem?_eq_some_iff.1 h1).1
  have hb2 : w2.heap[B]? = some (.cells #[v] 22 (0, 0)) := (hg.block B (Nat.lt_of_lt_of_le hBl hW.size) (fun e => h3 e.symm)).trans ((hW.block B hBl).trans h1)
  have b2 := heap_setCell_same w2 B 0 _ _ v2 hb2
  have hv2 : v2.ownBlock ≠ some B := by
    rcases hob with e | e
    · rw [e]; exact h3
    · rw [e]; intro e2; simp only [Option.some.injEq] at e2; have := hW.size; omega
  have K3 : Keep (fun k => k = B) w2 (w2.setCell ⟨B, 0, none⟩ v2) := ⟨rfl, rfl, rfl, by simp [World.setCell], fun k _ hk => heap_setCell_other w2 ⟨B, 0, none⟩ k _ (fun e => hk (by simp at e; exact e.symm ▸ rfl))⟩
  have K2 : Keep (QF B v) Wx w2 := ⟨hg.os, hg.tape, hg.output, hg.size, fun k hk hn => hg.block k hk (fun e => hn (Or.inr e.symm))⟩
  have K1 : Keep (QF B v) W w2 := (Keep.of_below hW).trans K2 (fun x hx => Or.inl hx)
  refine ⟨⟨v2, by rw [b2]; rfl, ?_, hv2, fun _ => Iff.rfl⟩, (K1.trans K3 (fun x hx => Or.inl (Or.inl hx))).weak hC, fun k hk => ?_⟩
  · rw [List.length_append, cellsI_append, cellsI_one]
    exact owns_keep hown K3 (fun k hk e => hv2 (e ▸ hk))
  · rcases hk with hk | hk
    · exact Or.inl (hC k (Or.inl hk))
    · rcases hob with e | e
      · exact Or.inl (hC k (Or.inr (e ▸ hk)))
      · rw [e] at hk; simp only [Option.some.injEq] at hk; exact Or.inr (by have := hW.size; omega)

set_option maxRecDepth 20000 in
set_option maxHeartbeats 2000000 in
theorem qsorted_any (lt : It → It → Bool) (f : Value) (hC : LessC f lt) (s : Value) (l : List It) (w : World) (hs : TI w s l) (hl : l.length ≤ 1048576) :
    Calls Try.prog 12 #[s, f] w fun e w' => ∃ v, e = .returned v ∧ w'.ownsRow 0 26 2 v l.length (cellsI (srt lt l)) ∧ (∀ k, v.ownBlock = some k → w.heap.size ≤ k) ∧ Below w.heap.size w w' := by
  refine (callsIn_wide (n := 3)).1 ?_
  refine callsIn_of_wp_marks Try.func12 rfl trivial ?_ rfl
  simp only [Try.ntmps12, List.size_toArray, List.length_cons, List.length_nil, Nat.reduceAdd, Nat.reduceSub, Array.replicate_succ, Array.replicate_zero, List.push_toArray, List.append_toArray, List.nil_append, List.cons_append]
  obtain ⟨is, his, hs0, hs1, hs2⟩ := info_parts Try.info26
  obtain ⟨p, cap, rfl, k1, k2⟩ := hs.shape
  have HS := hide hs
  have HL := hide hl
  have hlI : (l.length : Int) ≤ 1048576 := by omega
  have HC := hide hC
  clear hs hl k1 k2 hC
  gi_wp2_with fail
  refine ⟨trivial, (callsIn_wide.2 (qnew_any lt f (unhide HC) w)).mono ?_⟩
  rintro e w1 ⟨rfl, q1, b1⟩
  have HQ1 := hide q1
  have HB1 := hide b1
  clear q1 b1
  gi_wp2_with fail
  gi_loopw [14] (fun i wr => ∃ (k : Nat) (F : Nat → Prop), k ≤ l.length ∧ i = .int .i64 (k : Int) ∧ QAt F wr w.heap.size f lt (srt lt (l.take k)) k ∧ (∀ b, F b → w.heap.size ≤ b) ∧ Below w.heap.size w wr) (fun i _ => l.length - (intOf i).toNat)
  case atStart => exact ⟨0, _, Nat.zero_le _, rfl, unhide HQ1, fun b e => Nat.le_of_eq e.symm, unhide HB1⟩
  case round =>
    clear HQ1 HB1
    obtain ⟨k, F, hk, rfl, hQ, hFb, hB⟩ := hrel
    by_cases hlt : k < l.length
    · have hkI : (k : Int) < (l.length : Int) := by omega
      have hT := (unhide HS).below (Below.mono hB (Nat.le_refl _))
      obtain ⟨b, off, cap', e0, _, _, hbl, hat, _⟩ := hT.at (by omega)
      simp only [Value.slice.injEq] at e0
      obtain ⟨rfl, _, rfl⟩ := e0
      obtain ⟨a1, a2⟩ := hat k hlt
      have hQ2 := hQ.below (w' := wr.alloc (.cells #[.int .i64 l[k].1, .string l[k].2] 26)) ((Below.refl _ _).alloc (Nat.le_refl _) _)
      have hsn : srt lt (l.take (k + 1)) = ins lt l[k] (srt lt (l.take k)) := by rw [List.take_succ_eq_append_getElem hlt, srt_snoc]
      have HSN := hide hsn
      have hlen : (srt lt (l.take k)).length = k := by rw [length_srt, List.length_take]; omega
      have HLEN := hide hlen
      have HQ2 := hide hQ2
      have HB := hide hB
      have HLT := hide hlt
      generalize l[k] = X at *
      clear hk hlt hQ hB hT hat hsn hlen hQ2
      gi_wp2_with fail
      refine ⟨trivial, (callsIn_wide.2 (qpush_any lt F _ w.heap.size k X f _ (unhide HQ2) (by rw [unhide HLEN]; have := unhide HL; have := unhide HLT; omega) (by have := unhide HL; have := unhide HLT; omega))).mono ?_⟩
      rintro e w3 ⟨rfl, F3, q3, m3⟩
      have hBs := (unhide HB).size
      have HE : Hid (QAt F3 w3 w.heap.size f lt (srt lt (l.take (k + 1))) (k + 1) ∧ (∀ b, F3 b → w.heap.size ≤ b) ∧ Below w.heap.size w w3) := by
        rw [← unhide HSN] at q3
        have hba : Below w.heap.size w (wr.alloc (.cells #[.int .i64 X.1, .string X.2] 26)) := (unhide HB).alloc hBs _
        refine ⟨q3, fun b hb => ?_, hba.trans (m3.keep.below hba.size hFb)⟩
        rcases m3.sub b hb with h | h
        · exact hFb b h
        · have := hba.size; omega
      clear q3 m3 hBs
      gi_wp2_with fail
      go_roundw
      case rel => exact ⟨k + 1, F3, unhide HLT, by go_num, unhide HE⟩
      case measure => (have := unhide HLT; simp [intOf]; omega)
    · have hke : k = l.length := by omega
      subst hke
      rw [List.take_length] at hQ
      have HQ := hide hQ
      have HB := hide hB
      have hBs := hB.size
      clear hk hlt hQ hB
      gi_wp2_with (first
        | (gi_at_make; refine wpListIn_make_own _ rfl _ _ 22 rfl 0 26 is (.agg #[.int .i64 0, .string ⟨#[]⟩]) 2 Try.underlying22 his hs0 hs1 .i64 .i64 (l.length : Int) l.length rfl rfl rfl (by have := unhide HL; rw [hs2]; omega) (by have := unhide HL; unfold maxLen; omega) (Nat.zero_le _) ?_))
      intro w3 hown3 hgrow3
      have hQ3 : QAt F w3 w.heap.size f lt (srt lt l) l.length := (unhide HQ).keep (G := fun _ => False) ⟨hgrow3.os, hgrow3.tape, hgrow3.output, hgrow3.size, fun k hk _ => hgrow3.block k hk (fun e => (nomatch e))⟩ (fun _ _ => id)
      have hB3 : Below w.heap.size w w3 := (unhide HB).grown hgrow3 hBs (fun k e => (nomatch e))
      have hs3 := hgrow3.size
      have hgl := (hown3.lt wr.heap.size rfl).2
      have hb4 : Below w3.heap.size w3 (w3.alloc (.cells #[.slice (some ⟨wr.heap.size, 0, none⟩) 0 l.length] 22)) := (Below.refl _ _).alloc (Nat.le_refl _) _
      have hFw : ∀ k, F k → k < wr.heap.size := (unhide HQ).lt
      have HQ4 := hide (hQ3.below hb4)
      have HO4 : Hid (Out w3.heap.size [] (QF w3.heap.size (.slice (some ⟨wr.heap.size, 0, none⟩) 0 l.length)) (w3.alloc (.cells #[.slice (some ⟨wr.heap.size, 0, none⟩) 0 l.length] 22))) := ⟨_, heap_alloc_new w3 _, owns_keep (F := fun _ => False) hown3 (Keep.of_below hb4) (fun _ _ => id), (by simp [Value.ownBlock]; omega), fun _ => Iff.rfl⟩
      have HB4 := hide (hB3.trans (hb4.mono hB3.size))
      clear hQ3 hB3 hown3 hgrow3 hb4 HQ HB
      gi_wp2_with fail
      refine ⟨trivial, (callsIn_wide.2 (qdrain_any _ (some ⟨w.heap.size, 0, none⟩))).mono ?_⟩
      rintro e w5 ⟨rfl, hBn, b5⟩
      have hQ5 := (unhide HQ4).below b5
      have hO5 := (Out.ok w3.heap.size).stays _ _ _ _ (fun _ => False) (unhide HO4) (Keep.of_below b5) (fun _ _ => id)
      have hB5 := (unhide HB4).trans (b5.mono (unhide HB4).size)
      have hs5 := b5.size
      rw [World.size_alloc] at hBn hs5
      clear b5 HQ4 HO4 HB4
      gi_wp2_with fail
      refine wpIn_drain (Bn := w3.heap.size + 1) (q := w.heap.size) (lt := lt) (f := f) (n := l.length) (Z := srt lt l) rfl rfl (Out w3.heap.size) (Out1 w3.heap.size (fun x bx => { tmps := #[.slice p l.length cap, f, undef, undef, .slice none 0 0, .pointer (some ⟨w.heap.size, 0, none⟩), undef, u7, .pointer (some ⟨w3.heap.size, 0, none⟩), .pointer (some ⟨bx, 0, none⟩), f, .pointer (some ⟨w.heap.size, 0, none⟩), .slice p l.length cap, .int .i64 (l.length : Int), .int .i64 (l.length : Int), .bool false, u16, u17, u18, u19, u20, u21, .slice p l.length cap, .int .i64 (l.length : Int), .slice (some ⟨wr.heap.size, 0, none⟩) 0 l.length, .pointer (some ⟨w.heap.size, 0, none⟩), .func (.func 28) #[] #[.pointer (some ⟨w3.heap.size + 1, 0, none⟩)], .agg #[.int .i64 x.1, .string x.2], undef, undef, undef, undef, undef], defers := [] })) (fun _ _ _ _ => False) (Out.ok _) (Out1.ok _ _) hBn hO5 hQ5 ?_ ?_ ?_ ?assign ?body ?ixok ?done ?stop
      · intro k hf hc
        have := hFw k hf
        rcases hc with hc | hc
        · omega
        · simp [Value.ownBlock] at hc; omega
      · intro hc
        rcases hc with hc | hc
        · omega
        · simp [Value.ownBlock] at hc; omega
      · intro hf
        have := hFw _ hf
        omega
      case assign =>
        intro ll pre C x W K hi hK
        gi_wp2
        have hb : Below W.heap.size W (W.alloc (.cells #[.int .i64 x.1, .string x.2] 26)) := (Below.refl _ _).alloc (Nat.le_refl _) _
        refine hK _ (fun k => C k ∨ k = W.heap.size) _ ⟨W.heap.size, C, (Out.ok _).stays _ _ _ _ (fun _ => False) hi (Keep.of_below hb) (fun _ _ => id), heap_alloc_new W _, fun hc => by have := (Out.ok _).lt _ _ _ hi _ hc; omega, fun _ => Iff.rfl, rfl⟩ ⟨Keep.of_below hb, fun k hk => ?_⟩
        rcases hk with hk | hk
        · exact Or.inl hk
        · exact Or.inr (by omega)
      case body =>
        rintro ll pre C x a' W ⟨bx, Ci, ⟨v, o1, o2, o3, o4⟩, hbx, hnb, hCC, rfl⟩ hlen
        have hlen2 : pre.length < 1048576 := by rw [length_srt] at hlen; have := unhide HL; omega
        have HLN := hide hlen2
        obtain ⟨pv, nv, cv, rfl⟩ : ∃ pv nv cv, v = .slice pv nv cv := by
          rcases o2.2 with ⟨h', _⟩ | ⟨g', cap', cur, h', _⟩
          · exact ⟨_, _, _, h'⟩
          · exact ⟨_, _, _, h'⟩
        have d0 : W.cell? ⟨w3.heap.size, 0, none⟩ = some (.slice pv nv cv) := by rw [cell_of_row W w3.heap.size _ _ _ (0, 0) o1]; rfl
        have x0 : W.cell? ⟨bx, 0, none⟩ = some (.int .i64 x.1) := by rw [cell_of_row W bx _ _ _ (0, 0) hbx]; rfl
        have x1 : W.cell? ⟨bx, 1, none⟩ = some (.string x.2) := by rw [cell_of_row W bx _ _ _ (0, 0) hbx]; rfl
        have hbW : Below W.heap.size W (W.alloc (.cells #[.int .i64 x.1, .string x.2] 26)) := (Below.refl _ _).alloc (Nat.le_refl _) _
        have HO2 := hide (owns_keep (F := fun _ => False) o2 (Keep.of_below hbW) (fun _ _ => id))
        have HO1 := hide o1
        have HO3 := hide o3
        have HCV : Hid (∀ k, QF w3.heap.size (.slice pv nv cv) k → C k) := fun k hk => (hCC k).2 (Or.inl ((o4 k).2 hk))
        have HBW := hide hbW
        have hBlW : w3.heap.size < W.heap.size := (Array.getElem?_eq_some_iff.1 o1).1
        clear hlen hlen2 o1 o2 o3 o4 hbx hnb hCC hbW
        gi_wp2_with (first
          | (gi_at_builtin; refine wpListIn_append_gen rfl (.tmp 28) (.tmp 30) 22 rfl 0 26 is (.agg #[.int .i64 0, .string ⟨#[]⟩]) Try.underlying22 his hs0 2 24 (by omega) hs1 hs2 rfl (.slice pv nv cv) pre.length (cellsI pre) rfl (unhide HO2) ⟨W.heap.size, 0, none⟩ 1 1 (iC x) rfl rfl (by intro j u hj; match j, hj with | 0, hj => (simp [iC] at hj; subst hj; simp [Addr.add]) | 1, hj => (simp [iC] at hj; subst hj; simp [Addr.add])) (by intro u hu; simp [iC] at hu; rcases hu with rfl | rfl <;> rfl) (by have := unhide HLN; unfold maxLen; omega) (by have := unhide HLN; omega) (Nat.zero_le _) ?_))
        intro v2 w2 hown2 hgrow2 hob2
        have hblk2 := (hgrow2.block w3.heap.size (by simp; omega) (fun e => unhide HO3 e.symm)).trans (((unhide HBW).block w3.heap.size hBlW).trans (unhide HO1))
        have y0 : w2.cell? ⟨w3.heap.size, 0, none⟩ = some (.slice pv nv cv) := by rw [cell_of_row w2 w3.heap.size _ _ _ (0, 0) hblk2]; rfl
        have yf : w2.frozen? ⟨w3.heap.size, 0, none⟩ = false := frozen_of_block hblk2
        rcases hown2.2 with ⟨_, h0⟩ | ⟨g2, cap2, cur2, e2, _⟩
        · exact absurd h0 (by omega)
        subst e2
        have HJ := hide (Out.more (unhide HO1) (unhide HO3) (unhide HCV) (unhide HBW) hown2 hgrow2 (by rw [World.size_alloc]; exact hob2))
        clear hown2 hgrow2 hob2 hblk2 d0 x0 x1
        gi_wp2_with fail
        exact ⟨_, unhide HJ⟩
      case ixok => exact fun _ => ⟨fun _ _ _ _ _ h _ _ => h, fun _ _ _ h => h.elim⟩
      case done =>
        rintro D C F2 W hD ⟨v, o1, o2, o3, o4⟩ hq2 hdj hnC hnF hm hK
        have d0 : W.cell? ⟨w3.heap.size, 0, none⟩ = some v := by rw [cell_of_row W w3.heap.size _ _ _ (0, 0) o1]; rfl
        gi_wp2
        refine ⟨by simp, .inl ⟨_, _, rfl, run_takeDeferred hK, ?_⟩⟩
        have hs5' := hB5.size
        have hC0b : ∀ k, (F k ∨ QF w3.heap.size (.slice (some ⟨wr.heap.size, 0, none⟩) 0 l.length) k) → w.heap.size ≤ k := fun k hk => by
          rcases hk with hk | hk | hk
          · exact hFb k hk
          · omega
          · simp [Value.ownBlock] at hk; omega
        have hp := keep_putObj W D (.deferred none)
        refine ⟨_, results_tmp rfl _ _ _, v, rfl, ?_, fun k hk => ?_, hB5.trans ((hm.keep.below hs5' hC0b).trans ?_)⟩
        · rw [length_srt] at o2
          exact owns_keep o2 hp (fun k hk e => hnC ((o4 D).2 (Or.inr (e ▸ hk))))
        · rcases hm.sub k (Or.inr ((o4 k).2 (Or.inr hk))) with h | h
          · exact hC0b k h
          · omega
        · exact ⟨hp.os, hp.tape, hp.output, hp.size, fun k hk => by
            by_cases hkl : k < W.heap.size
            · exact hp.block k hkl (fun e => by omega)
            · have := hm.keep.size; omega⟩
      case stop =>
        rintro D c pre x rest C F2 W _ _ h
        exact h.elim
end Go.Proofs.Ytbannlomemkjbab

/- Layer 8's statements: drained. -/
namespace Go.Proofs.Ytbannlomemkjbab
open Go.RowKit Go.Shelf
attribute [local go_sem] Oper.semAt_some

/-- What was told so far, and how much may be. -/
def OutM (B B3 M : Nat) (pre : List It) (C : Nat → Prop) (W : World) : Prop :=
  ∃ Ci, Out B pre Ci W ∧ W.heap[B3]? = some (.cells #[.int .i64 (M : Int)] 3 (0, 0)) ∧ ¬ Ci B3 ∧ (∀ k, C k ↔ Ci k ∨ k = B3) ∧ ∀ k, Ci k → B3 ≤ k
theorem OutM.ok (B B3 M : Nat) : JOk (OutM B B3 M) := by
  refine ⟨fun pre C W W' G h hk hn => ?_, fun pre C W h k hc => ?_⟩
  · obtain ⟨Ci, h1, h2, h3, h4, h5⟩ := h
    exact ⟨Ci, (Out.ok B).stays _ _ _ _ G h1 hk (fun k hc => hn k ((h4 k).2 (Or.inl hc))), (hk.block B3 (Array.getElem?_eq_some_iff.1 h2).1 (hn B3 ((h4 B3).2 (Or.inr rfl)))).trans h2, h3, h4, h5⟩
  · obtain ⟨Ci, h1, h2, h3, h4, h5⟩ := h
    rcases (h4 k).1 hc with h | h
    · exact (Out.ok B).lt _ _ _ h1 k h
    · rw [h]; exact (Array.getElem?_eq_some_iff.1 h2).1
def OutL (B B3 M : Nat) (pre : List It) (C : Nat → Prop) (W : World) : Prop := OutM B B3 M pre C W ∧ pre.length < M
theorem OutL.ok (B B3 M : Nat) : JOk (OutL B B3 M) := ⟨fun _ _ _ _ G h hk hn => ⟨(OutM.ok B B3 M).stays _ _ _ _ G h.1 hk hn, h.2⟩, fun _ _ _ h => (OutM.ok B B3 M).lt _ _ _ h.1⟩
def OutX (B B3 M : Nat) (c : Code) (pre : List It) (C : Nat → Prop) (W : World) : Prop := OutM B B3 M pre C W ∧ pre.length = M ∧ c = .exit 0
theorem OutX.ok (B B3 M : Nat) (c : Code) : JOk (OutX B B3 M c) := ⟨fun _ _ _ _ G h hk hn => ⟨(OutM.ok B B3 M).stays _ _ _ _ G h.1 hk hn, h.2⟩, fun _ _ _ h => (OutM.ok B B3 M).lt _ _ _ h.1⟩
def Out2 (B B3 M : Nat) (fa : It → Nat → Act) (pre : List It) (x : It) (a' : Act) (C : Nat → Prop) (W : World) : Prop :=
  ∃ bx Ci, OutL B B3 M pre Ci W ∧ W.heap[bx]? = some (.cells #[.int .i64 x.1, .string x.2] 26 (0, 0)) ∧ ¬ Ci bx ∧ (∀ k, C k ↔ Ci k ∨ k = bx) ∧ a' = fa x bx
theorem Out2.ok (B B3 M : Nat) (fa : It → Nat → Act) (x : It) (a' : Act) : JOk (fun pre => Out2 B B3 M fa pre x a') := by
  refine ⟨fun pre C W W' G h hk hn => ?_, fun pre C W h k hc => ?_⟩
  · obtain ⟨bx, Ci, h1, h2, h3, h4, h5⟩ := h
    exact ⟨bx, Ci, (OutL.ok B B3 M).stays _ _ _ _ G h1 hk (fun k hc => hn k ((h4 k).2 (Or.inl hc))), (hk.block bx (Array.getElem?_eq_some_iff.1 h2).1 (hn bx ((h4 bx).2 (Or.inr rfl)))).trans h2, h3, h4, h5⟩
  · obtain ⟨bx, Ci, h1, h2, h3, h4, h5⟩ := h
    rcases (h4 k).1 hc with h | h
    · exact (OutL.ok B B3 M).lt _ _ _ h1 k h
    · rw [h]; exact (Array.getElem?_eq_some_iff.1 h2).1

/-- What drained leaves. -/
def DrainedPost (lt : It → It → Bool) (F0 : Nat → Prop) (w : World) (q n M : Nat) (f : Value) (Z : List It) (v : Value) (w' : World) : Prop :=
  ∃ F, w'.ownsRow 0 26 2 v (Z.take M).length (cellsI (Z.take M)) ∧ (∀ k, v.ownBlock = some k → w.heap.size ≤ k ∧ ¬ F k) ∧ QAt F w' q f lt (Z.drop M) n ∧ Moves F0 F w w'

set_option maxRecDepth 20000 in
set_option maxHeartbeats 2000000 in
theorem drained_any (lt : It → It → Bool) (F0 : Nat → Prop) (w : World) (q n M : Nat) (f : Value) (Z : List It) (hQ : QAt F0 w q f lt Z n) (hZ : Z.length ≤ 1048576) (hM : 0 < M) (hM2 : M ≤ 1048580) :
    Calls Try.prog 10 #[.pointer (some ⟨q, 0, none⟩), .int .i64 (M : Int)] w fun e w' => ∃ v, e = .returned (.tuple #[v, .bool true]) ∧ DrainedPost lt F0 w q n M f Z v w' := by
  refine (callsIn_wide (n := 3)).1 ?_
  refine callsIn_of_wp_marks Try.func10 rfl trivial ?_ rfl
  simp only [Try.ntmps10, List.size_toArray, List.length_cons, List.length_nil, Nat.reduceAdd, Nat.reduceSub, Array.replicate_succ, Array.replicate_zero, List.push_toArray, List.append_toArray, List.nil_append, List.cons_append]
  obtain ⟨is, his, hs0, hs1, hs2⟩ := info_parts Try.info26
  have hnf : ∀ (k : Nat) (a b : Array Value) (W : World), (binOp .eql 52 (.func (.func k) a b) .nilFunc).run Try.prog W = .ok (.bool false) W := fun _ _ _ _ => rfl
  have hb0 : Below w.heap.size w (w.alloc (.cells #[.int .i64 (M : Int)] 3)) := (Below.refl _ _).alloc (Nat.le_refl _) _
  have HQ0 := hide (hQ.below hb0)
  have hFw := hQ.lt
  have HB0 := hide hb0
  have HN0 := hide (heap_alloc_new w (.cells #[.int .i64 (M : Int)] 3))
  have HZ := hide hZ
  have HM := hide hM
  have hMI : (M : Int) ≤ 1048580 := by omega
  have hMI0 : (0 : Int) < (M : Int) := by omega
  clear hQ hb0 hZ hM hM2
  gi_wp2_with fail
  refine ⟨trivial, (callsIn_wide.2 (qdrain_any _ (some ⟨q, 0, none⟩))).mono ?_⟩
  rintro e w1 ⟨rfl, hBn, b1⟩
  rw [World.size_alloc] at hBn
  have hQ1 := (unhide HQ0).below b1
  have hN1 := (b1.block w.heap.size (by simp)).trans (unhide HN0)
  have hB1 := (unhide HB0).trans (b1.mono (unhide HB0).size)
  have hs1' := b1.size
  rw [World.size_alloc] at hs1'
  have hBl := World.block_lt_of_cell? w1 _ hBn
  have hBl' : w.heap.size + 1 < w1.heap.size := hBl
  have hb2 : Below w1.heap.size w1 (w1.alloc (.cells #[.slice none 0 0] 22)) := (Below.refl _ _).alloc (Nat.le_refl _) _
  have HQ2 := hide (hQ1.below hb2)
  have HN2 := hide ((hb2.block w.heap.size (by omega)).trans hN1)
  have HBN2 := hide ((hb2.cell (p := ⟨w.heap.size + 1, 0, none⟩) hBl).trans hBn)
  have HO2 : Hid (Out w1.heap.size [] (QF w1.heap.size (.slice none 0 0)) (w1.alloc (.cells #[.slice none 0 0] 22))) := ⟨_, heap_alloc_new w1 _, World.ownsRow_nil _ _ _ _, (by simp [Value.ownBlock]), fun _ => Iff.rfl⟩
  have HB2 := hide (hB1.trans (hb2.mono hB1.size))
  clear b1 hQ1 hN1 hBn hBl hb2 HQ0 HB0 HN0
  gi_wp2_with fail
  have hO2 : OutL w1.heap.size w.heap.size M [] (fun k => QF w1.heap.size (.slice none 0 0) k ∨ k = w.heap.size) (w1.alloc (.cells #[.slice none 0 0] 22)) := ⟨⟨_, unhide HO2, unhide HN2, (fun h => by
    rcases h with h | h
    · omega
    · simp [Value.ownBlock] at h), fun _ => Iff.rfl, fun k hk => by
    rcases hk with hk | hk
    · omega
    · simp [Value.ownBlock] at hk⟩, unhide HM⟩
  refine wpIn_drain (Bn := w.heap.size + 1) (q := q) (lt := lt) (f := f) (n := n) (Z := Z) rfl rfl (OutL w1.heap.size w.heap.size M) (Out2 w1.heap.size w.heap.size M (fun x bx => { tmps := #[.pointer (some ⟨q, 0, none⟩), .int .i64 (M : Int), undef, .pointer (some ⟨w.heap.size, 0, none⟩), .slice none 0 0, .bool false, .func (.func 28) #[] #[.pointer (some ⟨w.heap.size + 1, 0, none⟩)], .pointer (some ⟨w1.heap.size, 0, none⟩), .pointer (some ⟨bx, 0, none⟩), .pointer (some ⟨q, 0, none⟩), .func (.func 28) #[] #[.pointer (some ⟨w.heap.size + 1, 0, none⟩)], .func (.func 28) #[] #[.pointer (some ⟨w.heap.size + 1, 0, none⟩)], .bool false, .func (.func 28) #[] #[.pointer (some ⟨w.heap.size + 1, 0, none⟩)], .agg #[.int .i64 x.1, .string x.2], undef, undef, undef, undef, undef, undef, undef, undef, undef, undef, undef, undef, undef], defers := [] })) (OutX w1.heap.size w.heap.size M) (OutL.ok _ _ _) (Out2.ok _ _ _ _) (unhide HBN2) hO2 (unhide HQ2) ?_ ?_ ?_ ?assign ?body ?ixok ?done ?stop
  · intro k hf hc
    have := hFw k hf
    rcases hc with (hc | hc) | hc
    · omega
    · simp [Value.ownBlock] at hc
    · omega
  · intro hc
    rcases hc with (hc | hc) | hc
    · omega
    · simp [Value.ownBlock] at hc
    · omega
  · intro hf
    have := hFw _ hf
    omega
  case assign =>
    intro ll pre C x W K hi hK
    gi_wp2
    have hb : Below W.heap.size W (W.alloc (.cells #[.int .i64 x.1, .string x.2] 26)) := (Below.refl _ _).alloc (Nat.le_refl _) _
    refine hK _ (fun k => C k ∨ k = W.heap.size) _ ⟨W.heap.size, C, (OutL.ok _ _ _).stays _ _ _ _ (fun _ => False) hi (Keep.of_below hb) (fun _ _ => id), heap_alloc_new W _, fun hc => by have := (OutL.ok _ _ _).lt _ _ _ hi _ hc; omega, fun _ => Iff.rfl, rfl⟩ ⟨Keep.of_below hb, fun k hk => ?_⟩
    rcases hk with hk | hk
    · exact Or.inl hk
    · exact Or.inr (by omega)
  case body =>
    rintro ll pre C x a' W ⟨bx, Cl, ⟨⟨Ci, ⟨v, o1, o2, o3, o4⟩, oM, oN, oC, oL⟩, hlM⟩, hbx, hnb, hCC, rfl⟩ hlen
    have hlen2 : pre.length < 1048576 := by have := unhide HZ; omega
    have HLN := hide hlen2
    have HLM := hide hlM
    obtain ⟨pv, cv, rfl⟩ : ∃ pv cv, v = .slice pv pre.length cv := by
      rcases o2.2 with ⟨h', h0⟩ | ⟨g', cap', cur, h', _⟩
      · exact ⟨none, 0, by rw [h', h0]⟩
      · exact ⟨_, _, h'⟩
    have d0 : W.cell? ⟨w1.heap.size, 0, none⟩ = some (.slice pv pre.length cv) := by rw [cell_of_row W w1.heap.size _ _ _ (0, 0) o1]; rfl
    have dM : W.cell? ⟨w.heap.size, 0, none⟩ = some (.int .i64 (M : Int)) := by rw [cell_of_row W w.heap.size _ _ _ (0, 0) oM]; rfl
    have x0 : W.cell? ⟨bx, 0, none⟩ = some (.int .i64 x.1) := by rw [cell_of_row W bx _ _ _ (0, 0) hbx]; rfl
    have x1 : W.cell? ⟨bx, 1, none⟩ = some (.string x.2) := by rw [cell_of_row W bx _ _ _ (0, 0) hbx]; rfl
    have hbW : Below W.heap.size W (W.alloc (.cells #[.int .i64 x.1, .string x.2] 26)) := (Below.refl _ _).alloc (Nat.le_refl _) _
    have HO2' := hide (owns_keep (F := fun _ => False) o2 (Keep.of_below hbW) (fun _ _ => id))
    have HO1 := hide o1
    have HO3 := hide o3
    have HOM := hide oM
    have HON : Hid (¬ QF w1.heap.size (.slice pv pre.length cv) w.heap.size) := fun h => oN ((o4 _).2 h)
    have HCV : Hid (∀ k, QF w1.heap.size (.slice pv pre.length cv) k → C k) := fun k hk => (hCC k).2 (Or.inl ((oC k).2 (Or.inl ((o4 k).2 hk))))
    have HOL : Hid (∀ k, QF w1.heap.size (.slice pv pre.length cv) k → w.heap.size ≤ k) := fun k hk => oL k ((o4 k).2 hk)
    have HCM : Hid (C w.heap.size) := (hCC _).2 (Or.inl ((oC _).2 (Or.inr rfl)))
    have HBW := hide hbW
    have hBlW : w1.heap.size < W.heap.size := (Array.getElem?_eq_some_iff.1 o1).1
    have hlMI : (pre.length : Int) < (M : Int) := by omega
    have hlNI : (pre.length : Int) ≤ 1048576 := by omega
    clear hlen hlen2 o1 o2 o3 o4 hbx hnb hCC hbW oM oN oC hlM oL
    gi_wp2_with (first
      | (gi_at_builtin; refine wpListIn_append_gen rfl (.tmp 19) (.tmp 21) 22 rfl 0 26 is (.agg #[.int .i64 0, .string ⟨#[]⟩]) Try.underlying22 his hs0 2 24 (by omega) hs1 hs2 rfl (.slice pv pre.length cv) pre.length (cellsI pre) rfl (unhide HO2') ⟨W.heap.size, 0, none⟩ 1 1 (iC x) rfl rfl (by intro j u hj; match j, hj with | 0, hj => (simp [iC] at hj; subst hj; simp [Addr.add]) | 1, hj => (simp [iC] at hj; subst hj; simp [Addr.add])) (by intro u hu; simp [iC] at hu; rcases hu with rfl | rfl <;> rfl) (by have := unhide HLN; unfold maxLen; omega) (by have := unhide HLN; omega) (Nat.zero_le _) ?_))
    intro v2 w2 hown2 hgrow2 hob2
    have hblk2 := (hgrow2.block w1.heap.size (by simp; omega) (fun e => unhide HO3 e.symm)).trans (((unhide HBW).block w1.heap.size hBlW).trans (unhide HO1))
    have hMb2 := (hgrow2.block w.heap.size (by simp; omega) (fun e => unhide HON (Or.inr e.symm))).trans (((unhide HBW).block w.heap.size (by omega)).trans (unhide HOM))
    have y0 : w2.cell? ⟨w1.heap.size, 0, none⟩ = some (.slice pv pre.length cv) := by rw [cell_of_row w2 w1.heap.size _ _ _ (0, 0) hblk2]; rfl
    have yM : w2.cell? ⟨w.heap.size, 0, none⟩ = some (.int .i64 (M : Int)) := by rw [cell_of_row w2 w.heap.size _ _ _ (0, 0) hMb2]; rfl
    have yf : w2.frozen? ⟨w1.heap.size, 0, none⟩ = false := frozen_of_block hblk2
    rcases hown2.2 with ⟨_, h0⟩ | ⟨g2, cap2, cur2, e2, _⟩
    · exact absurd h0 (by omega)
    subst e2
    have hJ := Out.more (unhide HO1) (unhide HO3) (unhide HCV) (unhide HBW) hown2 hgrow2 (by rw [World.size_alloc]; exact hob2)
    have hne : ¬ w1.heap.size = w.heap.size := by omega
    have hg2 : ¬ QF w1.heap.size (.slice (some ⟨g2, 0, none⟩) (pre.length + 1) cap2) w.heap.size := fun h => by
      rcases h with h | h
      · exact hne h.symm
      · rcases hob2 with e | e
        · exact unhide HON (Or.inr (e ▸ h))
        · rw [e] at h; simp at h; omega
    have HJ : Hid (OutM w1.heap.size w.heap.size M (pre ++ [x]) (fun k => QF w1.heap.size (.slice (some ⟨g2, 0, none⟩) (pre.length + 1) cap2) k ∨ k = w.heap.size) (w2.setCell ⟨w1.heap.size, 0, none⟩ (.slice (some ⟨g2, 0, none⟩) (pre.length + 1) cap2)) ∧ Moves C (fun k => QF w1.heap.size (.slice (some ⟨g2, 0, none⟩) (pre.length + 1) cap2) k ∨ k = w.heap.size) W (w2.setCell ⟨w1.heap.size, 0, none⟩ (.slice (some ⟨g2, 0, none⟩) (pre.length + 1) cap2))) := by
      refine ⟨⟨_, hJ.1, ?_, hg2, fun _ => Iff.rfl, fun k hk => ?_⟩, hJ.2.keep, fun k hk => ?_⟩
      · exact (heap_setCell_other w2 ⟨w1.heap.size, 0, none⟩ w.heap.size _ (fun e => hne (by simp at e; exact e.symm))).trans hMb2
      · rcases hk with hk | hk
        · omega
        · rcases hob2 with e | e
          · exact unhide HOL k (Or.inr (e ▸ hk))
          · rw [e] at hk; simp at hk; omega
      · rcases hk with hk | hk
        · exact hJ.2.sub k hk
        · exact Or.inl (hk ▸ unhide HCM)
    clear hown2 hgrow2 hob2 hblk2 d0 x0 x1 dM hMb2 hJ hg2
    by_cases heq : pre.length + 1 = M
    · have heqI : (pre.length : Int) + 1 = (M : Int) := by omega
      have hbq : ((pre.length : Int) + 1 == (M : Int)) = true := by rw [beq_iff_eq]; exact heqI
      have HEQ := hide heq
      clear heq heqI
      gi_wp2_with fail
      exact ⟨_, ⟨(unhide HJ).1, by simp; exact unhide HEQ, rfl⟩, (unhide HJ).2⟩
    · have hbq : ((pre.length : Int) + 1 == (M : Int)) = false := by rw [beq_eq_false_iff_ne]; omega
      have HNE := hide heq
      clear heq
      gi_wp2_with fail
      exact ⟨_, ⟨(unhide HJ).1, by have := unhide HLM; have := unhide HNE; simp; omega⟩, (unhide HJ).2⟩
  case ixok => exact OutX.ok _ _ _
  case done =>
    rintro D C F2 W hD ⟨⟨Ci, ⟨v, o1, o2, o3, o4⟩, oM, oN, oc, oL⟩, hlM⟩ hq2 hdj hnC hnF hm hK
    have d0 : W.cell? ⟨w1.heap.size, 0, none⟩ = some v := by rw [cell_of_row W w1.heap.size _ _ _ (0, 0) o1]; rfl
    have HX : Hid (DrainedPost lt F0 w q n M f Z v (W.putObj D (.deferred none))) := by
      have hp := keep_putObj W D (.deferred none)
      have hs2 := (unhide HB2).size
      have hD' : w1.heap.size < D := by have := hD; rw [World.size_alloc] at this; omega
      have hC0b : ∀ k, (F0 k ∨ (QF w1.heap.size (.slice none 0 0) k ∨ k = w.heap.size)) → F0 k ∨ w.heap.size ≤ k := fun k hk => by
        rcases hk with hk | (hk | hk) | hk
        · exact Or.inl hk
        · exact Or.inr (by omega)
        · simp [Value.ownBlock] at hk
        · exact Or.inr (by omega)
      refine ⟨F2, ?_, fun k hk => ⟨oL k ((o4 k).2 (Or.inr hk)), fun hf => hdj k hf ((oc k).2 (Or.inl ((o4 k).2 (Or.inr hk))))⟩, ?_, ((Keep.of_below (F := F0) (unhide HB2)).trans hm.keep (fun k hk => hC0b k hk)).trans hp (fun k e => Or.inr (by omega)), fun k hk => ?_⟩
      · rw [List.take_of_length_le (Nat.le_of_lt hlM)]
        exact owns_keep o2 hp (fun k hk e => hnC ((oc D).2 (Or.inl ((o4 D).2 (Or.inr (e ▸ hk))))))
      · rw [List.drop_of_length_le (Nat.le_of_lt hlM)]
        exact hq2.keep hp (fun k hf e => hnF (e ▸ hf))
      · rcases hm.sub k (Or.inl hk) with h | h
        · exact hC0b k h
        · exact Or.inr (by omega)
    have HK := hide hK
    clear hq2 hdj hnC hnF hm hK o1 o2 o3 o4 oM oN oc oL
    gi_wp2
    refine ⟨by simp, .inl ⟨_, _, rfl, run_takeDeferred (unhide HK), ?_⟩⟩
    exact ⟨.tuple #[v, .bool true], (by simp [results, Try.results10, go_sem]), v, rfl, unhide HX⟩
  case stop =>
    rintro D c pre x rest C F2 W hD hZe ⟨⟨Ci, ⟨v, o1, o2, o3, o4⟩, oM, oN, oc, oL⟩, hlM, rfl⟩ hq2 hdj hnC hnF hm hK
    have hZ2 : Z = (pre ++ [x]) ++ rest := by rw [hZe]; simp
    have hZt : Z.take M = pre ++ [x] := by rw [hZ2, ← hlM, List.take_left]
    have hZd : Z.drop M = rest := by rw [hZ2, ← hlM, List.drop_left]
    have d0 : W.cell? ⟨w1.heap.size, 0, none⟩ = some v := by rw [cell_of_row W w1.heap.size _ _ _ (0, 0) o1]; rfl
    have HX : Hid (DrainedPost lt F0 w q n M f Z v (W.putObj D (.deferred none))) := by
      have hp := keep_putObj W D (.deferred none)
      have hs2 := (unhide HB2).size
      have hD' : w1.heap.size < D := by have := hD; rw [World.size_alloc] at this; omega
      have hC0b : ∀ k, (F0 k ∨ (QF w1.heap.size (.slice none 0 0) k ∨ k = w.heap.size)) → F0 k ∨ w.heap.size ≤ k := fun k hk => by
        rcases hk with hk | (hk | hk) | hk
        · exact Or.inl hk
        · exact Or.inr (by omega)
        · simp [Value.ownBlock] at hk
        · exact Or.inr (by omega)
      refine ⟨F2, ?_, fun k hk => ⟨oL k ((o4 k).2 (Or.inr hk)), fun hf => hdj k hf ((oc k).2 (Or.inl ((o4 k).2 (Or.inr hk))))⟩, ?_, ((Keep.of_below (F := F0) (unhide HB2)).trans hm.keep (fun k hk => hC0b k hk)).trans hp (fun k e => Or.inr (by omega)), fun k hk => ?_⟩
      · rw [hZt]
        exact owns_keep o2 hp (fun k hk e => hnC ((oc D).2 (Or.inl ((o4 D).2 (Or.inr (e ▸ hk))))))
      · rw [hZd]
        exact hq2.keep hp (fun k hf e => hnF (e ▸ hf))
      · rcases hm.sub k (Or.inl hk) with h | h
        · exact hC0b k h
        · exact Or.inr (by omega)
    have HK := hide hK
    clear hZe hZ2 hZt hZd hlM hq2 hdj hnC hnF hm hK o1 o2 o3 o4 oM oN oc oL
    gi_wp2
    refine ⟨by simp, .inl ⟨_, _, rfl, run_takeDeferred (unhide HK), ?_⟩⟩
    exact ⟨.tuple #[v, .bool true], (by simp [results, Try.results10, go_sem]), v, rfl, unhide HX⟩
end Go.Proofs.Ytbannlomemkjbab
