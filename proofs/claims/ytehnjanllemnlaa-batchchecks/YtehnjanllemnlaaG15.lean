/- Texts of ours, one behind the other: BatWr2, BatWr3. -/
import Derived.Test.YtehnjanllemnlaaG13
import Derived.Test.YtehnjanllemnlaaG14
import Derived.Lib.ConvBytes
/- The landed package batch: a change as bytes. -/
namespace Go.Proofs.Ytehnjanllemnlaa
open Go.RowKit

theorem alloc_new (w : World) (o : Obj) : (w.alloc o).heap[w.heap.size]? = some o := by show (w.heap.push o)[w.heap.size]? = some o; simp
theorem alloc_new' {w : World} {k : Nat} (h : k = w.heap.size) (o : Obj) : (w.alloc o).heap[k]? = some o := by subst h; exact alloc_new w o
theorem alloc_old {w : World} {k : Nat} (h : k < w.heap.size) (o : Obj) : (w.alloc o).heap[k]? = w.heap[k]? := ((Below.refl w.heap.size w).alloc (Nat.le_refl _) o).block k h
theorem owns_down {w : World} {base base' e sz : Nat} {v : Value} {n : Nat} {xs : List Value} (h : w.ownsRow base' e sz v n xs) (hb : base ≤ base') : w.ownsRow base e sz v n xs :=
  ⟨h.1, h.2.elim Or.inl fun ⟨g, cap, cur, h1, h2, h3⟩ => Or.inr ⟨g, cap, cur, h1, Nat.le_trans hb h2, h3⟩⟩
/-- '[]byte(s)': bytes of their own. -/
theorem conv_text (w : World) (s : ByteArray) (hs : s.size ≤ 140737488351232) : ∃ c w', (convert 9 30 (.string s)).run Try.prog w = .ok (.slice (some ⟨w.heap.size, 0, none⟩) s.size c) w' ∧
    Row w' (.slice (some ⟨w.heap.size, 0, none⟩) s.size c) s.toList ∧ Below w.heap.size w w' := by
  refine ⟨_, _, Go.Lib.run_convert_string_bytes w 9 30 5 s Try.underlying9 Try.underlying30 Try.underlying5, ?_, ?_⟩
  · refine ⟨_, _, by rw [bl_len], by rw [bl_len]; exact grownCap_ge _ _ _ _, grownCap_le_maxLen _ _ _ _ (by unfold maxLen; omega), by simp, ?_⟩
    right
    refine ⟨_, _, rfl, fun j hj => ?_⟩
    rw [bl_len] at hj
    rw [Nat.zero_add, Go.Lib.bytesWorld_cell w _ s j hj]
    unfold B
    congr 3
    rw [bl_get s j hj]
    have : j < s.data.size := hj
    simp only [List.getD, Array.getElem?_toList]
    rw [Array.getElem?_eq_getElem this]
    rfl
  · refine ⟨?_, ?_, ?_, by rw [Go.Lib.bytesWorld_size]; omega, fun k hk => Go.Lib.bytesWorld_at_old w _ s k hk⟩
    all_goals rfl
theorem row_one (w : World) (e : TypeId) (u : UInt8) : Row (w.alloc (.cells #[.int .u8 (u.toNat : Int)] e)) (.slice (some ⟨w.heap.size, 0, none⟩) 1 1) [u] :=
  row_of_block (g := w.heap.size) (e := e) (bs := [u]) (by show (w.heap.push _)[w.heap.size]? = _; simp [B]) 0 1 1 (by simp) (Nat.le_refl _) (by unfold maxLen; omega)
theorem ul_of {w : World} {g e : Nat} {l : List Nat} (h : w.heap[g]? = some (.cells (l.map fun (n : Nat) => Value.int .u64 (n : Int)).toArray e (0, 0))) (hl : l.length ≤ 1000) : UL w (.slice (some ⟨g, 0, none⟩) l.length l.length) l := by
  refine ⟨_, _, rfl, Nat.le_refl _, by unfold maxLen; omega, by simp, by simp, Or.inr ⟨g, 0, rfl, fun j v hj => ?_⟩⟩
  rw [Nat.zero_add, cell_of_row w g j _ e (0, 0) h, List.getElem?_toArray]
  exact hj

set_option maxRecDepth 20000 in
set_option maxHeartbeats 2000000 in
theorem bchange_any (c : Chg) (w : World) (hm : mayChg c = true) (h64 : c.ser < 18446744073709551616) :
    Calls Try.prog 60 #[chgV c] w fun e w' => ∃ t, e = .returned t ∧ w'.ownsRow w.heap.size 5 1 t (chgB c).length ((chgB c).map B) ∧ Below w.heap.size w w' := by
  obtain ⟨i0, hi, hz0, hz1, hz2⟩ := info_parts Try.info5
  obtain ⟨key, ser, pos, len, del⟩ := c
  simp only [mayChg, Bool.and_eq_true, kmayB, decide_eq_true_eq] at hm h64
  obtain ⟨⟨hk1, hk2⟩, hm2⟩ := hm
  obtain ⟨P, hP⟩ : ∃ P : Nat, P = pos.toNat := ⟨_, rfl⟩
  obtain ⟨L, hL⟩ : ∃ L : Nat, L = len.toNat := ⟨_, rfl⟩
  unfold chgV chgB
  simp only
  rw [← hP, ← hL]
  have hlk := bl_len key
  have hvk := (varF_len 9 key.toList.length).2
  obtain ⟨o, ho⟩ : ∃ o, o = Obj.cells #[.string key, .int .u64 (ser : Int), .int .i64 pos, .int .i64 len, .bool del] 54 := ⟨_, rfl⟩
  have hb0 : Below w.heap.size w (w.alloc o) := (Below.refl _ _).alloc (Nat.le_refl _) _
  have hblk : (w.alloc o).heap[w.heap.size]? = some o := by show (w.heap.push o)[w.heap.size]? = some o; simp
  obtain ⟨cc, W1, hcv, hrow, hb1⟩ := conv_text (w.alloc o) key (by omega)
  have hs0 : (w.alloc o).heap.size = w.heap.size + 1 := by simp
  have hblk1 := (hb1.block w.heap.size (by omega)).trans hblk
  have hB1 := hb0.trans (hb1.mono hb0.size)
  have HT := hide (text_any _ _ W1 hrow (by omega))
  generalize hTX : varF 9 key.toList.length ++ key.toList = TX at *
  have hTL : TX.length ≤ 74 := by rw [← hTX, List.length_append]; omega
  rw [hs0] at hcv HT
  have HS1 := hide hB1.size
  clear hb0 hblk hrow hb1 hTX hvk hs0
  cases del with
  | true =>
    rw [ho] at hcv
    have HB1 := hide hB1
    go_enter Try.func60, Try.ntmps60
    go_wp2_with fail
    refine Calls.mono (unhide HT) ?_
    rintro e w2 ⟨t, rfl, hown2, hb2⟩
    have hB2 := (unhide HB1).trans (hb2.mono (unhide HB1).size)
    have hblk2 := (hb2.block w.heap.size (Array.getElem?_eq_some_iff.1 hblk1).1).trans hblk1
    rw [ho] at hblk2
    have k4 := cell_of_row w2 w.heap.size 4 _ _ (0, 0) hblk2
    simp only [List.getElem?_toArray, List.getElem?_cons_succ, List.getElem?_cons_zero] at k4
    have hown2' := owns_down hown2 (unhide HS1)
    obtain ⟨q2, c2, l2, rfl, rfl⟩ := (row_of_owns hown2').shape
    have HO2 := hide hown2'
    have HB2 := hide hB2
    have hbs : Below w2.heap.size w2 (w2.alloc (.cells #[.int .u8 ((1 : UInt8).toNat : Int)] 5)) := (Below.refl _ _).alloc (Nat.le_refl _) _
    have hB3 := hB2.trans (hbs.mono hB2.size)
    have hown3 := owns_below hown2' hbs
    have hr1 := row_one w2 5 1
    rw [show ((1 : UInt8).toNat : Int) = 1 from rfl] at hB3 hown3 hr1
    have hsz3 := hB3.size
    clear hown2 hown2' hb2 hblk2 hblk1 hcv HT hbs
    go_wp2_with (at_builtin; refine wpList_append_row rfl _ _ 30 rfl w.heap.size 5 i0 (.int .u8 0) Try.underlying30 hi hz0 hz1 hz2 rfl _ _ _ rfl hown3 _ [1] rfl hr1 (by simp only [List.length_cons, List.length_nil]; omega) hsz3 ?_)
    intro v4 w4 hown4 hgrow4
    have HB4 : Hid (Below w.heap.size w w4) := hB3.grown hgrow4 hsz3 (fun k hk => (hown3.lt k hk).1)
    have HO4 := hide hown4
    clear hown4 hgrow4 hown3 hB3 hr1 HO2 HB2 HB1
    go_wp2
    go_ret
    refine ⟨_, rfl, ?_, unhide HB4⟩
    exact unhide HO4
  | false =>
    simp only [Bool.false_eq_true, if_false, mayRef, Bool.and_eq_true, decide_eq_true_eq] at hm2
    obtain ⟨⟨hs1, hp1, hp2⟩, hl1, hl2⟩ := hm2
    obtain rfl : pos = (P : Int) := by omega
    obtain rfl : len = (L : Int) := by omega
    rw [ho] at hcv
    have HB1 := hide hB1
    have hwP : IntKind.u64.wrap (P : Int) = P := by rw [IntKind.wrap_u64]; omega
    have hwL : IntKind.u64.wrap (L : Int) = L := by rw [IntKind.wrap_u64]; omega
    have HNS : Hid (∀ x ∈ [ser, P, L], x < 18446744073709551616) := by
      intro x hx
      simp only [List.mem_cons, List.not_mem_nil, or_false] at hx
      rcases hx with rfl | rfl | rfl
      · exact h64
      · omega
      · omega
    clear h64 hs1 hp1 hp2 hl1 hl2 hP hL
    go_enter Try.func60, Try.ntmps60
    go_wp2_with fail
    refine Calls.mono (unhide HT) ?_
    rintro e w2 ⟨t, rfl, hown2, hb2⟩
    have hB2 := (unhide HB1).trans (hb2.mono (unhide HB1).size)
    have hblk2 := (hb2.block w.heap.size (Array.getElem?_eq_some_iff.1 hblk1).1).trans hblk1
    have hlt2 := (Array.getElem?_eq_some_iff.1 hblk2).1
    rw [ho] at hblk2
    have k4 := cell_of_row w2 w.heap.size 4 _ _ (0, 0) hblk2
    simp only [List.getElem?_toArray, List.getElem?_cons_succ, List.getElem?_cons_zero] at k4
    have hown2' := owns_down hown2 (unhide HS1)
    obtain ⟨q2, c2, l2, rfl, rfl⟩ := (row_of_owns hown2').shape
    have hbs : Below w2.heap.size w2 (w2.alloc (.cells #[.int .u8 ((0 : UInt8).toNat : Int)] 5)) := (Below.refl _ _).alloc (Nat.le_refl _) _
    have hB3 := hB2.trans (hbs.mono hB2.size)
    have hown3 := owns_below hown2' hbs
    have hr1 := row_one w2 5 0
    have hblk3 := (hbs.block w.heap.size hlt2).trans hblk2
    rw [show ((0 : UInt8).toNat : Int) = 0 from rfl] at hB3 hown3 hr1 hblk3
    have hsz3 := hB3.size
    have HBK := hide (owns_below' (b := w.heap.size + 1) hown3 (Below.refl _ _))
    have hne : ∀ k, (Value.slice q2 TX.length c2).ownBlock = some k → k ≠ w.heap.size := fun k hk e => by
      have := (hown2.lt k hk).1
      have h2 := unhide HS1
      have h3 := (Array.getElem?_eq_some_iff.1 hblk1).1
      omega
    have HNE := hide hne
    have HB3 := hide hblk3
    clear hown2 hown2' hb2 hblk2 hcv HT hbs HBK hne hblk3
    go_wp2_with (at_builtin; refine wpList_append_row rfl _ _ 30 rfl w.heap.size 5 i0 (.int .u8 0) Try.underlying30 hi hz0 hz1 hz2 rfl _ _ _ rfl hown3 _ [0] rfl hr1 (by simp only [List.length_cons, List.length_nil]; omega) hsz3 ?_)
    intro v4 w4 hown4 hgrow4
    have hB4 : Below w.heap.size w w4 := hB3.grown hgrow4 hsz3 (fun k hk => (hown3.lt k hk).1)
    have hblk4 := (hgrow4.block w.heap.size (Array.getElem?_eq_some_iff.1 (unhide HB3)).1 (fun e => unhide HNE w.heap.size e.symm rfl)).trans (unhide HB3)
    have m1 := cell_of_row w4 w.heap.size 1 _ _ (0, 0) hblk4
    have m2 := cell_of_row w4 w.heap.size 2 _ _ (0, 0) hblk4
    have m3 := cell_of_row w4 w.heap.size 3 _ _ (0, 0) hblk4
    simp only [List.getElem?_toArray, List.getElem?_cons_succ, List.getElem?_cons_zero] at m1 m2 m3
    obtain ⟨XS, hXS⟩ : ∃ XS, XS = TX ++ [0] := ⟨_, rfl⟩
    replace hown4 : w4.ownsRow w.heap.size 5 1 v4 XS.length (XS.map B) := by rw [hXS, List.length_append, List.map_append]; exact hown4
    have hxl : XS.length ≤ 75 := by rw [hXS, List.length_append]; simp only [List.length_cons, List.length_nil]; omega
    have HXS := hide hXS
    obtain ⟨q4, c4, l4, rfl, rfl⟩ := (row_of_owns hown4).shape
    clear hXS
    have HO4 := hide hown4
    have HB4 := hide hB4
    clear hown4 hgrow4 hown3 hB3 hr1 HB1 HB3 HNE hblk4 k4
    have hbs : Below w4.heap.size w4 (w4.alloc (.cells #[.int .u64 (ser : Int), .int .u64 (P : Int), .int .u64 (L : Int)] 34)) := (Below.refl _ _).alloc (Nat.le_refl _) _
    have hul : UL (w4.alloc (.cells #[.int .u64 (ser : Int), .int .u64 (P : Int), .int .u64 (L : Int)] 34)) (.slice (some ⟨w4.heap.size, 0, none⟩) 3 3) [ser, P, L] := ul_of (l := [ser, P, L]) (e := 34) (by show (w4.heap.push _)[w4.heap.size]? = _; simp) (by simp)
    have HN := hide (numbers_any _ [ser, P, L] _ hul (unhide HNS) (by simp))
    have hown5 := owns_below (unhide HO4) hbs
    have HO5 := hide hown5
    have HB5 := hide ((unhide HB4).trans (hbs.mono (unhide HB4).size))
    have hs5 : (w4.alloc (.cells #[.int .u64 (ser : Int), .int .u64 (P : Int), .int .u64 (L : Int)] 34)).heap.size = w4.heap.size + 1 := by simp
    have hnl := numsB_len [ser, P, L]
    have hnb : numsB [ser, P, L] = varF 9 ser ++ varF 9 P ++ varF 9 L := by simp [numsB]
    rw [hnb] at HN hnl
    have hs4 := (unhide HB4).size
    clear hbs hul hown5 HO4 HB4 hnb
    generalize hNB : varF 9 ser ++ varF 9 P ++ varF 9 L = NB at *
    have HNB := hide hNB
    clear hNB
    simp only [List.length_cons, List.length_nil] at hnl
    go_wp2_with fail
    refine Calls.mono (unhide HN) ?_
    rintro e w6 ⟨t6, rfl, hown6, hb6⟩
    have hr6 := row_of_owns hown6
    obtain ⟨q6, c6, l6, rfl, rfl⟩ := hr6.shape
    have hB6 := (unhide HB5).trans (hb6.mono (unhide HB5).size)
    have hown7 := owns_below (unhide HO5) hb6
    have hsz6 := hB6.size
    clear hown6 hb6 HN HO5 HB5
    go_wp2_with (at_builtin; refine wpList_append_row rfl _ _ 30 rfl w.heap.size 5 i0 (.int .u8 0) Try.underlying30 hi hz0 hz1 hz2 rfl _ _ _ rfl hown7 _ NB rfl hr6 (by omega) hsz6 ?_)
    intro v8 w8 hown8 hgrow8
    have HB8 : Hid (Below w.heap.size w w8) := hB6.grown hgrow8 hsz6 (fun k hk => (hown7.lt k hk).1)
    have HO8 := hide hown8
    clear hown8 hgrow8 hown7 hB6 hr6
    go_wp2
    go_ret
    refine ⟨_, rfl, ?_, unhide HB8⟩
    have h8 := unhide HO8
    have e : TX ++ 0 :: NB = XS ++ NB := by rw [unhide HXS, List.append_assoc]; rfl
    rw [← List.length_append, ← List.map_append, ← e, ← unhide HNB] at h8
    simpa using h8
end Go.Proofs.Ytehnjanllemnlaa

/- The landed package batch: records as bytes, behind their kind. -/
namespace Go.Proofs.Ytehnjanllemnlaa
open Go.RowKit

theorem chgB_len (c : Chg) (hk : c.key.size ≤ 64) : (chgB c).length ≤ 110 := by
  have h1 := (varF_len 9 c.key.toList.length).2
  have h2 := (varF_len 9 c.ser).2
  have h3 := (varF_len 9 c.pos.toNat).2
  have h4 := (varF_len 9 c.len.toNat).2
  have h5 := bl_len c.key
  unfold chgB
  cases c.del
  · simp only [Bool.false_eq_true, if_false, List.length_append, List.length_cons]; omega
  · simp only [if_true, List.length_append, List.length_cons, List.length_nil]; omega
theorem mayChg_key {c : Chg} (h : mayChg c = true) : c.key.size ≤ 64 := by
  simp only [mayChg, Bool.and_eq_true, kmayB, decide_eq_true_eq] at h
  exact h.1.2
theorem flat_chgB_len (l : List Chg) (h : ∀ c ∈ l, c.key.size ≤ 64) : (l.flatMap chgB).length ≤ l.length * 110 := by
  induction l with
  | nil => simp
  | cons c l ih =>
    have h1 := chgB_len c (h c List.mem_cons_self)
    have h2 := ih (fun x hx => h x (List.mem_cons_of_mem _ hx))
    rw [List.flatMap_cons, List.length_append, List.length_cons]
    omega

set_option maxRecDepth 20000 in
set_option maxHeartbeats 2000000 in
theorem batbytes_any (r : Rcd) (v : Value) (w : World) (hl : CL w v r.chg) (hm : ∀ c ∈ r.chg, mayChg c = true) (h64 : ∀ c ∈ r.chg, c.ser < 18446744073709551616) (hs64 : r.seq < 18446744073709551616) (h32 : r.chg.length ≤ 32) :
    Calls Try.prog 47 #[.agg (rcdA r v)] w fun e w' => ∃ t, e = .returned t ∧ w'.ownsRow w.heap.size 5 1 t (batB r).length ((batB r).map B) ∧ Below w.heap.size w w' := by
  obtain ⟨i0, hi, hz0, hz1, hz2⟩ := info_parts Try.info5
  obtain ⟨kind, seq, l, mser, frm, to, n⟩ := r
  simp only at hl hm h64 hs64 h32
  unfold batB rcdA
  simp only
  obtain ⟨p, c, rfl, hc1, hc2, hc3⟩ := KRow.shape hl
  have HC : Hid (∀ w', Below w.heap.size w w' → ∀ k (hk : k < l.length), ∃ b off, p = some ⟨b, off, none⟩ ∧ w'.cell? ⟨b, off + k * 5, none⟩ = some (.string l[k].key) ∧ w'.cell? ⟨b, off + k * 5 + 1, none⟩ = some (.int .u64 (l[k].ser : Int)) ∧ w'.cell? ⟨b, off + k * 5 + 2, none⟩ = some (.int .i64 l[k].pos) ∧ w'.cell? ⟨b, off + k * 5 + 3, none⟩ = some (.int .i64 l[k].len) ∧ w'.cell? ⟨b, off + k * 5 + 4, none⟩ = some (.bool l[k].del)) := by
    intro w' hb k hk
    obtain ⟨b, off, cap, e, _, _, hc⟩ := (hl.below hb).open (by omega)
    simp only [Value.slice.injEq] at e
    exact ⟨b, off, e.1, hc k hk⟩
  obtain ⟨o, ho⟩ : ∃ o, o = Obj.cells #[.int .i64 kind, .int .u64 (seq : Int), .slice p l.length c, .int .u64 (mser : Int), .int .i64 frm, .int .i64 to, .int .i64 n] 74 := ⟨_, rfl⟩
  obtain ⟨o2, ho2⟩ : ∃ o2, o2 = Obj.cells #[.int .u64 (seq : Int), .int .u64 (l.length : Int)] 34 := ⟨_, rfl⟩
  have hb0 : Below w.heap.size w ((w.alloc o).alloc o2) := ((Below.refl _ _).alloc (Nat.le_refl _) _).alloc (by simp) _
  have hblk : ((w.alloc o).alloc o2).heap[w.heap.size]? = some o := (alloc_old (by simp) o2).trans (alloc_new w o)
  have hul : UL ((w.alloc o).alloc o2) (.slice (some ⟨w.heap.size + 1, 0, none⟩) 2 2) [seq, l.length] := ul_of (l := [seq, l.length]) (e := 34) (by rw [ho2]; exact alloc_new' (by simp) _) (by simp)
  have HN := hide (numbers_any _ [seq, l.length] _ hul (by intro x hx; simp only [List.mem_cons, List.not_mem_nil, or_false] at hx; rcases hx with rfl | rfl; exact hs64; omega) (by simp))
  have hnl := numsB_len [seq, l.length]
  have hnb : numsB [seq, l.length] = varF 9 seq ++ varF 9 l.length := by simp [numsB]
  rw [hnb] at HN hnl
  have HFL := hide (fun k => flat_chgB_len (l.take k) (fun x hx => mayChg_key (hm x (List.mem_of_mem_take hx))))
  have HM := hide hm
  have H64 := hide h64
  have hwl : IntKind.u64.wrap (l.length : Int) = l.length := by rw [IntKind.wrap_u64]; omega
  have hl32 : (l.length : Int) ≤ 32 := by omega
  have HBL := hide hblk
  have HO := hide ho
  have hs2 : ((w.alloc o).alloc o2).heap.size = w.heap.size + 2 := by simp
  have HB0 := hide hb0
  have HSZ := hide hs2
  rw [ho, ho2] at HN HBL HB0
  generalize hNB : varF 9 seq ++ varF 9 l.length = NB at *
  have HNB := hide hNB
  simp only [List.length_cons, List.length_nil] at hnl
  clear hb0 hblk hul hnb hm h64 hs64 h32 hs2 hl hNB ho2
  go_enter Try.func47, Try.ntmps47
  go_wp2_with fail
  refine Calls.mono (unhide HN) ?_
  rintro e w2 ⟨t, rfl, hown2, hb2⟩
  have hblk2 := (hb2.block w.heap.size (Array.getElem?_eq_some_iff.1 (unhide HBL)).1).trans (unhide HBL)
  have m2 := cell_of_row w2 w.heap.size 2 _ _ (0, 0) hblk2
  simp only [List.getElem?_toArray, List.getElem?_cons_succ, List.getElem?_cons_zero] at m2
  have hB2 := (unhide HB0).trans (hb2.mono (unhide HB0).size)
  have hown2' := owns_down hown2 (base := w.heap.size) (by simp; omega)
  have HO2 := hide hown2'
  have HB2 := hide hB2
  clear hown2 hown2' hb2 hblk2 hB2 HN HB0 HSZ HBL HO ho
  go_wp2_with fail
  go_loopw [3, 17] (fun s i wr => ∃ k : Nat, k ≤ l.length ∧ i = .int .i64 k ∧ Hid (wr.ownsRow w.heap.size 5 1 s (NB ++ (l.take k).flatMap chgB).length ((NB ++ (l.take k).flatMap chgB).map B)) ∧ Hid (Below w.heap.size w wr)) (fun _ i _ => l.length - (intOf i).toNat)
  case atStart => exact ⟨0, Nat.zero_le _, rfl, by unfold Hid; simpa using unhide HO2, HB2⟩
  case round =>
    obtain ⟨k, hk, rfl, hown, hbel⟩ := hrel
    by_cases hlt : k < l.length
    · obtain ⟨b, off, rfl, a0, a1, a2, a3, a4⟩ := unhide HC wr (unhide hbel) k hlt
      have hkl : (k : Int) < l.length := by omega
      have hTK : NB ++ (l.take (k + 1)).flatMap chgB = NB ++ (l.take k).flatMap chgB ++ chgB l[k] := by
        rw [List.take_succ_eq_append_getElem hlt, List.flatMap_append, List.flatMap_cons, List.flatMap_nil, List.append_nil, List.append_assoc]
      have HT := hide hTK
      have hfl := unhide HFL k
      have hcl := chgB_len l[k] (mayChg_key (unhide HM _ (List.getElem_mem hlt)))
      have HBC := hide (fun w' => bchange_any l[k] w' (unhide HM _ (List.getElem_mem hlt)) (unhide H64 _ (List.getElem_mem hlt)))
      unfold chgV at HBC
      rw [List.length_take] at hfl
      generalize chgB l[k] = X at *
      generalize l[k] = C at *
      obtain ⟨Y, hY⟩ : ∃ Y, Y = NB ++ (l.take k).flatMap chgB := ⟨_, rfl⟩
      have hyl : Y.length ≤ 20 + 32 * 110 := by rw [hY, List.length_append]; omega
      rw [← hY] at hown HT
      have hbs := fun o => (Below.refl wr.heap.size wr).alloc (Nat.le_refl _) o
      have HON := hide (fun o => owns_below (unhide hown) (hbs o))
      have HBN := hide (fun o => (unhide hbel).trans ((hbs o).mono (unhide hbel).size))
      clear hY hTK hfl hown hbel hbs
      go_wp2_with fail
      refine Calls.mono (unhide HBC _) ?_
      rintro e w3 ⟨t3, rfl, hown3, hb3⟩
      have hr3 := row_of_owns hown3
      obtain ⟨q3, c3, l3, rfl, rfl⟩ := hr3.shape
      have hB3 := (unhide HBN _).trans (hb3.mono (unhide HBN _).size)
      have hown4 := owns_below (unhide HON _) hb3
      have hsz3 := hB3.size
      clear hown3 hb3 HBC HON HBN a0 a1 a2 a3 a4
      go_wp2_with (at_builtin; refine wpList_append_row rfl _ _ 30 rfl w.heap.size 5 i0 (.int .u8 0) Try.underlying30 hi hz0 hz1 hz2 rfl _ _ _ rfl hown4 _ X rfl hr3 (by omega) hsz3 ?_)
      intro v5 w5 hown5 hgrow5
      have HB5 : Hid (Below w.heap.size w w5) := hB3.grown hgrow5 hsz3 (fun k hk => (hown4.lt k hk).1)
      have HO5 := hide hown5
      clear hown5 hgrow5 hown4 hB3 hr3
      go_wp2
      go_roundw
      case rel =>
        refine ⟨k + 1, by omega, by go_num, ?_, HB5⟩
        unfold Hid
        rw [unhide HT, List.length_append, List.map_append]
        exact unhide HO5
      case measure => simp [intOf]; omega
    · obtain rfl : k = l.length := by omega
      rw [List.take_length] at hown
      go_wp2
      go_ret
      refine ⟨_, rfl, ?_, unhide hbel⟩
      have h8 := unhide hown
      simpa using h8

set_option maxRecDepth 20000 in
set_option maxHeartbeats 2000000 in
theorem movbytes_any (r : Rcd) (v : Value) (w : World) (h64 : r.mser < 18446744073709551616) (h1 : 0 ≤ r.frm) (h2 : r.frm ≤ 65536) (h3 : 0 ≤ r.to) (h4 : r.to ≤ 65536) (h5 : 0 ≤ r.n) (h6 : r.n ≤ 9) :
    Calls Try.prog 50 #[.agg (rcdA r v)] w fun e w' => ∃ t, e = .returned t ∧ w'.ownsRow w.heap.size 5 1 t (movB r).length ((movB r).map B) ∧ Below w.heap.size w w' := by
  obtain ⟨kind, seq, l, mser, frm, to, n⟩ := r
  simp only at h64 h1 h2 h3 h4 h5 h6
  unfold movB rcdA
  simp only
  obtain ⟨F, rfl⟩ : ∃ F : Nat, frm = F := ⟨frm.toNat, by omega⟩
  obtain ⟨T, rfl⟩ : ∃ T : Nat, to = T := ⟨to.toNat, by omega⟩
  obtain ⟨M, rfl⟩ : ∃ M : Nat, n = M := ⟨n.toNat, by omega⟩
  simp only [Int.toNat_natCast]
  have w1 : IntKind.u64.wrap (F : Int) = F := by rw [IntKind.wrap_u64]; omega
  have w2 : IntKind.u64.wrap (T : Int) = T := by rw [IntKind.wrap_u64]; omega
  have w3 : IntKind.u64.wrap (M : Int) = M := by rw [IntKind.wrap_u64]; omega
  have hnb : numsB [mser, F, T, M] = varF 9 mser ++ varF 9 F ++ varF 9 T ++ varF 9 M := by simp [numsB]
  have hbb : ∀ o o2 o3, Below w.heap.size w (((w.alloc o).alloc o2).alloc o3) := fun o o2 o3 => (((Below.refl _ _).alloc (Nat.le_refl _) _).alloc (by simp) _).alloc (by simp; omega) _
  have hul : ∀ o o2, UL (((w.alloc o).alloc o2).alloc (.cells #[.int .u64 (mser : Int), .int .u64 (F : Int), .int .u64 (T : Int), .int .u64 (M : Int)] 34)) (.slice (some ⟨w.heap.size + 1 + 1, 0, none⟩) 4 4) [mser, F, T, M] := fun o o2 => ul_of (l := [mser, F, T, M]) (e := 34) (alloc_new' (by simp) _) (by simp)
  have HN := hide (fun o o2 => numbers_any _ [mser, F, T, M] _ (hul o o2) (by intro x hx; simp only [List.mem_cons, List.not_mem_nil, or_false] at hx; rcases hx with rfl | rfl | rfl | rfl; exact h64; omega; omega; omega) (by simp))
  rw [hnb] at HN
  have HBB := hide hbb
  clear hbb hul h64 h1 h2 h3 h4 h5 h6 hnb
  go_enter Try.func50, Try.ntmps50
  go_wp2_with fail
  refine Calls.mono (unhide HN _ _) ?_
  rintro e w4 ⟨t, rfl, hown, hb⟩
  have HO := hide (owns_down hown (unhide HBB _ _ _).size)
  have HB := hide ((unhide HBB _ _ _).trans (hb.mono (unhide HBB _ _ _).size))
  clear hown hb
  go_wp2
  go_ret
  exact ⟨_, rfl, by simpa using unhide HO, unhide HB⟩
end Go.Proofs.Ytehnjanllemnlaa
