/- What the reference of package disk does: Write. -/
import Derived.Test.YtkekikfiijbjmaaDiskRef4
namespace Go.Proofs.Ytkekikfiijbjmaa
open Go.RowKit

theorem Try.infoWait : (Try.prog.info? 91).map (fun i => (i.zero, i.size, i.bytes)) = some (some (.agg #[.int .i64 0, .slice none 0 0]), 2, 32) := by kernel_rfl

set_option maxRecDepth 20000 in
/-- 'append(v, x)' of one element of two cells to a row of the call's own, within a region that draws: with the word where it lies then. -/
theorem step_append_two {P : Program} {ops : Array Oper} {o : Oper} {a : Act} {w : World} {K : Act → World → Prop} {Q : Exit → Act → World → Prop} {E : Prop} (hgd : o.guard = none) (s x : Operand) (t : TypeId)
    (ho : o.op = .call { callee := .builtin .append, args := #[s, x], argTypes := #[t, t] })
    (e : TypeId) (i : TypeInfo) (z : Value) (ht : P.underlying t = some (.slice e)) (hi : P.info? e = some i) (hz : i.zero = some z)
    (hsize : i.size = 2) (bytes : Nat) (hby : i.bytes = bytes) (hzs : z.cells.size = 2)
    (v : Value) (n : Nat) (xs : List Value) (hs : a.eval s = v) (hown : w.ownsRow 0 e 2 v n xs) (ad : Addr) (c : Nat) (u1 u2 : Value) (hx : a.eval x = .slice (some ad) 1 c)
    (h1 : w.cell? (ad.add 0) = some u1) (h2 : w.cell? (ad.add 1) = some u2) (o1 : u1.oneCell' = true) (o2 : u2.oneCell' = true) (h63 : n + 1 ≤ maxLen) (hbytes : (n + 1) * bytes ≤ 140737488355328)
    (h : ∀ v' w', w'.ownsRow 0 e 2 v' (n + 1) (xs ++ [u1, u2]) → w.grownBy w' v.ownBlock → (v'.ownBlock = v.ownBlock ∨ v'.ownBlock = some w.heap.size) → K (a.put o.dst v') w') :
    if Region.wanted o (yielded ops a.tmps) = true then Oper.wp P o a w K Q else E := by
  have hw : Region.wanted o (yielded ops a.tmps) = true := by simp [Region.wanted, hgd]
  rw [if_pos hw]
  have hnews : ∀ j u, [u1, u2][j]? = some u → w.cell? (ad.add j) = some u := by
    intro j u hu
    match j with
    | 0 => simp at hu; subst hu; exact h1
    | 1 => simp at hu; subst hu; exact h2
    | j + 2 => simp at hu
  have hone : ∀ u ∈ [u1, u2], u.oneCell' = true := by
    intro u hu
    simp only [List.mem_cons, List.not_mem_nil, or_false] at hu
    rcases hu with rfl | rfl
    · exact o1
    · exact o2
  obtain ⟨v', w', hr, g1, g2, _⟩ := run_append_own (P := P) w 0 t o.type e i z 2 bytes ht hi hz hsize hby hzs (by omega) v n xs hown ad 1 c [u1, u2] (by simp) hnews hone h63 hbytes (Nat.zero_le _)
  have g3 := append_block (P := P) w t o.type e i z ht hi hz (base := 0) (v := v) (n := n) (xs := xs) (by rw [hsize]; exact hown) ad 1 c [u1, u2] (by rw [hsize]; rfl) hnews hone h63 (by rw [hby]; exact hbytes) hr
  unfold Oper.wp execOp
  simp only [ho, resolve, invoke, builtin, Sem.run_bind, Sem.run_pure, Result.andThen_ok, List.map_toArray, List.map_cons, List.map_nil, hs, hx, hr]
  exact h v' w' g1 g2 g3

set_option maxRecDepth 20000 in
/-- A write joins those that wait: the device in memory behind it. -/
theorem RAt.join {F : Nat → Prop} {w w1 w2 : World} {g m : Nat} {wv v' : Value} {f : Int → Option Value} {xs : List Value} {s : DK} {cnt : Nat} (h : RAt F w g m wv f xs s cnt) {a gb cap : Nat} {b : List UInt8} (ha : a < s.n)
    (hb1 : Below w.heap.size w w1) (hown : w2.ownsRow 0 91 2 v' (s.waits.length + 1) (xs ++ [.int .i64 (a : Int), .slice (some ⟨gb, 0, none⟩) 512 cap])) (hg : w1.grownBy w2 wv.ownBlock)
    (hv : v'.ownBlock = wv.ownBlock ∨ v'.ownBlock = some w1.heap.size) (hgb : w.heap.size ≤ gb) (hr : w1.ownsRow w.heap.size 5 1 (.slice (some ⟨gb, 0, none⟩) 512 cap) 512 (b.map B)) (hl : b.length = 512) :
    ∃ F', RAt F' (w2.setCell ⟨g, 2, none⟩ v') g m v' f (xs ++ [.int .i64 (a : Int), .slice (some ⟨gb, 0, none⟩) 512 cap]) { s with waits := s.waits ++ [(a, b)] } cnt ∧ Moves F F' w (w2.setCell ⟨g, 2, none⟩ v') := by
  have hwo := own_kind h.own
  have hvo := own_kind hown
  -- blocks of F but the row of writes
  have hkeep : ∀ k, k < w.heap.size → wv.ownBlock ≠ some k → w2.heap[k]? = w.heap[k]? := fun k hk hn => (hg.block k (Nat.lt_of_lt_of_le hk hb1.size) (fun e => hn e.symm)).trans (hb1.block k hk)
  have hgw : wv.ownBlock ≠ some g := fun e => by obtain ⟨cur, hh⟩ := hwo g e; rw [h.blk] at hh; cases hh
  have hmw : wv.ownBlock ≠ some m := fun e => by obtain ⟨cur, hh⟩ := hwo m e; obtain ⟨es, c, hh'⟩ := h.map.heap; rw [hh'] at hh; cases hh
  have hmg : m ≠ g := fun e => by obtain ⟨es, c, hh'⟩ := h.map.heap; rw [e, h.blk] at hh'; cases hh'
  have hgl := h.lt g h.fg
  have hml := h.lt m h.fm
  have hblk2 := (hkeep g hgl hgw).trans h.blk
  have hgbl : gb < w1.heap.size := (World.ownsRow.lt hr gb rfl).2
  obtain ⟨curb, hbb⟩ := own_kind hr gb rfl
  have hgbw : wv.ownBlock ≠ some gb := fun e => by have := h.lt gb (h.fw gb e); omega
  have hbb2 : w2.heap[gb]? = some (.cells curb 5 (0, 0)) := (hg.block gb hgbl (fun e => hgbw e.symm)).trans hbb
  have hset : ∀ k, k ≠ g → (w2.setCell ⟨g, 2, none⟩ v').heap[k]? = w2.heap[k]? := fun k hk => Below.heap_setCell _ _ _ _ hk
  have hvg : v'.ownBlock ≠ some g := fun e => by obtain ⟨cur, hh⟩ := hvo g e; rw [hblk2] at hh; cases hh
  have hrow : ∀ k cur, F k → w.heap[k]? = some (.cells cur 5 (0, 0)) → (w2.setCell ⟨g, 2, none⟩ v').heap[k]? = w.heap[k]? := fun k cur hF hh => by
    rw [hset k (fun e => by rw [e, h.blk] at hh; cases hh)]
    exact hkeep k (h.lt k hF) (fun e => by obtain ⟨c, hh'⟩ := hwo k e; rw [hh] at hh'; cases hh')
  have hsz : w.heap.size ≤ w2.heap.size := Nat.le_trans hb1.size hg.size
  refine ⟨fun k => F k ∨ k = gb ∨ v'.ownBlock = some k, ⟨?_, ?_, ?_, ?_, ?_, Or.inl h.fg, Or.inl h.fm, fun k e => Or.inr (Or.inr e), ?_, ?_⟩, ?_⟩
  · have b1 := heap_setCell_same w2 g 2 _ _ v' hblk2
    rw [b1]
    rfl
  · exact (h.map.stays (hkeep m hml hmw)).stays (hset m hmg)
  · have ho : w2.ownsRow 0 91 2 v' (s.waits ++ [(a, b)]).length (xs ++ [.int .i64 (a : Int), .slice (some ⟨gb, 0, none⟩) 512 cap]) := by
      rw [List.length_append]
      exact hown
    exact owns_stays ho fun k e => hset k (fun e' => hvg (by rw [← e']; exact e))
  · intro j hj
    have hxl : xs.length = s.waits.length * 2 := h.own.1
    by_cases hjl : j < s.waits.length
    · obtain ⟨u, h1, h2, h3⟩ := h.waits j hjl
      have ej : (s.waits ++ [(a, b)])[j] = s.waits[j] := List.getElem_append_left hjl
      refine ⟨u, ?_, ?_, ?_⟩
      · rw [List.getElem?_append_left (by omega), h1]
        dsimp only
        rw [ej]
      · rw [List.getElem?_append_left (by omega), h2]
      · dsimp only
        rw [ej]
        exact (h3.stays fun k cur hF hh => hrow k cur hF hh).weak fun k hF => Or.inl hF
    · have hj' : j = s.waits.length := by simp at hj; omega
      subst hj'
      have ej : (s.waits ++ [(a, b)])[s.waits.length] = (a, b) := by simp
      refine ⟨.slice (some ⟨gb, 0, none⟩) 512 cap, ?_, ?_, ?_⟩
      · rw [List.getElem?_append_right (by omega), show 2 * s.waits.length - xs.length = 0 by omega]
        dsimp only
        rw [ej]
        rfl
      · rw [List.getElem?_append_right (by omega), show 2 * s.waits.length + 1 - xs.length = 1 by omega]
        rfl
      · dsimp only
        rw [ej]
        have hgbg : gb ≠ g := by omega
        have hR1 := row_of_owns (w := w1) (base := w.heap.size) (e := 5) (s := .slice (some ⟨gb, 0, none⟩) 512 cap) (bs := b) (by rw [hl]; exact hr)
        obtain ⟨aa, cap', he, q1, q2, q3, q4⟩ := hR1
        refine ⟨gb, 0, cap, curb, rfl, Or.inr (Or.inl rfl), (hset gb hgbg).trans hbb2, hl, aa, cap', he, q1, q2, q3, ?_⟩
        rcases q4 with q4 | ⟨b', off', ha', hc'⟩
        · exact Or.inl q4
        · refine Or.inr ⟨b', off', ha', fun j hj => ?_⟩
          simp only [Value.slice.injEq] at he
          rw [ha'] at he
          simp only [Option.some.injEq, Addr.mk.injEq] at he
          obtain ⟨⟨rfl, _, _⟩, _, _⟩ := he
          exact (World.cell?_of_block (w := w1) (a := ⟨gb, off' + j, none⟩) ((hset gb hgbg).trans (hbb2.trans hbb.symm))).trans (hc' j hj)
  · intro x
    rcases h.kept x with h1 | ⟨u, h1, h2⟩
    · exact Or.inl h1
    · exact Or.inr ⟨u, h1, (h2.stays fun k cur hF hh => hrow k cur hF hh).weak fun k hF => Or.inl hF⟩
  · intro k hk
    rw [World.size_setCell]
    rcases hk with hk | hk | hk
    · exact Nat.lt_of_lt_of_le (h.lt k hk) hsz
    · have := hg.size; omega
    · obtain ⟨cur, hh⟩ := hvo k hk
      exact (Array.getElem?_eq_some_iff.1 hh).1
  · exact ⟨h.ok.size, h.ok.kept, fun x hx => by
      rcases List.mem_append.1 hx with hx | hx
      · exact h.ok.waits x hx
      · simp only [List.mem_singleton] at hx; subst hx; exact ⟨ha, hl⟩, h.ok.armed⟩
  · refine ⟨⟨hg.os.trans hb1.os, hg.tape.trans hb1.tape, hg.output.trans hb1.output, by rw [World.size_setCell]; exact hsz, fun k hk hn => ?_⟩, fun k hk => ?_⟩
    · rw [hset k (fun e => hn (e ▸ h.fg))]
      exact hkeep k hk (fun e => hn (h.fw k e))
    · rcases hk with hk | hk | hk
      · exact Or.inl hk
      · right; omega
      · rcases hv with hv | hv
        · exact Or.inl (h.fw k (hv ▸ hk))
        · right
          rw [hv] at hk
          have := Option.some.inj hk
          have := hb1.size
          omega

set_option maxRecDepth 20000 in
set_option maxHeartbeats 1000000 in
theorem rwrite_ok (F : Nat → Prop) (p : Value) (s : DK) (cnt a : Nat) (bv : Value) (b : List UInt8) (w : World) (h : RRep F w p s cnt) (hb : Row w bv b) (hf : s.fell = false) (ha : a < s.n) (hl : b.length = 512) (hw : s.waits.length ≤ 1048576) :
    Calls Try.prog 40 #[p, .int .i64 (a : Int), bv] w fun e w' => e = .returned (.int .i64 (if s.armed = 1 then 40 else 0)) ∧ ∃ F', RRep F' w' p { s with waits := s.waits ++ [(a, b)] }.tick cnt ∧ Moves F F' w w' := by
  obtain ⟨i0, hi, hz0, hz1, hz2⟩ := info_parts Try.info5
  obtain ⟨E, hE⟩ : ∃ E : Int, E = if s.armed = 1 then 40 else 0 := ⟨_, rfl⟩
  rw [← hE]
  have HE : Hid (((s.armed == 1) = true → E = 40) ∧ ((s.armed == 1) = false → E = 0)) := by
    refine ⟨fun h => ?_, fun h => ?_⟩
    · rw [hE, if_pos (by simpa using h)]
    · rw [hE, if_neg (by simpa using h)]
  obtain ⟨T, hT⟩ : ∃ T : DK, T = { s with waits := s.waits ++ [(a, b)] }.tick := ⟨_, rfl⟩
  rw [← hT]
  have HT := hide hT
  have HFE := hide hf
  clear hE hT
  obtain ⟨g, m, wv, f, xs, rfl, R⟩ := h
  have hn := R.ok.size
  obtain ⟨c0, c1, c2, c3, c4, c5, hfz⟩ := six_cells R.blk
  have HR := hide R
  obtain ⟨q, cw, hwv⟩ := R.shape
  subst hwv
  obtain ⟨bq, bc, l, rfl, hl2⟩ := hb.shape
  rw [hl] at hl2
  subst hl2
  have HB := hide hb
  rw [hf] at c4
  have ha1 : ¬ (a : Int) < 0 := by omega
  have ha2 : (a : Int) < s.n := by omega
  have ha3 : ¬ (s.n : Int) ≤ a := by omega
  clear R hfz hb hf
  go_enter Try.func40, Try.ntmps40
  go_wp2_with fail
  obtain ⟨iw, hiw, hw0, hw1, hw2⟩ := info_parts Try.infoWait
  have HBd := hide ((unhide HB).below (Below.refl w.heap.size w).drew)
  have hgl : g < w.heap.size := (unhide HR).lt g (unhide HR).fg
  have HL := hide hl
  have HWL := hide hw
  have hwI : (s.waits.length : Int) ≤ 1048576 := by omega
  clear hl hw hn
  go_region_law (first
    | (refine step_append_row rfl _ _ 40 rfl w.heap.size 5 i0 (.int .u8 0) Try.underlying40 hi hz0 hz1 hz2 rfl _ 0 [] (by simp [Act.eval]) (World.ownsRow_nil _ _ _ _) _ b (by simp [Act.eval, Act.put]) (unhide HBd) (by rw [unhide HL]; omega) (Nat.le_refl _) ?_; intro v1 w1 hown1 hgrow1; have B1 := ((Below.refl w.heap.size w).drew).grown hgrow1 (Nat.le_refl _) (fun k hk => by cases hk); have O1 : w1.ownsRow w.heap.size 5 1 v1 512 (b.map B) := (by have h := hown1; rw [unhide HL] at h; simpa using h); clear hown1 hgrow1; rcases O1.2 with ⟨_, h0⟩ | ⟨gb, cap, cur, e1, hgb, _⟩; (exact absurd h0 (by omega)); subst e1; have c2' := (B1.cell (p := ⟨g, 2, none⟩) hgl).trans c2; have hg1 : g < w1.heap.size := Nat.lt_of_lt_of_le hgl B1.size; have hfz1 : w1.frozen? ⟨g, 2, none⟩ = false := (by rw [B1.frozen (p := ⟨g, 2, none⟩) hgl]; exact (six_cells (unhide HR).blk).2.2.2.2.2.2 2); have HO1 := hide O1; have HB1 := hide B1; have HGB := hide hgb; clear O1 B1 hgb)
    | (refine step_append_two rfl _ _ 67 rfl 91 iw (.agg #[.int .i64 0, .slice none 0 0]) Try.underlying67 hiw hw0 hw1 32 hw2 rfl (.slice q s.waits.length cw) s.waits.length xs (by simp [Act.eval]) (by exact owns_stays (unhide HR).own (fun k hk => by rw [Below.heap_alloc _ _ _ (Nat.lt_of_lt_of_le ((unhide HR).lt k ((unhide HR).fw k hk)) (unhide HB1).size)]; exact (unhide HB1).block k ((unhide HR).lt k ((unhide HR).fw k hk)))) ⟨w1.heap.size, 0, none⟩ 1 (.int .i64 (a : Int)) (.slice (some ⟨gb, 0, none⟩) 512 cap) (by simp [Act.eval]) (by simp [Addr.add]) (by simp [Addr.add]) rfl rfl (by have := unhide HWL; unfold maxLen; omega) (by have := unhide HWL; omega) ?_; intro v2 w2 hown2 hgrow2 hob2; have B1a : Below w.heap.size w (w1.alloc (.cells #[.int .i64 (a : Int), .slice (some ⟨gb, 0, none⟩) 512 cap] 91)) := (unhide HB1).alloc (unhide HB1).size _; have HJ := hide ((unhide HR).join ha B1a hown2 hgrow2 hob2 (unhide HGB) (owns_below (unhide HO1) ((Below.refl _ _).alloc (Nat.le_refl _) _)) (unhide HL)); have hblk2 := (hgrow2.block g (Nat.lt_of_lt_of_le hgl B1a.size) (fun e => (by obtain ⟨cc, hcc⟩ := own_kind (unhide HR).own g e.symm; rw [(unhide HR).blk] at hcc; cases hcc))).trans ((B1a.block g hgl).trans (unhide HR).blk); obtain ⟨x0, x1, x2, x3, x4, x5, hfx⟩ := six_cells hblk2; have hfx2 := hfx 2; rcases hown2.2 with ⟨_, h0⟩ | ⟨h2, cap2, cur2, e2, _⟩; (exact absurd h0 (by omega)); subst e2; clear hown2 hgrow2 hob2 B1a hblk2 hfx x0 x1 x3 x4 x5))
  all_goals
    clear c0 c1 c2 c3 c4 c5 HB HBd HR HO1 HB1
    obtain ⟨F', hR', hM'⟩ := unhide HJ
    have HH := hide (rhit_any F' _ { s with waits := s.waits ++ [(a, b)] } cnt _ ⟨g, m, _, f, _, rfl, hR'⟩ (unhide HFE))
    rw [← unhide HT] at HH
    have HM := hide hM'
    clear hR' hM' HJ
    go_wp2_with fail
    refine Calls.mono (unhide HH) ?_
    rintro e w3 ⟨rfl, hr3, hk3⟩
    have HR3 := hide hr3
    have HM3 := hide ((unhide HM).trans ⟨hk3, fun k h => Or.inl h⟩)
    clear HH hr3 hk3 HM
    dsimp only
    generalize (s.armed == 1) = d at *
    cases d with
    | true =>
      have HE2 := hide ((unhide HE).1 rfl)
      go_wp2
      go_ret
      exact ⟨by rw [unhide HE2]; rfl, F', unhide HR3, unhide HM3⟩
    | false =>
      have HE2 := hide ((unhide HE).2 rfl)
      go_wp2
      go_ret
      exact ⟨by rw [unhide HE2]; rfl, F', unhide HR3, unhide HM3⟩

set_option maxRecDepth 20000 in
theorem rwrite_any (F : Nat → Prop) (p : Value) (s : DK) (cnt : Nat) (a : Int) (bv : Value) (b : List UInt8) (w : World) (h : RRep F w p s cnt) (hb : Row w bv b) (hw : s.waits.length ≤ 1048576) :
    Calls Try.prog 40 #[p, .int .i64 a, bv] w fun e w' => e = .returned (.int .i64 (s.writeE a b)) ∧ ∃ F', RRep F' w' p (s.write a b) cnt ∧ Moves F F' w w' := by
  cases hf : s.fell with
  | true =>
    have e1 : s.writeE a b = 40 := by unfold DK.writeE; rw [if_pos hf]
    have e2 : s.write a b = s := by unfold DK.write; rw [if_pos hf]
    rw [e1, e2]
    have H := hide h
    obtain ⟨g, m, wv, f, xs, rfl, R⟩ := h
    obtain ⟨c0, c1, c2, c3, c4, c5, hfz⟩ := six_cells R.blk
    rw [hf] at c4
    clear R hfz hf e1 e2 hb hw
    go_enter Try.func40, Try.ntmps40
    go_wp2
    go_ret
    exact ⟨rfl, F, unhide H, Moves.refl _ _⟩
  | false =>
    by_cases hc : s.noSuch a = true ∨ b.length ≠ 512
    · have e1 : s.writeE a b = 1 := by unfold DK.writeE; rw [if_neg (by rw [hf]; decide), if_pos hc]
      have e2 : s.write a b = s := by unfold DK.write; rw [if_neg (by rw [hf]; decide), if_pos hc]
      rw [e1, e2]
      have H := hide h
      obtain ⟨g, m, wv, f, xs, rfl, R⟩ := h
      obtain ⟨c0, c1, c2, c3, c4, c5, hfz⟩ := six_cells R.blk
      rw [hf] at c4
      obtain ⟨bq, bc, l, rfl, hl⟩ := hb.shape
      subst hl
      clear R hfz hf e1 e2 hb hw
      by_cases h1 : a < 0
      · clear hc
        go_enter Try.func40, Try.ntmps40
        go_wp2
        go_ret
        exact ⟨rfl, F, unhide H, Moves.refl _ _⟩
      · by_cases h2 : (s.n : Int) ≤ a
        · clear hc
          go_enter Try.func40, Try.ntmps40
          go_wp2
          go_ret
          exact ⟨rfl, F, unhide H, Moves.refl _ _⟩
        · have h3 : ((b.length : Int) != 512) = true := by
            rcases hc with hc | hc
            · have := of_decide_eq_true hc; omega
            · rw [bne_iff_ne]; omega
          clear hc
          go_enter Try.func40, Try.ntmps40
          go_wp2
          go_ret
          exact ⟨rfl, F, unhide H, Moves.refl _ _⟩
    · have e1 : s.writeE a b = if s.armed = 1 then 40 else 0 := by unfold DK.writeE; rw [if_neg (by rw [hf]; decide), if_neg hc]
      have e2 : s.write a b = { s with waits := s.waits ++ [(a.toNat, b)] }.tick := by unfold DK.write; rw [if_neg (by rw [hf]; decide), if_neg hc]
      rw [e1, e2]
      have hs : s.noSuch a = false := by
        cases h1 : s.noSuch a with
        | false => rfl
        | true => exact absurd (Or.inl h1) hc
      obtain ⟨h0, h1, h2⟩ := DK.noSuch_false hs
      obtain ⟨k, rfl⟩ := Int.eq_ofNat_of_zero_le h0
      rw [Int.toNat_natCast]
      exact rwrite_ok F p s cnt k bv b w h hb hf (by omega) (Decidable.byContradiction fun hl => hc (Or.inr hl)) hw
end Go.Proofs.Ytkekikfiijbjmaa
