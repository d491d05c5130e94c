/- The walk of the statement 'QueueAll'. -/
import Derived.Test.YtbannlomemkjbaaG11
import Derived.Test.YtbannlomemkjbaaG14
import Derived.Test.YtbannlomemkjbaaG19
import Derived.BigQuiet
import Derived.BigRegion
namespace Go.Proofs.Ytbannlomemkjbaa
open Go.RowKit

/-- A slice value that reads as these numbers. -/
def ZR (w : World) (s : Value) (zs : List Int) : Prop :=
  ∃ (a : Option Addr) (cap : Nat), s = .slice a zs.length cap ∧ zs.length ≤ cap ∧ cap ≤ maxLen ∧
    (zs = [] ∨ ∃ b off, a = some ⟨b, off, none⟩ ∧ ∀ j (h : j < zs.length), w.cell? ⟨b, off + j, none⟩ = some (.int .i64 zs[j]))
theorem ZR.at {w : World} {a : Option Addr} {n cap : Nat} {zs : List Int} (h : ZR w (.slice a n cap) zs) (h0 : 0 < zs.length) : ∃ b off, a = some ⟨b, off, none⟩ ∧ ∀ j (h : j < zs.length), w.cell? ⟨b, off + j, none⟩ = some (.int .i64 zs[j]) := by
  obtain ⟨a', cap', e, h1, h2, h3⟩ := h
  simp only [Value.slice.injEq] at e
  obtain ⟨rfl, _, rfl⟩ := e
  rcases h3 with rfl | h3
  · simp at h0
  · exact h3
theorem ZR.below {w w' : World} {s : Value} {zs : List Int} (h : ZR w s zs) (hb : Below w.heap.size w w') : ZR w' s zs := by
  obtain ⟨a', cap', e, h1, h2, h3⟩ := h
  refine ⟨a', cap', e, h1, h2, ?_⟩
  rcases h3 with h3 | ⟨b, off, e2, h3⟩
  · exact Or.inl h3
  · exact Or.inr ⟨b, off, e2, fun j hj => (hb.cell (p := ⟨b, off + j, none⟩) (World.block_lt_of_cell? w _ (h3 j hj))).trans (h3 j hj)⟩
theorem zr_of_reads {lim : Nat → Nat → Prop} {w : World} {v : Value} {d : Dt} (h : Reads lim w (.row 8 (.int .i64)) [v] d) : ∃ zs : List Int, ZR w v zs ∧ lim zs.length 8 := by
  obtain ⟨a, cap, l, h1, h2, h3, h4, h5, h6, h7⟩ := h
  simp only [List.cons.injEq, and_true] at h1
  have hb : ∀ j (hj : j < l.length), ∃ z : Int, ∀ b off, a = some ⟨b, off, none⟩ → w.cell? ⟨b, off + j, none⟩ = some (.int .i64 z) := by
    intro j hj
    rcases h7 with h7 | ⟨b, off, ha, hc⟩
    · rw [h7] at hj; simp at hj
    · obtain ⟨cs', hl, hcell, n, rfl, _, _⟩ := hc j hj
      refine ⟨n, fun b' off' e => ?_⟩
      rw [ha] at e
      simp only [Option.some.injEq, Addr.mk.injEq, and_true] at e
      obtain ⟨rfl, rfl⟩ := e
      have := hcell 0 _ rfl
      simpa [Sh.size] using this
  refine ⟨List.ofFn fun j : Fin l.length => (hb j.1 j.2).choose, ⟨a, cap, by rw [h1, List.length_ofFn], by rw [List.length_ofFn]; exact h3, h4, ?_⟩, by rw [List.length_ofFn]; exact h6⟩
  rcases h7 with h7 | ⟨b, off, ha, hc⟩
  · left; subst h7; rfl
  · right
    refine ⟨b, off, ha, fun j hj => ?_⟩
    rw [List.length_ofFn] at hj
    rw [List.getElem_ofFn]
    exact (hb j hj).choose_spec b off ha

/-- What is so while it is swapped. -/
def SwI (b : Nat) (w wr : World) (q q' g cap : Nat) (l : List It) : Prop := ∃ o : List It, o.Perm l ∧ AL (fun k => k = g) b w wr q q' 0 0 [] [] ∧ OI wr g cap o

/-- .. while it is pushed. -/
def PuI (b : Nat) (w wr : World) (q q' g cap : Nat) (l o : List It) (k : Nat) : Prop := AL (fun k => k = g) b w wr q q' k k (srt lowI (l.take k)) (srt lowI (o.take k)) ∧ OI wr g cap o
/-- .. while it is popped. -/
def PoI (b : Nat) (w wr : World) (q q' g gl : Nat) (l Z Z' : List It) (ms : List Int) (k : Nat) (x : It) : Prop := AL (fun k => k = g ∨ k = gl) b w wr q q' l.length l.length (Z.drop k) (Z'.drop k) ∧ OM wr g ms ∧ LB wr gl x ∧ g ≠ gl ∧ ms.length = l.length ∧ (um l ms).Perm (Z.drop k) ∧ (0 < k → ∀ h : k < Z.length, x.1 ≤ Z[k].1) ∧ ∀ j (h : j < ms.length), ms[j] = 0 ∨ ms[j] = 1
/-- .. and while its like is looked for. -/
def InI (w6 wq : World) (g : Nat) (l : List It) (ms : List Int) (z : It) (k : Nat) (f : Bool) : Prop := Keep (fun k => k = g) w6 wq ∧ ((f = false ∧ OM wq g ms ∧ ∀ j (h : j < l.length) (h' : j < ms.length), j < k → ¬ (ms[j] = 0 ∧ l[j] = z)) ∨ (f = true ∧ ∃ j, ∃ (h : j < l.length) (h' : j < ms.length), ms[j] = 0 ∧ l[j] = z ∧ OM wq g (ms.set j 1)))
theorem PuI.al {b : Nat} {w wr : World} {q q' g cap : Nat} {l o : List It} {k : Nat} (h : PuI b w wr q q' g cap l o k) : AL (fun k => k = g) b w wr q q' k k (srt lowI (l.take k)) (srt lowI (o.take k)) := h.1
theorem Try.info3 : (Try.prog.info? 3).map (fun i => (i.zero, i.size, i.bytes)) = some (some (.int .i64 0), 1, 8) := by kernel_rfl
theorem make_marks (w : World) (m : Nat) (hm : m ≤ 1048576) : ∃ w8, (Instr.makeSlice 71 (.int .i64 (m : Int)) (.int .i64 (m : Int))).run Try.prog w = .ok (.slice (some ⟨w.heap.size, 0, none⟩) m m) w8 ∧ OM w8 w.heap.size (List.replicate m 0) ∧ Below w.heap.size w w8 := by
  obtain ⟨i0, hi, hz0, hz1, hz2⟩ := info_parts Try.info3
  obtain ⟨w8, hrun, r1, r2⟩ := run_make_full (P := Try.prog) w w.heap.size 71 3 i0 (.int .i64 0) 1 Try.underlying71 hi hz0 hz1 .i64 .i64 m (by rw [hz2]; omega) (by unfold maxLen; omega) (Nat.le_refl _)
  have b8 : Below w.heap.size w w8 := (Below.refl _ _).grown r2 (Nat.le_refl _) (fun k hk => by cases hk)
  rw [Nat.mul_one] at r1
  refine ⟨w8, hrun, ?_, b8⟩
  rcases r1.2 with ⟨e, _⟩ | ⟨g, c, cur, e, hb, hh, h1, h2, h3, h4⟩
  · cases e
  · simp only [Value.slice.injEq, Option.some.injEq, Addr.mk.injEq, and_true] at e
    obtain ⟨rfl, _, rfl⟩ := e
    have hc : cur = (List.map (Value.int .i64) (List.replicate m 0)).toArray := by
      rw [List.take_of_length_le (by simp [h3])] at h4
      rw [← Array.toArray_toList (xs := cur), h4]
      rw [show (Value.int .i64 0).cells = #[Value.int .i64 0] from rfl, toList_madeCells_one, List.map_replicate]
    unfold OM
    rw [hh, hc]

set_option maxRecDepth 20000 in
set_option maxHeartbeats 2000000 in
theorem qall_any (s s2 : Value) (l : List It) (zs : List Int) (w : World) (hs : TI w s l) (hl : l.length ≤ 1048576) (hs2 : ZR w s2 zs) (hm : zs.length ≤ 1048576) (hl0 : 0 < l.length) :
    Calls Try.prog 8 #[s, s2] w fun e w' => e = .returned (.bool true) ∧ Below w.heap.size w w' := by
  obtain ⟨p, cap, rfl, k1, k2⟩ := hs.shape
  obtain ⟨p2, cap2, rfl⟩ : ∃ a c, s2 = .slice a zs.length c := by obtain ⟨a, c, e, _⟩ := hs2; exact ⟨a, c, e⟩
  have HS := hide hs
  have HS2 := hide hs2
  have HL := hide hl
  have HM := hide hm
  have HL0 := hide hl0
  have hlI : (l.length : Int) ≤ 1048576 := by omega
  have hlI0 : (0 : Int) < (l.length : Int) := by omega
  have hmI : (zs.length : Int) ≤ 1048576 := by omega
  clear hs hs2 hl hm k1 k2 hl0
  go_enter Try.func8, Try.ntmps8
  go_wp2_with fail
  refine Calls.mono (qnew_any lowI _ below_C _) ?_
  rintro e w1 ⟨rfl, q1, b1⟩
  obtain ⟨qa, hqa⟩ : ∃ qa, qa = w.heap.size := ⟨_, rfl⟩
  rw [← hqa] at q1 ⊢
  have HQ1 := hide q1
  have HB1 := hide b1
  have HQA := hide hqa
  clear q1 b1 hqa
  go_wp2_with fail
  refine Calls.mono (qnew_any lowI _ below_C _) ?_
  rintro e w2 ⟨rfl, q2, b2⟩
  obtain ⟨qb, hqb⟩ : ∃ qb, qb = w1.heap.size := ⟨_, rfl⟩
  rw [← hqb] at q2 ⊢
  have HAL : Hid (AL (fun _ => False) w.heap.size w w2 qa qb 0 0 [] []) := by
    have h1 := unhide HQ1
    have h0 := unhide HB1
    have e0 := unhide HQA
    have hlt := h1.lt qa rfl
    exact ⟨⟨_, _, h1.below b2, q2, fun k hk hk' => by omega, fun k hk => ⟨by omega, id⟩, fun k hk => ⟨by have := h0.size; omega, id⟩⟩, fun k hk => hk.elim, h0.trans (b2.mono h0.size), Nat.le_trans h0.size b2.size⟩
  clear q2 b2 hqb HQ1 HB1 HQA
  go_wp2_with fail
  refine Calls.mono (awake_any _) ?_
  rintro e w3 ⟨rfl, b3⟩
  have HAL3 := hide ((unhide HAL).below b3)
  have HT3 := hide ((unhide HS).below (unhide HAL3).bel)
  have HSZ : Hid ((([] : List It).length + l.length) * 24 ≤ 140737488355328) := by unfold Hid; have := unhide HL; simp; omega
  clear b3 HAL
  go_wp2_with (first
    | (with_reducible show wpList _ _ _ (Oper.mk _ (Op.call _) _ _ _ _ :: _) _ _; refine wpList_append_items rfl (.const (.slice none 0 0)) (.tmp 33) rfl w3.heap.size (.slice none 0 0) [] rfl (World.ownsRow_nil _ _ _ _) (.slice p l.length cap) l rfl (unhide HT3) (unhide HSZ) (Nat.le_refl _) ?_))
  intro v4 w4 hown hgrow hob
  obtain ⟨g, cg, rfl, hI0⟩ : ∃ g cg, v4 = .slice (some ⟨g, 0, none⟩) l.length cg ∧ SwI w.heap.size w w4 qa qb g cg l := by
    have hb : Below w3.heap.size w3 w4 := (Below.refl _ _).grown hgrow (Nat.le_refl _) (fun k hk => by simp [Value.ownBlock] at hk)
    have h0 := unhide HL0
    rcases hown.2 with ⟨_, h'⟩ | ⟨g', cap', cur, rfl, hb', hh, h3⟩
    · omega
    · exact ⟨g', cap', rfl, l, List.Perm.refl _, (unhide HAL3).more hb (fun k hk => Or.inr ⟨by rw [hk]; exact hb', by rw [hk]; exact (Array.getElem?_eq_some_iff.1 hh).1⟩), hown.1, Or.inr ⟨g', cap', cur, rfl, Nat.zero_le _, hh, h3⟩⟩
  have HI0 := hide hI0
  clear hI0 hown hgrow hob HAL3 HT3 HSZ
  go_wp2_with fail
  go_loopw [8] (fun i wr => ∃ k : Nat, k ≤ zs.length ∧ i = .int .i64 (k : Int) ∧ SwI w.heap.size w wr qa qb g cg l) (fun i _ => zs.length - (intOf i).toNat)
  case atStart => exact ⟨0, Nat.zero_le _, rfl, unhide HI0⟩
  case round =>
    clear HI0
    obtain ⟨k, hk, rfl, hI⟩ := hrel
    by_cases hlt : k < zs.length
    · obtain ⟨o, hp, hA, hO⟩ := hI
      have holen : o.length = l.length := hp.length_eq
      have hkI : (k : Int) < (zs.length : Int) := by omega
      obtain ⟨bz, oz, e0, hz⟩ := ((unhide HS2).below hA.bel).at (by omega)
      subst e0
      have hz1 := hz k hlt
      obtain ⟨a, ha1, ha2⟩ : ∃ a : Nat, (IntKind.u64.wrap zs[k]).tmod (l.length : Int) = (a : Int) ∧ a < l.length := by
        have h0 : 0 ≤ IntKind.u64.wrap zs[k] := by rw [IntKind.wrap_u64]; omega
        have h1 := Int.emod_lt_of_pos (IntKind.u64.wrap zs[k]) hlI0
        have h2 := Int.emod_nonneg (IntKind.u64.wrap zs[k]) (Int.ne_of_gt hlI0)
        refine ⟨((IntKind.u64.wrap zs[k]).tmod (l.length : Int)).toNat, ?_, ?_⟩
        · rw [Int.tmod_eq_emod_of_nonneg h0]; omega
        · rw [Int.tmod_eq_emod_of_nonneg h0]; omega
      obtain ⟨b, hb1, hb2⟩ : ∃ b : Nat, (k : Int).tmod (l.length : Int) = (b : Int) ∧ b < l.length := by
        have h1 := Int.emod_lt_of_pos (k : Int) hlI0
        have h2 := Int.emod_nonneg (k : Int) (Int.ne_of_gt hlI0)
        refine ⟨((k : Int).tmod (l.length : Int)).toNat, ?_, ?_⟩
        · rw [Int.tmod_eq_emod_of_nonneg (by omega)]; omega
        · rw [Int.tmod_eq_emod_of_nonneg (by omega)]; omega
      have hlw : IntKind.u64.wrap (l.length : Int) = (l.length : Int) := by rw [IntKind.wrap_u64]; omega
      have haw : wrap64 (a : Int) = (a : Int) := by simp only [wrap64]; omega
      have haI : (a : Int) < (l.length : Int) := by omega
      have hbI : (b : Int) < (l.length : Int) := by omega
      have HA := hide hA
      have HP := hide hp
      have HO := hide hO
      have HLT := hide hlt
      have HHA := hide ha2
      have HHB := hide hb2
      have HOL := hide holen
      generalize zs[k] = z at *
      clear hk hlt hA hO hp hz holen ha2 hb2
      go_wp2_with fail
      go_region
      have hdr : Below wr.heap.size wr wr.drew := (Below.refl _ wr).drew
      have hOd : OI wr.drew g cg o := (unhide HO).stays (hdr.block g (unhide HO).lt)
      have HAd := hide ((unhide HA).below hdr)
      obtain ⟨c1, c2, fz, hc⟩ := hOd.open
      have hal : a < o.length := by rw [unhide HOL]; exact unhide HHA
      have hbl : b < o.length := by rw [unhide HOL]; exact unhide HHB
      obtain ⟨a1, a2⟩ := hc a hal
      obtain ⟨b1, b2⟩ := hc b hbl
      have H := hide (hOd.set2 a b hal hbl o[b] o[a])
      have HSW := hide (swap_perm o a b hal hbl)
      have HXY : Hid (a = b → o[a] = o[b]) := fun e => by subst e; rfl
      generalize o[a] = X at *
      generalize o[b] = Y at *
      clear c1 c2 hc hdr hOd hz1 HA HO
      generalize wr.drew = wd at *
      by_cases hab : a = b
      · subst hab
        obtain rfl := unhide HXY rfl
        clear b1 b2 hbI
        go_wp2_with fail
        go_region
        go_wp2_with fail
        obtain ⟨r1, r2⟩ := unhide H
        go_roundw
        case rel => exact ⟨k + 1, unhide HLT, by go_num, _, (unhide HSW).trans (unhide HP), (unhide HAd).keepK r2, r1⟩
        case measure => (have := unhide HLT; simp [intOf]; omega)
      · go_wp2_with fail
        go_region
        go_wp2_with fail
        obtain ⟨r1, r2⟩ := unhide H
        go_roundw
        case rel => exact ⟨k + 1, unhide HLT, by go_num, _, (unhide HSW).trans (unhide HP), (unhide HAd).keepK r2, r1⟩
        case measure => (have := unhide HLT; simp [intOf]; omega)
    · have hke : k = zs.length := by omega
      subst hke
      obtain ⟨o, hp, hA, hO⟩ := hI
      have HP := hide hp
      have HOL := hide hp.length_eq
      have HI1 : Hid (PuI w.heap.size w wr qa qb g cg l o 0) := ⟨hA, hO⟩
      clear hA hO hp hk hlt
      go_wp2_with fail
      go_loopw [11] (fun i wr => ∃ k : Nat, k ≤ l.length ∧ i = .int .i64 (k : Int) ∧ PuI w.heap.size w wr qa qb g cg l o k) (fun i _ => l.length - (intOf i).toNat)
      case atStart => exact ⟨0, Nat.zero_le _, rfl, unhide HI1⟩
      case round =>
        clear HI1
        obtain ⟨k, hk, rfl, hI⟩ := hrel
        by_cases hlt : k < l.length
        · have hkI : (k : Int) < (l.length : Int) := by omega
          obtain ⟨hA, hO⟩ := hI
          obtain ⟨bz, oz, c', e0, _, _, hbl, hat, _⟩ := ((unhide HS).below hA.bel).at (by omega)
          simp only [Value.slice.injEq] at e0
          obtain ⟨rfl, _, rfl⟩ := e0
          obtain ⟨a1, a2⟩ := hat k hlt
          have hol : k < o.length := by rw [unhide HOL]; exact hlt
          have HP1 := hide (al_push1 l[k] hA (by rw [length_srt, List.length_take]; have := unhide HL; omega) (by have := unhide HL; omega))
          have HE1 : Hid (ins lowI l[k] (srt lowI (l.take k)) = srt lowI (l.take (k + 1))) := by unfold Hid; rw [← srt_snoc, ← List.take_succ_eq_append_getElem hlt]
          obtain ⟨Y, hY⟩ : ∃ Y, o[k] = Y := ⟨_, rfl⟩
          have HE2 : Hid (ins lowI Y (srt lowI (o.take k)) = srt lowI (o.take (k + 1))) := by unfold Hid; rw [← hY, ← srt_snoc, ← List.take_succ_eq_append_getElem hol]
          have HC : Hid (∀ W, OI W g cg o → W.cell? ⟨g, k * 2, none⟩ = some (.int .i64 Y.1) ∧ W.cell? ⟨g, k * 2 + 1, none⟩ = some (.string Y.2)) := fun W h => by rw [← hY]; exact h.open.2.2.2 k hol
          have HO := hide hO
          have HLT := hide hlt
          have hdd : decide (k < l.length) = true := decide_eq_true hlt
          generalize l[k] = X at *
          clear hk hlt hA hO hat hbl hY hol
          go_wp2_with fail
          refine Calls.mono (unhide HP1) ?_
          rintro e w5 ⟨rfl, hA5, hS5⟩
          rw [unhide HE1] at hA5
          have hO5 : OI w5 g cg o := (unhide HO).stays (hS5 g rfl)
          obtain ⟨b1, b2⟩ := unhide HC _ hO5
          have HP2 := hide (al_push2 Y hA5 (by rw [length_srt, List.length_take]; have := unhide HL; have := unhide HOL; omega) (by have := unhide HL; have := unhide HLT; omega))
          have HO5 := hide hO5
          have hoI : (o.length : Int) = (l.length : Int) := by rw [unhide HOL]
          clear a1 a2 hA5 hS5 hO5 HP1 HO HE1
          go_wp2_with fail
          refine Calls.mono (unhide HP2) ?_
          rintro e w6 ⟨rfl, hA6, hS6⟩
          rw [unhide HE2] at hA6
          have HI6 : Hid (PuI w.heap.size w w6 qa qb g cg l o (k + 1)) := ⟨hA6, (unhide HO5).stays (hS6 g rfl)⟩
          clear b1 b2 hA6 hS6 HP2 HO5 HE2
          go_wp2_with fail
          go_roundw
          case rel => exact ⟨k + 1, unhide HLT, by go_num, unhide HI6⟩
          case measure => (have := unhide HLT; simp [intOf]; omega)
        · have hke : k = l.length := by omega
          subst hke
          obtain ⟨hA, hO⟩ := hI
          obtain ⟨w8, hrun, hom, b8⟩ := make_marks wr l.length (unhide HL)
          obtain ⟨gm, hgm⟩ : ∃ gm, gm = wr.heap.size := ⟨_, rfl⟩
          rw [← hgm] at hrun hom
          obtain ⟨Z, hZ⟩ : ∃ Z, srt lowI l = Z := ⟨_, rfl⟩
          obtain ⟨Z', hZ'⟩ : ∃ Z', srt lowI o = Z' := ⟨_, rfl⟩
          have ht1 : srt lowI (l.take l.length) = Z := by rw [List.take_length, hZ]
          have ht2 : srt lowI (o.take l.length) = Z' := by rw [List.take_of_length_le (Nat.le_of_eq (unhide HOL)), hZ']
          rw [ht1, ht2] at hA
          have HZL : Hid (Z.length = l.length) := by unfold Hid; rw [← hZ, length_srt]
          have HZL' : Hid (Z'.length = l.length) := by unfold Hid; rw [← hZ', length_srt]; exact unhide HOL
          have HRA : Hid (∀ i (h1 : i < Z.length) (h2 : i < Z'.length), Z[i].1 = Z'[i].1) := by subst hZ hZ'; exact fun i h1 h2 => ranks_at (unhide HP) i h1 h2
          have HRU : Hid (∀ i (h1 : i + 1 < Z.length), Z[i].1 ≤ Z[i + 1].1) := by subst hZ; exact fun i h1 => ranks_up l i h1
          obtain ⟨gl, hgl⟩ : ∃ gl, gl = w8.heap.size := ⟨_, rfl⟩
          have hgml : gm < gl := by rw [hgl]; exact hom.lt
          have HI2 : Hid (PoI w.heap.size w (w8.alloc (.cells #[.int .i64 0, .string ⟨#[]⟩] 26)) qa qb gm gl l Z Z' (List.replicate l.length 0) 0 (0, ⟨#[]⟩)) := by
            have b9 : Below w8.heap.size w8 (w8.alloc (.cells #[.int .i64 0, .string ⟨#[]⟩] 26)) := (Below.refl _ _).alloc (Nat.le_refl _) _
            have hlb := LB.new w8 (0, ⟨#[]⟩)
            have hA8 : AL (fun k => k = gm) w.heap.size w w8 qa qb l.length l.length Z Z' := hA.more b8 (fun k hk => Or.inr ⟨by omega, by rw [hk]; exact hom.lt⟩)
            refine ⟨hA8.more b9 (fun k hk => ?_), hom.stays (b9.block gm hom.lt), by rw [hgl]; exact hlb, by omega, List.length_replicate, ?_, fun h => absurd h (Nat.lt_irrefl 0), fun j h => Or.inl (by simp)⟩
            · rcases hk with hk | hk
              · exact Or.inl hk
              · exact Or.inr ⟨by omega, by rw [hk, hgl]; exact hlb.lt⟩
            · rw [um_zero, List.drop_zero, ← hZ]
              exact (srt_perm lowI l).symm
          clear hA hO hk hlt hom b8 hgm hZ hZ' ht1 ht2 HP HOL hgml
          go_wp2_with fail
          rw [← hgl]
          clear hgl
          generalize (w8.alloc (.cells #[.int .i64 0, .string ⟨#[]⟩] 26)) = w9 at *
          go_loopw [14] (fun i wr => ∃ (k : Nat) (x : It) (ms : List Int), k ≤ l.length ∧ i = .int .i64 (k : Int) ∧ PoI w.heap.size w wr qa qb gm gl l Z Z' ms k x) (fun i _ => l.length - (intOf i).toNat)
          case atStart => exact ⟨0, (0, ⟨#[]⟩), _, Nat.zero_le _, rfl, unhide HI2⟩
          case round =>
            clear HI2
            obtain ⟨k, x, ms, hk, rfl, hA, hom, hlb, hgg, hml, hum, hup, h01⟩ := hrel
            by_cases hlt : k < l.length
            · have hkI : (k : Int) < (l.length : Int) := by omega
              have h1 : k < Z.length := by rw [unhide HZL]; exact hlt
              have h2 : k < Z'.length := by rw [unhide HZL']; exact hlt
              rw [List.drop_eq_getElem_cons h1] at hA hum
              rw [List.drop_eq_getElem_cons h2] at hA
              have HP1 := hide (al_pop1 hA)
              have hrk := unhide HRA k h1 h2
              have HU1 : Hid (∀ h : k + 1 < Z.length, Z[k].1 ≤ Z[k + 1].1) := fun h => unhide HRU k h
              have hup1 : 0 < k → x.1 ≤ Z[k].1 := fun h => hup h h1
              have HUM := hide hum
              have HOM := hide hom
              have HLB := hide hlb
              have HGG := hide hgg
              have HML := hide hml
              have H01 := hide h01
              have HLT := hide hlt
              have hdd : decide (k < l.length) = true := decide_eq_true hlt
              obtain ⟨z, hz⟩ : ∃ z, Z[k] = z := ⟨_, rfl⟩
              obtain ⟨z', hz'⟩ : ∃ z', Z'[k] = z' := ⟨_, rfl⟩
              simp only [hz, hz'] at HP1 HU1 HUM hup1 hrk
              have HRK := hide hrk
              clear hrk
              clear hA hom hlb hgg hml hum hup hlt hk hz hz' h1 h2 h01
              go_wp2_with fail
              refine Calls.mono (unhide HP1) ?_
              rintro e w5 ⟨rfl, hA5, hS5⟩
              have b5 : Below w5.heap.size w5 (w5.alloc (.cells #[.int .i64 z.1, .string z.2] 26)) := (Below.refl _ _).alloc (Nat.le_refl _) _
              obtain ⟨ga, hga⟩ : ∃ ga, ga = w5.heap.size := ⟨_, rfl⟩
              have hbx := LB.new w5 z
              rw [← hga] at hbx
              have hA5' : AL (fun k => (k = gm ∨ k = gl) ∨ k = ga) w.heap.size w (w5.alloc (.cells #[.int .i64 z.1, .string z.2] 26)) qa qb l.length l.length (Z.drop (k + 1)) (z' :: Z'.drop (k + 1)) := hA5.more b5 (fun k hk => by
                rcases hk with hk | hk
                · exact Or.inl hk
                · exact Or.inr ⟨by omega, by rw [hk]; exact hbx.lt⟩)
              have hom5 := (unhide HOM).stays (hS5 gm (Or.inl rfl))
              have hlb5 := (unhide HLB).stays (hS5 gl (Or.inr rfl))
              have HOM5 := hide (hom5.stays (b5.block gm hom5.lt))
              have HLB5 := hide (hlb5.stays (b5.block gl hlb5.lt))
              have HBX := hide hbx
              have HP2 := hide (al_pop2 hA5')
              have hgal : gl ≠ ga ∧ gm ≠ ga := ⟨by have := hlb5.lt; omega, by have := hom5.lt; omega⟩
              have HGA := hide hgal
              clear hA5 hS5 HOM HLB HP1 b5 hbx hA5' hom5 hlb5 hgal
              go_wp2_with fail
              rw [← hga]
              generalize (w5.alloc (.cells #[.int .i64 z.1, .string z.2] 26)) = w5' at *
              refine Calls.mono (unhide HP2) ?_
              rintro e w6 ⟨rfl, hA6, hS6⟩
              have hom6 := (unhide HOM5).stays (hS6 gm (Or.inl (Or.inl rfl)))
              have hlb6 := (unhide HLB5).stays (hS6 gl (Or.inl (Or.inr rfl)))
              have hbx6 := (unhide HBX).stays (hS6 ga (Or.inr rfl))
              obtain ⟨y0, y1, _⟩ := hbx6.cells
              obtain ⟨x0, x1, fx⟩ := hlb6.cells
              have HOM6 := hide hom6
              have HLB6 := hide hlb6
              have HBX6 := hide hbx6
              have HA6 := hide hA6
              have hl1 := hlb6.lt
              have hl2 := hbx6.lt
              have hn1 : ¬ w6.heap.size = gl := by omega
              have hn2 : ¬ w6.heap.size = ga := by omega
              have hn3 := (unhide HGA).1
              have hrk' : z'.1 = z.1 := (unhide HRK).symm
              clear hA6 hS6 HOM5 HLB5 HBX HP2 hom6 hlb6 hbx6 HRK hga
              obtain ⟨hlb7, hk7⟩ := (unhide HLB6).set z
              have b7 : Below ((w6.setCell ⟨gl, 0, none⟩ (.int .i64 z.1)).setCell ⟨gl, 1, none⟩ (.string z.2)).heap.size ((w6.setCell ⟨gl, 0, none⟩ (.int .i64 z.1)).setCell ⟨gl, 1, none⟩ (.string z.2)) (((w6.setCell ⟨gl, 0, none⟩ (.int .i64 z.1)).setCell ⟨gl, 1, none⟩ (.string z.2)).alloc (.cells #[.int .i64 z.1, .string z'.2] 26)) := (Below.refl _ _).alloc (Nat.le_refl _) _
              have hom7 := (unhide HOM6).stays (hk7.block gm (unhide HOM6).lt (unhide HGG))
              have hbx7 := (unhide HBX6).stays (hk7.block ga (unhide HBX6).lt (fun e => hn3 e.symm))
              have HA7 := hide ((((unhide HA6).keepK (hk7.weak (fun k hk => Or.inl (Or.inr hk)))).more (K' := fun k => k = gm ∨ k = gl) b7 (fun k hk => Or.inl (Or.inl hk))))
              have HOM7 := hide (hom7.stays (b7.block gm hom7.lt))
              have HLB7 := hide (hlb7.stays (b7.block gl hlb7.lt))
              have HBX7 := hide (hbx7.stays (b7.block ga hbx7.lt))
              clear hlb7 hk7 b7 hom7 hbx7 HA6 HOM6 HLB6 HBX6
              by_cases hk0 : 0 < k
              · have hx : ¬ z.1 < x.1 := by have := hup1 hk0; omega
                have hk0I : (0 : Int) < (k : Int) := by omega
                clear hup1 hk0
                go_wp2_with fail
                clear hx hk0I
                generalize ((((w6.setCell ⟨gl, 0, none⟩ (.int .i64 z.1)).setCell ⟨gl, 1, none⟩ (.string z.2)).alloc (.cells #[.int .i64 z.1, .string z'.2] 26))) = w7 at *
                clear y0 y1 x0 x1 fx hl1 hl2 hn1 hn2 hn3 hrk'
                go_loopw [19, 20] (fun f i wq => ∃ (j : Nat) (fb : Bool), j ≤ l.length ∧ f = .bool fb ∧ i = .int .i64 (j : Int) ∧ InI w7 wq gm l ms z j fb) (fun _ i _ => l.length - (intOf i).toNat)
                case atStart => exact ⟨0, false, Nat.zero_le _, rfl, rfl, Keep.refl _ _, Or.inl ⟨rfl, unhide HOM7, fun j h h' h0 => absurd h0 (Nat.not_lt_zero _)⟩⟩
                case round =>
                  obtain ⟨j, fb, hj, rfl, rfl, hkp, hcase⟩ := hrel
                  rcases hcase with ⟨rfl, hom, hno⟩ | ⟨rfl, jj, hjl, hjm, e1, e2, hom⟩
                  · by_cases hjlt : j < l.length
                    · have hjI : (j : Int) < (l.length : Int) := by omega
                      have hbel : Below w.heap.size w wr := ((unhide HA7).keepK (hkp.weak (fun k hk => Or.inl hk))).bel
                      obtain ⟨bz, oz, c', e0, _, _, hbl, hat, _⟩ := ((unhide HS).below hbel).at (by omega)
                      simp only [Value.slice.injEq] at e0
                      obtain ⟨rfl, _, rfl⟩ := e0
                      obtain ⟨X, hX⟩ : ∃ X, l[j] = X := ⟨_, rfl⟩
                      have a1 : wr.cell? ⟨bz, oz + j * 2, none⟩ = some (.int .i64 X.1) := by rw [← hX]; exact (hat j hjlt).1
                      have a2 : wr.cell? ⟨bz, oz + j * 2 + 1, none⟩ = some (.string X.2) := by rw [← hX]; exact (hat j hjlt).2
                      have hjm : j < ms.length := by rw [unhide HML]; exact hjlt
                      obtain ⟨fm, hcm⟩ := hom.open
                      have m0 := hcm j hjm
                      have hlba : LB wr ga z := (unhide HBX7).stays (hkp.block ga (unhide HBX7).lt (fun e => (unhide HGA).2 e.symm))
                      obtain ⟨y0, y1, _⟩ := hlba.cells
                      have HKP := hide hkp
                      have HJ := hide hjlt
                      have hdj : decide (j < l.length) = true := decide_eq_true hjlt
                      by_cases hm0 : ms[j] = 0
                      · by_cases hle : X = z
                        · have HST : Hid (InI w7 (wr.setCell ⟨gm, j, none⟩ (.int .i64 1)).drew gm l ms z (j + 1) true) := by
                            obtain ⟨s1, s2⟩ := hom.set j 1
                            have hd : Below (wr.setCell ⟨gm, j, none⟩ (.int .i64 1)).heap.size (wr.setCell ⟨gm, j, none⟩ (.int .i64 1)) (wr.setCell ⟨gm, j, none⟩ (.int .i64 1)).drew := (Below.refl _ _).drew
                            exact ⟨(hkp.trans s2 (fun k hk => Or.inl hk)).trans (Keep.of_below (F := fun _ => False) hd) (fun k hk => hk.elim), Or.inr ⟨rfl, j, hjlt, hjm, hm0, hX.trans hle, s1.stays (hd.block gm s1.lt)⟩⟩
                          subst hle
                          rw [hm0] at m0
                          have heq : ∀ W : World, (binOp .eql 26 (.agg #[.int .i64 X.1, .string X.2]) (.agg #[.int .i64 X.1, .string X.2])).run Try.prog W = .ok (.bool true) W := fun W => by
                            have h := it_eql X X W
                            rw [itEq_refl] at h
                            exact h
                          clear hom hno hj hjlt hbel hat hbl hjm hcm hkp hlba hm0 hX
                          go_wp2_with fail
                          go_region
                          go_wp2_with fail
                          go_roundw
                          case rel => exact ⟨j + 1, true, unhide HJ, rfl, by go_num, unhide HST⟩
                          case measure => (have := unhide HJ; simp [intOf]; omega)
                        · have HNX : Hid (InI w7 wr.drew gm l ms z (j + 1) false) := ⟨hkp.trans (Keep.of_below (F := fun _ => False) (Below.refl _ wr).drew) (fun k hk => hk.elim), Or.inl ⟨rfl, hom.stays (((Below.refl wr.heap.size wr).drew).block gm hom.lt), fun i h h' h0 hh => by
                            by_cases hij : i = j
                            · subst hij; exact hle (hX.symm.trans hh.2)
                            · exact hno i h h' (by omega) hh⟩⟩
                          rw [hm0] at m0
                          have heq : ∀ W : World, (binOp .eql 26 (.agg #[.int .i64 X.1, .string X.2]) (.agg #[.int .i64 z.1, .string z.2])).run Try.prog W = .ok (.bool false) W := fun W => by
                            have h := it_eql X z W
                            rw [show itEq X z = false from by rw [Bool.eq_false_iff]; intro h; exact hle (itEq_iff.1 h)] at h
                            exact h
                          clear hom hno hj hjlt hbel hat hbl hjm hcm hkp hlba hm0 hle fm hX
                          go_wp2_with fail
                          go_region
                          go_wp2_with fail
                          go_roundw
                          case rel => exact ⟨j + 1, false, unhide HJ, rfl, by go_num, unhide HNX⟩
                          case measure => (have := unhide HJ; simp [intOf]; omega)
                      · have HNX : Hid (InI w7 wr.drew gm l ms z (j + 1) false) := ⟨hkp.trans (Keep.of_below (F := fun _ => False) (Below.refl _ wr).drew) (fun k hk => hk.elim), Or.inl ⟨rfl, hom.stays (((Below.refl wr.heap.size wr).drew).block gm hom.lt), fun i h h' h0 hh => by
                          by_cases hij : i = j
                          · subst hij; exact hm0 hh.1
                          · exact hno i h h' (by omega) hh⟩⟩
                        rw [(unhide H01 j hjm).resolve_left hm0] at m0
                        clear hm0
                        clear hom hno hj hjlt hbel hat hbl hjm hcm hkp hlba fm hX
                        go_wp2_with fail
                        go_region
                        go_wp2_with fail
                        go_roundw
                        case rel => exact ⟨j + 1, false, unhide HJ, rfl, by go_num, unhide HNX⟩
                        case measure => (have := unhide HJ; simp [intOf]; omega)
                    · exfalso
                      obtain ⟨i, h, h', e1, e2⟩ := um_mem l ms z ((unhide HUM).mem_iff.2 (by simp))
                      exact hno i h h' (by omega) ⟨e1, e2⟩
                  · have HF : Hid (PoI w.heap.size w wr qa qb gm gl l Z Z' (ms.set jj 1) (k + 1) z) := by
                      refine ⟨(unhide HA7).keepK (hkp.weak (fun k hk => Or.inl hk)), hom, (unhide HLB7).stays (hkp.block gl (unhide HLB7).lt (fun e => (unhide HGG) e.symm)), unhide HGG, by rw [List.length_set]; exact unhide HML, ?_, fun _ h => unhide HU1 h, fun i hi => ?_⟩
                      · have := um_set l ms jj hjl hjm e1
                        rw [e2] at this
                        exact (List.perm_cons z).1 (this.symm.trans (unhide HUM))
                      · rw [List.getElem_set]
                        split
                        · exact Or.inr rfl
                        · exact unhide H01 i (by simpa using hi)
                    by_cases hjlt : j < l.length
                    · have hjI : (j : Int) < (l.length : Int) := by omega
                      have hdj : decide (j < l.length) = true := decide_eq_true hjlt
                      clear hj hkp hjl hjm e1 e2 hom hjlt
                      go_wp2_with fail
                      go_roundw
                      case rel => exact ⟨k + 1, z, _, unhide HLT, by go_num, unhide HF⟩
                      case measure => (have := unhide HLT; simp [intOf]; omega)
                    · have hjI : ¬ (j : Int) < (l.length : Int) := by omega
                      clear hj hkp hjl hjm e1 e2 hom hjlt
                      go_wp2_with fail
                      go_roundw
                      case rel => exact ⟨k + 1, z, _, unhide HLT, by go_num, unhide HF⟩
                      case measure => (have := unhide HLT; simp [intOf]; omega)
              · have hk0I : ¬ (0 : Int) < (k : Int) := by omega
                clear hup1 hk0
                go_wp2_with fail
                clear hk0I
                generalize ((((w6.setCell ⟨gl, 0, none⟩ (.int .i64 z.1)).setCell ⟨gl, 1, none⟩ (.string z.2)).alloc (.cells #[.int .i64 z.1, .string z'.2] 26))) = w7 at *
                clear y0 y1 x0 x1 fx hl1 hl2 hn1 hn2 hn3 hrk'
                go_loopw [19, 20] (fun f i wq => ∃ (j : Nat) (fb : Bool), j ≤ l.length ∧ f = .bool fb ∧ i = .int .i64 (j : Int) ∧ InI w7 wq gm l ms z j fb) (fun _ i _ => l.length - (intOf i).toNat)
                case atStart => exact ⟨0, false, Nat.zero_le _, rfl, rfl, Keep.refl _ _, Or.inl ⟨rfl, unhide HOM7, fun j h h' h0 => absurd h0 (Nat.not_lt_zero _)⟩⟩
                case round =>
                  obtain ⟨j, fb, hj, rfl, rfl, hkp, hcase⟩ := hrel
                  rcases hcase with ⟨rfl, hom, hno⟩ | ⟨rfl, jj, hjl, hjm, e1, e2, hom⟩
                  · by_cases hjlt : j < l.length
                    · have hjI : (j : Int) < (l.length : Int) := by omega
                      have hbel : Below w.heap.size w wr := ((unhide HA7).keepK (hkp.weak (fun k hk => Or.inl hk))).bel
                      obtain ⟨bz, oz, c', e0, _, _, hbl, hat, _⟩ := ((unhide HS).below hbel).at (by omega)
                      simp only [Value.slice.injEq] at e0
                      obtain ⟨rfl, _, rfl⟩ := e0
                      obtain ⟨X, hX⟩ : ∃ X, l[j] = X := ⟨_, rfl⟩
                      have a1 : wr.cell? ⟨bz, oz + j * 2, none⟩ = some (.int .i64 X.1) := by rw [← hX]; exact (hat j hjlt).1
                      have a2 : wr.cell? ⟨bz, oz + j * 2 + 1, none⟩ = some (.string X.2) := by rw [← hX]; exact (hat j hjlt).2
                      have hjm : j < ms.length := by rw [unhide HML]; exact hjlt
                      obtain ⟨fm, hcm⟩ := hom.open
                      have m0 := hcm j hjm
                      have hlba : LB wr ga z := (unhide HBX7).stays (hkp.block ga (unhide HBX7).lt (fun e => (unhide HGA).2 e.symm))
                      obtain ⟨y0, y1, _⟩ := hlba.cells
                      have HKP := hide hkp
                      have HJ := hide hjlt
                      have hdj : decide (j < l.length) = true := decide_eq_true hjlt
                      by_cases hm0 : ms[j] = 0
                      · by_cases hle : X = z
                        · have HST : Hid (InI w7 (wr.setCell ⟨gm, j, none⟩ (.int .i64 1)).drew gm l ms z (j + 1) true) := by
                            obtain ⟨s1, s2⟩ := hom.set j 1
                            have hd : Below (wr.setCell ⟨gm, j, none⟩ (.int .i64 1)).heap.size (wr.setCell ⟨gm, j, none⟩ (.int .i64 1)) (wr.setCell ⟨gm, j, none⟩ (.int .i64 1)).drew := (Below.refl _ _).drew
                            exact ⟨(hkp.trans s2 (fun k hk => Or.inl hk)).trans (Keep.of_below (F := fun _ => False) hd) (fun k hk => hk.elim), Or.inr ⟨rfl, j, hjlt, hjm, hm0, hX.trans hle, s1.stays (hd.block gm s1.lt)⟩⟩
                          subst hle
                          rw [hm0] at m0
                          have heq : ∀ W : World, (binOp .eql 26 (.agg #[.int .i64 X.1, .string X.2]) (.agg #[.int .i64 X.1, .string X.2])).run Try.prog W = .ok (.bool true) W := fun W => by
                            have h := it_eql X X W
                            rw [itEq_refl] at h
                            exact h
                          clear hom hno hj hjlt hbel hat hbl hjm hcm hkp hlba hm0 hX
                          go_wp2_with fail
                          go_region
                          go_wp2_with fail
                          go_roundw
                          case rel => exact ⟨j + 1, true, unhide HJ, rfl, by go_num, unhide HST⟩
                          case measure => (have := unhide HJ; simp [intOf]; omega)
                        · have HNX : Hid (InI w7 wr.drew gm l ms z (j + 1) false) := ⟨hkp.trans (Keep.of_below (F := fun _ => False) (Below.refl _ wr).drew) (fun k hk => hk.elim), Or.inl ⟨rfl, hom.stays (((Below.refl wr.heap.size wr).drew).block gm hom.lt), fun i h h' h0 hh => by
                            by_cases hij : i = j
                            · subst hij; exact hle (hX.symm.trans hh.2)
                            · exact hno i h h' (by omega) hh⟩⟩
                          rw [hm0] at m0
                          have heq : ∀ W : World, (binOp .eql 26 (.agg #[.int .i64 X.1, .string X.2]) (.agg #[.int .i64 z.1, .string z.2])).run Try.prog W = .ok (.bool false) W := fun W => by
                            have h := it_eql X z W
                            rw [show itEq X z = false from by rw [Bool.eq_false_iff]; intro h; exact hle (itEq_iff.1 h)] at h
                            exact h
                          clear hom hno hj hjlt hbel hat hbl hjm hcm hkp hlba hm0 hle fm hX
                          go_wp2_with fail
                          go_region
                          go_wp2_with fail
                          go_roundw
                          case rel => exact ⟨j + 1, false, unhide HJ, rfl, by go_num, unhide HNX⟩
                          case measure => (have := unhide HJ; simp [intOf]; omega)
                      · have HNX : Hid (InI w7 wr.drew gm l ms z (j + 1) false) := ⟨hkp.trans (Keep.of_below (F := fun _ => False) (Below.refl _ wr).drew) (fun k hk => hk.elim), Or.inl ⟨rfl, hom.stays (((Below.refl wr.heap.size wr).drew).block gm hom.lt), fun i h h' h0 hh => by
                          by_cases hij : i = j
                          · subst hij; exact hm0 hh.1
                          · exact hno i h h' (by omega) hh⟩⟩
                        rw [(unhide H01 j hjm).resolve_left hm0] at m0
                        clear hm0
                        clear hom hno hj hjlt hbel hat hbl hjm hcm hkp hlba fm hX
                        go_wp2_with fail
                        go_region
                        go_wp2_with fail
                        go_roundw
                        case rel => exact ⟨j + 1, false, unhide HJ, rfl, by go_num, unhide HNX⟩
                        case measure => (have := unhide HJ; simp [intOf]; omega)
                    · exfalso
                      obtain ⟨i, h, h', e1, e2⟩ := um_mem l ms z ((unhide HUM).mem_iff.2 (by simp))
                      exact hno i h h' (by omega) ⟨e1, e2⟩
                  · have HF : Hid (PoI w.heap.size w wr qa qb gm gl l Z Z' (ms.set jj 1) (k + 1) z) := by
                      refine ⟨(unhide HA7).keepK (hkp.weak (fun k hk => Or.inl hk)), hom, (unhide HLB7).stays (hkp.block gl (unhide HLB7).lt (fun e => (unhide HGG) e.symm)), unhide HGG, by rw [List.length_set]; exact unhide HML, ?_, fun _ h => unhide HU1 h, fun i hi => ?_⟩
                      · have := um_set l ms jj hjl hjm e1
                        rw [e2] at this
                        exact (List.perm_cons z).1 (this.symm.trans (unhide HUM))
                      · rw [List.getElem_set]
                        split
                        · exact Or.inr rfl
                        · exact unhide H01 i (by simpa using hi)
                    by_cases hjlt : j < l.length
                    · have hjI : (j : Int) < (l.length : Int) := by omega
                      have hdj : decide (j < l.length) = true := decide_eq_true hjlt
                      clear hj hkp hjl hjm e1 e2 hom hjlt
                      go_wp2_with fail
                      go_roundw
                      case rel => exact ⟨k + 1, z, _, unhide HLT, by go_num, unhide HF⟩
                      case measure => (have := unhide HLT; simp [intOf]; omega)
                    · have hjI : ¬ (j : Int) < (l.length : Int) := by omega
                      clear hj hkp hjl hjm e1 e2 hom hjlt
                      go_wp2_with fail
                      go_roundw
                      case rel => exact ⟨k + 1, z, _, unhide HLT, by go_num, unhide HF⟩
                      case measure => (have := unhide HLT; simp [intOf]; omega)
            · have hke : k = l.length := by omega
              subst hke
              rw [List.drop_eq_nil_of_le (Nat.le_of_eq (unhide HZL)), List.drop_eq_nil_of_le (Nat.le_of_eq (unhide HZL'))] at hA
              have HA := hide hA
              clear hom hlb hgg hml hum hup hk hlt hA h01
              go_wp2_with fail
              refine Calls.mono (al_len1 (unhide HA)) ?_
              rintro e w5 ⟨rfl, b5⟩
              have HA5 := hide ((unhide HA).below b5)
              clear b5 HA
              go_wp2_with fail
              refine Calls.mono (al_len2 (unhide HA5)) ?_
              rintro e w6 ⟨rfl, b6⟩
              have HB6 := hide ((unhide HA5).below b6).bel
              clear b6 HA5
              go_wp2_with fail
              go_ret
              exact ⟨rfl, unhide HB6⟩

set_option maxRecDepth 20000 in
set_option maxHeartbeats 2000000 in
theorem qall_none (s s2 : Value) (zs : List Int) (w : World) (hs : TI w s []) (hs2 : ZR w s2 zs) (hm : zs.length ≤ 1048576) :
    Calls Try.prog 8 #[s, s2] w fun e w' => e = .returned (.bool true) ∧ Below w.heap.size w w' := by
  obtain ⟨p, cap, rfl, k1, k2⟩ := hs.shape
  obtain ⟨p2, cap2, rfl⟩ : ∃ a c, s2 = .slice a zs.length c := by obtain ⟨a, c, e, _⟩ := hs2; exact ⟨a, c, e⟩
  have HS := hide hs
  have hmI : (zs.length : Int) ≤ 1048576 := by omega
  clear hs hs2 hm k1 k2
  go_enter Try.func8, Try.ntmps8
  go_wp2_with fail
  refine Calls.mono (qnew_any lowI _ below_C _) ?_
  rintro e w1 ⟨rfl, q1, b1⟩
  obtain ⟨qa, hqa⟩ : ∃ qa, qa = w.heap.size := ⟨_, rfl⟩
  rw [← hqa] at q1 ⊢
  have HQ1 := hide q1
  have HB1 := hide b1
  have HQA := hide hqa
  clear q1 b1 hqa
  go_wp2_with fail
  refine Calls.mono (qnew_any lowI _ below_C _) ?_
  rintro e w2 ⟨rfl, q2, b2⟩
  obtain ⟨qb, hqb⟩ : ∃ qb, qb = w1.heap.size := ⟨_, rfl⟩
  rw [← hqb] at q2 ⊢
  have HAL : Hid (AL (fun _ => False) w.heap.size w w2 qa qb 0 0 [] []) := by
    have h1 := unhide HQ1
    have h0 := unhide HB1
    have e0 := unhide HQA
    have hlt := h1.lt qa rfl
    exact ⟨⟨_, _, h1.below b2, q2, fun k hk hk' => by omega, fun k hk => ⟨by omega, id⟩, fun k hk => ⟨by have := h0.size; omega, id⟩⟩, fun k hk => hk.elim, h0.trans (b2.mono h0.size), Nat.le_trans h0.size b2.size⟩
  clear q2 b2 hqb HQ1 HB1 HQA
  go_wp2_with fail
  refine Calls.mono (awake_any _) ?_
  rintro e w3 ⟨rfl, b3⟩
  have HAL3 := hide ((unhide HAL).below b3)
  have HT3 : Hid (TI w3 (.slice p 0 cap) []) := hide ((unhide HS).below (unhide HAL3).bel)
  have HSZ : Hid ((([] : List It).length + ([] : List It).length) * 24 ≤ 140737488355328) := by unfold Hid; simp
  clear b3 HAL
  go_wp2_with (first
    | (with_reducible show wpList _ _ _ (Oper.mk _ (Op.call _) _ _ _ _ :: _) _ _; refine wpList_append_items rfl (.const (.slice none 0 0)) (.tmp 33) rfl w3.heap.size (.slice none 0 0) ([] : List It) rfl (World.ownsRow_nil _ _ _ _) (.slice p 0 cap) ([] : List It) rfl (unhide HT3) (unhide HSZ) (Nat.le_refl _) ?_))
  intro v4 w4 hown hgrow hob
  have HA4 : Hid (AL (fun _ => False) w.heap.size w w4 qa qb 0 0 [] []) := (unhide HAL3).below ((Below.refl _ _).grown hgrow (Nat.le_refl _) (fun k hk => by simp [Value.ownBlock] at hk))
  obtain ⟨pg, cg, rfl⟩ : ∃ pg cg, v4 = .slice pg 0 cg := by
    rcases hown.2 with ⟨h', _⟩ | ⟨g', cap', cur, h', _⟩
    · exact ⟨_, _, h'⟩
    · exact ⟨_, _, h'⟩
  clear hown hgrow hob HAL3 HT3
  go_wp2_with fail
  go_loopw [8] (fun i wr => i = .int .i64 0 ∧ wr = w4) (fun _ _ => 0)
  case atStart => exact ⟨rfl, rfl⟩
  case round =>
    obtain ⟨rfl, rfl⟩ := hrel
    obtain ⟨w8, hrun, hom, b8⟩ := make_marks wr 0 (by omega)
    have hrun0 : (Instr.makeSlice 71 (.int .i64 0) (.int .i64 0)).run Try.prog wr = .ok (.slice (some ⟨wr.heap.size, 0, none⟩) 0 0) w8 := hrun
    have HA8 := hide ((unhide HA4).below b8)
    clear hom b8 hrun HA4
    by_cases hz : 0 < zs.length
    · have hzI : (0 : Int) < (zs.length : Int) := by omega
      have hdz : decide (0 < zs.length) = true := decide_eq_true hz
      go_wp2_with fail
      generalize hwr : wr = wr0 at *
      go_loopw [11] (fun i wq => i = .int .i64 0 ∧ wq = wr0) (fun _ _ => 0)
      case atStart => exact ⟨rfl, rfl⟩
      case round =>
        obtain ⟨rfl, e0⟩ := hrel
        subst e0
        go_wp2_with fail
        obtain ⟨w9, hw9⟩ : ∃ w9, w9 = (w8.alloc (.cells #[.int .i64 0, .string ⟨#[]⟩] 26)) := ⟨_, rfl⟩
        have b9 : Below w8.heap.size w8 w9 := by rw [hw9]; exact (Below.refl _ _).alloc (Nat.le_refl _) _
        have HA9 := hide ((unhide HA8).below b9)
        rw [← hw9]
        clear b9 HA8 hw9
        go_loopw [14] (fun i wq => i = .int .i64 0 ∧ wq = w9) (fun _ _ => 0)
        case atStart => exact ⟨rfl, rfl⟩
        case round =>
          obtain ⟨rfl, e0⟩ := hrel
          subst e0
          go_wp2_with fail
          refine Calls.mono (al_len1 (unhide HA9)) ?_
          rintro e w5 ⟨rfl, b5⟩
          have HA5 := hide ((unhide HA9).below b5)
          clear b5 HA9
          go_wp2_with fail
          refine Calls.mono (al_len2 (unhide HA5)) ?_
          rintro e w6 ⟨rfl, b6⟩
          have HB6 := hide ((unhide HA5).below b6).bel
          clear b6 HA5
          go_wp2_with fail
          go_ret
          exact ⟨rfl, unhide HB6⟩
    · have hzI : ¬ (0 : Int) < (zs.length : Int) := by omega
      have hdz : decide (0 < zs.length) = false := decide_eq_false hz
      go_wp2_with fail
      generalize hwr : wr = wr0 at *
      go_loopw [11] (fun i wq => i = .int .i64 0 ∧ wq = wr0) (fun _ _ => 0)
      case atStart => exact ⟨rfl, rfl⟩
      case round =>
        obtain ⟨rfl, e0⟩ := hrel
        subst e0
        go_wp2_with fail
        obtain ⟨w9, hw9⟩ : ∃ w9, w9 = (w8.alloc (.cells #[.int .i64 0, .string ⟨#[]⟩] 26)) := ⟨_, rfl⟩
        have b9 : Below w8.heap.size w8 w9 := by rw [hw9]; exact (Below.refl _ _).alloc (Nat.le_refl _) _
        have HA9 := hide ((unhide HA8).below b9)
        rw [← hw9]
        clear b9 HA8 hw9
        go_loopw [14] (fun i wq => i = .int .i64 0 ∧ wq = w9) (fun _ _ => 0)
        case atStart => exact ⟨rfl, rfl⟩
        case round =>
          obtain ⟨rfl, e0⟩ := hrel
          subst e0
          go_wp2_with fail
          refine Calls.mono (al_len1 (unhide HA9)) ?_
          rintro e w5 ⟨rfl, b5⟩
          have HA5 := hide ((unhide HA9).below b5)
          clear b5 HA9
          go_wp2_with fail
          refine Calls.mono (al_len2 (unhide HA5)) ?_
          rintro e w6 ⟨rfl, b6⟩
          have HB6 := hide ((unhide HA5).below b6).bel
          clear b6 HA5
          go_wp2_with fail
          go_ret
          exact ⟨rfl, unhide HB6⟩

theorem walk_QueueAll (s0 : Value) (d0 : Dt) (s1 : Value) (d1 : Dt) (w : World) (h0 : Reads limUpto w (.row 24 itSh) [s0] d0) (h1 : Reads limUpto w (.row 8 (.int .i64)) [s1] d1) :
    Calls Try.prog 8 #[s0, s1] w fun e w' => e = .returned (.bool true) ∧ Below w.heap.size w w' := by
  obtain ⟨l, hl, hl2⟩ := ti_of_reads h0
  obtain ⟨zs, hz, hz2⟩ := zr_of_reads h1
  cases l with
  | nil => exact qall_none s0 s1 zs w hl hz hz2
  | cons x l => exact qall_any s0 s1 (x :: l) zs w hl hl2 hz hz2 (by simp)
end Go.Proofs.Ytbannlomemkjbaa
