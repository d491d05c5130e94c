/- Texts of ours, one behind the other: BatBackQ, BatRd8, BatArgs. -/
import Derived.Test.YtehnjanllemnlaaG16
import Derived.Test.YtehnjanllemnlaaG22
import Derived.Test.YtehnjanllemnlaaG25
/- A record as bytes is read as it was; nothing here speaks of the program. -/
namespace Go.Proofs.Ytehnjanllemnlaa
open Go.RowKit

theorem num_at (pre post : List UInt8) (v : Nat) (hv : v < 18446744073709551616) : numF (pre ++ varF 9 v ++ post) (pre.length : Nat) 0 = (v, (((pre ++ varF 9 v).length : Nat) : Int), 0) := by
  obtain ⟨e1, e2, e3⟩ := read_written pre post v hv
  unfold numF
  rw [if_neg (by simp), if_neg (by rw [e1]; simp), e2, e3, List.length_append]
theorem most_at (pre post : List UInt8) (v m : Nat) (hv : v < 18446744073709551616) (hm : v ≤ m) : mostF (pre ++ varF 9 v ++ post) m (pre.length : Nat) 0 = (v, (((pre ++ varF 9 v).length : Nat) : Int), 0) := by
  unfold mostF
  rw [num_at pre post v hv, if_neg (by simp), if_neg (by simp only; omega)]
theorem text_at (pre t post : List UInt8) (ht : t.length ≤ 64) : textF (pre ++ (varF 9 t.length ++ t) ++ post) (pre.length : Nat) 0 = (t, (((pre ++ (varF 9 t.length ++ t)).length : Nat) : Int), 0) := by
  obtain ⟨e1, e2, e3⟩ := text_read pre t post 64 (by omega) (by omega)
  unfold txt at e1 e2 e3
  unfold textF
  rw [if_neg (by simp), if_neg (by rw [e1]; simp), e2, e3]
  rw [← List.length_append]
theorem byte_at (pre post : List UInt8) (c : UInt8) : byteF (pre ++ [c] ++ post) (pre.length : Nat) 0 = (c.toNat, (((pre ++ [c]).length : Nat) : Int), 0) := by
  unfold byteF
  rw [if_neg (by simp), if_neg (by simp; omega)]
  rw [Int.toNat_natCast, List.append_assoc, List.drop_left]
  simp [num]
theorem gone_at (pre post : List UInt8) (d : Bool) : goneF (pre ++ [if d then 1 else 0] ++ post) (pre.length : Nat) 0 = (d, (((pre ++ [if d then 1 else 0]).length : Nat) : Int), 0) := by
  unfold goneF
  rw [byte_at]
  cases d <;> simp
theorem key_back (k : ByteArray) : (⟨k.toList.toArray⟩ : ByteArray) = k := bl_inj (ba_list _)
theorem chg_at (pre post : List UInt8) (c : Chg) (hm : mayChg c = true) (ho : c.ok) : chgF (pre ++ chgB c ++ post) (pre.length : Nat) 0 = (c, (((pre ++ chgB c).length : Nat) : Int), 0) := by
  obtain ⟨key, ser, pos, len, del⟩ := c
  obtain ⟨_, o1, _⟩ := ho
  simp only at o1
  unfold mayChg kmayB at hm
  simp only [Bool.and_eq_true, decide_eq_true_eq] at hm
  obtain ⟨⟨k1, k2⟩, hr⟩ := hm
  rw [← bl_len] at k2
  unfold chgF
  cases del with
  | true =>
    simp only [if_true, zeroRef, Bool.and_eq_true, decide_eq_true_eq] at hr
    obtain ⟨⟨rfl, rfl⟩, rfl⟩ := hr
    have eB : chgB ⟨key, 0, 0, 0, true⟩ = (varF 9 key.toList.length ++ key.toList) ++ [1] := by simp [chgB]
    rw [eB]
    have e1 := text_at pre key.toList ([1] ++ post) k2
    have e2 := gone_at (pre ++ (varF 9 key.toList.length ++ key.toList)) post true
    simp only [if_true] at e2
    rw [show pre ++ (varF 9 key.toList.length ++ key.toList ++ [1]) ++ post = pre ++ (varF 9 key.toList.length ++ key.toList) ++ ([1] ++ post) by simp only [List.append_assoc]]
    rw [show pre ++ (varF 9 key.toList.length ++ key.toList) ++ [1] ++ post = pre ++ (varF 9 key.toList.length ++ key.toList) ++ ([1] ++ post) by simp only [List.append_assoc]] at e2
    simp only [e1, e2, if_true, key_back]
    simp only [List.append_assoc]
  | false =>
    simp only [mayRef, Bool.and_eq_true, decide_eq_true_eq, if_neg Bool.false_ne_true] at hr
    obtain ⟨⟨_, hp0, hp1⟩, hl0, hl1⟩ := hr
    obtain ⟨P, rfl⟩ := Int.eq_ofNat_of_zero_le hp0
    obtain ⟨L, rfl⟩ := Int.eq_ofNat_of_zero_le hl0
    have eB : chgB ⟨key, ser, P, L, false⟩ = (varF 9 key.toList.length ++ key.toList) ++ ([0] ++ (varF 9 ser ++ (varF 9 P ++ varF 9 L))) := by simp [chgB]
    rw [eB]
    have e1 := text_at pre key.toList ([0] ++ (varF 9 ser ++ (varF 9 P ++ (varF 9 L ++ post)))) k2
    have e2 := gone_at (pre ++ (varF 9 key.toList.length ++ key.toList)) (varF 9 ser ++ (varF 9 P ++ (varF 9 L ++ post))) false
    have e3 := num_at (pre ++ (varF 9 key.toList.length ++ key.toList) ++ [0]) (varF 9 P ++ (varF 9 L ++ post)) ser o1
    have e4 := most_at (pre ++ (varF 9 key.toList.length ++ key.toList) ++ [0] ++ varF 9 ser) (varF 9 L ++ post) P bigM (by omega) (by unfold bigM; omega)
    have e5 := most_at (pre ++ (varF 9 key.toList.length ++ key.toList) ++ [0] ++ varF 9 ser ++ varF 9 P) post L bigM (by omega) (by unfold bigM; omega)
    simp only [if_neg Bool.false_ne_true] at e2
    simp only [List.append_assoc] at e1 e2 e3 e4 e5 ⊢
    simp only [e1, e2, e3, e4, e5, if_neg Bool.false_ne_true, key_back]
theorem chgs_at (pre post : List UInt8) (l : List Chg) (hm : ∀ c ∈ l, mayChg c = true ∧ c.ok) (n : Nat) (hn : n ≤ l.length) :
    chgsF (pre ++ l.flatMap chgB ++ post) n (pre.length : Nat) 0 = (l.take n, (((pre ++ (l.take n).flatMap chgB).length : Nat) : Int), 0) := by
  induction n with
  | zero => simp [chgsF]
  | succ n ih =>
    have hlt : n < l.length := by omega
    have e : pre ++ l.flatMap chgB ++ post = (pre ++ (l.take n).flatMap chgB) ++ chgB l[n] ++ ((l.drop (n + 1)).flatMap chgB ++ post) := by
      have : l.flatMap chgB = (l.take n).flatMap chgB ++ (chgB l[n] ++ (l.drop (n + 1)).flatMap chgB) := by
        rw [← List.flatMap_cons, ← List.drop_eq_getElem_cons hlt, ← List.flatMap_append, List.take_append_drop]
      rw [this]
      simp only [List.append_assoc]
    have hc := hm l[n] (List.getElem_mem hlt)
    have h2 := chg_at (pre ++ (l.take n).flatMap chgB) ((l.drop (n + 1)).flatMap chgB ++ post) l[n] hc.1 hc.2
    rw [← e] at h2
    rw [chgsF, ih (by omega)]
    simp only [h2]
    have ht : l.take (n + 1) = l.take n ++ [l[n]] := List.take_succ_eq_append_getElem hlt
    rw [ht, List.flatMap_append]
    simp
/-- A record that may be is read as it was, whatever stands behind it. -/
theorem rcd_at (r : Rcd) (post : List UInt8) (hm : mayRcd r = true) (ho : r.ok) : rcdF (rcdB r ++ post) 0 0 = (r, (((rcdB r).length : Nat) : Int), 0) := by
  obtain ⟨kind, seq, chg, mser, frm, to, n⟩ := r
  obtain ⟨_, _, o1, o2, o3, _⟩ := ho
  simp only at o1 o2 o3
  unfold mayRcd at hm
  simp only at hm
  by_cases h1 : kind = 1
  · subst h1
    rw [if_pos rfl] at hm
    unfold mayBat zeroMove at hm
    simp only [Bool.and_eq_true, decide_eq_true_eq] at hm
    obtain ⟨⟨⟨_, l1, l2⟩, hr⟩, ⟨⟨rfl, rfl⟩, rfl⟩, rfl⟩ := hm
    have hR : RiseL chg := by
      rcases Classical.em (RiseL chg) with hx | hx
      · exact hx
      · rw [riseB_false hx] at hr; simp at hr
    have eB : rcdB ⟨1, seq, chg, 0, 0, 0, 0⟩ ++ post = [] ++ [1] ++ (varF 9 seq ++ (varF 9 chg.length ++ (chg.flatMap chgB ++ post))) := by simp [rcdB, batB]
    have eL : (rcdB ⟨1, seq, chg, 0, 0, 0, 0⟩).length = ([1] ++ (varF 9 seq ++ (varF 9 chg.length ++ (chg.flatMap chgB)))).length := by simp [rcdB, batB]
    rw [eB, eL]
    have e1 := byte_at [] (varF 9 seq ++ (varF 9 chg.length ++ (chg.flatMap chgB ++ post))) 1
    have e2 := num_at [1] (varF 9 chg.length ++ (chg.flatMap chgB ++ post)) seq o1
    have e3 := most_at ([1] ++ varF 9 seq) (chg.flatMap chgB ++ post) chg.length 32 (by omega) l2
    have e4 := chgs_at ([1] ++ varF 9 seq ++ varF 9 chg.length) post chg (fun c hc => by
      obtain ⟨i, hi, rfl⟩ := List.mem_iff_getElem.1 hc
      exact ⟨(hR i hi).1, o2 _ hc⟩) chg.length (Nat.le_refl _)
    rw [List.take_length] at e4
    have z : (([] : List UInt8).length : Nat) = ((0 : Nat) : Int) := rfl
    rw [z] at e1
    have z1 : ((([] : List UInt8) ++ [1]).length : Nat) = (1 : Int) := rfl
    rw [z1] at e1
    have z2 : (([1] : List UInt8).length : Nat) = (1 : Int) := rfl
    rw [z2] at e2
    have z3 : (1 : UInt8).toNat = 1 := rfl
    rw [z3] at e1
    simp only [List.append_assoc, List.nil_append] at e1 e2 e3 e4 ⊢
    unfold rcdF batF
    simp only [Int.ofNat_zero] at e1
    simp only [e1, e2, e3, e4, if_true]
  · rw [if_neg h1] at hm
    by_cases h2 : kind = 2
    · subst h2
      rw [if_pos rfl] at hm
      unfold mayMov at hm
      simp only [Bool.and_eq_true, decide_eq_true_eq] at hm
      obtain ⟨⟨⟨⟨⟨⟨rfl, hc⟩, _⟩, f0, f1⟩, t0, t1⟩, _⟩, n0, n1⟩ := hm
      obtain rfl : chg = [] := List.eq_nil_of_length_eq_zero hc
      obtain ⟨F, rfl⟩ := Int.eq_ofNat_of_zero_le f0
      obtain ⟨T, rfl⟩ := Int.eq_ofNat_of_zero_le t0
      obtain ⟨M, rfl⟩ := Int.eq_ofNat_of_zero_le (show 0 ≤ n by omega)
      have eB : rcdB ⟨2, 0, [], mser, F, T, M⟩ ++ post = [] ++ [2] ++ (varF 9 mser ++ (varF 9 F ++ (varF 9 T ++ (varF 9 M ++ post)))) := by simp [rcdB, movB]
      have eL : (rcdB ⟨2, 0, [], mser, F, T, M⟩).length = ([2] ++ (varF 9 mser ++ (varF 9 F ++ (varF 9 T ++ varF 9 M)))).length := by simp [rcdB, movB]
      rw [eB, eL]
      have e1 := byte_at [] (varF 9 mser ++ (varF 9 F ++ (varF 9 T ++ (varF 9 M ++ post)))) 2
      have e2 := num_at [2] (varF 9 F ++ (varF 9 T ++ (varF 9 M ++ post))) mser o3
      have e3 := most_at ([2] ++ varF 9 mser) (varF 9 T ++ (varF 9 M ++ post)) F bigM (by omega) (by unfold bigM; omega)
      have e4 := most_at ([2] ++ varF 9 mser ++ varF 9 F) (varF 9 M ++ post) T bigM (by omega) (by unfold bigM; omega)
      have e5 := most_at ([2] ++ varF 9 mser ++ varF 9 F ++ varF 9 T) post M bigM (by omega) (by unfold bigM; omega)
      have z : (([] : List UInt8).length : Nat) = ((0 : Nat) : Int) := rfl
      rw [z] at e1
      have z1 : ((([] : List UInt8) ++ [2]).length : Nat) = (1 : Int) := rfl
      rw [z1] at e1
      have z2 : (([2] : List UInt8).length : Nat) = (1 : Int) := rfl
      rw [z2] at e2
      have z3 : (2 : UInt8).toNat = 2 := rfl
      rw [z3] at e1
      simp only [List.append_assoc, List.nil_append] at e1 e2 e3 e4 e5 ⊢
      unfold rcdF movF
      simp only [Int.ofNat_zero] at e1
      simp only [e1, e2, e3, e4, e5, if_true]
      rfl
    · rw [if_neg h2] at hm
      cases hm
/-- What is written is read. -/
theorem rcd_read (r : Rcd) (hm : mayRcd r = true) (ho : r.ok) : readF10 (rcdB r) = (r, 0) := by
  have h := rcd_at r [] hm ho
  rw [List.append_nil] at h
  unfold readF10
  rw [h]
  simp [hm]
/-- A byte more is no record. -/
theorem rcd_more (r : Rcd) (c : UInt8) (hm : mayRcd r = true) (ho : r.ok) : (readF10 (rcdB r ++ [c])).2 = 11 := by
  have h := rcd_at r [c] hm ho
  unfold readF10
  rw [h, if_neg (by simp), if_pos (Or.inl (by simp; omega))]
/-- Fewer bytes are none. -/
theorem rcd_less (r : Rcd) (q : Nat) (hm : mayRcd r = true) (ho : r.ok) (hq : q < (rcdB r).length) : (readF10 ((rcdB r).take q)).2 ≠ 0 := by
  intro h
  obtain ⟨m1, o1, e1⟩ := rcd_back _ h
  have h1 := rcd_at _ ((rcdB r).drop q) m1 o1
  rw [e1, List.take_append_drop] at h1
  have h2 := rcd_at r [] hm ho
  rw [List.append_nil] at h2
  have h3 : ((((rcdB r).take q).length : Nat) : Int) = ((rcdB r).length : Nat) := by
    have := h1.symm.trans h2
    exact (Prod.mk.inj (Prod.mk.inj this).2).1
  rw [List.length_take] at h3
  omega
theorem rcd_pos (r : Rcd) : 0 < (rcdB r).length := by
  unfold rcdB
  split <;> simp
end Go.Proofs.Ytehnjanllemnlaa

/- Package batch: Read. -/
namespace Go.Proofs.Ytehnjanllemnlaa
open Go.RowKit

set_option maxRecDepth 20000 in
set_option maxHeartbeats 8000000 in
theorem bread_any (s : Value) (b : List UInt8) (w : World) (hs : Row w s b) (hroom : b.length ≤ 140737488351232) :
    Calls Try.prog 19 #[s] w fun x w' => ∃ v, x = .returned (.tuple #[.agg (rcdA (readF10 b).1 v), .int .i64 (readF10 b).2]) ∧ CL w' v (readF10 b).1.chg ∧ Below w.heap.size w w' := by
  obtain ⟨sp, sc, sl, hsh, hsl⟩ := hs.shape
  obtain ⟨o, ho⟩ : ∃ o, o = Obj.cells #[.int .i64 0, .int .u64 0, .slice none 0 0, .int .u64 0, .int .i64 0, .int .i64 0, .int .i64 0] 39 := ⟨_, rfl⟩
  obtain ⟨o1, ho1⟩ : ∃ o1, o1 = Obj.cells #[s, .int .i64 0, .int .i64 0] 78 := ⟨_, rfl⟩
  have hb0 : Below w.heap.size w ((w.alloc o).alloc o1) := ((Below.refl _ _).alloc (Nat.le_refl _) _).alloc (by simp) _
  have hrd : Rd 78 ((w.alloc o).alloc o1) (w.heap.size + 1) s b 0 0 := by
    refine ⟨⟨0, by unfold At3; rw [ho1]; exact alloc_new' (by simp) _, fun _ => rfl, by omega, by omega⟩, hs.below hb0, fun bb off c e hb => ?_, hroom, fun _ => by omega⟩
    obtain ⟨b', off', cap, e1, _, _, hc⟩ := hs.open hb
    rw [e] at e1
    simp only [Value.slice.injEq, Option.some.injEq, Addr.mk.injEq, and_true] at e1
    obtain ⟨⟨rfl, rfl⟩, _⟩ := e1
    have : bb < w.heap.size := World.block_lt_of_cell? w _ (hc 0 (List.length_pos_iff.2 hb))
    omega
  have hr0 : ((w.alloc o).alloc o1).heap[w.heap.size]? = some o := (alloc_old (by simp) o1).trans (alloc_new w o)
  have hs0 : ((w.alloc o).alloc o1).heap.size = w.heap.size + 2 := by simp
  have HRC := hide (brecord_any (w.heap.size + 1) 0 0 s b _ hrd)
  have HB0 := hide hb0
  have HR0 := hide hr0
  have HS0 := hide hs0
  rw [ho, ho1] at HRC HB0 HR0 HS0
  have hRF : readF10 b = if (rcdF b 0 0).2.2 ≠ 0 then (zeroRcd, (rcdF b 0 0).2.2) else if (rcdF b 0 0).2.1 < b.length ∨ mayRcd (rcdF b 0 0).1 = false then (zeroRcd, 11) else ((rcdF b 0 0).1, 0) := rfl
  have hkd := rcd_kind b 0 0
  generalize readF10 b = RF at *
  generalize rcdF b 0 0 = RS at *
  obtain ⟨R, P, E⟩ := RS
  obtain ⟨R9, E9⟩ := RF
  simp only at HRC hRF hkd ⊢
  have HRF := hide hRF
  have HKD := hide hkd
  subst hsh
  subst hsl
  clear hRF hkd hrd hb0 hr0 hs0 hs ho ho1
  go_enter Try.func19, Try.ntmps19
  go_wp2_with fail
  refine Calls.mono (unhide HRC) ?_
  rintro x w1 ⟨v, rfl, hvs, hcl, r1, k1⟩
  obtain ⟨vp, vc, rfl, _⟩ := KRow.shape hcl
  have hs1 := k1.size
  rw [unhide HS0] at hs1
  obtain ⟨kind, seq, L, mser, frm, to, n⟩ := R
  unfold rcdA
  simp only at hcl hvs
  have hb2 : ∀ o, Below w1.heap.size w1 (w1.alloc o) := fun o => (Below.refl _ _).alloc (Nat.le_refl _) o
  have hbw1 : Below w.heap.size w w1 := (unhide HB0).trans (k1.below (by rw [unhide HS0]; omega) (fun q hq => by omega))
  have B1 : RB w (w1.alloc (.cells #[.int .i64 kind, .int .u64 (seq : Int), .slice vp L.length vc, .int .u64 (mser : Int), .int .i64 frm, .int .i64 to, .int .i64 n] 39)) w1.heap.size (.slice sp b.length sc) b P E ⟨kind, seq, L, mser, frm, to, n⟩ (.slice vp L.length vc) := by
    refine ⟨r1.below (hb2 _), ((hb2 _).block _ (by omega)).trans ((k1.block _ (by rw [unhide HS0]; omega) (by omega)).trans (unhide HR0)), alloc_new _ _, hbw1.trans ((hb2 _).mono hbw1.size), hcl.below (hb2 _), by omega, fun bb off c e hl => ?_⟩
    have := hvs bb off c e hl
    rw [unhide HS0] at this
    omega
  obtain ⟨a, h3, ha, ha1, ha2⟩ := B1.rd.at3
  have HLF := hide (bleft_any (w.heap.size + 1) a E (.slice sp b.length sc) b.length _ ⟨_, _, rfl⟩ h3)
  have HRB := hide B1
  clear B1 h3 hcl hvs r1 k1 hb2 hbw1 HRC HB0 HR0 HS0
  by_cases hL : a < (b.length : Int)
  · by_cases hE : E = 0
    · subst hE
      obtain rfl : a = P := ha rfl
      have hx := unhide HRF
      rw [if_neg (by simp), if_pos (Or.inl hL)] at hx
      obtain ⟨rfl, rfl⟩ : R9 = zeroRcd ∧ E9 = 11 := ⟨(Prod.mk.inj hx).1, (Prod.mk.inj hx).2⟩
      simp only
      clear hx HRF
      rw [decide_eq_true hL] at HLF
      go_wp2_with fail
      refine Calls.mono (unhide HLF) ?_
      rintro x w2 ⟨rfl, b2⟩
      have B2 := (unhide HRB).below b2
      clear HRB b2 HLF
      have hLx := hide hL
      clear hL ha ha1 ha2
      have hct := brefuse_any (w.heap.size + 1) a 0 11 _ b _ B2.rd (by omega)
      rw [if_pos rfl] at hct
      have HCT := hide hct
      have HRB := hide B2
      clear B2 hct
      go_wp2_with fail
      refine Calls.mono (unhide HCT) ?_
      rintro x w4 ⟨rfl, r4, k4⟩
      have B4 := (unhide HRB).refused r4 k4
      clear r4 k4 HCT HRB
      obtain ⟨a4, h34, _⟩ := B4.rd.at3
      obtain ⟨c0, c1, c2, fz4⟩ := h34.cells
      obtain ⟨e0, e1, e2, e3, e4, e5, e6⟩ := seven_cells B4.res
      have fz : ∀ j, w4.frozen? ⟨w.heap.size, j, none⟩ = false := fun j => frozen_of_block B4.res
      have g0 := fz 0
      have g1 := fz 1
      have g2 := fz 2
      have g3 := fz 3
      have g4 := fz 4
      have g5 := fz 5
      have g6 := fz 6
      have HF := hide (B4.fin (((((((keep_set (w := w4) (g := w.heap.size) (j := 0) (v := .int .i64 0)).trans (keep_set (g := w.heap.size) (j := 1) (v := .int .u64 0)) (fun _ h => Or.inl h)).trans (keep_set (g := w.heap.size) (j := 2) (v := .slice none 0 0)) (fun _ h => Or.inl h)).trans (keep_set (g := w.heap.size) (j := 3) (v := .int .u64 0)) (fun _ h => Or.inl h)).trans (keep_set (g := w.heap.size) (j := 4) (v := .int .i64 0)) (fun _ h => Or.inl h)).trans (keep_set (g := w.heap.size) (j := 5) (v := .int .i64 0)) (fun _ h => Or.inl h)).trans (keep_set (g := w.heap.size) (j := 6) (v := .int .i64 0)) (fun _ h => Or.inl h))).1.drew
      clear B4 h34 fz fz4
      go_wp2_with fail
      go_region_with (fail)
      all_goals
        go_wp2
        try simp only [List.getElem_toArray, List.getElem_cons_succ, List.getElem_cons_zero, Act.put, List.setIfInBounds_toArray, List.set_cons_zero, List.set_cons_succ]
        refine bodyPost_ret (v := .tuple #[.agg #[.int .i64 0, .int .u64 0, .slice none 0 0, .int .u64 0, .int .i64 0, .int .i64 0, .int .i64 0], .int .i64 11]) (by simp [results, Try.results19, go_sem, *]) rfl ⟨.slice none 0 0, rfl, CL.nil _, unhide HF⟩
    · have hE1 : (E == 0) = false := by simp [hE]
      have hE2 : (E != 0) = true := by simp [hE]
      have hx := unhide HRF
      rw [if_pos hE] at hx
      obtain ⟨rfl, rfl⟩ : R9 = zeroRcd ∧ E = E9 := ⟨(Prod.mk.inj hx).1, (Prod.mk.inj hx).2.symm⟩
      simp only
      clear hx HRF
      rw [decide_eq_true hL] at HLF
      go_wp2_with fail
      refine Calls.mono (unhide HLF) ?_
      rintro x w2 ⟨rfl, b2⟩
      have B2 := (unhide HRB).below b2
      clear HRB b2 HLF
      clear hL ha ha1 ha2
      have hct := brefuse_any (w.heap.size + 1) P E 11 _ b _ B2.rd (by omega)
      rw [if_neg hE] at hct
      have HCT := hide hct
      have HRB := hide B2
      clear B2 hct
      go_wp2_with fail
      refine Calls.mono (unhide HCT) ?_
      rintro x w4 ⟨rfl, r4, k4⟩
      have B4 := (unhide HRB).refused r4 k4
      clear r4 k4 HCT HRB
      clear hE
      obtain ⟨a4, h34, _⟩ := B4.rd.at3
      obtain ⟨c0, c1, c2, fz4⟩ := h34.cells
      obtain ⟨e0, e1, e2, e3, e4, e5, e6⟩ := seven_cells B4.res
      have fz : ∀ j, w4.frozen? ⟨w.heap.size, j, none⟩ = false := fun j => frozen_of_block B4.res
      have g0 := fz 0
      have g1 := fz 1
      have g2 := fz 2
      have g3 := fz 3
      have g4 := fz 4
      have g5 := fz 5
      have g6 := fz 6
      have HF := hide (B4.fin (((((((keep_set (w := w4) (g := w.heap.size) (j := 0) (v := .int .i64 0)).trans (keep_set (g := w.heap.size) (j := 1) (v := .int .u64 0)) (fun _ h => Or.inl h)).trans (keep_set (g := w.heap.size) (j := 2) (v := .slice none 0 0)) (fun _ h => Or.inl h)).trans (keep_set (g := w.heap.size) (j := 3) (v := .int .u64 0)) (fun _ h => Or.inl h)).trans (keep_set (g := w.heap.size) (j := 4) (v := .int .i64 0)) (fun _ h => Or.inl h)).trans (keep_set (g := w.heap.size) (j := 5) (v := .int .i64 0)) (fun _ h => Or.inl h)).trans (keep_set (g := w.heap.size) (j := 6) (v := .int .i64 0)) (fun _ h => Or.inl h))).1.drew
      clear B4 h34 fz fz4
      go_wp2_with fail
      go_region_with (fail)
      all_goals
        go_wp2
        try simp only [List.getElem_toArray, List.getElem_cons_succ, List.getElem_cons_zero, Act.put, List.setIfInBounds_toArray, List.set_cons_zero, List.set_cons_succ]
        refine bodyPost_ret (v := .tuple #[.agg #[.int .i64 0, .int .u64 0, .slice none 0 0, .int .u64 0, .int .i64 0, .int .i64 0, .int .i64 0], .int .i64 E]) (by simp [results, Try.results19, go_sem, *]) rfl ⟨.slice none 0 0, rfl, CL.nil _, unhide HF⟩
  · cases hM : mayRcd ⟨kind, seq, L, mser, frm, to, n⟩ with
    | false =>
      by_cases hE : E = 0
      · subst hE
        obtain rfl : a = P := ha rfl
        have hx := unhide HRF
        rw [if_neg (by simp), if_pos (Or.inr hM)] at hx
        obtain ⟨rfl, rfl⟩ : R9 = zeroRcd ∧ E9 = 11 := ⟨(Prod.mk.inj hx).1, (Prod.mk.inj hx).2⟩
        simp only
        clear hx HRF
        rw [decide_eq_false hL] at HLF
        go_wp2_with fail
        refine Calls.mono (unhide HLF) ?_
        rintro x w2 ⟨rfl, b2⟩
        have B2 := (unhide HRB).below b2
        clear HRB b2 HLF
        clear hL ha ha1 ha2
        have hmm := bmay_any ⟨kind, seq, L, mser, frm, to, n⟩ (.slice vp L.length vc) w2 B2.cl (by have := unhide HKD; simp only; omega) (by have := unhide HKD; simp only; omega)
        rw [hM] at hmm
        have HMM := hide hmm
        obtain ⟨v0, v1, v2, v3, v4, v5, v6⟩ := seven_cells B2.var
        have HRB := hide B2
        unfold rcdA at HMM
        clear hmm B2
        go_wp2_with fail
        refine Calls.mono (unhide HMM) ?_
        rintro x w3 ⟨rfl, b3⟩
        have B2 := (unhide HRB).below b3
        clear HRB b3 HMM v0 v1 v2 v3 v4 v5 v6
        have hct := brefuse_any (w.heap.size + 1) a 0 11 _ b _ B2.rd (by omega)
        rw [if_pos rfl] at hct
        have HCT := hide hct
        have HRB := hide B2
        clear B2 hct
        go_wp2_with fail
        refine Calls.mono (unhide HCT) ?_
        rintro x w4 ⟨rfl, r4, k4⟩
        have B4 := (unhide HRB).refused r4 k4
        clear r4 k4 HCT HRB
        clear hM
        obtain ⟨a4, h34, _⟩ := B4.rd.at3
        obtain ⟨c0, c1, c2, fz4⟩ := h34.cells
        obtain ⟨e0, e1, e2, e3, e4, e5, e6⟩ := seven_cells B4.res
        have fz : ∀ j, w4.frozen? ⟨w.heap.size, j, none⟩ = false := fun j => frozen_of_block B4.res
        have g0 := fz 0
        have g1 := fz 1
        have g2 := fz 2
        have g3 := fz 3
        have g4 := fz 4
        have g5 := fz 5
        have g6 := fz 6
        have HF := hide (B4.fin (((((((keep_set (w := w4) (g := w.heap.size) (j := 0) (v := .int .i64 0)).trans (keep_set (g := w.heap.size) (j := 1) (v := .int .u64 0)) (fun _ h => Or.inl h)).trans (keep_set (g := w.heap.size) (j := 2) (v := .slice none 0 0)) (fun _ h => Or.inl h)).trans (keep_set (g := w.heap.size) (j := 3) (v := .int .u64 0)) (fun _ h => Or.inl h)).trans (keep_set (g := w.heap.size) (j := 4) (v := .int .i64 0)) (fun _ h => Or.inl h)).trans (keep_set (g := w.heap.size) (j := 5) (v := .int .i64 0)) (fun _ h => Or.inl h)).trans (keep_set (g := w.heap.size) (j := 6) (v := .int .i64 0)) (fun _ h => Or.inl h))).1.drew
        clear B4 h34 fz fz4
        go_wp2_with fail
        go_region_with (fail)
        all_goals
          go_wp2
          try simp only [List.getElem_toArray, List.getElem_cons_succ, List.getElem_cons_zero, Act.put, List.setIfInBounds_toArray, List.set_cons_zero, List.set_cons_succ]
          refine bodyPost_ret (v := .tuple #[.agg #[.int .i64 0, .int .u64 0, .slice none 0 0, .int .u64 0, .int .i64 0, .int .i64 0, .int .i64 0], .int .i64 11]) (by simp [results, Try.results19, go_sem, *]) rfl ⟨.slice none 0 0, rfl, CL.nil _, unhide HF⟩
      · have hE1 : (E == 0) = false := by simp [hE]
        have hE2 : (E != 0) = true := by simp [hE]
        have hx := unhide HRF
        rw [if_pos hE] at hx
        obtain ⟨rfl, rfl⟩ : R9 = zeroRcd ∧ E = E9 := ⟨(Prod.mk.inj hx).1, (Prod.mk.inj hx).2.symm⟩
        simp only
        clear hx HRF
        rw [decide_eq_false hL] at HLF
        go_wp2_with fail
        refine Calls.mono (unhide HLF) ?_
        rintro x w2 ⟨rfl, b2⟩
        have B2 := (unhide HRB).below b2
        clear HRB b2 HLF
        clear hL ha ha1 ha2
        have hmm := bmay_any ⟨kind, seq, L, mser, frm, to, n⟩ (.slice vp L.length vc) w2 B2.cl (by have := unhide HKD; simp only; omega) (by have := unhide HKD; simp only; omega)
        rw [hM] at hmm
        have HMM := hide hmm
        obtain ⟨v0, v1, v2, v3, v4, v5, v6⟩ := seven_cells B2.var
        have HRB := hide B2
        unfold rcdA at HMM
        clear hmm B2
        go_wp2_with fail
        refine Calls.mono (unhide HMM) ?_
        rintro x w3 ⟨rfl, b3⟩
        have B2 := (unhide HRB).below b3
        clear HRB b3 HMM v0 v1 v2 v3 v4 v5 v6
        have hct := brefuse_any (w.heap.size + 1) P E 11 _ b _ B2.rd (by omega)
        rw [if_neg hE] at hct
        have HCT := hide hct
        have HRB := hide B2
        clear B2 hct
        go_wp2_with fail
        refine Calls.mono (unhide HCT) ?_
        rintro x w4 ⟨rfl, r4, k4⟩
        have B4 := (unhide HRB).refused r4 k4
        clear r4 k4 HCT HRB
        clear hE hM
        obtain ⟨a4, h34, _⟩ := B4.rd.at3
        obtain ⟨c0, c1, c2, fz4⟩ := h34.cells
        obtain ⟨e0, e1, e2, e3, e4, e5, e6⟩ := seven_cells B4.res
        have fz : ∀ j, w4.frozen? ⟨w.heap.size, j, none⟩ = false := fun j => frozen_of_block B4.res
        have g0 := fz 0
        have g1 := fz 1
        have g2 := fz 2
        have g3 := fz 3
        have g4 := fz 4
        have g5 := fz 5
        have g6 := fz 6
        have HF := hide (B4.fin (((((((keep_set (w := w4) (g := w.heap.size) (j := 0) (v := .int .i64 0)).trans (keep_set (g := w.heap.size) (j := 1) (v := .int .u64 0)) (fun _ h => Or.inl h)).trans (keep_set (g := w.heap.size) (j := 2) (v := .slice none 0 0)) (fun _ h => Or.inl h)).trans (keep_set (g := w.heap.size) (j := 3) (v := .int .u64 0)) (fun _ h => Or.inl h)).trans (keep_set (g := w.heap.size) (j := 4) (v := .int .i64 0)) (fun _ h => Or.inl h)).trans (keep_set (g := w.heap.size) (j := 5) (v := .int .i64 0)) (fun _ h => Or.inl h)).trans (keep_set (g := w.heap.size) (j := 6) (v := .int .i64 0)) (fun _ h => Or.inl h))).1.drew
        clear B4 h34 fz fz4
        go_wp2_with fail
        go_region_with (fail)
        all_goals
          go_wp2
          try simp only [List.getElem_toArray, List.getElem_cons_succ, List.getElem_cons_zero, Act.put, List.setIfInBounds_toArray, List.set_cons_zero, List.set_cons_succ]
          refine bodyPost_ret (v := .tuple #[.agg #[.int .i64 0, .int .u64 0, .slice none 0 0, .int .u64 0, .int .i64 0, .int .i64 0, .int .i64 0], .int .i64 E]) (by simp [results, Try.results19, go_sem, *]) rfl ⟨.slice none 0 0, rfl, CL.nil _, unhide HF⟩
    | true =>
      by_cases hE : E = 0
      · subst hE
        obtain rfl : a = P := ha rfl
        have hx := unhide HRF
        rw [if_neg (by simp), if_neg (by rw [hM]; simp; omega)] at hx
        obtain ⟨rfl, rfl⟩ : R9 = ⟨kind, seq, L, mser, frm, to, n⟩ ∧ E9 = 0 := ⟨(Prod.mk.inj hx).1, (Prod.mk.inj hx).2⟩
        simp only
        clear hx HRF
        rw [decide_eq_false hL] at HLF
        go_wp2_with fail
        refine Calls.mono (unhide HLF) ?_
        rintro x w2 ⟨rfl, b2⟩
        have B2 := (unhide HRB).below b2
        clear HRB b2 HLF
        clear hL ha ha1 ha2
        have hmm := bmay_any ⟨kind, seq, L, mser, frm, to, n⟩ (.slice vp L.length vc) w2 B2.cl (by have := unhide HKD; simp only; omega) (by have := unhide HKD; simp only; omega)
        rw [hM] at hmm
        have HMM := hide hmm
        obtain ⟨v0, v1, v2, v3, v4, v5, v6⟩ := seven_cells B2.var
        have HRB := hide B2
        unfold rcdA at HMM
        clear hmm B2
        go_wp2_with fail
        refine Calls.mono (unhide HMM) ?_
        rintro x w3 ⟨rfl, b3⟩
        have B2 := (unhide HRB).below b3
        clear HRB b3 HMM v0 v1 v2 v3 v4 v5 v6
        have B4 := B2
        clear hM B2
        obtain ⟨a4, h34, _⟩ := B4.rd.at3
        obtain ⟨c0, c1, c2, fz4⟩ := h34.cells
        obtain ⟨e0, e1, e2, e3, e4, e5, e6⟩ := seven_cells B4.res
        obtain ⟨v0, v1, v2, v3, v4, v5, v6⟩ := seven_cells B4.var
        have fz : ∀ j, w3.frozen? ⟨w.heap.size, j, none⟩ = false := fun j => frozen_of_block B4.res
        have g0 := fz 0
        have g1 := fz 1
        have g2 := fz 2
        have g3 := fz 3
        have g4 := fz 4
        have g5 := fz 5
        have g6 := fz 6
        have hhg := B4.hge
        have n1 : ¬ w1.heap.size = w.heap.size := by omega
        have n2 : ¬ w.heap.size = w1.heap.size := by omega
        have HF := hide (B4.fin (((((((keep_set (w := w3) (g := w.heap.size) (j := 0) (v := .int .i64 kind)).trans (keep_set (g := w.heap.size) (j := 1) (v := .int .u64 (seq : Int))) (fun _ h => Or.inl h)).trans (keep_set (g := w.heap.size) (j := 2) (v := .slice vp L.length vc)) (fun _ h => Or.inl h)).trans (keep_set (g := w.heap.size) (j := 3) (v := .int .u64 (mser : Int))) (fun _ h => Or.inl h)).trans (keep_set (g := w.heap.size) (j := 4) (v := .int .i64 frm)) (fun _ h => Or.inl h)).trans (keep_set (g := w.heap.size) (j := 5) (v := .int .i64 to)) (fun _ h => Or.inl h)).trans (keep_set (g := w.heap.size) (j := 6) (v := .int .i64 n)) (fun _ h => Or.inl h)))
        clear B4 h34 fz fz4 hhg
        go_wp2
        refine bodyPost_ret (v := .tuple #[.agg #[.int .i64 kind, .int .u64 (seq : Int), .slice vp L.length vc, .int .u64 (mser : Int), .int .i64 frm, .int .i64 to, .int .i64 n], .int .i64 0]) (by simp [results, Try.results19, go_sem, *]) rfl ⟨.slice vp L.length vc, rfl, (unhide HF).2, (unhide HF).1⟩
      · have hE1 : (E == 0) = false := by simp [hE]
        have hE2 : (E != 0) = true := by simp [hE]
        have hx := unhide HRF
        rw [if_pos hE] at hx
        obtain ⟨rfl, rfl⟩ : R9 = zeroRcd ∧ E = E9 := ⟨(Prod.mk.inj hx).1, (Prod.mk.inj hx).2.symm⟩
        simp only
        clear hx HRF
        rw [decide_eq_false hL] at HLF
        go_wp2_with fail
        refine Calls.mono (unhide HLF) ?_
        rintro x w2 ⟨rfl, b2⟩
        have B2 := (unhide HRB).below b2
        clear HRB b2 HLF
        clear hL ha ha1 ha2
        have hmm := bmay_any ⟨kind, seq, L, mser, frm, to, n⟩ (.slice vp L.length vc) w2 B2.cl (by have := unhide HKD; simp only; omega) (by have := unhide HKD; simp only; omega)
        rw [hM] at hmm
        have HMM := hide hmm
        obtain ⟨v0, v1, v2, v3, v4, v5, v6⟩ := seven_cells B2.var
        have HRB := hide B2
        unfold rcdA at HMM
        clear hmm B2
        go_wp2_with fail
        refine Calls.mono (unhide HMM) ?_
        rintro x w3 ⟨rfl, b3⟩
        have B2 := (unhide HRB).below b3
        clear HRB b3 HMM v0 v1 v2 v3 v4 v5 v6
        have B4 := B2
        clear hE hM B2
        obtain ⟨a4, h34, _⟩ := B4.rd.at3
        obtain ⟨c0, c1, c2, fz4⟩ := h34.cells
        obtain ⟨e0, e1, e2, e3, e4, e5, e6⟩ := seven_cells B4.res
        have fz : ∀ j, w3.frozen? ⟨w.heap.size, j, none⟩ = false := fun j => frozen_of_block B4.res
        have g0 := fz 0
        have g1 := fz 1
        have g2 := fz 2
        have g3 := fz 3
        have g4 := fz 4
        have g5 := fz 5
        have g6 := fz 6
        have HF := hide (B4.fin (((((((keep_set (w := w3) (g := w.heap.size) (j := 0) (v := .int .i64 0)).trans (keep_set (g := w.heap.size) (j := 1) (v := .int .u64 0)) (fun _ h => Or.inl h)).trans (keep_set (g := w.heap.size) (j := 2) (v := .slice none 0 0)) (fun _ h => Or.inl h)).trans (keep_set (g := w.heap.size) (j := 3) (v := .int .u64 0)) (fun _ h => Or.inl h)).trans (keep_set (g := w.heap.size) (j := 4) (v := .int .i64 0)) (fun _ h => Or.inl h)).trans (keep_set (g := w.heap.size) (j := 5) (v := .int .i64 0)) (fun _ h => Or.inl h)).trans (keep_set (g := w.heap.size) (j := 6) (v := .int .i64 0)) (fun _ h => Or.inl h))).1.drew
        clear B4 h34 fz fz4
        go_wp2_with fail
        go_region_with (fail)
        all_goals
          go_wp2
          try simp only [List.getElem_toArray, List.getElem_cons_succ, List.getElem_cons_zero, Act.put, List.setIfInBounds_toArray, List.set_cons_zero, List.set_cons_succ]
          refine bodyPost_ret (v := .tuple #[.agg #[.int .i64 0, .int .u64 0, .slice none 0 0, .int .u64 0, .int .i64 0, .int .i64 0, .int .i64 0], .int .i64 E]) (by simp [results, Try.results19, go_sem, *]) rfl ⟨.slice none 0 0, rfl, CL.nil _, unhide HF⟩
end Go.Proofs.Ytehnjanllemnlaa

/- Records, changes and operations that came in, by shapes. -/
namespace Go.Proofs.Ytehnjanllemnlaa
open Go.RowKit

def refSh : Sh := .struct (.cons (.int .u64) (.cons (.int .i64) (.cons (.int .i64) .nil)))
def chgSh : Sh := .struct (.cons .str (.cons refSh (.cons .bool .nil)))
def movSh : Sh := .struct (.cons (.int .u64) (.cons (.int .i64) (.cons (.int .i64) (.cons (.int .i64) .nil))))
def rcdSh : Sh := .struct (.cons (.int .i64) (.cons (.int .u64) (.cons (.row 48 chgSh) (.cons movSh .nil))))

theorem chg_of_reads {w : World} {cs : List Value} {d : Dt} (h : Reads limSaid w chgSh cs d) : ∃ c : Chg, cs = chgC c ∧ c.ok := by
  obtain ⟨c1, r1, d1, dr1, rfl, _, rfl, ⟨s, rfl, _, hs, _⟩, c2, r2, d2, dr2, rfl, _, rfl, ⟨c3, r3, d3, dr3, rfl, _, rfl, ⟨n3, rfl, w3, _⟩, c4, r4, d4, dr4, rfl, _, rfl, ⟨n4, rfl, w4, _⟩, c5, r5, d5, dr5, rfl, _, rfl, ⟨n5, rfl, w5, _⟩, rfl, _⟩, c6, r6, d6, dr6, rfl, _, rfl, ⟨b, rfl, _⟩, rfl, _⟩ := h
  have b3 := bounds_u64 w3
  have b4 := bounds_i64 w4
  have b5 := bounds_i64 w5
  unfold limSaid reachBytes at hs
  have e3 : (n3.toNat : Int) = n3 := by omega
  exact ⟨⟨s, n3.toNat, n4, n5, b⟩, by simp [chgC, e3], by simp only; omega, by simp only; omega, by simp only; omega, by simp only; omega, by simp only; omega, by simp only; omega⟩
theorem cl_of_reads {w : World} {v : Value} {d : Dt} (h : Reads limSaid w (.row 48 chgSh) [v] d) : ∃ l : List Chg, CL w v l ∧ (∀ c ∈ l, c.ok) ∧ l.length * 48 ≤ 140737488351232 := by
  obtain ⟨a, cap, l, e, rfl, h1, h2, h3, h4, h5⟩ := h
  simp only [List.cons.injEq, and_true] at e
  subst e
  have hlim : l.length * 48 ≤ 140737488351232 := by unfold limSaid reachBytes at h4; omega
  rcases h5 with rfl | ⟨b, off, rfl, hc⟩
  · exact ⟨[], ⟨a, cap, rfl, h1, h2, h3, by simp, Or.inl rfl⟩, by simp, by simp⟩
  · have hx : ∀ j (h : j < l.length), ∃ c : Chg, (∀ i u, (chgC c)[i]? = some u → w.cell? ⟨b, off + j * 5 + i, none⟩ = some u) ∧ c.ok := by
      intro j hj
      obtain ⟨cs, g1, g2, g3⟩ := hc j hj
      obtain ⟨c, rfl, ho⟩ := chg_of_reads g3
      exact ⟨c, g2, ho⟩
    have hch : ∃ F : Nat → Chg, ∀ j, j < l.length → (∀ i u, (chgC (F j))[i]? = some u → w.cell? ⟨b, off + j * 5 + i, none⟩ = some u) ∧ (F j).ok := by
      refine ⟨fun j => if h : j < l.length then (hx j h).choose else zeroChg, fun j hj => ?_⟩
      simp only [hj, dif_pos]
      exact (hx j hj).choose_spec
    obtain ⟨F, hF⟩ := hch
    have hlen : ((List.range l.length).map F).length = l.length := by simp
    refine ⟨(List.range l.length).map F, ⟨_, cap, by rw [hlen], by rw [hlen]; exact h1, h2, h3, flat_len chgC_len _, Or.inr ⟨b, off, rfl, fun j u hu => ?_⟩⟩, fun c hc => ?_, by rw [hlen]; exact hlim⟩
    · have hjl := (List.getElem?_eq_some_iff.1 hu).1
      rw [flat_len chgC_len, hlen] at hjl
      have hj5 : j / 5 < l.length := by omega
      have hg := flat_get chgC_len ((List.range l.length).map F) (j / 5) (by rw [hlen]; exact hj5) (j % 5) (by omega)
      rw [show j / 5 * 5 + j % 5 = j by omega, hu] at hg
      have e : ((List.range l.length).map F)[j / 5]'(by rw [hlen]; exact hj5) = F (j / 5) := by simp
      rw [e] at hg
      have := (hF (j / 5) hj5).1 (j % 5) u hg.symm
      rw [← this]
      congr 2
      omega
    · simp only [List.mem_map, List.mem_range] at hc
      obtain ⟨j, hj, rfl⟩ := hc
      exact (hF j hj).2
theorem rcd_of_reads {w : World} {cs : List Value} {d : Dt} (h : Reads limSaid w rcdSh cs d) : ∃ (r : Rcd) (v : Value), cs = (rcdA r v).toList ∧ CL w v r.chg ∧ r.ok ∧ r.chg.length * 48 ≤ 140737488351232 := by
  obtain ⟨c1, r1, d1, dr1, rfl, _, rfl, ⟨n1, rfl, w1, _⟩, c2, r2, d2, dr2, rfl, _, rfl, ⟨n2, rfl, w2, _⟩, c3, r3, d3, dr3, rfl, hl3, rfl, h3, c4, r4, d4, dr4, rfl, _, rfl, ⟨c5, r5, d5, dr5, rfl, _, rfl, ⟨n5, rfl, w5, _⟩, c6, r6, d6, dr6, rfl, _, rfl, ⟨n6, rfl, w6, _⟩, c7, r7, d7, dr7, rfl, _, rfl, ⟨n7, rfl, w7, _⟩, c8, r8, d8, dr8, rfl, _, rfl, ⟨n8, rfl, w8, _⟩, rfl, _⟩, rfl, _⟩ := h
  have hc3 : ∃ v, c3 = [v] := by
    match c3, hl3 with
    | [v], _ => exact ⟨v, rfl⟩
  obtain ⟨v, rfl⟩ := hc3
  obtain ⟨l, hl, ho, hr⟩ := cl_of_reads h3
  have b1 := bounds_i64 w1
  have b2 := bounds_u64 w2
  have b5 := bounds_u64 w5
  have b6 := bounds_i64 w6
  have b7 := bounds_i64 w7
  have b8 := bounds_i64 w8
  have e2 : (n2.toNat : Int) = n2 := by omega
  have e5 : (n5.toNat : Int) = n5 := by omega
  refine ⟨⟨n1, n2.toNat, l, n5.toNat, n6, n7, n8⟩, v, by simp [rcdA, e2, e5], hl, ⟨by simp only; omega, by simp only; omega, by simp only; omega, ho, by simp only; omega, by simp only; omega, by simp only; omega, by simp only; omega, by simp only; omega, by simp only; omega, by simp only; omega⟩, hr⟩
end Go.Proofs.Ytehnjanllemnlaa
