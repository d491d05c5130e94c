/- Texts of ours, one behind the other: Plain, ThLoom3, ThLoom4. -/
import Derived.Test.YtlbhhdldeaehkaaGreatG3
import Derived.Test.YtlbhhdldeaehkaaGreatG17
import Derived.WalkKit
import Derived.Laws.BitsAllLaws
import Derived.Laws.CopyOwn
/- The plain half of the proofs about package word: numbers as bytes, rows of bytes in memory; nothing here speaks of the program. -/
namespace Go.Proofs.YtlbhhdldeaehkaaGreat
open Go.RowKit

theorem ret_true {b : Bool} (h : b = true) : Ending.returned (.bool b) = .returned (.bool true) := by rw [h]
theorem hide {p : Prop} (h : p) : Hid p := h
theorem unhide {p : Prop} (h : Hid p) : p := h

/-- A byte as a value. -/
def B (u : UInt8) : Value := .int .u8 (u.toNat : Int)

/-- The bytes of a number as bytes, with fuel: seven bits a byte, the lowest first. -/
def varF : Nat → Nat → List UInt8
  | 0, v => [UInt8.ofNat v]
  | f + 1, v => if v < 128 then [UInt8.ofNat v] else UInt8.ofNat (v % 128 + 128) :: varF f (v / 128)

theorem or128 : ∀ n : Nat, n < 256 → n ||| 128 = n % 128 + 128 := by decide +kernel
theorem bits_or128 (x : Nat) : bits .or .u8 ((x : Int) % 256) 128 = ((UInt8.ofNat (x % 128 + 128)).toNat : Int) := by
  have h : ((x : Int) % 256) = ((x % 256 : Nat) : Int) := by omega
  rw [h, show (128 : Int) = ((128 : Nat) : Int) from rfl, u8_or_nat _ _ (by omega) (by omega), or128 _ (by omega)]
  congr 1
  simp
  omega
theorem B_or128 (x : Nat) : B (UInt8.ofNat (x % 128 + 128)) = .int .u8 (bits .or .u8 ((x : Int) % 256) 128) := by unfold B; rw [bits_or128]
theorem varF_stop (f x : Nat) (h : x < 128) : varF f x = [UInt8.ofNat x] := by cases f <;> simp [varF, h]
theorem varF_go (f x : Nat) (h : 128 ≤ x) : varF (f + 1) x = UInt8.ofNat (x % 128 + 128) :: varF f (x / 128) := by
  rw [varF, if_neg (by omega)]
theorem pow_step (f x : Nat) (h : x < 128 ^ (f + 1 + 1)) : x / 128 < 128 ^ (f + 1) := by
  rw [Nat.div_lt_iff_lt_mul (by omega)]
  rw [Nat.pow_succ 128 (f + 1)] at h
  exact h

/-- v in n bytes, the lowest first. -/
def le (n v : Nat) : List UInt8 := (List.range n).map fun i => UInt8.ofNat (v / 256 ^ i)
theorem length_le (n v : Nat) : (le n v).length = n := by simp [le]
theorem le_succ (n v : Nat) : le (n + 1) v = le n v ++ [UInt8.ofNat (v / 256 ^ n)] := by simp [le, List.range_succ]

theorem le_add (a b v : Nat) : le (a + b) v = le a v ++ le b (v / 256 ^ a) := by
  induction b with
  | zero => simp [le]
  | succ b ih => rw [← Nat.add_assoc, le_succ, ih, le_succ, List.append_assoc, Nat.div_div_eq_div_mul, Nat.pow_add]

/-- The number that bytes are, the lowest first. -/
def num : List UInt8 → Nat
  | [] => 0
  | b :: r => b.toNat + 256 * num r
theorem num_append (a b : List UInt8) : num (a ++ b) = num a + 256 ^ a.length * num b := by
  induction a with
  | nil => simp [num]
  | cons x r ih => simp only [List.cons_append, num, ih, List.length_cons, Nat.pow_succ]; rw [Nat.mul_add, Nat.mul_comm (256 ^ r.length) 256, Nat.mul_assoc]; omega
theorem num_lt (a : List UInt8) : num a < 256 ^ a.length := by
  induction a with
  | nil => simp [num]
  | cons x r ih => have := x.toNat_lt; simp only [num, List.length_cons, Nat.pow_succ]; omega
theorem num_le (n v : Nat) : num (le n v) = v % 256 ^ n := by
  induction n with
  | zero => simp [le, num, Nat.mod_one]
  | succ n ih =>
    rw [le_succ, num_append, ih, length_le]
    simp only [num, Nat.mul_zero, Nat.add_zero]
    rw [Nat.pow_succ, Nat.mod_mul]
    simp

theorem le_num (bs : List UInt8) : le bs.length (num bs) = bs := by
  induction bs with
  | nil => rfl
  | cons x r ih =>
    have hx := x.toNat_lt
    rw [List.length_cons, Nat.add_comm, le_add, num, Nat.pow_one]
    have e1 : (x.toNat + 256 * num r) / 256 = num r := by omega
    rw [e1, ih]
    have e2 : le 1 (x.toNat + 256 * num r) = [x] := by
      simp [le, List.range_succ]
    rw [e2]
    rfl

theorem pow_cast (i : Nat) : (2 : Int) ^ (8 * i) = ((256 ^ i : Nat) : Int) := by
  rw [Int.pow_mul]; norm_cast
theorem put_byte (v i : Nat) : (v : Int) / 2 ^ (8 * i) % 256 = ((UInt8.ofNat (v / 256 ^ i)).toNat : Int) := by
  rw [pow_cast]
  simp
theorem room_div (v n : Nat) : ((v : Int) / 2 ^ (8 * n) == 0) = decide (v < 256 ^ n) := by
  rw [pow_cast, Bool.eq_iff_iff]
  simp only [beq_iff_eq, decide_eq_true_eq]
  have h : (v : Int) / ((256 ^ n : Nat) : Int) = ((v / 256 ^ n : Nat) : Int) := by simp
  rw [h]
  have := Nat.div_eq_zero_iff (a := v) (b := 256 ^ n)
  have hp : 0 < 256 ^ n := Nat.pow_pos (by omega)
  omega
theorem pow_le8 (i : Nat) (h : i < 8) : 256 ^ i * 256 ≤ 18446744073709551616 := by
  have : 256 ^ (i + 1) ≤ 256 ^ 8 := Nat.pow_le_pow_right (by omega) (by omega)
  rw [Nat.pow_succ] at this
  exact this
theorem get_bits (x i : Nat) (c : UInt8) (hi : i < 8) (hx : x < 256 ^ i) :
    bits .or .u64 (x : Int) (IntKind.u64.wrap ((c.toNat : Int) * 2 ^ (8 * i))) = ((x + c.toNat * 256 ^ i : Nat) : Int) := by
  have hc := c.toNat_lt
  have h8 := pow_le8 i hi
  have hm : c.toNat * 256 ^ i ≤ 255 * 256 ^ i := Nat.mul_le_mul_right _ (by omega)
  have e : (c.toNat : Int) * 2 ^ (8 * i) = ((c.toNat * 256 ^ i : Nat) : Int) := by rw [pow_cast]; norm_cast
  rw [e, IntKind.wrap_u64, Int.emod_eq_of_lt (by omega) (by omega), u64_or_nat _ _ (by omega) (by omega)]
  congr 1
  have h2 : 256 ^ i = 2 ^ (8 * i) := by rw [Nat.pow_mul]
  rw [h2] at hx ⊢
  rw [Nat.or_comm, Nat.mul_comm, ← Nat.two_pow_add_eq_or_of_lt hx]
  omega

/-- A slice value that reads as these bytes in this world: whatever its address where there are none. -/
def Row (w : World) (s : Value) (bs : List UInt8) : Prop :=
  ∃ (a : Option Addr) (cap : Nat), s = .slice a bs.length cap ∧ bs.length ≤ cap ∧ cap ≤ maxLen ∧ (a = none → cap = 0) ∧
    (bs = [] ∨ ∃ b off, a = some ⟨b, off, none⟩ ∧ ∀ j (h : j < bs.length), w.cell? ⟨b, off + j, none⟩ = some (B bs[j]))

theorem Row.below {w w' : World} {s : Value} {bs : List UInt8} (h : Row w s bs) (hb : Below w.heap.size w w') : Row w' s bs := by
  obtain ⟨a, cap, hs, h1, h2, h3, h4⟩ := h
  refine ⟨a, cap, hs, h1, h2, h3, ?_⟩
  rcases h4 with h4 | ⟨b, off, ha, hc⟩
  · exact Or.inl h4
  · exact Or.inr ⟨b, off, ha, fun j hj => (hb.cell (World.block_lt_of_cell? w _ (hc j hj))).trans (hc j hj)⟩

theorem Row.nil (w : World) : Row w (.slice none 0 0) [] := ⟨none, 0, rfl, Nat.le_refl _, by unfold maxLen; omega, fun _ => rfl, Or.inl rfl⟩

theorem row_of_owns {w : World} {base e : Nat} {s : Value} {bs : List UInt8} (h : w.ownsRow base e 1 s bs.length (bs.map B)) : Row w s bs := by
  have h0 := h
  rcases h.2 with ⟨rfl, h2⟩ | ⟨g, cap, cur, rfl, hg, hh, hnc, hcp, hcs, htake⟩
  · obtain rfl : bs = [] := List.length_eq_zero_iff.1 h2
    exact Row.nil w
  · refine ⟨_, cap, rfl, hnc, hcp, (by simp), Or.inr ⟨g, 0, rfl, fun j hj => ?_⟩⟩
    rw [Nat.zero_add, h0.cellAt j (by omega)]
    simp [hj]

theorem Row.shape {w : World} {s : Value} {bs : List UInt8} (h : Row w s bs) : ∃ (p : Option Addr) (c l : Nat), s = .slice p l c ∧ bs.length = l := by
  obtain ⟨a, cap, hs, _⟩ := h
  exact ⟨a, cap, bs.length, hs, rfl⟩

theorem Row.open {w : World} {s : Value} {bs : List UInt8} (h : Row w s bs) (hne : bs ≠ []) :
    ∃ b off cap, s = .slice (some ⟨b, off, none⟩) bs.length cap ∧ bs.length ≤ cap ∧ cap ≤ maxLen ∧ ∀ j (h : j < bs.length), w.cell? ⟨b, off + j, none⟩ = some (B bs[j]) := by
  obtain ⟨a, cap, hs, h1, h2, h3, h4⟩ := h
  rcases h4 with h4 | ⟨b, off, ha, hc⟩
  · exact absurd h4 hne
  · subst ha
    exact ⟨b, off, cap, hs, h1, h2, hc⟩

theorem Row.cut {w : World} {bs : List UInt8} {b off : Nat} (hc : ∀ j (h : j < bs.length), w.cell? ⟨b, off + j, none⟩ = some (B bs[j])) (q m cap : Nat) (hq : q + m ≤ bs.length) (hm : m ≤ cap) (hcap : cap ≤ maxLen) :
    Row w (.slice (some ⟨b, off + q, none⟩) m cap) ((bs.drop q).take m) := by
  have hl : ((bs.drop q).take m).length = m := by simp; omega
  refine ⟨some ⟨b, off + q, none⟩, cap, by rw [hl], by rw [hl]; exact hm, hcap, by simp, Or.inr ⟨b, off + q, rfl, fun j hj => ?_⟩⟩
  rw [Nat.add_assoc, hc (q + j) (by omega)]
  simp

/-- A block that is known whole: bytes of the call's own. -/
theorem row_of_block {w : World} {g e : Nat} {bs : List UInt8} (h : w.heap[g]? = some (.cells (bs.map B).toArray e (0, 0))) (o n cap : Nat) (ho : o + n ≤ bs.length) (hn : n ≤ cap) (hc : cap ≤ maxLen) :
    Row w (.slice (some ⟨g, o, none⟩) n cap) ((bs.drop o).take n) := by
  have hl : ((bs.drop o).take n).length = n := by simp; omega
  refine ⟨some ⟨g, o, none⟩, cap, by rw [hl], by rw [hl]; exact hn, hc, by simp, Or.inr ⟨g, o, rfl, fun j hj => ?_⟩⟩
  rw [cell_of_row w g (o + j) _ e (0, 0) h]
  have hj' : o + j < bs.length := by rw [hl] at hj; omega
  simp [hj']
end Go.Proofs.YtlbhhdldeaehkaaGreat

/- The second way through a heap that slides together, as plain data: objects slide, and what is left is the heap compacted; nothing here speaks of the program. -/
namespace Go.Proofs.YtlbhhdldeaehkaaGreat
open Go.RowKit

variable {ws rs l : List Int}
abbrev LmH (ws rs l R : List Int) (t c : Nat) (L : List Int) : Prop := Lm (ws.length + rs.length) c R (hdA ws) (tgt ws rs) (OnH ws rs l t) (valH ws rs l) L

theorem nxt_le (h : Rts ws rs l) {M R : List Int} (hl : l = M ++ R) : (∀ q ∈ R, (nxt ws.length R : Int) ≤ q) ∧ (∀ q ∈ M, q + szA ws q ≤ (nxt ws.length R : Int)) ∧ nxt ws.length R ≤ ws.length := by
  cases R with
  | nil =>
    refine ⟨fun q hq => (by cases hq), fun q hq => ?_, Nat.le_refl _⟩
    have := h.lt (a := q) (by rw [hl]; simpa using hq)
    show q + szA ws q ≤ (ws.length : Int)
    omega
  | cons a R =>
    have ha : a ∈ l := by rw [hl]; simp
    have hal := h.lt ha
    have hp := List.pairwise_append.1 (hl ▸ h.rise)
    refine ⟨fun q hq => ?_, fun q hq => ?_, ?_⟩
    · show ((a.toNat : Nat) : Int) ≤ q
      rcases List.mem_cons.1 hq with rfl | hq
      · omega
      · have := (List.pairwise_cons.1 hp.2.1).1 q hq
        omega
    · show q + szA ws q ≤ ((a.toNat : Nat) : Int)
      have := h.apart' (by rw [hl]; exact List.mem_append_left _ hq) ha (hp.2.2 q hq a (by simp))
      omega
    · show a.toNat ≤ ws.length
      omega

theorem lm_second (h : Rts ws rs l) {L : List Int} (hL : LmG ws rs l ws.length (ws.length + rs.length) ws.length L) : LmH ws rs l l (nxt ws.length l) 1 L ∧ L.take 1 = [0] := by
  obtain ⟨n1, _, n3⟩ := nxt_le h (M := []) (R := l) rfl
  have hp := h.pos
  have hlen := hL.len
  have hO : ∀ s, OnH ws rs l (nxt ws.length l) s ↔ OnG ws rs l ws.length (ws.length + rs.length) ws.length s := fun s => by
    unfold OnG OnH
    constructor
    · rintro ⟨h1, h2, h3, h4, h5⟩
      exact ⟨h1, h2, Or.inl h3, Or.inr ⟨h4, h3⟩⟩
    · rintro ⟨h1, h2, h3, h4⟩
      have hm := (h1.to h).resolve_left h2
      have := h.lt hm
      have := n1 _ hm
      refine ⟨h1, h2, ?_, ?_, ?_⟩ <;> omega
  constructor
  · refine (hL.same hO (val' := valH ws rs l) (fun s _ hs _ => ?_)).up (fun q => ?_) (Nat.zero_le _) (fun x hx => ?_) hlen (fun _ _ => rfl)
    · unfold valH valG
      exact ite_same ⟨fun e => ⟨e, by have := e.bnd h; omega⟩, fun e => e.1⟩
    · constructor
      · intro hq
        have := h.lt hq
        exact ⟨hq, by omega⟩
      · exact fun e => e.1
    · have h1 := hx.1.bnd h
      have h2 := h.lt ((hx.1.to h).resolve_left hx.2.1)
      exact ⟨h1.1, by omega⟩
  · have h0 := hL.off 0 (Nat.le_refl _) (by omega) (fun e => h.nz e) (fun e => by have := e.1.bnd h; omega)
    have hv : valG ws rs l ws.length (ws.length + rs.length) 0 = 0 := by
      unfold valG
      rw [if_neg (fun e => by have := e.1.bnd h; omega), tgt_low (by omega)]
      exact h.zero
    rw [hv] at h0
    cases L with
    | nil => simp at hlen; omega
    | cons x L =>
      simp [wd] at h0
      simp [h0]

/-- The second way: an object's thread is undone. -/
theorem lm_untie2 (_ : Rts ws rs l) {a : Int} {R : List Int} {c : Nat} {L : List Int} (hal : ((a.toNat : Nat) : Int) = a) (hL : LmH ws rs l (a :: R) a.toNat c L) {th : List Nat} (t2 : ∀ s, s ∈ th ↔ OnH ws rs l a.toNat s ∧ tgt ws rs s = a) :
    LmH ws rs l (a :: R) (a.toNat + 1) c ((setAll L th (toA ws l a)).set a.toNat (hdA ws a * 2 + 1)) := by
  refine hL.untie (List.mem_cons_self ..) t2 (fun x => ?_) (fun x h1 h2 => ?_) (fun x _ => rfl)
  · unfold OnH
    constructor
    · rintro ⟨h1, h2, h3, h4, h5⟩
      exact ⟨⟨h1, h2, h3, h4, by omega⟩, by omega⟩
    · rintro ⟨⟨h1, h2, h3, h4, h5⟩, h6⟩
      exact ⟨h1, h2, h3, h4, by omega⟩
  · unfold valH
    rw [if_pos h1.1, h2]

/-- What sliding does to the words: n words from a place go down to another, and a head is written there. -/
def sldL (L : List Int) (a b n : Nat) (h : Int) : List Int := (splice L b ((L.drop a).take n)).set b h
theorem sldL_len {L : List Int} {a b n : Nat} {h : Int} (hb : b ≤ a) (hn : a + n ≤ L.length) : (sldL L a b n h).length = L.length := by
  unfold sldL
  rw [List.length_set, length_splice]
  rw [List.length_take, List.length_drop]
  omega
theorem sldL_high {L : List Int} {a b n i : Nat} {h : Int} (hb : b ≤ a) (hn : a + n ≤ L.length) (h0 : 0 < n) (hi : b + n ≤ i) : wd (sldL L a b n h) i = wd L i := by
  unfold sldL
  rw [wd_set_ne (by omega)]
  unfold wd splice
  rw [List.getElem?_append_right (by simp only [List.length_take]; omega), List.getElem?_append_right (by simp only [List.length_take, List.length_drop]; omega)]
  simp only [List.length_take, List.length_drop, List.getElem?_drop]
  congr 2
  omega
theorem sldL_take {L : List Int} {a b n : Nat} {h : Int} (hb : b ≤ a) (hn : a + n ≤ L.length) (h0 : 0 < n) : (sldL L a b n h).take (b + n) = L.take b ++ h :: ((L.drop (a + 1)).take (n - 1)) := by
  obtain ⟨m, rfl⟩ : ∃ m, n = m + 1 := ⟨n - 1, by omega⟩
  have hd : (L.drop a).take (m + 1) = wd L a :: (L.drop (a + 1)).take m := by
    rw [List.drop_eq_getElem_cons (by omega), List.take_succ_cons]
    simp [wd, show a < L.length by omega]
  unfold sldL splice
  have hbl : (L.take b).length = b := by rw [List.length_take]; omega
  rw [hd, List.set_append_right _ _ (by omega), hbl, Nat.sub_self]
  simp only [List.cons_append, List.set_cons_zero]
  rw [List.take_append, hbl, List.take_of_length_le (by omega), show b + (m + 1) - b = m + 1 by omega, List.take_succ_cons, Nat.add_sub_cancel]
  congr 2
  rw [List.take_append, List.length_take, List.length_drop, List.take_of_length_le (by rw [List.length_take]; omega), show m - min m (L.length - (a + 1)) = 0 by omega, List.take_zero, List.append_nil]

/-- An object slides. -/
theorem lm_slide (h : Rts ws rs l) {M R : List Int} {a : Int} (hl : l = M ++ a :: R) {c : Nat} {L : List Int} (hL : LmH ws rs l (a :: R) (a.toNat + 1) c L) (hp : L.take (1 + sums ws M) = layW (M.map (obT ws (toA ws l)))) :
    LmH ws rs l R (nxt ws.length R) (a.toNat + szA ws a) (sldL L a.toNat (toA ws l a).toNat (szA ws a) (hdA ws a)) ∧ (sldL L a.toNat (toA ws l a).toNat (szA ws a) (hdA ws a)).take (1 + sums ws (M ++ [a])) = layW ((M ++ [a]).map (obT ws (toA ws l))) ∧ 1 + sums ws (M ++ [a]) ≤ a.toNat + szA ws a := by
  have ha : a ∈ l := by rw [hl]; simp
  have hal := h.lt ha
  have hto := h.toLiv.at hl
  have hlow := h.toLiv.low hl
  have hbn := hL.bnd a (List.mem_cons_self ..)
  have hlen := hL.len
  have hn : (toA ws l a).toNat = 1 + sums ws M := by rw [hto, Int.toNat_natCast]
  have hsz := h.toLiv.size ha
  obtain ⟨x1, x2⟩ := nxt_step h hl
  have hnl := nxt_le h (M := M ++ [a]) (R := R) (by rw [hl]; simp)
  have hrise := List.pairwise_append.1 (hl ▸ h.rise)
  rw [hn]
  have hs : sums ws (M ++ [a]) = sums ws M + szA ws a := by rw [sums_app]; rfl
  have hval : ∀ j, j + 1 < szA ws a → wd L (a.toNat + (j + 1)) = valH ws rs l (a.toNat + (j + 1)) := fun j hj => by
    have hnot : ∀ q ∈ l, a.toNat + 1 ≤ q.toNat → ¬ q.toNat ≤ a.toNat + (j + 1) := fun q hq h1 h2 => by
      have hql := h.lt hq
      have := h.apart' ha hq (by omega)
      omega
    refine hL.off _ (by omega) (by omega) (fun e => ?_) (fun e => ?_)
    · rcases List.mem_cons.1 e with e | e
      · omega
      · exact hnot _ (by rw [hl]; exact List.mem_append_right _ (List.mem_cons_of_mem _ e)) (by omega) (by omega)
    · have hm := (e.1.to h).resolve_left e.2.1
      exact hnot _ hm (by have := e.2.2.2.2; omega) (by have := e.2.2.2.1; omega)
  refine ⟨?_, ?_, by rw [hs]; omega⟩
  · have hO : ∀ s, OnH ws rs l (nxt ws.length R) s ↔ OnH ws rs l (a.toNat + 1) s := fun s => by
      unfold OnH
      constructor
      · rintro ⟨h1, h2, h3, h4, h5⟩
        exact ⟨h1, h2, h3, h4, by omega⟩
      · rintro ⟨h1, h2, h3, h4, h5⟩
        exact ⟨h1, h2, h3, h4, x2 _ ((h1.to h).resolve_left h2) (by omega)⟩
    refine (hL.same hO (fun _ _ _ _ => rfl)).up (fun q => ?_) (by omega) (fun x hx => ?_) (by rw [sldL_len (by omega) (by omega)]; exact hlen) (fun i hi => sldL_high (by omega) (by omega) hsz (by omega))
    · constructor
      · intro hq
        have := hnl.1 q hq
        exact ⟨List.mem_cons_of_mem _ hq, by omega⟩
      · rintro ⟨h1, h2⟩
        rcases List.mem_cons.1 h1 with rfl | h1
        · omega
        · exact h1
    · have h5 := hx.2.2.2.2
      have h4 := hx.2.2.2.1
      constructor <;> omega
  · rw [hs, ← Nat.add_assoc, sldL_take (by omega) (by omega) hsz, hp, lay_snoc']
    congr 1
    apply List.ext_getElem?
    intro j
    obtain ⟨g1, g2, g3⟩ := obT_good h.u32 (t := toA ws l) (h.ob a ha)
    cases j with
    | zero =>
      rw [wrdO_good g1, g2]
      rfl
    | succ j =>
      rw [List.getElem?_cons_succ]
      by_cases hj : j + 1 < szA ws a
      · rw [wrd_get h.toLiv hal.2.2.2 (h.ob a ha) hj, List.getElem?_take, if_pos (by omega), List.getElem?_drop, show a.toNat + 1 + j = a.toNat + (j + 1) by omega, wd_get (by omega), hval j hj]
        congr 1
        unfold valH
        by_cases hlt : j < ptN (wd ws a.toNat)
        · rw [if_pos hlt, if_pos (show Slot ws rs l (a.toNat + (j + 1)) from Or.inr ⟨a, ha, by omega, by omega⟩), tgt_low (by omega)]
        · rw [if_neg hlt, if_neg (fun e => by have := Slot.own h e ha (by omega); omega), tgt_low (by omega)]
      · rw [List.getElem?_take, if_neg (by omega), List.getElem?_eq_none]
        rw [g3]
        omega

/-- Behind the second way. -/
theorem lm_end {c : Nat} {L : List Int} (hc : c ≤ ws.length) (hL : LmH ws rs l [] ws.length c L) (hp : L.take (1 + sums ws l) = layW (l.map (obT ws (toA ws l)))) :
    L.take (1 + sums ws l) = cW ws l ∧ L.drop ws.length = cR ws l rs := by
  refine ⟨hp, ?_⟩
  have hlen := hL.len
  apply List.ext_getElem?
  intro j
  rw [List.getElem?_drop]
  by_cases hj : j < rs.length
  · have hS : Slot ws rs l (ws.length + j) := Or.inl ⟨by omega, by omega⟩
    rw [wd_get (by omega), hL.off (ws.length + j) (by omega) (by omega) (by simp) (fun e => by have := e.2.2.1; omega)]
    unfold valH cR
    rw [if_pos hS, tgt_high, List.getElem?_map, wd_get hj]
    rfl
  · rw [List.getElem?_eq_none (by omega), List.getElem?_eq_none (by unfold cR; rw [List.length_map]; omega)]
end Go.Proofs.YtlbhhdldeaehkaaGreat

/- The two ways through a heap, object by object, as plain data; nothing here speaks of the program. -/
namespace Go.Proofs.YtlbhhdldeaehkaaGreat
open Go.RowKit

variable {ws rs l : List Int}
/-- The first way, ahead of an object, and where its thread was undone. -/
def I1 (ws rs l : List Int) (k : Nat) (L : List Int) : Prop := LmG ws rs l (nxt ws.length (l.drop k)) (ws.length + rs.length) (nxt ws.length (l.drop k)) L
def J1 (ws rs l : List Int) (k : Nat) (L : List Int) : Prop := ∀ a, l[k]? = some a → LmG ws rs l a.toNat (ws.length + rs.length) (a.toNat + 1) L ∧ wd L a.toNat = hdA ws a * 2 + 1
/-- The second way. -/
def I2 (ws rs l : List Int) (k : Nat) (L : List Int) : Prop := (∃ c, 1 + sums ws (l.take k) ≤ c ∧ c ≤ ws.length ∧ LmH ws rs l (l.drop k) (nxt ws.length (l.drop k)) c L) ∧ L.take (1 + sums ws (l.take k)) = layW ((l.take k).map (obT ws (toA ws l)))
def J2 (ws rs l : List Int) (k : Nat) (L : List Int) : Prop := ∀ a, l[k]? = some a → (∃ c, 1 + sums ws (l.take k) ≤ c ∧ c ≤ ws.length ∧ LmH ws rs l (l.drop k) (a.toNat + 1) c L) ∧ L.take (1 + sums ws (l.take k)) = layW ((l.take k).map (obT ws (toA ws l))) ∧ wd L a.toNat = hdA ws a * 2 + 1

theorem split_at {k : Nat} (hk : k < l.length) : l.drop k = l[k] :: l.drop (k + 1) ∧ l = l.take k ++ l[k] :: l.drop (k + 1) ∧ l.take (k + 1) = l.take k ++ [l[k]] ∧ l[k]? = some l[k] :=
  ⟨List.drop_eq_getElem_cons hk, by rw [← List.drop_eq_getElem_cons hk, List.take_append_drop], List.take_succ_eq_append_getElem hk, List.getElem?_eq_getElem hk⟩

theorem i1_untie (h : Rts ws rs l) {k : Nat} (hk : k < l.length) {L : List Int} (hI : I1 ws rs l k L) :
    L.length = ws.length + rs.length ∧ ∃ th : List Nat, th.Nodup ∧ (∀ s ∈ th, s < ws.length + rs.length) ∧ Chn L (wd L l[k].toNat) th (hdA ws l[k]) ∧ J1 ws rs l k ((setAll L th (toA ws l l[k])).set l[k].toNat (hdA ws l[k] * 2 + 1)) := by
  obtain ⟨s1, s2, s3, s4⟩ := split_at hk
  have hm : l[k] ∈ l := List.getElem_mem hk
  have hl := h.lt hm
  unfold I1 at hI
  rw [s1] at hI
  change LmG ws rs l l[k].toNat (ws.length + rs.length) l[k].toNat L at hI
  have hlen := hI.len
  obtain ⟨th, t1, t2, t3⟩ := hI.thr l[k] hm
  refine ⟨hlen, th, t1, fun s hs => (hI.on s ((t2 s).1 hs).1).2.1, t3, fun a ha => ?_⟩
  obtain rfl : l[k] = a := by rw [s4] at ha; exact Option.some.inj ha
  exact ⟨lm_untie h hm hI t2, wd_set_eq (by rw [setAll_len]; omega)⟩
/-- What is asked of tying an object's pointers. -/
def P1 (ws rs l : List Int) (a : Int) (j : Nat) (L : List Int) : Prop := LmG ws rs l (a.toNat + 1 + j) (ws.length + rs.length) (a.toNat + 1) L
theorem j1_tie (h : Rts ws rs l) {k : Nat} (hk : k < l.length) {L : List Int} (hJ : J1 ws rs l k L) :
    L.length = ws.length + rs.length ∧ wd L l[k].toNat = hdA ws l[k] * 2 + 1 ∧ P1 ws rs l l[k] 0 L ∧ (∀ L', P1 ws rs l l[k] (ptN (hdA ws l[k])) L' → I1 ws rs l (k + 1) L') ∧
    (∀ j L, j < ptN (hdA ws l[k]) → P1 ws rs l l[k] j L → L.length = ws.length + rs.length ∧ wd L (l[k].toNat + 1 + j) = tgt ws rs (l[k].toNat + 1 + j) ∧ (∃ q : Nat, (q : Int) = tgt ws rs (l[k].toNat + 1 + j) ∧ q < ws.length + rs.length ∧ q ≠ l[k].toNat + 1 + j) ∧ P1 ws rs l l[k] (j + 1) (tieL ws rs L (l[k].toNat + 1 + j))) := by
  obtain ⟨s1, s2, s3, s4⟩ := split_at hk
  have hm : l[k] ∈ l := List.getElem_mem hk
  have hl := h.lt hm
  obtain ⟨j1, j2⟩ := hJ _ s4
  refine ⟨j1.len, j2, lm_object h hm j1, fun L' hP => lm_on h s2 hP, fun j L hj hP => ?_⟩
  obtain ⟨p1, p2⟩ := lm_tie_own h hm hj hP
  have hS : Slot ws rs l (l[k].toNat + 1 + j) := Or.inr ⟨l[k], hm, by omega, by unfold hdA at hj; omega⟩
  refine ⟨hP.len, p1, ?_, p2⟩
  have hb := hS.bnd h
  have hn := hS.nhead h
  rcases hS.to h with h0 | h0
  · exact ⟨0, h0.symm, by omega, by omega⟩
  · have hq := h.lt h0
    exact ⟨_, hq.2.2.2, by omega, fun e => hn (by rw [← e, hq.2.2.2]; exact h0)⟩
/-- The roots. -/
theorem root_tie (h : Rts ws rs l) {j : Nat} (hj : j < rs.length) {L : List Int} (hP : LmG ws rs l 1 (ws.length + j) 1 L) :
    L.length = ws.length + rs.length ∧ wd L (ws.length + j) = tgt ws rs (ws.length + j) ∧ (∃ q : Nat, (q : Int) = tgt ws rs (ws.length + j) ∧ q < ws.length + rs.length ∧ q ≠ ws.length + j) ∧ LmG ws rs l 1 (ws.length + (j + 1)) 1 (tieL ws rs L (ws.length + j)) := by
  obtain ⟨p1, p2⟩ := lm_tie_root h hj hP
  have hS : Slot ws rs l (ws.length + j) := Or.inl ⟨by omega, by omega⟩
  refine ⟨hP.len, p1, ?_, p2⟩
  have hb := hS.bnd h
  have hp := h.pos
  rcases hS.to h with h0 | h0
  · exact ⟨0, h0.symm, by omega, by omega⟩
  · have hq := h.lt h0
    exact ⟨_, hq.2.2.2, by omega, by omega⟩

theorem take_setAll {n : Nat} {v : Int} : ∀ {th : List Nat} {L : List Int}, (∀ s ∈ th, n ≤ s) → (setAll L th v).take n = L.take n
  | [], _, _ => rfl
  | s :: ss, L, h => by
    show (setAll (L.set s v) ss v).take n = _
    rw [take_setAll (fun x hx => h x (List.mem_cons_of_mem _ hx)), List.take_set_of_le (h s (List.mem_cons_self ..))]
theorem i2_start (h : Rts ws rs l) {L : List Int} (hI : I1 ws rs l l.length L) : I2 ws rs l 0 L := by
  unfold I1 at hI
  rw [List.drop_length] at hI
  obtain ⟨h1, h2⟩ := lm_second h hI
  exact ⟨⟨1, Nat.le_refl _, h.pos, h1⟩, h2⟩
theorem i2_untie (h : Rts ws rs l) {k : Nat} (hk : k < l.length) {L : List Int} (hI : I2 ws rs l k L) :
    L.length = ws.length + rs.length ∧ ∃ th : List Nat, th.Nodup ∧ (∀ s ∈ th, s < ws.length + rs.length) ∧ Chn L (wd L l[k].toNat) th (hdA ws l[k]) ∧ J2 ws rs l k ((setAll L th (toA ws l l[k])).set l[k].toNat (hdA ws l[k] * 2 + 1)) := by
  obtain ⟨s1, s2, s3, s4⟩ := split_at hk
  have hm : l[k] ∈ l := List.getElem_mem hk
  have hl := h.lt hm
  obtain ⟨⟨c, c1, c2, hL⟩, hp⟩ := hI
  rw [s1] at hL
  change LmH ws rs l (l[k] :: l.drop (k + 1)) l[k].toNat c L at hL
  have hlen := hL.len
  have hbd := hL.bnd l[k] (List.mem_cons_self ..)
  obtain ⟨th, t1, t2, t3⟩ := hL.thr l[k] (List.mem_cons_self ..)
  refine ⟨hlen, th, t1, fun s hs => (hL.on s ((t2 s).1 hs).1).2.1, t3, fun a ha => ?_⟩
  obtain rfl : l[k] = a := by rw [s4] at ha; exact Option.some.inj ha
  refine ⟨⟨c, c1, c2, ?_⟩, ?_, wd_set_eq (by rw [setAll_len]; omega)⟩
  · rw [s1]
    exact lm_untie2 h hl.2.2.2 hL t2
  · rw [List.take_set_of_le (by omega), take_setAll (fun s hs => by have := (hL.on s ((t2 s).1 hs).1).1; omega)]
    exact hp
theorem j2_slide (h : Rts ws rs l) {k : Nat} (hk : k < l.length) {L : List Int} (hJ : J2 ws rs l k L) :
    L.length = ws.length + rs.length ∧ wd L l[k].toNat = hdA ws l[k] * 2 + 1 ∧ I2 ws rs l (k + 1) (sldL L l[k].toNat (toA ws l l[k]).toNat (szA ws l[k]) (hdA ws l[k])) := by
  obtain ⟨s1, s2, s3, s4⟩ := split_at hk
  have hm : l[k] ∈ l := List.getElem_mem hk
  have hl := h.lt hm
  obtain ⟨⟨c, c1, c2, hL⟩, hp, hw⟩ := hJ _ s4
  rw [s1] at hL
  obtain ⟨a1, a2, a3⟩ := lm_slide h s2 hL hp
  refine ⟨hL.len, hw, ⟨_, ?_, ?_, a1⟩, ?_⟩
  · rw [s3]; exact a3
  · omega
  · rw [s3]; exact a2
theorem i2_end {L : List Int} (hI : I2 ws rs l l.length L) : L.length = ws.length + rs.length ∧ L.take (1 + sums ws l) = cW ws l ∧ L.drop ws.length = cR ws l rs := by
  obtain ⟨⟨c, c1, c2, hL⟩, hp⟩ := hI
  rw [List.drop_length] at hL
  rw [List.take_length] at hp
  exact ⟨hL.len, lm_end c2 hL hp⟩
end Go.Proofs.YtlbhhdldeaehkaaGreat
