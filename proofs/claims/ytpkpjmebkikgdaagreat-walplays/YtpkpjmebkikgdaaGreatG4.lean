/- Texts of ours, one behind the other: TurnBit, WalInv, WalInv2, WalTurn, WalTurn2, WalTurn3. -/
import Derived.Test.YtpkpjmebkikgdaaGreatG1
/- One turned bit of a byte, and of a row of bytes in memory; nothing here speaks of the program. -/
namespace Go.Proofs.YtpkpjmebkikgdaaGreat
open Go.RowKit

theorem shift8 : ∀ r : Nat, r < 8 → (2 ^ r % 256 : Nat) = (UInt8.ofNat (2 ^ r)).toNat := by decide
theorem turn_bit (u : UInt8) (r : Nat) (hr : r < 8) : bits .xor .u8 (u.toNat : Int) ((2 : Int) ^ r % 256) = ((u ^^^ UInt8.ofNat (2 ^ r)).toNat : Int) := by
  have hu := u.toNat_lt
  have e : (2 : Int) ^ r % 256 = ((2 ^ r % 256 : Nat) : Int) := by rw [Int.natCast_emod, Int.natCast_pow]; rfl
  rw [e, u8_xor_nat _ _ (by omega) (by omega), UInt8.toNat_xor, ← shift8 r hr]
theorem set_cells {cur : Array Value} {l : List UInt8} {n q : Nat} {u : UInt8} (h : cur.toList.take n = l.map B) (_hq : q < n) : (cur.setIfInBounds q (B u)).toList.take n = (l.set q u).map B := by
  rw [Array.toList_setIfInBounds, List.take_set, h, List.map_set]
end Go.Proofs.YtpkpjmebkikgdaaGreat

/- What stands in the sectors of a log's ring, whatever falls: records that were written once, what an opening reads of them. Nothing here speaks of the program. -/
namespace Go.Proofs.YtpkpjmebkikgdaaGreat
open Go.RowKit

/-- A record that was written once: its age, its first turn, its bytes. -/
structure Id where
  age : Nat
  first : Nat
  r : List UInt8
def Id.cnt (x : Id) : Nat := (countN x.r.length).toNat
def Id.frame (x : Id) (i : Nat) : Fr := ⟨x.age, x.first, countN x.r.length, partN x.r i⟩
/-- Its sector number i. -/
def Id.sec (x : Id) (i : Nat) : List UInt8 := sealed 77 (x.first + i) (bytesF (x.frame i))
structure Id.Ok (x : Id) : Prop where
  len : x.r.length ≤ 8192
  age : x.age < 18446744073709551616
  first : x.first + 64 < 9223372036854775808
theorem Id.cnt_pos (x : Id) : 1 ≤ x.cnt := by
  have := count_pos (n := x.r.length) (by omega)
  unfold Id.cnt
  omega
theorem Id.cnt_of (x : Id) : (x.cnt : Int) = countN x.r.length := by
  have := count_pos (n := x.r.length) (by omega)
  unfold Id.cnt
  omega
theorem Id.Ok.cnt {x : Id} (h : x.Ok) : x.cnt ≤ 19 := by
  have := count_le (n := x.r.length) (by have := h.len; omega)
  unfold Id.cnt
  omega
theorem Id.Ok.frame {x : Id} (h : x.Ok) (i : Nat) : (x.frame i).ok ∧ mayF (x.frame i) = true := by
  have h1 := count_pos (n := x.r.length) (by omega)
  have h2 := count_le (n := x.r.length) (by have := h.len; omega)
  have h3 := length_part x.r i
  refine ⟨⟨h.age, ?_, ?_, ?_, ?_⟩, part_may _ _ _ _ h.len⟩
  · have := h.first; show x.first < _; omega
  · show _ ≤ countN x.r.length; omega
  · show countN x.r.length ≤ _; omega
  · show (partN x.r i).length ≤ _; omega

theorem open_blankW : openR blank = (0, 0, [], 0) := by
  have h1 : blank.all (· == 0) = true := by
    rw [List.all_eq_true]
    intro x hx
    rw [List.eq_of_mem_replicate hx]
    rfl
  unfold openR
  rw [if_neg (by rw [length_blank]; decide), if_pos h1]
theorem bears_blank (t : Nat) : bearsW blank t = (zeroF, 0) := by
  unfold bearsW
  rw [open_blankW]
  rfl
theorem open_sec {x : Id} (h : x.Ok) (i : Nat) (hi : i < x.cnt) : openR (x.sec i) = (77, x.first + i, bytesF (x.frame i), 0) := by
  have h1 := h.first
  have h2 := h.cnt
  have h3 := length_bytesF (x.frame i)
  have h4 : (x.frame i).data.length ≤ 440 := by show (partN x.r i).length ≤ _; rw [length_part]; omega
  exact open_sealed 77 (x.first + i) (bytesF (x.frame i)) (by decide) (by omega) (by omega)
theorem bears_sec {x : Id} (h : x.Ok) (i : Nat) (hi : i < x.cnt) (t : Nat) : bearsW (x.sec i) t = if x.first + i = t then (x.frame i, 0) else (zeroF, 0) := by
  obtain ⟨f1, f2⟩ := h.frame i
  unfold bearsW
  rw [open_sec h i hi]
  dsimp only
  rw [if_neg (by simp), read_bytes _ f1 f2]
  by_cases ht : x.first + i = t
  · rw [if_pos ht, if_neg (by simp [ht])]; rfl
  · rw [if_neg ht, if_pos (Or.inr ht)]
theorem sec_turn {x y : Id} (hx : x.Ok) (hy : y.Ok) {i j : Nat} (hi : i < x.cnt) (hj : j < y.cnt) (h : x.sec i = y.sec j) : x.age = y.age ∧ x.first = y.first ∧ i = j := by
  have h1 := bears_sec hx i hi (x.first + i)
  have h2 := bears_sec hy j hj (x.first + i)
  rw [if_pos rfl] at h1
  rw [← h, h1] at h2
  by_cases e : y.first + j = x.first + i
  · rw [if_pos e] at h2
    have h3 := congrArg (fun p : Fr × Int => p.1.age) h2
    have h4 := congrArg (fun p : Fr × Int => p.1.first) h2
    simp only [Id.frame] at h3 h4
    exact ⟨h3, h4, by omega⟩
  · rw [if_neg e] at h2
    have h3 := congrArg (fun p : Fr × Int => p.1.of) h2
    simp only [Id.frame, zeroF] at h3
    have := count_pos (n := x.r.length) (by omega)
    omega
theorem sec_blank {x : Id} (hx : x.Ok) {i : Nat} (hi : i < x.cnt) : x.sec i ≠ blank := by
  intro h
  have h1 := bears_sec hx i hi (x.first + i)
  rw [if_pos rfl, h, bears_blank] at h1
  have h3 := congrArg (fun p : Fr × Int => p.1.of) h1
  simp only [Id.frame, zeroF] at h3
  have := count_pos (n := x.r.length) (by omega)
  omega

section
variable {S : Id → Prop} {sh : Nat → List UInt8} {R o : Nat}
/-- All that is seen is blank, or a sector of one of S. -/
def Seen (S : Id → Prop) (sh : Nat → List UInt8) : Prop := ∀ t, sh t = blank ∨ ∃ x i, S x ∧ i < x.cnt ∧ sh t = x.sec i
theorem fr_cases (hS : ∀ x, S x → x.Ok) (hV : Seen S sh) (t : Nat) : (frameW sh R o t).2 = 0 ∧ ((frameW sh R o t).1 = zeroF ∨ ∃ x i, S x ∧ i < x.cnt ∧ sh t = x.sec i ∧ x.first + i = t ∧ (frameW sh R o t).1 = x.frame i) := by
  unfold frameW
  split
  · exact ⟨rfl, Or.inl rfl⟩
  · rcases hV t with h | ⟨x, i, h1, h2, h3⟩
    · rw [h, bears_blank]; exact ⟨rfl, Or.inl rfl⟩
    · rw [h3, bears_sec (hS x h1) i h2]
      split
      · rename_i he
        exact ⟨rfl, Or.inr ⟨x, i, h1, h2, rfl, he, rfl⟩⟩
      · exact ⟨rfl, Or.inl rfl⟩
theorem scan_noerr {fr : Nat → Fr × Int} (hf : ∀ t, (fr t).2 = 0) (h : Fr) : ∀ (k t : Nat) (acc : List Fr), (scanW fr h k t acc).2 = 0
  | 0, _, _ => rfl
  | k + 1, t, acc => by
    unfold scanW
    rw [if_neg (by rw [hf]; simp)]
    split
    · rfl
    · exact scan_noerr hf h k _ _
theorem parts_noerr {fr : Nat → Fr × Int} (hf : ∀ t, (fr t).2 = 0) (A t p : Nat) : (partsW fr A t p).2 = 0 := by
  unfold partsW
  rw [if_neg (by rw [hf]; simp)]
  split
  · rfl
  · exact scan_noerr hf _ _ _ _
/-- Where none of S is whole, of those that may begin there, no record begins. -/
theorem none_here (hS : ∀ x, S x → x.Ok) (hU : ∀ x y, S x → S y → x.age = y.age → x.first = y.first → x = y) (hV : Seen S sh) (A T p : Nat)
    (hno : ∀ x, S x → x.first = T → p ≤ x.age → x.age < A → ∃ i, i < x.cnt ∧ sh (T + i) ≠ x.sec i) : (partsW (frameW sh R o) A T p).2 = 0 ∧ joinE (partsW (frameW sh R o) A T p).1 ≠ 0 := by
  refine ⟨parts_noerr (fun t => (fr_cases hS hV t).1) _ _ _, fun h => ?_⟩
  have hrec : IsRec (partsW (frameW sh R o) A T p).1 := by
    unfold joinE at h
    split at h
    · assumption
    · simp at h
  obtain ⟨a, b, c, d, e⟩ := parts_some sh R o A T p hrec.1
  have hof : 1 ≤ (frameW sh R o T).1.of ∧ (frameW sh R o T).1.first = T ∧ p ≤ (frameW sh R o T).1.age ∧ (frameW sh R o T).1.age < A := by unfold headBad at c; omega
  rcases (fr_cases (R := R) (o := o) hS hV T).2 with hz | ⟨x, i, x1, x2, x3, x4, x5⟩
  · rw [hz] at hof; simp [zeroF] at hof
  · rw [x5] at hof
    obtain ⟨o1, o2, o3, o4⟩ := hof
    have hxT : x.first = T := o2
    obtain ⟨j, j1, j2⟩ := hno x x1 hxT o3 o4
    have hlen : (partsW (frameW sh R o) A T p).1.length = x.cnt := by rw [a, x5]; simp [Id.frame, Id.cnt]
    have hj : j < (partsW (frameW sh R o) A T p).1.length := by omega
    obtain ⟨g1, g2, g3⟩ := isRec_len hrec hj
    have hl : (partsW (frameW sh R o) A T p).1[j] = (frameW sh R o (T + j)).1 := by
      have : (partsW (frameW sh R o) A T p).1[j]? = some ((frameW sh R o (T + j)).1) := by
        rw [a, List.getElem?_map, List.getElem?_range (by rw [x5]; show j < (countN x.r.length).toNat; exact j1)]
        rfl
      rw [List.getElem?_eq_getElem hj] at this
      exact Option.some.inj this
    rw [hl] at g1 g2 g3
    rw [e, x5] at g2 g3
    rcases (fr_cases (R := R) (o := o) hS hV (T + j)).2 with hz | ⟨y, k, y1, y2, y3, y4, y5⟩
    · rw [hz] at g1
      simp only [zeroF] at g1
      omega
    · rw [y5] at g2 g3
      have hxy : y = x := hU y x y1 x1 g2 g3
      subst hxy
      have hk : k = j := by omega
      rw [hk] at y3
      exact j2 y3
theorem scan_all {fr : Nat → Fr × Int} (h : Fr) (g : Nat → Fr) : ∀ (k t : Nat) (acc : List Fr), (∀ i, i < k → fr (t + i) = (g (t + i), 0) ∧ (g (t + i)).first = h.first ∧ (g (t + i)).age = h.age ∧ (g (t + i)).of = h.of) → scanW fr h k t acc = (acc ++ (List.range k).map (fun i => g (t + i)), 0)
  | 0, t, acc, _ => by simp [scanW]
  | k + 1, t, acc, hf => by
    obtain ⟨f1, f2, f3, f4⟩ := hf 0 (by omega)
    rw [Nat.add_zero] at f1 f2 f3 f4
    unfold scanW
    rw [f1]
    rw [if_neg (by simp), if_neg (by simp [f2, f3, f4]), scan_all h g k (t + 1) _ (fun i hi => by have := hf (i + 1) (by omega); rw [show t + (i + 1) = t + 1 + i by omega] at this; exact this)]
    rw [List.range_succ_eq_map, List.map_cons, List.map_map, List.append_assoc]
    have : (fun i => g (t + 1 + i)) = ((fun i => g (t + i)) ∘ Nat.succ) := by
      funext i; simp only [Function.comp, Nat.succ_eq_add_one]; rw [show t + 1 + i = t + (i + 1) by omega]
    rw [this]
    rfl
/-- What a record's sector bears. -/
theorem fr_here {x : Id} (hx : x.Ok) (ho : o ≤ x.first) (hr : x.first + x.cnt ≤ o + R) {i : Nat} (hi : i < x.cnt) (hv : sh (x.first + i) = x.sec i) : frameW sh R o (x.first + i) = (x.frame i, 0) := by
  unfold frameW
  rw [if_neg (by omega), hv, bears_sec hx i hi, if_pos rfl]
/-- A whole record is read. -/
theorem read_here {x : Id} (hx : x.Ok) (ho : o ≤ x.first) (hr : x.first + x.cnt ≤ o + R) (hv : ∀ i, i < x.cnt → sh (x.first + i) = x.sec i) {A p : Nat} (hp : p ≤ x.age) (hA : x.age < A) :
    partsW (frameW sh R o) A x.first p = (framesN x.age x.first x.r, 0) := by
  have hc := x.cnt_pos
  have h0 := fr_here (sh := sh) hx ho hr (i := 0) (by omega) (hv 0 (by omega))
  rw [Nat.add_zero] at h0
  have hcc := x.cnt_of
  unfold partsW
  rw [h0]
  dsimp only
  rw [if_neg (by simp), if_neg (by unfold headBad Id.frame; dsimp only; omega)]
  rw [show ((x.frame 0).of.toNat - 1) = x.cnt - 1 from rfl]
  rw [scan_all (x.frame 0) (fun t => x.frame (t - x.first)) _ _ _ (fun i hi => by
    rw [show x.first + 1 + i = x.first + (i + 1) by omega, fr_here hx ho hr (by omega) (hv (i + 1) (by omega))]
    rw [show x.first + (i + 1) - x.first = i + 1 by omega]
    exact ⟨rfl, rfl, rfl, rfl⟩)]
  have : framesN x.age x.first x.r = (List.range x.cnt).map x.frame := rfl
  rw [this, show x.cnt = (x.cnt - 1) + 1 by omega, List.range_succ_eq_map, List.map_cons, List.map_map]
  have : (fun i => x.frame (x.first + 1 + i - x.first)) = (x.frame ∘ Nat.succ) := by
    funext i; simp only [Function.comp, Nat.succ_eq_add_one]; rw [show x.first + 1 + i - x.first = i + 1 by omega]
  rw [this]
  rfl
theorem join_here {x : Id} (hx : x.Ok) : joinE (framesN x.age x.first x.r) = 0 ∧ joinB (framesN x.age x.first x.r) = x.r ∧ ((framesN x.age x.first x.r).headD zeroF).age = x.age ∧ (framesN x.age x.first x.r).length = x.cnt := by
  have h1 := isRec_frames x.age x.first x.r hx.len
  refine ⟨by unfold joinE; rw [if_pos h1], by unfold joinB; rw [if_pos h1, flat_frames], (head_frames _ _ _).1, ?_⟩
  have := length_frames x.age x.first x.r
  have := x.cnt_of
  omega

/-- Records one behind the other, from a turn on to a turn. -/
def chain : Nat → List Id → Nat → Prop
  | t, [], e => t = e
  | t, x :: l, e => x.first = t ∧ chain (t + x.cnt) l e
def rising : Nat → List Id → Prop
  | _, [] => True
  | p, x :: l => p ≤ x.age ∧ rising x.age l
def lastAge : Nat → List Id → Nat
  | p, [] => p
  | _, x :: l => lastAge x.age l
theorem chain_append : ∀ (l1 l2 : List Id) (t e : Nat), chain t (l1 ++ l2) e ↔ ∃ m, chain t l1 m ∧ chain m l2 e
  | [], l2, t, e => by simp [chain]
  | x :: l1, l2, t, e => by
    simp only [List.cons_append, chain, chain_append l1 l2]
    constructor
    · rintro ⟨h, m, h1, h2⟩; exact ⟨m, ⟨h, h1⟩, h2⟩
    · rintro ⟨m, ⟨h, h1⟩, h2⟩; exact ⟨h, m, h1, h2⟩
theorem chain_le : ∀ (l : List Id) (t e : Nat), chain t l e → t + l.length ≤ e
  | [], t, e, h => by simp [chain] at h; simp; omega
  | x :: l, t, e, h => by
    have h1 := chain_le l _ _ h.2
    have := x.cnt_pos
    simp only [List.length_cons]
    omega
theorem chain_mem : ∀ (l : List Id) (t e : Nat), chain t l e → ∀ x ∈ l, t ≤ x.first ∧ x.first + x.cnt ≤ e
  | y :: l, t, e, h, x, hx => by
    rcases List.mem_cons.1 hx with rfl | hx
    · have := chain_le l _ _ h.2
      have := h.1
      omega
    · have := chain_mem l _ _ h.2 x hx
      omega
theorem rising_append : ∀ (l1 l2 : List Id) (p : Nat), rising p (l1 ++ l2) ↔ rising p l1 ∧ rising (lastAge p l1) l2
  | [], l2, p => by simp [rising, lastAge]
  | x :: l1, l2, p => by simp only [List.cons_append, rising, lastAge, rising_append l1 l2, and_assoc]
theorem lastAge_append : ∀ (l1 : List Id) (x : Id) (p : Nat), lastAge p (l1 ++ [x]) = x.age
  | [], _, _ => rfl
  | _ :: l1, x, _ => lastAge_append l1 x _
theorem rising_last : ∀ (l : List Id) (p A : Nat), (∀ x ∈ l, x.age ≤ A) → p ≤ A → lastAge p l ≤ A
  | [], _, _, _, h => h
  | x :: l, _, A, h, _ => rising_last l x.age A (fun y hy => h y (by simp [hy])) (h x (by simp))
theorem rising_weak {p q : Nat} (h : p ≤ q) : ∀ {l : List Id}, rising q l → rising p l
  | [], _ => trivial
  | _ :: _, h1 => ⟨Nat.le_trans h h1.1, h1.2⟩
def LG.addAll (L : LG) (l : List Id) : LG := { L with starts := L.starts ++ l.map (fun x => (x.first, x.age)), next := (l.foldl (fun t x => t + x.cnt) L.next) }
theorem chain_end : ∀ (l : List Id) (t e : Nat), chain t l e → l.foldl (fun t x => t + x.cnt) t = e
  | [], _, _, h => h
  | x :: l, t, e, h => by rw [List.foldl_cons]; exact chain_end l _ _ h.2

/-- What an opening reads: the whole records, up to where none begins. -/
theorem recall_chain (A : Nat) : ∀ (l : List Id) (fuel p : Nat) (recs : List (List UInt8)) (L : LG) (e : Nat), o ≤ L.next → chain L.next l e → (∀ x ∈ l, x.Ok ∧ x.age < A ∧ ∀ i, i < x.cnt → sh (x.first + i) = x.sec i) → e ≤ o + R → rising p l → l.length < fuel →
    ((partsW (frameW sh R o) A e (lastAge p l)).2 = 0 ∧ joinE (partsW (frameW sh R o) A e (lastAge p l)).1 ≠ 0) → recallW (frameW sh R o) A fuel p recs L = (recs ++ l.map Id.r, L.addAll l, 0)
  | [], fuel, p, recs, L, e, _, hc, _, _, _, hf, hs => by
    cases fuel with
    | zero => simp at hf
    | succ k =>
      have he : L.next = e := hc
      unfold recallW
      rw [he]
      rw [if_neg (by rw [show lastAge p [] = p from rfl] at hs; rw [hs.1]; simp), if_pos (by exact hs.2)]
      simp [LG.addAll]
  | x :: l, fuel, p, recs, L, e, ho, hc, hv, hr, hri, hf, hs => by
    cases fuel with
    | zero => simp at hf
    | succ k =>
      obtain ⟨v1, v2, v3⟩ := hv x (by simp)
      have hcx := (chain_mem _ _ _ hc x (by simp)).2
      have hrd := read_here (o := o) (R := R) (sh := sh) v1 (by have := hc.1; omega) (by omega) v3 hri.1 v2
      obtain ⟨j1, j2, j3, j4⟩ := join_here v1
      have hx : L.next = x.first := hc.1.symm
      unfold recallW
      rw [hx, hrd]
      dsimp only
      rw [if_neg (by simp), if_neg (by rw [j1]; simp), j2, j3, j4]
      have hLn : (L.add x.age x.cnt).next = L.next + x.cnt := rfl
      rw [recall_chain A l k x.age _ _ e (by rw [hLn]; omega) (by rw [hLn]; exact hc.2) (fun y hy => hv y (by simp [hy])) hr hri.2 (by simpa using hf) hs]
      simp [LG.addAll, LG.add, hx]
end
end Go.Proofs.YtpkpjmebkikgdaaGreat

/- What may stand in the sectors of a log's ring, through writes, flushes, falls and openings. Nothing here speaks of the program. -/
namespace Go.Proofs.YtpkpjmebkikgdaaGreat
open Go.RowKit

/-- The sector of a turn, of 30 that begin at 13. -/
def pos (t : Nat) : Nat := 13 + t % 30
theorem pos_eq {a b : Nat} (h : pos a = pos b) (h1 : a < b + 30) (h2 : b < a + 30) : a = b := by unfold pos at h; omega
theorem pos_in (t : Nat) : 13 ≤ pos t ∧ pos t < 43 := by unfold pos; omega

/-- What a sector may show behind a fall. -/
def May (s : DK) (k : Nat) (c : List UInt8) : Prop := c = s.kept k ∨ (k, c) ∈ s.waits
theorem shownB_may (k : Nat) : ∀ (l : List (Nat × List UInt8)) (b : List UInt8), shownB k b l = b ∨ (k, shownB k b l) ∈ l
  | [], b => Or.inl rfl
  | a :: l, b => by
    unfold shownB
    rw [List.foldl_cons]
    split
    · rename_i he
      rcases shownB_may k l a.2 with h | h
      · right
        unfold shownB at h
        rw [h, ← he]
        exact List.mem_cons_self
      · exact Or.inr (List.mem_cons_of_mem _ h)
    · rcases shownB_may k l b with h | h
      · exact Or.inl h
      · exact Or.inr (List.mem_cons_of_mem _ h)
theorem may_shown (s : DK) (k : Nat) : May s k (s.shown k) := shownB_may k s.waits (s.kept k)
theorem keepSome_may (ks : List Bool) (k : Nat) : ∀ (l : List (Nat × List UInt8)) (f : Nat → List UInt8) (i : Nat), keepSome ks f i l k = f k ∨ (k, keepSome ks f i l k) ∈ l
  | [], f, i => Or.inl rfl
  | a :: l, f, i => by
    unfold keepSome
    rcases keepSome_may ks k l (if ks.getD i false = true then keep1 f a else f) (i + 1) with h | h
    · rw [h]
      split
      · unfold keep1
        split
        · rename_i he
          right
          rw [he]
          exact List.mem_cons_self
        · exact Or.inl rfl
      · exact Or.inl rfl
    · exact Or.inr (List.mem_cons_of_mem _ h)
theorem keepAll_shown (k : Nat) : ∀ (l : List (Nat × List UInt8)) (f : Nat → List UInt8), keepAll f l k = shownB k (f k) l
  | [], f => rfl
  | a :: l, f => by
    show keepAll (keep1 f a) l k = shownB k (if a.1 = k then a.2 else f k) l
    rw [keepAll_shown k l (keep1 f a)]
    congr 1
    unfold keep1
    by_cases h : k = a.1
    · rw [if_pos h, if_pos h.symm]
    · rw [if_neg h, if_neg (fun e => h e.symm)]
theorem may_crash {s : DK} {ks : List Bool} {k : Nat} {c : List UInt8} (h : May (s.crash ks) k c) : May s k c := by
  rcases h with h | h
  · rcases keepSome_may ks k s.waits s.kept 0 with h1 | h1
    · exact Or.inl (h.trans h1)
    · exact Or.inr (h ▸ h1)
  · cases h
theorem may_nowait {s : DK} (h : s.waits = []) {k : Nat} {c : List UInt8} (hm : May s k c) : c = s.shown k := by
  unfold DK.shown
  rw [h]
  rcases hm with h1 | h1
  · exact h1
  · rw [h] at h1; cases h1
theorem shownB_append (k : Nat) (b : List UInt8) (l : List (Nat × List UInt8)) (a : Nat × List UInt8) : shownB k b (l ++ [a]) = if a.1 = k then a.2 else shownB k b l := by
  unfold shownB
  rw [List.foldl_append]
  rfl

section
/-- A record that is not whole any more: a sector of it is nowhere. -/
def Broken (s : DK) (x : Id) : Prop := ∃ i, i < x.cnt ∧ ¬ May s (pos (x.first + i)) (x.sec i)
def Right (s : DK) (x : Id) : Prop := ∀ i, i < x.cnt → s.shown (pos (x.first + i)) = x.sec i
def leastOf (age : Nat) : List Id → Nat
  | [] => age
  | x :: _ => x.age
/-- The records of a log of the age 'age', from first to next, of which the first ones are safe; S is all that was ever written. -/
structure RInv (S : Id → Prop) (s : DK) (ids : List Id) (first next age safe : Nat) : Prop where
  links : chain first ids next
  ring : next ≤ first + 30
  rise : rising 0 ids
  ok : ∀ x, S x → x.Ok ∧ x.age ≤ age
  uniq : ∀ x y, S x → S y → x.age = y.age → x.first = y.first → x = y
  news : ∀ x, S x → next ≤ x.first → x.age < age
  same : ∀ x, S x → ∀ y ∈ ids, x.first = y.first → x = y ∨ x.age < y.age
  gap : ∀ x, S x → ∀ y ∈ ids, x.first = y.first + y.cnt → x ∈ ids ∨ x.age < y.age ∨ Broken s x
  mem : ∀ x ∈ ids, S x
  seen : ∀ k c, 13 ≤ k → k < 43 → May s k c → c = blank ∨ ∃ x i, S x ∧ i < x.cnt ∧ k = pos (x.first + i) ∧ c = x.sec i
  sure : ∀ y ∈ ids.take safe, ∀ i, i < y.cnt → ∀ c, May s (pos (y.first + i)) c → c = y.sec i
  safeLe : safe ≤ ids.length

theorem inv_new (age : Nat) : RInv (fun _ => False) (DK.new 256) [] 0 0 age 0 where
  links := rfl
  ring := by omega
  rise := trivial
  ok := fun _ h => h.elim
  uniq := fun _ _ h => h.elim
  news := fun _ h => h.elim
  same := fun _ h => h.elim
  gap := fun _ h => h.elim
  mem := fun _ h => by cases h
  seen := fun k c _ _ h => by
    rcases h with h | h
    · exact Or.inl h
    · cases h
  sure := fun _ h => by cases h
  safeLe := Nat.le_refl _
variable {S : Id → Prop} {s s' : DK} {ids : List Id} {first next age safe : Nat}
theorem RInv.less (h : RInv S s ids first next age safe) (hm : ∀ k c, May s' k c → May s k c) : RInv S s' ids first next age safe where
  links := h.links
  ring := h.ring
  rise := h.rise
  ok := h.ok
  uniq := h.uniq
  news := h.news
  same := h.same
  gap := fun x hx y hy e => by
    rcases h.gap x hx y hy e with h1 | h1 | ⟨i, h1, h2⟩
    · exact Or.inl h1
    · exact Or.inr (Or.inl h1)
    · exact Or.inr (Or.inr ⟨i, h1, fun h3 => h2 (hm _ _ h3)⟩)
  mem := h.mem
  seen := fun k c h1 h2 h3 => h.seen k c h1 h2 (hm k c h3)
  sure := fun y hy i hi c hc => h.sure y hy i hi c (hm _ _ hc)
  safeLe := h.safeLe
theorem RInv.count (h : RInv S s ids first next age safe) : ids.length ≤ 30 := by
  have := chain_le _ _ _ h.links
  have := h.ring
  omega
theorem RInv.rises (h : RInv S s ids first next age safe) : rising (leastOf age ids) ids := by
  have := h.rise
  cases ids with
  | nil => trivial
  | cons x l => exact ⟨Nat.le_refl _, this.2⟩
/-- A record more. -/
theorem RInv.more {x : List UInt8} (h : RInv S s ids first next age safe) (hz : (Id.mk age next x).Ok) (hr : next + (Id.mk age next x).cnt ≤ first + 30)
    (hm : ∀ k c, May s' k c → May s k c ∨ ∃ i, i < (Id.mk age next x).cnt ∧ k = pos (next + i) ∧ c = (Id.mk age next x).sec i) :
    RInv (fun y => S y ∨ y = ⟨age, next, x⟩) s' (ids ++ [⟨age, next, x⟩]) first (next + (Id.mk age next x).cnt) age safe := by
  obtain ⟨z, hzz⟩ : ∃ z : Id, z = ⟨age, next, x⟩ := ⟨_, rfl⟩
  have za : z.age = age := by rw [hzz]
  have zf : z.first = next := by rw [hzz]
  rw [← hzz] at hz hr hm ⊢
  have hcp := z.cnt_pos
  have hbr : ∀ y, S y → Broken s y → Broken s' y := by
    rintro y hy ⟨i, h1, h2⟩
    refine ⟨i, h1, fun h3 => ?_⟩
    rcases hm _ _ h3 with h4 | ⟨j, j1, j2, j3⟩
    · exact h2 h4
    · obtain ⟨e1, e2, _⟩ := sec_turn (h.ok y hy).1 hz h1 j1 j3
      have := h.news y hy (by omega)
      omega
  refine ⟨?_, hr, ?_, ?_, ?_, ?_, ?_, ?_, ?_, ?_, ?_, ?_⟩
  · exact (chain_append _ _ _ _).2 ⟨next, h.links, zf, rfl⟩
  · refine (rising_append _ _ _).2 ⟨h.rise, ?_, trivial⟩
    rw [za]
    exact rising_last _ _ _ (fun y hy => (h.ok y (h.mem y hy)).2) (Nat.zero_le _)
  · rintro y (hy | rfl)
    · exact h.ok y hy
    · exact ⟨hz, by omega⟩
  · rintro y y' (hy | rfl) (hy' | rfl) e1 e2
    · exact h.uniq y y' hy hy' e1 e2
    · have := h.news y hy (by omega); omega
    · have := h.news y' hy' (by omega); omega
    · rfl
  · rintro y (hy | rfl) e
    · exact h.news y hy (by omega)
    · omega
  · rintro y hy w hw e
    rcases List.mem_append.1 hw with hw2 | hw2
    · rcases hy with hy | hy
      · exact h.same y hy w hw2 e
      · have := (chain_mem _ _ _ h.links w hw2).2
        have := w.cnt_pos
        rw [hy] at e
        omega
    · have hwz : w = z := by simpa using hw2
      subst hwz
      rcases hy with hy | rfl
      · right
        have := h.news y hy (by omega)
        omega
      · exact Or.inl rfl
  · rintro y hy w hw e
    rcases List.mem_append.1 hw with hw | hw
    · rcases hy with hy | rfl
      · rcases h.gap y hy w hw e with h1 | h1 | h1
        · exact Or.inl (List.mem_append_left _ h1)
        · exact Or.inr (Or.inl h1)
        · exact Or.inr (Or.inr (hbr y hy h1))
      · exact Or.inl (by simp)
    · have hwz : w = z := by simpa using hw
      subst hwz
      rcases hy with hy | rfl
      · right; left
        have := h.news y hy (by omega)
        omega
      · omega
  · intro y hy
    rcases List.mem_append.1 hy with hy | hy
    · exact Or.inl (h.mem y hy)
    · exact Or.inr (by simpa using hy)
  · intro k c h1 h2 h3
    rcases hm k c h3 with h4 | ⟨i, i1, i2, i3⟩
    · rcases h.seen k c h1 h2 h4 with h5 | ⟨y, i, y1, y2⟩
      · exact Or.inl h5
      · exact Or.inr ⟨y, i, Or.inl y1, y2⟩
    · exact Or.inr ⟨z, i, Or.inr rfl, i1, by rw [zf]; exact i2, i3⟩
  · intro y hy i hi c hc
    rw [List.take_append_of_le_length h.safeLe] at hy
    rcases hm _ _ hc with h4 | ⟨j, j1, j2, j3⟩
    · exact h.sure y hy i hi c h4
    · have h5 := chain_mem _ _ _ h.links y (List.mem_of_mem_take hy)
      have := pos_eq j2 (by omega) (by omega)
      omega
  · rw [List.length_append]; have := h.safeLe; omega
/-- Some first ones are freed. -/
theorem RInv.free {l1 l2 : List Id} {to : Nat} (h : RInv S s (l1 ++ l2) first next age safe) (hto : chain first l1 to) : RInv S s l2 to next age (safe - l1.length) := by
  obtain ⟨m, h1, h2⟩ := (chain_append _ _ _ _).1 h.links
  have hm : m = to := by rw [← chain_end _ _ _ h1, ← chain_end _ _ _ hto]
  subst hm
  refine ⟨h2, ?_, rising_weak (Nat.zero_le _) ((rising_append _ _ _).1 h.rise).2, h.ok, h.uniq, h.news, fun x hx y hy e => h.same x hx y (List.mem_append_right _ hy) e, ?_, fun x hx => h.mem x (List.mem_append_right _ hx), h.seen, ?_, ?_⟩
  · have := chain_le _ _ _ h1
    have := h.ring
    omega
  · intro x hx y hy e
    rcases h.gap x hx y (List.mem_append_right _ hy) e with h3 | h3
    · rcases List.mem_append.1 h3 with h4 | h4
      · have a1 := (chain_mem _ _ _ h1 x h4).2
        have a2 := (chain_mem _ _ _ h2 y hy).1
        have := x.cnt_pos
        omega
      · exact Or.inl h4
    · exact Or.inr h3
  · intro y hy
    apply h.sure y
    rw [List.take_append]
    exact List.mem_append_right _ hy
  · have := h.safeLe
    rw [List.length_append] at this
    omega
/-- All is kept. -/
theorem RInv.sync (h : RInv S s ids first next age safe) (hR : ∀ y ∈ ids, Right s y) (hm : ∀ k c, May s' k c → c = s.shown k) : RInv S s' ids first next age ids.length := by
  have h1 := h.less (s' := s') (fun k c hc => by rw [hm k c hc]; exact may_shown s k)
  refine ⟨h1.links, h1.ring, h1.rise, h1.ok, h1.uniq, h1.news, h1.same, h1.gap, h1.mem, h1.seen, fun y hy i hi c hc => ?_, Nat.le_refl _⟩
  rw [hm _ _ hc]
  exact hR y (List.mem_of_mem_take hy) i hi

theorem split_right (s : DK) : ∀ ids : List Id, ∃ l1 l2, ids = l1 ++ l2 ∧ (∀ x ∈ l1, Right s x) ∧ ∀ z l3, l2 = z :: l3 → ¬ Right s z
  | [] => ⟨[], [], rfl, (fun _ h => by cases h), fun _ _ h => by cases h⟩
  | x :: l => by
    by_cases hx : Right s x
    · obtain ⟨l1, l2, h1, h2, h3⟩ := split_right s l
      refine ⟨x :: l1, l2, by rw [h1]; rfl, fun y hy => ?_, h3⟩
      rcases List.mem_cons.1 hy with rfl | hy
      · exact hx
      · exact h2 y hy
    · refine ⟨[], x :: l, rfl, (fun _ h => by cases h), fun z l3 h => ?_⟩
      simp only [List.cons.injEq] at h
      rw [← h.1]
      exact hx
theorem not_right {x : Id} (h : ¬ Right s x) : ∃ i, i < x.cnt ∧ s.shown (pos (x.first + i)) ≠ x.sec i := by
  simp only [Right, Classical.not_forall] at h
  obtain ⟨i, h1, h2⟩ := h
  exact ⟨i, h1, h2⟩
theorem RInv.seenW (h : RInv S s ids first next age safe) : Seen S (fun t => s.shown (pos t)) := by
  intro t
  rcases h.seen (pos t) _ (pos_in t).1 (pos_in t).2 (may_shown s _) with h1 | ⟨x, i, h1, h2, h3, h4⟩
  · exact Or.inl h1
  · exact Or.inr ⟨x, i, h1, h2, h4⟩
/-- Where the records that are right end, none begins. -/
theorem RInv.stops {l1 l2 : List Id} {e : Nat} (h : RInv S s (l1 ++ l2) first next age safe) (h1 : chain first l1 e) (h2 : ∀ z l3, l2 = z :: l3 → ¬ Right s z) (x : Id) (hx : S x) (hf : x.first = e) (hp : lastAge (leastOf age (l1 ++ l2)) l1 ≤ x.age) :
    ∃ i, i < x.cnt ∧ s.shown (pos (e + i)) ≠ x.sec i := by
  obtain ⟨m, c1, c2⟩ := (chain_append _ _ _ _).1 h.links
  have hm : m = e := by rw [← chain_end _ _ _ c1, ← chain_end _ _ _ h1]
  subst hm
  have hin : x ∈ l2 → ∃ i, i < x.cnt ∧ s.shown (pos (m + i)) ≠ x.sec i := by
    intro hx2
    cases l2 with
    | nil => cases hx2
    | cons z l3 =>
      rcases List.mem_cons.1 hx2 with rfl | hx3
      · rw [← hf]; exact not_right (h2 x l3 rfl)
      · have := (chain_mem _ _ _ c2.2 x hx3).1
        have := z.cnt_pos
        omega
  rcases List.eq_nil_or_concat l1 with rfl | ⟨l0, y, rfl⟩
  · have hfm : first = m := h1
    cases l2 with
    | nil =>
      have hnx : m = next := c2
      have := h.news x hx (by omega)
      simp only [List.nil_append, lastAge, leastOf] at hp
      omega
    | cons z l3 =>
      rcases h.same x hx z (by simp) (by rw [hf]; exact c2.1.symm) with h3 | h3
      · exact hin (by rw [h3]; simp)
      · simp only [List.nil_append, lastAge, leastOf] at hp
        omega
  · rw [List.concat_eq_append] at *
    rw [lastAge_append] at hp
    obtain ⟨m2, d1, d2, d3⟩ := (chain_append _ _ _ _).1 h1
    have d3' : m2 + y.cnt = m := d3
    rcases h.gap x hx y (by simp) (by omega) with h3 | h3 | ⟨i, h3, h4⟩
    · rcases List.mem_append.1 h3 with h3 | h3
      · have := (chain_mem _ _ _ h1 x h3).2
        have := x.cnt_pos
        omega
      · exact hin h3
    · omega
    · refine ⟨i, h3, fun h5 => h4 ?_⟩
      rw [← h5, hf]
      exact may_shown s _
/-- What an opening reads, and what is so behind it. -/
theorem RInv.open {l1 l2 : List Id} (h : RInv S s (l1 ++ l2) first next age safe) (h1 : ∀ x ∈ l1, Right s x) (h2 : ∀ z l3, l2 = z :: l3 → ¬ Right s z) (A : Nat) (hA : age < A) (recs : List (List UInt8)) (L : LG) (hL : L.next = first) :
    ∃ e, chain first l1 e ∧ recallW (frameW (fun t => s.shown (pos t)) 30 first) A 31 (leastOf age (l1 ++ l2)) recs L = (recs ++ l1.map Id.r, L.addAll l1, 0) ∧ safe ≤ l1.length := by
  obtain ⟨e, c1, c2⟩ := (chain_append _ _ _ _).1 h.links
  have hle := chain_le _ _ _ c2
  have hri := h.ring
  refine ⟨e, c1, ?_, ?_⟩
  · refine recall_chain A l1 31 _ recs L e (by omega) (by rw [hL]; exact c1) (fun x hx => ?_) (by omega) ((rising_append _ _ _).1 h.rises).1 (by have := h.count; rw [List.length_append] at this; omega) ?_
    · obtain ⟨o1, o2⟩ := h.ok x (h.mem x (List.mem_append_left _ hx))
      exact ⟨o1, by omega, h1 x hx⟩
    · refine none_here (S := S) (fun x hx => (h.ok x hx).1) h.uniq h.seenW A e _ (fun x hx hf hp _ => ?_)
      exact h.stops c1 h2 x hx hf hp
  · by_cases hs : safe ≤ l1.length
    · exact hs
    · cases l2 with
      | nil => have := h.safeLe; simp at this; omega
      | cons z l3 =>
        exfalso
        refine h2 z l3 rfl (fun i hi => h.sure z ?_ i hi _ (may_shown s _))
        rw [List.take_append, List.mem_append]
        right
        rw [show safe - l1.length = (safe - l1.length - 1) + 1 by omega, List.take_succ_cons]
        simp
theorem RInv.reopen {l1 l2 : List Id} {e : Nat} (h : RInv S s (l1 ++ l2) first next age safe) (h1 : ∀ x ∈ l1, Right s x) (h2 : ∀ z l3, l2 = z :: l3 → ¬ Right s z) (hc : chain first l1 e) (hw : s.waits = [] ∨ l2 = []) (A : Nat) (hA : age < A) (sf : Nat) (hsf : sf ≤ safe ∨ (s.waits = [] ∧ sf ≤ l1.length)) (hsl : safe ≤ l1.length) :
    RInv S s l1 first e A sf := by
  obtain ⟨m, c1, c2⟩ := (chain_append _ _ _ _).1 h.links
  have hm : m = e := by rw [← chain_end _ _ _ c1, ← chain_end _ _ _ hc]
  subst hm
  have hle := chain_le _ _ _ c2
  have hri := h.ring
  refine ⟨hc, by omega, ((rising_append _ _ _).1 h.rise).1, fun x hx => ⟨(h.ok x hx).1, by have := (h.ok x hx).2; omega⟩, h.uniq, fun x hx _ => by have := (h.ok x hx).2; omega, fun x hx y hy e => h.same x hx y (List.mem_append_left _ hy) e, ?_, fun x hx => h.mem x (List.mem_append_left _ hx), h.seen, ?_, ?_⟩
  · intro x hx y hy e
    rcases h.gap x hx y (List.mem_append_left _ hy) e with h3 | h3
    · rcases List.mem_append.1 h3 with h4 | h4
      · exact Or.inl h4
      · right; right
        rcases hw with hw | hw
        · have hy2 := (chain_mem _ _ _ c1 y hy).2
          cases l2 with
          | nil => cases h4
          | cons z l3 =>
            rcases List.mem_cons.1 h4 with rfl | h5
            · obtain ⟨i, i1, i2⟩ := not_right (h2 x l3 rfl)
              exact ⟨i, i1, fun hm => i2 (may_nowait hw hm).symm⟩
            · have := (chain_mem _ _ _ c2.2 x h5).1
              have := z.cnt_pos
              omega
        · rw [hw] at h4; cases h4
    · exact Or.inr h3
  · intro y hy i hi c hc
    rcases hsf with h3 | ⟨h3, _⟩
    · refine h.sure y ?_ i hi c hc
      rw [List.take_append_of_le_length hsl]
      exact (List.take_subset_take_left l1 h3) hy
    · rw [may_nowait h3 hc]
      exact h1 y (List.mem_of_mem_take hy) i hi
  · rcases hsf with h3 | ⟨_, h3⟩
    · omega
    · exact h3
end
end Go.Proofs.YtpkpjmebkikgdaaGreat

/- What an opening reads where some of the ring's sectors are not good. Nothing here speaks of the program. -/
namespace Go.Proofs.YtpkpjmebkikgdaaGreat
open Go.RowKit

/-- Frames of which some are bad. -/
def Worse (fr fr' : Nat → Fr × Int) : Prop := ∀ t, fr' t = fr t ∨ fr' t = (zeroF, 5)
theorem scan_worse {fr fr' : Nat → Fr × Int} (h : Worse fr fr') (hd : Fr) : ∀ (k t : Nat) (acc : List Fr), scanW fr' hd k t acc = scanW fr hd k t acc ∨ scanW fr' hd k t acc = ([], 5)
  | 0, _, _ => Or.inl rfl
  | k + 1, t, acc => by
    unfold scanW
    rcases h t with e | e
    · rw [e]
      split
      · exact Or.inl rfl
      · split
        · exact Or.inl rfl
        · exact scan_worse h hd k _ _
    · right
      rw [e, if_pos (by simp)]
theorem parts_worse {fr fr' : Nat → Fr × Int} (h : Worse fr fr') (A t p : Nat) : partsW fr' A t p = partsW fr A t p ∨ partsW fr' A t p = ([], 5) := by
  unfold partsW
  rcases h t with e | e
  · rw [e]
    split
    · exact Or.inl rfl
    · split
      · exact Or.inl rfl
      · exact scan_worse h _ _ _ _
  · right
    rw [e, if_pos (by simp)]
/-- An opening tells what it would have told, or that a sector is bad. -/
theorem recall_worse {fr fr' : Nat → Fr × Int} (h : Worse fr fr') (A : Nat) : ∀ (fuel p : Nat) (recs : List (List UInt8)) (L : LG), recallW fr' A fuel p recs L = recallW fr A fuel p recs L ∨ (recallW fr' A fuel p recs L).2.2 = 5
  | 0, _, _, _ => Or.inl rfl
  | k + 1, p, recs, L => by
    unfold recallW
    rcases parts_worse h A L.next p with e | e
    · rw [e]
      split
      · exact Or.inl rfl
      · split
        · exact Or.inl rfl
        · exact recall_worse h A k _ _ _
    · right
      rw [e, if_pos (by simp)]
/-- Where a turn of a record that would be read is bad, it is told. -/
theorem parts_bad {sh : Nat → List UInt8} {R o A p : Nat} {x : Id} (hx : x.Ok) (ho : o ≤ x.first) (hr : x.first + x.cnt ≤ o + R) (hv : ∀ i, i < x.cnt → sh (x.first + i) = x.sec i) (hp : p ≤ x.age) (hA : x.age < A) {fr' : Nat → Fr × Int} (h : Worse (frameW sh R o) fr') {i : Nat} (hi : i < x.cnt) (hb : fr' (x.first + i) = (zeroF, 5)) :
    (partsW fr' A x.first p).2 = 5 := by
  have hgood := read_here hx ho hr hv hp hA
  rcases parts_worse h A x.first p with e | e
  · exfalso
    have hne : (partsW fr' A x.first p).1 ≠ [] := by rw [e, hgood]; exact (head_frames _ _ _).2.2
    -- all frames of it are good ones
    have key : ∀ (hd : Fr) (k t : Nat) (acc : List Fr), (scanW fr' hd k t acc).1 ≠ [] → ∀ j, j < k → (fr' (t + j)).2 = 0 := by
      intro hd k
      induction k with
      | zero => intro t acc _ j hj; omega
      | succ k ih =>
        intro t acc hs j hj
        unfold scanW at hs
        by_cases c : (fr' t).2 ≠ 0
        · rw [if_pos c] at hs; exact absurd rfl hs
        · rw [if_neg c] at hs
          split at hs
          · exact absurd rfl hs
          · cases j with
            | zero => rw [Nat.add_zero]; exact Decidable.byContradiction c
            | succ j => have := ih (t + 1) _ hs j (by omega); rw [show t + (j + 1) = t + 1 + j by omega]; exact this
    unfold partsW at hne
    by_cases c : (fr' x.first).2 ≠ 0
    · rw [if_pos c] at hne; exact absurd rfl hne
    · rw [if_neg c] at hne
      by_cases c2 : headBad (fr' x.first).1 x.first p A
      · rw [if_pos c2] at hne; exact absurd rfl hne
      · rw [if_neg c2] at hne
        have hc0 : (fr' x.first).2 = 0 := Decidable.byContradiction c
        have hf0 : fr' x.first = frameW sh R o x.first := by
          rcases h x.first with e1 | e1
          · exact e1
          · rw [e1] at hc0; simp at hc0
        have hof : (fr' x.first).1.of.toNat - 1 = x.cnt - 1 := by
          have h0 := fr_here (sh := sh) hx ho hr (i := 0) (by have := x.cnt_pos; omega) (hv 0 (by have := x.cnt_pos; omega))
          rw [Nat.add_zero] at h0
          rw [hf0, h0]
          rfl
        rw [hof] at hne
        cases i with
        | zero => rw [Nat.add_zero] at hb; rw [hb] at hc0; simp at hc0
        | succ i =>
          have := key _ _ _ _ hne i (by omega)
          rw [show x.first + 1 + i = x.first + (i + 1) by omega, hb] at this
          simp at this
  · rw [e]
theorem recall_bad {sh : Nat → List UInt8} {R o A : Nat} {fr' : Nat → Fr × Int} (h : Worse (frameW sh R o) fr') : ∀ (l : List Id) (fuel p : Nat) (recs : List (List UInt8)) (L : LG) (e : Nat), o ≤ L.next → chain L.next l e → (∀ x ∈ l, x.Ok ∧ x.age < A ∧ ∀ i, i < x.cnt → sh (x.first + i) = x.sec i) → e ≤ o + R → rising p l → l.length < fuel → (∃ t, L.next ≤ t ∧ t < e ∧ fr' t = (zeroF, 5)) → (recallW fr' A fuel p recs L).2.2 = 5
  | [], fuel, p, recs, L, e, _, hc, _, _, _, _, ⟨t, h1, h2, _⟩ => by have : L.next = e := hc; omega
  | x :: l, fuel, p, recs, L, e, ho, hc, hv, hr, hri, hf, ⟨t, h1, h2, h3⟩ => by
    cases fuel with
    | zero => simp at hf
    | succ k =>
      obtain ⟨v1, v2, v3⟩ := hv x (by simp)
      have hcx := (chain_mem _ _ _ hc x (by simp)).2
      have hx : L.next = x.first := hc.1.symm
      unfold recallW
      rcases parts_worse h A L.next p with e1 | e1
      · by_cases ht : t < x.first + x.cnt
        · have := parts_bad (p := p) (A := A) v1 (by omega) (by omega) v3 hri.1 v2 h (i := t - x.first) (by omega) (by rw [show x.first + (t - x.first) = t by omega]; exact h3)
          rw [← hx] at this
          rw [if_pos (by rw [this]; simp)]
          exact this
        · have hrd := read_here (o := o) (R := R) (sh := sh) v1 (by omega) (by omega) v3 hri.1 v2
          obtain ⟨j1, j2, j3, j4⟩ := join_here v1
          rw [e1, hx, hrd]
          dsimp only
          rw [if_neg (by simp), if_neg (by rw [j1]; simp), j2, j3, j4]
          have hLn : (L.add x.age x.cnt).next = L.next + x.cnt := rfl
          exact recall_bad h l k x.age _ _ e (by rw [hLn]; omega) (by rw [hLn]; exact hc.2) (fun y hy => hv y (by simp [hy])) hr hri.2 (by simpa using hf) ⟨t, by rw [hLn]; omega, h2, h3⟩
      · rw [e1, if_pos (by simp)]
end Go.Proofs.YtpkpjmebkikgdaaGreat

/- What an opening reads behind turned bits of the ring's sectors. Nothing here speaks of the program. -/
namespace Go.Proofs.YtpkpjmebkikgdaaGreat
open Go.RowKit

theorem bears_turned {S : Id → Prop} {c : List UInt8} (hc : c = blank ∨ ∃ x i, S x ∧ i < x.cnt ∧ c = x.sec i) {ps : List Nat} (hp : Places 4096 ps) (t : Nat) : bearsW (turnAll c ps) t = (zeroF, 5) := by
  have h : (openR (turnAll c ps)).2.2.2 ≠ 0 := by
    rcases hc with rfl | ⟨x, i, h1, h2, rfl⟩
    · unfold blank
      rcases open_blank_turned ps hp with e | e
      · rw [e]; simp
      · rw [e]; simp
    · have hl : (bytesF (x.frame i)).length ≤ 496 := by
        have h3 := length_bytesF (x.frame i)
        have h4 : (x.frame i).data.length ≤ 440 := by show (partN x.r i).length ≤ _; rw [length_part]; omega
        omega
      have e := open_turned 77 (x.first + i) (bytesF (x.frame i)) ps (by decide) hl hp
      show (openR (turnAll (sealed 77 (x.first + i) (bytesF (x.frame i))) ps)).2.2.2 ≠ 0
      rw [e]
      simp
  unfold bearsW
  rw [if_pos h]
/-- Some sectors of the ring have turned bits. -/
theorem turned_worse {S : Id → Prop} {s s' : DK} {ids : List Id} {first next age safe : Nat} (h : RInv S s ids first next age safe) (hw : s.waits = []) (hw' : s'.waits = []) (hit : Nat → Prop) (hh : ∀ k, 13 ≤ k → k < 43 → (¬ hit k ∧ s'.kept k = s.kept k) ∨ (hit k ∧ ∃ ps, Places 4096 ps ∧ s'.kept k = turnAll (s.kept k) ps)) (o : Nat) :
    Worse (frameW (fun t => s.shown (pos t)) 30 o) (frameW (fun t => s'.shown (pos t)) 30 o) ∧ ∀ t, ¬ 30 ≤ t - o → hit (pos t) → frameW (fun t => s'.shown (pos t)) 30 o t = (zeroF, 5) := by
  have e : ∀ k, s.shown k = s.kept k := fun k => by unfold DK.shown; rw [hw]; rfl
  have e' : ∀ k, s'.shown k = s'.kept k := fun k => by unfold DK.shown; rw [hw']; rfl
  have hb : ∀ t, hit (pos t) → bearsW (s'.shown (pos t)) t = (zeroF, 5) := by
    intro t ht
    rcases hh (pos t) (pos_in t).1 (pos_in t).2 with ⟨h1, _⟩ | ⟨_, ps, h1, h2⟩
    · exact absurd ht h1
    · rw [e', h2]
      refine bears_turned (S := S) ?_ h1 t
      rcases h.seen (pos t) _ (pos_in t).1 (pos_in t).2 (Or.inl rfl) with h3 | ⟨x, i, h3, h4, _, h5⟩
      · exact Or.inl h3
      · exact Or.inr ⟨x, i, h3, h4, h5⟩
  refine ⟨fun t => ?_, fun t ht hx => ?_⟩
  · unfold frameW
    split
    · exact Or.inl rfl
    · rcases hh (pos t) (pos_in t).1 (pos_in t).2 with ⟨_, h1⟩ | ⟨h1, _⟩
      · left
        show bearsW (s'.shown (pos t)) t = bearsW (s.shown (pos t)) t
        rw [e', e, h1]
      · exact Or.inr (hb t h1)
  · unfold frameW
    rw [if_neg ht]
    exact hb t hx
/-- Behind turned bits an opening tells that a sector is bad, or what it would have told; and the first, if a sector of its records is hit. -/
theorem RInv.turned {S : Id → Prop} {s s' : DK} {ids : List Id} {first next age safe : Nat} (h : RInv S s ids first next age safe) (hR : ∀ y ∈ ids, Right s y) (hw : s.waits = []) (hw' : s'.waits = []) (hit : Nat → Prop) (hh : ∀ k, 13 ≤ k → k < 43 → (¬ hit k ∧ s'.kept k = s.kept k) ∨ (hit k ∧ ∃ ps, Places 4096 ps ∧ s'.kept k = turnAll (s.kept k) ps)) (A : Nat) (hA : age < A) (L : LG) (hL : L.next = first) :
    (recallW (frameW (fun t => s'.shown (pos t)) 30 first) A 31 (leastOf age ids) [] L = (ids.map Id.r, L.addAll ids, 0) ∧ ∀ t, first ≤ t → t < next → ¬ hit (pos t)) ∨ (recallW (frameW (fun t => s'.shown (pos t)) 30 first) A 31 (leastOf age ids) [] L).2.2 = 5 := by
  obtain ⟨hW, hbad⟩ := turned_worse h hw hw' hit hh first
  have hri := h.ring
  have hv : ∀ x ∈ ids, x.Ok ∧ x.age < A ∧ ∀ i, i < x.cnt → (fun t => s.shown (pos t)) (x.first + i) = x.sec i := fun x hx => by
    obtain ⟨o1, o2⟩ := h.ok x (h.mem x hx)
    exact ⟨o1, by omega, hR x hx⟩
  obtain ⟨e, c1, c2, _⟩ := (show RInv S s (ids ++ []) first next age safe by rw [List.append_nil]; exact h).open hR (fun z l3 h => by cases h) A hA [] L hL
  rw [List.append_nil] at c2
  by_cases hx : ∃ t, first ≤ t ∧ t < next ∧ hit (pos t)
  · obtain ⟨t, h1, h2, h3⟩ := hx
    right
    refine recall_bad hW ids 31 (leastOf age ids) [] L next (by omega) (by rw [hL]; exact h.links) hv (by omega) h.rises (by have := h.count; omega) ⟨t, by omega, h2, hbad t (by omega) h3⟩
  · rcases recall_worse hW A 31 (leastOf age ids) [] L with e1 | e1
    · left
      refine ⟨?_, fun t h1 h2 h3 => hx ⟨t, h1, h2, h3⟩⟩
      rw [e1, c2, List.nil_append]
    · exact Or.inr e1
end Go.Proofs.YtpkpjmebkikgdaaGreat

/- Bits of a ring's sectors are turned, one behind the other. Nothing here speaks of the program. -/
namespace Go.Proofs.YtpkpjmebkikgdaaGreat
open Go.RowKit

theorem turnAll_append : ∀ (ps qs : List Nat) (c : List UInt8), turnAll c (ps ++ qs) = turnAll (turnAll c ps) qs
  | [], _, _ => rfl
  | p :: ps, qs, c => by
    show turnAll (if p < 8 * c.length then turn c p else c) (ps ++ qs) = _
    rw [turnAll_append ps qs]
    rfl
theorem length_turnAll : ∀ (ps : List Nat) (c : List UInt8), (turnAll c ps).length = c.length
  | [], _ => rfl
  | p :: ps, c => by
    show (turnAll (if p < 8 * c.length then turn c p else c) ps).length = _
    rw [length_turnAll ps]
    split
    · exact length_turn c p
    · rfl
theorem tog_turn (c : List UInt8) (p : Nat) : tog c p = turn c p := rfl
/-- A device of whose ring's sectors those of H have the bits ps turned, against s0; of the sector 'at' the first y ones, if it is not in H. -/
structure TurnI (s0 s : DK) (ps : List Nat) (H : Nat → Bool) : Prop where
  waits : s.waits = []
  calm : s.fell = s0.fell ∧ s.armed = s0.armed
  n : s.n = s0.n
  ring : ∀ a, a < 30 → (H a = false ∧ s.kept (13 + a) = s0.kept (13 + a)) ∨ (H a = true ∧ s.kept (13 + a) = turnAll (s0.kept (13 + a)) ps)
/-- .. in the midst of one sector. -/
structure TurnY (s0 s : DK) (ps : List Nat) (H : Nat → Bool) (a0 y : Nat) : Prop where
  waits : s.waits = []
  calm : s.fell = s0.fell ∧ s.armed = s0.armed
  n : s.n = s0.n
  ring : ∀ a, a < 30 → a ≠ a0 → (H a = false ∧ s.kept (13 + a) = s0.kept (13 + a)) ∨ (H a = true ∧ s.kept (13 + a) = turnAll (s0.kept (13 + a)) ps)
  here : s.kept (13 + a0) = turnAll (s0.kept (13 + a0)) (ps.take y)
theorem TurnI.begin {s0 s : DK} {ps : List Nat} {H : Nat → Bool} (h : TurnI s0 s ps H) (a0 : Nat) (ha : a0 < 30) (hH : H a0 = false) : TurnY s0 s ps H a0 0 := by
  refine ⟨h.waits, h.calm, h.n, fun a h1 _ => h.ring a h1, ?_⟩
  rcases h.ring a0 ha with ⟨_, h1⟩ | ⟨h1, _⟩
  · rw [h1]; rfl
  · rw [hH] at h1; cases h1
theorem TurnY.flip {s0 s : DK} {ps : List Nat} {H : Nat → Bool} {a0 y : Nat} (h : TurnY s0 s ps H a0 y) (hy : y < ps.length) (hp : ps[y] < 4096) (hk : (s0.kept (13 + a0)).length = 512) (hn : 13 + a0 < s.n) :
    TurnY s0 (s.flip ((13 + a0 : Nat) : Int) (ps[y] : Int)) ps H a0 (y + 1) := by
  have e : s.flip ((13 + a0 : Nat) : Int) (ps[y] : Int) = { s with kept := keep1 s.kept (13 + a0, tog (s.kept (13 + a0)) ps[y]), turns := s.turns + 1 } := by
    unfold DK.flip
    have h1 : s.noSuch ((13 + a0 : Nat) : Int) = false := by unfold DK.noSuch; simp; omega
    rw [if_neg (by rw [h1]; simp; omega)]
    rfl
  rw [e]
  refine ⟨h.waits, h.calm, h.n, fun a h1 h2 => ?_, ?_⟩
  · have e2 : keep1 s.kept (13 + a0, tog (s.kept (13 + a0)) ps[y]) (13 + a) = s.kept (13 + a) := by unfold keep1; rw [if_neg (by show ¬ 13 + a = 13 + a0; omega)]
    show _ ∧ keep1 _ _ _ = _ ∨ _ ∧ keep1 _ _ _ = _
    rw [e2]
    exact h.ring a h1 h2
  · show keep1 s.kept (13 + a0, tog (s.kept (13 + a0)) ps[y]) (13 + a0) = _
    unfold keep1
    rw [if_pos rfl]
    show tog (s.kept (13 + a0)) ps[y] = _
    rw [tog_turn, h.here, List.take_add_one, List.getElem?_eq_getElem hy, turnAll_append]
    show _ = turnAll (turnAll _ _) [ps[y]]
    rw [turnAll_one _ _ (by rw [length_turnAll, hk]; omega)]
theorem TurnY.done {s0 s : DK} {ps : List Nat} {H : Nat → Bool} {a0 : Nat} (h : TurnY s0 s ps H a0 ps.length) : TurnI s0 s ps (fun a => if a = a0 then true else H a) := by
  refine ⟨h.waits, h.calm, h.n, fun a h1 => ?_⟩
  by_cases ha : a = a0
  · right
    rw [ha]
    exact ⟨if_pos rfl, by rw [h.here, List.take_of_length_le (Nat.le_refl _)]⟩
  · rcases h.ring a h1 ha with ⟨h2, h3⟩ | ⟨h2, h3⟩
    · exact Or.inl ⟨by rw [if_neg ha]; exact h2, h3⟩
    · exact Or.inr ⟨by rw [if_neg ha]; exact h2, h3⟩
theorem TurnI.hh {s0 s : DK} {ps : List Nat} {H : Nat → Bool} (h : TurnI s0 s ps H) (hp : Places 4096 ps) : ∀ k, 13 ≤ k → k < 43 → (¬ H (k - 13) = true ∧ s.kept k = s0.kept k) ∨ (H (k - 13) = true ∧ ∃ ps, Places 4096 ps ∧ s.kept k = turnAll (s0.kept k) ps) := by
  intro k h1 h2
  have hk : 13 + (k - 13) = k := by omega
  rcases h.ring (k - 13) (by omega) with ⟨h3, h4⟩ | ⟨h3, h4⟩
  · rw [hk] at h4; exact Or.inl ⟨by rw [h3]; decide, h4⟩
  · rw [hk] at h4; exact Or.inr ⟨h3, ps, hp, h4⟩
end Go.Proofs.YtpkpjmebkikgdaaGreat
