/- Texts of ours, one behind the other: SecLaws, SecOwn, SecSeal. -/
import Derived.Test.YtpkpjmebkikgdaaG1
import Derived.Test.YtpkpjmebkikgdaaG5
import Derived.Test.YtpkpjmebkikgdaaG12
import Derived.Test.YtpkpjmebkikgdaaG16
import Derived.Test.YtpkpjmebkikgdaaG17
import Derived.Lib.SlBytesConst
import Derived.OpenShut
/- What the statements of layer 3 ask of package sector, as contracts; and that 'awake' answers true by them. -/
namespace Go.Proofs.Ytpkpjmebkikgdaa
open Go.RowKit

theorem byte_of {a : Int} (h : (Lit.int .u8 a).wf = true) : ∃ k : UInt8, a = (k.toNat : Int) := by
  have hb := bounds_u8 h
  exact ⟨UInt8.ofNat a.toNat, by simp; omega⟩

def KnownC : Prop := ∀ (k : UInt8) (w : World), Calls Try.prog 60 #[.int .u8 (k.toNat : Int)] w fun e w' => e = .returned (.bool (knownB k)) ∧ Below w.heap.size w w'
def SealC : Prop := ∀ (k : UInt8) (turn : Nat) (s : Value) (p : List UInt8) (w : World), turn < 18446744073709551616 → p.length ≤ 140737488351232 → Row w s p →
  Calls Try.prog 51 #[.int .u8 (k.toNat : Int), .int .u64 turn, s] w fun e w' => ∃ t, e = .returned (.tuple #[t, .int .i64 (sealE k p)]) ∧ Mine w' w.heap.size t (sealB k turn p) ∧ Below w.heap.size w w'
def OpenC : Prop := ∀ (s : Value) (b : List UInt8) (w : World), b.length ≤ 140737488351232 → Row w s b →
  Calls Try.prog 65 #[s] w fun e w' => ∃ t, e = .returned (.tuple #[.agg #[.int .u8 ((openR b).1.toNat : Int), .int .u64 ((openR b).2.1 : Nat), t], .int .i64 (openR b).2.2.2]) ∧ Mine w' w.heap.size t (openR b).2.2.1 ∧ Below w.heap.size w w'
theorem ab_row (w : World) (fr : Nat × Nat) : Row (w.alloc (.cells #[.int .u8 97, .int .u8 98] 5 fr)) (.slice (some ⟨w.heap.size, 0, none⟩) 2 2) [97, 98] := by
  refine ⟨_, 2, rfl, by simp, by unfold maxLen; omega, by simp, Or.inr ⟨_, 0, rfl, fun j hj => ?_⟩⟩
  rw [Nat.zero_add]
  have hj' : j < 2 := by simpa using hj
  rw [cell_of_row _ _ j _ _ fr (heap_alloc_new _ _)]
  match j, hj' with
  | 0, _ | 1, _ => rfl
end Go.Proofs.Ytpkpjmebkikgdaa

/- What package sector does: Known, the parts of a sector that is made, Seal. -/
namespace Go.Proofs.Ytpkpjmebkikgdaa
open Go.RowKit

set_option maxRecDepth 20000 in
theorem known_own (k : UInt8) (w : World) : Calls Try.prog 60 #[.int .u8 (k.toNat : Int)] w fun e w' => e = .returned (.bool (knownB k)) ∧ w' = w := by
  have HK := hide (known_int k)
  generalize knownB k = r at *
  generalize (k.toNat : Int) = z at *
  go_enter Try.func60, Try.ntmps60
  go_wp2
  all_goals (go_ret; exact ⟨by rw [unhide HK]; simp [*], rfl⟩)

theorem knownC : KnownC := fun k w => (known_own k w).mono fun _ _ ⟨h1, h2⟩ => ⟨h1, h2 ▸ Below.refl _ _⟩

set_option maxRecDepth 20000 in
theorem part_own (g : Nat) (a b : Nat) (w : World) (hab : (a : Int) ≤ b) (hb : (b : Int) ≤ 512) (hne : ¬ b = a) :
    Calls Try.prog 62 #[.pointer (some ⟨g, 0, none⟩), .int .i64 a, .int .i64 b] w fun e w' => e = .returned (.slice (some ⟨g, a, none⟩) (b - a) (b - a)) ∧ w' = w := by
  have hu := Try.underlying127
  go_enter Try.func62, Try.ntmps62
  go_wp2
  go_ret
  exact ⟨rfl, rfl⟩

/-- What a row becomes where cs is written over it from the place a on. -/
def over (cur : List UInt8) (a : Nat) (cs : List UInt8) : List UInt8 := cur.take a ++ cs ++ cur.drop (a + cs.length)
theorem splice_over (cur : List UInt8) (a : Nat) (cs : List UInt8) : splice (cur.map B) a (cs.map B) = (over cur a cs).map B := by
  simp [splice, over, List.map_take, List.map_drop]
theorem over_parts (x y z cs : List UInt8) (h : y.length = cs.length) : over (x ++ y ++ z) x.length cs = x ++ cs ++ z := by
  have h1 : (x ++ y ++ z).take x.length = x := by simp
  have h2 : (x ++ y ++ z).drop (x.length + cs.length) = z := by
    rw [List.append_assoc, List.drop_append, List.drop_eq_nil_of_le (by omega), ← h]
    simp
  rw [over, h1, h2]
theorem length_over (cur : List UInt8) (a : Nat) (cs : List UInt8) (h : a + cs.length ≤ cur.length) : (over cur a cs).length = cur.length := by
  simp [over]
  omega

set_option maxRecDepth 20000 in
set_option maxHeartbeats 400000 in
theorem mput_own (g a b n v : Nat) (cur : List UInt8) (w : World) (hblk : w.heap[g]? = some (.cells (cur.map B).toArray 127 (0, 0))) (hlen : cur.length = 512)
    (hb : (b : Int) ≤ 512) (hbn : b = a + n) (h1 : 1 ≤ n) (h8 : n ≤ 8) (hv : v < 256 ^ n) :
    Calls Try.prog 61 #[.pointer (some ⟨g, 0, none⟩), .int .i64 a, .int .i64 b, .int .u64 v] w fun e w' => e = .returned (.tuple #[]) ∧
      w'.heap[g]? = some (.cells ((over cur a (le n v)).map B).toArray 127 (0, 0)) ∧ Below g w w' := by
  have hg : g < w.heap.size := (Array.getElem?_eq_some_iff.1 hblk).1
  have hv64 : v < 18446744073709551616 := Nat.lt_of_lt_of_le hv (by
    have : 256 ^ n ≤ 256 ^ 8 := Nat.pow_le_pow_right (by omega) h8
    exact this)
  have HB := hide hblk
  have HV := hide hv
  have HL := hide hlen
  have HN := hide hbn
  have hsub : (b : Int) - a = n := by omega
  have hab : (a : Int) ≤ b := by omega
  have hne : ¬ b = a := by omega
  clear hblk hv hlen hbn
  go_enter Try.func61, Try.ntmps61
  go_wp2_with fail
  refine (put_ok (.slice none 0 0) [] v n w (Row.nil w) (by simp) hv64 h1 h8 (unhide HV)).mono ?_
  rintro e w1 ⟨t, rfl, hown, hb1⟩
  have hr := row_of_owns hown
  rw [List.nil_append] at hr
  obtain ⟨q, c, l, rfl, hl⟩ := hr.shape
  rw [length_le] at hl
  subst hl
  have HR := hide hr
  have HB1 := hide ((hb1.block g hg).trans (unhide HB))
  have HBW := hide hb1
  clear hown hr hb1
  go_wp2_with fail
  refine (part_own g a b w1 hab hb hne).mono ?_
  rintro e w1 ⟨rfl, rfl⟩
  have HC : Hid (b - a = n) := by have := unhide HN; unfold Hid; omega
  have hcp : 0 < ((le n v).map B).length → ∃ ad, q = some ad ∧ ∀ j u, ((le n v).map B)[j]? = some u → w1.cell? (ad.add j) = some u := by
    intro hp
    obtain ⟨g2, o2, c2, e2, _, _, hc⟩ := (unhide HR).open (by intro e; rw [e] at hp; simp at hp)
    simp only [Value.slice.injEq] at e2
    obtain ⟨rfl, _, _⟩ := e2
    refine ⟨_, rfl, fun j u hu => ?_⟩
    rw [List.getElem?_map] at hu
    obtain ⟨x, hx, rfl⟩ := Option.map_eq_some_iff.1 hu
    obtain ⟨hj, rfl⟩ := List.getElem?_eq_some_iff.1 hx
    rw [Addr.add_lit, hc j hj]
  have HCP := hide hcp
  clear hcp
  rw [unhide HC]
  go_wp2_with (refine wpList_copy_splice rfl (.tmp 21) (.tmp 22) 31 31 rfl 5 Try.underlying31 Try.size5 _ _ _ _ _ _ rfl rfl g a _ 127 (unhide HB1) ((le n v).map B) (by simp [length_le]) (fun hp => ⟨rfl, unhide HCP hp⟩) (by simp [length_le]; have := unhide HL; have := unhide HN; omega) (oneCell_B _) g _ ((unhide HBW).mono (by omega)) (Nat.le_refl _) ?_)
  intro w2 hw2 hb2
  have h2 := hw2.out
  rw [splice_over] at h2
  have H2 := hide h2
  clear h2 hw2
  go_wp2
  go_end0
  exact ⟨rfl, unhide H2, hb2⟩

theorem zero_making (w : World) : (zeroValue 127).run Try.prog w = .ok (.agg ((List.replicate 512 (0 : UInt8)).map B).toArray) w := by
  kernel_rfl
end Go.Proofs.Ytpkpjmebkikgdaa

/- What package sector does: Seal. -/
namespace Go.Proofs.Ytpkpjmebkikgdaa
open Go.RowKit

set_option maxRecDepth 20000 in
theorem seal_arg (k : UInt8) (turn : Int) (s : Value) (w : World) (hk : knownB k = false) :
    Calls Try.prog 51 #[.int .u8 (k.toNat : Int), .int .u64 turn, s] w fun e w' => e = .returned (.tuple #[.slice none 0 0, .int .i64 1]) ∧ w' = w := by
  go_enter Try.func51, Try.ntmps51
  go_wp2_with fail
  refine (known_own _ _).mono ?_
  rintro e w1 ⟨rfl, rfl⟩
  rw [hk]
  go_wp2
  go_ret2
  exact ⟨rfl, rfl⟩

set_option maxRecDepth 20000 in
theorem seal_large (k : UInt8) (turn : Int) (s : Value) (p : List UInt8) (w : World) (hs : Row w s p) (hk : knownB k = true) (hl : (496 : Int) < p.length) :
    Calls Try.prog 51 #[.int .u8 (k.toNat : Int), .int .u64 turn, s] w fun e w' => e = .returned (.tuple #[.slice none 0 0, .int .i64 4]) ∧ w' = w := by
  obtain ⟨q, c, l, rfl, hl2⟩ := hs.shape
  subst hl2
  clear hs
  go_enter Try.func51, Try.ntmps51
  go_wp2_with fail
  refine (known_own _ _).mono ?_
  rintro e w1 ⟨rfl, rfl⟩
  rw [hk]
  go_wp2
  go_ret2
  exact ⟨rfl, rfl⟩

/-- The cells of a row, as the laws on copy ask for them. -/
theorem copy_cells {w w1 : World} {q : Option Addr} {c n : Nat} {bs : List UInt8} (h : Row w (.slice q n c) bs) (hb : Below w.heap.size w w1) (hp : 0 < (bs.map B).length) :
    ∃ ad, q = some ad ∧ ∀ j u, (bs.map B)[j]? = some u → w1.cell? (ad.add j) = some u := by
  obtain ⟨g2, o2, c2, e2, _, _, hc⟩ := (h.below hb).open (by intro e; rw [e] at hp; simp at hp)
  simp only [Value.slice.injEq] at e2
  obtain ⟨rfl, _, _⟩ := e2
  refine ⟨_, rfl, fun j u hu => ?_⟩
  rw [List.getElem?_map] at hu
  obtain ⟨x, hx, rfl⟩ := Option.map_eq_some_iff.1 hu
  obtain ⟨hj, rfl⟩ := List.getElem?_eq_some_iff.1 hx
  rw [Addr.add_lit, hc j hj]

/-- The rows of a sector while it is made. -/
def made0 (k : UInt8) : List UInt8 := (List.replicate 512 (0 : UInt8)).set 0 k
def made1 (k : UInt8) (l : Nat) : List UInt8 := [k, 0] ++ le 2 l ++ List.replicate 508 0
def made2 (k : UInt8) (l turn : Nat) : List UInt8 := [k, 0] ++ le 2 l ++ le 8 turn ++ List.replicate 500 0
theorem length_made0 (k : UInt8) : (made0 k).length = 512 := by unfold made0; rw [List.length_set, List.length_replicate]
theorem length_made1 (k : UInt8) (l : Nat) : (made1 k l).length = 512 := by
  unfold made1; rw [List.length_append, List.length_append, length_le, List.length_replicate]; rfl
theorem length_made2 (k : UInt8) (l turn : Nat) : (made2 k l turn).length = 512 := by
  unfold made2; rw [List.length_append, List.length_append, List.length_append, length_le, length_le, List.length_replicate]; rfl
theorem rep_first (n : Nat) (h : 0 < n) : ((List.replicate n (0 : UInt8)).map B).toArray[0]? = some (.int .u8 0) := by
  cases n with
  | zero => omega
  | succ n => simp [List.replicate_succ, B]
theorem rep_add (a b : Nat) : List.replicate (a + b) (0 : UInt8) = List.replicate a 0 ++ List.replicate b 0 := by simp
theorem made0_over (k : UInt8) (l : Nat) : over (made0 k) 2 (le 2 l) = made1 k l := by
  have e : made0 k = [k, 0] ++ List.replicate 2 0 ++ List.replicate 508 0 := by
    unfold made0
    rw [show (512 : Nat) = 1 + (1 + (2 + 508)) from rfl, rep_add, rep_add, rep_add]
    rfl
  rw [e]
  exact over_parts [k, 0] (List.replicate 2 0) (List.replicate 508 0) (le 2 l) (by simp [length_le])
theorem made1_over (k : UInt8) (l turn : Nat) : over (made1 k l) 4 (le 8 turn) = made2 k l turn := by
  have e : made1 k l = ([k, 0] ++ le 2 l) ++ List.replicate 8 0 ++ List.replicate 500 0 := by
    unfold made1
    rw [show (508 : Nat) = 8 + 500 from rfl, rep_add]
    simp only [List.append_assoc]
  have h := over_parts ([k, 0] ++ le 2 l) (List.replicate 8 0) (List.replicate 500 0) (le 8 turn) (by simp [length_le])
  rw [show ([k, 0] ++ le 2 l).length = 4 by simp [length_le]] at h
  rw [e, h]
  rfl
theorem made2_over (k : UInt8) (turn : Nat) (p : List UInt8) (hp : p.length ≤ 496) : over (made2 k p.length turn) 12 p = body k turn p ++ List.replicate 4 0 := by
  have e : made2 k p.length turn = ([k, 0] ++ le 2 p.length ++ le 8 turn) ++ List.replicate p.length 0 ++ (List.replicate (496 - p.length) 0 ++ List.replicate 4 0) := by
    unfold made2
    rw [show (500 : Nat) = p.length + ((496 - p.length) + 4) by omega, rep_add, rep_add, List.append_assoc _ (List.replicate p.length 0)]
  have h := over_parts ([k, 0] ++ le 2 p.length ++ le 8 turn) (List.replicate p.length 0) (List.replicate (496 - p.length) 0 ++ List.replicate 4 0) p (by simp)
  rw [show ([k, 0] ++ le 2 p.length ++ le 8 turn).length = 12 by simp [length_le]] at h
  rw [e, h]
  unfold body
  simp only [List.append_assoc]
theorem body_over (k : UInt8) (turn : Nat) (p : List UInt8) (hp : p.length ≤ 496) : over (body k turn p ++ List.replicate 4 0) 508 (le 4 (more 0 (body k turn p))) = sealed k turn p := by
  have h := over_parts (body k turn p) (List.replicate 4 0) [] (le 4 (more 0 (body k turn p))) (by simp [length_le])
  rw [length_body k turn p hp, List.append_nil, List.append_nil] at h
  exact h

set_option maxRecDepth 20000 in
set_option maxHeartbeats 1000000 in
theorem seal_ok (k : UInt8) (turn : Nat) (s : Value) (p : List UInt8) (w : World) (hs : Row w s p) (ht : turn < 18446744073709551616) (hk : knownB k = true) (hl : (p.length : Int) ≤ 496) :
    Calls Try.prog 51 #[.int .u8 (k.toNat : Int), .int .u64 turn, s] w fun e w' => ∃ t, e = .returned (.tuple #[t, .int .i64 0]) ∧ Mine w' w.heap.size t (sealed k turn p) ∧ Below w.heap.size w w' := by
  obtain ⟨q, c, l, rfl, hl2⟩ := hs.shape
  subst hl2
  have HS := hide hs
  have hu := Try.underlying127
  obtain ⟨Z, hZ, hZ0, hzz⟩ : ∃ Z : Array Value, Hid (Z.setIfInBounds 0 (.int .u8 (k.toNat : Int)) = ((made0 k).map B).toArray) ∧ Z[0]? = some (.int .u8 0) ∧ ∀ w, (zeroValue 127).run Try.prog w = .ok (.agg Z) w :=
    ⟨_, set_map (List.replicate 512 (0 : UInt8)) 0 k, rep_first 512 (by omega), zero_making⟩
  obtain ⟨W0, hW0⟩ : ∃ W0, W0 = w.alloc (.cells (Z.setIfInBounds 0 (.int .u8 (k.toNat : Int))) 127) := ⟨_, rfl⟩
  have hblk0 : W0.heap[w.heap.size]? = some (.cells ((made0 k).map B).toArray 127 (0, 0)) := by rw [hW0, unhide hZ]; exact heap_alloc_new _ _
  have hb0 : Below w.heap.size w W0 := by rw [hW0]; exact (Below.refl _ _).alloc (Nat.le_refl _) _
  have hl0 := length_made0 k
  have HP1 := hide (mput_own w.heap.size 2 4 2 p.length (made0 k) W0 hblk0 hl0 (by omega) rfl (by omega) (by omega) (by omega))
  rw [made0_over] at HP1
  have HB0 := hide hb0
  have HW0 := hide hW0
  clear hblk0 hb0 hl0 hW0
  clear hs hZ
  go_enter Try.func51, Try.ntmps51
  go_wp2_with fail
  refine (known_own _ _).mono ?_
  rintro e w1 ⟨rfl, rfl⟩
  rw [hk]
  go_wp2_with fail
  rw [← unhide HW0]
  refine Calls.mono (unhide HP1) ?_
  rintro e w2 ⟨rfl, hblk2, hb2⟩
  have B2 := (unhide HB0).trans hb2
  have hl1 := length_made1 k p.length
  have HP2 := hide (mput_own w1.heap.size 4 12 8 turn _ w2 hblk2 hl1 (by omega) rfl (by omega) (by omega) (by omega))
  rw [made1_over] at HP2
  have HB2 := hide B2
  clear hblk2 hb2 hl1 HP1 HB0 B2 HW0
  go_wp2_with fail
  refine Calls.mono (unhide HP2) ?_
  rintro e w3 ⟨rfl, hblk3, hb3⟩
  have B3 := (unhide HB2).trans hb3
  have HK3 := hide hblk3
  have HB3 := hide B3
  clear hblk3 hb3 HP2 B3 HB2
  go_wp2_with fail
  refine (part_own w1.heap.size 12 508 w3 (by omega) (by omega) (by omega)).mono ?_
  rintro e w3 ⟨rfl, rfl⟩
  have hl2 := length_made2 k p.length turn
  have HL2 := hide hl2
  have hcp := fun hp : 0 < (p.map B).length => copy_cells (unhide HS) (unhide HB3) hp
  have HCP := hide hcp
  clear hcp hl2
  have HM : Hid ((p.map B).length = Nat.min p.length (508 - 12)) := by unfold Hid; rw [List.length_map]; exact (Nat.min_eq_left (by omega)).symm
  go_wp2_with (refine wpList_copy_splice rfl (.tmp 23) (.tmp 24) 31 31 rfl 5 Try.underlying31 Try.size5 _ _ _ _ _ _ rfl rfl w1.heap.size 12 _ 127 (unhide HK3) (p.map B) (unhide HM) (fun hp => ⟨rfl, unhide HCP hp⟩) (by rw [List.length_map, List.length_map, unhide HL2]; omega) (oneCell_B _) w1.heap.size _ (unhide HB3) (Nat.le_refl _) ?_)
  intro w4 hw4 hb4
  have h4 := hw4.out
  rw [splice_over, made2_over k turn p (by omega)] at h4
  have hlb : (body k turn p ++ List.replicate 4 0).length = 512 := by rw [List.length_append, length_body k turn p (by omega), List.length_replicate]
  have hr4 := row_of_block h4 0 508 508 (by omega) (Nat.le_refl _) (by unfold maxLen; omega)
  rw [List.drop_zero, List.take_left' (length_body k turn p (by omega))] at hr4
  have HS4 := hide (sum_any _ _ w4 hr4 (by rw [length_body k turn p (by omega)]; omega))
  have hml : more 0 (body k turn p) < 4294967296 := Nat.xor_lt_two_pow (n := 32) (raw_lt _ _ (by decide)) (by omega)
  have HK4 := hide h4
  have HB4 := hide hb4
  have HL4 := hide hlb
  clear h4 hw4 hb4 hr4 hlb HCP HM HL2 HK3 HB3
  go_wp2_with fail
  refine (part_own w1.heap.size 0 508 w4 (by omega) (by omega) (by omega)).mono ?_
  rintro e w4 ⟨rfl, rfl⟩
  have HBO := hide (body_over k turn p (by omega))
  have HLS := hide (length_sealed k turn p (by omega))
  generalize hsum : more 0 (body k turn p) = sm at *
  clear hsum
  go_wp2_with fail
  refine Calls.mono (unhide HS4) ?_
  rintro e w5 ⟨rfl, hb5⟩
  have hgl : w1.heap.size < w4.heap.size := (Array.getElem?_eq_some_iff.1 (unhide HK4)).1
  have HP5 := hide (mput_own w1.heap.size 508 512 4 sm _ w5 ((hb5.block _ hgl).trans (unhide HK4)) (unhide HL4) (by omega) rfl (by omega) (by omega) (by omega))
  rw [unhide HBO] at HP5
  have HB5 := hide ((unhide HB4).trans (hb5.mono (by omega)))
  clear hb5 hgl HK4 HS4 HB4
  go_wp2_with fail
  refine Calls.mono (unhide HP5) ?_
  rintro e w6 ⟨rfl, hblk6, hb6⟩
  have HB6 := hide ((unhide HB5).trans hb6)
  have HK6 := hide hblk6
  clear hblk6 hb6 HP5 HB5
  go_wp2
  go_ret2
  refine ⟨_, rfl, ⟨?_, ?_⟩, unhide HB6⟩
  · have h := row_of_block (unhide HK6) 0 512 512 (by rw [unhide HLS]; omega) (Nat.le_refl _) (by unfold maxLen; omega)
    rw [List.drop_zero, List.take_of_length_le (by rw [unhide HLS]; omega)] at h
    exact h
  · exact Or.inr ⟨_, 0, 512, _, _, by rw [unhide HLS]; rfl, Nat.le_refl _, unhide HK6⟩

theorem sealC : SealC := by
  intro k turn s p w ht hroom hs
  unfold sealE sealB
  cases hk : knownB k with
  | false =>
    rw [if_pos rfl, if_pos rfl]
    refine (seal_arg k turn s w hk).mono ?_
    rintro e w1 ⟨rfl, rfl⟩
    exact ⟨_, rfl, mine_nil _ _, Below.refl _ _⟩
  | true =>
    rw [if_neg (show ¬ (true = false) by decide), if_neg (show ¬ (true = false) by decide)]
    by_cases hl : 496 < p.length
    · rw [if_pos hl, if_pos hl]
      refine (seal_large k turn s p w hs hk (by omega)).mono ?_
      rintro e w1 ⟨rfl, rfl⟩
      exact ⟨_, rfl, mine_nil _ _, Below.refl _ _⟩
    · rw [if_neg hl, if_neg hl]
      exact seal_ok k turn s p w hs ht hk (by omega)
end Go.Proofs.Ytpkpjmebkikgdaa
