/- What package sector does: Known, the parts of a sector that is made, Seal. -/
import Derived.Test.YtdpoiieblbmofaaSecLaws
import Derived.Test.YtdpoiieblbmofaaAll
import Derived.Test.YtdpoiieblbmofaaCrcOwn2
namespace Go.Proofs.Ytdpoiieblbmofaa
open Go.RowKit

set_option maxRecDepth 20000 in
theorem known_own (k : UInt8) (w : World) : Calls Try.prog 90 #[.int .u8 (k.toNat : Int)] w fun e w' => e = .returned (.bool (knownB k)) ∧ w' = w := by
  have HK := hide (known_int k)
  generalize knownB k = r at *
  generalize (k.toNat : Int) = z at *
  go_enter Try.func90, Try.ntmps90
  go_wp2
  all_goals (go_ret; exact ⟨by rw [unhide HK]; simp [*], rfl⟩)

theorem knownC : KnownC := fun k w => (known_own k w).mono fun _ _ ⟨h1, h2⟩ => ⟨h1, h2 ▸ Below.refl _ _⟩

set_option maxRecDepth 20000 in
theorem part_own (g : Nat) (a b : Nat) (w : World) (hab : (a : Int) ≤ b) (hb : (b : Int) ≤ 512) (hne : ¬ b = a) :
    Calls Try.prog 92 #[.pointer (some ⟨g, 0, none⟩), .int .i64 a, .int .i64 b] w fun e w' => e = .returned (.slice (some ⟨g, a, none⟩) (b - a) (b - a)) ∧ w' = w := by
  have hu := Try.underlying151
  go_enter Try.func92, Try.ntmps92
  go_wp2
  go_ret
  exact ⟨rfl, rfl⟩

/-- What a row becomes where cs is written over it from the place a on. -/
def over (cur : List UInt8) (a : Nat) (cs : List UInt8) : List UInt8 := cur.take a ++ cs ++ cur.drop (a + cs.length)
theorem splice_over (cur : List UInt8) (a : Nat) (cs : List UInt8) : splice (cur.map B) a (cs.map B) = (over cur a cs).map B := by
  simp [splice, over, List.map_take, List.map_drop]
theorem over_parts (x y z cs : List UInt8) (h : y.length = cs.length) : over (x ++ y ++ z) x.length cs = x ++ cs ++ z := by
  have h1 : (x ++ y ++ z).take x.length = x := by simp
  have h2 : (x ++ y ++ z).drop (x.length + cs.length) = z := by
    rw [List.append_assoc, List.drop_append, List.drop_eq_nil_of_le (by omega), ← h]
    simp
  rw [over, h1, h2]
theorem length_over (cur : List UInt8) (a : Nat) (cs : List UInt8) (h : a + cs.length ≤ cur.length) : (over cur a cs).length = cur.length := by
  simp [over]
  omega

set_option maxRecDepth 20000 in
set_option maxHeartbeats 400000 in
theorem mput_own (g a b n v : Nat) (cur : List UInt8) (w : World) (hblk : w.heap[g]? = some (.cells (cur.map B).toArray 151 (0, 0))) (hlen : cur.length = 512)
    (hb : (b : Int) ≤ 512) (hbn : b = a + n) (h1 : 1 ≤ n) (h8 : n ≤ 8) (hv : v < 256 ^ n) :
    Calls Try.prog 91 #[.pointer (some ⟨g, 0, none⟩), .int .i64 a, .int .i64 b, .int .u64 v] w fun e w' => e = .returned (.tuple #[]) ∧
      w'.heap[g]? = some (.cells ((over cur a (le n v)).map B).toArray 151 (0, 0)) ∧ Below g w w' := by
  have hg : g < w.heap.size := (Array.getElem?_eq_some_iff.1 hblk).1
  have hv64 : v < 18446744073709551616 := Nat.lt_of_lt_of_le hv (by
    have : 256 ^ n ≤ 256 ^ 8 := Nat.pow_le_pow_right (by omega) h8
    exact this)
  have HB := hide hblk
  have HV := hide hv
  have HL := hide hlen
  have HN := hide hbn
  have hsub : (b : Int) - a = n := by omega
  have hab : (a : Int) ≤ b := by omega
  have hne : ¬ b = a := by omega
  clear hblk hv hlen hbn
  go_enter Try.func91, Try.ntmps91
  go_wp2_with fail
  refine (put_ok (.slice none 0 0) [] v n w (Row.nil w) (by simp) hv64 h1 h8 (unhide HV)).mono ?_
  rintro e w1 ⟨t, rfl, hown, hb1⟩
  have hr := row_of_owns hown
  rw [List.nil_append] at hr
  obtain ⟨q, c, l, rfl, hl⟩ := hr.shape
  rw [length_le] at hl
  subst hl
  have HR := hide hr
  have HB1 := hide ((hb1.block g hg).trans (unhide HB))
  have HBW := hide hb1
  clear hown hr hb1
  go_wp2_with fail
  refine (part_own g a b w1 hab hb hne).mono ?_
  rintro e w1 ⟨rfl, rfl⟩
  have HC : Hid (b - a = n) := by have := unhide HN; unfold Hid; omega
  have hcp : 0 < ((le n v).map B).length → ∃ ad, q = some ad ∧ ∀ j u, ((le n v).map B)[j]? = some u → w1.cell? (ad.add j) = some u := by
    intro hp
    obtain ⟨g2, o2, c2, e2, _, _, hc⟩ := (unhide HR).open (by intro e; rw [e] at hp; simp at hp)
    simp only [Value.slice.injEq] at e2
    obtain ⟨rfl, _, _⟩ := e2
    refine ⟨_, rfl, fun j u hu => ?_⟩
    rw [List.getElem?_map] at hu
    obtain ⟨x, hx, rfl⟩ := Option.map_eq_some_iff.1 hu
    obtain ⟨hj, rfl⟩ := List.getElem?_eq_some_iff.1 hx
    rw [Addr.add_lit, hc j hj]
  have HCP := hide hcp
  clear hcp
  rw [unhide HC]
  go_wp2_with (refine wpList_copy_splice rfl (.tmp 21) (.tmp 22) 27 27 rfl 5 Try.underlying27 Try.size5 _ _ _ _ _ _ rfl rfl g a _ 151 (unhide HB1) ((le n v).map B) (by simp [length_le]) (fun hp => ⟨rfl, unhide HCP hp⟩) (by simp [length_le]; have := unhide HL; have := unhide HN; omega) (oneCell_B _) g _ ((unhide HBW).mono (by omega)) (Nat.le_refl _) ?_)
  intro w2 hw2 hb2
  have h2 := hw2.out
  rw [splice_over] at h2
  have H2 := hide h2
  clear h2 hw2
  go_wp2
  go_end0
  exact ⟨rfl, unhide H2, hb2⟩

theorem zero_making (w : World) : (zeroValue 151).run Try.prog w = .ok (.agg ((List.replicate 512 (0 : UInt8)).map B).toArray) w := by
  kernel_rfl
end Go.Proofs.Ytdpoiieblbmofaa
