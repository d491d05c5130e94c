/- One call to both devices, as layer 4's statements make it: they answer alike, by the contracts of package disk. -/
import Derived.Test.YtkekikfiijbjmaaDiskAwake
import Derived.Test.YtkekikfiijbjmaaDiskOpD
import Derived.Test.YtkekikfiijbjmaaDiskLaws
import Derived.Test.YtkekikfiijbjmaaBytes
import Derived.Test.YtkekikfiijbjmaaHelp
import Derived.Deep.RegionHeld3
namespace Go.Proofs.Ytkekikfiijbjmaa
open Go.RowKit

section
variable {DR : (Nat → Prop) → World → Value → DK → Prop} (C : DiskC DR)
include C

set_option maxRecDepth 20000 in
set_option maxHeartbeats 2000000 in
theorem step_read (F : Nat → Prop) (w : World) (d r : Value) (s : DK) (cnt : Nat) (o : OpD) (kv : Value) (hP : Pair DR F w d s r s cnt) (hw : s.waits.length ≤ 1048576) :
    Calls Try.prog 12 #[d, r, .agg #[.int .i64 1, .int .i64 o.at_, .int .i64 o.n, .int .u8 (o.v.toNat : Int), .bool o.short, kv]] w fun e w' => e = .returned (.bool true) ∧ St DR F w w' d s r s cnt := by
  obtain ⟨w1, hw1⟩ : ∃ w1, w1 = w.alloc (.cells #[.int .i64 1, .int .i64 o.at_, .int .i64 o.n, .int .u8 (o.v.toNat : Int), .bool o.short, kv] 34) := ⟨_, rfl⟩
  have hb1 : Below w.heap.size w w1 := by rw [hw1]; exact (Below.refl _ _).alloc (Nat.le_refl _) _
  have hS : St DR F w1 w1 d s r s cnt := St.start_ (Pair.below C hP hb1)
  have hbox : w1.heap[w.heap.size]? = some (.cells #[.int .i64 1, .int .i64 o.at_, .int .i64 o.n, .int .u8 (o.v.toNat : Int), .bool o.short, kv] 34 (0, 0)) := by rw [hw1]; exact heap_alloc_new _ _
  have hlt : w.heap.size < w1.heap.size := (Array.getElem?_eq_some_iff.1 hbox).1
  have hnF : ¬ F w.heap.size := not_in (Pair.lt C hP)
  obtain ⟨b0, b1, b2, b3, b4, b5, _⟩ := six_cells hbox
  have HBB := hide hb1
  have HW1 := hide hw1
  clear hbox hb1
  have HR1 := hide (St.dread C hS o.at_ hw)
  clear hS hw1 hP
  go_enter Try.func12, Try.ntmps12
  go_wp2_with fail
  rw [← unhide HW1]
  refine Calls.mono (unhide HR1) ?_
  rintro e w2 ⟨t, rfl, hm2, hs2, hb2⟩
  have HM2 := hide hm2.row
  have d1 := (hs2.cell (a := ⟨w.heap.size, 1, none⟩) hlt hnF).trans b1
  have HR2 := hide (St.rread C hs2 o.at_ hw)
  clear HR1 hm2 hs2 hb2 b0 b1 b2 b3 b4 b5
  go_wp2_with fail
  refine Calls.mono (unhide HR2) ?_
  rintro e w3 ⟨u, rfl, hu3, hs3, hb3⟩
  have HBY := hide (bytes_any _ _ _ _ w3 ((unhide HM2).below hb3) hu3)
  rw [show (s.readB o.at_ == s.readB o.at_) = true by simp] at HBY
  have HS3 := hide hs3
  have heq : (s.readE o.at_ == s.readE o.at_) = true := by simp
  clear HR2 HM2 hu3 hs3 hb3 d1
  go_wp2_with fail
  refine Calls.mono (unhide HBY) ?_
  rintro e w4 ⟨rfl, rfl⟩
  go_wp2
  go_ret
  exact ⟨rfl, (unhide HS3).rebase (unhide HBB)⟩

set_option maxRecDepth 20000 in
set_option maxHeartbeats 2000000 in
theorem step_flush (F : Nat → Prop) (w : World) (d r : Value) (s : DK) (cnt : Nat) (o : OpD) (kv : Value) (hc : cnt + s.waits.length ≤ 1048576 * 1048576) (hP : Pair DR F w d s r s cnt) (hw : s.waits.length ≤ 1048576) (hk : s.ticks ≤ 1048576) :
    Calls Try.prog 12 #[d, r, .agg #[.int .i64 2, .int .i64 o.at_, .int .i64 o.n, .int .u8 (o.v.toNat : Int), .bool o.short, kv]] w fun e w' => e = .returned (.bool true) ∧ ∃ c, c ≤ cnt + s.waits.length ∧ St DR F w w' d s.flush r s.flush c := by
  obtain ⟨w1, hw1⟩ : ∃ w1, w1 = w.alloc (.cells #[.int .i64 2, .int .i64 o.at_, .int .i64 o.n, .int .u8 (o.v.toNat : Int), .bool o.short, kv] 34) := ⟨_, rfl⟩
  have hb1 : Below w.heap.size w w1 := by rw [hw1]; exact (Below.refl _ _).alloc (Nat.le_refl _) _
  have hS : St DR F w1 w1 d s r s cnt := St.start_ (Pair.below C hP hb1)
  have hbox : w1.heap[w.heap.size]? = some (.cells #[.int .i64 2, .int .i64 o.at_, .int .i64 o.n, .int .u8 (o.v.toNat : Int), .bool o.short, kv] 34 (0, 0)) := by rw [hw1]; exact heap_alloc_new _ _
  have hlt : w.heap.size < w1.heap.size := (Array.getElem?_eq_some_iff.1 hbox).1
  have hnF : ¬ F w.heap.size := not_in (Pair.lt C hP)
  obtain ⟨b0, b1, b2, b3, b4, b5, _⟩ := six_cells hbox
  have HBB := hide hb1
  have HW1 := hide hw1
  clear hbox hb1
  have HR1 := hide (St.dflush C hS hw hk)
  clear hS hw1 hP b1 b2 b3 b4 b5
  go_enter Try.func12, Try.ntmps12
  go_wp2_with fail
  rw [← unhide HW1]
  refine Calls.mono (unhide HR1) ?_
  rintro e w2 ⟨rfl, hs2⟩
  have HR2 := hide (St.rflush C hs2 hw hc)
  clear HR1 hs2 b0
  go_wp2_with fail
  refine Calls.mono (unhide HR2) ?_
  rintro e w3 ⟨rfl, c, hcc, hs3⟩
  have HS3 := hide hs3
  have heq : (s.flushE == s.flushE) = true := by simp
  clear HR2 hs3
  go_wp2
  go_ret
  exact ⟨rfl, c, hcc, (unhide HS3).rebase (unhide HBB)⟩

set_option maxRecDepth 20000 in
set_option maxHeartbeats 2000000 in
theorem step_start (F : Nat → Prop) (w : World) (d r : Value) (s : DK) (cnt : Nat) (o : OpD) (kv : Value) (hP : Pair DR F w d s r s cnt) :
    Calls Try.prog 12 #[d, r, .agg #[.int .i64 5, .int .i64 o.at_, .int .i64 o.n, .int .u8 (o.v.toNat : Int), .bool o.short, kv]] w fun e w' => e = .returned (.bool true) ∧ St DR F w w' d s.start r s.start cnt := by
  obtain ⟨w1, hw1⟩ : ∃ w1, w1 = w.alloc (.cells #[.int .i64 5, .int .i64 o.at_, .int .i64 o.n, .int .u8 (o.v.toNat : Int), .bool o.short, kv] 34) := ⟨_, rfl⟩
  have hb1 : Below w.heap.size w w1 := by rw [hw1]; exact (Below.refl _ _).alloc (Nat.le_refl _) _
  have hS : St DR F w1 w1 d s r s cnt := St.start_ (Pair.below C hP hb1)
  have hbox : w1.heap[w.heap.size]? = some (.cells #[.int .i64 5, .int .i64 o.at_, .int .i64 o.n, .int .u8 (o.v.toNat : Int), .bool o.short, kv] 34 (0, 0)) := by rw [hw1]; exact heap_alloc_new _ _
  have hlt : w.heap.size < w1.heap.size := (Array.getElem?_eq_some_iff.1 hbox).1
  have hnF : ¬ F w.heap.size := not_in (Pair.lt C hP)
  obtain ⟨b0, b1, b2, b3, b4, b5, _⟩ := six_cells hbox
  have HBB := hide hb1
  have HW1 := hide hw1
  clear hbox hb1
  have HR1 := hide (St.dstart C hS)
  clear hS hw1 hP b1 b2 b3 b4 b5
  go_enter Try.func12, Try.ntmps12
  go_wp2_with fail
  rw [← unhide HW1]
  refine Calls.mono (unhide HR1) ?_
  rintro e w2 ⟨rfl, hs2⟩
  have HR2 := hide (St.rstart C hs2)
  clear HR1 hs2 b0
  go_wp2_with fail
  refine Calls.mono (unhide HR2) ?_
  rintro e w3 ⟨rfl, hs3⟩
  have HS3 := hide hs3
  clear HR2 hs3
  go_wp2
  go_ret
  exact ⟨rfl, (unhide HS3).rebase (unhide HBB)⟩

set_option maxRecDepth 20000 in
set_option maxHeartbeats 2000000 in
theorem step_arm (F : Nat → Prop) (w : World) (d r : Value) (s : DK) (cnt : Nat) (o : OpD) (kv : Value) (hn : o.n ≤ 9223372036854775807) (hP : Pair DR F w d s r s cnt) :
    Calls Try.prog 12 #[d, r, .agg #[.int .i64 3, .int .i64 o.at_, .int .i64 o.n, .int .u8 (o.v.toNat : Int), .bool o.short, kv]] w fun e w' => e = .returned (.bool true) ∧ St DR F w w' d (s.arm o.n) r (s.arm o.n) cnt := by
  obtain ⟨w1, hw1⟩ : ∃ w1, w1 = w.alloc (.cells #[.int .i64 3, .int .i64 o.at_, .int .i64 o.n, .int .u8 (o.v.toNat : Int), .bool o.short, kv] 34) := ⟨_, rfl⟩
  have hb1 : Below w.heap.size w w1 := by rw [hw1]; exact (Below.refl _ _).alloc (Nat.le_refl _) _
  have hS : St DR F w1 w1 d s r s cnt := St.start_ (Pair.below C hP hb1)
  have hbox : w1.heap[w.heap.size]? = some (.cells #[.int .i64 3, .int .i64 o.at_, .int .i64 o.n, .int .u8 (o.v.toNat : Int), .bool o.short, kv] 34 (0, 0)) := by rw [hw1]; exact heap_alloc_new _ _
  have hlt : w.heap.size < w1.heap.size := (Array.getElem?_eq_some_iff.1 hbox).1
  have hnF : ¬ F w.heap.size := not_in (Pair.lt C hP)
  obtain ⟨b0, b1, b2, b3, b4, b5, _⟩ := six_cells hbox
  have HBB := hide hb1
  have HW1 := hide hw1
  clear hbox hb1
  have CA := hide (fun w' (h : St DR F w1 w' d s r s cnt) => St.darm C h o.n hn)
  have CB := hide (fun w' (h : St DR F w1 w' d (s.arm o.n) r s cnt) => St.rarm C h o.n hn)
  have KB := hide (fun sd sr c w' (h : St DR F w1 w' d sd r sr c) => (h.cell (a := ⟨w.heap.size, 2, none⟩) hlt hnF).trans b2)
  have heq : (s.armE == s.armE) = true := by simp
  have HS := hide hS
  clear hS hP b1 b3 b4 b5 hn
  subst hw1
  go_enter Try.func12, Try.ntmps12
  go_wp2_with fail
  go_region_held3 (fun w' => w'.cell? ⟨w.heap.size, 2, none⟩ = some (.int .i64 o.n)) (first | assumption | go_keep)
    (first
      | (go_at_call 16; refine Calls.mono (unhide CA _ (St.drew (unhide HS) C)) ?_; rintro e w2 ⟨rfl, hs2⟩; have hS2 := unhide KB _ _ _ _ hs2)
      | (go_at_call 31; refine Calls.mono (unhide CB _ (by assumption)) ?_; rintro e w3 ⟨rfl, hs3⟩; have hS3 := unhide KB _ _ _ _ hs3))
  all_goals
    go_wp2
    go_ret
    exact ⟨rfl, hs3.rebase (unhide HBB)⟩

set_option maxRecDepth 20000 in
set_option maxHeartbeats 2000000 in
theorem step_flip (F : Nat → Prop) (w : World) (d r : Value) (s : DK) (cnt : Nat) (o : OpD) (kv : Value) (ht : s.turns ≤ 1048576) (hc : cnt ≤ 1048576 * 1048576) (hP : Pair DR F w d s r s cnt) :
    Calls Try.prog 12 #[d, r, .agg #[.int .i64 6, .int .i64 o.at_, .int .i64 o.n, .int .u8 (o.v.toNat : Int), .bool o.short, kv]] w fun e w' => e = .returned (.bool true) ∧ ∃ c, c ≤ cnt + 1 ∧ St DR F w w' d (s.flip o.at_ o.n) r (s.flip o.at_ o.n) c := by
  obtain ⟨w1, hw1⟩ : ∃ w1, w1 = w.alloc (.cells #[.int .i64 6, .int .i64 o.at_, .int .i64 o.n, .int .u8 (o.v.toNat : Int), .bool o.short, kv] 34) := ⟨_, rfl⟩
  have hb1 : Below w.heap.size w w1 := by rw [hw1]; exact (Below.refl _ _).alloc (Nat.le_refl _) _
  have hS : St DR F w1 w1 d s r s cnt := St.start_ (Pair.below C hP hb1)
  have hbox : w1.heap[w.heap.size]? = some (.cells #[.int .i64 6, .int .i64 o.at_, .int .i64 o.n, .int .u8 (o.v.toNat : Int), .bool o.short, kv] 34 (0, 0)) := by rw [hw1]; exact heap_alloc_new _ _
  have hlt : w.heap.size < w1.heap.size := (Array.getElem?_eq_some_iff.1 hbox).1
  have hnF : ¬ F w.heap.size := not_in (Pair.lt C hP)
  obtain ⟨b0, b1, b2, b3, b4, b5, _⟩ := six_cells hbox
  have HBB := hide hb1
  have HW1 := hide hw1
  clear hbox hb1
  have CA := hide (fun w' (h : St DR F w1 w' d s r s cnt) => St.dflip C h o.at_ o.n ht)
  have CB := hide (fun w' (h : St DR F w1 w' d (s.flip o.at_ o.n) r s cnt) => St.rflip C h o.at_ o.n ht hc)
  have KB := hide (fun sd sr c w' (h : St DR F w1 w' d sd r sr c) => And.intro ((h.cell (a := ⟨w.heap.size, 1, none⟩) hlt hnF).trans b1) ((h.cell (a := ⟨w.heap.size, 2, none⟩) hlt hnF).trans b2))
  have heq : (s.flipE o.at_ o.n == s.flipE o.at_ o.n) = true := by simp
  have HS := hide hS
  clear hS hP b3 b4 b5 ht hc
  subst hw1
  go_enter Try.func12, Try.ntmps12
  go_wp2_with fail
  go_region_held3 (fun w' => w'.cell? ⟨w.heap.size, 1, none⟩ = some (.int .i64 o.at_) ∧ w'.cell? ⟨w.heap.size, 2, none⟩ = some (.int .i64 o.n)) (first | assumption | go_keep)
    (first
      | (go_at_call 24; refine Calls.mono (unhide CA _ (St.drew (unhide HS) C)) ?_; rintro e w2 ⟨rfl, hs2⟩; have hS2 := unhide KB _ _ _ _ hs2)
      | (go_at_call 36; refine Calls.mono (unhide CB _ (by assumption)) ?_; rintro e w3 ⟨rfl, c3, hc3, hs3⟩; have hS3 := unhide KB _ _ _ _ hs3))
  all_goals
    go_wp2
    go_ret
    exact ⟨rfl, c3, hc3, hs3.rebase (unhide HBB)⟩

set_option maxRecDepth 20000 in
set_option maxHeartbeats 2000000 in
theorem step_crash (F : Nat → Prop) (w : World) (d r : Value) (s : DK) (cnt : Nat) (o : OpD) (kv : Value) (hks : BRow w kv o.keep) (hko : ∀ k off n c, kv = .slice (some ⟨k, off, none⟩) n c → 0 < n → k < w.heap.size ∧ ¬ F k) (hroom : o.keep.length ≤ 140737488351232) (hc : cnt + s.waits.length ≤ 1048576 * 1048576) (hP : Pair DR F w d s r s cnt) (hw : s.waits.length ≤ 1048576) :
    Calls Try.prog 12 #[d, r, .agg #[.int .i64 4, .int .i64 o.at_, .int .i64 o.n, .int .u8 (o.v.toNat : Int), .bool o.short, kv]] w fun e w' => e = .returned (.bool true) ∧ ∃ c, c ≤ cnt + s.waits.length ∧ St DR F w w' d (s.crash o.keep) r (s.crash o.keep) c := by
  obtain ⟨w1, hw1⟩ : ∃ w1, w1 = w.alloc (.cells #[.int .i64 4, .int .i64 o.at_, .int .i64 o.n, .int .u8 (o.v.toNat : Int), .bool o.short, kv] 34) := ⟨_, rfl⟩
  have hb1 : Below w.heap.size w w1 := by rw [hw1]; exact (Below.refl _ _).alloc (Nat.le_refl _) _
  have hS : St DR F w1 w1 d s r s cnt := St.start_ (Pair.below C hP hb1)
  have hbox : w1.heap[w.heap.size]? = some (.cells #[.int .i64 4, .int .i64 o.at_, .int .i64 o.n, .int .u8 (o.v.toNat : Int), .bool o.short, kv] 34 (0, 0)) := by rw [hw1]; exact heap_alloc_new _ _
  have hlt : w.heap.size < w1.heap.size := (Array.getElem?_eq_some_iff.1 hbox).1
  have hnF : ¬ F w.heap.size := not_in (Pair.lt C hP)
  obtain ⟨b0, b1, b2, b3, b4, b5, _⟩ := six_cells hbox
  have HBB := hide hb1
  have HW1 := hide hw1
  clear hbox hb1
  have HKS := hide (hks.below (unhide HBB))
  obtain ⟨kq, kc, rfl, _, _⟩ := hks.shape
  have HKO := hide hko
  clear b1 b2 b3 b4 hS hks hko
  subst hw1
  go_enter Try.func12, Try.ntmps12
  go_wp2_with fail
  refine (HBool.own_any _ o.keep true _ (unhide HKS) (by omega)).mono ?_
  rintro e w2 ⟨gk, rfl, hgk, ho2, hb2⟩
  -- from here on: both devices from w2 on, what is outside of them stays
  have hP2 := Pair.below C (Pair.below C hP (unhide HBB)) hb2
  have hS2 : St DR F w2 w2 d s r s cnt := St.start_ hP2
  have hgl : gk < w2.heap.size := ho2.lt
  have hgF : ¬ F gk := fun hf => by have := Pair.lt C hP gk hf; have := (unhide HBB).size; omega
  have hlt2 : w.heap.size < w2.heap.size := Nat.lt_of_lt_of_le hlt hb2.size
  have b5' := (hb2.cell (p := ⟨w.heap.size, 5, none⟩) hlt).trans b5
  have HKS2 := hide ((unhide HKS).below hb2)
  have hkeep : ∀ sd sr c w', St DR F w2 w' d sd r sr c → BRow w' (.slice kq o.keep.length kc) o.keep := by
    rintro sd sr c w' ⟨F', _, hm⟩
    refine (unhide HKS2).keep hm.keep (fun b off c e hne => (unhide HKO b off _ c e (List.length_pos_iff.2 hne)).2)
  have hown : ∀ sd sr c w', St DR F w2 w' d sd r sr c → HBool.Owned w' gk o.keep true := fun sd sr c w' h => ho2.stays (h.block hgl hgF)
  have CA := hide (fun w' (h : St DR F w2 w' d s r s cnt) => St.dcrash C h (.slice (some ⟨gk, 0, none⟩) o.keep.length (o.keep.length + 3)) o.keep ((hown _ _ _ _ h).row (by unfold maxLen; omega)) (fun k off n c e _ => by simp only [Value.slice.injEq, Option.some.injEq, Addr.mk.injEq] at e; obtain ⟨⟨rfl, _⟩, _⟩ := e; exact ⟨hgl, hgF⟩) hw)
  have CB := hide (fun w' (h : St DR F w2 w' d (s.crash o.keep) r s cnt) => St.rcrash C h (.slice kq o.keep.length kc) o.keep (hkeep _ _ _ _ h) (fun k off n c e hn => by obtain ⟨q1, q2⟩ := unhide HKO k off n c e hn; exact ⟨by omega, q2⟩) hw hc)
  have CK : Hid (∀ c w', St DR F w2 w' d (s.crash o.keep) r (s.crash o.keep) c → Calls Try.prog 34 #[.slice (some ⟨gk, 0, none⟩) o.keep.length (o.keep.length + 3), .slice kq o.keep.length kc, .bool true] w' fun e w'' => e = .returned (.bool true) ∧ St DR F w2 w'' d (s.crash o.keep) r (s.crash o.keep) c) := by
    intro c w' h
    refine (HBool.kept_any gk _ o.keep true w' (hown _ _ _ _ h) (hkeep _ _ _ _ h) (by omega)).mono ?_
    rintro e w'' ⟨rfl, hb⟩
    exact ⟨rfl, St.below C h hb⟩
  have KB := hide (fun sd sr c w' (h : St DR F w2 w' d sd r sr c) => (h.cell (a := ⟨w.heap.size, 5, none⟩) hlt2 hnF).trans b5')
  have HS := hide hS2
  have HBB2 := hide ((unhide HBB).trans (hb2.mono (unhide HBB).size))
  clear hP2 hS2 hkeep hown HKS HKS2 HKO ho2 hb2 b0 b5 hP hgl hgF hgk
  go_wp2_with fail
  go_region_held3 (fun w' => w'.cell? ⟨w.heap.size, 5, none⟩ = some (.slice kq o.keep.length kc)) (first | assumption | go_keep)
    (first
      | (go_at_call 21; refine Calls.mono (unhide CA _ (St.drew (unhide HS) C)) ?_; rintro e w3 ⟨rfl, hs3⟩; have hS3 := unhide KB _ _ _ _ hs3)
      | (go_at_call 33; refine Calls.mono (unhide CB _ (by assumption)) ?_; rintro e w4 ⟨rfl, c4, hc4, hs4⟩; have hS4 := unhide KB _ _ _ _ hs4)
      | (go_at_call 34; refine Calls.mono (unhide CK _ _ hs4) ?_; rintro e w5 ⟨rfl, hs5⟩; have hS5 := unhide KB _ _ _ _ hs5))
  all_goals
    go_wp2
    go_ret
    exact ⟨rfl, c4, hc4, hs5.rebase (unhide HBB2)⟩

end
end Go.Proofs.Ytkekikfiijbjmaa
