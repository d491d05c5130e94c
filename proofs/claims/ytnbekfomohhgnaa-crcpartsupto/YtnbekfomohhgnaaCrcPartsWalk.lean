/- The walk of the law CrcParts. -/
import Derived.Test.YtnbekfomohhgnaaCrcAwake
import Derived.OpenShut
import Derived.Deep.RegionHeld3
namespace Go.Proofs.Ytnbekfomohhgnaa
open Go.RowKit

theorem more_lt' (s : Nat) (bs : List UInt8) (hs : s < 4294967296) : more s bs < 4294967296 := Nat.xor_lt_two_pow (n := 32) (raw_lt _ bs (Nat.xor_lt_two_pow (n := 32) hs (by omega))) (by omega)

theorem parts_left (a b c : List UInt8) : joinS (joinS (more 0 a) (more 0 b) (b.length : Nat)) (more 0 c) (c.length : Nat) = more 0 (a ++ b ++ c) := by
  rw [joinS_more, joinS_more, more_more, more_more, List.append_assoc]
theorem parts_in (b c : List UInt8) : joinS (more 0 b) (more 0 c) (c.length : Nat) = more 0 (b ++ c) := by
  rw [joinS_more, more_more]
theorem parts_right (a b c : List UInt8) : joinS (more 0 a) (more 0 (b ++ c)) ((b.length + c.length : Nat) : Int) = more 0 (a ++ b ++ c) := by
  rw [← List.length_append, joinS_more, more_more, List.append_assoc]
theorem parts_more (a b c : List UInt8) : more (more (more 0 a) b) c = more 0 (a ++ b ++ c) := by
  rw [more_more, more_more, List.append_assoc]

set_option maxHeartbeats 2000000 in
theorem parts_any (s1 s2 s3 : Value) (a b c : List UInt8) (w : World) (h1 : Row w s1 a) (h2 : Row w s2 b) (h3 : Row w s3 c) (r1 : a.length ≤ 1048576) (r2 : b.length ≤ 1048576) (r3 : c.length ≤ 1048576) :
    Calls Try.prog 5 #[s1, s2, s3] w fun e w' => e = .returned (.bool true) ∧ Below w.heap.size w w' := by
  obtain ⟨i0, hi, hz0, hz1, hz2⟩ := info_parts Try.info5
  obtain ⟨p1, c1, l1, rfl, hl1⟩ := h1.shape
  obtain ⟨p2, c2, l2, rfl, hl2⟩ := h2.shape
  obtain ⟨p3, c3, l3, rfl, hl3⟩ := h3.shape
  subst hl1 hl2 hl3
  have H1 := hide h1
  have H2 := hide h2
  have H3 := hide h3
  clear h1 h2 h3
  go_enter Try.func5, Try.ntmps5
  go_wp2_with (at_builtin; refine wpList_append_row rfl _ _ 22 rfl w.heap.size 5 i0 (.int .u8 0) Try.underlying22 hi hz0 hz1 hz2 rfl _ 0 [] rfl (World.ownsRow_nil _ _ _ _) _ a rfl (unhide H1) (by omega) (Nat.le_refl _) ?_)
  intro v5 w5 hown5 hgrow5
  have B5 : Below w.heap.size w w5 := (Below.refl _ _).grown hgrow5 (Nat.le_refl _) (fun k hk => by cases hk)
  have S5 := B5.size
  have O5 : w5.ownsRow w.heap.size 5 1 v5 a.length (a.map B) := by simpa using hown5
  clear hown5 hgrow5
  go_wp2_with (at_builtin; refine wpList_append_row rfl _ _ 22 rfl w.heap.size 5 i0 (.int .u8 0) Try.underlying22 hi hz0 hz1 hz2 rfl _ _ _ rfl O5 _ b rfl ((unhide H2).below B5) (by omega) S5 ?_)
  intro v6 w6 hown6 hgrow6
  have B6 : Below w.heap.size w w6 := B5.grown hgrow6 S5 (fun k hk => (O5.lt k hk).1)
  have S6 := B6.size
  have O6 : w6.ownsRow w.heap.size 5 1 v6 (a ++ b).length ((a ++ b).map B) := by simpa using hown6
  clear hown6 hgrow6 O5 B5 S5
  have R6 := row_of_owns O6
  have H6 := hide R6
  clear R6 O6
  go_wp2_with (at_builtin; refine wpList_append_row rfl _ _ 22 rfl w.heap.size 5 i0 (.int .u8 0) Try.underlying22 hi hz0 hz1 hz2 rfl _ 0 [] rfl (World.ownsRow_nil _ _ _ _) _ (a ++ b) rfl (unhide H6) (by simp; omega) S6 ?_)
  intro v7 w7 hown7 hgrow7
  have B7 : Below w.heap.size w w7 := B6.grown hgrow7 S6 (fun k hk => by cases hk)
  have S7 := B7.size
  have O7 : w7.ownsRow w.heap.size 5 1 v7 (a ++ b).length ((a ++ b).map B) := by simpa using hown7
  clear hown7 hgrow7 B6 S6 H6
  go_wp2_with (at_builtin; refine wpList_append_row rfl _ _ 22 rfl w.heap.size 5 i0 (.int .u8 0) Try.underlying22 hi hz0 hz1 hz2 rfl _ _ _ rfl O7 _ c rfl ((unhide H3).below B7) (by simp; omega) S7 ?_)
  intro v8 w8 hown8 hgrow8
  have B8 : Below w.heap.size w w8 := B7.grown hgrow8 S7 (fun k hk => (O7.lt k hk).1)
  have O8 : w8.ownsRow w.heap.size 5 1 v8 (a ++ b ++ c).length ((a ++ b ++ c).map B) := by simpa [Nat.add_assoc] using hown8
  have R8 := row_of_owns O8
  clear hown8 hgrow8 O7 B7 S7 O8
  obtain ⟨K, K0, Kd, Kb, CS, CA, CB, CC, CM, CN, CW⟩ : ∃ K : World → Prop, K w8 ∧ (∀ w', K w' → K w'.drew) ∧ Hid (∀ w', K w' → Below w.heap.size w w')
      ∧ Hid (∀ w', K w' → Calls Try.prog 11 #[v8] w' fun e w'' => e = .returned (.int .u32 (more 0 (a ++ b ++ c) : Nat)) ∧ K w'')
      ∧ Hid (∀ w', K w' → Calls Try.prog 11 #[.slice p1 a.length c1] w' fun e w'' => e = .returned (.int .u32 (more 0 a : Nat)) ∧ K w'')
      ∧ Hid (∀ w', K w' → Calls Try.prog 11 #[.slice p2 b.length c2] w' fun e w'' => e = .returned (.int .u32 (more 0 b : Nat)) ∧ K w'')
      ∧ Hid (∀ w', K w' → Calls Try.prog 11 #[.slice p3 c.length c3] w' fun e w'' => e = .returned (.int .u32 (more 0 c : Nat)) ∧ K w'')
      ∧ Hid (∀ w', K w' → Calls Try.prog 13 #[.int .u32 (more 0 a : Nat), .slice p2 b.length c2] w' fun e w'' => e = .returned (.int .u32 (more (more 0 a) b : Nat)) ∧ K w'')
      ∧ Hid (∀ w', K w' → Calls Try.prog 13 #[.int .u32 (more (more 0 a) b : Nat), .slice p3 c.length c3] w' fun e w'' => e = .returned (.int .u32 (more 0 (a ++ b ++ c) : Nat)) ∧ K w'')
      ∧ Hid (∀ w', K w' → Calls Try.prog 10 #[] w' fun e w'' => e = .returned (.bool true) ∧ K w'') := by
    have ha := (unhide H1).below B8
    have hb := (unhide H2).below B8
    have hc := (unhide H3).below B8
    refine ⟨fun w' => Below w.heap.size w w' ∧ Row w' v8 (a ++ b ++ c) ∧ Row w' (.slice p1 a.length c1) a ∧ Row w' (.slice p2 b.length c2) b ∧ Row w' (.slice p3 c.length c3) c, ⟨B8, R8, ha, hb, hc⟩, ?_, fun w' h => h.1, ?_, ?_, ?_, ?_, ?_, ?_, ?_⟩
    · rintro w' ⟨h0, h1, h2, h3, h4⟩
      have hd : Below w'.heap.size w' w'.drew := (Below.refl _ _).drew
      exact ⟨h0.drew, h1.below hd, h2.below hd, h3.below hd, h4.below hd⟩
    · rintro w' ⟨h0, h1, h2, h3, h4⟩
      refine (sum_any _ _ w' h1 (by simp; omega)).mono ?_
      rintro e w'' ⟨rfl, hd⟩
      exact ⟨rfl, h0.trans (hd.mono h0.size), h1.below hd, h2.below hd, h3.below hd, h4.below hd⟩
    · rintro w' ⟨h0, h1, h2, h3, h4⟩
      refine (sum_any _ _ w' h2 (by omega)).mono ?_
      rintro e w'' ⟨rfl, hd⟩
      exact ⟨rfl, h0.trans (hd.mono h0.size), h1.below hd, h2.below hd, h3.below hd, h4.below hd⟩
    · rintro w' ⟨h0, h1, h2, h3, h4⟩
      refine (sum_any _ _ w' h3 (by omega)).mono ?_
      rintro e w'' ⟨rfl, hd⟩
      exact ⟨rfl, h0.trans (hd.mono h0.size), h1.below hd, h2.below hd, h3.below hd, h4.below hd⟩
    · rintro w' ⟨h0, h1, h2, h3, h4⟩
      refine (sum_any _ _ w' h4 (by omega)).mono ?_
      rintro e w'' ⟨rfl, hd⟩
      exact ⟨rfl, h0.trans (hd.mono h0.size), h1.below hd, h2.below hd, h3.below hd, h4.below hd⟩
    · rintro w' ⟨h0, h1, h2, h3, h4⟩
      refine (more_any _ _ _ w' h3 (more_lt' 0 a (by omega)) (by omega)).mono ?_
      rintro e w'' ⟨rfl, hd⟩
      exact ⟨rfl, h0.trans (hd.mono h0.size), h1.below hd, h2.below hd, h3.below hd, h4.below hd⟩
    · rintro w' ⟨h0, h1, h2, h3, h4⟩
      refine (more_any _ _ _ w' h4 (more_lt' _ b (more_lt' 0 a (by omega))) (by omega)).mono ?_
      rintro e w'' ⟨rfl, hd⟩
      exact ⟨by rw [parts_more], h0.trans (hd.mono h0.size), h1.below hd, h2.below hd, h3.below hd, h4.below hd⟩
    · rintro w' ⟨h0, h1, h2, h3, h4⟩
      refine (awake_any w').mono ?_
      rintro e w'' ⟨rfl, hd⟩
      exact ⟨rfl, h0.trans (hd.mono h0.size), h1.below hd, h2.below hd, h3.below hd, h4.below hd⟩
  have hA := more_lt' 0 a (by omega)
  have hB := more_lt' 0 b (by omega)
  have hC := more_lt' 0 c (by omega)
  have hBC := more_lt' 0 (b ++ c) (by omega)
  have J1 := hide (fun w' => join_any (more 0 a) (more 0 b) (b.length : Nat) w' hA hB (by omega))
  have HL1 := hide (joinS_more (more 0 a) b)
  rw [joinS_more] at J1
  have J2 := hide (fun w' => join_any (more (more 0 a) b) (more 0 c) (c.length : Nat) w' (more_lt' _ b hA) hC (by omega))
  rw [joinS_more, parts_more] at J2
  have J3 := hide (fun w' => join_any (more 0 b) (more 0 c) (c.length : Nat) w' hB hC (by omega))
  rw [parts_in] at J3
  have J4 := hide (fun w' => join_any (more 0 a) (more 0 (b ++ c)) ((b.length + c.length : Nat) : Int) w' hA hBC (by omega))
  rw [parts_right] at J4
  clear R8 B8 H1 H2 H3 HL1 hA hB hC hBC
  generalize more (more 0 a) b = vab at *
  generalize more 0 (a ++ b ++ c) = vx at *
  generalize more 0 (b ++ c) = vbc at *
  generalize more 0 a = va at *
  generalize more 0 b = vb at *
  generalize more 0 c = vc at *
  have heq : ((vx : Int) == vx) = true := by simp
  go_wp2_with fail
  refine Calls.mono (unhide CS _ (by assumption)) ?_
  rintro e w9 ⟨rfl, kw9⟩
  go_wp2_with fail
  refine Calls.mono (unhide CA _ (by assumption)) ?_
  rintro e w10 ⟨rfl, kw10⟩
  go_wp2_with fail
  refine Calls.mono (unhide CB _ (by assumption)) ?_
  rintro e w11 ⟨rfl, kw11⟩
  go_wp2_with fail
  refine Calls.mono (unhide J1 _) ?_
  rintro e w11 ⟨rfl, rfl⟩
  go_wp2_with fail
  refine Calls.mono (unhide CC _ (by assumption)) ?_
  rintro e w12 ⟨rfl, kw12⟩
  go_wp2_with fail
  refine Calls.mono (unhide J2 _) ?_
  rintro e w12 ⟨rfl, rfl⟩
  go_wp2_with fail
  refine Calls.mono (unhide CA _ (by assumption)) ?_
  rintro e w13 ⟨rfl, kw13⟩
  go_wp2_with fail
  refine Calls.mono (unhide CB _ (by assumption)) ?_
  rintro e w14 ⟨rfl, kw14⟩
  go_wp2_with fail
  refine Calls.mono (unhide CC _ (by assumption)) ?_
  rintro e w15 ⟨rfl, kw15⟩
  go_wp2_with fail
  refine Calls.mono (unhide J3 _) ?_
  rintro e w15 ⟨rfl, rfl⟩
  go_wp2_with fail
  refine Calls.mono (unhide J4 _) ?_
  rintro e w15 ⟨rfl, rfl⟩
  go_wp2_with fail
  refine Calls.mono (unhide CW _ (by assumption)) ?_
  rintro e w16 ⟨rfl, kw16⟩
  go_wp2_with fail
  refine Calls.mono (unhide CA _ (by assumption)) ?_
  rintro e w17 ⟨rfl, kw17⟩
  go_wp2_with fail
  refine Calls.mono (unhide CM _ (by assumption)) ?_
  rintro e w18 ⟨rfl, kw18⟩
  go_wp2_with fail
  refine Calls.mono (unhide CN _ (by assumption)) ?_
  rintro e w19 ⟨rfl, kw19⟩
  go_wp2
  go_ret
  exact ⟨rfl, unhide Kb _ kw19⟩

theorem walk_CrcParts (s1 : Value) (a : List UInt8) (s2 : Value) (b : List UInt8) (s3 : Value) (c : List UInt8) (w : World) (h1 : Row w s1 a) (r1 : a.length ≤ 1048576) (h2 : Row w s2 b) (r2 : b.length ≤ 1048576) (h3 : Row w s3 c) (r3 : c.length ≤ 1048576) :
    Calls Try.prog 5 #[s1, s2, s3] w fun e w' => e = .returned (.bool true) ∧ Below w.heap.size w w' := parts_any s1 s2 s3 a b c w h1 h2 h3 r1 r2 r3
end Go.Proofs.Ytnbekfomohhgnaa
