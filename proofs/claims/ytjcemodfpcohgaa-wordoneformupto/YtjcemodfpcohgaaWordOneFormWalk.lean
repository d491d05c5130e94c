/- The walk of the law WordOneForm, out of the contracts of Var and ReadVar and the helpers. -/
import Derived.Test.YtjcemodfpcohgaaOnePlain
import Derived.Test.YtjcemodfpcohgaaRefText
import Derived.Test.YtjcemodfpcohgaaBytes
import Derived.OpenShut
import Derived.Deep.RegionWith
namespace Go.Proofs.Ytjcemodfpcohgaa
open Go.RowKit

theorem act_norm {R : Act → Prop} {a b : Act} (h : a = b) (hb : R b) : R a := h ▸ hb

set_option maxRecDepth 100000 in
set_option maxHeartbeats 2000000 in
theorem one_err_1 (p : Option Addr) (bs : List UInt8) (c : Nat) (a F : Int) (V v : Nat) (ph : Option Addr) (hd : List UInt8) (ch : Nat) (pr : Option Addr) (rs : List UInt8) (cr : Nat) (w : World) (hroomh : hd.length ≤ 1048576) (hroomr : rs.length ≤ 1048576) (hv : v < 18446744073709551616)
    (HSH : Hid (Row w (.slice ph hd.length ch) hd)) (HSR : Hid (Row w (.slice pr rs.length cr) rs))
    (HRV : Hid (Calls Try.prog 18 #[.slice p bs.length c, .int .i64 a] w fun e w' => e = .returned (.tuple #[.int .u64 V, .int .i64 F, .int .i64 1]) ∧ Below w.heap.size w w')) :
    Calls Try.prog 7 #[.slice p bs.length c, .int .i64 a, .int .u64 v, .slice ph hd.length ch, .slice pr rs.length cr] w fun e w' => e = .returned (.bool true) ∧ Below w.heap.size w w' := by
  obtain ⟨i0, hi, hz0, hz1, hz2⟩ := info_parts Try.info5
  go_enter Try.func7, Try.ntmps7
  go_wp2_with fail
  refine Calls.mono (unhide HRV) ?_
  rintro e w1 ⟨rfl, hb1⟩
  go_wp2_with fail
  refine wp_region_any (by kernel_rfl) ?_
  change wpAny _ _ _ _ _ _ _ (World.drew _)
  refine wpAny_ready (rs := [0]) (by kernel_rfl) (by simp) ?_
  refine AllReady.cons rfl (fun K hK => ?_) AllReady.nil
  go_simp
  refine (awake_any _).mono ?_
  rintro e w4 ⟨rfl, hb2⟩
  refine hK _ _ ?_
  clear hK K
  refine wpAny_take (i := 1) (v := .bool false) rfl (by kernel_rfl) (by kernel_rfl) (by kernel_rfl) (fun _ _ _ h => h) (Or.inl ⟨by kernel_rfl, by intro w; go_simp⟩) ?_
  refine wpAny_take (i := 2) (v := .bool false) rfl (by kernel_rfl) (by kernel_rfl) (by kernel_rfl) (fun _ _ _ h => h) (Or.inl ⟨by kernel_rfl, by intro w; go_simp⟩) ?_
  refine wpAny_take (i := 3) (v := .int .i64 1) rfl (by kernel_rfl) (by kernel_rfl) (by kernel_rfl) (fun _ _ _ h => h) (Or.inl ⟨by kernel_rfl, by intro w; go_simp⟩) ?_
  refine wpAny_take (i := 4) (v := .bool false) rfl (by kernel_rfl) (by kernel_rfl) (by kernel_rfl) (fun _ _ _ h => h) (Or.inl ⟨by kernel_rfl, by intro w; go_simp⟩) ?_
  refine wpAny_take (i := 5) (v := .bool false) rfl (by kernel_rfl) (by kernel_rfl) (by kernel_rfl) (fun _ _ _ h => h) (Or.inl ⟨by kernel_rfl, by intro w; go_simp⟩) ?_
  refine wpAny_take (i := 6) (v := undef) rfl (by kernel_rfl) (by kernel_rfl) (by kernel_rfl) (fun _ _ _ h => h) (Or.inr ⟨by kernel_rfl, rfl⟩) ?_
  refine wpAny_take (i := 7) (v := undef) rfl (by kernel_rfl) (by kernel_rfl) (by kernel_rfl) (fun _ _ _ h => h) (Or.inr ⟨by kernel_rfl, rfl⟩) ?_
  refine wpAny_take (i := 8) (v := undef) rfl (by kernel_rfl) (by kernel_rfl) (by kernel_rfl) (fun _ _ _ h => h) (Or.inr ⟨by kernel_rfl, rfl⟩) ?_
  refine wpAny_take (i := 9) (v := undef) rfl (by kernel_rfl) (by kernel_rfl) (by kernel_rfl) (fun _ _ _ h => h) (Or.inr ⟨by kernel_rfl, rfl⟩) ?_
  refine wpAny_take (i := 10) (v := undef) rfl (by kernel_rfl) (by kernel_rfl) (by kernel_rfl) (fun _ _ _ h => h) (Or.inr ⟨by kernel_rfl, rfl⟩) ?_
  refine wpAny_take (i := 11) (v := undef) rfl (by kernel_rfl) (by kernel_rfl) (by kernel_rfl) (fun _ _ _ h => h) (Or.inr ⟨by kernel_rfl, rfl⟩) ?_
  refine wpAny_take (i := 12) (v := undef) rfl (by kernel_rfl) (by kernel_rfl) (by kernel_rfl) (fun _ _ _ h => h) (Or.inr ⟨by kernel_rfl, rfl⟩) ?_
  refine wpAny_take (i := 13) (v := undef) rfl (by kernel_rfl) (by kernel_rfl) (by kernel_rfl) (fun _ _ _ h => h) (Or.inr ⟨by kernel_rfl, rfl⟩) ?_
  refine wpAny_take (i := 14) (v := undef) rfl (by kernel_rfl) (by kernel_rfl) (by kernel_rfl) (fun _ _ _ h => h) (Or.inr ⟨by kernel_rfl, rfl⟩) ?_
  refine wpAny_take (i := 15) (v := undef) rfl (by kernel_rfl) (by kernel_rfl) (by kernel_rfl) (fun _ _ _ h => h) (Or.inr ⟨by kernel_rfl, rfl⟩) ?_
  refine wpAny_take (i := 16) (v := undef) rfl (by kernel_rfl) (by kernel_rfl) (by kernel_rfl) (fun _ _ _ h => h) (Or.inr ⟨by kernel_rfl, rfl⟩) ?_
  refine wpAny_take (i := 17) (v := undef) rfl (by kernel_rfl) (by kernel_rfl) (by kernel_rfl) (fun _ _ _ h => h) (Or.inr ⟨by kernel_rfl, rfl⟩) ?_
  refine wpAny_take (i := 18) (v := undef) rfl (by kernel_rfl) (by kernel_rfl) (by kernel_rfl) (fun _ _ _ h => h) (Or.inr ⟨by kernel_rfl, rfl⟩) ?_
  refine wpAny_take (i := 19) (v := undef) rfl (by kernel_rfl) (by kernel_rfl) (by kernel_rfl) (fun _ _ _ h => h) (Or.inr ⟨by kernel_rfl, rfl⟩) ?_
  refine wpAny_take (i := 20) (v := undef) rfl (by kernel_rfl) (by kernel_rfl) (by kernel_rfl) (fun _ _ _ h => h) (Or.inr ⟨by kernel_rfl, rfl⟩) ?_
  refine wpAny_take (i := 21) (v := undef) rfl (by kernel_rfl) (by kernel_rfl) (by kernel_rfl) (fun _ _ _ h => h) (Or.inr ⟨by kernel_rfl, rfl⟩) ?_
  refine wpAny_take (i := 22) (v := undef) rfl (by kernel_rfl) (by kernel_rfl) (by kernel_rfl) (fun _ _ _ h => h) (Or.inr ⟨by kernel_rfl, rfl⟩) ?_
  refine wpAny_take (i := 23) (v := undef) rfl (by kernel_rfl) (by kernel_rfl) (by kernel_rfl) (fun _ _ _ h => h) (Or.inr ⟨by kernel_rfl, rfl⟩) ?_
  refine wpAny_take (i := 24) (v := undef) rfl (by kernel_rfl) (by kernel_rfl) (by kernel_rfl) (fun _ _ _ h => h) (Or.inr ⟨by kernel_rfl, rfl⟩) ?_
  refine wpAny_take (i := 25) (v := .bool false) rfl (by kernel_rfl) (by kernel_rfl) (by kernel_rfl) (fun _ _ _ h => h) (Or.inl ⟨by kernel_rfl, by intro w; go_simp⟩) ?_
  refine wpAny_take (i := 26) (v := .bool false) rfl (by kernel_rfl) (by kernel_rfl) (by kernel_rfl) (fun _ _ _ h => h) (Or.inl ⟨by kernel_rfl, by intro w; go_simp⟩) ?_
  refine wpAny_done (by kernel_rfl) ?_ _
  refine act_norm (R := fun x => Exit.then _ _ Exit.normal x w4) (b := ⟨#[.slice p bs.length c, .int .i64 a, .int .u64 v, .slice ph hd.length ch, .slice pr rs.length cr, undef, undef, undef, undef, undef, .bool false, .int .u64 V, .int .i64 F, .int .i64 1, undef, undef, undef, undef, .tuple #[.int .u64 V, .int .i64 F, .int .i64 1], .slice p bs.length c, .int .i64 a, .tuple #[.int .u64 V, .int .i64 F, .int .i64 1], .int .u64 V, .int .i64 F, .int .i64 1, .bool true, .bool false, .bool false, .int .i64 1, .bool false, .bool false, undef, undef, undef, undef, undef, undef, undef, undef, undef, undef, undef, undef, undef, undef, undef, undef, undef, undef, undef, .bool false, .bool false, undef, undef, undef, undef, undef, undef, undef, undef, undef, undef, undef, undef, undef, undef, undef, undef, undef, undef, undef, undef, undef, undef, undef, undef, undef, undef, undef, undef, undef, undef, undef], []⟩) (by kernel_rfl) ?_
  show Exit.then _ _ Exit.normal _ w4
  have BW : Below w.heap.size w w4 := hb1.drew.trans (hb2.mono hb1.size)
  clear hb1 hb2 HRV
  have SW := BW.size
  go_wp2_with (at_builtin; refine wpList_append_row rfl _ _ 22 rfl w4.heap.size 5 i0 (.int .u8 0) Try.underlying22 hi hz0 hz1 hz2 rfl _ 0 [] rfl (World.ownsRow_nil _ _ _ _) _ hd rfl ((unhide HSH).below BW) (by omega) (Nat.le_refl _) ?_)
  intro v5 w5 hown5 hgrow5
  have B5 : Below w4.heap.size w4 w5 := (Below.refl _ _).grown hgrow5 (Nat.le_refl _) (fun k hk => by cases hk)
  have H5 := hide hown5
  clear hown5 hgrow5
  go_wp2_with fail
  refine (var_any v hv w5).mono ?_
  rintro e w6 ⟨t6, rfl, hown6, hb6⟩
  have B6 : Below w4.heap.size w4 w6 := B5.trans (hb6.mono B5.size)
  have S6 := B6.size
  have H6 : w6.ownsRow w4.heap.size 5 1 v5 hd.length (hd.map B) := owns_below (by simpa using unhide H5) hb6
  have R6 := hide (row_of_owns hown6)
  have L6 := (varF_len 9 v).2
  clear hown6
  go_wp2_with (at_builtin; refine wpList_append_row rfl _ _ 22 rfl w4.heap.size 5 i0 (.int .u8 0) Try.underlying22 hi hz0 hz1 hz2 rfl _ _ _ rfl H6 _ (varF 9 v) rfl (unhide R6) (by omega) S6 ?_)
  intro v7 w7 hown7 hgrow7
  have B7 : Below w4.heap.size w4 w7 := B6.grown hgrow7 S6 (fun k hk => (H6.lt k hk).1)
  have S7 := B7.size
  have H7 : w7.ownsRow w4.heap.size 5 1 v7 (hd ++ varF 9 v).length ((hd ++ varF 9 v).map B) := by simpa using hown7
  clear hown7 hgrow7 H6
  go_wp2_with (at_builtin; refine wpList_append_row rfl _ _ 22 rfl w4.heap.size 5 i0 (.int .u8 0) Try.underlying22 hi hz0 hz1 hz2 rfl _ _ _ rfl H7 _ rs rfl ((unhide HSR).below (BW.trans (B7.mono SW))) (by simp; omega) S7 ?_)
  intro v8 w8 hown8 hgrow8
  have B8 : Below w4.heap.size w4 w8 := B7.grown hgrow8 S7 (fun k hk => (H7.lt k hk).1)
  have H8 : w8.ownsRow w4.heap.size 5 1 v8 (hd ++ varF 9 v ++ rs).length ((hd ++ varF 9 v ++ rs).map B) := by simpa [Nat.add_assoc] using hown8
  have R8 := row_of_owns H8
  clear hown8 hgrow8 H7 H8
  obtain ⟨p8, c8, l8, rfl, hl8⟩ := R8.shape
  obtain ⟨q1, q2, q3⟩ := read_written hd rs v hv
  have HR := hide (readvar_any _ (hd ++ varF 9 v ++ rs) (hd.length : Nat) w8 R8 (by simp; omega))
  rw [q1, q2, q3] at HR
  have hl8' : l8 = hd.length + (varF 9 v).length + rs.length := by rw [← hl8, List.length_append, List.length_append]
  subst hl8'
  clear R8 hl8 q1 q2 q3
  generalize (varF 9 v).length = L at *
  go_wp2_with fail
  refine Calls.mono (unhide HR) ?_
  rintro e w9 ⟨rfl, hb9⟩
  have B9 : Below w.heap.size w w9 := (BW.trans (B8.mono SW)).trans (hb9.mono (by have := B8.size; omega))
  clear HR
  go_wp2
  go_ret
  exact ⟨rfl, B9⟩

set_option maxRecDepth 100000 in
set_option maxHeartbeats 2000000 in
theorem one_err_10 (p : Option Addr) (bs : List UInt8) (c : Nat) (a F : Int) (V v : Nat) (ph : Option Addr) (hd : List UInt8) (ch : Nat) (pr : Option Addr) (rs : List UInt8) (cr : Nat) (w : World) (hroomh : hd.length ≤ 1048576) (hroomr : rs.length ≤ 1048576) (hv : v < 18446744073709551616)
    (HSH : Hid (Row w (.slice ph hd.length ch) hd)) (HSR : Hid (Row w (.slice pr rs.length cr) rs))
    (HRV : Hid (Calls Try.prog 18 #[.slice p bs.length c, .int .i64 a] w fun e w' => e = .returned (.tuple #[.int .u64 V, .int .i64 F, .int .i64 10]) ∧ Below w.heap.size w w')) :
    Calls Try.prog 7 #[.slice p bs.length c, .int .i64 a, .int .u64 v, .slice ph hd.length ch, .slice pr rs.length cr] w fun e w' => e = .returned (.bool true) ∧ Below w.heap.size w w' := by
  obtain ⟨i0, hi, hz0, hz1, hz2⟩ := info_parts Try.info5
  go_enter Try.func7, Try.ntmps7
  go_wp2_with fail
  refine Calls.mono (unhide HRV) ?_
  rintro e w1 ⟨rfl, hb1⟩
  go_wp2_with fail
  refine wp_region_any (by kernel_rfl) ?_
  change wpAny _ _ _ _ _ _ _ (World.drew _)
  refine wpAny_ready (rs := [0]) (by kernel_rfl) (by simp) ?_
  refine AllReady.cons rfl (fun K hK => ?_) AllReady.nil
  go_simp
  refine (awake_any _).mono ?_
  rintro e w4 ⟨rfl, hb2⟩
  refine hK _ _ ?_
  clear hK K
  refine wpAny_take (i := 1) (v := .bool false) rfl (by kernel_rfl) (by kernel_rfl) (by kernel_rfl) (fun _ _ _ h => h) (Or.inl ⟨by kernel_rfl, by intro w; go_simp⟩) ?_
  refine wpAny_take (i := 2) (v := .bool false) rfl (by kernel_rfl) (by kernel_rfl) (by kernel_rfl) (fun _ _ _ h => h) (Or.inl ⟨by kernel_rfl, by intro w; go_simp⟩) ?_
  refine wpAny_take (i := 3) (v := .int .i64 10) rfl (by kernel_rfl) (by kernel_rfl) (by kernel_rfl) (fun _ _ _ h => h) (Or.inl ⟨by kernel_rfl, by intro w; go_simp⟩) ?_
  refine wpAny_take (i := 4) (v := .bool false) rfl (by kernel_rfl) (by kernel_rfl) (by kernel_rfl) (fun _ _ _ h => h) (Or.inl ⟨by kernel_rfl, by intro w; go_simp⟩) ?_
  refine wpAny_take (i := 5) (v := .bool false) rfl (by kernel_rfl) (by kernel_rfl) (by kernel_rfl) (fun _ _ _ h => h) (Or.inl ⟨by kernel_rfl, by intro w; go_simp⟩) ?_
  refine wpAny_take (i := 6) (v := undef) rfl (by kernel_rfl) (by kernel_rfl) (by kernel_rfl) (fun _ _ _ h => h) (Or.inr ⟨by kernel_rfl, rfl⟩) ?_
  refine wpAny_take (i := 7) (v := undef) rfl (by kernel_rfl) (by kernel_rfl) (by kernel_rfl) (fun _ _ _ h => h) (Or.inr ⟨by kernel_rfl, rfl⟩) ?_
  refine wpAny_take (i := 8) (v := undef) rfl (by kernel_rfl) (by kernel_rfl) (by kernel_rfl) (fun _ _ _ h => h) (Or.inr ⟨by kernel_rfl, rfl⟩) ?_
  refine wpAny_take (i := 9) (v := undef) rfl (by kernel_rfl) (by kernel_rfl) (by kernel_rfl) (fun _ _ _ h => h) (Or.inr ⟨by kernel_rfl, rfl⟩) ?_
  refine wpAny_take (i := 10) (v := undef) rfl (by kernel_rfl) (by kernel_rfl) (by kernel_rfl) (fun _ _ _ h => h) (Or.inr ⟨by kernel_rfl, rfl⟩) ?_
  refine wpAny_take (i := 11) (v := undef) rfl (by kernel_rfl) (by kernel_rfl) (by kernel_rfl) (fun _ _ _ h => h) (Or.inr ⟨by kernel_rfl, rfl⟩) ?_
  refine wpAny_take (i := 12) (v := undef) rfl (by kernel_rfl) (by kernel_rfl) (by kernel_rfl) (fun _ _ _ h => h) (Or.inr ⟨by kernel_rfl, rfl⟩) ?_
  refine wpAny_take (i := 13) (v := undef) rfl (by kernel_rfl) (by kernel_rfl) (by kernel_rfl) (fun _ _ _ h => h) (Or.inr ⟨by kernel_rfl, rfl⟩) ?_
  refine wpAny_take (i := 14) (v := undef) rfl (by kernel_rfl) (by kernel_rfl) (by kernel_rfl) (fun _ _ _ h => h) (Or.inr ⟨by kernel_rfl, rfl⟩) ?_
  refine wpAny_take (i := 15) (v := undef) rfl (by kernel_rfl) (by kernel_rfl) (by kernel_rfl) (fun _ _ _ h => h) (Or.inr ⟨by kernel_rfl, rfl⟩) ?_
  refine wpAny_take (i := 16) (v := undef) rfl (by kernel_rfl) (by kernel_rfl) (by kernel_rfl) (fun _ _ _ h => h) (Or.inr ⟨by kernel_rfl, rfl⟩) ?_
  refine wpAny_take (i := 17) (v := undef) rfl (by kernel_rfl) (by kernel_rfl) (by kernel_rfl) (fun _ _ _ h => h) (Or.inr ⟨by kernel_rfl, rfl⟩) ?_
  refine wpAny_take (i := 18) (v := undef) rfl (by kernel_rfl) (by kernel_rfl) (by kernel_rfl) (fun _ _ _ h => h) (Or.inr ⟨by kernel_rfl, rfl⟩) ?_
  refine wpAny_take (i := 19) (v := undef) rfl (by kernel_rfl) (by kernel_rfl) (by kernel_rfl) (fun _ _ _ h => h) (Or.inr ⟨by kernel_rfl, rfl⟩) ?_
  refine wpAny_take (i := 20) (v := undef) rfl (by kernel_rfl) (by kernel_rfl) (by kernel_rfl) (fun _ _ _ h => h) (Or.inr ⟨by kernel_rfl, rfl⟩) ?_
  refine wpAny_take (i := 21) (v := undef) rfl (by kernel_rfl) (by kernel_rfl) (by kernel_rfl) (fun _ _ _ h => h) (Or.inr ⟨by kernel_rfl, rfl⟩) ?_
  refine wpAny_take (i := 22) (v := undef) rfl (by kernel_rfl) (by kernel_rfl) (by kernel_rfl) (fun _ _ _ h => h) (Or.inr ⟨by kernel_rfl, rfl⟩) ?_
  refine wpAny_take (i := 23) (v := undef) rfl (by kernel_rfl) (by kernel_rfl) (by kernel_rfl) (fun _ _ _ h => h) (Or.inr ⟨by kernel_rfl, rfl⟩) ?_
  refine wpAny_take (i := 24) (v := undef) rfl (by kernel_rfl) (by kernel_rfl) (by kernel_rfl) (fun _ _ _ h => h) (Or.inr ⟨by kernel_rfl, rfl⟩) ?_
  refine wpAny_take (i := 25) (v := .bool false) rfl (by kernel_rfl) (by kernel_rfl) (by kernel_rfl) (fun _ _ _ h => h) (Or.inl ⟨by kernel_rfl, by intro w; go_simp⟩) ?_
  refine wpAny_take (i := 26) (v := .bool false) rfl (by kernel_rfl) (by kernel_rfl) (by kernel_rfl) (fun _ _ _ h => h) (Or.inl ⟨by kernel_rfl, by intro w; go_simp⟩) ?_
  refine wpAny_done (by kernel_rfl) ?_ _
  refine act_norm (R := fun x => Exit.then _ _ Exit.normal x w4) (b := ⟨#[.slice p bs.length c, .int .i64 a, .int .u64 v, .slice ph hd.length ch, .slice pr rs.length cr, undef, undef, undef, undef, undef, .bool false, .int .u64 V, .int .i64 F, .int .i64 10, undef, undef, undef, undef, .tuple #[.int .u64 V, .int .i64 F, .int .i64 10], .slice p bs.length c, .int .i64 a, .tuple #[.int .u64 V, .int .i64 F, .int .i64 10], .int .u64 V, .int .i64 F, .int .i64 10, .bool true, .bool false, .bool false, .int .i64 10, .bool false, .bool false, undef, undef, undef, undef, undef, undef, undef, undef, undef, undef, undef, undef, undef, undef, undef, undef, undef, undef, undef, .bool false, .bool false, undef, undef, undef, undef, undef, undef, undef, undef, undef, undef, undef, undef, undef, undef, undef, undef, undef, undef, undef, undef, undef, undef, undef, undef, undef, undef, undef, undef, undef, undef, undef], []⟩) (by kernel_rfl) ?_
  show Exit.then _ _ Exit.normal _ w4
  have BW : Below w.heap.size w w4 := hb1.drew.trans (hb2.mono hb1.size)
  clear hb1 hb2 HRV
  have SW := BW.size
  go_wp2_with (at_builtin; refine wpList_append_row rfl _ _ 22 rfl w4.heap.size 5 i0 (.int .u8 0) Try.underlying22 hi hz0 hz1 hz2 rfl _ 0 [] rfl (World.ownsRow_nil _ _ _ _) _ hd rfl ((unhide HSH).below BW) (by omega) (Nat.le_refl _) ?_)
  intro v5 w5 hown5 hgrow5
  have B5 : Below w4.heap.size w4 w5 := (Below.refl _ _).grown hgrow5 (Nat.le_refl _) (fun k hk => by cases hk)
  have H5 := hide hown5
  clear hown5 hgrow5
  go_wp2_with fail
  refine (var_any v hv w5).mono ?_
  rintro e w6 ⟨t6, rfl, hown6, hb6⟩
  have B6 : Below w4.heap.size w4 w6 := B5.trans (hb6.mono B5.size)
  have S6 := B6.size
  have H6 : w6.ownsRow w4.heap.size 5 1 v5 hd.length (hd.map B) := owns_below (by simpa using unhide H5) hb6
  have R6 := hide (row_of_owns hown6)
  have L6 := (varF_len 9 v).2
  clear hown6
  go_wp2_with (at_builtin; refine wpList_append_row rfl _ _ 22 rfl w4.heap.size 5 i0 (.int .u8 0) Try.underlying22 hi hz0 hz1 hz2 rfl _ _ _ rfl H6 _ (varF 9 v) rfl (unhide R6) (by omega) S6 ?_)
  intro v7 w7 hown7 hgrow7
  have B7 : Below w4.heap.size w4 w7 := B6.grown hgrow7 S6 (fun k hk => (H6.lt k hk).1)
  have S7 := B7.size
  have H7 : w7.ownsRow w4.heap.size 5 1 v7 (hd ++ varF 9 v).length ((hd ++ varF 9 v).map B) := by simpa using hown7
  clear hown7 hgrow7 H6
  go_wp2_with (at_builtin; refine wpList_append_row rfl _ _ 22 rfl w4.heap.size 5 i0 (.int .u8 0) Try.underlying22 hi hz0 hz1 hz2 rfl _ _ _ rfl H7 _ rs rfl ((unhide HSR).below (BW.trans (B7.mono SW))) (by simp; omega) S7 ?_)
  intro v8 w8 hown8 hgrow8
  have B8 : Below w4.heap.size w4 w8 := B7.grown hgrow8 S7 (fun k hk => (H7.lt k hk).1)
  have H8 : w8.ownsRow w4.heap.size 5 1 v8 (hd ++ varF 9 v ++ rs).length ((hd ++ varF 9 v ++ rs).map B) := by simpa [Nat.add_assoc] using hown8
  have R8 := row_of_owns H8
  clear hown8 hgrow8 H7 H8
  obtain ⟨p8, c8, l8, rfl, hl8⟩ := R8.shape
  obtain ⟨q1, q2, q3⟩ := read_written hd rs v hv
  have HR := hide (readvar_any _ (hd ++ varF 9 v ++ rs) (hd.length : Nat) w8 R8 (by simp; omega))
  rw [q1, q2, q3] at HR
  have hl8' : l8 = hd.length + (varF 9 v).length + rs.length := by rw [← hl8, List.length_append, List.length_append]
  subst hl8'
  clear R8 hl8 q1 q2 q3
  generalize (varF 9 v).length = L at *
  go_wp2_with fail
  refine Calls.mono (unhide HR) ?_
  rintro e w9 ⟨rfl, hb9⟩
  have B9 : Below w.heap.size w w9 := (BW.trans (B8.mono SW)).trans (hb9.mono (by have := B8.size; omega))
  clear HR
  go_wp2
  go_ret
  exact ⟨rfl, B9⟩

set_option maxRecDepth 100000 in
set_option maxHeartbeats 2000000 in
theorem one_err_11 (p : Option Addr) (bs : List UInt8) (c : Nat) (a F : Int) (V v : Nat) (ph : Option Addr) (hd : List UInt8) (ch : Nat) (pr : Option Addr) (rs : List UInt8) (cr : Nat) (w : World) (hroomh : hd.length ≤ 1048576) (hroomr : rs.length ≤ 1048576) (hv : v < 18446744073709551616)
    (HSH : Hid (Row w (.slice ph hd.length ch) hd)) (HSR : Hid (Row w (.slice pr rs.length cr) rs))
    (HRV : Hid (Calls Try.prog 18 #[.slice p bs.length c, .int .i64 a] w fun e w' => e = .returned (.tuple #[.int .u64 V, .int .i64 F, .int .i64 11]) ∧ Below w.heap.size w w')) :
    Calls Try.prog 7 #[.slice p bs.length c, .int .i64 a, .int .u64 v, .slice ph hd.length ch, .slice pr rs.length cr] w fun e w' => e = .returned (.bool true) ∧ Below w.heap.size w w' := by
  obtain ⟨i0, hi, hz0, hz1, hz2⟩ := info_parts Try.info5
  go_enter Try.func7, Try.ntmps7
  go_wp2_with fail
  refine Calls.mono (unhide HRV) ?_
  rintro e w1 ⟨rfl, hb1⟩
  go_wp2_with fail
  refine wp_region_any (by kernel_rfl) ?_
  change wpAny _ _ _ _ _ _ _ (World.drew _)
  refine wpAny_ready (rs := [0]) (by kernel_rfl) (by simp) ?_
  refine AllReady.cons rfl (fun K hK => ?_) AllReady.nil
  go_simp
  refine (awake_any _).mono ?_
  rintro e w4 ⟨rfl, hb2⟩
  refine hK _ _ ?_
  clear hK K
  refine wpAny_take (i := 1) (v := .bool false) rfl (by kernel_rfl) (by kernel_rfl) (by kernel_rfl) (fun _ _ _ h => h) (Or.inl ⟨by kernel_rfl, by intro w; go_simp⟩) ?_
  refine wpAny_take (i := 2) (v := .bool false) rfl (by kernel_rfl) (by kernel_rfl) (by kernel_rfl) (fun _ _ _ h => h) (Or.inl ⟨by kernel_rfl, by intro w; go_simp⟩) ?_
  refine wpAny_take (i := 3) (v := .int .i64 11) rfl (by kernel_rfl) (by kernel_rfl) (by kernel_rfl) (fun _ _ _ h => h) (Or.inl ⟨by kernel_rfl, by intro w; go_simp⟩) ?_
  refine wpAny_take (i := 4) (v := .bool false) rfl (by kernel_rfl) (by kernel_rfl) (by kernel_rfl) (fun _ _ _ h => h) (Or.inl ⟨by kernel_rfl, by intro w; go_simp⟩) ?_
  refine wpAny_take (i := 5) (v := .bool false) rfl (by kernel_rfl) (by kernel_rfl) (by kernel_rfl) (fun _ _ _ h => h) (Or.inl ⟨by kernel_rfl, by intro w; go_simp⟩) ?_
  refine wpAny_take (i := 6) (v := undef) rfl (by kernel_rfl) (by kernel_rfl) (by kernel_rfl) (fun _ _ _ h => h) (Or.inr ⟨by kernel_rfl, rfl⟩) ?_
  refine wpAny_take (i := 7) (v := undef) rfl (by kernel_rfl) (by kernel_rfl) (by kernel_rfl) (fun _ _ _ h => h) (Or.inr ⟨by kernel_rfl, rfl⟩) ?_
  refine wpAny_take (i := 8) (v := undef) rfl (by kernel_rfl) (by kernel_rfl) (by kernel_rfl) (fun _ _ _ h => h) (Or.inr ⟨by kernel_rfl, rfl⟩) ?_
  refine wpAny_take (i := 9) (v := undef) rfl (by kernel_rfl) (by kernel_rfl) (by kernel_rfl) (fun _ _ _ h => h) (Or.inr ⟨by kernel_rfl, rfl⟩) ?_
  refine wpAny_take (i := 10) (v := undef) rfl (by kernel_rfl) (by kernel_rfl) (by kernel_rfl) (fun _ _ _ h => h) (Or.inr ⟨by kernel_rfl, rfl⟩) ?_
  refine wpAny_take (i := 11) (v := undef) rfl (by kernel_rfl) (by kernel_rfl) (by kernel_rfl) (fun _ _ _ h => h) (Or.inr ⟨by kernel_rfl, rfl⟩) ?_
  refine wpAny_take (i := 12) (v := undef) rfl (by kernel_rfl) (by kernel_rfl) (by kernel_rfl) (fun _ _ _ h => h) (Or.inr ⟨by kernel_rfl, rfl⟩) ?_
  refine wpAny_take (i := 13) (v := undef) rfl (by kernel_rfl) (by kernel_rfl) (by kernel_rfl) (fun _ _ _ h => h) (Or.inr ⟨by kernel_rfl, rfl⟩) ?_
  refine wpAny_take (i := 14) (v := undef) rfl (by kernel_rfl) (by kernel_rfl) (by kernel_rfl) (fun _ _ _ h => h) (Or.inr ⟨by kernel_rfl, rfl⟩) ?_
  refine wpAny_take (i := 15) (v := undef) rfl (by kernel_rfl) (by kernel_rfl) (by kernel_rfl) (fun _ _ _ h => h) (Or.inr ⟨by kernel_rfl, rfl⟩) ?_
  refine wpAny_take (i := 16) (v := undef) rfl (by kernel_rfl) (by kernel_rfl) (by kernel_rfl) (fun _ _ _ h => h) (Or.inr ⟨by kernel_rfl, rfl⟩) ?_
  refine wpAny_take (i := 17) (v := undef) rfl (by kernel_rfl) (by kernel_rfl) (by kernel_rfl) (fun _ _ _ h => h) (Or.inr ⟨by kernel_rfl, rfl⟩) ?_
  refine wpAny_take (i := 18) (v := undef) rfl (by kernel_rfl) (by kernel_rfl) (by kernel_rfl) (fun _ _ _ h => h) (Or.inr ⟨by kernel_rfl, rfl⟩) ?_
  refine wpAny_take (i := 19) (v := undef) rfl (by kernel_rfl) (by kernel_rfl) (by kernel_rfl) (fun _ _ _ h => h) (Or.inr ⟨by kernel_rfl, rfl⟩) ?_
  refine wpAny_take (i := 20) (v := undef) rfl (by kernel_rfl) (by kernel_rfl) (by kernel_rfl) (fun _ _ _ h => h) (Or.inr ⟨by kernel_rfl, rfl⟩) ?_
  refine wpAny_take (i := 21) (v := undef) rfl (by kernel_rfl) (by kernel_rfl) (by kernel_rfl) (fun _ _ _ h => h) (Or.inr ⟨by kernel_rfl, rfl⟩) ?_
  refine wpAny_take (i := 22) (v := undef) rfl (by kernel_rfl) (by kernel_rfl) (by kernel_rfl) (fun _ _ _ h => h) (Or.inr ⟨by kernel_rfl, rfl⟩) ?_
  refine wpAny_take (i := 23) (v := undef) rfl (by kernel_rfl) (by kernel_rfl) (by kernel_rfl) (fun _ _ _ h => h) (Or.inr ⟨by kernel_rfl, rfl⟩) ?_
  refine wpAny_take (i := 24) (v := undef) rfl (by kernel_rfl) (by kernel_rfl) (by kernel_rfl) (fun _ _ _ h => h) (Or.inr ⟨by kernel_rfl, rfl⟩) ?_
  refine wpAny_take (i := 25) (v := .bool false) rfl (by kernel_rfl) (by kernel_rfl) (by kernel_rfl) (fun _ _ _ h => h) (Or.inl ⟨by kernel_rfl, by intro w; go_simp⟩) ?_
  refine wpAny_take (i := 26) (v := .bool false) rfl (by kernel_rfl) (by kernel_rfl) (by kernel_rfl) (fun _ _ _ h => h) (Or.inl ⟨by kernel_rfl, by intro w; go_simp⟩) ?_
  refine wpAny_done (by kernel_rfl) ?_ _
  refine act_norm (R := fun x => Exit.then _ _ Exit.normal x w4) (b := ⟨#[.slice p bs.length c, .int .i64 a, .int .u64 v, .slice ph hd.length ch, .slice pr rs.length cr, undef, undef, undef, undef, undef, .bool false, .int .u64 V, .int .i64 F, .int .i64 11, undef, undef, undef, undef, .tuple #[.int .u64 V, .int .i64 F, .int .i64 11], .slice p bs.length c, .int .i64 a, .tuple #[.int .u64 V, .int .i64 F, .int .i64 11], .int .u64 V, .int .i64 F, .int .i64 11, .bool true, .bool false, .bool false, .int .i64 11, .bool false, .bool false, undef, undef, undef, undef, undef, undef, undef, undef, undef, undef, undef, undef, undef, undef, undef, undef, undef, undef, undef, .bool false, .bool false, undef, undef, undef, undef, undef, undef, undef, undef, undef, undef, undef, undef, undef, undef, undef, undef, undef, undef, undef, undef, undef, undef, undef, undef, undef, undef, undef, undef, undef, undef, undef], []⟩) (by kernel_rfl) ?_
  show Exit.then _ _ Exit.normal _ w4
  have BW : Below w.heap.size w w4 := hb1.drew.trans (hb2.mono hb1.size)
  clear hb1 hb2 HRV
  have SW := BW.size
  go_wp2_with (at_builtin; refine wpList_append_row rfl _ _ 22 rfl w4.heap.size 5 i0 (.int .u8 0) Try.underlying22 hi hz0 hz1 hz2 rfl _ 0 [] rfl (World.ownsRow_nil _ _ _ _) _ hd rfl ((unhide HSH).below BW) (by omega) (Nat.le_refl _) ?_)
  intro v5 w5 hown5 hgrow5
  have B5 : Below w4.heap.size w4 w5 := (Below.refl _ _).grown hgrow5 (Nat.le_refl _) (fun k hk => by cases hk)
  have H5 := hide hown5
  clear hown5 hgrow5
  go_wp2_with fail
  refine (var_any v hv w5).mono ?_
  rintro e w6 ⟨t6, rfl, hown6, hb6⟩
  have B6 : Below w4.heap.size w4 w6 := B5.trans (hb6.mono B5.size)
  have S6 := B6.size
  have H6 : w6.ownsRow w4.heap.size 5 1 v5 hd.length (hd.map B) := owns_below (by simpa using unhide H5) hb6
  have R6 := hide (row_of_owns hown6)
  have L6 := (varF_len 9 v).2
  clear hown6
  go_wp2_with (at_builtin; refine wpList_append_row rfl _ _ 22 rfl w4.heap.size 5 i0 (.int .u8 0) Try.underlying22 hi hz0 hz1 hz2 rfl _ _ _ rfl H6 _ (varF 9 v) rfl (unhide R6) (by omega) S6 ?_)
  intro v7 w7 hown7 hgrow7
  have B7 : Below w4.heap.size w4 w7 := B6.grown hgrow7 S6 (fun k hk => (H6.lt k hk).1)
  have S7 := B7.size
  have H7 : w7.ownsRow w4.heap.size 5 1 v7 (hd ++ varF 9 v).length ((hd ++ varF 9 v).map B) := by simpa using hown7
  clear hown7 hgrow7 H6
  go_wp2_with (at_builtin; refine wpList_append_row rfl _ _ 22 rfl w4.heap.size 5 i0 (.int .u8 0) Try.underlying22 hi hz0 hz1 hz2 rfl _ _ _ rfl H7 _ rs rfl ((unhide HSR).below (BW.trans (B7.mono SW))) (by simp; omega) S7 ?_)
  intro v8 w8 hown8 hgrow8
  have B8 : Below w4.heap.size w4 w8 := B7.grown hgrow8 S7 (fun k hk => (H7.lt k hk).1)
  have H8 : w8.ownsRow w4.heap.size 5 1 v8 (hd ++ varF 9 v ++ rs).length ((hd ++ varF 9 v ++ rs).map B) := by simpa [Nat.add_assoc] using hown8
  have R8 := row_of_owns H8
  clear hown8 hgrow8 H7 H8
  obtain ⟨p8, c8, l8, rfl, hl8⟩ := R8.shape
  obtain ⟨q1, q2, q3⟩ := read_written hd rs v hv
  have HR := hide (readvar_any _ (hd ++ varF 9 v ++ rs) (hd.length : Nat) w8 R8 (by simp; omega))
  rw [q1, q2, q3] at HR
  have hl8' : l8 = hd.length + (varF 9 v).length + rs.length := by rw [← hl8, List.length_append, List.length_append]
  subst hl8'
  clear R8 hl8 q1 q2 q3
  generalize (varF 9 v).length = L at *
  go_wp2_with fail
  refine Calls.mono (unhide HR) ?_
  rintro e w9 ⟨rfl, hb9⟩
  have B9 : Below w.heap.size w w9 := (BW.trans (B8.mono SW)).trans (hb9.mono (by have := B8.size; omega))
  clear HR
  go_wp2
  go_ret
  exact ⟨rfl, B9⟩

set_option maxHeartbeats 2000000 in
theorem one_any (s : Value) (bs : List UInt8) (a : Int) (v : Nat) (sh : Value) (hd : List UInt8) (sr : Value) (rs : List UInt8) (w : World) (hs : Row w s bs) (hroom : bs.length ≤ 1048576) (hsh : Row w sh hd) (hroomh : hd.length ≤ 1048576) (hsr : Row w sr rs) (hroomr : rs.length ≤ 1048576) (hv : v < 18446744073709551616) :
    Calls Try.prog 7 #[s, .int .i64 a, .int .u64 v, sh, sr] w fun e w' => e = .returned (.bool true) ∧ Below w.heap.size w w' := by
  obtain ⟨i0, hi, hz0, hz1, hz2⟩ := info_parts Try.info5
  have HS := hide hs
  have HSH := hide hsh
  have HSR := hide hsr
  obtain ⟨p, c, l, rfl, hl0⟩ := hs.shape
  subst hl0
  obtain ⟨ph, ch, lh, rfl, hlh⟩ := hsh.shape
  subst hlh
  obtain ⟨pr, cr, lr, rfl, hlr⟩ := hsr.shape
  subst hlr
  clear hsh hsr
  by_cases hE : readE bs a = 0
  · obtain ⟨ha0, hn1, hn2, hv64⟩ := read_ok bs a hE
    have hback := read_back bs a hE
    have HRV := hide (readvar_any _ bs a w hs (by omega))
    have hn0 : 0 ≤ readN bs a := by omega
    generalize readN bs a = F at *
    generalize readV bs a = V at *
    generalize readE bs a = E at *
    subst hE
    obtain ⟨k, rfl⟩ := Int.eq_ofNat_of_zero_le ha0
    obtain ⟨f, rfl⟩ := Int.eq_ofNat_of_zero_le hn0
    rw [Int.toNat_natCast, Int.toNat_natCast] at hback
    obtain ⟨b, off, cap, es, hcap, hcm, hcell⟩ := hs.open (by intro e; rw [e] at hn2; simp at hn2; omega)
    simp only [Value.slice.injEq, true_and] at es
    obtain ⟨rfl, rfl⟩ := es
    have HC := hide (Row.cut hcell k (f - k) (c - k) (by omega) (by omega) (by omega))
    rw [← hback] at HC
    unfold maxLen at hcm
    have d1 : decide (f ≤ k) = false := by simp; omega
    have d2 : decide (bs.length < f) = false := by simp; omega
    have hi1 : (f : Int) ≤ c := by omega
    have hi2 : ¬ c = k := by omega
    have hi3 : (k : Int) ≤ f := by omega
    clear hs hback hcell hn0 ha0
    go_enter Try.func7, Try.ntmps7
    go_wp2_with fail
    refine Calls.mono (unhide HRV) ?_
    rintro e w1 ⟨rfl, hb1⟩
    go_wp2_with fail
    go_region_held3 (fun _ => True) (exact trivial)
      (first
        | (go_at_call 14; refine (awake_any _).mono ?_; rintro e w2 ⟨rfl, hb2⟩)
        | (go_at_call 20; refine (var_any V hv64 _).mono ?_; rintro e w3 ⟨t3, rfl, hown3, hb3⟩)
        | (go_at_call 15; refine (bytes_any _ _ (varF 9 V) (varF 9 V) _ (by exact row_of_owns hown3) (by exact (unhide HC).below ((hb1.drew.trans (hb2.mono hb1.size)).trans (hb3.mono (Nat.le_trans hb1.size hb2.size))))).mono ?_; rintro e w4 ⟨rfl, rfl⟩; rw [show (varF 9 V == varF 9 V) = true by simp]))
    have BW : Below w.heap.size w w4 := (hb1.drew.trans (hb2.mono hb1.size)).trans (hb3.mono (Nat.le_trans hb1.size hb2.size))
    clear hown3 hb1 hb2 hb3 HRV HC HS
    have SW := BW.size
    go_wp2_with (at_builtin; refine wpList_append_row rfl _ _ 22 rfl w4.heap.size 5 i0 (.int .u8 0) Try.underlying22 hi hz0 hz1 hz2 rfl _ 0 [] rfl (World.ownsRow_nil _ _ _ _) _ hd rfl ((unhide HSH).below BW) (by omega) (Nat.le_refl _) ?_)
    intro v5 w5 hown5 hgrow5
    have B5 : Below w4.heap.size w4 w5 := (Below.refl _ _).grown hgrow5 (Nat.le_refl _) (fun k hk => by cases hk)
    have H5 := hide hown5
    clear hown5 hgrow5
    go_wp2_with fail
    refine (var_any v hv w5).mono ?_
    rintro e w6 ⟨t6, rfl, hown6, hb6⟩
    have B6 : Below w4.heap.size w4 w6 := B5.trans (hb6.mono B5.size)
    have S6 := B6.size
    have H6 : w6.ownsRow w4.heap.size 5 1 v5 hd.length (hd.map B) := owns_below (by simpa using unhide H5) hb6
    have R6 := hide (row_of_owns hown6)
    have L6 := (varF_len 9 v).2
    clear hown6
    go_wp2_with (at_builtin; refine wpList_append_row rfl _ _ 22 rfl w4.heap.size 5 i0 (.int .u8 0) Try.underlying22 hi hz0 hz1 hz2 rfl _ _ _ rfl H6 _ (varF 9 v) rfl (unhide R6) (by omega) S6 ?_)
    intro v7 w7 hown7 hgrow7
    have B7 : Below w4.heap.size w4 w7 := B6.grown hgrow7 S6 (fun k hk => (H6.lt k hk).1)
    have S7 := B7.size
    have H7 : w7.ownsRow w4.heap.size 5 1 v7 (hd ++ varF 9 v).length ((hd ++ varF 9 v).map B) := by simpa using hown7
    clear hown7 hgrow7 H6
    go_wp2_with (at_builtin; refine wpList_append_row rfl _ _ 22 rfl w4.heap.size 5 i0 (.int .u8 0) Try.underlying22 hi hz0 hz1 hz2 rfl _ _ _ rfl H7 _ rs rfl ((unhide HSR).below (BW.trans (B7.mono SW))) (by simp; omega) S7 ?_)
    intro v8 w8 hown8 hgrow8
    have B8 : Below w4.heap.size w4 w8 := B7.grown hgrow8 S7 (fun k hk => (H7.lt k hk).1)
    have H8 : w8.ownsRow w4.heap.size 5 1 v8 (hd ++ varF 9 v ++ rs).length ((hd ++ varF 9 v ++ rs).map B) := by simpa [Nat.add_assoc] using hown8
    have R8 := row_of_owns H8
    clear hown8 hgrow8 H7 H8
    obtain ⟨p8, c8, l8, rfl, hl8⟩ := R8.shape
    obtain ⟨q1, q2, q3⟩ := read_written hd rs v hv
    have HR := hide (readvar_any _ (hd ++ varF 9 v ++ rs) (hd.length : Nat) w8 R8 (by simp; omega))
    rw [q1, q2, q3] at HR
    have hl8' : l8 = hd.length + (varF 9 v).length + rs.length := by rw [← hl8, List.length_append, List.length_append]
    subst hl8'
    clear R8 hl8 q1 q2 q3
    generalize (varF 9 v).length = L at *
    go_wp2_with fail
    refine Calls.mono (unhide HR) ?_
    rintro e w9 ⟨rfl, hb9⟩
    have B9 : Below w.heap.size w w9 := (BW.trans (B8.mono SW)).trans (hb9.mono (by have := B8.size; omega))
    clear HR
    go_wp2
    go_ret
    exact ⟨rfl, B9⟩
  · have HRV := hide (readvar_any _ bs a w hs (by omega))
    have hvals := readE_vals bs a
    clear hs
    generalize readE bs a = E at *
    generalize readN bs a = F at *
    generalize readV bs a = V at *
    have hvals' : E = 1 ∨ E = 10 ∨ E = 11 := by omega
    clear hvals hE
    rcases hvals' with rfl | rfl | rfl
    · exact one_err_1 p bs c a F V v ph hd ch pr rs cr w hroomh hroomr hv HSH HSR HRV
    · exact one_err_10 p bs c a F V v ph hd ch pr rs cr w hroomh hroomr hv HSH HSR HRV
    · exact one_err_11 p bs c a F V v ph hd ch pr rs cr w hroomh hroomr hv HSH HSR HRV

theorem walk_WordOneForm (s : Value) (bs : List UInt8) (a1 : Int) (_w1 : (Lit.int .i64 a1).wf = true) (a2 : Int) (w2 : (Lit.int .u64 a2).wf = true) (sh : Value) (hd : List UInt8) (sr : Value) (rs : List UInt8) (w : World) (hs : Row w s bs) (hroom : bs.length ≤ 1048576) (hsh : Row w sh hd) (hroomh : hd.length ≤ 1048576) (hsr : Row w sr rs) (hroomr : rs.length ≤ 1048576) :
    Calls Try.prog 7 #[s, .int .i64 a1, .int .u64 a2, sh, sr] w fun e w' => e = .returned (.bool true) ∧ Below w.heap.size w w' := by
  have hb := bounds_u64 w2
  obtain ⟨v, rfl⟩ := Int.eq_ofNat_of_zero_le hb.1
  exact one_any s bs a1 v sh hd sr rs w hs hroom hsh hroomh hsr hroomr (by omega)
end Go.Proofs.Ytjcemodfpcohgaa
