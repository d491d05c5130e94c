/- The walk of the statement MergeFirst. -/
import Derived.Test.YtcjepiihknjeiaaG23
namespace Go.Proofs.Ytcjepiihknjeiaa.QH
open Go.RowKit

theorem kmay_check {l : List En} (h : rightE l = true) : (if rightE l = true then (0 : Int) else 11) = 0 := if_pos h
/-- Of the first lists none has it. -/
theorem find_none {LL : List (List En)} {key : ByteArray} (h : ∀ l ∈ LL, ofE l key = none) : LL.findSome? (fun l => ofE l key) = none := List.findSome?_eq_none_iff.2 h
theorem find_at {LL : List (List En)} {key : ByteArray} {k : Nat} (hk : k < LL.length) (hn : ∀ l ∈ LL.take k, ofE l key = none) {x : En} (hx : ofE LL[k] key = some x) : LL.findSome? (fun l => ofE l key) = some x := by
  rw [← List.take_append_drop k LL, List.findSome?_append, find_none hn, List.drop_eq_getElem_cons hk, List.findSome?_cons, hx]
  rfl
theorem take_none {LL : List (List En)} {key : ByteArray} {k : Nat} (hk : k < LL.length) (hn : ∀ l ∈ LL.take k, ofE l key = none) (hx : ofE LL[k] key = none) : ∀ l ∈ LL.take (k + 1), ofE l key = none := fun l hl => by
  rw [List.take_succ_eq_append_getElem hk] at hl
  rcases List.mem_append.1 hl with hl | hl
  · exact hn l hl
  · rw [List.mem_singleton.1 hl]; exact hx

set_option maxRecDepth 20000 in
set_option maxHeartbeats 4000000 in
theorem mfirst_any (v : Value) (LL : List (List En)) (key : ByteArray) (w : World) (h : LR w v LL) (hl : totE LL * 40 ≤ 140737488355328) (hn : LL.length ≤ 1048576) :
    Calls Try.prog 6 #[v, .string key] w fun e w' => e = .returned (.bool true) ∧ Below w.heap.size w w' := by
  have HX := hide (merge_any v LL w h hl)
  have H1 := hide h
  obtain ⟨p, c, rfl⟩ : ∃ p c, v = .slice p LL.length c := by
    obtain ⟨vs, h1, h2, _⟩ := h
    obtain ⟨p, c, e, _⟩ := h2.shape
    exact ⟨p, c, by rw [e, h1]⟩
  have hmx : Try.prog.follows .mixedOrders = true := by kernel_rfl
  have hml := mrgR_len LL
  have HML := hide (show (mrgR LL).1.length ≤ 4611686018427387904 by omega)
  have HNN := hide hn
  clear h hl hml hn
  go_enter Try.func6, Try.ntmps6
  go_wp2_with fail
  refine Calls.mono (unhide HX) ?_
  rintro e w1 ⟨vx, rfl, hx, _, b1⟩
  have HX1 := hide (And.intro (er_of_own hx) b1)
  obtain ⟨px, kx, rfl⟩ := ownsV_shape hx
  have HAW := hide (fun W => mawake12_any W)
  clear hx b1 HX
  by_cases hz : (mrgR LL).2 = 0
  · obtain ⟨hri, hmr⟩ := mrgR_zero hz
    rw [hmr] at HX1 HML ⊢
    have HRI := hide hri
    have HOF := hide (ofE_mrg LL key (fun l hl => (rightE_SE (hri l hl)).1))
    have HRM := hide (mrg_right_E hri)
    clear hz hri hmr
    generalize mrgE LL = X at *
    simp only at HML HX1 ⊢
    go_wp2_with fail
    refine Calls.mono (unhide HAW _) ?_
    rintro e w2 ⟨rfl, b2⟩
    have HB2 := hide ((unhide HX1).2.trans (b2.mono (unhide HX1).2.size))
    have HX2 := hide ((unhide HX1).1.below b2)
    have HQ := hide (eof_any _ X key w2 ((unhide HX1).1.below b2))
    clear b2
    go_wp2_with fail
    refine Calls.mono (unhide HQ) ?_
    rintro e w3 ⟨rfl, b3⟩
    unfold eV
    have HB3 := hide ((unhide HB2).trans (b3.mono (unhide HB2).size))
    have HX3 := hide ((unhide HX2).below b3)
    clear b3
    obtain ⟨E, hE⟩ : ∃ E, (ofE X key).getD e0 = E := ⟨_, rfl⟩
    obtain ⟨ok, hok⟩ : ∃ ok, (ofE X key).isSome = ok := ⟨_, rfl⟩
    rw [hE, hok]
    have HEO := hide (And.intro hE hok)
    clear hE hok
    have hnew := World.alloc_heap_new w3 (.cells #[.string E.1, .int .u64 E.2.1, .int .i64 E.2.2.1, .int .i64 E.2.2.2] 37)
    have hb4 : Below w3.heap.size w3 (w3.alloc (.cells #[.string E.1, .int .u64 E.2.1, .int .i64 E.2.2.1, .int .i64 E.2.2.2] 37)) := (Below.refl _ _).alloc (Nat.le_refl _) _
    obtain ⟨W4, hW4⟩ : ∃ W4, w3.alloc (.cells #[.string E.1, .int .u64 E.2.1, .int .i64 E.2.2.1, .int .i64 E.2.2.2] 37) = W4 := ⟨_, rfl⟩
    rw [hW4] at hnew hb4
    have HB4 := hide (And.intro ((unhide HB3).trans (hb4.mono (unhide HB3).size)) (And.intro hnew ((unhide HX3).below hb4)))
    have HCK := hide (fun W (hb : Below W4.heap.size W4 W) => show Calls Try.prog 16 #[.slice px X.length kx] W fun e w' => e = .returned (.int .i64 0) ∧ Below W.heap.size W w' from by
      have h := mcheck_any (.slice px X.length kx) X W (((unhide HX3).below hb4).below hb) (unhide HML)
      rw [if_pos (unhide HRM)] at h
      exact h)
    have hW4' := hW4
    clear hnew hb4 hW4
    go_wp2_with fail
    go_loopw [9] (fun iv wr => ∃ k : Nat, iv = .int .i64 (k : Int) ∧ k ≤ LL.length ∧ Hid (∀ l ∈ LL.take k, ofE l key = none) ∧ Hid (Below W4.heap.size W4 wr)) (fun iv _ => LL.length - (intOf iv).toNat)
    case atStart => exact ⟨0, rfl, Nat.zero_le _, (by intro l hl; simp at hl), Below.refl _ _⟩
    case round =>
      obtain ⟨k, rfl, hk, hnone, hbw⟩ := hrel
      by_cases hlt : k < LL.length
      · have hkI : (k : Int) < (LL.length : Int) := by omega
        obtain ⟨b, off, s, rfl, hc, her⟩ := (((unhide H1).below (unhide HB4).1).below (unhide hbw)).at k hlt
        have HOQ := hide (eof_any s LL[k] key wr her)
        have hknw : IntKind.i64.wrap ((k : Int) + 1) = (k : Int) + 1 := by have := unhide HNN; rw [IntKind.wrap_i64]; omega
        have HK := hide hlt
        have HFA := hide (fun (x : En) (hx : ofE LL[k] key = some x) => find_at hlt (unhide hnone) hx)
        have HTN := hide (fun (hx : ofE LL[k] key = none) => take_none hlt (unhide hnone) hx)
        obtain ⟨ps, pn, pc, rfl⟩ : ∃ ps pn pc, s = .slice ps pn pc := by obtain ⟨q1, q2, e, _⟩ := her.shape; exact ⟨_, _, _, e⟩
        generalize LL[k] = l at *
        clear hlt hk hnone her
        cases hof : ofE l key with
        | none =>
          rw [hof] at HOQ
          have HNX := hide (unhide HTN hof)
          clear hof
          go_wp2_with fail
          refine Calls.mono (unhide HOQ) ?_
          rintro e w5 ⟨rfl, b5⟩
          have HB5 := hide ((unhide hbw).trans (b5.mono (unhide hbw).size))
          clear b5
          unfold eV
          simp only [Option.getD_none, Option.isSome_none]
          have hb6 := hide (fun o => (unhide HB5).trans (((Below.refl w5.heap.size w5).alloc (Nat.le_refl _) o).mono (unhide HB5).size))
          go_wp2_with fail
          refine ⟨⟨k + 1, by go_num, unhide HK, HNX, unhide hb6 _⟩, ?_⟩
          have := unhide HK
          simp [intOf]
          omega
        | some y =>
          rw [hof] at HOQ
          have hfa := unhide HFA _ hof
          rw [← unhide HOF] at hfa
          have hE : E = y := by rw [← (unhide HEO).1, hfa]; rfl
          have hok : ok = true := by rw [← (unhide HEO).2, hfa]; rfl
          subst hE
          subst hok
          clear hof hfa
          simp only [Option.getD_some, Option.isSome_some] at HOQ
          unfold eV at HOQ
          have HY0 := hide (fun W (hb : Below W4.heap.size W4 W) => (hb.block _ (Array.getElem?_eq_some_iff.1 (unhide HB4).2.1).1).trans (unhide HB4).2.1)
          go_wp2_with fail
          refine Calls.mono (unhide HOQ) ?_
          rintro e w5 ⟨rfl, b5⟩
          have hb5 := (unhide hbw).trans (b5.mono (unhide hbw).size)
          have hb6 : Below w5.heap.size w5 (w5.alloc (.cells #[.string E.1, .int .u64 E.2.1, .int .i64 E.2.2.1, .int .i64 E.2.2.2] 37)) := (Below.refl _ _).alloc (Nat.le_refl _) _
          have hn6 := World.alloc_heap_new w5 (.cells #[.string E.1, .int .u64 E.2.1, .int .i64 E.2.2.1, .int .i64 E.2.2.2] 37)
          obtain ⟨W6, hW6⟩ : ∃ W6, w5.alloc (.cells #[.string E.1, .int .u64 E.2.1, .int .i64 E.2.2.1, .int .i64 E.2.2.2] 37) = W6 := ⟨_, rfl⟩
          rw [hW6] at hb6 hn6
          have hbw6 := hb5.trans (hb6.mono hb5.size)
          obtain ⟨y0, y1, y2, y3, _⟩ := ecells (unhide HY0 W6 hbw6)
          obtain ⟨z0, z1, z2, z3, _⟩ := ecells hn6
          have HB6 := hide hbw6
          have HCK6 := hide (unhide HCK W6 hbw6)
          clear b5 hb5 hb6 hn6 hbw6
          go_wp2_with fail
          refine Calls.mono (unhide HCK6) ?_
          rintro e w7 ⟨rfl, b7⟩
          have HB7 := hide ((unhide HB6).trans (b7.mono (unhide HB6).size))
          clear b7
          go_wp2_with fail
          go_ret
          exact ⟨rfl, (unhide HB4).1.trans ((unhide HB7).mono (unhide HB4).1.size)⟩
      · have hke : k = LL.length := by omega
        subst hke
        rw [List.take_length] at hnone
        have hof := find_none (unhide hnone)
        rw [← unhide HOF] at hof
        have hok : ok = false := by rw [← (unhide HEO).2, hof]; rfl
        subst hok
        have hge : ¬ (LL.length : Int) < (LL.length : Int) := by omega
        have HCKr := hide (unhide HCK wr (unhide hbw))
        have HBW := hbw
        clear hlt hk hnone hbw hof
        go_wp2_with fail
        refine Calls.mono (unhide HCKr) ?_
        rintro e w7 ⟨rfl, b7⟩
        have HB7 := hide ((unhide HBW).trans (b7.mono (unhide HBW).size))
        clear b7
        go_wp2_with fail
        go_ret
        exact ⟨rfl, (unhide HB4).1.trans ((unhide HB7).mono (unhide HB4).1.size)⟩
  · have hne : ((mrgR LL).2 == 0) = false := beq_eq_false_iff_ne.2 hz
    have hnil : (mrgR LL).1 = [] := mrgR_else hz
    rw [hnil]
    generalize (mrgR LL).2 = er at *
    clear hz hnil
    simp only [List.length_nil]
    go_wp2_with fail
    refine Calls.mono (unhide HAW _) ?_
    rintro e w2 ⟨rfl, b2⟩
    have HB2 := hide ((unhide HX1).2.trans (b2.mono (unhide HX1).2.size))
    clear b2
    go_wp2_with fail
    refine Calls.mono (unhide HAW _) ?_
    rintro e w3 ⟨rfl, b3⟩
    have HB3 := hide ((unhide HB2).trans (b3.mono (unhide HB2).size))
    clear b3
    go_wp2_with fail
    go_ret
    exact ⟨rfl, unhide HB3⟩
end Go.Proofs.Ytcjepiihknjeiaa.QH
namespace Go.Proofs.Ytcjepiihknjeiaa
open Go.RowKit QH
theorem walk_MergeFirst (s0 : Value) (d0 : Dt) (a1 : ByteArray) (w : World) (h0 : Reads limUpto w (.row 24 (.row 40 enSh)) [s0] d0) (_r1 : a1.size ≤ 1048576) :
    Calls Try.prog 6 #[s0, .string a1] w fun e w' => e = .returned (.bool true) ∧ Below w.heap.size w w' := by
  obtain ⟨LL, e0, h1, l0⟩ := lr_of_reads h0
  have h2 := (upto_tot h1 l0).1
  exact mfirst_any s0 LL a1 w e0 (by omega) l0
end Go.Proofs.Ytcjepiihknjeiaa
