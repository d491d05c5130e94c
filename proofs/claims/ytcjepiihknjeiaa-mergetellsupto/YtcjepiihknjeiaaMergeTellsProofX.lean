/- The statement 'MergeTells' is proved in its Upto form: of whatever lists of entries come in (up to the sizes that the form draws) Merge answers what the document says they are as one, or the error that it names; All tells just the same entries, one by one, as far as one asks; Check answers of each list whether it may be merged; and what is handed in stays, also when the answer is overwritten. The condition: what the Upto form says of sizes. -/
import Derived.Test.YtcjepiihknjeiaaG2
import Derived.Test.YtcjepiihknjeiaaRows
import Derived.WalkKit
import Derived.ProofKit
import Derived.OpenShut
import Derived.ShutString
import Derived.ChangeOld
import Derived.Below
import Derived.SizedLaws
import Derived.JoinedCond
import Derived.Test.YtcjepiihknjeiaaMergeTellsWalkX
namespace Go.Proofs.Ytcjepiihknjeiaa.mergeTellsUpto
open Go.ChangeShapes Go.WideShapes Go.ChangeAt Go.RowKit
set_option linter.unusedVariables false

theorem own : ownKnob Try.prog.godebug = none := by kernel_rfl
theorem laidOut : laidOutB Try.prog = true := by kernel_rfl
theorem bytesU8 : Try.prog.bytesOf 5 = 1 := by kernel_rfl

theorem one_le {H : Type} (d : DataW H) : 1 ≤ Rows.uptoBulk d := by
  cases d with
  | lit l => cases l <;> simp [Rows.uptoBulk]
  | nil => simp [Rows.uptoBulk]
  | ptr d => simp [Rows.uptoBulk]
  | slice elems spare => simp [Rows.uptoBulk]
  | agg parts => simp [Rows.uptoBulk]
  | iface t d => simp [Rows.uptoBulk]
  | map entries => simp [Rows.uptoBulk]
  | held h => simp [Rows.uptoBulk]
theorem all_le {H : Type} (l : List (DataW H)) : l.length ≤ Rows.uptoBulkAll l := by
  induction l with
  | nil => simp
  | cons x r ih => have := one_le x; simp only [Rows.uptoBulkAll, List.length_cons]; omega
theorem part_le {H : Type} {d : DataW H} {l : List (DataW H)} (h : d ∈ l) : Rows.uptoBulk d ≤ Rows.uptoBulkAll l := by
  induction l with
  | nil => cases h
  | cons x r ih =>
    simp only [Rows.uptoBulkAll]
    cases List.mem_cons.1 h with
    | inl e => subst e; omega
    | inr e => have := ih e; omega
theorem slice_short {H : Type} {l elems spare : List (DataW H)} (hk : Rows.uptoSmall H l = true) (h : DataW.slice elems spare ∈ l) : elems.length ≤ 1048576 := by
  have h1 : Rows.uptoBulkAll l ≤ 1048576 := of_decide_eq_true hk
  have h2 := part_le h
  have h3 := all_le elems
  simp only [Rows.uptoBulk] at h2
  omega

theorem boundsUpto (P : Program) (H : Type) : Bounds P H limUpto (fun _ d => Rows.uptoBulk d ≤ 1048576) where
  none := fun n => by simp [limUpto]
  str := fun t s hu hg => by
    simp only [Rows.uptoBulk] at hg
    unfold limUpto
    omega
  slice := fun t e elems spare hu hg => by
    simp only [Rows.uptoBulk] at hg
    exact ⟨by have := all_le elems; unfold limUpto; omega, fun x hx => by have := part_le hx; omega⟩
  struct := fun t fs parts hu hg i f x hf hx => by
    simp only [Rows.uptoBulk] at hg
    have := part_le (List.mem_of_getElem? hx)
    omega
  array := fun t k e parts hu hg x hx => by
    simp only [Rows.uptoBulk] at hg
    have := part_le hx
    omega

set_option maxRecDepth 100000 in
theorem contract (H : Type) (enc : TypeId × Value → H) (W : World) (base : Nat) (args : Array Value) (ds gs : List (DataW H)) (before : List MemPlace)
    (hval0 : ∀ (j : Nat) t v, Try.f3.params[j]? = some t → args[j]? = some v → Value.okWide Try.prog W .any base t v)
    (hW : DataW.Whole enc Try.prog Try.f3.params.toList Rows.mergeTellsSpec.vars false W args.toList ds gs before) (hk : Rows.uptoSmall H (ds ++ gs) = true) :
    Calls Try.prog 3 args W fun e W' => ∃ v, e = .returned v ∧ Rows.mergeTellsSpec.post enc Try.prog Try.f3 false true false false W args v W' := by
  have hval : ∀ (j : Nat) t v, Try.f3.params[j]? = some t → args[j]? = some v → Value.okWide Try.prog W .any base t v := hval0
  have hW' := hW
  obtain ⟨p, q, hA0, hV, rfl, hfz, hnd⟩ := hW
  have hA : DataW.TrodAll enc Try.prog W 0 (fun _ => true) true Try.f3.params.toList args.toList ds p := hA0
  rw [Try.params3] at hA hval
  obtain ⟨v0, vs0, d0, ds0, p0, q0, hargs, rfl, rfl, h0, r0⟩ := trodAll_cons hA
  obtain ⟨v1, vs1, d1, ds1, p1, q1, rfl, rfl, rfl, h1, r1⟩ := trodAll_cons r0
  obtain ⟨rfl, rfl, rfl⟩ := trodAll_nil r1
  obtain rfl : args = #[v0, v1] := by cases args; simp_all
  obtain ⟨rfl, rfl⟩ := trodVars_none hV
  obtain ⟨a0, len0, cap0, rfl⟩ := okWide_slice Try.underlying22 (hval 0 22 v0 rfl rfl)
  have k0 := h0
  have lt0 : ∀ x ∈ p0, x.block < W.heap.size := by obtain ⟨m, hm⟩ := k0; exact DataW.trod_lt m _ _ _ hm
  obtain ⟨b0, w0⟩ : ∃ dt, Reads limUpto W (.row 24 (.row 40 (.struct (.cons (.str) (.cons (.struct (.cons (.int .u64) (.cons (.int .i64) (.cons (.int .i64) (.nil))))) (.nil)))))) [.slice a0 len0 cap0] dt := by
    obtain ⟨fuel, hf⟩ := h0
    exact ⟨_, (reads_of_trod (boundsUpto Try.prog H) (.row 24 (.row 40 (.struct (.cons (.str) (.cons (.struct (.cons (.int .u64) (.cons (.int .i64) (.cons (.int .i64) (.nil))))) (.nil))))))).1 22 _ _ _ _ (by kernel_rfl) hf (by have h1 : Rows.uptoBulkAll _ ≤ 1048576 := of_decide_eq_true hk; exact Nat.le_trans (part_le (List.mem_append_left _ (List.mem_cons_self))) h1)⟩
  obtain ⟨a1, rfl, rfl, rfl, w1⟩ := open_int Try.underlying3 (hval 1 3 v1 rfl rfl) h1
  clear hA0 hval0
  refine (walk_MergeTells (.slice a0 len0 cap0) b0 a1 w1 W w0).mono fun e W' ⟨he, bel⟩ => ?_
  subst he
  exact ⟨_, rfl, _, _, _, [], _, [], hW', trodAll_mk1 (shut_bool Try.underlying4 _), (trodAll_cons_mk (Below.trod laidOut (by kernel_rfl) (of_decide_eq_true (by kernel_rfl)) k0 bel lt0) (trodAll_cons_mk (shut_int Try.underlying3 w1) trodAll_mk0)), rfl, bel.frame _, fun h => by cases h⟩

set_option maxRecDepth 100000 in
theorem lifted (os : Os) (started : os.Started) (H : Type) (enc : TypeId × Value → H) (F : Stop.Interp) :
    ReturnsInHanded {} Try.checked os 3 .any ((Rows.OpenSpec.upto Rows.mergeTellsSpec).pre6 enc Try.prog Try.f3 Rows.mergeTellsUptoRow.domain false) (((Rows.OpenSpec.upto Rows.mergeTellsSpec).at F).post enc Try.prog Try.f3 false true false false) := by
  refine returnsInHanded_of_cond (C := Try.checked) (s := Rows.OpenSpec.upto Rows.mergeTellsSpec) (k := Rows.uptoSmall) rfl own started (by kernel_rfl) Try.func3
    (OpenSpec.witness (enc := enc) (C := Try.checked) (s := Rows.OpenSpec.upto Rows.mergeTellsSpec) (k := Rows.uptoSmall) rfl false ⟨#[], #[.slice none 0 0, .int .i64 0], []⟩ 8 (by kernel_rfl) (by kernel_rfl) (by kernel_rfl)
      (x := ([.nil, .lit (.int .i64 0)], [], [])) (by kernel_rfl) rfl (by kernel_rfl)) ?_
  intro W base args ds gs before hval hW _ hk _
  exact contract H enc W base args ds gs before hval hW hk

theorem over : Rows.mergeTellsUptoRow.holds Try.pinned (Rows.OpenSpec.upto Rows.mergeTellsSpec) :=
  OpenClaim.holds_of_cond 3 Try.f3 rfl rfl rfl rfl rfl rfl rfl ⟨rfl, rfl, rfl, rfl, rfl⟩ rfl rfl rfl rfl rfl (by kernel_rfl) Try.func3 (by kernel_rfl)
    (of_decide_eq_true (by kernel_rfl)) (by unfold Func.isWrapper; first | (rw [if_pos (by decide +kernel)]; kernel_rfl) | (rw [if_neg (by decide +kernel)]; exact ⟨rfl, rfl⟩))
    (fun os started H enc _ F => lifted os started H enc F)

end Go.Proofs.Ytcjepiihknjeiaa.mergeTellsUpto

namespace Go.Proofs.Ytcjepiihknjeiaa
theorem mergeTells_upto_holds : Rows.MergeTellsUptoSaid := mergeTellsUpto.over
#print axioms mergeTells_upto_holds
end Go.Proofs.Ytcjepiihknjeiaa
