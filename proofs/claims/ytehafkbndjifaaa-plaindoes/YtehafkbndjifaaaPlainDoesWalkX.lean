/- The walk of the law PlainDoes, of the landed package plain. -/
import Derived.Test.YtehafkbndjifaaaG32
import Derived.Test.YtehafkbndjifaaaG33
namespace Go.Proofs.Ytehafkbndjifaaa
open Go.RowKit

theorem one_c : OneC := fun v L x w h hx hxl hks hsp hroom => rone_any v L x w h hx hxl hks hsp hroom
theorem walk_PlainDoes (s0 : Value) (d0 : Dt) (s1 : Value) (d1 : Dt) (w : World) (h0 : Reads limSaid w (.row 40 prSh) [s0] d0) (h1 : Reads limSaid w (.row 48 opSh) [s1] d1) :
    Calls Try.prog 4 #[s0, s1] w fun e w' => e = .returned (.bool true) ∧ Below w.heap.size w w' := by
  obtain ⟨L, e0, o0, l0⟩ := prs_of_reads lim_said h0
  obtain ⟨M, e1, o1, l1⟩ := ops_of_reads lim_said h1
  unfold limSaid reachBytes at l0 l1
  exact pdoes_any one_c s0 s1 L M w e0 e1 (fun x hx => (o0 x hx).2) (fun x hx => (o1 x hx).2) (by omega) (by omega)
end Go.Proofs.Ytehafkbndjifaaa
