/- What the statements of layer 4 ask of package disk, as contracts over whatever its devices are in memory. -/
import Derived.Test.YtkekikfiijbjmaaBase
import Derived.Test.YtkekikfiijbjmaaMine
import Derived.Test.YtkekikfiijbjmaaMoves
import Derived.Test.YtkekikfiijbjmaaBoolRow
import Derived.Test.YtkekikfiijbjmaaDiskPlain
namespace Go.Proofs.Ytkekikfiijbjmaa
open Go.RowKit

/-- A row does not lie in F. -/
def Out (F : Nat → Prop) (v : Value) : Prop := ∀ b off n c, v = .slice (some ⟨b, off, none⟩) n c → 0 < n → ¬ F b

/-- The contracts of package disk: DR F w p s says that p is a device s in w, whose memory is F. -/
structure DiskC (DR : (Nat → Prop) → World → Value → DK → Prop) : Prop where
  lt : ∀ {F w p s}, DR F w p s → ∀ k, F k → k < w.heap.size
  stays : ∀ {F w w' p s}, DR F w p s → w.heap.size ≤ w'.heap.size → (∀ k, F k → w'.heap[k]? = w.heap[k]?) → DR F w' p s
  ptr : ∀ {F w p s}, DR F w p s → ∃ a, p = .pointer (some a)
  ok : ∀ {F w p s}, DR F w p s → s.Ok
  newArg : ∀ (n : Int) w, n < 1 ∨ 65536 < n → Calls Try.prog 9 #[.int .i64 n] w fun e w' => e = .returned (.tuple #[.pointer none, .int .i64 1]) ∧ Below w.heap.size w w'
  newOk : ∀ (n : Nat) w, 1 ≤ n → n ≤ 65536 → Calls Try.prog 9 #[.int .i64 (n : Int)] w fun e w' => ∃ p, e = .returned (.tuple #[p, .int .i64 0]) ∧ (∃ F, DR F w' p (DK.new n) ∧ ∀ k, F k → w.heap.size ≤ k) ∧ Below w.heap.size w w'
  write : ∀ F p s (a : Int) bv b w, DR F w p s → Row w bv b → Out F bv → s.waits.length ≤ 1048576 → s.ticks ≤ 1048576 →
    Calls Try.prog 19 #[p, .int .i64 a, bv] w fun e w' => e = .returned (.int .i64 (s.writeE a b)) ∧ ∃ F', DR F' w' p (s.write a b) ∧ Moves F F' w w'
  read : ∀ F p s (a : Int) w, DR F w p s → s.waits.length ≤ 1048576 →
    Calls Try.prog 18 #[p, .int .i64 a] w fun e w' => ∃ t, e = .returned (.tuple #[t, .int .i64 (s.readE a)]) ∧ Mine w' w.heap.size t (s.readB a) ∧ Below w.heap.size w w'
  flush : ∀ F p s w, DR F w p s → s.waits.length ≤ 1048576 → s.ticks ≤ 1048576 →
    Calls Try.prog 17 #[p] w fun e w' => e = .returned (.int .i64 s.flushE) ∧ ∃ F', DR F' w' p s.flush ∧ Moves F F' w w'
  arm : ∀ F p s (n : Int) w, DR F w p s → n ≤ 9223372036854775807 →
    Calls Try.prog 16 #[p, .int .i64 n] w fun e w' => e = .returned (.int .i64 s.armE) ∧ ∃ F', DR F' w' p (s.arm n) ∧ Moves F F' w w'
  crash : ∀ F p s kv ks w, DR F w p s → BRow w kv ks → Out F kv → s.waits.length ≤ 1048576 →
    Calls Try.prog 21 #[p, kv] w fun e w' => e = .returned (.int .i64 0) ∧ ∃ F', DR F' w' p (s.crash ks) ∧ Moves F F' w w'
  start : ∀ F p s w, DR F w p s →
    Calls Try.prog 15 #[p] w fun e w' => e = .returned (.int .i64 0) ∧ ∃ F', DR F' w' p s.start ∧ Moves F F' w w'
  flip : ∀ F p s (a bit : Int) w, DR F w p s → s.turns ≤ 1048576 →
    Calls Try.prog 24 #[p, .int .i64 a, .int .i64 bit] w fun e w' => e = .returned (.int .i64 (s.flipE a bit)) ∧ ∃ F', DR F' w' p (s.flip a bit) ∧ Moves F F' w w'
  down : ∀ F p s w, DR F w p s → Calls Try.prog 25 #[p] w fun e w' => e = .returned (.bool s.fell) ∧ Below w.heap.size w w'
  waiting : ∀ F p s w, DR F w p s → Calls Try.prog 26 #[p] w fun e w' => e = .returned (.int .i64 (s.waits.length : Int)) ∧ Below w.heap.size w w'
  flips : ∀ F p s w, DR F w p s → Calls Try.prog 28 #[p] w fun e w' => e = .returned (.int .i64 (s.turns : Int)) ∧ Below w.heap.size w w'
  size : ∀ F p s w, DR F w p s → Calls Try.prog 27 #[p] w fun e w' => e = .returned (.int .i64 (s.n : Int)) ∧ Below w.heap.size w w'
  fork : ∀ F p s w, DR F w p s → s.waits.length ≤ 1048576 → Calls Try.prog 23 #[p] w fun e w' => ∃ q, e = .returned q ∧ (∃ G, DR G w' q s ∧ ∀ k, G k → w.heap.size ≤ k) ∧ Below w.heap.size w w'

end Go.Proofs.Ytkekikfiijbjmaa
