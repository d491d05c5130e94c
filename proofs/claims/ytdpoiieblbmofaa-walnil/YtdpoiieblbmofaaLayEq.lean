/- Layouts held against each other. -/
import Derived.Test.YtdpoiieblbmofaaLayCon
namespace Go.Proofs.Ytdpoiieblbmofaa
open Go.RowKit

theorem Try.layHeld : Try.prog.stoodInHeld 33 = false := by kernel_rfl
theorem Try.imgHeld : Try.prog.stoodInHeld 31 = false := by kernel_rfl
theorem eq_int (d : Nat) (x : Int) (w : World) : (Op.equalIn (d + 1) 3 (.int .i64 x) (.int .i64 x)).run Try.prog w = .ok true w := by
  rw [run_equalIn_int w d _ .i64 .i64 x x Try.underlying3]
  simp
theorem agg_int (w : World) : (isAgg 3).run Try.prog w = .ok false w := by
  unfold isAgg
  rw [Sem.run_bind, run_underlying Try.underlying3 w]
  rfl
theorem agg_two (w : World) : (isAgg 31).run Try.prog w = .ok true w := by
  unfold isAgg
  rw [Sem.run_bind, run_underlying Try.underlying31 w]
  rfl
theorem size_of_info {P : Program} {t : TypeId} {n : Nat} (h : (P.info? t).map (·.size) = some n) (w : World) : (sizeOf t).run P w = .ok n w := by
  cases hq : P.info? t with
  | none => simp [hq] at h
  | some i =>
    have : i.size = n := by simpa [hq] using h
    simp [sizeOf, typeInfo, hq, this]
theorem Try.sizeInt1 : (Try.prog.info? 3).map (·.size) = some 1 := by kernel_rfl
theorem Try.sizeTwo : (Try.prog.info? 31).map (·.size) = some 2 := by kernel_rfl
theorem eq_two (d : Nat) (x y : Int) (w : World) : (Op.equalIn (d + 2) 31 (.agg #[.int .i64 x, .int .i64 y]) (.agg #[.int .i64 x, .int .i64 y])).run Try.prog w = .ok true w := by
  have s := size_of_info Try.sizeInt1
  simp [Op.equalIn, run_underlying Try.underlying31, s, part, Std.Legacy.Range.forIn_eq_forIn_range', List.range'_succ]
theorem lay_ne (a b c d e f g h i : Int) (w : World) : (binOp .neq 33 (.agg #[.int .i64 a, .int .i64 b, .int .i64 c, .int .i64 d, .int .i64 e, .int .i64 f, .int .i64 g, .int .i64 h, .int .i64 i]) (.agg #[.int .i64 a, .int .i64 b, .int .i64 c, .int .i64 d, .int .i64 e, .int .i64 f, .int .i64 g, .int .i64 h, .int .i64 i])).run Try.prog w = .ok (.bool false) w := by
  rw [run_neq_struct]
  have hf : Try.prog.underlying 33 = some (.struct (Try.prog.fieldsOf 33)) := by kernel_rfl
  rw [show (10000 : Nat) = 9999 + 1 from rfl, run_equalIn_agg w 9999 _ _ _ hf Try.layHeld]
  have hfs : (Try.prog.fieldsOf 33) = match Try.prog.underlying 33 with | some (.struct fs) => fs | _ => #[] := by kernel_rfl
  rw [hfs, Try.underlying33]
  have e := fun x w => eq_int 9998 x w
  have e2 := fun x y w => eq_two 9997 x y w
  have s := size_of_info Try.sizeTwo
  simp only [Op.eqFields]
  simp [part, e, e2, s]
end Go.Proofs.Ytdpoiieblbmofaa
