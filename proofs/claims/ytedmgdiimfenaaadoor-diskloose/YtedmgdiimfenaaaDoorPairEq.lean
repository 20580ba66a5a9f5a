
/- Two pairs of numbers that are the same are equal for Go. -/
import Derived.Test.YtedmgdiimfenaaaDoorRows3
import Derived.ChangeKeysEq
namespace Go.Proofs.YtedmgdiimfenaaaDoor
open Go.RowKit
set_option linter.unusedVariables false

theorem int_same (d : Nat) (x : Int) (w : World) : (Op.equalIn (d + 1) 3 (.int .i64 x) (.int .i64 x)).run Tryd.prog w = .ok true w := by
  simp [Op.equalIn, run_underlying Tryd.underlying3]
theorem Tryd.cells3 : Tryd.prog.cellsOf 3 = 1 := by kernel_rfl
theorem pair_same (x y : Int) (w : World) : (Op.equalIn 10000 46 (.agg #[.int .i64 x, .int .i64 y]) (.agg #[.int .i64 x, .int .i64 y])).run Tryd.prog w = .ok true w := by
  obtain ⟨i, hi, hz0, hz1, hz2⟩ := info_parts Tryd.info3
  have h := run_equalIn_array w 9999 #[.int .i64 x, .int .i64 y] #[.int .i64 x, .int .i64 y] Tryd.underlying46 hi
  rw [Tryd.cells3, show List.range 2 = [0, 1] from rfl] at h
  rw [h]
  have p0 : ∀ w', (part 3 #[Value.int .i64 x, .int .i64 y] (0 * 1)).run Tryd.prog w' = .ok (.int .i64 x) w' := by
    intro w'
    simp [part, go_sem]
  have p1 : ∀ w', (part 3 #[Value.int .i64 x, .int .i64 y] (1 * 1)).run Tryd.prog w' = .ok (.int .i64 y) w' := by
    intro w'
    simp [part, go_sem]
  simp only [Op.eqItems, Sem.run_bind, p0, p1, Result.andThen_ok, int_same 9998 x, int_same 9998 y, Bool.not_true, Bool.false_eq_true, if_false, Sem.run_pure]
end Go.Proofs.YtedmgdiimfenaaaDoor
