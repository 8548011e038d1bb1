/- Answers of two fields compared as structs. -/
import Derived.Test.YtppgdbejbhhjlaaDoorBase
namespace Go.Proofs.YtppgdbejbhhjlaaDoor
open Go.ChangeShapes Go.WideShapes Go.ChangeAt Go.RowKit
set_option linter.unusedVariables false

theorem neqText (x : Int) (s : ByteArray) (w : World) : (binOp .neq 29 (.agg #[.int .i64 x, .string s]) (.agg #[.int .i64 x, .string s])).run Tryd.prog w = .ok (.bool false) w := by
  have u3 := Tryd.underlying2
  have u4 := Tryd.underlying9
  have hS : Tryd.prog.underlying 29 = some (.struct (Tryd.prog.fieldsOf 29)) := by kernel_rfl
  rw [run_neq_struct, show (10000 : Nat) = 9999 + 1 from rfl, run_equalIn_agg w 9999 _ _ _ hS (by kernel_rfl)]
  simp only [Program.fieldsOf, Tryd.underlying29]
  go_simp
theorem eqText0 (s : ByteArray) (w : World) : (binOp .eql 29 (.agg #[.int .i64 0, .string s]) (.agg #[.int .i64 0, .string s])).run Tryd.prog w = .ok (.bool true) w := by
  have u3 := Tryd.underlying2
  have u4 := Tryd.underlying9
  have hS : Tryd.prog.underlying 29 = some (.struct (Tryd.prog.fieldsOf 29)) := by kernel_rfl
  rw [run_eql_struct, show (10000 : Nat) = 9999 + 1 from rfl, run_equalIn_agg w 9999 _ _ _ hS (by kernel_rfl)]
  simp only [Program.fieldsOf, Tryd.underlying29]
  go_simp
theorem neqInt (x y : Int) (w : World) : (binOp .neq 26 (.agg #[.int .i64 x, .int .i64 y]) (.agg #[.int .i64 x, .int .i64 y])).run Tryd.prog w = .ok (.bool false) w := by
  have u3 := Tryd.underlying2
  have hS : Tryd.prog.underlying 26 = some (.struct (Tryd.prog.fieldsOf 26)) := by kernel_rfl
  rw [run_neq_struct, show (10000 : Nat) = 9999 + 1 from rfl, run_equalIn_agg w 9999 _ _ _ hS (by kernel_rfl)]
  simp only [Program.fieldsOf, Tryd.underlying26]
  go_simp
end Go.Proofs.YtppgdbejbhhjlaaDoor
