/- Texts with a code compared as structs. -/
import Derived.Test.YticpebpicdboaaaDoorBase
namespace Go.Proofs.YticpebpicdboaaaDoor
open Go.ChangeShapes Go.WideShapes Go.ChangeAt Go.RowKit
set_option linter.unusedVariables false

theorem neqText (x : Int) (s : ByteArray) (w : World) : (binOp .neq 26 (.agg #[.int .i64 x, .string s]) (.agg #[.int .i64 x, .string s])).run Tryd.prog w = .ok (.bool false) w := by
  have u3 := Tryd.underlying2
  have u4 := Tryd.underlying9
  have hS : Tryd.prog.underlying 26 = some (.struct (Tryd.prog.fieldsOf 26)) := by kernel_rfl
  rw [run_neq_struct, show (10000 : Nat) = 9999 + 1 from rfl, run_equalIn_agg w 9999 _ _ _ hS (by kernel_rfl)]
  simp only [Program.fieldsOf, Tryd.underlying26]
  go_simp
end Go.Proofs.YticpebpicdboaaaDoor
