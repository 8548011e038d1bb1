/- The fields of a code and a text. -/
import Derived.Test.YtlhflkpbccbofaaBase
namespace Go.Proofs.Ytlhflkpbccbofaa
open Go.ChangeShapes Go.WideShapes Go.ChangeAt Go.RowKit
set_option linter.unusedVariables false
theorem field_code (c : Int) (t : ByteArray) (W : World) : (Instr.field 29 (.agg #[.int .i64 c, .string t]) 0).run Try.prog W = .ok (.int .i64 c) W := by kernel_rfl
theorem field_text (c : Int) (t : ByteArray) (W : World) : (Instr.field 29 (.agg #[.int .i64 c, .string t]) 1).run Try.prog W = .ok (.string t) W := by kernel_rfl
end Go.Proofs.Ytlhflkpbccbofaa
