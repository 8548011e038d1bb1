/- A code and a number: handed back, and held to be the same. -/
import Derived.Test.YtppgdbejbhhjlaaIresP
namespace Go.Proofs.Ytppgdbejbhhjlaa
open Go.ChangeShapes Go.WideShapes Go.ChangeAt Go.RowKit
set_option linter.unusedVariables false
theorem eqInt (c v : Int) (w : World) :
    Calls Try.prog 7 #[.agg #[.int .i64 c, .int .i64 v], .agg #[.int .i64 c, .int .i64 v]] w fun e w' => e = .returned (.bool true) ∧ Below w.heap.size w w' := by
  go_enter Try.func7, Try.ntmps7
  go_wp2
  go_ret
  exact ⟨rfl, below2 _ _ _⟩
end Go.Proofs.Ytppgdbejbhhjlaa
