/- A code and a number: handed back, and held to be the same. -/
import Derived.Test.YtpafknmfacgccaaDoorBase
namespace Go.Proofs.YtpafknmfacgccaaDoor
open Go.ChangeShapes Go.WideShapes Go.ChangeAt Go.RowKit
set_option linter.unusedVariables false
/-- a struct of two integers is handed back -/
def Res2 (w : World) (x y : Int) (e : Ending) (w' : World) : Prop := e = .returned (.agg #[.int .i64 x, .int .i64 y]) ∧ Below w.heap.size w w'
theorem eqInt (c v : Int) (w : World) :
    Calls Tryd.prog 15 #[.agg #[.int .i64 c, .int .i64 v], .agg #[.int .i64 c, .int .i64 v]] w fun e w' => e = .returned (.bool true) ∧ Below w.heap.size w w' := by
  go_enter Tryd.func15, Tryd.ntmps15
  go_wp2
  go_ret
  exact ⟨rfl, below2 _ _ _⟩
end Go.Proofs.YtpafknmfacgccaaDoor
