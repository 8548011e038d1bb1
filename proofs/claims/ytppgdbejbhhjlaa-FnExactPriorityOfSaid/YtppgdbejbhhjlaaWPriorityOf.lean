/- The walk of FnExactPriorityOf. -/
import Derived.Test.YtppgdbejbhhjlaaLPriorityOf
import Derived.Test.YtppgdbejbhhjlaaPrioOf
import Derived.Test.YtppgdbejbhhjlaaPPrioOf
namespace Go.Proofs.Ytppgdbejbhhjlaa
open Go.ChangeShapes Go.WideShapes Go.ChangeAt Go.RowKit
set_option linter.unusedVariables false
theorem fnExactPriorityOf_walk (k : Int) (w : World) (_ : (Lit.int .i64 k).wf = true) :
    Calls Try.prog 4 #[.int .i64 k] w fun e w' => e = .returned (.bool true) ∧ Below w.heap.size w w' :=
  fnExactPriorityOf_walk0 k w (prioCode k) (prioVal k) (Lib.hid fun W _ => specPriorityOf_any k W) (Lib.hid fun W hb => implPriorityOf_any k W)
end Go.Proofs.Ytppgdbejbhhjlaa
