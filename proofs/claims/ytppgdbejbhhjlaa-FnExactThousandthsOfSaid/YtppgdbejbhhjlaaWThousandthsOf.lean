/- The walk of FnExactThousandthsOf. -/
import Derived.Test.YtppgdbejbhhjlaaLThousandthsOf
import Derived.Test.YtppgdbejbhhjlaaThou
import Derived.Test.YtppgdbejbhhjlaaPThou
namespace Go.Proofs.Ytppgdbejbhhjlaa
open Go.ChangeShapes Go.WideShapes Go.ChangeAt Go.RowKit
set_option linter.unusedVariables false
theorem fnExactThousandthsOf_walk (k : Int) (w : World) (_ : (Lit.int .i64 k).wf = true) :
    Calls Try.prog 3 #[.int .i64 k] w fun e w' => e = .returned (.bool true) ∧ Below w.heap.size w w' :=
  fnExactThousandthsOf_walk0 k w (thouCode k) (thouVal k) (Lib.hid fun W _ => specThousandthsOf_any k W) (Lib.hid fun W hb => implThousandthsOf_any k W)
end Go.Proofs.Ytppgdbejbhhjlaa
