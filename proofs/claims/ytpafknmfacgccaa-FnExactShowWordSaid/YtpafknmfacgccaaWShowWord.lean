/- The walk of FnExactShowWord. -/
import Derived.Test.YtpafknmfacgccaaLShowWord
import Derived.Test.YtpafknmfacgccaaPWords
namespace Go.Proofs.Ytpafknmfacgccaa
open Go.ChangeShapes Go.WideShapes Go.ChangeAt Go.RowKit
set_option linter.unusedVariables false
theorem fnExactShowWord_walk (k : Int) (w : World) (_ : (Lit.int .i64 k).wf = true) :
    Calls Try.prog 6 #[.int .i64 k] w fun e w' => e = .returned (.bool true) ∧ Below w.heap.size w w' :=
  fnExactShowWord_walk0 k w (showC k) (showT k) (Lib.hid fun W _ => specShowWord_any k W) (Lib.hid fun W _ => implShowWord_any k W)
end Go.Proofs.Ytpafknmfacgccaa
