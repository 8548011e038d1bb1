/- The walk of FnExactKindWord. -/
import Derived.Test.YtpafknmfacgccaaLKindWord
import Derived.Test.YtpafknmfacgccaaPWords
namespace Go.Proofs.Ytpafknmfacgccaa
open Go.ChangeShapes Go.WideShapes Go.ChangeAt Go.RowKit
set_option linter.unusedVariables false
theorem fnExactKindWord_walk (k : Int) (w : World) (_ : (Lit.int .i64 k).wf = true) :
    Calls Try.prog 3 #[.int .i64 k] w fun e w' => e = .returned (.bool true) ∧ Below w.heap.size w w' :=
  fnExactKindWord_walk0 k w (kindC k) (kindT k) (Lib.hid fun W _ => specKindWord_any k W) (Lib.hid fun W _ => implKindWord_any k W)
end Go.Proofs.Ytpafknmfacgccaa
