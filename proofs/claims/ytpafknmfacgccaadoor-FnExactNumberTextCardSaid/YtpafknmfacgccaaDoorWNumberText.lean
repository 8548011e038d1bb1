/- The walk of FnExactNumberText. -/
import Derived.Test.YtpafknmfacgccaaDoorLNumberText
import Derived.Test.YtpafknmfacgccaaDoorPNumText
namespace Go.Proofs.YtpafknmfacgccaaDoor
open Go.ChangeShapes Go.WideShapes Go.ChangeAt Go.RowKit
set_option linter.unusedVariables false
theorem fnExactNumberText_walk (k : Int) (w : World) (_ : (Lit.int .i64 k).wf = true) (hT : Pows w) :
    Calls Tryd.prog 4 #[.int .i64 k] w fun e w' => e = .returned (.bool true) ∧ Below w.heap.size w w' :=
  fnExactNumberText_walk0 k w (numCode k) (numText k) (Lib.hid fun W _ => specNumberText_any k W) (Lib.hid fun W hb => implNumberText_any k W (hT.below hb))
end Go.Proofs.YtpafknmfacgccaaDoor
