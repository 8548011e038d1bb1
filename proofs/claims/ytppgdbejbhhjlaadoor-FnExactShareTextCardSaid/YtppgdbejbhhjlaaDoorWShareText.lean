/- The walk of FnExactShareText. -/
import Derived.Test.YtppgdbejbhhjlaaDoorLShareText
import Derived.Test.YtppgdbejbhhjlaaDoorShare
import Derived.Test.YtppgdbejbhhjlaaDoorPShare
namespace Go.Proofs.YtppgdbejbhhjlaaDoor
open Go.ChangeShapes Go.WideShapes Go.ChangeAt Go.RowKit
set_option linter.unusedVariables false
theorem fnExactShareText_walk (k : Int) (w : World) (_ : (Lit.int .i64 k).wf = true) (hT : Pows w) :
    Calls Tryd.prog 4 #[.int .i64 k] w fun e w' => e = .returned (.bool true) ∧ Below w.heap.size w w' :=
  fnExactShareText_walk0 k w (shareCode k) (shareText k) (Lib.hid fun W _ => specShareText_any k W) (Lib.hid fun W hb => implShareText_any k W (hT.below hb))
end Go.Proofs.YtppgdbejbhhjlaaDoor
