/- The walk of FnExactRestOf. -/
import Derived.Test.YticpebpicdboaaaDoorLRestOf
import Derived.Test.YticpebpicdboaaaDoorPRestOf
import Derived.Test.YticpebpicdboaaaDoorTabsD
namespace Go.Proofs.YticpebpicdboaaaDoor
open Go.ChangeShapes Go.WideShapes Go.ChangeAt Go.RowKit
set_option linter.unusedVariables false

theorem fnExactRestOf_walk (s : ByteArray) (w : World) (hm : s.size ≤ maxLen) (_ : Tabs w) :
    Calls Tryd.prog 4 #[.string s] w fun e w' => e = .returned (.bool true) ∧ Below w.heap.size w w' := by
  by_cases hn : s.size ≤ 1048576
  · exact fnExactRestOf_walk0 s w (restCode s) (restText s) hn (Lib.hid fun W _ => specRestOf_any s hn W) (Lib.hid fun W _ => implRestOf_any s hn W)
  · unfold maxLen at hm
    go_enter Tryd.func4, Tryd.ntmps4
    go_wp2
    go_ret
    exact ⟨rfl, Below.refl _ _⟩
end Go.Proofs.YticpebpicdboaaaDoor
