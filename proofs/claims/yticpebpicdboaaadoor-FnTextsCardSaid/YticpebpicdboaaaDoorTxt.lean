/- A code and a text, a code and a number: handed back, and held to be the same. -/
import Derived.Test.YticpebpicdboaaaDoorTxtP
namespace Go.Proofs.YticpebpicdboaaaDoor
open Go.ChangeShapes Go.WideShapes Go.ChangeAt Go.RowKit
set_option linter.unusedVariables false

theorem eqTxt (c : Int) (s : ByteArray) (w : World) :
    Calls Tryd.prog 15 #[.agg #[.int .i64 c, .string s], .agg #[.int .i64 c, .string s]] w fun e w' => e = .returned (.bool true) ∧ Below w.heap.size w w' := by
  go_enter Tryd.func15, Tryd.ntmps15
  go_wp2
  go_ret
  exact ⟨rfl, below2 _ _ _⟩
theorem below_of_alloc {w w1 : World} {o : Obj} (h : Below w.heap.size w w1) : Below w.heap.size w w1 := h
end Go.Proofs.YticpebpicdboaaaDoor
