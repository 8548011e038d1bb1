/- The walk of FnExactIsChar. -/
import Derived.Test.YtodnkfpjgacgdaaIsChar
namespace Go.Proofs.Ytodnkfpjgacgdaa
open Go.ChangeShapes Go.WideShapes Go.ChangeAt Go.RowKit
set_option linter.unusedVariables false
theorem fnExactIsChar_walk (p : Int) (w : World) (_ : (Lit.int .i64 p).wf = true) :
    Calls Try.prog 4 #[.int .i64 p] w fun e w' => e = .returned (.bool true) ∧ Below w.heap.size w w' := by
  cases hc : charB p
  all_goals
    go_enter Try.func4, Try.ntmps4
    go_wp2_with fail
    refine (specIsChar_any p _).mono ?_
    rintro e w' ⟨rfl, rfl⟩
    go_wp2_with fail
    refine (implIsChar_any p _).mono ?_
    rintro e w1 ⟨rfl, hb⟩
    go_wp2
    go_ret
    exact ⟨rfl, hb⟩
end Go.Proofs.Ytodnkfpjgacgdaa
