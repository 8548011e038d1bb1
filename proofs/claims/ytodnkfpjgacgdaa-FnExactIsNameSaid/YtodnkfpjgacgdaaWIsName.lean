/- The walk of FnExactIsName. -/
import Derived.Test.YtodnkfpjgacgdaaIsName
namespace Go.Proofs.Ytodnkfpjgacgdaa
open Go.ChangeShapes Go.WideShapes Go.ChangeAt Go.RowKit
set_option linter.unusedVariables false
theorem fnExactIsName_walk (s : ByteArray) (w : World) (hs : s.size ≤ maxLen) :
    Calls Try.prog 5 #[.string s] w fun e w' => e = .returned (.bool true) ∧ Below w.heap.size w w' := by
  have hs2 := hs
  unfold maxLen at hs2
  by_cases hsz : s.size ≤ 1048576
  · cases hc : isNameL s.data.toList
    all_goals
      go_enter Try.func5, Try.ntmps5
      go_wp2_with fail
      refine (specIsName_any s hs _).mono ?_
      rintro e w' ⟨rfl, rfl⟩
      go_wp2_with fail
      refine (implIsName_any s hs _).mono ?_
      rintro e w1 ⟨rfl, hb⟩
      go_wp2
      go_ret
      exact ⟨rfl, hb⟩
  · go_enter Try.func5, Try.ntmps5
    go_wp2
    go_ret
    exact ⟨rfl, Below.refl _ _⟩
end Go.Proofs.Ytodnkfpjgacgdaa
