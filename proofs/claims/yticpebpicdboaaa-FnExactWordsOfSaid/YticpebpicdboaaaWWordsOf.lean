/- The walk of FnExactWordsOf. -/
import Derived.Test.YticpebpicdboaaaTexts
import Derived.Test.YticpebpicdboaaaPWordsOf
namespace Go.Proofs.Yticpebpicdboaaa
open Go.ChangeShapes Go.WideShapes Go.ChangeAt Go.RowKit
set_option linter.unusedVariables false

theorem fnExactWordsOf_walk (s : ByteArray) (w : World) (hm : s.size ≤ maxLen) :
    Calls Try.prog 3 #[.string s] w fun e w' => e = .returned (.bool true) ∧ Below w.heap.size w w' := by
  by_cases hn : s.size ≤ 1048576
  · exact fnExactWordsOf_walk0 s hn w (wordsCode s) (wordsOf s) (wordsOf_length s) (Lib.hid fun W _ => specWordsOf_any s hn W) (Lib.hid fun W _ => implWordsOf_any s hn W)
  · unfold maxLen at hm
    go_enter Try.func3, Try.ntmps3
    go_wp2
    go_ret
    exact ⟨rfl, Below.refl _ _⟩
end Go.Proofs.Yticpebpicdboaaa
