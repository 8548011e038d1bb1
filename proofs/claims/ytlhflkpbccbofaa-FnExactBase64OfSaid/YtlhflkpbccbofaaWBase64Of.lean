/- The walk of FnExactBase64Of. -/
import Derived.Test.YtlhflkpbccbofaaLBase64Of
import Derived.Test.YtlhflkpbccbofaaB64Q
namespace Go.Proofs.Ytlhflkpbccbofaa
open Go.ChangeShapes Go.WideShapes Go.ChangeAt Go.RowKit
set_option linter.unusedVariables false

theorem fnExactBase64Of_walk (a : Option Addr) (n c : Nat) (xs : List Int) (w : World) (hr : InRow w a n c xs) :
    Calls Try.prog 5 #[.slice a n c] w fun e w' => e = .returned (.bool true) ∧ Below w.heap.size w w' := by
  by_cases hn : n ≤ 1048576
  · exact fnExactBase64Of_walk0 a n c xs w hn hr (b64Code xs) (b64Text xs) (Lib.hid fun W a n c h1 h2 h3 h4 => specBase64Of_any a n c xs W h1 h2 h4) (Lib.hid fun W a n c h1 h2 h3 _ h4 => implBase64Of_any a n c xs W h1 h2 h3 h4)
  · have hmx := hr.max
    unfold maxLen at hmx
    go_enter Try.func5, Try.ntmps5
    go_wp2
    go_ret
    exact ⟨rfl, Below.refl _ _⟩
end Go.Proofs.Ytlhflkpbccbofaa
