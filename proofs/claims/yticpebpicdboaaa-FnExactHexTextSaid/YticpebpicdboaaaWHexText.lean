/- The walk of FnExactHexText. -/
import Derived.Test.YticpebpicdboaaaLHexText
import Derived.Test.YticpebpicdboaaaPHexText
namespace Go.Proofs.Yticpebpicdboaaa
open Go.ChangeShapes Go.WideShapes Go.ChangeAt Go.RowKit
set_option linter.unusedVariables false

theorem fnExactHexText_walk (a : Option Addr) (n c : Nat) (xs : List Int) (w : World) (hr : InRow w a n c xs) :
    Calls Try.prog 4 #[.slice a n c] w fun e w' => e = .returned (.bool true) ∧ Below w.heap.size w w' := by
  by_cases hn : n ≤ 1048576
  · exact fnExactHexText_walk0 a n c xs w hn hr (hexCode n) (hexText n xs) (Lib.hid fun W a n2 c h => by have e : n2 = n := h.len.symm.trans hr.len; subst e; exact specHexText_any a n2 c xs W h) (Lib.hid fun W a n2 c _ h => by have e : n2 = n := h.len.symm.trans hr.len; subst e; exact implHexText_any a n2 c xs W h)
  · have hmx := hr.max
    unfold maxLen at hmx
    go_enter Try.func4, Try.ntmps4
    go_wp2
    go_ret
    exact ⟨rfl, Below.refl _ _⟩
end Go.Proofs.Yticpebpicdboaaa
