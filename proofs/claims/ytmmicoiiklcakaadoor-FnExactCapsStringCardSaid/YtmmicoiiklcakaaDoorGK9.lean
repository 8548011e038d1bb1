/- A code and a text: handed back. -/
import Derived.Test.YtmmicoiiklcakaaDoorGK0
namespace Go.Proofs.YtmmicoiiklcakaaDoor
open Go.ChangeShapes Go.WideShapes Go.ChangeAt Go.RowKit
set_option linter.unusedVariables false
/-- a struct of a code and a text is handed back -/
def TxtRes (w : World) (c : Int) (s : ByteArray) (e : Ending) (w' : World) : Prop := e = .returned (.agg #[.int .i64 c, .string s]) ∧ Below w.heap.size w w'
end Go.Proofs.YtmmicoiiklcakaaDoor

/- A code and a text, a code and a number: handed back, and held to be the same. -/
namespace Go.Proofs.YtmmicoiiklcakaaDoor
open Go.ChangeShapes Go.WideShapes Go.ChangeAt Go.RowKit
set_option linter.unusedVariables false

theorem eqTxt (c : Int) (s : ByteArray) (w : World) :
    Calls Tryd.prog 8 #[.agg #[.int .i64 c, .string s], .agg #[.int .i64 c, .string s]] w fun e w' => e = .returned (.bool true) ∧ Below w.heap.size w w' := by
  go_enter Tryd.func8, Tryd.ntmps8
  go_wp2
  go_ret
  exact ⟨rfl, below2 _ _ _⟩
theorem below_of_alloc {w w1 : World} {o : Obj} (h : Below w.heap.size w w1) : Below w.heap.size w w1 := h
end Go.Proofs.YtmmicoiiklcakaaDoor
