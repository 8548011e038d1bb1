/- The walk of FnExactTextFault. -/
import Derived.Test.YtodnkfpjgacgdaaDoorSpecText
import Derived.Test.YtodnkfpjgacgdaaDoorImplText
namespace Go.Proofs.YtodnkfpjgacgdaaDoor
open Go.ChangeShapes Go.WideShapes Go.ChangeAt Go.RowKit
set_option linter.unusedVariables false
theorem fnExactTextFault_walk (s : ByteArray) (w : World) (hs : s.size ≤ maxLen) (hT : Tabs w) :
    Calls Tryd.prog 5 #[.string s] w fun e w' => e = .returned (.bool true) ∧ Below w.heap.size w w' := by
  by_cases h : s.size ≤ 1048576
  · have K1 := Lib.hid (fun W => specTextFault_any s h W)
    have K2 := Lib.hid (fun (W : World) (hb : Below w.heap.size w W) => implTextFault_any s hs W (tabs_kept hT hb))
    generalize textFault s.data.toList = t at K1 K2
    unfold maxLen at hs
    go_enter Tryd.func5, Tryd.ntmps5
    go_wp2_with fail
    refine (K1.out _).mono ?_
    rintro e w1 ⟨rfl, hb1⟩
    go_wp2_with fail
    refine (K2.out _ hb1).mono ?_
    rintro e w2 ⟨rfl, hb2⟩
    go_wp2
    go_ret
    exact ⟨rfl, below_then hb1 hb2⟩
  · unfold maxLen at hs
    go_enter Tryd.func5, Tryd.ntmps5
    go_wp2
    go_ret
    exact ⟨rfl, Below.refl _ _⟩
end Go.Proofs.YtodnkfpjgacgdaaDoor
