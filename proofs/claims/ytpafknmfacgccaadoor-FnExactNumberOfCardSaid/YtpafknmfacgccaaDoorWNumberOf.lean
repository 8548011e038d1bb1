/- The walk of FnExactNumberOf. -/
import Derived.Test.YtpafknmfacgccaaDoorLNumberOf
import Derived.Test.YtpafknmfacgccaaDoorPNumberOf
namespace Go.Proofs.YtpafknmfacgccaaDoor
open Go.ChangeShapes Go.WideShapes Go.ChangeAt Go.RowKit
set_option linter.unusedVariables false
theorem fnExactNumberOf_walk (s : ByteArray) (w : World) (hs : s.size ≤ maxLen) (hT : Pows w) (b : Addr) (hb : RngE w b) (a : Addr) (ha : SynE w a) :
    Calls Tryd.prog 5 #[.string s] w fun e w' => e = .returned (.bool true) ∧ Below w.heap.size w w' := by
  by_cases hsz : s.size ≤ 1048576
  · have hE : NumErrs w a b := ⟨ha.lt, ha.cell, hb.lt, hb.cell⟩
    exact fnExactNumberOf_walk0 s w (numOfCode s.data.toList) (numOfVal s.data.toList) hsz (Lib.hid fun W _ => specNumberOf_any s hs W) (Lib.hid fun W hb => implNumberOf_any s (by omega) W a b (hE.below hb) (hT.below hb))
  · have hs2 := hs
    unfold maxLen at hs2
    clear hT ha hb
    go_enter Tryd.func5, Tryd.ntmps5
    go_wp2
    go_ret
    exact ⟨rfl, Below.refl _ _⟩
end Go.Proofs.YtpafknmfacgccaaDoor
