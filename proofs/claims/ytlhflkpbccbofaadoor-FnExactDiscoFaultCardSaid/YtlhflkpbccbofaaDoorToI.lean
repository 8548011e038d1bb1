/- toIdentity: what came in is copied. -/
import Derived.Test.YtlhflkpbccbofaaDoorDis
namespace Go.Proofs.YtlhflkpbccbofaaDoor
open Go.ChangeShapes Go.WideShapes Go.ChangeAt Go.RowKit
set_option linter.unusedVariables false

set_option maxHeartbeats 400000 in
theorem toIdentity_any (s t u v : ByteArray) (w : World) :
    Calls Tryd.prog 13 #[.agg #[.string s, .string t, .string u, .string v]] w fun e w' => e = .returned (.agg #[.string s, .string t, .string u, .string v]) ∧ Below w.heap.size w w' := by
  go_enter Tryd.func13, Tryd.ntmps13
  go_wp2
  exact bodyPost_ret (v := .agg #[.string s, .string t, .string u, .string v]) (by simp [results, Tryd.results13, go_sem]) rfl ⟨rfl, below3 _ _ _ _⟩

end Go.Proofs.YtlhflkpbccbofaaDoor
