/- The walk of FnExactShareText, over both functions' contracts. -/
import Derived.Test.YtppgdbejbhhjlaaDoorTxt
namespace Go.Proofs.YtppgdbejbhhjlaaDoor
open Go.ChangeShapes Go.WideShapes Go.ChangeAt Go.RowKit
set_option linter.unusedVariables false

set_option maxHeartbeats 1600000 in
theorem fnExactShareText_walk0 (n : Int) (w : World) (cd : Int) (tx : ByteArray)
    (K1 : Hid (∀ W, Below w.heap.size w W → Calls Tryd.prog 14 #[.int .i64 n] W (TxtRes W cd tx)))
    (K2 : Hid (∀ W, Below w.heap.size w W → Calls Tryd.prog 11 #[.int .i64 n] W (TxtRes W cd tx))) :
    Calls Tryd.prog 4 #[.int .i64 n] w fun e w' => e = .returned (.bool true) ∧ Below w.heap.size w w' := by
  unfold TxtRes at K1 K2
  go_enter Tryd.func4, Tryd.ntmps4
  go_wp2_with fail
  refine (K1.out _ (Below.refl _ _)).mono ?_
  rintro e w1 ⟨rfl, hb1⟩
  have B1 := Lib.hid (hb1.alloc hb1.size (.cells #[.int .i64 cd, .string tx] 29))
  have V1 := Var2.new w1 29 cd (.string tx)
  clear hb1
  go_wp2_with fail
  refine (K2.out _ B1.out).mono ?_
  rintro e w2 ⟨rfl, hb2⟩
  have V2 := V1.below hb2
  have B2 := Lib.hid (below_then B1.out hb2)
  clear hb2 V1
  have q0 := V2.lt
  have q1 := V2.c0
  have q2 := V2.c1
  go_wp2_with fail
  refine (eqTxt cd tx _).mono ?_
  rintro e w3 ⟨rfl, hb3⟩
  go_wp2
  go_ret
  exact ⟨rfl, below_then (below_then B2.out (below1 _ _)) hb3⟩
end Go.Proofs.YtppgdbejbhhjlaaDoor
