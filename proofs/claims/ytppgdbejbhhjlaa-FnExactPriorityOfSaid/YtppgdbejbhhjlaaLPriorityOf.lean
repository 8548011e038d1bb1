/- The walk of FnExactPriorityOf, over both functions' contracts. -/
import Derived.Test.YtppgdbejbhhjlaaIres
namespace Go.Proofs.Ytppgdbejbhhjlaa
open Go.ChangeShapes Go.WideShapes Go.ChangeAt Go.RowKit
set_option linter.unusedVariables false

set_option maxHeartbeats 1600000 in
theorem fnExactPriorityOf_walk0 (n : Int) (w : World) (cd : Int) (vx : Int)
    (K1 : Hid (∀ W, Below w.heap.size w W → Calls Try.prog 8 #[.int .i64 n] W (Res2 W cd vx)))
    (K2 : Hid (∀ W, Below w.heap.size w W → Calls Try.prog 9 #[.int .i64 n] W (Res2 W cd vx))) :
    Calls Try.prog 4 #[.int .i64 n] w fun e w' => e = .returned (.bool true) ∧ Below w.heap.size w w' := by
  unfold Res2 at K1 K2
  go_enter Try.func4, Try.ntmps4
  go_wp2_with fail
  refine (K1.out _ (Below.refl _ _)).mono ?_
  rintro e w1 ⟨rfl, hb1⟩
  have B1 := Lib.hid (hb1.alloc hb1.size (.cells #[.int .i64 cd, .int .i64 vx] 23))
  have V1 := Var2.new w1 23 cd (.int .i64 vx)
  clear hb1
  go_wp2_with fail
  refine (K2.out _ B1.out).mono ?_
  rintro e w2 ⟨rfl, hb2⟩
  have V2 := V1.below hb2
  have B2 := Lib.hid (below_then B1.out hb2)
  clear hb2 V1
  have q0 := V2.lt
  have q1 := V2.c0
  have q2 := V2.c1
  go_wp2_with fail
  refine (eqInt cd vx _).mono ?_
  rintro e w3 ⟨rfl, hb3⟩
  go_wp2
  go_ret
  exact ⟨rfl, below_then (below_then B2.out (below1 _ _)) hb3⟩
end Go.Proofs.Ytppgdbejbhhjlaa
