/- The walk of FnExactRestOf, over both functions' contracts. -/
import Derived.Test.YticpebpicdboaaaDoorTxt
namespace Go.Proofs.YticpebpicdboaaaDoor
open Go.ChangeShapes Go.WideShapes Go.ChangeAt Go.RowKit
set_option linter.unusedVariables false

set_option maxHeartbeats 1600000 in
theorem fnExactRestOf_walk0 (s : ByteArray) (w : World) (cd : Int) (tx : ByteArray) (hs : s.size ≤ 1048576)
    (K1 : Hid (∀ W, Below w.heap.size w W → Calls Tryd.prog 13 #[.string s] W (TxtRes W cd tx)))
    (K2 : Hid (∀ W, Below w.heap.size w W → Calls Tryd.prog 9 #[.string s] W (TxtRes W cd tx))) :
    Calls Tryd.prog 4 #[.string s] w fun e w' => e = .returned (.bool true) ∧ Below w.heap.size w w' := by
  unfold TxtRes at K1 K2
  have h' : (s.size : Int) ≤ 1048576 := by omega
  clear hs
  go_enter Tryd.func4, Tryd.ntmps4
  go_wp2_with fail
  refine (K1.out _ (Below.refl _ _)).mono ?_
  rintro e w1 ⟨rfl, hb1⟩
  have B1 := Lib.hid (hb1.alloc hb1.size (.cells #[.int .i64 cd, .string tx] 26))
  have V1 := Var2.new w1 26 cd (.string tx)
  clear hb1
  go_wp2_with fail
  refine (K2.out _ B1.out).mono ?_
  rintro e w2 ⟨rfl, hb2⟩
  have V2 := V1.below hb2
  have B2 := Lib.hid (below_then B1.out hb2)
  clear hb2 V1
  have q0 := V2.lt
  have q1 := V2.c0
  have q2 := V2.c1
  go_wp2_with fail
  refine (eqTxt cd tx _).mono ?_
  rintro e w3 ⟨rfl, hb3⟩
  go_wp2
  go_ret
  exact ⟨rfl, below_then (below_then B2.out (below1 _ _)) hb3⟩
end Go.Proofs.YticpebpicdboaaaDoor
