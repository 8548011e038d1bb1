/- The walk of FnExactHexText, over both functions' contracts. -/
import Derived.Test.YticpebpicdboaaaTxt
import Derived.Test.YticpebpicdboaaaToByte
import Derived.Test.YticpebpicdboaaaEqByteS
namespace Go.Proofs.Yticpebpicdboaaa
open Go.ChangeShapes Go.WideShapes Go.ChangeAt Go.RowKit
set_option linter.unusedVariables false

set_option maxHeartbeats 1600000 in
theorem fnExactHexText_walk0 (a : Option Addr) (n c : Nat) (xs : List Int) (w : World) (hn : n ≤ 1048576) (hr : InRow w a n c xs) (cd : Int) (tx : ByteArray)
    (K1 : Hid (∀ W a n c, InRow W a n c xs → Calls Try.prog 10 #[.slice a n c] W (TxtRes W cd tx)))
    (K2 : Hid (∀ W a n c, Below w.heap.size w W → InRow W a n c xs → Calls Try.prog 12 #[.slice a n c] W (TxtRes W cd tx))) :
    Calls Try.prog 4 #[.slice a n c] w fun e w' => e = .returned (.bool true) ∧ Below w.heap.size w w' := by
  unfold TxtRes at K1 K2
  have KT := Lib.hid (fun (W : World) (hW : Below w.heap.size w W) => toByteS_any a n c xs W hn (hr.below hW))
  have HIN := Lib.hid (fun (W : World) (B : Nat) (a : Option Addr) (n c : Nat) (h : W.ownsRow B 5 1 (.slice a n c) n (xs.map (Value.int .u8))) => inRow_owned h hr.byte)
  unfold OwnsRes at KT
  have hn' : (n : Int) ≤ 1048576 := by omega
  clear hr hn
  go_enter Try.func4, Try.ntmps4
  go_wp2_with fail
  refine (KT.out _ (Below.refl _ _)).mono ?_
  rintro e w1 ⟨a1, n1, c1, rfl, ho1, hb1⟩
  have I1 := Lib.hid (HIN.out _ _ _ _ _ ho1)
  have B1 := Lib.hid hb1
  clear ho1 hb1
  go_wp2_with fail
  refine (K1.out _ _ _ _ I1.out).mono ?_
  rintro e w2 ⟨rfl, hb2⟩
  have B2 := Lib.hid (below_then B1.out hb2)
  clear hb2
  go_wp2_with fail
  refine (KT.out _ (B2.out.alloc B2.out.size _)).mono ?_
  rintro e w3 ⟨a3, n3, c3, rfl, ho3, hb3⟩
  have V3 := (Var2.new w2 31 cd (.string tx)).below hb3
  have I3 := Lib.hid (HIN.out _ _ _ _ _ ho3)
  have R3 := Lib.hid (Row.of_owns ho3)
  have B3 := Lib.hid (below_then (B2.out.alloc B2.out.size _) hb3)
  clear ho3 hb3
  go_wp2_with fail
  refine (K2.out _ _ _ _ B3.out I3.out).mono ?_
  rintro e w4 ⟨rfl, hb4⟩
  have V4 := V3.below hb4
  have R4 := Lib.hid (R3.out.below hb4)
  have B4 := Lib.hid (below_then B3.out hb4)
  clear V3 R3 hb4
  have q0 := V4.lt
  have q1 := V4.c0
  have q2 := V4.c1
  go_wp2_with fail
  refine (eqTxt cd tx _).mono ?_
  rintro e w5 ⟨rfl, hb5⟩
  have R5 := Lib.hid (R4.out.below (below_then (below1 _ _) hb5))
  have B5 := Lib.hid (below_then (B4.out.alloc B4.out.size _) hb5)
  clear V4 q0 q1 q2 R4 hb5
  go_wp2_with fail
  refine (KT.out _ B5.out).mono ?_
  rintro e w6 ⟨a6, n6, c6, rfl, ho6, hb6⟩
  have R6 := Lib.hid (R5.out.below hb6)
  have R6' := Lib.hid (Row.of_owns ho6)
  have B6 := Lib.hid (below_then B5.out hb6)
  clear ho6 hb6
  go_wp2_with fail
  refine (eqByteS_any _ _ xs xs _ R6.out R6'.out).mono ?_
  rw [decide_eq_true rfl]
  rintro e w7 ⟨rfl, nd, rfl⟩
  go_wp2
  go_ret
  exact ⟨rfl, below_drewN B6.out _⟩
end Go.Proofs.Yticpebpicdboaaa
