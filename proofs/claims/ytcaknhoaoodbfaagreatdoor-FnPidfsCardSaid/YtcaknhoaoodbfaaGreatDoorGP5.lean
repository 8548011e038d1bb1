/- The model's l1Min. -/
import Derived.Test.YtcaknhoaoodbfaaGreatDoorGP0
namespace Go.Proofs.YtcaknhoaoodbfaaGreatDoor
open Go.ChangeShapes Go.WideShapes Go.ChangeAt Go.RowKit
set_option linter.unusedVariables false
def minI (x y : Int) : Int := if x < y then x else y
theorem l1Min_any (x y : Int) (w : World) : Calls Tryz.prog 171 #[.int .i64 x, .int .i64 y] w fun e w' => e = .returned (.int .i64 (minI x y)) ∧ w' = w := by
  by_cases h : x < y
  · have e : minI x y = x := by unfold minI; rw [if_pos h]
    rw [e]
    clear e
    go_enter Tryz.func171, Tryz.ntmps171
    go_wp2
    go_ret
    exact ⟨rfl, rfl⟩
  · have e : minI x y = y := by unfold minI; rw [if_neg h]
    rw [e]
    clear e
    go_enter Tryz.func171, Tryz.ntmps171
    go_wp2
    go_ret
    exact ⟨rfl, rfl⟩
def maxI (x y : Int) : Int := if y < x then x else y
theorem l1Max_any (x y : Int) (w : World) : Calls Tryz.prog 154 #[.int .i64 x, .int .i64 y] w fun e w' => e = .returned (.int .i64 (maxI x y)) ∧ w' = w := by
  by_cases h : y < x
  · have e : maxI x y = x := by unfold maxI; rw [if_pos h]
    rw [e]
    clear e
    go_enter Tryz.func154, Tryz.ntmps154
    go_wp2
    go_ret
    exact ⟨rfl, rfl⟩
  · have e : maxI x y = y := by unfold maxI; rw [if_neg h]
    rw [e]
    clear e
    go_enter Tryz.func154, Tryz.ntmps154
    go_wp2
    go_ret
    exact ⟨rfl, rfl⟩
end Go.Proofs.YtcaknhoaoodbfaaGreatDoor
