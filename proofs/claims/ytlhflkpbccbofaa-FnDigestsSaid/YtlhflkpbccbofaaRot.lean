/- Words turned: math/bits.RotateLeft32. -/
import Derived.Test.YtlhflkpbccbofaaShaP
import Derived.IntWalk
namespace Go.Proofs.Ytlhflkpbccbofaa
open Go.ChangeShapes Go.WideShapes Go.ChangeAt Go.RowKit
set_option linter.unusedVariables false

theorem ret_u32 {a b : Int} (h : a = b) : Ending.returned (.int .u32 a) = .returned (.int .u32 b) := by rw [h]
theorem rot_any (x : Int) (k : Nat) (hk : k = 1 ∨ k = 5 ∨ k = 30) (h : In32 x) (w : World) :
    Calls Try.prog 46 #[.int .u32 x, .int .i64 k] w fun e w' => e = .returned (.int .u32 (rotI x k)) ∧ w' = w := by
  obtain ⟨h0, h1⟩ := h
  have q1 : bits .and .u64 1 31 = 1 := by decide +kernel
  have q5 : bits .and .u64 5 31 = 5 := by decide +kernel
  have q30 : bits .and .u64 30 31 = 30 := by decide +kernel
  unfold rotI
  rcases hk with rfl | rfl | rfl
  all_goals
    go_enter Try.func46, Try.ntmps46
    go_wp2
    go_ret
    exact ⟨ret_u32 (by simp), rfl⟩
end Go.Proofs.Ytlhflkpbccbofaa
