/- Words turned and mixed: the model's l9Turn, l9Mix. -/
import Derived.Test.YtlhflkpbccbofaaShaP
import Derived.IntWalk
namespace Go.Proofs.Ytlhflkpbccbofaa
open Go.ChangeShapes Go.WideShapes Go.ChangeAt Go.RowKit
set_option linter.unusedVariables false

theorem ret_u32s {a b : Int} (h : a = b) : Ending.returned (.int .u32 a) = .returned (.int .u32 b) := by rw [h]
theorem l9Turn_any (x : Int) (k : Nat) (hk : k = 1 ∨ k = 5 ∨ k = 30) (h : In32 x) (w : World) :
    Calls Try.prog 49 #[.int .u32 x, .int .u32 k] w fun e w' => e = .returned (.int .u32 (rotI x k)) ∧ w' = w := by
  obtain ⟨h0, h1⟩ := h
  unfold rotI
  rcases hk with rfl | rfl | rfl
  all_goals
    go_enter Try.func49, Try.ntmps49
    go_wp2
    go_ret
    exact ⟨ret_u32s (by simp), rfl⟩
theorem l9Mix_any (t : Nat) (ht : t < 80) (b c d : Int) (hb : In32 b) (hc : In32 c) (hd : In32 d) (w : World) :
    Calls Try.prog 50 #[.int .i64 t, .int .u32 b, .int .u32 c, .int .u32 d] w fun e w' => e = .returned (.tuple #[.int .u32 (mixF t b c d), .int .u32 (mixK t)]) ∧ w' = w := by
  obtain ⟨b0, b1⟩ := hb
  obtain ⟨c0, c1⟩ := hc
  obtain ⟨d0, d1⟩ := hd
  unfold mixF mixK
  by_cases h1 : t < 20
  · rw [if_pos h1, if_pos h1]
    go_enter Try.func50, Try.ntmps50
    go_wp2
    go_ret2
    exact ⟨rfl, rfl⟩
  by_cases h2 : t < 40
  · rw [if_neg h1, if_neg h1, if_pos h2, if_pos h2]
    go_enter Try.func50, Try.ntmps50
    go_wp2
    go_ret2
    exact ⟨rfl, rfl⟩
  by_cases h3 : t < 60
  · rw [if_neg h1, if_neg h1, if_neg h2, if_neg h2, if_pos h3, if_pos h3]
    go_enter Try.func50, Try.ntmps50
    go_wp2
    go_ret2
    exact ⟨rfl, rfl⟩
  · rw [if_neg h1, if_neg h1, if_neg h2, if_neg h2, if_neg h3, if_neg h3]
    go_enter Try.func50, Try.ntmps50
    go_wp2
    go_ret2
    exact ⟨rfl, rfl⟩
end Go.Proofs.Ytlhflkpbccbofaa
