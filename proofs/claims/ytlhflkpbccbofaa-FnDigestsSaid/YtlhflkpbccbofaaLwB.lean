/- Contracts of the laws' helpers. -/
import Derived.Test.YtlhflkpbccbofaaLwBig
namespace Go.Proofs.Ytlhflkpbccbofaa
open Go.ChangeShapes Go.WideShapes Go.ChangeAt Go.RowKit
set_option linter.unusedVariables false
set_option maxHeartbeats 800000 in
theorem lwSame_true (a1 a2 : Option Addr) (n1 n2 c1 c2 : Nat) (xs : List Int) (w : World) (h1 : Row w .u8 (.slice a1 n1 c1) xs) (h2 : Row w .u8 (.slice a2 n2 c2) xs) :
    Calls Try.prog 32 #[.slice a1 n1 c1, .slice a2 n2 c2] w fun e w' => e = .returned (.bool true) ∧ ∃ n, w' = w.drewN n := by
  have k1 := fun n => conv_row (P := Try.prog) (w.drewN n) Try.underlying22 Try.underlying5 Try.underlying9 (h1.drewN n)
  have k2 := fun n => conv_row (P := Try.prog) (w.drewN n) Try.underlying22 Try.underlying5 Try.underlying9 (h2.drewN n)
  have k3 := k1 0
  have k4 := k2 0
  rw [World.drewN_zero] at k3 k4
  go_enter Try.func32, Try.ntmps32
  go_wp2
  go_ret
  exact ⟨ret_bool (by simp), 0, rfl⟩

set_option maxHeartbeats 800000 in
theorem lwBytes_true (c : Int) (a1 a2 : Option Addr) (n1 n2 c1 c2 : Nat) (xs : List Int) (w : World) (h1 : Row w .u8 (.slice a1 n1 c1) xs) (h2 : Row w .u8 (.slice a2 n2 c2) xs) :
    Calls Try.prog 11 #[.agg #[.int .i64 c, .slice a1 n1 c1], .agg #[.int .i64 c, .slice a2 n2 c2]] w fun e w' => e = .returned (.bool true) ∧ Below w.heap.size w w' := by
  go_enter Try.func11, Try.ntmps11
  go_wp2_with fail
  refine (lwSame_true a1 a2 n1 n2 c1 c2 xs _ (h1.below (below2 _ _ _)) (h2.below (below2 _ _ _))).mono ?_
  rintro e w1 ⟨rfl, nd, rfl⟩
  go_wp2
  go_ret
  exact ⟨rfl, below_drewN (below2 _ _ _) _⟩
end Go.Proofs.Ytlhflkpbccbofaa
