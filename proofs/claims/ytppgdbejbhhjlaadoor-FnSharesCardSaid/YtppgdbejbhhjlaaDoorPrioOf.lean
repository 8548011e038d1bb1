/- The model's PriorityOf. -/
import Derived.Test.YtppgdbejbhhjlaaDoorThouP
import Derived.Test.YtppgdbejbhhjlaaDoorIresP
import Derived.IntWalk
namespace Go.Proofs.YtppgdbejbhhjlaaDoor
open Go.ChangeShapes Go.WideShapes Go.ChangeAt Go.RowKit
set_option linter.unusedVariables false

set_option maxHeartbeats 800000 in
theorem specPriorityOf_any (n : Int) (w : World) : Calls Tryd.prog 13 #[.int .i64 n] w (Res2 w (prioCode n) (prioVal n)) := by
  unfold prioCode prioVal
  cases h : inB n 0 1000
  · go_enter Tryd.func13, Tryd.ntmps13
    go_wp2_with fail
    refine (l1In_any _ _ _ _).mono ?_
    rw [h]
    rintro e w1 ⟨rfl, rfl⟩
    go_wp2
    exact bodyPost_ret (v := .agg #[.int .i64 3, .int .i64 0]) (by simp [results, Tryd.results13, go_sem]) rfl ⟨rfl, below1 w _⟩
  · have hb : 0 ≤ n ∧ n ≤ 1000 := by simpa [inB] using h
    obtain ⟨h0, h1⟩ := hb
    have k1 : IntKind.i64.wrap (127 * n) = 127 * n := IntWalk.i64_in _ (by omega)
    have k2 : IntKind.i64.wrap (127 * n + 500) = 127 * n + 500 := IntWalk.i64_in _ (by omega)
    have k3 : (127 * n + 500).tdiv 1000 = (127 * n + 500) / 1000 := Int.tdiv_eq_ediv_of_nonneg (by omega)
    have k4 : IntKind.i64.wrap ((127 * n + 500) / 1000) = (127 * n + 500) / 1000 := IntWalk.i64_in _ (by omega)
    simp only [if_true]
    go_enter Tryd.func13, Tryd.ntmps13
    go_wp2_with fail
    refine (l1In_any _ _ _ _).mono ?_
    rw [h]
    rintro e w1 ⟨rfl, rfl⟩
    clear h
    go_wp2
    exact bodyPost_ret (v := .agg #[.int .i64 0, .int .i64 ((127 * n + 500) / 1000)]) (by simp [results, Tryd.results13, go_sem]) rfl ⟨rfl, below1 w _⟩
end Go.Proofs.YtppgdbejbhhjlaaDoor
