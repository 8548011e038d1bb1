/- The program's ThousandthsOf. -/
import Derived.Test.YtppgdbejbhhjlaaDoorThouP
import Derived.Test.YtppgdbejbhhjlaaDoorIresP
import Derived.IntWalk
namespace Go.Proofs.YtppgdbejbhhjlaaDoor
open Go.ChangeShapes Go.WideShapes Go.ChangeAt Go.RowKit
set_option linter.unusedVariables false

set_option maxHeartbeats 800000 in
theorem implThousandthsOf_any (n : Int) (w : World) : Calls Tryd.prog 8 #[.int .i64 n] w (Res2 w (thouCode n) (thouVal n)) := by
  unfold thouCode thouVal
  cases h : inB n 0 127
  · have hb : n < 0 ∨ 127 < n := by
      have : ¬ (0 ≤ n ∧ n ≤ 127) := by simpa [inB] using h
      omega
    clear h
    rcases hb with h | h
    · go_enter Tryd.func8, Tryd.ntmps8
      go_wp2
      exact bodyPost_ret (v := .agg #[.int .i64 3, .int .i64 0]) (by simp [results, Tryd.results8, go_sem]) rfl ⟨rfl, below1 w _⟩
    · have h0 : 0 ≤ n := by omega
      go_enter Tryd.func8, Tryd.ntmps8
      go_wp2
      exact bodyPost_ret (v := .agg #[.int .i64 3, .int .i64 0]) (by simp [results, Tryd.results8, go_sem]) rfl ⟨rfl, below1 w _⟩
  · have hb : 0 ≤ n ∧ n ≤ 127 := by simpa [inB] using h
    obtain ⟨h0, h1⟩ := hb
    have k1 : IntKind.i64.wrap (1000 * n) = 1000 * n := IntWalk.i64_in _ (by omega)
    have k2 : IntKind.i64.wrap (1000 * n + 63) = 1000 * n + 63 := IntWalk.i64_in _ (by omega)
    have k3 : (1000 * n + 63).tdiv 127 = (1000 * n + 63) / 127 := Int.tdiv_eq_ediv_of_nonneg (by omega)
    have k4 : IntKind.i64.wrap ((1000 * n + 63) / 127) = (1000 * n + 63) / 127 := IntWalk.i64_in _ (by omega)
    simp only [if_true]
    clear h
    go_enter Tryd.func8, Tryd.ntmps8
    go_wp2
    exact bodyPost_ret (v := .agg #[.int .i64 0, .int .i64 ((1000 * n + 63) / 127)]) (by simp [results, Tryd.results8, go_sem]) rfl ⟨rfl, below1 w _⟩
end Go.Proofs.YtppgdbejbhhjlaaDoor
