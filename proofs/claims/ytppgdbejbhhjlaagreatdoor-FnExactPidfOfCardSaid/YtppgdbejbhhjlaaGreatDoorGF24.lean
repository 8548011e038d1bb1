/- A code and a number: handed back. -/
import Derived.Test.YtppgdbejbhhjlaaGreatDoorGF0
import Derived.Test.YtppgdbejbhhjlaaGreatDoorGF12
import Derived.IntWalk
namespace Go.Proofs.YtppgdbejbhhjlaaGreatDoor
open Go.ChangeShapes Go.WideShapes Go.ChangeAt Go.RowKit
set_option linter.unusedVariables false
/-- a struct of two integers is handed back -/
def Res2 (w : World) (x y : Int) (e : Ending) (w' : World) : Prop := e = .returned (.agg #[.int .i64 x, .int .i64 y]) ∧ Below w.heap.size w w'
end Go.Proofs.YtppgdbejbhhjlaaGreatDoor

/- The model's ThousandthsOf. -/
namespace Go.Proofs.YtppgdbejbhhjlaaGreatDoor
open Go.ChangeShapes Go.WideShapes Go.ChangeAt Go.RowKit
set_option linter.unusedVariables false

set_option maxHeartbeats 800000 in
theorem specThousandthsOf_any (n : Int) (w : World) : Calls Tryz.prog 152 #[.int .i64 n] w (Res2 w (thouCode n) (thouVal n)) := by
  unfold thouCode thouVal
  cases h : inB n 0 127
  · go_enter Tryz.func152, Tryz.ntmps152
    go_wp2_with fail
    refine (l1In_any _ _ _ _).mono ?_
    rw [h]
    rintro e w1 ⟨rfl, rfl⟩
    go_wp2
    exact bodyPost_ret (v := .agg #[.int .i64 3, .int .i64 0]) (by simp [results, Tryz.results152, go_sem]) rfl ⟨rfl, below1 w _⟩
  · have hb : 0 ≤ n ∧ n ≤ 127 := by simpa [inB] using h
    obtain ⟨h0, h1⟩ := hb
    have k1 : IntKind.i64.wrap (1000 * n) = 1000 * n := IntWalk.i64_in _ (by omega)
    have k2 : IntKind.i64.wrap (1000 * n + 63) = 1000 * n + 63 := IntWalk.i64_in _ (by omega)
    have k3 : (1000 * n + 63).tdiv 127 = (1000 * n + 63) / 127 := Int.tdiv_eq_ediv_of_nonneg (by omega)
    have k4 : IntKind.i64.wrap ((1000 * n + 63) / 127) = (1000 * n + 63) / 127 := IntWalk.i64_in _ (by omega)
    simp only [if_true]
    go_enter Tryz.func152, Tryz.ntmps152
    go_wp2_with fail
    refine (l1In_any _ _ _ _).mono ?_
    rw [h]
    rintro e w1 ⟨rfl, rfl⟩
    clear h
    go_wp2
    exact bodyPost_ret (v := .agg #[.int .i64 0, .int .i64 ((1000 * n + 63) / 127)]) (by simp [results, Tryz.results152, go_sem]) rfl ⟨rfl, below1 w _⟩
end Go.Proofs.YtppgdbejbhhjlaaGreatDoor
