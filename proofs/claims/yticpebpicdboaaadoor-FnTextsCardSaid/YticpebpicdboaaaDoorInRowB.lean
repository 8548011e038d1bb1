/- A row of bytes that came in is kept. -/
import Derived.Test.YticpebpicdboaaaDoorCode
namespace Go.Proofs.YticpebpicdboaaaDoor
open Go.ChangeShapes Go.WideShapes Go.ChangeAt Go.RowKit
set_option linter.unusedVariables false

theorem below_of_grown0 {w w1 : World} (h : w.grownBy w1 none) : Below w.heap.size w w1 := ⟨h.os, h.tape, h.output, h.size, fun i hi => h.block i hi (by simp)⟩
theorem InRow.below {w w' : World} {a : Option Addr} {n c : Nat} {xs : List Int} (h : InRow w a n c xs) (hb : Below w.heap.size w w') : InRow w' a n c xs := by
  refine ⟨h.max, h.len, h.byte, ?_⟩
  rcases h.row with e | ⟨rb, ro, ha, hr, hc⟩
  · exact .inl e
  · exact .inr ⟨rb, ro, ha, Nat.lt_of_lt_of_le hr hb.size, fun i hi => (hb.cell (p := ⟨rb, ro + i, none⟩) hr).trans (hc i hi)⟩
end Go.Proofs.YticpebpicdboaaaDoor
