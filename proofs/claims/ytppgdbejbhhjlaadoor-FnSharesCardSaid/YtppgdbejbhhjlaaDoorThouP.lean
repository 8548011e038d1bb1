/- Thousandths of priorities, in plain words. -/
import Derived.Test.YtppgdbejbhhjlaaDoorInB
namespace Go.Proofs.YtppgdbejbhhjlaaDoor
open Go.ChangeShapes Go.WideShapes Go.ChangeAt Go.RowKit
set_option linter.unusedVariables false

def thouCode (p : Int) : Int := if inB p 0 127 then 0 else 3
def thouVal (p : Int) : Int := if inB p 0 127 then (1000 * p + 63) / 127 else 0
def prioCode (n : Int) : Int := if inB n 0 1000 then 0 else 3
def prioVal (n : Int) : Int := if inB n 0 1000 then (127 * n + 500) / 1000 else 0
end Go.Proofs.YtppgdbejbhhjlaaDoor
