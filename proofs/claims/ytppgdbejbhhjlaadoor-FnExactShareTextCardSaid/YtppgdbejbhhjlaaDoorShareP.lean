/- Thousandths: what they are, in plain words. -/
import Derived.Test.YtppgdbejbhhjlaaDoorDig1
namespace Go.Proofs.YtppgdbejbhhjlaaDoor
open Go.ChangeShapes Go.WideShapes Go.ChangeAt Go.RowKit
set_option linter.unusedVariables false

/-- what stands behind the first sign -/
def behindT (s : ByteArray) : ByteArray := s.extract 1 s.size
/-- thousandths as a text -/
def shareT (n : Nat) : ByteArray := digT (n / 1000) ++ ⟨#[46]⟩ ++ behindT (digT (1000 + n % 1000))
def shareCode (n : Int) : Int := if inB n 0 1000 then 0 else 3
def shareText (n : Int) : ByteArray := if inB n 0 1000 then shareT n.toNat else ByteArray.empty
theorem behind_2000 : behindT (digT 2000) = behindT (digT 1000) := by
  rw [digT_big (n := 2000) (by decide), digT_big (n := 2000 / 10) (by decide), digT_big (n := 2000 / 10 / 10) (by decide), digT_small (n := 2000 / 10 / 10 / 10) (by decide)]
  rw [digT_big (n := 1000) (by decide), digT_big (n := 1000 / 10) (by decide), digT_big (n := 1000 / 10 / 10) (by decide), digT_small (n := 1000 / 10 / 10 / 10) (by decide)]
  decide +kernel
/-- a whole more keeps the noughts ahead -/
theorem behind_share (n : Nat) (h : n ≤ 1000) : behindT (digT (1000 + n)) = behindT (digT (1000 + n % 1000)) := by
  by_cases h1 : n < 1000
  · rw [Nat.mod_eq_of_lt h1]
  · obtain rfl : n = 1000 := by omega
    exact behind_2000
end Go.Proofs.YtppgdbejbhhjlaaDoor
