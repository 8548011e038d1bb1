/- strconv.FormatInt in digits: the library's table, and what a number is written as. -/
import Derived.Test.YtppgdbejbhhjlaaGreatDoorGF11
import Derived.Test.YtppgdbejbhhjlaaGreatDoorGF5
import Derived.Lib.AppendIntMem
import Derived.Test.YtppgdbejbhhjlaaGreatDoorGF0
namespace Go.Proofs.YtppgdbejbhhjlaaGreatDoor
open Go.ChangeShapes Go.WideShapes Go.ChangeAt Go.RowKit Go.Shelf
set_option linter.unusedVariables false

/-- the library's table of powers of ten lies in its variable -/
def Pows (w : World) : Prop := Lib.TabIs Tryz.prog w "internal/strconv.uint64pow10" .u64 Lib.pow10Tab
theorem Pows.below {w w' : World} (h : Pows w) (hb : Below w.heap.size w w') : Pows w' := Lib.tabBelow_of_tabIs h w' hb
theorem decDigits_digT (n : Nat) : Lib.decDigits n = (digT n).data.toList := by
  induction n using Nat.strongRecOn with
  | ind n ih =>
    by_cases h : n < 10
    · rw [Lib.decDigits, dif_pos h, digT_small h, dig_data n h]
    · rw [Lib.decDigits, dif_neg h, digT_data h, ih (n / 10) (by omega)]
theorem itoa_digT (n : Nat) : (⟨(Lib.itoa (n : Int)).toArray⟩ : ByteArray) = digT n := by
  apply ByteArray.ext
  apply Array.toList_inj.1
  rw [List.toList_toArray]
  unfold Lib.itoa
  rw [if_neg (by omega), decDigits_digT, show ((n : Int)).toNat = n by omega]
end Go.Proofs.YtppgdbejbhhjlaaGreatDoor

/- A code and a text: handed back. -/
namespace Go.Proofs.YtppgdbejbhhjlaaGreatDoor
open Go.ChangeShapes Go.WideShapes Go.ChangeAt Go.RowKit
set_option linter.unusedVariables false
/-- a struct of a code and a text is handed back -/
def TxtRes (w : World) (c : Int) (s : ByteArray) (e : Ending) (w' : World) : Prop := e = .returned (.agg #[.int .i64 c, .string s]) ∧ Below w.heap.size w w'
end Go.Proofs.YtppgdbejbhhjlaaGreatDoor
