/- Contracts of the model's TextFault. -/
import Derived.Test.YtlhflkpbccbofaaDoorSpecChars
namespace Go.Proofs.YtlhflkpbccbofaaDoor
open Go.ChangeShapes Go.WideShapes Go.ChangeAt Go.RowKit
set_option linter.unusedVariables false

theorem specTextFault_any (s : ByteArray) (hs : s.size ≤ 1048576) (w : World) :
    Calls Tryd.prog 36 #[.string s] w fun e w' => e = .returned (.int .i64 (textFault s.data.toList)) ∧ Below w.heap.size w w' := by
  have K := Lib.hid (l1Chars_any s hs)
  have hl : s.data.toList.length = s.size := by simp
  unfold textFault
  rw [hl]
  clear hl
  generalize charsB s.data.toList = b at K
  by_cases h : 60 < s.size
  · rw [if_pos h]
    go_enter Tryd.func36, Tryd.ntmps36
    go_wp2
    go_ret
    exact ⟨rfl, Below.refl _ _⟩
  · rw [if_neg h]
    cases b
    all_goals
      go_enter Tryd.func36, Tryd.ntmps36
      go_wp2_with fail
      refine (K.out _).mono ?_
      rintro e w1 ⟨rfl, hb⟩
      go_wp2
      go_ret
      exact ⟨rfl, hb⟩
end Go.Proofs.YtlhflkpbccbofaaDoor
