/- IsKey on both sides. -/
import Derived.Test.YtgfjpngcmgfdcaaIsName
namespace Go.Proofs.Ytgfjpngcmgfdcaa
open Go.ChangeShapes Go.WideShapes Go.ChangeAt Go.RowKit
set_option linter.unusedVariables false

/-- what a key is -/
def isKeyL (s : ByteArray) : Bool := (isNameL s.data.toList && !(s.toList == [120, 109, 108, 110, 115])) || (s.toList == [120, 109, 108, 58, 108, 97, 110, 103])

set_option maxHeartbeats 400000 in
theorem specIsKey_any (s : ByteArray) (hs : s.size ≤ maxLen) (w : World) :
    Calls Try.prog 12 #[.string s] w fun e w' => e = .returned (.bool (isKeyL s)) ∧ w' = w := by
  go_enter Try.func12, Try.ntmps12
  go_wp2_with fail
  refine (specIsName_any s hs _).mono ?_
  rintro e w' ⟨rfl, rfl⟩
  go_wp2
  all_goals
    go_ret
    exact ⟨ret_bool (by unfold isKeyL; simp_all), rfl⟩

theorem isKeyL_lang (s : ByteArray) (h : s.toList = [120, 109, 108, 58, 108, 97, 110, 103]) : isKeyL s = true := by simp [isKeyL, h]
theorem isKeyL_name (s : ByteArray) (h : ¬ s.toList = [120, 109, 108, 58, 108, 97, 110, 103]) (h2 : isNameL s.data.toList = false) : isKeyL s = false := by simp [isKeyL, h, h2]

set_option maxHeartbeats 800000 in
theorem implIsKey_any (s : ByteArray) (hs : s.size ≤ maxLen) (w : World) :
    Calls Try.prog 13 #[.string s] w fun e w' => e = .returned (.bool (isKeyL s)) ∧ Below w.heap.size w w' := by
  by_cases h : s.toList = [120, 109, 108, 58, 108, 97, 110, 103]
  · have HK := Lib.hid (isKeyL_lang s h)
    go_enter Try.func13, Try.ntmps13
    go_wp2
    go_ret
    exact ⟨ret_bool (by rw [HK.out]), Below.refl _ _⟩
  · have HH := Lib.hid h
    go_enter Try.func13, Try.ntmps13
    go_wp2_with (go_at_call 45; refine (implIsName_any s hs _).mono ?_; rintro e w1 ⟨rfl, hb⟩)
    all_goals
      go_ret
      exact ⟨ret_bool (by unfold isKeyL; simp_all <;> rw [Bool.or_comm]), hb⟩

theorem fnExactIsKey_walk (s : ByteArray) (w : World) (hs : s.size ≤ maxLen) :
    Calls Try.prog 3 #[.string s] w fun e w' => e = .returned (.bool true) ∧ Below w.heap.size w w' := by
  have hs2 := hs
  unfold maxLen at hs2
  by_cases hsz : s.size ≤ 1048576
  · cases hc : isKeyL s
    all_goals
      go_enter Try.func3, Try.ntmps3
      go_wp2_with fail
      refine (specIsKey_any s hs _).mono ?_
      rintro e w' ⟨rfl, rfl⟩
      go_wp2_with fail
      refine (implIsKey_any s hs _).mono ?_
      rintro e w1 ⟨rfl, hb⟩
      go_wp2
      go_ret
      exact ⟨rfl, hb⟩
  · go_enter Try.func3, Try.ntmps3
    go_wp2
    go_ret
    exact ⟨rfl, Below.refl _ _⟩
end Go.Proofs.Ytgfjpngcmgfdcaa
