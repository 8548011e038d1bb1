/- Contract of the model's l1Put. -/
import Derived.Test.YtcaknhoaoodbfaaGreatDoorGC3
import Derived.Lib.RuneBytes
import Derived.Test.YtcaknhoaoodbfaaGreatDoorGC4
namespace Go.Proofs.YtcaknhoaoodbfaaGreatDoor
open Go.ChangeShapes Go.WideShapes Go.ChangeAt Go.RowKit
set_option linter.unusedVariables false

theorem point_of {p : Int} (h : pointB p = true) : (0 ≤ p ∧ p ≤ 1114111) ∧ ¬ (55296 ≤ p ∧ p ≤ 57343) := by
  simp [pointB, inB] at h
  omega

set_option maxHeartbeats 1600000 in
theorem l1Put_any (p : Int) (hp : pointB p = true) (w : World) :
    Calls Tryz.prog 184 #[.int .i64 p] w (OwnsRes w 5 .u8 (Lib.encodeRuneZ p)) := by
  obtain ⟨⟨h0, h1⟩, h2⟩ := point_of hp
  clear hp
  by_cases c1 : p < 128
  · go_enter Tryz.func184, Tryz.ntmps184
    go_wp2
    go_ret
    refine ⟨_, 1, _, rfl, ?_, below1 _ _⟩
    rw [Lib.encodeRuneZ_one h0 (by omega)]
    exact lit_owns w _ .u8 [p] 1 rfl (by decide)
  · by_cases c2 : p < 2048
    · have q1 : p / 64 < 32 := by omega
      have q2 : 0 ≤ p / 64 := by omega
      go_enter Tryz.func184, Tryz.ntmps184
      go_wp2
      go_ret
      refine ⟨_, 2, _, rfl, ?_, below1 _ _⟩
      rw [Lib.encodeRuneZ_two (by omega) (by omega)]
      exact lit_owns w _ .u8 [192 + p / 64, 128 + p % 64] 2 rfl (by decide)
    · by_cases c3 : p < 65536
      · have q1 : p / 4096 < 16 := by omega
        have q2 : 0 ≤ p / 4096 := by omega
        have q3 : 0 ≤ p / 64 := by omega
        go_enter Tryz.func184, Tryz.ntmps184
        go_wp2
        go_ret
        refine ⟨_, 3, _, rfl, ?_, below1 _ _⟩
        rw [Lib.encodeRuneZ_three (by omega)]
        exact lit_owns w _ .u8 [224 + p / 4096, 128 + p / 64 % 64, 128 + p % 64] 3 rfl (by decide)
      · have q1 : p / 262144 < 8 := by omega
        have q2 : 0 ≤ p / 262144 := by omega
        have q3 : 0 ≤ p / 64 := by omega
        have q4 : 0 ≤ p / 4096 := by omega
        go_enter Tryz.func184, Tryz.ntmps184
        go_wp2
        go_ret
        refine ⟨_, 4, _, rfl, ?_, below1 _ _⟩
        rw [Lib.encodeRuneZ_four (by omega) (by omega)]
        exact lit_owns w _ .u8 [240 + p / 262144, 128 + p / 4096 % 64, 128 + p / 64 % 64, 128 + p % 64] 4 rfl (by decide)

end Go.Proofs.YtcaknhoaoodbfaaGreatDoor
