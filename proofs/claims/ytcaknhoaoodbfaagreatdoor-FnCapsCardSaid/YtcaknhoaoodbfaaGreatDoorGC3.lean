/- Contracts of the characters' classes. -/
import Derived.Test.YtcaknhoaoodbfaaGreatDoorGC2
namespace Go.Proofs.YtcaknhoaoodbfaaGreatDoor
open Go.ChangeShapes Go.WideShapes Go.ChangeAt Go.RowKit
set_option linter.unusedVariables false

def pointB (p : Int) : Bool := inB p 0 1114111 && !inB p 55296 57343
def charB (p : Int) : Bool := decide (p = 9) || decide (p = 10) || (decide (32 ≤ p) && pointB p && decide (p ≠ 127) && decide (p ≠ 65534) && decide (p ≠ 65535))

theorem l1Point_any (p : Int) (w : World) :
    Calls Tryz.prog 221 #[.int .i64 p] w fun e w' => e = .returned (.bool (pointB p)) ∧ w' = w := by
  cases h : inB p 0 1114111
  all_goals
    go_enter Tryz.func221, Tryz.ntmps221
    go_wp2_with (go_at_call 70; refine (l1In_any _ _ _ _).mono ?_; rintro e w' ⟨rfl, rfl⟩)
    go_ret
    exact ⟨ret_bool (by simp [pointB, h]), rfl⟩

theorem pointB_spans (p : Int) : (inB p 0 55295 || inB p 57344 1114111) = pointB p := by
  rw [Bool.eq_iff_iff]
  simp [pointB, inB]
  omega

theorem isPoint_any (p : Int) (w : World) :
    Calls Tryz.prog 200 #[.int .i64 p] w fun e w' => e = .returned (.bool (pointB p)) ∧ Below w.heap.size w w' := by
  go_enter Tryz.func200, Tryz.ntmps200
  go_wp2_with fail
  refine (isIn_any p [(0, 55295), (57344, 1114111)] _ _ _ rfl (by decide) (by simp) ?_).mono ?_
  · intro i hi
    match i, hi with
    | 0, _ => simp
    | 1, _ => simp
  rintro e w' ⟨rfl, hb⟩
  go_wp2
  go_ret
  exact ⟨ret_bool (pointB_spans p), ((Below.refl _ _).alloc (Nat.le_refl _) _).trans (hb.mono (by simp))⟩

theorem charB_spans (p : Int) (h : pointB p = true) : (inB p 9 10 || (inB p 32 126 || (inB p 128 65533 || inB p 65536 1114111))) = charB p := by
  rw [Bool.eq_iff_iff]
  simp [charB, h]
  simp [pointB, inB] at h ⊢
  omega

theorem charB_point (p : Int) (h : pointB p = false) : charB p = false := by
  simp [charB, h]
  simp [pointB, inB] at h
  constructor <;> (rintro rfl; simp at h)

theorem implIsChar_any (p : Int) (w : World) :
    Calls Tryz.prog 142 #[.int .i64 p] w fun e w' => e = .returned (.bool (charB p)) ∧ Below w.heap.size w w' := by
  cases h : pointB p
  · go_enter Tryz.func142, Tryz.ntmps142
    go_wp2_with fail
    refine (isPoint_any p _).mono ?_
    rintro e w1 ⟨rfl, hb⟩
    go_wp2
    go_ret
    exact ⟨ret_bool (charB_point p h).symm, hb⟩
  · go_enter Tryz.func142, Tryz.ntmps142
    go_wp2_with fail
    refine (isPoint_any p _).mono ?_
    rintro e w1 ⟨rfl, hb⟩
    go_wp2_with fail
    refine (isIn_any p [(9, 10), (32, 126), (128, 65533), (65536, 1114111)] _ _ _ rfl (by decide) (by simp) ?_).mono ?_
    · intro i hi
      match i, hi with
      | 0, _ => simp
      | 1, _ => simp
      | 2, _ => simp
      | 3, _ => simp
    rintro e w2 ⟨rfl, hb2⟩
    go_wp2
    go_ret
    exact ⟨ret_bool (charB_spans p h), (hb.alloc hb.size _).trans (hb2.mono (by have := hb.size; simp; omega))⟩

theorem specIsChar_any (p : Int) (w : World) :
    Calls Tryz.prog 183 #[.int .i64 p] w fun e w' => e = .returned (.bool (charB p)) ∧ w' = w := by
  cases hq : pointB p
  all_goals
    go_enter Tryz.func183, Tryz.ntmps183
    go_wp2_with (go_at_call 221; refine (l1Point_any _ _).mono ?_; rintro e w' ⟨rfl, rfl⟩)
    all_goals
      go_ret
      exact ⟨ret_bool (by rw [Bool.eq_iff_iff]; simp [charB, hq] <;> omega), rfl⟩
end Go.Proofs.YtcaknhoaoodbfaaGreatDoor
