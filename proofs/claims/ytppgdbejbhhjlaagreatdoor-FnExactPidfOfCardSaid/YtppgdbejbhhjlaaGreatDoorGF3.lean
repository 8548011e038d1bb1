/- IsKey on both sides. -/
import Derived.Test.YtppgdbejbhhjlaaGreatDoorGF2
namespace Go.Proofs.YtppgdbejbhhjlaaGreatDoor
open Go.ChangeShapes Go.WideShapes Go.ChangeAt Go.RowKit
set_option linter.unusedVariables false

/-- what a key is -/
def isKeyL (s : ByteArray) : Bool := (isNameL s.data.toList && !(s.toList == [120, 109, 108, 110, 115])) || (s.toList == [120, 109, 108, 58, 108, 97, 110, 103])

set_option maxHeartbeats 400000 in
theorem specIsKey_any (s : ByteArray) (hs : s.size ≤ maxLen) (w : World) :
    Calls Tryz.prog 192 #[.string s] w fun e w' => e = .returned (.bool (isKeyL s)) ∧ w' = w := by
  go_enter Tryz.func192, Tryz.ntmps192
  go_wp2_with fail
  refine (specIsName_any s hs _).mono ?_
  rintro e w' ⟨rfl, rfl⟩
  go_wp2
  all_goals
    go_ret
    exact ⟨ret_bool (by unfold isKeyL; simp_all), rfl⟩

theorem isKeyL_lang (s : ByteArray) (h : s.toList = [120, 109, 108, 58, 108, 97, 110, 103]) : isKeyL s = true := by simp [isKeyL, h]
theorem isKeyL_name (s : ByteArray) (h : ¬ s.toList = [120, 109, 108, 58, 108, 97, 110, 103]) (h2 : isNameL s.data.toList = false) : isKeyL s = false := by simp [isKeyL, h, h2]

set_option maxHeartbeats 800000 in
theorem implIsKey_any (s : ByteArray) (hs : s.size ≤ maxLen) (w : World) :
    Calls Tryz.prog 245 #[.string s] w fun e w' => e = .returned (.bool (isKeyL s)) ∧ Below w.heap.size w w' := by
  by_cases h : s.toList = [120, 109, 108, 58, 108, 97, 110, 103]
  · have HK := Lib.hid (isKeyL_lang s h)
    go_enter Tryz.func245, Tryz.ntmps245
    go_wp2
    go_ret
    exact ⟨ret_bool (by rw [HK.out]), Below.refl _ _⟩
  · have HH := Lib.hid h
    go_enter Tryz.func245, Tryz.ntmps245
    go_wp2_with (go_at_call 263; refine (implIsName_any s hs _).mono ?_; rintro e w1 ⟨rfl, hb⟩)
    all_goals
      go_ret
      exact ⟨ret_bool (by unfold isKeyL; simp_all <;> rw [Bool.or_comm]), hb⟩
end Go.Proofs.YtppgdbejbhhjlaaGreatDoor

/- Contracts of the characters' classes. -/
namespace Go.Proofs.YtppgdbejbhhjlaaGreatDoor
open Go.ChangeShapes Go.WideShapes Go.ChangeAt Go.RowKit
set_option linter.unusedVariables false

def pointB (p : Int) : Bool := inB p 0 1114111 && !inB p 55296 57343
def charB (p : Int) : Bool := decide (p = 9) || decide (p = 10) || (decide (32 ≤ p) && pointB p && decide (p ≠ 127) && decide (p ≠ 65534) && decide (p ≠ 65535))

theorem l1Point_any (p : Int) (w : World) :
    Calls Tryz.prog 222 #[.int .i64 p] w fun e w' => e = .returned (.bool (pointB p)) ∧ w' = w := by
  cases h : inB p 0 1114111
  all_goals
    go_enter Tryz.func222, Tryz.ntmps222
    go_wp2_with (go_at_call 78; refine (l1In_any _ _ _ _).mono ?_; rintro e w' ⟨rfl, rfl⟩)
    go_ret
    exact ⟨ret_bool (by simp [pointB, h]), rfl⟩

theorem pointB_spans (p : Int) : (inB p 0 55295 || inB p 57344 1114111) = pointB p := by
  rw [Bool.eq_iff_iff]
  simp [pointB, inB]
  omega

theorem isPoint_any (p : Int) (w : World) :
    Calls Tryz.prog 195 #[.int .i64 p] w fun e w' => e = .returned (.bool (pointB p)) ∧ Below w.heap.size w w' := by
  go_enter Tryz.func195, Tryz.ntmps195
  go_wp2_with fail
  refine (isIn_any p [(0, 55295), (57344, 1114111)] _ _ _ rfl (by decide) (by simp) ?_).mono ?_
  · intro i hi
    match i, hi with
    | 0, _ => simp
    | 1, _ => simp
  rintro e w' ⟨rfl, hb⟩
  go_wp2
  go_ret
  exact ⟨ret_bool (pointB_spans p), ((Below.refl _ _).alloc (Nat.le_refl _) _).trans (hb.mono (by simp))⟩

theorem charB_spans (p : Int) (h : pointB p = true) : (inB p 9 10 || (inB p 32 126 || (inB p 128 65533 || inB p 65536 1114111))) = charB p := by
  rw [Bool.eq_iff_iff]
  simp [charB, h]
  simp [pointB, inB] at h ⊢
  omega

theorem charB_point (p : Int) (h : pointB p = false) : charB p = false := by
  simp [charB, h]
  simp [pointB, inB] at h
  constructor <;> (rintro rfl; simp at h)

theorem implIsChar_any (p : Int) (w : World) :
    Calls Tryz.prog 140 #[.int .i64 p] w fun e w' => e = .returned (.bool (charB p)) ∧ Below w.heap.size w w' := by
  cases h : pointB p
  · go_enter Tryz.func140, Tryz.ntmps140
    go_wp2_with fail
    refine (isPoint_any p _).mono ?_
    rintro e w1 ⟨rfl, hb⟩
    go_wp2
    go_ret
    exact ⟨ret_bool (charB_point p h).symm, hb⟩
  · go_enter Tryz.func140, Tryz.ntmps140
    go_wp2_with fail
    refine (isPoint_any p _).mono ?_
    rintro e w1 ⟨rfl, hb⟩
    go_wp2_with fail
    refine (isIn_any p [(9, 10), (32, 126), (128, 65533), (65536, 1114111)] _ _ _ rfl (by decide) (by simp) ?_).mono ?_
    · intro i hi
      match i, hi with
      | 0, _ => simp
      | 1, _ => simp
      | 2, _ => simp
      | 3, _ => simp
    rintro e w2 ⟨rfl, hb2⟩
    go_wp2
    go_ret
    exact ⟨ret_bool (charB_spans p h), (hb.alloc hb.size _).trans (hb2.mono (by have := hb.size; simp; omega))⟩

theorem specIsChar_any (p : Int) (w : World) :
    Calls Tryz.prog 176 #[.int .i64 p] w fun e w' => e = .returned (.bool (charB p)) ∧ w' = w := by
  cases hq : pointB p
  all_goals
    go_enter Tryz.func176, Tryz.ntmps176
    go_wp2_with (go_at_call 222; refine (l1Point_any _ _).mono ?_; rintro e w' ⟨rfl, rfl⟩)
    all_goals
      go_ret
      exact ⟨ret_bool (by rw [Bool.eq_iff_iff]; simp [charB, hq] <;> omega), rfl⟩
end Go.Proofs.YtppgdbejbhhjlaaGreatDoor
