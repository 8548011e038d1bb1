/- The words of kinds and shows: the model's KindWord, ShowWord. -/
import Derived.Test.YtpafknmfacgccaaIsIn
import Derived.Test.YtpafknmfacgccaaTxt
import Derived.Test.YtpafknmfacgccaaKinds
namespace Go.Proofs.Ytpafknmfacgccaa
open Go.ChangeShapes Go.WideShapes Go.ChangeAt Go.RowKit
set_option linter.unusedVariables false

/-- the code and the text of a word -/
def kindC (k : Int) : Int := if inB k 0 6 then 0 else 3
def kindT (k : Int) : ByteArray := if inB k 0 6 then kindW k else ByteArray.empty

set_option maxHeartbeats 1600000 in
theorem specKindWord_any (k : Int) (w : World) : Calls Try.prog 7 #[.int .i64 k] w (TxtRes w (kindC k) (kindT k)) := by
  by_cases h : 0 ≤ k ∧ k ≤ 6
  · have hin : inB k 0 6 = true := by simp [inB]; omega
    have hc : k = 0 ∨ k = 1 ∨ k = 2 ∨ k = 3 ∨ k = 4 ∨ k = 5 ∨ k = 6 := by omega
    rcases hc with rfl | rfl | rfl | rfl | rfl | rfl | rfl
    all_goals
      go_enter Try.func7, Try.ntmps7
      go_wp2_with fail
      refine (l1In_any _ _ _ _).mono ?_
      rintro e w1 ⟨rfl, rfl⟩
      go_wp2_with fail
      refine (l7Kinds_any _).mono ?_
      rintro e w1 ⟨rfl, hz, hb, c0, c1, c2, c3, c4, c5, c6⟩
      obtain ⟨hc, hf⟩ := bcell hb
      have HB := Lib.hid hb
      simp at hz c0 c1 c2 c3 c4 c5 c6
      clear hb
      go_wp2
      exact bodyPost_ret (v := .agg #[.int .i64 0, .string _]) (by simp [results, Try.results7, go_sem, hc]; rfl) rfl ⟨rfl, (((below1 w _).trans (HB.out.mono (by simp))).setCell (by simp) _).setCell (by simp) _⟩
  · have hin : inB k 0 6 = false := by simp [inB]; omega
    unfold kindC kindT
    rw [hin]
    go_enter Try.func7, Try.ntmps7
    go_wp2_with fail
    refine (l1In_any _ _ _ _).mono ?_
    rintro e w1 ⟨rfl, rfl⟩
    rw [hin]
    go_wp2
    exact bodyPost_ret (v := .agg #[.int .i64 3, .string _]) (by simp [results, Try.results7, go_sem]; rfl) rfl ⟨rfl, below1 w _⟩

/-- the code and the text of a word -/
def showC (k : Int) : Int := if inB k 0 4 then 0 else 3
def showT (k : Int) : ByteArray := if inB k 0 4 then showW k else ByteArray.empty

set_option maxHeartbeats 1600000 in
theorem specShowWord_any (k : Int) (w : World) : Calls Try.prog 20 #[.int .i64 k] w (TxtRes w (showC k) (showT k)) := by
  by_cases h : 0 ≤ k ∧ k ≤ 4
  · have hin : inB k 0 4 = true := by simp [inB]; omega
    have hc : k = 0 ∨ k = 1 ∨ k = 2 ∨ k = 3 ∨ k = 4 := by omega
    rcases hc with rfl | rfl | rfl | rfl | rfl
    all_goals
      go_enter Try.func20, Try.ntmps20
      go_wp2_with fail
      refine (l1In_any _ _ _ _).mono ?_
      rintro e w1 ⟨rfl, rfl⟩
      go_wp2_with fail
      refine (l7Shows_any _).mono ?_
      rintro e w1 ⟨rfl, hz, hb, c0, c1, c2, c3, c4⟩
      obtain ⟨hc, hf⟩ := bcell hb
      have HB := Lib.hid hb
      simp at hz c0 c1 c2 c3 c4
      clear hb
      go_wp2
      exact bodyPost_ret (v := .agg #[.int .i64 0, .string _]) (by simp [results, Try.results20, go_sem, hc]; rfl) rfl ⟨rfl, (((below1 w _).trans (HB.out.mono (by simp))).setCell (by simp) _).setCell (by simp) _⟩
  · have hin : inB k 0 4 = false := by simp [inB]; omega
    unfold showC showT
    rw [hin]
    go_enter Try.func20, Try.ntmps20
    go_wp2_with fail
    refine (l1In_any _ _ _ _).mono ?_
    rintro e w1 ⟨rfl, rfl⟩
    rw [hin]
    go_wp2
    exact bodyPost_ret (v := .agg #[.int .i64 3, .string _]) (by simp [results, Try.results20, go_sem]; rfl) rfl ⟨rfl, below1 w _⟩
end Go.Proofs.Ytpafknmfacgccaa
