/- The model's ShareText. -/
import Derived.Test.YtppgdbejbhhjlaaDoorShare8
import Derived.Test.YtppgdbejbhhjlaaDoorTxtP
namespace Go.Proofs.YtppgdbejbhhjlaaDoor
open Go.ChangeShapes Go.WideShapes Go.ChangeAt Go.RowKit
set_option linter.unusedVariables false

set_option maxHeartbeats 800000 in
theorem specShareText_any (n : Int) (w : World) : Calls Tryd.prog 14 #[.int .i64 n] w (TxtRes w (shareCode n) (shareText n)) := by
  unfold shareCode shareText
  cases h : inB n 0 1000
  · go_enter Tryd.func14, Tryd.ntmps14
    go_wp2_with fail
    refine (l1In_any _ _ _ _).mono ?_
    rw [h]
    rintro e w1 ⟨rfl, rfl⟩
    go_wp2
    exact bodyPost_ret (v := .agg #[.int .i64 3, .string _]) (by simp [results, Tryd.results14, go_sem]; rfl) rfl ⟨rfl, below1 w _⟩
  · have hb : 0 ≤ n ∧ n ≤ 1000 := by simpa [inB] using h
    have K := Lib.hid (l8Share_any n.toNat (by omega))
    rw [show ((n.toNat : Nat) : Int) = n by omega] at K
    unfold TextB at K
    generalize shareT n.toNat = t at K ⊢
    go_enter Tryd.func14, Tryd.ntmps14
    go_wp2_with fail
    refine (l1In_any _ _ _ _).mono ?_
    rw [h]
    rintro e w1 ⟨rfl, rfl⟩
    go_wp2_with fail
    refine (K.out _).mono ?_
    rintro e w1 ⟨rfl, hb⟩
    obtain ⟨hc, hf⟩ := bcell hb
    have HB := Lib.hid hb
    have hz := hb.size
    simp at hz
    clear hb
    go_wp2
    exact bodyPost_ret (v := .agg #[.int .i64 0, .string t]) (by simp [results, Tryd.results14, go_sem, hc]) rfl ⟨rfl, (((below1 w _).trans (HB.out.mono (by simp))).setCell (by simp) _).setCell (by simp) _⟩
end Go.Proofs.YtppgdbejbhhjlaaDoor
