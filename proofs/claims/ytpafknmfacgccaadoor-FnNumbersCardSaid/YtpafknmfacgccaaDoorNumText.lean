/- spec.NumberText. -/
import Derived.Test.YtpafknmfacgccaaDoorDigits
import Derived.Test.YtpafknmfacgccaaDoorTxt
namespace Go.Proofs.YtpafknmfacgccaaDoor
open Go.ChangeShapes Go.WideShapes Go.ChangeAt Go.RowKit
set_option linter.unusedVariables false

def numCode (n : Int) : Int := if inB n (-999) 999 then 0 else 3
def numText (n : Int) : ByteArray := if inB n (-999) 999 then numT n else ByteArray.empty
theorem specNumberText_any (n : Int) (w : World) : Calls Tryd.prog 12 #[.int .i64 n] w (TxtRes w (numCode n) (numText n)) := by
  unfold numCode numText
  cases h : inB n (-999) 999
  · go_enter Tryd.func12, Tryd.ntmps12
    go_wp2_with fail
    refine (l1In_any _ _ _ _).mono ?_
    rw [h]
    rintro e w1 ⟨rfl, rfl⟩
    go_wp2
    exact bodyPost_ret (v := .agg #[.int .i64 3, .string _]) (by simp [results, Tryd.results12, go_sem]; rfl) rfl ⟨rfl, below1 w _⟩
  · have hb : -999 ≤ n ∧ n ≤ 999 := by simpa [inB] using h
    have K := Lib.hid (l7Number_any n (by omega) (by omega))
    unfold TextB at K
    generalize numT n = t at K ⊢
    go_enter Tryd.func12, Tryd.ntmps12
    go_wp2_with fail
    refine (l1In_any _ _ _ _).mono ?_
    rw [h]
    rintro e w1 ⟨rfl, rfl⟩
    go_wp2_with fail
    refine (K.out _).mono ?_
    rintro e w1 ⟨rfl, hb⟩
    obtain ⟨hc, hf⟩ := bcell hb
    have HB := Lib.hid hb
    have hz := hb.size
    simp at hz
    clear hb
    go_wp2
    exact bodyPost_ret (v := .agg #[.int .i64 0, .string t]) (by simp [results, Tryd.results12, go_sem, hc]) rfl ⟨rfl, (((below1 w _).trans (HB.out.mono (by simp))).setCell (by simp) _).setCell (by simp) _⟩
end Go.Proofs.YtpafknmfacgccaaDoor
