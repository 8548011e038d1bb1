/- The model's NumberOf. -/
import Derived.Test.YtpafknmfacgccaaDoorNumOf
import Derived.Test.YtpafknmfacgccaaDoorIres
namespace Go.Proofs.YtpafknmfacgccaaDoor
open Go.ChangeShapes Go.WideShapes Go.ChangeAt Go.RowKit
set_option linter.unusedVariables false
def numOfCode (l : List UInt8) : Int := if (numOf l).isSome then 0 else 5
def numOfVal (l : List UInt8) : Int := (numOf l).getD 0
theorem numOf_is {l : List UInt8} {m : Int} {b : Bool} (h : numOf l = if b then some m else none) : numOfCode l = (if b then 0 else 5) ∧ numOfVal l = (if b then m else 0) := by
  unfold numOfCode numOfVal
  rw [h]
  cases b <;> exact ⟨rfl, rfl⟩
set_option maxHeartbeats 800000 in
theorem specNumberOf_any (s : ByteArray) (hs : s.size ≤ maxLen) (w : World) : Calls Tryd.prog 13 #[.string s] w (Res2 w (numOfCode s.data.toList) (numOfVal s.data.toList)) := by
  have K := Lib.hid (l7Read_any s hs)
  unfold ReadN at K
  generalize hcd : numOfCode s.data.toList = cd
  generalize hvx : numOfVal s.data.toList = vx
  have HC := Lib.hid hcd
  have HX := Lib.hid hvx
  clear hcd hvx
  go_enter Tryd.func13, Tryd.ntmps13
  go_wp2_with fail
  refine (K.out _).mono ?_
  rintro e w1 ⟨m, b, rfl, ho, hb⟩
  obtain ⟨e1, e2⟩ := numOf_is ho
  have E := Lib.hid (And.intro (HC.out.symm.trans e1) (HX.out.symm.trans e2))
  obtain ⟨hc, hf⟩ := bcell hb
  have HB := Lib.hid hb
  have hz := hb.size
  simp at hz
  clear hb ho e1 e2
  cases b
  · go_wp2
    exact bodyPost_ret (v := .agg #[.int .i64 5, .int .i64 0]) (by simp [results, Tryd.results13, go_sem, hc]) rfl ⟨by rw [E.out.1, E.out.2]; rfl, (((below1 w _).trans (HB.out.mono (by simp))).setCell (by simp) _).setCell (by simp) _⟩
  · go_wp2
    exact bodyPost_ret (v := .agg #[.int .i64 0, .int .i64 m]) (by simp [results, Tryd.results13, go_sem, hc]) rfl ⟨by rw [E.out.1, E.out.2]; rfl, (((below1 w _).trans (HB.out.mono (by simp))).setCell (by simp) _).setCell (by simp) _⟩
end Go.Proofs.YtpafknmfacgccaaDoor
