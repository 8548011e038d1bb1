/- A code and a row of texts; the model's WordsOf. -/
import Derived.Test.YticpebpicdboaaaDoorWordsOf
namespace Go.Proofs.YticpebpicdboaaaDoor
open Go.ChangeShapes Go.WideShapes Go.ChangeAt Go.RowKit
set_option linter.unusedVariables false

/-- a struct of a code and a new row of texts is handed back -/
def TextsRes (w : World) (cd : Int) (ts : List ByteArray) (en : Ending) (w' : World) : Prop :=
  ∃ a n c, en = .returned (.agg #[.int .i64 cd, .slice a n c]) ∧ w'.ownsRow w.heap.size 9 1 (.slice a n c) n (ts.map Value.string) ∧ Below w.heap.size w w'

/-- the code and the words of WordsOf -/
def wordsCode (s : ByteArray) : Int := if 3000 < s.size then 2 else 0
def wordsOf (s : ByteArray) : List ByteArray := if 3000 < s.size then [] else wordsT s
theorem wordsOf_length (s : ByteArray) : (wordsOf s).length ≤ 3001 := by
  unfold wordsOf wordsT
  split
  · simp
  · have h1 := List.length_filter_le (fun p : ByteArray => !(p.toList.isEmpty)) (cutT s 32)
    have h2 := cutT_length s 32
    omega
set_option maxHeartbeats 1600000 in
theorem specWordsOf_any (s : ByteArray) (hs : s.size ≤ 1048576) (w : World) :
    Calls Tryd.prog 14 #[.string s] w (TextsRes w (wordsCode s) (wordsOf s)) := by
  unfold TextsRes
  by_cases hn : 3000 < s.size
  · have e1 : wordsCode s = 2 := by unfold wordsCode; rw [if_pos hn]
    have e2 : wordsOf s = [] := by unfold wordsOf; rw [if_pos hn]
    rw [e1, e2]
    clear e1 e2
    go_enter Tryd.func14, Tryd.ntmps14
    go_wp2
    exact bodyPost_ret (v := .agg #[.int .i64 2, .slice none 0 0]) (by simp [results, Tryd.results14, go_sem]) rfl
      ⟨none, 0, 0, rfl, World.ownsRow_nil _ _ _ _, below1 w _⟩
  · have e1 : wordsCode s = 0 := by unfold wordsCode; rw [if_neg hn]
    have e2 : wordsOf s = wordsT s := by unfold wordsOf; rw [if_neg hn]
    have K := Lib.hid (l11Words_any s hs)
    unfold OwnsStr at K
    rw [e1, e2]
    generalize wordsT s = T at K ⊢
    clear e1 e2
    go_enter Tryd.func14, Tryd.ntmps14
    go_wp2_with fail
    refine (K.out _).mono ?_
    rintro e w1 ⟨a, c, rfl, ho, hb⟩
    obtain ⟨hc, hf⟩ := bcell hb
    have HO := Lib.hid ho
    have HB := Lib.hid hb
    have hz := hb.size
    simp at hz
    clear hb ho
    go_wp2
    exact bodyPost_ret (v := .agg #[.int .i64 0, .slice a T.length c]) (by simp [results, Tryd.results14, go_sem, hc]) rfl
      ⟨a, T.length, c, rfl, owns_mono (owns_set_below (owns_set_below HO.out _ (by simp) _) _ (by simp) _) (by simp), (((below1 w _).trans (HB.out.mono (by simp))).setCell (by simp) _).setCell (by simp) _⟩

end Go.Proofs.YticpebpicdboaaaDoor
