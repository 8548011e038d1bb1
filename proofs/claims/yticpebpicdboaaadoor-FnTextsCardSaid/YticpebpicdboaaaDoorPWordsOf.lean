/- The program's WordsOf. -/
import Derived.Test.YticpebpicdboaaaDoorFieldsW
import Derived.Test.YticpebpicdboaaaDoorTextsO
import Derived.Test.YticpebpicdboaaaDoorShelf
namespace Go.Proofs.YticpebpicdboaaaDoor
open Go.ChangeShapes Go.WideShapes Go.ChangeAt Go.RowKit
set_option linter.unusedVariables false

theorem isBlank_pred (w : World) : PredAt Tryd.prog 27 #[] encR (fun r => decide (r = 32)) w := fun W r _ => by
  unfold FnGives encR
  go_enter Tryd.func27, Tryd.ntmps27
  go_wp2
  go_ret
  refine ⟨congrArg (fun b => Ending.returned (Value.bool b)) ?_, 0, rfl⟩
  by_cases h : r = 32
  · subst h; rfl
  · rw [decide_eq_false h]; simp; omega
theorem fieldsBlank_any (s : ByteArray) (hs : s.size ≤ 1048576) (w : World) :
    Calls Tryd.prog 26 #[.string s, .func (.func 27) #[] #[]] w fun e w' => ∃ b n, e = .returned (.slice (some ⟨b, 0, none⟩) n n) ∧
      w'.ownsRow w.heap.size 9 1 (.slice (some ⟨b, 0, none⟩) n n) n ((wordsT s).map Value.string) ∧ Below w.heap.size w w' := by
  have K := Tryd.strings_FieldsFunc 27 #[] (enters_of Tryd.func27 (by kernel_rfl) rfl) (fun r => decide (r = 32)) s w (by omega) (isBlank_pred w)
  rw [fields_words] at K
  exact K.mono fun e w' ⟨b, he, _, ho, hb⟩ => ⟨b, _, he, ho, hb⟩
set_option maxHeartbeats 1600000 in
theorem implWordsOf_any (s : ByteArray) (hs : s.size ≤ 1048576) (w : World) :
    Calls Tryd.prog 11 #[.string s] w (TextsRes w (wordsCode s) (wordsOf s)) := by
  unfold TextsRes
  by_cases hn : 3000 < s.size
  · have e1 : wordsCode s = 2 := by unfold wordsCode; rw [if_pos hn]
    have e2 : wordsOf s = [] := by unfold wordsOf; rw [if_pos hn]
    rw [e1, e2]
    clear e1 e2
    go_enter Tryd.func11, Tryd.ntmps11
    go_wp2
    exact bodyPost_ret (v := .agg #[.int .i64 2, .slice none 0 0]) (by simp [results, Tryd.results11, go_sem]) rfl
      ⟨none, 0, 0, rfl, World.ownsRow_nil _ _ _ _, below1 w _⟩
  · have e1 : wordsCode s = 0 := by unfold wordsCode; rw [if_neg hn]
    have e2 : wordsOf s = wordsT s := by unfold wordsOf; rw [if_neg hn]
    have K := Lib.hid (fieldsBlank_any s hs)
    rw [e1, e2]
    generalize wordsT s = T at K ⊢
    clear e1 e2
    go_enter Tryd.func11, Tryd.ntmps11
    go_wp2_with fail
    refine (K.out _).mono ?_
    rintro e w1 ⟨b, n, rfl, ho, hb⟩
    obtain ⟨hc, hf⟩ := bcell hb
    have HO := Lib.hid ho
    have HB := Lib.hid hb
    have hz := hb.size
    simp at hz
    clear hb ho
    go_wp2
    exact bodyPost_ret (v := .agg #[.int .i64 0, .slice (some ⟨b, 0, none⟩) n n]) (by simp [results, Tryd.results11, go_sem, hc]) rfl
      ⟨_, _, _, rfl, owns_mono (owns_set_below (owns_set_below HO.out _ (by simp) _) _ (by simp) _) (by simp), (((below1 w _).trans (HB.out.mono (by simp))).setCell (by simp) _).setCell (by simp) _⟩
end Go.Proofs.YticpebpicdboaaaDoor
