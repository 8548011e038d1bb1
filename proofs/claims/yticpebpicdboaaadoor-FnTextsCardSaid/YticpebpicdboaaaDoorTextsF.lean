/- Plain facts for FnTexts; draws and contracts as it wants them. -/
import Derived.Test.YticpebpicdboaaaDoorPRestOf
import Derived.Test.YticpebpicdboaaaDoorPHexText
import Derived.Test.YticpebpicdboaaaDoorDrawScr
namespace Go.Proofs.YticpebpicdboaaaDoor
open Go.ChangeShapes Go.WideShapes Go.ChangeAt Go.RowKit
set_option linter.unusedVariables false

theorem hex_len (n : Nat) (xs : List Int) (h : xs.length = n) : hexCode n ≠ 0 ∨ (hexText n xs).size = 2 * n := by
  unfold hexCode hexText
  by_cases hn : 3000 < n
  · rw [if_pos hn]; exact .inl (by decide)
  · rw [if_neg hn, if_neg hn, strOfNums_size, hexL_len, h]
    exact .inr rfl
theorem rest_tail (s : ByteArray) : restCode s ≠ 0 ∨ ((restText s).size < s.size ∧ s.extract (s.size - (restText s).size) s.size = restText s) := by
  unfold restCode restText
  by_cases hn : 3000 < s.size
  · rw [if_pos hn]; exact .inl (by decide)
  · rw [if_neg hn, if_neg hn]
    by_cases hw : wordAt s.data.toList < s.size
    · rw [if_pos hw, if_pos hw]
      right
      have hl : s.data.toList.length = s.size := by simp
      have h1 : wordAt s.data.toList < wordEnd s.data.toList := by
        by_cases h0 : wordEnd s.data.toList < s.data.toList.length
        · have e1 := wordEnd_at h0
          have e2 := wordAt_at (l := s.data.toList) (by omega)
          have e3 : wordAt s.data.toList ≤ wordEnd s.data.toList := by unfold wordEnd; omega
          rcases Nat.lt_or_ge (wordAt s.data.toList) (wordEnd s.data.toList) with h | h
          · exact h
          · have e4 : wordEnd s.data.toList = wordAt s.data.toList := by omega
            simp only [e4] at e1
            exact absurd e1 e2
        · omega
      have h2 := wordEnd_le s.data.toList (by omega)
      have h3 : restAt s.data.toList ≤ s.size ∧ 0 < restAt s.data.toList := by
        unfold restAt
        split <;> omega
      have h4 : (restT s).size = s.size - restAt s.data.toList := by
        unfold restT
        rw [ByteArray.size_extract]
        omega
      refine ⟨by omega, ?_⟩
      rw [h4, show s.size - (s.size - restAt s.data.toList) = restAt s.data.toList by omega]
      rfl
    · rw [if_neg hw]; exact .inl (by decide)
/-- WordsOf's answer, with the number of words told -/
def TextsN (w : World) (cd : Int) (ts : List ByteArray) (N : Nat) (en : Ending) (w' : World) : Prop :=
  ∃ a c, en = .returned (.agg #[.int .i64 cd, .slice a N c]) ∧ w'.ownsRow w.heap.size 9 1 (.slice a N c) N (ts.map Value.string) ∧ Below w.heap.size w w'
theorem texts_n {w : World} {cd : Int} {ts : List ByteArray} {en : Ending} {w' : World} (h : TextsRes w cd ts en w') : TextsN w cd ts ts.length en w' := by
  obtain ⟨a, n, c, he, ho, hb⟩ := h
  obtain rfl := ownsS_length ho
  exact ⟨a, c, he, ho, hb⟩
theorem drawHexText_any (a : Option Addr) (n c : Nat) (xs : List Int) (w : World) (h : CodeAt w a n c xs) :
    Calls Tryd.prog 6 #[.slice a n c] w (TopRow w 3001) := by
  have HC := Lib.hid h
  clear h
  unfold TopRow
  go_enter Tryd.func6, Tryd.ntmps6
  go_wp2_with fail
  refine (drawBase64Of_any a n c xs w HC.out).mono ?_
  rintro e w2 ⟨g, m, q, ys, rfl, ho, hm, hy, hb⟩
  have HO := Lib.hid ho
  have HB := Lib.hid hb
  have HY := Lib.hid hy
  clear ho hb hy
  go_wp2
  go_ret
  exact ⟨g, m, q, ys, rfl, HO.out, hm, HY.out, HB.out⟩
end Go.Proofs.YticpebpicdboaaaDoor
