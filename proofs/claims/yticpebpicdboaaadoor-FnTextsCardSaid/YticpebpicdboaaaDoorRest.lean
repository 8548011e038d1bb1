/- What is behind the first word: the model's l11Rest, RestOf. -/
import Derived.Test.YticpebpicdboaaaDoorWordsOf
import Derived.Lib.IndexBytes
namespace Go.Proofs.YticpebpicdboaaaDoor
open Go.ChangeShapes Go.WideShapes Go.ChangeAt Go.RowKit
set_option linter.unusedVariables false

/-- where the first word begins -/
def wordAt (l : List UInt8) : Nat := l.findIdx fun c => !(c == 32)
/-- where it ends -/
def wordEnd (l : List UInt8) : Nat := wordAt l + (l.drop (wordAt l)).findIdx fun c => c == 32
def restAt (l : List UInt8) : Nat := if wordEnd l < l.length then wordEnd l + 1 else wordEnd l
def restT (s : ByteArray) : ByteArray := s.extract (restAt s.data.toList) s.size
theorem wordAt_lt {l : List UInt8} {j : Nat} (h : j < wordAt l) (hj : j < l.length) : l[j] = 32 := by
  have := List.not_of_lt_findIdx h
  simpa using this
theorem wordAt_at {l : List UInt8} (h : wordAt l < l.length) : l[wordAt l] ≠ 32 := by
  have := List.findIdx_getElem (xs := l) (p := fun c => !(c == 32)) (w := h)
  show ¬ (l[l.findIdx fun c => !(c == 32)]'h = 32)
  simpa using this
theorem wordEnd_le (l : List UInt8) (h : wordAt l < l.length) : wordEnd l ≤ l.length := by
  unfold wordEnd
  have := List.findIdx_le_length (xs := l.drop (wordAt l)) (p := fun c => c == 32)
  rw [List.length_drop] at this
  omega
theorem wordEnd_lt {l : List UInt8} {j : Nat} (h0 : wordAt l ≤ j) (h : j < wordEnd l) (hj : j < l.length) : l[j] ≠ 32 := by
  unfold wordEnd at h
  have := List.not_of_lt_findIdx (xs := l.drop (wordAt l)) (p := fun c => c == 32) (i := j - wordAt l) (by omega)
  rw [List.getElem_drop] at this
  simp only [show wordAt l + (j - wordAt l) = j by omega] at this
  simpa using this
theorem wordEnd_at {l : List UInt8} (h : wordEnd l < l.length) : l[wordEnd l] = 32 := by
  have h1 : (l.drop (wordAt l)).findIdx (fun c => c == 32) < (l.drop (wordAt l)).length := by
    unfold wordEnd at h
    rw [List.length_drop]
    omega
  have := List.findIdx_getElem (xs := l.drop (wordAt l)) (p := fun c => c == 32) (w := h1)
  rw [List.getElem_drop] at this
  exact beq_iff_eq.1 this

theorem extract_none (s : ByteArray) : s.extract s.size s.size = ByteArray.empty := by
  apply ByteArray.ext
  simp
set_option maxHeartbeats 1600000 in
theorem l11Rest_any (s : ByteArray) (hs : s.size ≤ 1048576) (hw : wordAt s.data.toList < s.size) (w : World) :
    Calls Tryd.prog 30 #[.string s] w fun e w' => e = .returned (.string (restT s)) ∧ w' = w := by
  have hl : s.data.toList.length = s.size := by simp
  have a1 : ∀ j, j < wordAt s.data.toList → ∀ hj : j < s.size, s[j] = 32 := fun j h hj => wordAt_lt h (by rw [hl]; exact hj)
  have a2 : s[wordAt s.data.toList] ≠ 32 := wordAt_at (by rw [hl]; exact hw)
  have b0 := wordEnd_le s.data.toList (by rw [hl]; exact hw)
  have b1 : ∀ j, wordAt s.data.toList ≤ j → j < wordEnd s.data.toList → ∀ hj : j < s.size, s[j] ≠ 32 := fun j h0 h hj => wordEnd_lt h0 h (by rw [hl]; exact hj)
  have b2 : ∀ h : wordEnd s.data.toList < s.size, s[wordEnd s.data.toList] = 32 := fun h => wordEnd_at (by rw [hl]; exact h)
  have b3 : wordAt s.data.toList ≤ wordEnd s.data.toList := by unfold wordEnd; omega
  have hr : restT s = s.extract (if wordEnd s.data.toList < s.size then wordEnd s.data.toList + 1 else wordEnd s.data.toList) s.size := by unfold restT restAt; rw [hl]
  rw [hl] at b0
  generalize restT s = R at hr ⊢
  have A1 := Lib.hid a1
  have A2 := Lib.hid a2
  generalize wordAt s.data.toList = a at *
  have B1 := Lib.hid b1
  have B2 := Lib.hid b2
  generalize wordEnd s.data.toList = b at *
  have HR := Lib.hid hr
  clear hl a1 a2 b1 b2 hr
  go_enter Tryd.func30, Tryd.ntmps30
  go_wp2
  go_loop [3] (fun i => ∃ k : Nat, k ≤ a ∧ i = .int .i64 k) (fun i => a - (intOf i).toNat)
  case atStart => exact ⟨0, Nat.zero_le _, rfl⟩
  case round =>
    obtain ⟨k, hk, rfl⟩ := hrel
    by_cases hka : k < a
    · have hb : ((s[k].toNat : Int) == 32) = true := by rw [A1.out k hka (by omega)]; rfl
      go_wp2
      go_round
      case rel => exact ⟨k + 1, by omega, by go_num⟩
      case measure => simp [intOf]; omega
    · obtain rfl : k = a := by omega
      have hb : ((s[k].toNat : Int) == 32) = false := by rw [beq_eq_false_iff_ne]; intro e; exact A2.out (UInt8.toNat_inj.1 (by simpa using (by omega : s[k].toNat = 32)))
      go_wp2
      go_loop [3] (fun i => ∃ j : Nat, k ≤ j ∧ j ≤ b ∧ i = .int .i64 j) (fun i => b - (intOf i).toNat)
      case atStart => exact ⟨k, Nat.le_refl _, b3, rfl⟩
      case round =>
        obtain ⟨j, hj0, hj, rfl⟩ := hrel
        clear hb
        by_cases hjb : j < b
        · have hb2 : ((s[j].toNat : Int) == 32) = false := by rw [beq_eq_false_iff_ne]; intro e; exact B1.out j hj0 hjb (by omega) (UInt8.toNat_inj.1 (by simpa using (by omega : s[j].toNat = 32)))
          have hb3 : ((s[j].toNat : Int) != 32) = true := by rw [bne_iff_ne]; rw [beq_eq_false_iff_ne] at hb2; exact hb2
          have hjs : (j : Int) < (s.size : Int) := by omega
          go_wp2
          go_round
          case rel => exact ⟨j + 1, by omega, by omega, by go_num⟩
          case measure => simp [intOf]; omega
        · obtain rfl : j = b := by omega
          by_cases hjs : j < s.size
          · have hb2 : ((s[j].toNat : Int) == 32) = true := by rw [B2.out hjs]; rfl
            have hb3 : ((s[j].toNat : Int) != 32) = false := by rw [B2.out hjs]; rfl
            have hR := HR.out
            rw [if_pos hjs] at hR
            have HR2 := Lib.hid hR
            clear hR
            go_wp2
            go_ret
            exact ⟨by rw [HR2.out]; rfl, rfl⟩
          · obtain rfl : j = s.size := by omega
            have hR := HR.out
            rw [if_neg hjs] at hR
            have HR2 := Lib.hid hR
            clear hR
            go_wp2
            go_ret
            exact ⟨by rw [HR2.out, extract_none]; rfl, rfl⟩

/-! A line has words if some byte is no blank. -/
theorem empty_extract (s : ByteArray) (f k : Nat) (hf : f ≤ k) (hk : k ≤ s.size) : (s.extract f k).toList.isEmpty = decide (f = k) := by
  have h : (s.extract f k).toList.length = k - f := by
    rw [ByteArray.toList_eq]
    have h1 : (s.extract f k).data.toList.length = (s.extract f k).size := by simp; omega
    rw [h1, ByteArray.size_extract]
    omega
  rw [Bool.eq_iff_iff, List.isEmpty_iff, decide_eq_true_iff, ← List.length_eq_zero_iff, h]
  omega
theorem cutS_blank (s : ByteArray) : ∀ k, k ≤ s.size → ((cutS s 32 k).2.all (fun p => p.toList.isEmpty) && decide ((cutS s 32 k).1 = k)) = (s.data.toList.take k).all (· == 32)
  | 0, _ => by simp [cutS]
  | k + 1, h => by
    have ih := cutS_blank s k (by omega)
    have hk : k < s.data.toList.length := by have : s.data.toList.length = s.size := (by simp)
                                             omega
    have hle := (cutS_le s 32 k).1
    rw [List.take_succ_eq_append_getElem hk, List.all_append, ← ih]
    rcases hfo : cutS s 32 k with ⟨f, o⟩
    rw [hfo] at hle
    dsimp only at hle
    have e : s.data.toList[k] = s[k]'(by omega) := rfl
    by_cases hc : ((s[k]'(by omega)).toNat : Int) = 32
    · rw [cutS_hit hfo (by omega) hc]
      have hb : (s.data.toList[k] == 32) = true := by
        rw [beq_iff_eq, e]
        exact UInt8.toNat_inj.1 (by simpa using (by omega : (s[k]'(by omega)).toNat = 32))
      simp only [List.all_append, List.all_cons, List.all_nil, Bool.and_true, empty_extract s f k hle (by omega), hb]
      simp
    · rw [cutS_miss hfo (by omega) hc]
      have hb : (s.data.toList[k] == 32) = false := by
        rw [beq_eq_false_iff_ne, e]
        intro h2
        rw [h2] at hc
        exact hc rfl
      have hd : decide (f = k + 1) = false := by rw [decide_eq_false_iff_not]; omega
      rw [hd, Bool.and_false]
      simp only [List.all_cons, List.all_nil, Bool.and_true, hb, Bool.and_false]
theorem words_none (s : ByteArray) : (wordsT s).length = 0 ↔ ¬ wordAt s.data.toList < s.size := by
  have hl : s.data.toList.length = s.size := by simp
  have h1 := cutS_blank s s.size (Nat.le_refl _)
  have hle := (cutS_le s 32 s.size).1
  have h2 : (wordsT s).length = 0 ↔ (s.data.toList.take s.size).all (· == 32) = true := by
    rw [← h1]
    unfold wordsT cutT
    rw [List.length_eq_zero_iff, List.filter_eq_nil_iff]
    simp only [List.mem_append, List.mem_singleton, Bool.and_eq_true, List.all_eq_true]
    constructor
    · intro h
      refine ⟨fun x hx => by simpa using h x (.inl hx), ?_⟩
      have := h _ (.inr rfl)
      rw [empty_extract s _ _ hle (Nat.le_refl _)] at this
      simpa using this
    · rintro ⟨ha, hb⟩ x (hx | rfl)
      · simpa using ha x hx
      · rw [empty_extract s _ _ hle (Nat.le_refl _)]
        simpa using hb
  rw [h2, take_size]
  unfold wordAt
  constructor
  · intro h hlt
    have h3 := List.findIdx_getElem (w := by rw [hl]; exact hlt)
    rw [List.all_eq_true] at h
    have h4 := h _ (List.getElem_mem (by rw [hl]; exact hlt))
    rw [h4] at h3
    cases h3
  · intro h
    rw [List.all_eq_true]
    intro x hx
    obtain ⟨i, hi, rfl⟩ := List.mem_iff_getElem.1 hx
    have h5 := List.not_of_lt_findIdx (xs := s.data.toList) (p := fun c => !(c == 32)) (i := i) (by omega)
    simpa using h5

/-- the code and the text of RestOf -/
def restCode (s : ByteArray) : Int := if 3000 < s.size then 2 else if wordAt s.data.toList < s.size then 0 else 4
def restText (s : ByteArray) : ByteArray := if 3000 < s.size then ByteArray.empty else if wordAt s.data.toList < s.size then restT s else ByteArray.empty
set_option maxHeartbeats 1600000 in
theorem specRestOf_any (s : ByteArray) (hs : s.size ≤ 1048576) (w : World) :
    Calls Tryd.prog 13 #[.string s] w (TxtRes w (restCode s) (restText s)) := by
  by_cases hn : 3000 < s.size
  · have e1 : restCode s = 2 := by unfold restCode; rw [if_pos hn]
    have e2 : restText s = ByteArray.empty := by unfold restText; rw [if_pos hn]
    rw [e1, e2]
    clear e1 e2
    go_enter Tryd.func13, Tryd.ntmps13
    go_wp2
    exact bodyPost_ret (v := .agg #[.int .i64 2, .string _]) (by simp [results, Tryd.results13, go_sem]; rfl) rfl ⟨rfl, below1 w _⟩
  · have K := Lib.hid (l11Words_any s hs)
    have hwn := words_none s
    unfold OwnsStr at K
    by_cases hw : wordAt s.data.toList < s.size
    · have e1 : restCode s = 0 := by unfold restCode; rw [if_neg hn, if_pos hw]
      have e2 : restText s = restT s := by unfold restText; rw [if_neg hn, if_pos hw]
      have KR := Lib.hid (l11Rest_any s hs hw)
      have hz0 : ¬ (wordsT s).length = 0 := fun h => hwn.1 h hw
      rw [e1, e2]
      generalize wordsT s = T at K hz0
      generalize restT s = R at KR ⊢
      have hz1 : ((T.length : Int) == 0) = false := by rw [beq_eq_false_iff_ne]; omega
      clear e1 e2 hwn hw hz0
      go_enter Tryd.func13, Tryd.ntmps13
      go_wp2_with fail
      refine (K.out _).mono ?_
      rintro e w1 ⟨a, c, rfl, ho, hb⟩
      obtain ⟨hc, hf⟩ := bcell hb
      have HB := Lib.hid hb
      have hz := hb.size
      simp at hz
      clear hb ho
      go_wp2_with fail
      refine (KR.out _).mono ?_
      rintro e w2 ⟨rfl, rfl⟩
      go_wp2
      exact bodyPost_ret (v := .agg #[.int .i64 0, .string R]) (by simp [results, Tryd.results13, go_sem, hc]) rfl ⟨rfl, (((below1 w _).trans (HB.out.mono (by simp))).setCell (by simp) _).setCell (by simp) _⟩
    · have e1 : restCode s = 4 := by unfold restCode; rw [if_neg hn, if_neg hw]
      have e2 : restText s = ByteArray.empty := by unfold restText; rw [if_neg hn, if_neg hw]
      have hz0 := hwn.2 hw
      rw [e1, e2]
      generalize wordsT s = T at K hz0
      have hz1 : ((T.length : Int) == 0) = true := by rw [hz0]; rfl
      clear e1 e2 hwn hw hz0
      go_enter Tryd.func13, Tryd.ntmps13
      go_wp2_with fail
      refine (K.out _).mono ?_
      rintro e w1 ⟨a, c, rfl, ho, hb⟩
      obtain ⟨hc, hf⟩ := bcell hb
      have HB := Lib.hid hb
      have hz := hb.size
      simp at hz
      clear hb ho
      go_wp2
      exact bodyPost_ret (v := .agg #[.int .i64 4, .string ByteArray.empty]) (by simp [results, Tryd.results13, go_sem, hc]; rfl) rfl ⟨rfl, (((below1 w _).trans (HB.out.mono (by simp))).setCell (by simp) _).setCell (by simp) _⟩
end Go.Proofs.YticpebpicdboaaaDoor
