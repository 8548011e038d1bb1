/- The program's RestOf. -/
import Derived.Test.YticpebpicdboaaaDoorPWordsOf
import Derived.Test.YticpebpicdboaaaDoorCutB
import Derived.Test.YticpebpicdboaaaDoorRest
namespace Go.Proofs.YticpebpicdboaaaDoor
open Go.ChangeShapes Go.WideShapes Go.ChangeAt Go.RowKit
set_option linter.unusedVariables false

/-- the text from its first word on -/
def fromWord (s : ByteArray) : ByteArray := ⟨(Lib.trimLeftB s.data.toList 32).toArray⟩
theorem fromWord_is (s : ByteArray) : fromWord s = s.extract (wordAt s.data.toList) s.size := by
  have hl : s.data.toList.length = s.size := by simp
  have hle : wordAt s.data.toList ≤ s.data.toList.length := List.findIdx_le_length
  have h := Lib.trimLeftB_drop s.data.toList 32 (wordAt s.data.toList) hle (fun j b hj hb => by
    obtain ⟨hj2, rfl⟩ := List.getElem?_eq_some_iff.1 hb
    exact wordAt_lt hj hj2) (fun b hb => by
    obtain ⟨hj2, rfl⟩ := List.getElem?_eq_some_iff.1 hb
    exact wordAt_at hj2)
  unfold fromWord
  rw [h]
  apply ByteArray.ext
  apply Array.ext'
  rw [Lib.extract_to_end]
theorem rest_behind (s : ByteArray) (h : wordAt s.data.toList < s.size) : behindC (fromWord s) 32 = restT s := by
  have hl : s.data.toList.length = s.size := by simp
  rw [fromWord_is]
  unfold behindC restT restAt wordEnd
  rw [Lib.extract_to_end, hl]
  generalize hk : wordAt s.data.toList = k at h ⊢
  have hsz : (s.extract k s.size).size = s.size - k := by rw [ByteArray.size_extract]; omega
  rw [hsz]
  generalize (s.data.toList.drop k).findIdx (· == 32) = i
  by_cases hi : i < s.size - k
  · rw [if_pos hi, if_pos (by omega)]
    apply ByteArray.ext
    apply Array.ext'
    have e1 := Lib.extract_to_end (s.extract k s.size) (i + 1)
    rw [hsz] at e1
    rw [e1, Lib.extract_to_end, Lib.extract_to_end, List.drop_drop, Nat.add_assoc]
  · rw [if_neg hi, if_neg (by omega)]
    apply ByteArray.ext
    apply Array.ext'
    rw [Lib.extract_to_end, List.drop_eq_nil_of_le (by omega)]
theorem two_set11 {w1 : World} {b : Nat} {u0 u1 : Value} (v0 v1 : Value) (r0 : w1.cell? ⟨b, 0, none⟩ = some u0) (r1 : w1.cell? ⟨b, 1, none⟩ = some u1) :
    (w1.setCell ⟨b, 0, none⟩ v0).cell? ⟨b, 0, none⟩ = some v0 ∧ ((w1.setCell ⟨b, 0, none⟩ v0).setCell ⟨b, 1, none⟩ v1).cell? ⟨b, 1, none⟩ = some v1 :=
  ⟨World.cell?_setCell_same _ _ _ r0, World.cell?_setCell_same _ _ _ ((World.cell?_setCell_other _ _ _ _ (fun q => by have := congrArg Addr.off q; simp at this)).trans r1)⟩
theorem trimBlank_any (s : ByteArray) (w : World) : Calls Tryd.prog 23 #[.string s, .string ⟨#[32]⟩] w fun e w' => e = .returned (.string (fromWord s)) ∧ w' = w :=
  Tryd.strings_TrimLeft_one s 32 (by decide) w
set_option maxHeartbeats 1600000 in
theorem implRestOf_any (s : ByteArray) (hs : s.size ≤ 1048576) (w : World) :
    Calls Tryd.prog 9 #[.string s] w (TxtRes w (restCode s) (restText s)) := by
  have KW := Lib.hid (implWordsOf_any s hs)
  unfold TextsRes at KW
  have KT := Lib.hid (trimBlank_any s)
  have hfs : (fromWord s).size ≤ 1048576 := by rw [fromWord_is, ByteArray.size_extract]; omega
  have KC := Lib.hid (cutb_any (fromWord s) 32 (by unfold maxLen; omega))
  unfold TxtRes
  obtain ⟨wR, hwR⟩ : ∃ wR, w.alloc (.cells #[.int .i64 0, .string ⟨#[]⟩] 26) = wR := ⟨_, rfl⟩
  have HRB : Hid (Below w.heap.size w wR) := Lib.hid (by rw [← hwR]; exact below1 _ _)
  have HRC : Hid (∀ W, Below wR.heap.size wR W → (W.cell? ⟨w.heap.size, 0, none⟩ = some (.int .i64 0) ∧ W.cell? ⟨w.heap.size, 1, none⟩ = some (.string ⟨#[]⟩) ∧ W.frozen? ⟨w.heap.size, 0, none⟩ = false ∧ W.frozen? ⟨w.heap.size, 1, none⟩ = false)) := Lib.hid (by
    subst hwR
    intro W hb
    have hz : w.heap.size < (w.alloc (.cells #[.int .i64 0, .string ⟨#[]⟩] 26)).heap.size := by simp
    exact ⟨(hb.cell (p := ⟨w.heap.size, 0, none⟩) hz).trans (by simp), (hb.cell (p := ⟨w.heap.size, 1, none⟩) hz).trans (by simp), (hb.frozen (p := ⟨w.heap.size, 0, none⟩) hz).trans (by go_simp), (hb.frozen (p := ⟨w.heap.size, 1, none⟩) hz).trans (by go_simp)⟩)
  by_cases hn : 3000 < s.size
  · have e1 : restCode s = 2 := by unfold restCode; rw [if_pos hn]
    have e2 : restText s = ByteArray.empty := by unfold restText; rw [if_pos hn]
    have e3 : wordsCode s = 2 := by unfold wordsCode; rw [if_pos hn]
    have e4 : wordsOf s = [] := by unfold wordsOf; rw [if_pos hn]
    rw [e3, e4] at KW
    rw [e1, e2]
    clear e1 e2 e3 e4 KT KC hfs hn
    go_enter Tryd.func9, Tryd.ntmps9
    go_wp2_with fail
    refine (KW.out _).mono ?_
    rintro e w1 ⟨a, n, c, rfl, ho, hb⟩
    have HB := Lib.hid (below_then hb (below1 w1 (.cells #[.int .i64 2, .slice a n c] 32)))
    clear hb ho hwR
    obtain ⟨r0, r1, f0, f1⟩ := HRC.out _ HB.out
    go_wp2
    exact bodyPost_ret (v := .agg #[.int .i64 2, .string ⟨#[]⟩]) (by simp [results, Tryd.results9, go_sem, (two_set11 (.int .i64 2) (.string ⟨#[]⟩) r0 r1).1, (two_set11 (.int .i64 2) (.string ⟨#[]⟩) r0 r1).2]) rfl ⟨rfl, ((HRB.out.trans (HB.out.mono HRB.out.size)).setCell (Nat.le_refl _) _).setCell (Nat.le_refl _) _⟩
  · have hwn := words_none s
    have e3 : wordsCode s = 0 := by unfold wordsCode; rw [if_neg hn]
    have e4 : wordsOf s = wordsT s := by unfold wordsOf; rw [if_neg hn]
    rw [e3, e4] at KW
    by_cases hw : wordAt s.data.toList < s.size
    · have e1 : restCode s = 0 := by unfold restCode; rw [if_neg hn, if_pos hw]
      have e2 : restText s = restT s := by unfold restText; rw [if_neg hn, if_pos hw]
      rw [rest_behind s hw] at KC
      have hz0 : ¬ (wordsT s).length = 0 := fun h => hwn.1 h hw
      rw [e1, e2]
      generalize wordsT s = T at KW hz0
      generalize restT s = R at KC ⊢
      generalize fromWord s = F at KT KC
      clear e1 e2 e3 e4 hwn hw hfs
      go_enter Tryd.func9, Tryd.ntmps9
      go_wp2_with fail
      refine (KW.out _).mono ?_
      rintro e w1 ⟨a, n, c, rfl, ho, hb⟩
      have hln := ownsS_length ho
      have hz1 : ((n : Int) == 0) = false := by rw [beq_eq_false_iff_ne]; omega
      have HB := Lib.hid (below_then hb (below1 w1 (.cells #[.int .i64 0, .slice a n c] 32)))
      clear hb ho hwR hln
      go_wp2_with fail
      refine (KT.out _).mono ?_
      rintro e w2 ⟨rfl, rfl⟩
      go_wp2_with fail
      refine (KC.out _).mono ?_
      rintro e w3 ⟨⟨ah, fd, rfl⟩, hb3⟩
      have HB3 := Lib.hid (below_then HB.out hb3)
      clear hb3
      obtain ⟨r0, r1, f0, f1⟩ := HRC.out _ HB3.out
      go_wp2
      exact bodyPost_ret (v := .agg #[.int .i64 0, .string R]) (by simp [results, Tryd.results9, go_sem, (two_set11 (.int .i64 0) (.string R) r0 r1).1, (two_set11 (.int .i64 0) (.string R) r0 r1).2]) rfl ⟨rfl, ((HRB.out.trans (HB3.out.mono HRB.out.size)).setCell (Nat.le_refl _) _).setCell (Nat.le_refl _) _⟩
    · have e1 : restCode s = 4 := by unfold restCode; rw [if_neg hn, if_neg hw]
      have e2 : restText s = ByteArray.empty := by unfold restText; rw [if_neg hn, if_neg hw]
      have hz0 := hwn.2 hw
      rw [e1, e2]
      generalize wordsT s = T at KW hz0
      clear e1 e2 e3 e4 hwn hw hfs KT KC
      go_enter Tryd.func9, Tryd.ntmps9
      go_wp2_with fail
      refine (KW.out _).mono ?_
      rintro e w1 ⟨a, n, c, rfl, ho, hb⟩
      have hln := ownsS_length ho
      have hz1 : ((n : Int) == 0) = true := by rw [beq_iff_eq]; omega
      have HB := Lib.hid (below_then hb (below1 w1 (.cells #[.int .i64 0, .slice a n c] 32)))
      clear hb ho hwR hln
      obtain ⟨r0, r1, f0, f1⟩ := HRC.out _ HB.out
      go_wp2
      exact bodyPost_ret (v := .agg #[.int .i64 4, .string ⟨#[]⟩]) (by simp [results, Tryd.results9, go_sem, (two_set11 (.int .i64 4) (.string ⟨#[]⟩) r0 r1).1, (two_set11 (.int .i64 4) (.string ⟨#[]⟩) r0 r1).2]) rfl ⟨rfl, ((HRB.out.trans (HB.out.mono HRB.out.size)).setCell (Nat.le_refl _) _).setCell (Nat.le_refl _) _⟩
end Go.Proofs.YticpebpicdboaaaDoor
