/- Words that are numbers: the model's l7Read, NumberOf. -/
import Derived.Test.YtpafknmfacgccaaDoorDigits
import Derived.Test.YtpafknmfacgccaaDoorNum3
import Derived.Lib.IndexBytes
namespace Go.Proofs.YtpafknmfacgccaaDoor
open Go.ChangeShapes Go.WideShapes Go.ChangeAt Go.RowKit
set_option linter.unusedVariables false

/-- the digits of a word -/
def digitsL (l : List UInt8) : List UInt8 := if l.take 1 = [45] then l.drop 1 else l
def signedN (l : List UInt8) (n : Int) : Int := if l.take 1 = [45] then -n else n
/-- the number that a word is -/
def numOf (l : List UInt8) : Option Int :=
  if numberL 10 3 (digitsL l) < 0 then none
  else if (numT (signedN l (numberL 10 3 (digitsL l)))).data.toList = l then some (signedN l (numberL 10 3 (digitsL l))) else none
theorem dig_data (x : Nat) (h : x < 10) : (strOfNums [48 + (x : Int)]).data.toList = [UInt8.ofNat (48 + x)] := by
  rw [strOfNums_data]
  simp only [List.map_cons, List.map_nil]
  rw [show (48 + (x : Int)).toNat = 48 + x by omega]
theorem dig_val (x : Nat) (h : x < 10) : digB 10 (UInt8.ofNat (48 + x)) = true ∧ hexV (UInt8.ofNat (48 + x)) = x := by
  have hx : x = 0 ∨ x = 1 ∨ x = 2 ∨ x = 3 ∨ x = 4 ∨ x = 5 ∨ x = 6 ∨ x = 7 ∨ x = 8 ∨ x = 9 := by omega
  rcases hx with rfl | rfl | rfl | rfl | rfl | rfl | rfl | rfl | rfl | rfl <;> decide
theorem digT_data {n : Nat} (h : ¬ n < 10) : (digT n).data.toList = (digT (n / 10)).data.toList ++ [UInt8.ofNat (48 + n % 10)] := by
  rw [digT_big h, ByteArray.data_append, Array.toList_append]
  have e : (48 + (n : Int) % 10) = 48 + ((n % 10 : Nat) : Int) := by omega
  rw [e, dig_data _ (by omega)]
theorem numF_dig (n : Nat) : (digT n).data.toList.all (digB 10) = true ∧ numF 10 0 (digT n).data.toList = n := by
  induction n using Nat.strongRecOn with
  | ind n ih =>
    by_cases h : n < 10
    · obtain ⟨h1, h2⟩ := dig_val n h
      rw [digT_small h, dig_data n h]
      refine ⟨by simp only [List.all_cons, List.all_nil, Bool.and_true]; exact h1, ?_⟩
      simp only [numF, h1, if_true]
      omega
    · obtain ⟨i1, i2⟩ := ih (n / 10) (by omega)
      obtain ⟨h1, h2⟩ := dig_val (n % 10) (by omega)
      rw [digT_data h]
      have ha : ((digT (n / 10)).data.toList ++ [UInt8.ofNat (48 + n % 10)]).all (digB 10) = true := by rw [List.all_append, i1]; simp only [List.all_cons, List.all_nil, Bool.and_true, Bool.true_and]; exact h1
      refine ⟨ha, ?_⟩
      rw [numF_snoc' _ _ _ _ ha, i2, h2]
      omega
theorem digT_head (n : Nat) : ∃ c t, (digT n).data.toList = c :: t ∧ c ≠ 45 := by
  have h := (numF_dig n).1
  have hp := digT_pos n
  have hl : (digT n).data.toList.length = (digT n).size := by simp
  cases hd : (digT n).data.toList with
  | nil => rw [hd] at hl; simp at hl; omega
  | cons c t =>
    rw [hd, List.all_cons, Bool.and_eq_true] at h
    refine ⟨c, t, rfl, ?_⟩
    rintro rfl
    exact absurd h.1 (by decide)
/-- a number is told by its text -/
theorem numOf_text (m : Int) (h1 : -999 ≤ m) (h2 : m ≤ 999) : numOf (numT m).data.toList = some m := by
  have hs := digT_size 2 m.natAbs (by have : (10 : Nat) ^ (2 + 1) = 1000 := by decide
                                      omega)
  have hp := digT_pos m.natAbs
  have hl : (digT m.natAbs).data.toList.length = (digT m.natAbs).size := by simp
  obtain ⟨c, t, e, hc⟩ := digT_head m.natAbs
  have hn : numberL 10 3 (digT m.natAbs).data.toList = m.natAbs := by
    unfold numberL
    rw [if_neg (by omega)]
    exact (numF_dig _).2
  by_cases hm : m < 0
  · have hT : (numT m).data.toList = 45 :: (digT m.natAbs).data.toList := by
      unfold numT
      rw [if_pos hm, ByteArray.data_append, Array.toList_append]
      rfl
    have hd : digitsL (numT m).data.toList = (digT m.natAbs).data.toList := by unfold digitsL; rw [hT]; rfl
    have hg : signedN (numT m).data.toList (m.natAbs : Int) = m := by unfold signedN; rw [hT]; simp; omega
    unfold numOf
    rw [hd, hn, hg, if_neg (by omega), if_pos rfl]
  · have hT : (numT m).data.toList = (digT m.natAbs).data.toList := by unfold numT; rw [if_neg hm]
    have hk : (numT m).data.toList.take 1 ≠ [45] := by rw [hT, e]; simpa using hc
    have hd : digitsL (numT m).data.toList = (digT m.natAbs).data.toList := by unfold digitsL; rw [if_neg hk, hT]
    have hg : signedN (numT m).data.toList (m.natAbs : Int) = m := by unfold signedN; rw [if_neg hk]; omega
    unfold numOf
    rw [hd, hn, hg, if_neg (by omega), if_pos rfl]
theorem numOf_some {l : List UInt8} {m : Int} (h : numOf l = some m) : -999 ≤ m ∧ m ≤ 999 ∧ (numT m).data.toList = l := by
  unfold numOf at h
  split at h
  · cases h
  · rename_i h0
    split at h
    · rename_i h1
      cases h
      refine ⟨?_, ?_, h1⟩
      all_goals
        rcases number_cases 10 3 (digitsL l) (by decide) with e | ⟨_, b, _, c, d⟩
        · omega
        · have hp := pow_small 10 _ 3 (by decide) b
          have h3 : (10 : Int) ^ 3 = 1000 := by decide
          unfold signedN
          split <;> omega
    · cases h
/-- no number has that text -/
theorem numOf_none {l : List UInt8} (h : numOf l = none) (m : Int) (h1 : -999 ≤ m) (h2 : m ≤ 999) : (numT m).data.toList ≠ l := by
  intro e
  have := numOf_text m h1 h2
  rw [e, h] at this
  cases this

theorem first_is {s : ByteArray} {c : UInt8} (h : s.data.toList.take 1 = [c]) : ∃ h : 0 < s.size, s[0] = c := by
  have hl : s.data.toList.length = s.size := by simp
  have h0 : 0 < s.size := by
    cases hx : s.data.toList with
    | nil => rw [hx] at h; simp at h
    | cons a t => rw [hx] at hl; simp at hl; omega
  refine ⟨h0, ?_⟩
  have := head_byte s h0
  rw [← this]
  generalize s.data.toList = l at h
  cases l with
  | nil => simp at h
  | cons a t => simpa using h
theorem first_isnt {s : ByteArray} {c : UInt8} (h : s.data.toList.take 1 ≠ [c]) (h0 : 0 < s.size) : s[0] ≠ c := by
  intro hb
  have := head_byte s h0
  rw [hb] at this
  have hl : s.data.toList.length = s.size := by simp
  generalize s.data.toList = l at h this hl
  cases l with
  | nil => simp at hl; omega
  | cons a t => simp at this; simp [this] at h

/-- what l7Read answers -/
def ReadN (l : List UInt8) (w : World) (e : Ending) (w' : World) : Prop :=
  ∃ (m : Int) (b : Bool), e = .returned (.tuple #[.int .i64 m, .bool b]) ∧ numOf l = (if b then some m else none) ∧ Below w.heap.size w w'

set_option maxHeartbeats 1600000 in
theorem l7Read_any (s : ByteArray) (hs : s.size ≤ maxLen) (w : World) : Calls Tryd.prog 28 #[.string s] w (ReadN s.data.toList w) := by
  have hl : s.data.toList.length = s.size := by simp
  have hm := hs
  unfold maxLen at hm
  have hd1 : (s.extract 1 s.size).data.toList = s.data.toList.drop 1 := Lib.extract_to_end _ _
  generalize hr : numberL 10 3 (digitsL s.data.toList) = n
  have hbd : -1 ≤ n ∧ n ≤ 999 := by
    subst hr
    rcases number_cases 10 3 (digitsL s.data.toList) (by decide) with e | ⟨_, b, _, c, d⟩
    · rw [e]; omega
    · have hp := pow_small 10 _ 3 (by decide) b
      have h3 : (10 : Int) ^ 3 = 1000 := by decide
      omega
  by_cases hg : s.data.toList.take 1 = [45]
  · obtain ⟨h0, hb⟩ := first_is hg
    have hb' : ((s[0].toNat : Int) == 45) = true := by rw [hb]; rfl
    have KN := Lib.hid (l3Number10 3 (by decide) (s.extract 1 s.size) (by unfold maxLen; rw [ByteArray.size_extract]; omega))
    have hdg : digitsL s.data.toList = s.data.toList.drop 1 := by unfold digitsL; rw [if_pos hg]
    rw [hd1, ← hdg, hr] at KN
    have hsz : (s.extract 1 s.size).size = s.size - 1 := by rw [ByteArray.size_extract]; omega
    have hsg : signedN s.data.toList n = -n := by unfold signedN; rw [if_pos hg]
    by_cases hn : n < 0
    · have ho : numOf s.data.toList = none := by unfold numOf; rw [hr, if_pos hn]
      have HO := Lib.hid ho
      clear hd1 hdg hsg ho hb hg hl hr
      go_enter Tryd.func28, Tryd.ntmps28
      go_wp2_with fail
      refine (KN.out _).mono ?_
      rintro e w1 ⟨rfl, rfl⟩
      go_wp2
      go_ret2
      exact ⟨_, false, rfl, by rw [HO.out]; rfl, Below.refl _ _⟩
    · have KT := Lib.hid (l7Number_any (-n) (by omega) (by omega))
      unfold TextB at KT
      have ho : numOf s.data.toList = if (numT (-n)).toList == s.toList then some (-n) else none := by
        unfold numOf
        rw [hr, if_neg hn, hsg, ByteArray.toList_eq, ByteArray.toList_eq]
        by_cases hx : (numT (-n)).data.toList = s.data.toList
        · rw [if_pos hx, if_pos (by simpa using hx)]
        · rw [if_neg hx, if_neg (by simpa using hx)]
      have HO := Lib.hid ho
      generalize numT (-n) = T at KT HO
      have hlt : ((s.extract 1 s.size).size : Int) < (s.size : Int) := by omega
      clear hd1 hdg hsg ho hb hg hl hr
      go_enter Tryd.func28, Tryd.ntmps28
      go_wp2_with fail
      refine (KN.out _).mono ?_
      rintro e w1 ⟨rfl, rfl⟩
      go_wp2_with fail
      refine (KT.out _).mono ?_
      rintro e w2 ⟨rfl, hb2⟩
      go_wp2
      go_ret2
      exact ⟨_, _, rfl, HO.out, hb2⟩
  · have hdg : digitsL s.data.toList = s.data.toList := by unfold digitsL; rw [if_neg hg]
    have KN := Lib.hid (l3Number10 3 (by decide) s hs)
    have hrr := hr
    rw [hdg] at hrr
    rw [hrr] at KN
    have hsg : signedN s.data.toList n = n := by unfold signedN; rw [if_neg hg]
    have hc : s.size = 0 ∨ ∃ h : 0 < s.size, s[0] ≠ 45 := by
      by_cases h0 : s.size = 0
      · exact .inl h0
      · exact .inr ⟨by omega, first_isnt hg _⟩
    by_cases hn : n < 0
    · have ho : numOf s.data.toList = none := by unfold numOf; rw [hr, if_pos hn]
      have HO := Lib.hid ho
      clear hd1 hdg hsg ho hg hl hr hrr
      rcases hc with h0 | ⟨h0, hb⟩
      · go_enter Tryd.func28, Tryd.ntmps28
        go_wp2_with fail
        refine (KN.out _).mono ?_
        rintro e w1 ⟨rfl, rfl⟩
        go_wp2
        go_ret2
        exact ⟨_, false, rfl, by rw [HO.out]; rfl, Below.refl _ _⟩
      · have hb' : ((s[0].toNat : Int) == 45) = false := by rw [beq_eq_false_iff_ne]; intro e; exact hb (UInt8.toNat_inj.1 (by simpa using (by omega : s[0].toNat = 45)))
        go_enter Tryd.func28, Tryd.ntmps28
        go_wp2_with fail
        refine (KN.out _).mono ?_
        rintro e w1 ⟨rfl, rfl⟩
        go_wp2
        go_ret2
        exact ⟨_, false, rfl, by rw [HO.out]; rfl, Below.refl _ _⟩
    · have KT := Lib.hid (l7Number_any n (by omega) (by omega))
      unfold TextB at KT
      have ho : numOf s.data.toList = if (numT n).toList == s.toList then some n else none := by
        unfold numOf
        rw [hr, if_neg hn, hsg, ByteArray.toList_eq, ByteArray.toList_eq]
        by_cases hx : (numT n).data.toList = s.data.toList
        · rw [if_pos hx, if_pos (by simpa using hx)]
        · rw [if_neg hx, if_neg (by simpa using hx)]
      have HO := Lib.hid ho
      generalize numT n = T at KT HO
      clear hd1 hdg hsg ho hg hl hr hrr
      rcases hc with h0 | ⟨h0, hb⟩
      · go_enter Tryd.func28, Tryd.ntmps28
        go_wp2_with fail
        refine (KN.out _).mono ?_
        rintro e w1 ⟨rfl, rfl⟩
        go_wp2_with fail
        refine (KT.out _).mono ?_
        rintro e w2 ⟨rfl, hb2⟩
        go_wp2
        go_ret2
        exact ⟨_, _, rfl, HO.out, hb2⟩
      · have hb' : ((s[0].toNat : Int) == 45) = false := by rw [beq_eq_false_iff_ne]; intro e; exact hb (UInt8.toNat_inj.1 (by simpa using (by omega : s[0].toNat = 45)))
        go_enter Tryd.func28, Tryd.ntmps28
        go_wp2_with fail
        refine (KN.out _).mono ?_
        rintro e w1 ⟨rfl, rfl⟩
        go_wp2_with fail
        refine (KT.out _).mono ?_
        rintro e w2 ⟨rfl, hb2⟩
        go_wp2
        go_ret2
        exact ⟨_, _, rfl, HO.out, hb2⟩

end Go.Proofs.YtpafknmfacgccaaDoor
