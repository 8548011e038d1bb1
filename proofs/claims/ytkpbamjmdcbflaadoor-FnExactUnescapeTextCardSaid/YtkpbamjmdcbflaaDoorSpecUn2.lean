/- Contracts of the model's l3Entity, l3Unescape and UnescapeText. -/
import Derived.Test.YtkpbamjmdcbflaaDoorSpecUn
namespace Go.Proofs.YtkpbamjmdcbflaaDoor
open Go.ChangeShapes Go.WideShapes Go.ChangeAt Go.RowKit
set_option linter.unusedVariables false

theorem bst_enc (n : Int) : strOfNums (Lib.encodeRuneZ n) = bst (Lib.encodeRune n) := bst_of (strOfNums_data _)
/-- some text is handed back -/
def TextIs (l : List UInt8) (w : World) (e : Ending) (w' : World) : Prop := e = .returned (.string (bst l)) ∧ Below w.heap.size w w'
theorem str_is {s : ByteArray} {l : List UInt8} (h : s.data.toList = l) : (s.toList == l) = true ∧ (l == s.toList) = true := by
  rw [ByteArray.toList_eq]
  exact ⟨by rw [beq_iff_eq]; exact h, by rw [beq_iff_eq]; exact h.symm⟩
theorem str_isnt {s : ByteArray} {l : List UInt8} (h : s.data.toList ≠ l) : (s.toList == l) = false ∧ (l == s.toList) = false := by
  rw [ByteArray.toList_eq]
  refine ⟨?_, ?_⟩ <;> rw [beq_eq_false_iff_ne]
  · exact h
  · exact fun e => h e.symm
theorem ent_is {l : List UInt8} {n : Int} (h : nameN l = n) : entL l = if charB n then Lib.encodeRune n else [] := by
  unfold entL
  rw [h]
set_option maxRecDepth 100000 in
theorem l3Entity_1 (w : World) : Calls Tryd.prog 15 #[.string ⟨#[97, 109, 112]⟩] w fun e w' => e = .returned (.string (bst [38])) ∧ w' = w := by
  go_enter Tryd.func15, Tryd.ntmps15
  go_wp2
  go_ret
  exact ⟨rfl, rfl⟩
set_option maxRecDepth 100000 in
theorem l3Entity_2 (w : World) : Calls Tryd.prog 15 #[.string ⟨#[108, 116]⟩] w fun e w' => e = .returned (.string (bst [60])) ∧ w' = w := by
  go_enter Tryd.func15, Tryd.ntmps15
  go_wp2
  go_ret
  exact ⟨rfl, rfl⟩
set_option maxRecDepth 100000 in
theorem l3Entity_3 (w : World) : Calls Tryd.prog 15 #[.string ⟨#[103, 116]⟩] w fun e w' => e = .returned (.string (bst [62])) ∧ w' = w := by
  go_enter Tryd.func15, Tryd.ntmps15
  go_wp2
  go_ret
  exact ⟨rfl, rfl⟩
set_option maxRecDepth 100000 in
theorem l3Entity_4 (w : World) : Calls Tryd.prog 15 #[.string ⟨#[113, 117, 111, 116]⟩] w fun e w' => e = .returned (.string (bst [34])) ∧ w' = w := by
  go_enter Tryd.func15, Tryd.ntmps15
  go_wp2
  go_ret
  exact ⟨rfl, rfl⟩
set_option maxRecDepth 100000 in
theorem l3Entity_5 (w : World) : Calls Tryd.prog 15 #[.string ⟨#[97, 112, 111, 115]⟩] w fun e w' => e = .returned (.string (bst [39])) ∧ w' = w := by
  go_enter Tryd.func15, Tryd.ntmps15
  go_wp2
  go_ret
  exact ⟨rfl, rfl⟩

theorem point_of_char' {p : Int} (h : charB p = true) : pointB p = true := by
  cases hp : pointB p
  · rw [charB_point p hp] at h
    exact absurd h (by simp)
  · rfl
set_option maxRecDepth 100000 in
set_option maxHeartbeats 4000000 in
theorem l3Entity_any (s : ByteArray) (hs : s.size ≤ maxLen) (w : World) :
    Calls Tryd.prog 15 #[.string s] w (TextIs (entL s.data.toList) w) := by
  unfold TextIs
  by_cases n1 : s.data.toList = [97, 109, 112]
  · have e : entL s.data.toList = [38] := by rw [n1]; decide
    rw [e]
    obtain rfl := bst_of n1
    exact (l3Entity_1 w).mono fun e w' ⟨a, b⟩ => ⟨a, by rw [b]; exact Below.refl _ _⟩
  by_cases n2 : s.data.toList = [108, 116]
  · have e : entL s.data.toList = [60] := by rw [n2]; decide
    rw [e]
    obtain rfl := bst_of n2
    exact (l3Entity_2 w).mono fun e w' ⟨a, b⟩ => ⟨a, by rw [b]; exact Below.refl _ _⟩
  by_cases n3 : s.data.toList = [103, 116]
  · have e : entL s.data.toList = [62] := by rw [n3]; decide
    rw [e]
    obtain rfl := bst_of n3
    exact (l3Entity_3 w).mono fun e w' ⟨a, b⟩ => ⟨a, by rw [b]; exact Below.refl _ _⟩
  by_cases n4 : s.data.toList = [113, 117, 111, 116]
  · have e : entL s.data.toList = [34] := by rw [n4]; decide
    rw [e]
    obtain rfl := bst_of n4
    exact (l3Entity_4 w).mono fun e w' ⟨a, b⟩ => ⟨a, by rw [b]; exact Below.refl _ _⟩
  by_cases n5 : s.data.toList = [97, 112, 111, 115]
  · have e : entL s.data.toList = [39] := by rw [n5]; decide
    rw [e]
    obtain rfl := bst_of n5
    exact (l3Entity_5 w).mono fun e w' ⟨a, b⟩ => ⟨a, by rw [b]; exact Below.refl _ _⟩
  have hl : s.data.toList.length = s.size := by simp
  obtain ⟨a1, b1⟩ := str_isnt n1
  obtain ⟨a2, b2⟩ := str_isnt n2
  obtain ⟨a3, b3⟩ := str_isnt n3
  obtain ⟨a4, b4⟩ := str_isnt n4
  obtain ⟨a5, b5⟩ := str_isnt n5
  have hm := hs
  unfold maxLen at hm
  have ht2 : (s.extract 0 2).data.toList = s.data.toList.take 2 := by rw [Lib.extract_data, List.drop_zero]
  have hd2 : (s.extract 2 s.size).data.toList = s.data.toList.drop 2 := Lib.extract_to_end _ _
  have hd1 : (s.extract 1 s.size).data.toList = s.data.toList.drop 1 := Lib.extract_to_end _ _
  by_cases hx : s.data.toList.take 2 = [35, 120] ∧ 2 < s.size
  · obtain ⟨h1, h2⟩ := hx
    have e : nameN s.data.toList = numberL 16 6 (s.data.toList.drop 2) := by
      unfold nameN
      rw [if_neg n1, if_neg n2, if_neg n3, if_neg n4, if_neg n5, if_pos h1]
    rw [ent_is e]
    have KN := Lib.hid (l3Number16 6 (by omega) (s.extract 2 s.size) (by unfold maxLen; rw [ByteArray.size_extract]; omega))
    rw [hd2] at KN
    generalize numberL 16 6 (s.data.toList.drop 2) = n at KN
    obtain ⟨x1, x2⟩ := str_is (ht2.trans h1)
    have h2' : (2 : Int) < (s.size : Int) := by omega
    clear n1 n2 n3 n4 n5 ht2 hd2 hd1 h1 e hl h2
    cases hcb : charB n
    · have HCB := Lib.hid hcb
      simp only [Bool.false_eq_true, if_false]
      clear hcb
      go_enter Tryd.func15, Tryd.ntmps15
      go_wp2_with fail
      refine (KN.out _).mono ?_
      rintro e w' ⟨rfl, rfl⟩
      go_wp2_with fail
      refine (specIsChar_any n _).mono ?_
      rintro e w' ⟨rfl, rfl⟩
      rw [HCB.out]
      go_wp2
      go_ret
      exact ⟨rfl, Below.refl _ _⟩
    · have HCB := Lib.hid hcb
      have HPT := Lib.hid (point_of_char' hcb)
      simp only [if_true]
      clear hcb
      go_enter Tryd.func15, Tryd.ntmps15
      go_wp2_with fail
      refine (KN.out _).mono ?_
      rintro e w' ⟨rfl, rfl⟩
      go_wp2_with fail
      refine (specIsChar_any n _).mono ?_
      rintro e w' ⟨rfl, rfl⟩
      rw [HCB.out]
      go_wp2_with fail
      refine (l1Put_any n HPT.out _).mono ?_
      rintro e w2 ⟨a, m, c, rfl, ho, hbl⟩
      have hcv := conv_row (P := Tryd.prog) w2 Tryd.underlying34 Tryd.underlying5 Tryd.underlying9 (Row.of_owns ho)
      clear ho
      go_wp2
      go_ret
      exact ⟨congrArg (fun x => Ending.returned (Value.string x)) (bst_enc n), hbl⟩
  · have hnx : ¬ (2 < s.size) ∨ s.data.toList.take 2 ≠ [35, 120] := by
      rcases Decidable.not_and_iff_or_not.1 hx with h | h
      · exact .inr h
      · exact .inl h
    by_cases hy : s.data.toList.take 1 = [35] ∧ 1 < s.size
    · obtain ⟨h1, h2⟩ := hy
      have e : nameN s.data.toList = numberL 10 7 (s.data.toList.drop 1) := by
        unfold nameN
        rw [if_neg n1, if_neg n2, if_neg n3, if_neg n4, if_neg n5]
        by_cases h3 : s.data.toList.take 2 = [35, 120]
        · rw [if_pos h3]
          have hl2 : s.data.toList = [35, 120] := by
            rcases hnx with h | h
            · rw [← h3, List.take_of_length_le (by omega)]
            · exact absurd h3 h
          rw [hl2]
          decide
        · rw [if_neg h3, if_pos h1]
      rw [ent_is e]
      have KN := Lib.hid (l3Number10 7 (by omega) (s.extract 1 s.size) (by unfold maxLen; rw [ByteArray.size_extract]; omega))
      rw [hd1] at KN
      generalize numberL 10 7 (s.data.toList.drop 1) = n at KN
      have h2' : (1 : Int) < (s.size : Int) := by omega
      have h35 : ((s[0]'(Nat.lt_trans Nat.zero_lt_one h2) : UInt8).toNat : Int) = 35 := by
        have h4 : s.data.toList[0]? = some 35 := by
          have := congrArg (·[0]?) h1
          simpa using this
        rw [List.getElem?_eq_getElem (by rw [hl]; omega)] at h4
        have h5 : s[0]'(Nat.lt_trans Nat.zero_lt_one h2) = 35 := Option.some.inj h4
        rw [h5]
        rfl
      have hb35 : ((((s[0]'(Nat.lt_trans Nat.zero_lt_one h2)) : UInt8).toNat : Int) == 35) = true := by rw [beq_iff_eq]; exact h35
      clear h35
      rcases hnx with hq | hq
      · have hq' : (s.size : Int) ≤ 2 := by omega
        clear n1 n2 n3 n4 n5 ht2 hd2 hd1 h1 e hl hx hq
        cases hcb : charB n
        · have HCB := Lib.hid hcb
          simp only [Bool.false_eq_true, if_false]
          clear hcb
          go_enter Tryd.func15, Tryd.ntmps15
          go_wp2_with fail
          refine (KN.out _).mono ?_
          rintro e w' ⟨rfl, rfl⟩
          go_wp2_with fail
          refine (specIsChar_any n _).mono ?_
          rintro e w' ⟨rfl, rfl⟩
          rw [HCB.out]
          go_wp2
          go_ret
          exact ⟨rfl, Below.refl _ _⟩
        · have HCB := Lib.hid hcb
          have HPT := Lib.hid (point_of_char' hcb)
          simp only [if_true]
          clear hcb
          go_enter Tryd.func15, Tryd.ntmps15
          go_wp2_with fail
          refine (KN.out _).mono ?_
          rintro e w' ⟨rfl, rfl⟩
          go_wp2_with fail
          refine (specIsChar_any n _).mono ?_
          rintro e w' ⟨rfl, rfl⟩
          rw [HCB.out]
          go_wp2_with fail
          refine (l1Put_any n HPT.out _).mono ?_
          rintro e w2 ⟨a, m, c, rfl, ho, hbl⟩
          have hcv := conv_row (P := Tryd.prog) w2 Tryd.underlying34 Tryd.underlying5 Tryd.underlying9 (Row.of_owns ho)
          clear ho
          go_wp2
          go_ret
          exact ⟨congrArg (fun x => Ending.returned (Value.string x)) (bst_enc n), hbl⟩
      · obtain ⟨x1, x2⟩ := str_isnt (by rw [ht2]; exact hq : (s.extract 0 2).data.toList ≠ [35, 120])
        clear n1 n2 n3 n4 n5 ht2 hd2 hd1 h1 e hl hx hq
        by_cases h22 : (2 : Int) < (s.size : Int)
        · cases hcb : charB n
          · have HCB := Lib.hid hcb
            simp only [Bool.false_eq_true, if_false]
            clear hcb
            go_enter Tryd.func15, Tryd.ntmps15
            go_wp2_with fail
            refine (KN.out _).mono ?_
            rintro e w' ⟨rfl, rfl⟩
            go_wp2_with fail
            refine (specIsChar_any n _).mono ?_
            rintro e w' ⟨rfl, rfl⟩
            rw [HCB.out]
            go_wp2
            go_ret
            exact ⟨rfl, Below.refl _ _⟩
          · have HCB := Lib.hid hcb
            have HPT := Lib.hid (point_of_char' hcb)
            simp only [if_true]
            clear hcb
            go_enter Tryd.func15, Tryd.ntmps15
            go_wp2_with fail
            refine (KN.out _).mono ?_
            rintro e w' ⟨rfl, rfl⟩
            go_wp2_with fail
            refine (specIsChar_any n _).mono ?_
            rintro e w' ⟨rfl, rfl⟩
            rw [HCB.out]
            go_wp2_with fail
            refine (l1Put_any n HPT.out _).mono ?_
            rintro e w2 ⟨a, m, c, rfl, ho, hbl⟩
            have hcv := conv_row (P := Tryd.prog) w2 Tryd.underlying34 Tryd.underlying5 Tryd.underlying9 (Row.of_owns ho)
            clear ho
            go_wp2
            go_ret
            exact ⟨congrArg (fun x => Ending.returned (Value.string x)) (bst_enc n), hbl⟩
        · cases hcb : charB n
          · have HCB := Lib.hid hcb
            simp only [Bool.false_eq_true, if_false]
            clear hcb
            go_enter Tryd.func15, Tryd.ntmps15
            go_wp2_with fail
            refine (KN.out _).mono ?_
            rintro e w' ⟨rfl, rfl⟩
            go_wp2_with fail
            refine (specIsChar_any n _).mono ?_
            rintro e w' ⟨rfl, rfl⟩
            rw [HCB.out]
            go_wp2
            go_ret
            exact ⟨rfl, Below.refl _ _⟩
          · have HCB := Lib.hid hcb
            have HPT := Lib.hid (point_of_char' hcb)
            simp only [if_true]
            clear hcb
            go_enter Tryd.func15, Tryd.ntmps15
            go_wp2_with fail
            refine (KN.out _).mono ?_
            rintro e w' ⟨rfl, rfl⟩
            go_wp2_with fail
            refine (specIsChar_any n _).mono ?_
            rintro e w' ⟨rfl, rfl⟩
            rw [HCB.out]
            go_wp2_with fail
            refine (l1Put_any n HPT.out _).mono ?_
            rintro e w2 ⟨a, m, c, rfl, ho, hbl⟩
            have hcv := conv_row (P := Tryd.prog) w2 Tryd.underlying34 Tryd.underlying5 Tryd.underlying9 (Row.of_owns ho)
            clear ho
            go_wp2
            go_ret
            exact ⟨congrArg (fun x => Ending.returned (Value.string x)) (bst_enc n), hbl⟩
    · have e : entL s.data.toList = [] := by
        refine ent_none ?_
        unfold nameN
        rw [if_neg n1, if_neg n2, if_neg n3, if_neg n4, if_neg n5]
        by_cases h3 : s.data.toList.take 2 = [35, 120]
        · exfalso
          have h4 : s.data.toList.take 1 = [35] := by
            have := congrArg (List.take 1) h3
            rw [List.take_take] at this
            simpa using this
          have h5 : 2 ≤ s.data.toList.length := by
            have := congrArg List.length h3
            rw [List.length_take] at this
            simp at this
            omega
          exact hy ⟨h4, by omega⟩
        · rw [if_neg h3]
          split
          · rename_i h4
            have h5 : s.size = 1 := by
              have := congrArg List.length h4
              rw [List.length_take, hl] at this
              simp at this
              rcases Decidable.not_and_iff_or_not.1 hy with h | h
              · exact absurd h4 h
              · omega
            rw [List.drop_eq_nil_of_le (by omega)]
            decide
          · decide
      rw [e]
      have HM : Hid (charB (-1) = false) := Lib.hid (by decide)
      have hny : ¬ (1 < s.size) ∨ s.data.toList.take 1 ≠ [35] := by
        rcases Decidable.not_and_iff_or_not.1 hy with h | h
        · exact .inr h
        · exact .inl h
      rcases hny with hq | hq
      · have hq' : (s.size : Int) ≤ 1 := by omega
        clear n1 n2 n3 n4 n5 ht2 hd2 hd1 hl hx hq hy e hnx
        go_enter Tryd.func15, Tryd.ntmps15
        go_wp2_with fail
        refine (specIsChar_any (-1) _).mono ?_
        rintro e w' ⟨rfl, rfl⟩
        rw [HM.out]
        go_wp2
        go_ret
        exact ⟨rfl, Below.refl _ _⟩
      · by_cases h1 : 1 < s.size
        · have hb35 : ((((s[0]'(Nat.lt_trans Nat.zero_lt_one h1)) : UInt8).toNat : Int) == 35) = false := by
            rw [beq_eq_false_iff_ne]
            intro h35
            apply hq
            have h5 : s[0]'(Nat.lt_trans Nat.zero_lt_one h1) = 35 := UInt8.toNat_inj.1 (show (s[0]'(Nat.lt_trans Nat.zero_lt_one h1)).toNat = (35 : UInt8).toNat by have : (35 : UInt8).toNat = 35 := rfl; omega)
            rw [List.take_succ_eq_append_getElem (by rw [hl]; omega), List.take_zero, List.nil_append]
            exact congrArg (fun x => [x]) h5
          have h1' : (1 : Int) < (s.size : Int) := by omega
          rcases hnx with hr | hr
          · have hr' : (s.size : Int) ≤ 2 := by omega
            clear n1 n2 n3 n4 n5 ht2 hd2 hd1 hl hx hq hy e hr
            go_enter Tryd.func15, Tryd.ntmps15
            go_wp2_with fail
            refine (specIsChar_any (-1) _).mono ?_
            rintro e w' ⟨rfl, rfl⟩
            rw [HM.out]
            go_wp2
            go_ret
            exact ⟨rfl, Below.refl _ _⟩
          · obtain ⟨x1, x2⟩ := str_isnt (by rw [ht2]; exact hr : (s.extract 0 2).data.toList ≠ [35, 120])
            clear n1 n2 n3 n4 n5 ht2 hd2 hd1 hl hx hq hy e hr
            by_cases h22 : (2 : Int) < (s.size : Int)
            · go_enter Tryd.func15, Tryd.ntmps15
              go_wp2_with fail
              refine (specIsChar_any (-1) _).mono ?_
              rintro e w' ⟨rfl, rfl⟩
              rw [HM.out]
              go_wp2
              go_ret
              exact ⟨rfl, Below.refl _ _⟩
            · go_enter Tryd.func15, Tryd.ntmps15
              go_wp2_with fail
              refine (specIsChar_any (-1) _).mono ?_
              rintro e w' ⟨rfl, rfl⟩
              rw [HM.out]
              go_wp2
              go_ret
              exact ⟨rfl, Below.refl _ _⟩
        · have hq' : (s.size : Int) ≤ 1 := by omega
          clear n1 n2 n3 n4 n5 ht2 hd2 hd1 hl hx hq hy e hnx h1
          go_enter Tryd.func15, Tryd.ntmps15
          go_wp2_with fail
          refine (specIsChar_any (-1) _).mono ?_
          rintro e w' ⟨rfl, rfl⟩
          rw [HM.out]
          go_wp2
          go_ret
          exact ⟨rfl, Below.refl _ _⟩
end Go.Proofs.YtkpbamjmdcbflaaDoor
