/- Contracts of signOf and signAhead. -/
import Derived.Test.YtkpbamjmdcbflaaDoorSign
namespace Go.Proofs.YtkpbamjmdcbflaaDoor
open Go.ChangeShapes Go.WideShapes Go.ChangeAt Go.RowKit Go.Shelf
set_option linter.unusedVariables false

theorem str_ne {s : ByteArray} {l : List UInt8} (h : s.data.toList ≠ l) : (s.toList == l) = false ∧ (l == s.toList) = false := by
  rw [ByteArray.toList_eq]
  refine ⟨?_, ?_⟩ <;> rw [beq_eq_false_iff_ne]
  · exact h
  · exact fun e => h e.symm

theorem prefix_take (l p : List UInt8) (k : Nat) (hk : p.length = k) : Lib.hasPrefix l p = decide (l.take k = p) := by
  unfold Lib.hasPrefix
  rw [Bool.eq_iff_iff, decide_eq_true_iff, List.isPrefixOf_iff_prefix, List.prefix_iff_eq_take, hk]
  exact eq_comm

set_option maxRecDepth 100000 in
theorem signOf_1 (w : World) : Calls Tryd.prog 18 #[.string ⟨#[97, 109, 112]⟩] w fun e w' => e = .returned (.int .i64 38) ∧ w' = w := by
  go_enter Tryd.func18, Tryd.ntmps18
  go_wp2
  go_ret
  exact ⟨rfl, rfl⟩
set_option maxRecDepth 100000 in
theorem signOf_2 (w : World) : Calls Tryd.prog 18 #[.string ⟨#[108, 116]⟩] w fun e w' => e = .returned (.int .i64 60) ∧ w' = w := by
  go_enter Tryd.func18, Tryd.ntmps18
  go_wp2
  go_ret
  exact ⟨rfl, rfl⟩
set_option maxRecDepth 100000 in
theorem signOf_3 (w : World) : Calls Tryd.prog 18 #[.string ⟨#[103, 116]⟩] w fun e w' => e = .returned (.int .i64 62) ∧ w' = w := by
  go_enter Tryd.func18, Tryd.ntmps18
  go_wp2
  go_ret
  exact ⟨rfl, rfl⟩
set_option maxRecDepth 100000 in
theorem signOf_4 (w : World) : Calls Tryd.prog 18 #[.string ⟨#[113, 117, 111, 116]⟩] w fun e w' => e = .returned (.int .i64 34) ∧ w' = w := by
  go_enter Tryd.func18, Tryd.ntmps18
  go_wp2
  go_ret
  exact ⟨rfl, rfl⟩
set_option maxRecDepth 100000 in
theorem signOf_5 (w : World) : Calls Tryd.prog 18 #[.string ⟨#[97, 112, 111, 115]⟩] w fun e w' => e = .returned (.int .i64 39) ∧ w' = w := by
  go_enter Tryd.func18, Tryd.ntmps18
  go_wp2
  go_ret
  exact ⟨rfl, rfl⟩

set_option maxHeartbeats 1600000 in
theorem signOf_any (s : ByteArray) (hs : s.size ≤ maxLen) (w : World) (sa : Addr) (hse : SynErr w sa) :
    Calls Tryd.prog 18 #[.string s] w fun e w' => e = .returned (.int .i64 (nameN s.data.toList)) ∧ Below w.heap.size w w' := by
  by_cases n1 : s.data.toList = [97, 109, 112]
  · have e : nameN s.data.toList = 38 := by rw [n1]; rfl
    rw [e]
    obtain rfl := bst_of n1
    exact (signOf_1 w).mono fun e w' ⟨a, b⟩ => ⟨a, by rw [b]; exact Below.refl _ _⟩
  by_cases n2 : s.data.toList = [108, 116]
  · have e : nameN s.data.toList = 60 := by rw [n2]; rfl
    rw [e]
    obtain rfl := bst_of n2
    exact (signOf_2 w).mono fun e w' ⟨a, b⟩ => ⟨a, by rw [b]; exact Below.refl _ _⟩
  by_cases n3 : s.data.toList = [103, 116]
  · have e : nameN s.data.toList = 62 := by rw [n3]; rfl
    rw [e]
    obtain rfl := bst_of n3
    exact (signOf_3 w).mono fun e w' ⟨a, b⟩ => ⟨a, by rw [b]; exact Below.refl _ _⟩
  by_cases n4 : s.data.toList = [113, 117, 111, 116]
  · have e : nameN s.data.toList = 34 := by rw [n4]; rfl
    rw [e]
    obtain rfl := bst_of n4
    exact (signOf_4 w).mono fun e w' ⟨a, b⟩ => ⟨a, by rw [b]; exact Below.refl _ _⟩
  by_cases n5 : s.data.toList = [97, 112, 111, 115]
  · have e : nameN s.data.toList = 39 := by rw [n5]; rfl
    rw [e]
    obtain rfl := bst_of n5
    exact (signOf_5 w).mono fun e w' ⟨a, b⟩ => ⟨a, by rw [b]; exact Below.refl _ _⟩
  obtain ⟨a1, b1⟩ := str_ne n1
  obtain ⟨a2, b2⟩ := str_ne n2
  obtain ⟨a3, b3⟩ := str_ne n3
  obtain ⟨a4, b4⟩ := str_ne n4
  obtain ⟨a5, b5⟩ := str_ne n5
  have HS := Lib.hid hse
  have hx : Lib.hasPrefix s.data.toList [35, 120] = decide (s.data.toList.take 2 = [35, 120]) := prefix_take _ _ 2 rfl
  have hd : Lib.hasPrefix s.data.toList [35] = decide (s.data.toList.take 1 = [35]) := prefix_take _ _ 1 rfl
  by_cases h1 : s.data.toList.take 2 = [35, 120]
  · have e : nameN s.data.toList = numberL 16 6 (s.data.toList.drop 2) := by
      unfold nameN
      rw [if_neg n1, if_neg n2, if_neg n3, if_neg n4, if_neg n5, if_pos h1]
    rw [e]
    rw [decide_eq_true h1] at hx
    have K := Lib.hid (Tryd.strings_CutPrefix s ⟨#[35, 120]⟩)
    have et : Lib.trimPrefix s.data.toList [35, 120] = s.data.toList.drop 2 := by unfold Lib.trimPrefix; rw [hx]; rfl
    change Hid (∀ W, Calls Tryd.prog 31 #[.string s, .string ⟨#[35, 120]⟩] W fun e w' => e = .returned (.tuple #[.string ⟨(Lib.trimPrefix s.data.toList [35, 120]).toArray⟩, .bool (Lib.hasPrefix s.data.toList [35, 120])]) ∧ w' = W) at K
    rw [hx, et] at K
    have KN := Lib.hid (numberIn_any 16 6 (by omega) (by omega) (bst (s.data.toList.drop 2)) (by unfold maxLen at hs ⊢; rw [bst_size, List.length_drop, show s.data.toList.length = s.size by simp]; omega) w sa HS.out)
    rw [bst_toList] at KN
    unfold bst at KN
    generalize (⟨(s.data.toList.drop 2).toArray⟩ : ByteArray) = d at K KN
    generalize numberL 16 6 (s.data.toList.drop 2) = v at KN
    clear n1 n2 n3 n4 n5 hse hx hd h1 e et
    go_enter Tryd.func18, Tryd.ntmps18
    go_wp2_with fail
    refine (K.out _).mono ?_
    rintro e w' ⟨rfl, rfl⟩
    go_wp2_with fail
    refine KN.out.mono ?_
    rintro e w1 ⟨rfl, hb⟩
    go_wp2
    go_ret
    exact ⟨rfl, hb⟩
  · have K := Lib.hid (Tryd.strings_CutPrefix s ⟨#[35, 120]⟩)
    rw [decide_eq_false h1] at hx
    have et : Lib.trimPrefix s.data.toList [35, 120] = s.data.toList := by unfold Lib.trimPrefix; rw [hx]; rfl
    change Hid (∀ W, Calls Tryd.prog 31 #[.string s, .string ⟨#[35, 120]⟩] W fun e w' => e = .returned (.tuple #[.string ⟨(Lib.trimPrefix s.data.toList [35, 120]).toArray⟩, .bool (Lib.hasPrefix s.data.toList [35, 120])]) ∧ w' = W) at K
    rw [hx, et] at K
    by_cases h2 : s.data.toList.take 1 = [35]
    · have e : nameN s.data.toList = numberL 10 7 (s.data.toList.drop 1) := by
        unfold nameN
        rw [if_neg n1, if_neg n2, if_neg n3, if_neg n4, if_neg n5, if_neg h1, if_pos h2]
      rw [e]
      rw [decide_eq_true h2] at hd
      have K2 := Lib.hid (Tryd.strings_CutPrefix s ⟨#[35]⟩)
      have et2 : Lib.trimPrefix s.data.toList [35] = s.data.toList.drop 1 := by unfold Lib.trimPrefix; rw [hd]; rfl
      change Hid (∀ W, Calls Tryd.prog 31 #[.string s, .string ⟨#[35]⟩] W fun e w' => e = .returned (.tuple #[.string ⟨(Lib.trimPrefix s.data.toList [35]).toArray⟩, .bool (Lib.hasPrefix s.data.toList [35])]) ∧ w' = W) at K2
      rw [hd, et2] at K2
      have KN := Lib.hid (numberIn_any 10 7 (by omega) (by omega) (bst (s.data.toList.drop 1)) (by unfold maxLen at hs ⊢; rw [bst_size, List.length_drop, show s.data.toList.length = s.size by simp]; omega) w sa HS.out)
      rw [bst_toList] at KN
      unfold bst at KN
      generalize (⟨(s.data.toList.drop 1).toArray⟩ : ByteArray) = d at K2 KN
      generalize numberL 10 7 (s.data.toList.drop 1) = v at KN
      clear n1 n2 n3 n4 n5 hse hx hd h1 h2 e et et2
      go_enter Tryd.func18, Tryd.ntmps18
      go_wp2_with fail
      refine (K.out _).mono ?_
      rintro e w' ⟨rfl, rfl⟩
      go_wp2_with fail
      refine (K2.out _).mono ?_
      rintro e w' ⟨rfl, rfl⟩
      go_wp2_with fail
      refine KN.out.mono ?_
      rintro e w1 ⟨rfl, hb⟩
      go_wp2
      go_ret
      exact ⟨rfl, hb⟩
    · have e : nameN s.data.toList = -1 := by
        unfold nameN
        rw [if_neg n1, if_neg n2, if_neg n3, if_neg n4, if_neg n5, if_neg h1, if_neg h2]
      rw [e]
      rw [decide_eq_false h2] at hd
      have K2 := Lib.hid (Tryd.strings_CutPrefix s ⟨#[35]⟩)
      have et2 : Lib.trimPrefix s.data.toList [35] = s.data.toList := by unfold Lib.trimPrefix; rw [hd]; rfl
      change Hid (∀ W, Calls Tryd.prog 31 #[.string s, .string ⟨#[35]⟩] W fun e w' => e = .returned (.tuple #[.string ⟨(Lib.trimPrefix s.data.toList [35]).toArray⟩, .bool (Lib.hasPrefix s.data.toList [35])]) ∧ w' = W) at K2
      rw [hd, et2] at K2
      clear n1 n2 n3 n4 n5 hse hx hd h1 h2 e et et2
      go_enter Tryd.func18, Tryd.ntmps18
      go_wp2_with fail
      refine (K.out _).mono ?_
      rintro e w' ⟨rfl, rfl⟩
      go_wp2_with fail
      refine (K2.out _).mono ?_
      rintro e w' ⟨rfl, rfl⟩
      go_wp2
      go_ret
      exact ⟨rfl, Below.refl _ _⟩

/-- a sign and how many bytes it has -/
def TwoInts (a b : Int) (w : World) (e : Ending) (w' : World) : Prop := e = .returned (.tuple #[.int .i64 a, .int .i64 b]) ∧ Below w.heap.size w w'

set_option maxHeartbeats 1600000 in
theorem signAhead_any (s : ByteArray) (hs : s.size ≤ 100000) (hp : 0 < s.size) (ho : okB s.data.toList = true) (w : World) (sa : Addr) (hse : SynErr w sa) :
    Calls Tryd.prog 9 #[.string s, .int .i32 (firstR s.data.toList : Int)] w (TwoInts (aheadP s.data.toList) (aheadK s.data.toList) w) := by
  have hne : s.data.toList ≠ [] := by
    intro h
    have := congrArg List.length h
    rw [show s.data.toList.length = s.size by simp] at this
    change s.size = 0 at this
    omega
  have hrl := runeLen_first s.data.toList hne ho
  have hle : firstR s.data.toList ≤ 1114111 := Lib.decodeL_rune _
  unfold aheadP aheadK TwoInts
  generalize firstK s.data.toList = k at hrl
  have hdr : (s.extract 1 s.size).data.toList = s.data.toList.drop 1 := Lib.extract_to_end _ _
  have hsz : (s.extract 1 s.size).size = s.size - 1 := by rw [ByteArray.size_extract]; omega
  have hdl : (s.data.toList.drop 1).length = s.size - 1 := by rw [← hdr, ← hsz]; simp
  have hix := index_semi (s.extract 1 s.size)
  rw [hdr, hsz] at hix
  rw [hdl]
  by_cases h60 : firstR s.data.toList = 60
  · rw [if_pos h60, if_pos h60, h60]
    clear hne hrl hle ho hdr hsz hdl hix h60 hse
    go_enter Tryd.func9, Tryd.ntmps9
    go_wp2
    go_ret2
    exact ⟨rfl, Below.refl _ _⟩
  · rw [if_neg h60, if_neg h60]
    by_cases h38 : firstR s.data.toList = 38
    · rw [if_pos h38, if_pos h38, h38]
      have s1 : (1 : Int) ≤ (s.size : Int) := by omega
      by_cases hh : semi (s.data.toList.drop 1) < s.size - 1
      · rw [if_pos hh, if_pos hh]
        rw [if_pos hh] at hix
        have K := Lib.hid (cut_hit (s.extract 1 s.size) (by unfold maxLen; omega) (semi (s.data.toList.drop 1)) (by rw [hsz]; exact hh) (by rw [hdr]; exact hix))
        have hex : ((s.extract 1 s.size).extract 0 (semi (s.data.toList.drop 1))).data.toList = (s.data.toList.drop 1).take (semi (s.data.toList.drop 1)) := by
          rw [Lib.extract_data, hdr, List.drop_zero, Nat.sub_zero]
        have hes : ((s.extract 1 s.size).extract 0 (semi (s.data.toList.drop 1))).size = semi (s.data.toList.drop 1) := by rw [ByteArray.size_extract, hsz]; omega
        have KN := Lib.hid (fun W (hW : SynErr W sa) => signOf_any ((s.extract 1 s.size).extract 0 (semi (s.data.toList.drop 1))) (by rw [hes]; unfold maxLen; omega) W sa hW)
        rw [hex] at KN
        have HS := Lib.hid hse
        generalize (s.extract 1 s.size).extract 0 (semi (s.data.toList.drop 1)) = nm at K KN hes
        generalize (s.extract 1 s.size).extract (semi (s.data.toList.drop 1) + 1) (s.extract 1 s.size).size = rest at K
        generalize nameN ((s.data.toList.drop 1).take (semi (s.data.toList.drop 1))) = v at KN
        generalize semi (s.data.toList.drop 1) = j at hes hh
        have hj : (nm.size : Int) ≤ 100000 := by omega
        have HJ := Lib.hid hes
        clear hne hrl hle ho hdr hsz hdl hix h60 hse hex hes h38 hh
        go_enter Tryd.func9, Tryd.ntmps9
        go_wp2_with fail
        refine (K.out _).mono ?_
        rintro e w1 ⟨rfl, hb⟩
        go_wp2_with fail
        refine (KN.out _ (HS.out.kept hb)).mono ?_
        rintro e w2 ⟨rfl, hb2⟩
        go_wp2
        go_ret2
        exact ⟨by rw [HJ.out]; rfl, below_then hb hb2⟩
      · rw [if_neg hh, if_neg hh]
        rw [if_neg hh] at hix
        have K := Lib.hid (cut_miss (s.extract 1 s.size) (by rw [hdr]; exact hix))
        clear hne hrl hle ho hdr hsz hdl hix h60 hse h38 hh
        go_enter Tryd.func9, Tryd.ntmps9
        go_wp2_with fail
        refine (K.out _).mono ?_
        rintro e w1 ⟨rfl, hb⟩
        go_wp2
        go_ret2
        exact ⟨rfl, hb⟩
    · rw [if_neg h38, if_neg h38]
      have q1 : ((firstR s.data.toList : Int) == 60) = false := by rw [beq_eq_false_iff_ne]; omega
      have q2 : ((firstR s.data.toList : Int) == 38) = false := by rw [beq_eq_false_iff_ne]; omega
      have K := Lib.hid (Tryd.utf8_RuneLen (firstR s.data.toList : Int))
      rw [hrl] at K
      generalize firstR s.data.toList = r at *
      have q3 : (r : Int) ≤ 1114111 := by omega
      clear hne hrl hle ho hdr hsz hdl hix h60 hse h38
      go_enter Tryd.func9, Tryd.ntmps9
      go_wp2_with fail
      refine (K.out _).mono ?_
      rintro e w' ⟨rfl, rfl⟩
      go_wp2
      go_ret2
      exact ⟨rfl, Below.refl _ _⟩
end Go.Proofs.YtkpbamjmdcbflaaDoor
