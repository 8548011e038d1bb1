/- Contracts of the model's l3Hex and l3Number. -/
import Derived.Test.YticpebpicdboaaaGreatDoorGY12
import Derived.Laws.IdiomStrings
import Derived.Lib.IndexBytes
import Derived.Test.YticpebpicdboaaaGreatDoorGY11
import Derived.Test.YticpebpicdboaaaGreatDoorGY8
import Derived.Test.YticpebpicdboaaaGreatDoorGY9
import Derived.Test.YticpebpicdboaaaGreatDoorGY10
namespace Go.Proofs.YticpebpicdboaaaGreatDoor
open Go.ChangeShapes Go.WideShapes Go.ChangeAt Go.RowKit
set_option linter.unusedVariables false

theorem ret_int {k : IntKind} {a b : Int} (h : a = b) : Ending.returned (.int k a) = .returned (.int k b) := by rw [h]
theorem l3Hex_any (c : UInt8) (w : World) :
    Calls Tryz.prog 288 #[.int .u8 (c.toNat : Int)] w fun e w' => e = .returned (.int .i64 (hexV c)) ∧ w' = w := by
  have h256 := c.toNat_lt
  have e : hexV c = if 48 ≤ (c.toNat : Int) ∧ (c.toNat : Int) ≤ 57 then (c.toNat : Int) - 48 else if 97 ≤ (c.toNat : Int) ∧ (c.toNat : Int) ≤ 102 then (c.toNat : Int) - 97 + 10 else if 65 ≤ (c.toNat : Int) ∧ (c.toNat : Int) ≤ 70 then (c.toNat : Int) - 65 + 10 else -1 := by
    unfold hexV
    repeat' split
    all_goals first | rfl | omega
  rw [e]
  have x0 : 0 ≤ (c.toNat : Int) := by omega
  have x1 : (c.toNat : Int) ≤ 255 := by omega
  generalize (c.toNat : Int) = x at x0 x1
  clear e h256
  by_cases h1 : 48 ≤ x ∧ x ≤ 57
  · rw [if_pos h1]
    obtain ⟨a, b⟩ := h1
    go_enter Tryz.func288, Tryz.ntmps288
    go_wp2
    go_ret
    exact ⟨rfl, rfl⟩
  · rw [if_neg h1]
    by_cases h2 : 97 ≤ x ∧ x ≤ 102
    · rw [if_pos h2]
      obtain ⟨a, b⟩ := h2
      clear h1
      go_enter Tryz.func288, Tryz.ntmps288
      go_wp2
      go_ret
      exact ⟨rfl, rfl⟩
    · rw [if_neg h2]
      by_cases h3 : 65 ≤ x ∧ x ≤ 70
      · rw [if_pos h3]
        obtain ⟨a, b⟩ := h3
        clear h1 h2
        go_enter Tryz.func288, Tryz.ntmps288
        go_wp2
        go_ret
        exact ⟨rfl, rfl⟩
      · rw [if_neg h3]
        have hq : (x < 48 ∨ 57 < x) ∧ (x < 97 ∨ 102 < x) ∧ (x < 65 ∨ 70 < x) := by omega
        have HQ := Lib.hid hq
        clear h1 h2 h3 hq
        go_enter Tryz.func288, Tryz.ntmps288
        go_wp2
        all_goals first | (exfalso; have := HQ.out; omega) | (go_ret; exact ⟨rfl, rfl⟩)

theorem numF_all {base : Int} {l : List UInt8} {k : Nat} (h : (l.take k).all (digB base) = true) (hk : k = l.length) (h1 : 1 ≤ l.length) {most : Nat} (h2 : l.length ≤ most) : numberL base most l = numF base 0 (l.take k) := by
  subst hk
  rw [List.take_length]
  unfold numberL
  rw [if_neg (by omega)]
theorem take_snoc' (s : ByteArray) (k : Nat) (h : k < s.size) : s.data.toList.take (k + 1) = s.data.toList.take k ++ [s[k]] := by
  rw [List.take_succ_eq_append_getElem (by simpa using h)]
  rfl
theorem numF_snoc' (base : Int) : ∀ (l : List UInt8) (n : Int) (c : UInt8), (l ++ [c]).all (digB base) = true → numF base n (l ++ [c]) = numF base n l * base + hexV c
  | [], n, c, h => by
    simp at h
    simp [numF, h]
  | d :: t, n, c, h => by
    rw [List.cons_append, List.all_cons, Bool.and_eq_true] at h
    have ih := numF_snoc' base t (n * base + hexV d) c h.2
    simp only [List.cons_append, numF, h.1, if_true]
    exact ih
theorem seven' {base : Int} {k : Nat} (hb : base = 10 ∨ base = 16) (hk : k ≤ 6) : (1 : Int) * base ^ k ≤ 16777216 := by
  have h1 := pow_small base k 6 (by omega) hk
  rcases hb with rfl | rfl
  · have : (10 : Int) ^ 6 = 1000000 := by decide
    omega
  · have : (16 : Int) ^ 6 = 16777216 := by decide
    omega
theorem all_take_false' {l : List UInt8} {k : Nat} {c : UInt8} {p : UInt8 → Bool} (h : l.take (k + 1) = l.take k ++ [c]) (hc : p c = false) : l.all p = false := by
  rw [← List.take_append_drop (k + 1) l, h, List.all_append, List.all_append]
  simp [hc]

set_option maxHeartbeats 1600000 in
theorem l3Number10 (most : Nat) (hm : most ≤ 7) (s : ByteArray) (hs : s.size ≤ maxLen) (w : World) :
    Calls Tryz.prog 247 #[.string s, .int .i64 10, .int .i64 most] w fun e w' => e = .returned (.int .i64 (numberL 10 most s.data.toList)) ∧ w' = w := by
  unfold maxLen at hs
  have hl : s.data.toList.length = s.size := by simp
  have hm' : (most : Int) ≤ 7 := by omega
  by_cases h0 : s.size < 1
  · have e : numberL 10 most s.data.toList = -1 := by unfold numberL; rw [if_pos (by omega)]
    rw [e]
    have h0' : (s.size : Int) < 1 := by omega
    clear e hl h0
    go_enter Tryz.func247, Tryz.ntmps247
    go_wp2
    go_ret
    exact ⟨rfl, rfl⟩
  · have h1 : 1 ≤ (s.size : Int) := by omega
    by_cases h2 : most < s.size
    · have e : numberL 10 most s.data.toList = -1 := by unfold numberL; rw [if_pos (by omega)]
      rw [e]
      have h2' : (most : Int) < (s.size : Int) := by omega
      clear e hl h0 h2
      go_enter Tryz.func247, Tryz.ntmps247
      go_wp2
      go_ret
      exact ⟨rfl, rfl⟩
    · have h2' : (s.size : Int) ≤ (most : Int) := by omega
      generalize hr : numberL 10 most s.data.toList = r
      have HR := Lib.hid hr
      have HL := Lib.hid hl
      have h7 : s.size ≤ 7 := by omega
      clear hr hl h0
      go_enter Tryz.func247, Tryz.ntmps247
      go_wp2
      go_loop [7, 8] (fun n i => ∃ (k : Nat) (a : Int), k ≤ s.size ∧ i = .int .i64 k ∧ n = .int .i64 a ∧ Hid ((s.data.toList.take k).all (digB 10) = true ∧ a = numF 10 0 (s.data.toList.take k))) (fun _ i => s.size - (intOf i).toNat)
      case atStart => exact ⟨0, 0, Nat.zero_le _, rfl, rfl, by simp, rfl⟩
      case round =>
        obtain ⟨k, a, hk, rfl, rfl, hh⟩ := hrel
        by_cases hkn : k < s.size
        · have hbd := numF_bd 10 (by omega) _ 0 hh.out.1 (by omega)
          rw [← hh.out.2, List.length_take, HL.out, Nat.min_eq_left hk] at hbd
          have hsv := seven' (base := 10) (k := k) (by omega) (by omega)
          obtain ⟨a0, a1⟩ := hbd
          have a2 : a < 16777216 := by omega
          have HS := Lib.hid (take_snoc' s k hkn)
          have KH := Lib.hid (l3Hex_any s[k])
          have hv := hexV_le s[k]
          cases hdg : digB 10 s[k]
          · have hr : r = -1 := by
              rw [← HR.out]
              unfold numberL
              rw [if_neg (by rw [HL.out]; omega)]
              exact numF_lt _ _ 0 (all_take_false' HS.out hdg)
            subst hr
            unfold digB at hdg
            clear hsv a1 hh HS
            have hq : hexV s[k] < 0 ∨ 10 ≤ hexV s[k] := by
              simp at hdg
              omega
            generalize hexV s[k] = v at KH hv hq
            clear hdg
            rcases hq with hq | hq
            · go_wp2_with (go_at_call 288; refine (KH.out _).mono ?_; rintro e w' ⟨rfl, rfl⟩)
              all_goals go_ret
              all_goals exact ⟨rfl, rfl⟩
            · have hq' : 0 ≤ v := by omega
              go_wp2_with (go_at_call 288; refine (KH.out _).mono ?_; rintro e w' ⟨rfl, rfl⟩)
              all_goals go_ret
              all_goals exact ⟨rfl, rfl⟩
          · have hall : (s.data.toList.take (k + 1)).all (digB 10) = true := by rw [HS.out, List.all_append, hh.out.1]; simp [hdg]
            have hnum : numF 10 0 (s.data.toList.take (k + 1)) = a * 10 + hexV s[k] := by
              rw [HS.out] at hall ⊢
              rw [numF_snoc' _ _ _ _ hall, ← hh.out.2]
            have HN := Lib.hid (And.intro hall hnum.symm)
            unfold digB at hdg
            simp only [Bool.and_eq_true, decide_eq_true_eq] at hdg
            obtain ⟨v0, v1⟩ := hdg
            clear hsv a1 hh HS hall hnum
            generalize hexV s[k] = v at KH hv HN v0 v1
            go_wp2_with (go_at_call 288; refine (KH.out _).mono ?_; rintro e w' ⟨rfl, rfl⟩)
            all_goals
              go_round
              case rel => exact ⟨k + 1, a * 10 + v, by omega, by go_num, rfl, HN⟩
              case measure => simp [intOf]; omega
        · obtain rfl : k = s.size := by omega
          have hr : r = a := by rw [← HR.out, numF_all hh.out.1 HL.out.symm (by rw [HL.out]; omega) (by rw [HL.out]; omega), ← hh.out.2]
          subst hr
          clear hh
          go_wp2
          go_ret
          exact ⟨rfl, rfl⟩

set_option maxHeartbeats 1600000 in
theorem l3Number16 (most : Nat) (hm : most ≤ 7) (s : ByteArray) (hs : s.size ≤ maxLen) (w : World) :
    Calls Tryz.prog 247 #[.string s, .int .i64 16, .int .i64 most] w fun e w' => e = .returned (.int .i64 (numberL 16 most s.data.toList)) ∧ w' = w := by
  unfold maxLen at hs
  have hl : s.data.toList.length = s.size := by simp
  have hm' : (most : Int) ≤ 7 := by omega
  by_cases h0 : s.size < 1
  · have e : numberL 16 most s.data.toList = -1 := by unfold numberL; rw [if_pos (by omega)]
    rw [e]
    have h0' : (s.size : Int) < 1 := by omega
    clear e hl h0
    go_enter Tryz.func247, Tryz.ntmps247
    go_wp2
    go_ret
    exact ⟨rfl, rfl⟩
  · have h1 : 1 ≤ (s.size : Int) := by omega
    by_cases h2 : most < s.size
    · have e : numberL 16 most s.data.toList = -1 := by unfold numberL; rw [if_pos (by omega)]
      rw [e]
      have h2' : (most : Int) < (s.size : Int) := by omega
      clear e hl h0 h2
      go_enter Tryz.func247, Tryz.ntmps247
      go_wp2
      go_ret
      exact ⟨rfl, rfl⟩
    · have h2' : (s.size : Int) ≤ (most : Int) := by omega
      generalize hr : numberL 16 most s.data.toList = r
      have HR := Lib.hid hr
      have HL := Lib.hid hl
      have h7 : s.size ≤ 7 := by omega
      clear hr hl h0
      go_enter Tryz.func247, Tryz.ntmps247
      go_wp2
      go_loop [7, 8] (fun n i => ∃ (k : Nat) (a : Int), k ≤ s.size ∧ i = .int .i64 k ∧ n = .int .i64 a ∧ Hid ((s.data.toList.take k).all (digB 16) = true ∧ a = numF 16 0 (s.data.toList.take k))) (fun _ i => s.size - (intOf i).toNat)
      case atStart => exact ⟨0, 0, Nat.zero_le _, rfl, rfl, by simp, rfl⟩
      case round =>
        obtain ⟨k, a, hk, rfl, rfl, hh⟩ := hrel
        by_cases hkn : k < s.size
        · have hbd := numF_bd 16 (by omega) _ 0 hh.out.1 (by omega)
          rw [← hh.out.2, List.length_take, HL.out, Nat.min_eq_left hk] at hbd
          have hsv := seven' (base := 16) (k := k) (by omega) (by omega)
          obtain ⟨a0, a1⟩ := hbd
          have a2 : a < 16777216 := by omega
          have HS := Lib.hid (take_snoc' s k hkn)
          have KH := Lib.hid (l3Hex_any s[k])
          have hv := hexV_le s[k]
          cases hdg : digB 16 s[k]
          · have hr : r = -1 := by
              rw [← HR.out]
              unfold numberL
              rw [if_neg (by rw [HL.out]; omega)]
              exact numF_lt _ _ 0 (all_take_false' HS.out hdg)
            subst hr
            unfold digB at hdg
            clear hsv a1 hh HS
            have hq : hexV s[k] < 0 ∨ 16 ≤ hexV s[k] := by
              simp at hdg
              omega
            generalize hexV s[k] = v at KH hv hq
            clear hdg
            rcases hq with hq | hq
            · go_wp2_with (go_at_call 288; refine (KH.out _).mono ?_; rintro e w' ⟨rfl, rfl⟩)
              all_goals go_ret
              all_goals exact ⟨rfl, rfl⟩
            · have hq' : 0 ≤ v := by omega
              go_wp2_with (go_at_call 288; refine (KH.out _).mono ?_; rintro e w' ⟨rfl, rfl⟩)
              all_goals go_ret
              all_goals exact ⟨rfl, rfl⟩
          · have hall : (s.data.toList.take (k + 1)).all (digB 16) = true := by rw [HS.out, List.all_append, hh.out.1]; simp [hdg]
            have hnum : numF 16 0 (s.data.toList.take (k + 1)) = a * 16 + hexV s[k] := by
              rw [HS.out] at hall ⊢
              rw [numF_snoc' _ _ _ _ hall, ← hh.out.2]
            have HN := Lib.hid (And.intro hall hnum.symm)
            unfold digB at hdg
            simp only [Bool.and_eq_true, decide_eq_true_eq] at hdg
            obtain ⟨v0, v1⟩ := hdg
            clear hsv a1 hh HS hall hnum
            generalize hexV s[k] = v at KH hv HN v0 v1
            go_wp2_with (go_at_call 288; refine (KH.out _).mono ?_; rintro e w' ⟨rfl, rfl⟩)
            all_goals
              go_round
              case rel => exact ⟨k + 1, a * 16 + v, by omega, by go_num, rfl, HN⟩
              case measure => simp [intOf]; omega
        · obtain rfl : k = s.size := by omega
          have hr : r = a := by rw [← HR.out, numF_all hh.out.1 HL.out.symm (by rw [HL.out]; omega) (by rw [HL.out]; omega), ← hh.out.2]
          subst hr
          clear hh
          go_wp2
          go_ret
          exact ⟨rfl, rfl⟩
end Go.Proofs.YticpebpicdboaaaGreatDoor

/- Words that are numbers: the model's l7Read, NumberOf. -/
namespace Go.Proofs.YticpebpicdboaaaGreatDoor
open Go.ChangeShapes Go.WideShapes Go.ChangeAt Go.RowKit
set_option linter.unusedVariables false

/-- the digits of a word -/
def digitsL (l : List UInt8) : List UInt8 := if l.take 1 = [45] then l.drop 1 else l
def signedN (l : List UInt8) (n : Int) : Int := if l.take 1 = [45] then -n else n
/-- the number that a word is -/
def numOf (l : List UInt8) : Option Int :=
  if numberL 10 3 (digitsL l) < 0 then none
  else if (numT (signedN l (numberL 10 3 (digitsL l)))).data.toList = l then some (signedN l (numberL 10 3 (digitsL l))) else none
theorem dig_val (x : Nat) (h : x < 10) : digB 10 (UInt8.ofNat (48 + x)) = true ∧ hexV (UInt8.ofNat (48 + x)) = x := by
  have hx : x = 0 ∨ x = 1 ∨ x = 2 ∨ x = 3 ∨ x = 4 ∨ x = 5 ∨ x = 6 ∨ x = 7 ∨ x = 8 ∨ x = 9 := by omega
  rcases hx with rfl | rfl | rfl | rfl | rfl | rfl | rfl | rfl | rfl | rfl <;> decide
theorem numF_dig (n : Nat) : (digT n).data.toList.all (digB 10) = true ∧ numF 10 0 (digT n).data.toList = n := by
  induction n using Nat.strongRecOn with
  | ind n ih =>
    by_cases h : n < 10
    · obtain ⟨h1, h2⟩ := dig_val n h
      rw [digT_small h, dig_data n h]
      refine ⟨by simp only [List.all_cons, List.all_nil, Bool.and_true]; exact h1, ?_⟩
      simp only [numF, h1, if_true]
      omega
    · obtain ⟨i1, i2⟩ := ih (n / 10) (by omega)
      obtain ⟨h1, h2⟩ := dig_val (n % 10) (by omega)
      rw [digT_data h]
      have ha : ((digT (n / 10)).data.toList ++ [UInt8.ofNat (48 + n % 10)]).all (digB 10) = true := by rw [List.all_append, i1]; simp only [List.all_cons, List.all_nil, Bool.and_true, Bool.true_and]; exact h1
      refine ⟨ha, ?_⟩
      rw [numF_snoc' _ _ _ _ ha, i2, h2]
      omega
theorem digT_head (n : Nat) : ∃ c t, (digT n).data.toList = c :: t ∧ c ≠ 45 := by
  have h := (numF_dig n).1
  have hp := digT_pos n
  have hl : (digT n).data.toList.length = (digT n).size := by simp
  cases hd : (digT n).data.toList with
  | nil => rw [hd] at hl; simp at hl; omega
  | cons c t =>
    rw [hd, List.all_cons, Bool.and_eq_true] at h
    refine ⟨c, t, rfl, ?_⟩
    rintro rfl
    exact absurd h.1 (by decide)
/-- a number is told by its text -/
theorem numOf_text (m : Int) (h1 : -999 ≤ m) (h2 : m ≤ 999) : numOf (numT m).data.toList = some m := by
  have hs := digT_size 2 m.natAbs (by have : (10 : Nat) ^ (2 + 1) = 1000 := by decide
                                      omega)
  have hp := digT_pos m.natAbs
  have hl : (digT m.natAbs).data.toList.length = (digT m.natAbs).size := by simp
  obtain ⟨c, t, e, hc⟩ := digT_head m.natAbs
  have hn : numberL 10 3 (digT m.natAbs).data.toList = m.natAbs := by
    unfold numberL
    rw [if_neg (by omega)]
    exact (numF_dig _).2
  by_cases hm : m < 0
  · have hT : (numT m).data.toList = 45 :: (digT m.natAbs).data.toList := by
      unfold numT
      rw [if_pos hm, ByteArray.data_append, Array.toList_append]
      rfl
    have hd : digitsL (numT m).data.toList = (digT m.natAbs).data.toList := by unfold digitsL; rw [hT]; rfl
    have hg : signedN (numT m).data.toList (m.natAbs : Int) = m := by unfold signedN; rw [hT]; simp; omega
    unfold numOf
    rw [hd, hn, hg, if_neg (by omega), if_pos rfl]
  · have hT : (numT m).data.toList = (digT m.natAbs).data.toList := by unfold numT; rw [if_neg hm]
    have hk : (numT m).data.toList.take 1 ≠ [45] := by rw [hT, e]; simpa using hc
    have hd : digitsL (numT m).data.toList = (digT m.natAbs).data.toList := by unfold digitsL; rw [if_neg hk, hT]
    have hg : signedN (numT m).data.toList (m.natAbs : Int) = m := by unfold signedN; rw [if_neg hk]; omega
    unfold numOf
    rw [hd, hn, hg, if_neg (by omega), if_pos rfl]
theorem numOf_some {l : List UInt8} {m : Int} (h : numOf l = some m) : -999 ≤ m ∧ m ≤ 999 ∧ (numT m).data.toList = l := by
  unfold numOf at h
  split at h
  · cases h
  · rename_i h0
    split at h
    · rename_i h1
      cases h
      refine ⟨?_, ?_, h1⟩
      all_goals
        rcases number_cases 10 3 (digitsL l) (by decide) with e | ⟨_, b, _, c, d⟩
        · omega
        · have hp := pow_small 10 _ 3 (by decide) b
          have h3 : (10 : Int) ^ 3 = 1000 := by decide
          unfold signedN
          split <;> omega
    · cases h
/-- no number has that text -/
theorem numOf_none {l : List UInt8} (h : numOf l = none) (m : Int) (h1 : -999 ≤ m) (h2 : m ≤ 999) : (numT m).data.toList ≠ l := by
  intro e
  have := numOf_text m h1 h2
  rw [e, h] at this
  cases this

theorem nfirst_is {s : ByteArray} {c : UInt8} (h : s.data.toList.take 1 = [c]) : ∃ h : 0 < s.size, s[0] = c := by
  have hl : s.data.toList.length = s.size := by simp
  have h0 : 0 < s.size := by
    cases hx : s.data.toList with
    | nil => rw [hx] at h; simp at h
    | cons a t => rw [hx] at hl; simp at hl; omega
  refine ⟨h0, ?_⟩
  have := head_byte s h0
  rw [← this]
  generalize s.data.toList = l at h
  cases l with
  | nil => simp at h
  | cons a t => simpa using h
theorem nfirst_isnt {s : ByteArray} {c : UInt8} (h : s.data.toList.take 1 ≠ [c]) (h0 : 0 < s.size) : s[0] ≠ c := by
  intro hb
  have := head_byte s h0
  rw [hb] at this
  have hl : s.data.toList.length = s.size := by simp
  generalize s.data.toList = l at h this hl
  cases l with
  | nil => simp at hl; omega
  | cons a t => simp at this; simp [this] at h

/-- what l7Read answers -/
def ReadN (l : List UInt8) (w : World) (e : Ending) (w' : World) : Prop :=
  ∃ (m : Int) (b : Bool), e = .returned (.tuple #[.int .i64 m, .bool b]) ∧ numOf l = (if b then some m else none) ∧ Below w.heap.size w w'

set_option maxHeartbeats 1600000 in
theorem l7Read_any (s : ByteArray) (hs : s.size ≤ maxLen) (w : World) : Calls Tryz.prog 234 #[.string s] w (ReadN s.data.toList w) := by
  have hl : s.data.toList.length = s.size := by simp
  have hm := hs
  unfold maxLen at hm
  have hd1 : (s.extract 1 s.size).data.toList = s.data.toList.drop 1 := Lib.extract_to_end _ _
  generalize hr : numberL 10 3 (digitsL s.data.toList) = n
  have hbd : -1 ≤ n ∧ n ≤ 999 := by
    subst hr
    rcases number_cases 10 3 (digitsL s.data.toList) (by decide) with e | ⟨_, b, _, c, d⟩
    · rw [e]; omega
    · have hp := pow_small 10 _ 3 (by decide) b
      have h3 : (10 : Int) ^ 3 = 1000 := by decide
      omega
  by_cases hg : s.data.toList.take 1 = [45]
  · obtain ⟨h0, hb⟩ := nfirst_is hg
    have hb' : ((s[0].toNat : Int) == 45) = true := by rw [hb]; rfl
    have KN := Lib.hid (l3Number10 3 (by decide) (s.extract 1 s.size) (by unfold maxLen; rw [ByteArray.size_extract]; omega))
    have hdg : digitsL s.data.toList = s.data.toList.drop 1 := by unfold digitsL; rw [if_pos hg]
    rw [hd1, ← hdg, hr] at KN
    have hsz : (s.extract 1 s.size).size = s.size - 1 := by rw [ByteArray.size_extract]; omega
    have hsg : signedN s.data.toList n = -n := by unfold signedN; rw [if_pos hg]
    by_cases hn : n < 0
    · have ho : numOf s.data.toList = none := by unfold numOf; rw [hr, if_pos hn]
      have HO := Lib.hid ho
      clear hd1 hdg hsg ho hb hg hl hr
      go_enter Tryz.func234, Tryz.ntmps234
      go_wp2_with fail
      refine (KN.out _).mono ?_
      rintro e w1 ⟨rfl, rfl⟩
      go_wp2
      go_ret2
      exact ⟨_, false, rfl, by rw [HO.out]; rfl, Below.refl _ _⟩
    · have KT := Lib.hid (l7Number_any (-n) (by omega) (by omega))
      unfold TextB at KT
      have ho : numOf s.data.toList = if (numT (-n)).toList == s.toList then some (-n) else none := by
        unfold numOf
        rw [hr, if_neg hn, hsg, ByteArray.toList_eq, ByteArray.toList_eq]
        by_cases hx : (numT (-n)).data.toList = s.data.toList
        · rw [if_pos hx, if_pos (by simpa using hx)]
        · rw [if_neg hx, if_neg (by simpa using hx)]
      have HO := Lib.hid ho
      generalize numT (-n) = T at KT HO
      have hlt : ((s.extract 1 s.size).size : Int) < (s.size : Int) := by omega
      clear hd1 hdg hsg ho hb hg hl hr
      go_enter Tryz.func234, Tryz.ntmps234
      go_wp2_with fail
      refine (KN.out _).mono ?_
      rintro e w1 ⟨rfl, rfl⟩
      go_wp2_with fail
      refine (KT.out _).mono ?_
      rintro e w2 ⟨rfl, hb2⟩
      go_wp2
      go_ret2
      exact ⟨_, _, rfl, HO.out, hb2⟩
  · have hdg : digitsL s.data.toList = s.data.toList := by unfold digitsL; rw [if_neg hg]
    have KN := Lib.hid (l3Number10 3 (by decide) s hs)
    have hrr := hr
    rw [hdg] at hrr
    rw [hrr] at KN
    have hsg : signedN s.data.toList n = n := by unfold signedN; rw [if_neg hg]
    have hc : s.size = 0 ∨ ∃ h : 0 < s.size, s[0] ≠ 45 := by
      by_cases h0 : s.size = 0
      · exact .inl h0
      · exact .inr ⟨by omega, nfirst_isnt hg _⟩
    by_cases hn : n < 0
    · have ho : numOf s.data.toList = none := by unfold numOf; rw [hr, if_pos hn]
      have HO := Lib.hid ho
      clear hd1 hdg hsg ho hg hl hr hrr
      rcases hc with h0 | ⟨h0, hb⟩
      · go_enter Tryz.func234, Tryz.ntmps234
        go_wp2_with fail
        refine (KN.out _).mono ?_
        rintro e w1 ⟨rfl, rfl⟩
        go_wp2
        go_ret2
        exact ⟨_, false, rfl, by rw [HO.out]; rfl, Below.refl _ _⟩
      · have hb' : ((s[0].toNat : Int) == 45) = false := by rw [beq_eq_false_iff_ne]; intro e; exact hb (UInt8.toNat_inj.1 (by simpa using (by omega : s[0].toNat = 45)))
        go_enter Tryz.func234, Tryz.ntmps234
        go_wp2_with fail
        refine (KN.out _).mono ?_
        rintro e w1 ⟨rfl, rfl⟩
        go_wp2
        go_ret2
        exact ⟨_, false, rfl, by rw [HO.out]; rfl, Below.refl _ _⟩
    · have KT := Lib.hid (l7Number_any n (by omega) (by omega))
      unfold TextB at KT
      have ho : numOf s.data.toList = if (numT n).toList == s.toList then some n else none := by
        unfold numOf
        rw [hr, if_neg hn, hsg, ByteArray.toList_eq, ByteArray.toList_eq]
        by_cases hx : (numT n).data.toList = s.data.toList
        · rw [if_pos hx, if_pos (by simpa using hx)]
        · rw [if_neg hx, if_neg (by simpa using hx)]
      have HO := Lib.hid ho
      generalize numT n = T at KT HO
      clear hd1 hdg hsg ho hg hl hr hrr
      rcases hc with h0 | ⟨h0, hb⟩
      · go_enter Tryz.func234, Tryz.ntmps234
        go_wp2_with fail
        refine (KN.out _).mono ?_
        rintro e w1 ⟨rfl, rfl⟩
        go_wp2_with fail
        refine (KT.out _).mono ?_
        rintro e w2 ⟨rfl, hb2⟩
        go_wp2
        go_ret2
        exact ⟨_, _, rfl, HO.out, hb2⟩
      · have hb' : ((s[0].toNat : Int) == 45) = false := by rw [beq_eq_false_iff_ne]; intro e; exact hb (UInt8.toNat_inj.1 (by simpa using (by omega : s[0].toNat = 45)))
        go_enter Tryz.func234, Tryz.ntmps234
        go_wp2_with fail
        refine (KN.out _).mono ?_
        rintro e w1 ⟨rfl, rfl⟩
        go_wp2_with fail
        refine (KT.out _).mono ?_
        rintro e w2 ⟨rfl, hb2⟩
        go_wp2
        go_ret2
        exact ⟨_, _, rfl, HO.out, hb2⟩

end Go.Proofs.YticpebpicdboaaaGreatDoor

/- Plain facts on the tree of a presence; two bare items appended to a row that grows. -/
namespace Go.Proofs.YticpebpicdboaaaGreatDoor
open Go.ChangeShapes Go.WideShapes Go.ChangeAt Go.RowKit
set_option linter.unusedVariables false

/-- the client's space -/
def csT : ByteArray := ⟨#[106, 97, 98, 98, 101, 114, 58, 99, 108, 105, 101, 110, 116]⟩
def prT : ByteArray := ⟨#[112, 114, 101, 115, 101, 110, 99, 101]⟩
def fromT : ByteArray := ⟨#[102, 114, 111, 109]⟩
def toT : ByteArray := ⟨#[116, 111]⟩
def typeT : ByteArray := ⟨#[116, 121, 112, 101]⟩
def showNm : ByteArray := ⟨#[115, 104, 111, 119]⟩
def statusNm : ByteArray := ⟨#[115, 116, 97, 116, 117, 115]⟩
def prioNm : ByteArray := ⟨#[112, 114, 105, 111, 114, 105, 116, 121]⟩
/-- an element with a text in it, if there is one -/
def partL (nm t : ByteArray) : List It := if t.toList.isEmpty then [] else [⟨1, ⟨#[]⟩, csT, nm, []⟩, ⟨2, t, ⟨#[]⟩, ⟨#[]⟩, []⟩]
def prioT (n : Int) : ByteArray := if n = 0 then ⟨#[]⟩ else numT n
def attrs3 (p : Pr) : List At := addAt (addAt (addAt [] fromT p.sender) toT p.goal) typeT (kindW p.kind)
def rootI (p : Pr) : It := ⟨0, ⟨#[]⟩, csT, prT, attrs3 p⟩
def headL (p : Pr) : List It := (([rootI p] ++ partL showNm (showW p.shown)) ++ partL statusNm p.status) ++ partL prioNm (prioT p.prio)
def treeL (p : Pr) : List It := headL p ++ movedTo p.more 0 p.more.length 1
/-- those that say anything -/
def filledL (l : List At) : List At := l.filter fun x => !x.value.toList.isEmpty
theorem filled_snoc (l : List At) (x : At) : filledL (l ++ [x]) = if x.value.toList.isEmpty then filledL l else filledL l ++ [x] := by
  unfold filledL
  rw [List.filter_append]
  cases h : x.value.toList.isEmpty <;> simp [h]
theorem filled_three (p : Pr) : filledL [⟨fromT, p.sender⟩, ⟨toT, p.goal⟩, ⟨typeT, kindW p.kind⟩] = attrs3 p := by
  have e : ([⟨fromT, p.sender⟩, ⟨toT, p.goal⟩, ⟨typeT, kindW p.kind⟩] : List At) = (([] ++ [⟨fromT, p.sender⟩]) ++ [⟨toT, p.goal⟩]) ++ [⟨typeT, kindW p.kind⟩] := rfl
  rw [e, filled_snoc, filled_snoc, filled_snoc]
  rfl
theorem filled_le (l : List At) : (filledL l).length ≤ l.length := List.length_filter_le _ _
theorem partL_len (nm t : ByteArray) : (partL nm t).length ≤ 2 := by unfold partL; split <;> simp
theorem headL_len (p : Pr) : (headL p).length ≤ 7 := by
  have h1 := partL_len showNm (showW p.shown)
  have h2 := partL_len statusNm p.status
  have h3 := partL_len prioNm (prioT p.prio)
  unfold headL
  simp only [List.length_append, List.length_cons, List.length_nil]
  omega
theorem headL_pos (p : Pr) : 1 ≤ (headL p).length := by
  unfold headL
  simp only [List.length_append, List.length_cons, List.length_nil]
  omega

/-- behind an append of two items without attributes -/
theorem GrowIts.two {w w0 w1 : World} {B : Nat} {v v' : Value} {n : Nat} {l : List It} {A : Nat → Option Addr} {N C : Nat → Nat} {x y : It}
    (h : GrowIts w B v n l A N C) (hw : Below w.heap.size w w0) (hx : x.attrs = []) (hy : y.attrs = []) (hB : B ≤ w.heap.size)
    (hr : w1.ownsRow B 77 5 v' (n + 2) (flatI l A N C ++ [.int .i64 x.depth, .string x.text, .string x.space, .string x.name, .slice none 0 0, .int .i64 y.depth, .string y.text, .string y.space, .string y.name, .slice none 0 0])) (hg : w0.grownBy w1 v.ownBlock)
    (hv : v'.ownBlock = v.ownBlock ∨ ∃ g, v'.ownBlock = some g ∧ w0.heap.size ≤ g) :
    GrowIts w1 B v' (n + 2) (l ++ [x, y]) (putA (l.length + 1) none (putA l.length none A)) (putA (l.length + 1) 0 (putA l.length 0 N)) (putA (l.length + 1) 0 (putA l.length 0 C)) := by
  have hon := Only.grown hg
  have hs0 := hw.size
  have hs1 := hg.size
  have hvlt : ∀ g, v.ownBlock = some g → g < w.heap.size := fun g hgb => (h.row.lt g hgb).2
  have hl : ∀ i, i < l.length → (l ++ [x, y]).getD i dIt = l.getD i dIt := fun i hi => by simp [List.getD_eq_getElem?_getD, List.getElem?_append_left hi]
  have hold : ∀ i, i < l.length → ∀ z, A i = some z → N i ≠ 0 → B ≤ z.block ∧ z.block < w.heap.size := fun i hi z hz hne => (h.ats i hi).1.in hz hne
  have hput : ∀ {α : Type} (u : α) (F : Nat → α) (i : Nat), i < l.length → putA (l.length + 1) u (putA l.length u F) i = F i := fun u F i hi => by
    unfold putA
    rw [if_neg (by omega), if_neg (by omega)]
  have hput2 : ∀ {α : Type} (u : α) (F : Nat → α) (i : Nat), l.length ≤ i → i < l.length + 2 → putA (l.length + 1) u (putA l.length u F) i = u := fun u F i h1 h2 => by
    unfold putA
    by_cases e : i = l.length + 1
    · rw [if_pos e]
    · rw [if_neg e, if_pos (by omega)]
  have hlen : ∀ i, i < (l ++ [x, y]).length → i < l.length ∨ (l.length ≤ i ∧ i < l.length + 2) := fun i hi => by
    simp only [List.length_append, List.length_cons, List.length_nil] at hi
    omega
  refine ⟨?_, fun i hi => ?_, fun i hi z hz hne => ?_, fun i j hi hj hij z z' hz hz' hn hn' => ?_⟩
  · have e : l ++ [x, y] = (l ++ [x]) ++ [y] := by simp
    have e2 : (l ++ [x]).length = l.length + 1 := by simp
    rw [e, ← e2, flatI_snoc, flatI_snoc, List.append_assoc]
    exact hr
  · rcases hlen i hi with h1 | ⟨h1, h2⟩
    · rw [hput _ _ _ h1, hput _ _ _ h1, hput _ _ _ h1, hl i h1]
      have h0 := (h.ats i h1).1.only (Only.below (P := fun _ => False) hw) fun _ _ _ h => h
      have h3 := h0.only hon fun z hz hne hq => h.apart i h1 z hz hne hq.symm
      exact ⟨⟨h3.ats, h3.own.imp id fun ⟨b, g1, g2, g3, g4⟩ => ⟨b, g1, g2, by omega, g4⟩⟩, (h.ats i h1).2⟩
    · rw [hput2 _ _ _ h1 h2, hput2 _ _ _ h1 h2, hput2 _ _ _ h1 h2]
      have ea : ((l ++ [x, y]).getD i dIt).attrs = [] := by
        rw [List.getD_eq_getElem?_getD, List.getElem?_append_right h1]
        rcases (show i - l.length = 0 ∨ i - l.length = 1 by omega) with e | e
        · rw [e]; exact hx
        · rw [e]; exact hy
      rw [ea]
      exact ⟨bareAts _ _ _, fun _ => rfl⟩
  · rcases hlen i hi with h1 | ⟨h1, h2⟩
    · rw [hput _ _ _ h1] at hz hne
      have g1 := hold i h1 z hz hne
      rcases hv with hv | ⟨g, hv, hg2⟩
      · rw [hv]
        exact h.apart i h1 z hz hne
      · rw [hv]
        intro hq
        simp only [Option.some.injEq] at hq
        omega
    · rw [hput2 _ _ _ h1 h2] at hz
      cases hz
  · rcases hlen i hi with h1 | ⟨h1, h2⟩
    · rcases hlen j hj with h3 | ⟨h3, h4⟩
      · rw [hput _ _ _ h1] at hz hn
        rw [hput _ _ _ h3] at hz' hn'
        exact h.each i j h1 h3 hij z z' hz hz' hn hn'
      · rw [hput2 _ _ _ h3 h4] at hz'
        cases hz'
    · rw [hput2 _ _ _ h1 h2] at hz
      cases hz
theorem itemCells2 (W : World) (v0 v1 v2 v3 v4 v5 v6 v7 v8 v9 : Value) (j : Nat) (u : Value) (hj : [v0, v1, v2, v3, v4, v5, v6, v7, v8, v9][j]? = some u) : ((W.alloc (.cells #[v0, v1, v2, v3, v4, v5, v6, v7, v8, v9] 77))).cell? (Addr.add ⟨W.heap.size, 0, none⟩ j) = some u := by
  match j, hj with
  | 0, hj => simp at hj; subst hj; simp [Addr.add]
  | 1, hj => simp at hj; subst hj; simp [Addr.add]
  | 2, hj => simp at hj; subst hj; simp [Addr.add]
  | 3, hj => simp at hj; subst hj; simp [Addr.add]
  | 4, hj => simp at hj; subst hj; simp [Addr.add]
  | 5, hj => simp at hj; subst hj; simp [Addr.add]
  | 6, hj => simp at hj; subst hj; simp [Addr.add]
  | 7, hj => simp at hj; subst hj; simp [Addr.add]
  | 8, hj => simp at hj; subst hj; simp [Addr.add]
  | 9, hj => simp at hj; subst hj; simp [Addr.add]
end Go.Proofs.YticpebpicdboaaaGreatDoor

/- toAttr, toAttrS, toItem, toItemS: what came in is copied. -/
namespace Go.Proofs.YticpebpicdboaaaGreatDoor
open Go.ChangeShapes Go.WideShapes Go.ChangeAt Go.RowKit
set_option linter.unusedVariables false

set_option maxHeartbeats 400000 in
theorem toAttr_any (s t : ByteArray) (w : World) :
    Calls Tryz.prog 278 #[.agg #[.string s, .string t]] w fun e w' => e = .returned (.agg #[.string s, .string t]) ∧ Below w.heap.size w w' := by
  go_enter Tryz.func278, Tryz.ntmps278
  go_wp2
  exact bodyPost_ret (v := .agg #[.string s, .string t]) (by simp [results, Tryz.results278, go_sem]) rfl ⟨rfl, below3 _ _ _ _⟩

set_option maxRecDepth 100000 in
set_option maxHeartbeats 1600000 in
theorem toAttrS_any (a : Option Addr) (n c : Nat) (l : List At) (w : World) (hn : l.length ≤ 1048576) (h : AtsAt w a n c l) :
    Calls Tryz.prog 220 #[.slice a n c] w (AtsRes w l) := by
  obtain ⟨i0, hi, hz0, hz1, hz2⟩ := info_parts attrInfo
  have HR := Lib.hid h.row
  have HS := Lib.hid h.size
  have HL := Lib.hid h.len
  have hn' : n ≤ 1048576 := by have := h.len; omega
  clear h hn
  go_enter Tryz.func220, Tryz.ntmps220
  go_wp2_with (at_make; refine wpList_make_full _ rfl _ _ 72 rfl w.heap.size 75 i0 _ 2 Tryz.underlying72 hi hz0 hz1 .i64 .i64 (n : Int) (n : Int) n rfl rfl rfl rfl ?c1 ?c2 ?c3 ?_)
  case c1 => rw [hz2]; omega
  case c2 => unfold maxLen; omega
  case c3 => exact Nat.le_refl _
  intro w1 ho1 hg1
  have HRoom := Lib.hid (room_made ho1)
  have HB1 := Lib.hid (below_made hg1)
  clear ho1 hg1
  go_wp2
  go_loopw [4] (fun i wr => ∃ j : Nat, j ≤ n ∧ i = .int .i64 j ∧ Room wr w.heap.size (n * 2) ∧ (∀ i, i < j → wr.cell? ⟨w.heap.size, i * 2, none⟩ = some (.string (l.getD i dAt).name) ∧ wr.cell? ⟨w.heap.size, i * 2 + 1, none⟩ = some (.string (l.getD i dAt).value)) ∧ Below w.heap.size w wr) (fun i _ => n - (intOf i).toNat)
  case atStart => exact ⟨0, Nat.zero_le _, rfl, HRoom.out, fun i hi => by omega, HB1.out⟩
  case round =>
    obtain ⟨j, hj, rfl, hroom, hdone, hb⟩ := hrel
    by_cases hlt : j < n
    · rcases HR.out with h0 | ⟨b, o, rfl, h3, h4⟩
      · omega
      · have d0 : wr.cell? ⟨b, o + j * 2, none⟩ = some (.string (l.getD j dAt).name) := (hb.cell (by exact h3)).trans (h4 j hlt).1
        have d1 : wr.cell? ⟨b, o + j * 2 + 1, none⟩ = some (.string (l.getD j dAt).value) := (hb.cell (by exact h3)).trans (h4 j hlt).2
        have HX := Lib.hid (show ∃ x, x = l.getD j dAt from ⟨_, rfl⟩)
        obtain ⟨s, hs⟩ : ∃ s, (l.getD j dAt).name = s := ⟨_, rfl⟩
        obtain ⟨t, ht⟩ : ∃ t, (l.getD j dAt).value = t := ⟨_, rfl⟩
        rw [hs] at d0
        rw [ht] at d1
        have HS1 := Lib.hid hs
        have HT1 := Lib.hid ht
        have HROOM := Lib.hid hroom
        have HDONE := Lib.hid hdone
        have HB := Lib.hid hb
        clear hs ht h4 hroom hdone hb
        go_wp2_with fail
        refine (toAttr_any s t _).mono ?_
        rintro e w2 ⟨rfl, hb2⟩
        have hr2 := HROOM.out.below hb2
        obtain ⟨⟨v0, q0⟩, f0⟩ := hr2.2 (j * 2) (by omega)
        obtain ⟨⟨v1, q1⟩, f1⟩ := hr2.2 (j * 2 + 1) (by omega)
        have HR2 := Lib.hid hr2
        have HB2 := Lib.hid hb2
        clear hr2 hb2 d0 d1
        go_wp2
        go_roundw
        case rel =>
          exact ⟨j + 1, by omega, by go_num, (HR2.out.set _ _).set _ _, ats_step HR2.out hlt HS1.out HT1.out (fun i hi => ⟨(HB2.out.cell (p := ⟨w.heap.size, i * 2, none⟩) HROOM.out.1).trans (HDONE.out i hi).1, (HB2.out.cell (p := ⟨w.heap.size, i * 2 + 1, none⟩) HROOM.out.1).trans (HDONE.out i hi).2⟩),
            ((HB.out.trans (HB2.out.mono HB.out.size)).setCell (p := ⟨w.heap.size, j * 2, none⟩) (Nat.le_refl _) _).setCell (p := ⟨w.heap.size, j * 2 + 1, none⟩) (Nat.le_refl _) _⟩
        case measure => simp [intOf]; omega
    · obtain rfl : j = n := by omega
      have HROOM := Lib.hid hroom
      have HDONE := Lib.hid hdone
      have HB := Lib.hid hb
      clear hroom hdone hb
      go_wp2
      go_ret
      exact ⟨_, _, _, rfl, ⟨HL.out, by omega, HS.out, .inr ⟨w.heap.size, 0, rfl, HROOM.out.1, fun i hi => by rw [Nat.zero_add]; exact HDONE.out i hi⟩⟩, fun x hx => by cases hx; exact Nat.le_refl _, HB.out⟩

set_option maxHeartbeats 800000 in
theorem toItem_any (x : It) (a : Option Addr) (n c : Nat) (w : World) (hn : x.attrs.length ≤ 1048576) (h : AtsAt w a n c x.attrs) :
    Calls Tryz.prog 129 #[.agg #[.int .i64 x.depth, .string x.text, .string x.space, .string x.name, .slice a n c]] w (ItRes w x) := by
  obtain ⟨d, s, t, u, l⟩ := x
  dsimp only at hn h ⊢
  have K := Lib.hid (fun W (hb : Below w.heap.size w W) => toAttrS_any a n c l W hn (h.below hb))
  clear h
  go_enter Tryz.func129, Tryz.ntmps129
  go_wp2_with fail
  refine (K.out _ (below3 _ _ _ _)).mono ?_
  rintro e w1 ⟨a1, n1, c1, rfl, hat, hsep, hb⟩
  obtain ⟨hc, hf⟩ := bcell hb
  have hz : w.heap.size + 2 < w1.heap.size := by have := hb.size; simp at this; omega
  have HAT := Lib.hid hat
  have HSEP := Lib.hid hsep
  have HB := Lib.hid hb
  clear hat hsep hb
  go_wp2
  refine bodyPost_ret (v := .agg #[.int .i64 d, .string s, .string t, .string u, .slice a1 n1 c1]) (by simp [results, Tryz.results129, go_sem, hc]) rfl ⟨_, _, _, rfl, ?_, ?_, ?_⟩
  · have hs : ∀ y, a1 = some y → w.heap.size + 2 < y.block := fun y hy => by have := HSEP.out y hy; simp at this; omega
    have hs1 : ∀ y, a1 = some y → w.heap.size + 1 < y.block := fun y hy => by have := hs y hy; omega
    exact (((((HAT.out.set hs).set hs1).set hs1).set hs1).set hs1).set hs1
  · intro y hy
    have := HSEP.out y hy
    simp at this
    omega
  · have hb := below_then (below3 _ _ _ _) HB.out
    exact (((((hb.setCell (by simp; omega) _).setCell (by simp) _).setCell (by simp) _).setCell (by simp) _).setCell (by simp) _).setCell (by simp) _

set_option maxRecDepth 100000 in
set_option maxHeartbeats 1600000 in
theorem toItemS_any (a : Option Addr) (n c : Nat) (l : List It) (w : World) (hn : SmallIts l) (h : ItsAt w a n c l) :
    Calls Tryz.prog 59 #[.slice a n c] w (ItsRes w l) := by
  obtain ⟨i0, hi, hz0, hz1, hz2⟩ := info_parts itemInfo
  have HR := Lib.hid h.row
  have HL := Lib.hid h.len
  have hn' : n ≤ 1048576 := by have := h.len; have := hn.1; omega
  have HN := Lib.hid (fun i hi => (hn.2 i hi).2.1)
  clear h hn
  go_enter Tryz.func59, Tryz.ntmps59
  go_wp2_with (at_make; refine wpList_make_full _ rfl _ _ 24 rfl w.heap.size 77 i0 _ 5 Tryz.underlying24 hi hz0 hz1 .i64 .i64 (n : Int) (n : Int) n rfl rfl rfl rfl ?c1 ?c2 ?c3 ?_)
  case c1 => rw [hz2]; omega
  case c2 => unfold maxLen; omega
  case c3 => exact Nat.le_refl _
  intro w1 ho1 hg1
  have HRoom := Lib.hid (room_made ho1)
  have HB1 := Lib.hid (below_made hg1)
  clear ho1 hg1
  go_wp2
  go_loopw [4] (fun i wr => ∃ j : Nat, j ≤ n ∧ i = .int .i64 j ∧ Room wr w.heap.size (n * 5) ∧ (∀ i, i < j → ItNew wr w.heap.size (i * 5) (l.getD i dIt)) ∧ Below w.heap.size w wr) (fun i _ => n - (intOf i).toNat)
  case atStart => exact ⟨0, Nat.zero_le _, rfl, HRoom.out, fun i hi => by omega, HB1.out⟩
  case round =>
    obtain ⟨j, hj, rfl, hroom, hdone, hb⟩ := hrel
    by_cases hlt : j < n
    · rcases HR.out with h0 | ⟨b, o, rfl, h4⟩
      · omega
      · have hi4 := (h4 j hlt).below hb
        have d0 := hi4.c0
        have d1 := hi4.c1
        have d2 := hi4.c2
        have d3 := hi4.c3
        obtain ⟨a4, n4, c4, d4, hat4⟩ := hi4.c4
        have K := Lib.hid (fun W => toItem_any (l.getD j dIt) a4 n4 c4 W (HN.out j (by have := HL.out; omega)))
        have HWF := Lib.hid hi4.wf
        have HSZ := Lib.hid hi4.size
        have HAT4 := Lib.hid hat4
        obtain ⟨x, hx⟩ : ∃ x, l.getD j dIt = x := ⟨_, rfl⟩
        rw [hx] at d0 d1 d2 d3 K HWF HSZ HAT4
        have HX := Lib.hid hx
        have HROOM := Lib.hid hroom
        have HDONE := Lib.hid hdone
        have HB := Lib.hid hb
        obtain ⟨xd, xt, xs, xn, xa⟩ := x
        dsimp only at d0 d1 d2 d3 K HWF HSZ HAT4
        clear hx hi4 hat4 h4 hroom hdone hb
        go_wp2_with fail
        refine (K.out _ HAT4.out).mono ?_
        rintro e w2 ⟨a5, n5, c5, rfl, hat5, hsep5, hb2⟩
        have hr2 := HROOM.out.below hb2
        obtain ⟨⟨v0, q0⟩, f0⟩ := hr2.2 (j * 5) (by omega)
        obtain ⟨⟨v1, q1⟩, f1⟩ := hr2.2 (j * 5 + 1) (by omega)
        obtain ⟨⟨v2, q2⟩, f2⟩ := hr2.2 (j * 5 + 2) (by omega)
        obtain ⟨⟨v3, q3⟩, f3⟩ := hr2.2 (j * 5 + 3) (by omega)
        obtain ⟨⟨v4, q4⟩, f4⟩ := hr2.2 (j * 5 + 4) (by omega)
        have HR2 := Lib.hid hr2
        have HB2 := Lib.hid hb2
        have HAT5 := Lib.hid hat5
        have HSEP := Lib.hid (fun y hy => Nat.lt_of_lt_of_le HROOM.out.1 (hsep5 y hy))
        clear hr2 hb2 hat5 hsep5 d0 d1 d2 d3 d4
        go_wp2
        go_roundw
        case rel =>
          refine ⟨j + 1, by omega, by go_num, ((((HR2.out.set _ _).set _ _).set _ _).set _ _).set _ _, its_step (x := ⟨xd, xt, xs, xn, xa⟩) HR2.out hlt HX.out HWF.out HSZ.out HAT5.out HSEP.out (fun i hi => (HDONE.out i hi).below HB2.out), ?_⟩
          have hb3 := HB.out.trans (HB2.out.mono HB.out.size)
          exact ((((hb3.setCell (Nat.le_refl _) _).setCell (Nat.le_refl _) _).setCell (Nat.le_refl _) _).setCell (Nat.le_refl _) _).setCell (Nat.le_refl _) _
        case measure => simp [intOf]; omega
    · obtain rfl : j = n := by omega
      have HROOM := Lib.hid hroom
      have HDONE := Lib.hid hdone
      have HB := Lib.hid hb
      clear hroom hdone hb
      go_wp2
      go_ret
      exact ⟨_, _, _, rfl, ⟨HL.out, by omega, .inr ⟨w.heap.size, 0, rfl, fun i hi => by rw [Nat.zero_add]; exact (HDONE.out i hi).it⟩⟩, HB.out⟩
end Go.Proofs.YticpebpicdboaaaGreatDoor

/- toAttrS, toItem, toItemS: the copy is of one's own, row by row. -/
namespace Go.Proofs.YticpebpicdboaaaGreatDoor
open Go.ChangeShapes Go.WideShapes Go.ChangeAt Go.RowKit
set_option linter.unusedVariables false

/-- a new slice of attributes of its own is handed back -/
def AtsOwn (w : World) (l : List At) (e : Ending) (w' : World) : Prop := ∃ a n c, e = .returned (.slice a n c) ∧ OwnAts w' w.heap.size w'.heap.size a n c l ∧ (a = none → c = 0) ∧ Below w.heap.size w w'
def ItOwn (w : World) (x : It) (e : Ending) (w' : World) : Prop := ∃ a n c, e = .returned (.agg #[.int .i64 x.depth, .string x.text, .string x.space, .string x.name, .slice a n c]) ∧ OwnAts w' w.heap.size w'.heap.size a n c x.attrs ∧ (a = none → c = 0) ∧ Below w.heap.size w w'
def ItsOwn (w : World) (l : List It) (e : Ending) (w' : World) : Prop := ∃ a n c, e = .returned (.slice a n c) ∧ OwnIts w' w.heap.size w'.heap.size a n c l ∧ Below w.heap.size w w'

set_option maxRecDepth 100000 in
set_option maxHeartbeats 1600000 in
theorem toAttrS_own (a : Option Addr) (n c : Nat) (l : List At) (w : World) (hn : l.length ≤ 1048576) (h : AtsAt w a n c l) :
    Calls Tryz.prog 220 #[.slice a n c] w (AtsOwn w l) := by
  obtain ⟨i0, hi, hz0, hz1, hz2⟩ := info_parts attrInfo
  have HR := Lib.hid h.row
  have HS := Lib.hid h.size
  have HL := Lib.hid h.len
  have hn' : n ≤ 1048576 := by have := h.len; omega
  clear h hn
  go_enter Tryz.func220, Tryz.ntmps220
  go_wp2_with (at_make; refine wpList_make_full _ rfl _ _ 72 rfl w.heap.size 75 i0 _ 2 Tryz.underlying72 hi hz0 hz1 .i64 .i64 (n : Int) (n : Int) n rfl rfl rfl rfl ?c1 ?c2 ?c3 ?_)
  case c1 => rw [hz2]; omega
  case c2 => unfold maxLen; omega
  case c3 => exact Nat.le_refl _
  intro w1 ho1 hg1
  have HRoom := Lib.hid (room_made ho1)
  have HB1 := Lib.hid (below_made hg1)
  clear ho1 hg1
  go_wp2
  go_loopw [4] (fun i wr => ∃ j : Nat, j ≤ n ∧ i = .int .i64 j ∧ Room wr w.heap.size (n * 2) ∧ (∀ i, i < j → wr.cell? ⟨w.heap.size, i * 2, none⟩ = some (.string (l.getD i dAt).name) ∧ wr.cell? ⟨w.heap.size, i * 2 + 1, none⟩ = some (.string (l.getD i dAt).value)) ∧ Below w.heap.size w wr) (fun i _ => n - (intOf i).toNat)
  case atStart => exact ⟨0, Nat.zero_le _, rfl, HRoom.out, fun i hi => by omega, HB1.out⟩
  case round =>
    obtain ⟨j, hj, rfl, hroom, hdone, hb⟩ := hrel
    by_cases hlt : j < n
    · rcases HR.out with h0 | ⟨b, o, rfl, h3, h4⟩
      · omega
      · have d0 : wr.cell? ⟨b, o + j * 2, none⟩ = some (.string (l.getD j dAt).name) := (hb.cell (by exact h3)).trans (h4 j hlt).1
        have d1 : wr.cell? ⟨b, o + j * 2 + 1, none⟩ = some (.string (l.getD j dAt).value) := (hb.cell (by exact h3)).trans (h4 j hlt).2
        have HX := Lib.hid (show ∃ x, x = l.getD j dAt from ⟨_, rfl⟩)
        obtain ⟨s, hs⟩ : ∃ s, (l.getD j dAt).name = s := ⟨_, rfl⟩
        obtain ⟨t, ht⟩ : ∃ t, (l.getD j dAt).value = t := ⟨_, rfl⟩
        rw [hs] at d0
        rw [ht] at d1
        have HS1 := Lib.hid hs
        have HT1 := Lib.hid ht
        have HROOM := Lib.hid hroom
        have HDONE := Lib.hid hdone
        have HB := Lib.hid hb
        clear hs ht h4 hroom hdone hb
        go_wp2_with fail
        refine (toAttr_any s t _).mono ?_
        rintro e w2 ⟨rfl, hb2⟩
        have hr2 := HROOM.out.below hb2
        obtain ⟨⟨v0, q0⟩, f0⟩ := hr2.2 (j * 2) (by omega)
        obtain ⟨⟨v1, q1⟩, f1⟩ := hr2.2 (j * 2 + 1) (by omega)
        have HR2 := Lib.hid hr2
        have HB2 := Lib.hid hb2
        clear hr2 hb2 d0 d1
        go_wp2
        go_roundw
        case rel =>
          exact ⟨j + 1, by omega, by go_num, (HR2.out.set _ _).set _ _, ats_step HR2.out hlt HS1.out HT1.out (fun i hi => ⟨(HB2.out.cell (p := ⟨w.heap.size, i * 2, none⟩) HROOM.out.1).trans (HDONE.out i hi).1, (HB2.out.cell (p := ⟨w.heap.size, i * 2 + 1, none⟩) HROOM.out.1).trans (HDONE.out i hi).2⟩),
            ((HB.out.trans (HB2.out.mono HB.out.size)).setCell (p := ⟨w.heap.size, j * 2, none⟩) (Nat.le_refl _) _).setCell (p := ⟨w.heap.size, j * 2 + 1, none⟩) (Nat.le_refl _) _⟩
        case measure => simp [intOf]; omega
    · obtain rfl : j = n := by omega
      have HROOM := Lib.hid hroom
      have HDONE := Lib.hid hdone
      have HB := Lib.hid hb
      clear hroom hdone hb
      go_wp2
      go_ret
      exact ⟨_, _, _, rfl, ⟨⟨HL.out, by omega, HS.out, .inr ⟨w.heap.size, 0, rfl, HROOM.out.1, fun i hi => by rw [Nat.zero_add]; exact HDONE.out i hi⟩⟩, .inr ⟨w.heap.size, rfl, Nat.le_refl _, HROOM.out.1, HROOM.out⟩⟩, (fun e => by cases e), HB.out⟩

set_option maxHeartbeats 800000 in
theorem toItem_own (x : It) (a : Option Addr) (n c : Nat) (w : World) (hn : x.attrs.length ≤ 1048576) (h : AtsAt w a n c x.attrs) :
    Calls Tryz.prog 129 #[.agg #[.int .i64 x.depth, .string x.text, .string x.space, .string x.name, .slice a n c]] w (ItOwn w x) := by
  obtain ⟨d, s, t, u, l⟩ := x
  dsimp only at hn h ⊢
  have K := Lib.hid (fun W (hb : Below w.heap.size w W) => toAttrS_own a n c l W hn (h.below hb))
  clear h
  go_enter Tryz.func129, Tryz.ntmps129
  go_wp2_with fail
  refine (K.out _ (below3 _ _ _ _)).mono ?_
  rintro e w1 ⟨a1, n1, c1, rfl, hat, hnil, hb⟩
  have HNIL := Lib.hid hnil
  clear hnil
  obtain ⟨hc, hf⟩ := bcell hb
  have hz : w.heap.size + 2 < w1.heap.size := by have := hb.size; simp at this; omega
  have HAT := Lib.hid hat
  have HB := Lib.hid hb
  clear hat hb
  go_wp2
  refine bodyPost_ret (v := .agg #[.int .i64 d, .string s, .string t, .string u, .slice a1 n1 c1]) (by simp [results, Tryz.results129, go_sem, hc]) rfl ⟨_, _, _, rfl, ?_, HNIL.out, ?_⟩
  · have hs : ∀ y, a1 = some y → n1 ≠ 0 → w.heap.size + 2 < y.block := fun y hy hne => by
      obtain ⟨b, hb, h1, _, _⟩ := HAT.out.own.resolve_left hne
      rw [hy] at hb
      cases hb
      simp at h1
      show w.heap.size + 2 < b
      omega
    have st : ∀ (W : World) (p : Addr) (v : Value), p.block ≤ w.heap.size + 2 → OwnAts W w.heap.size w1.heap.size a1 n1 c1 l → OwnAts (W.setCell p v) w.heap.size w1.heap.size a1 n1 c1 l := fun W p v hp h =>
      h.only (Only.set (P := fun i => i ≤ w.heap.size + 2) W p v hp) fun y hy hne hle => by have := hs y hy hne; omega
    have h0 : OwnAts w1 w.heap.size w1.heap.size a1 n1 c1 l := ⟨HAT.out.ats, HAT.out.own.imp id fun ⟨b, h1, h2, h3, h4⟩ => ⟨b, h1, by simp at h2; omega, h3, h4⟩⟩
    have := st _ ⟨w.heap.size + 1, 4, none⟩ (.slice a1 n1 c1) (by show w.heap.size + 1 ≤ _; omega) (st _ ⟨w.heap.size + 1, 3, none⟩ (.string u) (by show w.heap.size + 1 ≤ _; omega) (st _ ⟨w.heap.size + 1, 2, none⟩ (.string t) (by show w.heap.size + 1 ≤ _; omega) (st _ ⟨w.heap.size + 1, 1, none⟩ (.string s) (by show w.heap.size + 1 ≤ _; omega) (st _ ⟨w.heap.size + 1, 0, none⟩ (.int .i64 d) (by show w.heap.size + 1 ≤ _; omega) (st _ ⟨w.heap.size + 1 + 1, 4, none⟩ (.slice a1 n1 c1) (by show w.heap.size + 1 + 1 ≤ _; omega) h0)))))
    simpa using this
  · have hb := below_then (below3 _ _ _ _) HB.out
    exact (((((hb.setCell (by simp; omega) _).setCell (by simp) _).setCell (by simp) _).setCell (by simp) _).setCell (by simp) _).setCell (by simp) _

set_option maxRecDepth 100000 in
set_option maxHeartbeats 1600000 in
theorem toItemS_own (a : Option Addr) (n c : Nat) (l : List It) (w : World) (hn : SmallIts l) (h : ItsAt w a n c l) :
    Calls Tryz.prog 59 #[.slice a n c] w (ItsOwn w l) := by
  obtain ⟨i0, hi, hz0, hz1, hz2⟩ := info_parts itemInfo
  have HR := Lib.hid h.row
  have HL := Lib.hid h.len
  have hn' : n ≤ 1048576 := by have := h.len; have := hn.1; omega
  have HN := Lib.hid (fun i hi => (hn.2 i hi).2.1)
  have HIT : Hid (∀ i, i < n → (-9223372036854775808 ≤ (l.getD i dIt).depth ∧ (l.getD i dIt).depth ≤ 9223372036854775807) ∧ ((l.getD i dIt).text.size ≤ 9223372036854775807 ∧ (l.getD i dIt).space.size ≤ 9223372036854775807 ∧ (l.getD i dIt).name.size ≤ 9223372036854775807)) := Lib.hid fun i hi => by
    obtain ⟨b, o, _, h4⟩ := h.row.resolve_left (by omega)
    exact ⟨(h4 i hi).wf, (h4 i hi).size⟩
  clear h hn
  go_enter Tryz.func59, Tryz.ntmps59
  go_wp2_with (at_make; refine wpList_make_full _ rfl _ _ 24 rfl w.heap.size 77 i0 _ 5 Tryz.underlying24 hi hz0 hz1 .i64 .i64 (n : Int) (n : Int) n rfl rfl rfl rfl ?c1 ?c2 ?c3 ?_)
  case c1 => rw [hz2]; omega
  case c2 => unfold maxLen; omega
  case c3 => exact Nat.le_refl _
  intro w1 ho1 hg1
  have HRoom := Lib.hid (room_made ho1)
  have HB1 := Lib.hid (below_made hg1)
  clear ho1 hg1
  go_wp2
  go_loopw [4] (fun i wr => ∃ j : Nat, j ≤ n ∧ i = .int .i64 j ∧ Room wr w.heap.size (n * 5) ∧ (∃ (A : Nat → Option Addr) (N C : Nat → Nat), (∀ i, i < j → OwnAt wr w.heap.size wr.heap.size w.heap.size i (l.getD i dIt) (A i) (N i) (C i)) ∧ (∀ i, i < j → ∀ x, A i = some x → N i ≠ 0 → w.heap.size < x.block) ∧ (∀ i i2, i < j → i2 < j → i ≠ i2 → ∀ x y, A i = some x → A i2 = some y → N i ≠ 0 → N i2 ≠ 0 → x.block ≠ y.block)) ∧ Below w.heap.size w wr) (fun i _ => n - (intOf i).toNat)
  case atStart => exact ⟨0, Nat.zero_le _, rfl, HRoom.out, ⟨fun _ => none, fun _ => 0, fun _ => 0, fun i hi => by omega, fun i hi => by omega, fun i i2 hi => by omega⟩, HB1.out⟩
  case round =>
    obtain ⟨j, hj, rfl, hroom, hdone, hb⟩ := hrel
    by_cases hlt : j < n
    · rcases HR.out with h0 | ⟨b, o, rfl, h4⟩
      · omega
      · have hi4 := (h4 j hlt).below hb
        have d0 := hi4.c0
        have d1 := hi4.c1
        have d2 := hi4.c2
        have d3 := hi4.c3
        obtain ⟨a4, n4, c4, d4, hat4⟩ := hi4.c4
        have K := Lib.hid (fun W => toItem_own (l.getD j dIt) a4 n4 c4 W (HN.out j (by have := HL.out; omega)))
        have HWF := Lib.hid hi4.wf
        have HSZ := Lib.hid hi4.size
        have HAT4 := Lib.hid hat4
        obtain ⟨x, hx⟩ : ∃ x, l.getD j dIt = x := ⟨_, rfl⟩
        rw [hx] at d0 d1 d2 d3 K HWF HSZ HAT4
        have HX := Lib.hid hx
        have HROOM := Lib.hid hroom
        have HDONE := Lib.hid hdone
        have HB := Lib.hid hb
        obtain ⟨xd, xt, xs, xn, xa⟩ := x
        dsimp only at d0 d1 d2 d3 K HWF HSZ HAT4
        clear hx hi4 hat4 h4 hroom hdone hb
        go_wp2_with fail
        refine (K.out _ HAT4.out).mono ?_
        rintro e w2 ⟨a5, n5, c5, rfl, hat5, hnil5, hb2⟩
        have HNIL := Lib.hid hnil5
        clear hnil5
        have hr2 := HROOM.out.below hb2
        obtain ⟨⟨v0, q0⟩, f0⟩ := hr2.2 (j * 5) (by omega)
        obtain ⟨⟨v1, q1⟩, f1⟩ := hr2.2 (j * 5 + 1) (by omega)
        obtain ⟨⟨v2, q2⟩, f2⟩ := hr2.2 (j * 5 + 2) (by omega)
        obtain ⟨⟨v3, q3⟩, f3⟩ := hr2.2 (j * 5 + 3) (by omega)
        obtain ⟨⟨v4, q4⟩, f4⟩ := hr2.2 (j * 5 + 4) (by omega)
        have HR2 := Lib.hid hr2
        have HB2 := Lib.hid hb2
        have HAT5 := Lib.hid hat5
        clear hr2 hb2 hat5 d0 d1 d2 d3 d4
        go_wp2
        go_roundw
        case rel =>
          have hb3 := HB.out.trans (HB2.out.mono HB.out.size)
          obtain ⟨A, N, C, hown, hlow, hap⟩ := HDONE.out
          have hwr := HROOM.out.1
          have hsz2 : wr.heap.size ≤ w2.heap.size := HB2.out.size
          have hnew : ∀ y, a5 = some y → n5 ≠ 0 → wr.heap.size ≤ y.block ∧ y.block < w2.heap.size := fun y hy hne => by
            obtain ⟨b5, e5, g1, g2, _⟩ := HAT5.out.own.resolve_left hne
            rw [hy] at e5
            cases e5
            exact ⟨g1, g2⟩
          have hold : ∀ i, i < j → ∀ y, A i = some y → N i ≠ 0 → w.heap.size < y.block ∧ y.block < wr.heap.size := fun i hi y hy hne => by
            obtain ⟨b5, e5, g1, g2, _⟩ := (hown i hi).2.own.resolve_left hne
            have g3 := hlow i hi y hy hne
            rw [hy] at e5
            cases e5
            exact ⟨g3, g2⟩
          have sets : ∀ (W : World) (m : Nat) (v : Value), Only (fun i => i = w.heap.size) W (W.setCell ⟨w.heap.size, m, none⟩ v) := fun W m v => Only.set W _ v rfl
          have ho : ∀ (v0 v1 v2 v3 v4 : Value), Only (fun i => i = w.heap.size) w2 (((((w2.setCell ⟨w.heap.size, j * 5, none⟩ v0).setCell ⟨w.heap.size, j * 5 + 1, none⟩ v1).setCell ⟨w.heap.size, j * 5 + 2, none⟩ v2).setCell ⟨w.heap.size, j * 5 + 3, none⟩ v3).setCell ⟨w.heap.size, j * 5 + 4, none⟩ v4) := fun v0 v1 v2 v3 v4 =>
            ((((sets _ _ _).trans (sets _ _ _)).trans (sets _ _ _)).trans (sets _ _ _)).trans (sets _ _ _)
          have r0 := HR2.out
          have r1 := r0.set ⟨w.heap.size, j * 5, none⟩ (.int .i64 xd)
          have r2 := r1.set ⟨w.heap.size, j * 5 + 1, none⟩ (.string xt)
          have r3 := r2.set ⟨w.heap.size, j * 5 + 2, none⟩ (.string xs)
          have r4 := r3.set ⟨w.heap.size, j * 5 + 3, none⟩ (.string xn)
          refine ⟨j + 1, by omega, by go_num, r4.set _ _, ⟨fun i => if i = j then a5 else A i, fun i => if i = j then n5 else N i, fun i => if i = j then c5 else C i, fun i hi => ?_, fun i hi x hx hne => ?_, fun i i2 hi hi2 hne x y hx hy hnx hny => ?_⟩, ?_⟩
          · by_cases e : i = j
            · subst e
              simp only [if_true]
              rw [HX.out]
              refine ⟨⟨?_, ?_, ?_, ?_, ?_, HNIL.out⟩, ?_⟩
              · rw [set_off (by omega), set_off (by omega), set_off (by omega), set_off (by omega)]; exact r0.put (by omega) _
              · rw [set_off (by omega), set_off (by omega), set_off (by omega)]; exact r1.put (by omega) _
              · rw [set_off (by omega), set_off (by omega)]; exact r2.put (by omega) _
              · rw [set_off (by omega)]; exact r3.put (by omega) _
              · exact r4.put (by omega) _
              · have h5 : OwnAts w2 w.heap.size w2.heap.size a5 n5 c5 xa := ⟨HAT5.out.ats, HAT5.out.own.imp id fun ⟨b5, h1, h2, h3, h4⟩ => ⟨b5, h1, by omega, h3, h4⟩⟩
                have := h5.only (ho (.int .i64 xd) (.string xt) (.string xs) (.string xn) (.slice a5 n5 c5)) fun y hy hne hq => by have := hnew y hy hne; omega
                simpa using this
            · simp only [if_neg e]
              have hij : i < j := by omega
              have h6 := hown i hij
              refine ⟨((((((h6.1.below hwr HB2.out).set (by omega)).set (by omega)).set (by omega)).set (by omega)).set (by omega)), ?_⟩
              have h7 : OwnAts w2 w.heap.size w2.heap.size (A i) (N i) (C i) (l.getD i dIt).attrs := by
                have h8 := h6.2.only (Only.below (P := fun _ => False) HB2.out) fun _ _ _ h => h
                exact ⟨h8.ats, h8.own.imp id fun ⟨b5, h1, h2, h3, h4⟩ => ⟨b5, h1, h2, by omega, h4⟩⟩
              have := h7.only (ho (.int .i64 xd) (.string xt) (.string xs) (.string xn) (.slice a5 n5 c5)) fun y hy hne hq => by have := hold i hij y hy hne; omega
              simpa using this
          · by_cases e : i = j
            · simp only [if_pos e] at hx hne
              have := hnew x hx hne
              omega
            · simp only [if_neg e] at hx hne
              exact hlow i (by omega) x hx hne
          · by_cases e : i = j
            · have e2 : i2 ≠ j := fun e2 => hne (e.trans e2.symm)
              simp only [if_pos e] at hx hnx
              simp only [if_neg e2] at hy hny
              have g1 := hnew x hx hnx
              have g2 := hold i2 (by omega) y hy hny
              omega
            · simp only [if_neg e] at hx hnx
              by_cases e2 : i2 = j
              · simp only [if_pos e2] at hy hny
                have g1 := hnew y hy hny
                have g2 := hold i (by omega) x hx hnx
                omega
              · simp only [if_neg e2] at hy hny
                exact hap i i2 (by omega) (by omega) hne x y hx hy hnx hny
          · exact ((((hb3.setCell (Nat.le_refl _) _).setCell (Nat.le_refl _) _).setCell (Nat.le_refl _) _).setCell (Nat.le_refl _) _).setCell (Nat.le_refl _) _
        case measure => simp [intOf]; omega
    · obtain rfl : j = n := by omega
      have HROOM := Lib.hid hroom
      have HDONE := Lib.hid hdone
      have HB := Lib.hid hb
      clear hroom hdone hb
      go_wp2
      go_ret
      obtain ⟨A, N, C, hown, hlow, hap⟩ := HDONE.out
      exact ⟨_, _, _, rfl, ⟨HL.out, hn', HIT.out, .inr ⟨w.heap.size, A, N, C, rfl, Nat.le_refl _, HROOM.out.1, HROOM.out, hown, fun i hi x hx hne => by have := hlow i hi x hx hne; omega, hap⟩⟩, HB.out⟩
end Go.Proofs.YticpebpicdboaaaGreatDoor
