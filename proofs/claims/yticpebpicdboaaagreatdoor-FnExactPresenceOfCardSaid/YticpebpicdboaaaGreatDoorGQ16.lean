/- Numbers with their signs: the model's l7Number. -/
import Derived.Test.YticpebpicdboaaaGreatDoorGQ15
import Derived.Test.YticpebpicdboaaaGreatDoorGQ1
import Derived.Laws.IdiomStrings
import Derived.Lib.IndexBytes
namespace Go.Proofs.YticpebpicdboaaaGreatDoor
open Go.ChangeShapes Go.WideShapes Go.ChangeAt Go.RowKit
set_option linter.unusedVariables false

/-- a number with its sign -/
def numT (n : Int) : ByteArray := if n < 0 then ⟨#[45]⟩ ++ digT n.natAbs else digT n.natAbs
theorem l7Number_any (n : Int) (h1 : -9223372036854775807 ≤ n) (h2 : n ≤ 9223372036854775807) (w : World) :
    Calls Tryz.prog 141 #[.int .i64 n] w (TextB (numT n) w) := by
  have K := Lib.hid (l1Digits_any n.natAbs (by omega))
  unfold numT
  unfold TextB at K ⊢
  have hsz := digT_size19 (n := n.natAbs) (by omega)
  generalize digT n.natAbs = t at K hsz ⊢
  by_cases h : n < 0
  · rw [if_pos h]
    have e : (n.natAbs : Int) = -n := by omega
    rw [e] at K
    clear e
    go_enter Tryz.func141, Tryz.ntmps141
    go_wp2_with fail
    refine (K.out _).mono ?_
    rintro e w1 ⟨rfl, hb1⟩
    go_wp2
    exact bodyPost_ret (v := .string _) (by simp [results, Tryz.results141, go_sem]) rfl ⟨rfl, hb1⟩
  · rw [if_neg h]
    have e : (n.natAbs : Int) = n := by omega
    rw [e] at K
    clear e
    go_enter Tryz.func141, Tryz.ntmps141
    go_wp2_with fail
    refine (K.out _).mono ?_
    rintro e w1 ⟨rfl, hb1⟩
    go_wp2
    go_ret
    exact ⟨rfl, hb1⟩
end Go.Proofs.YticpebpicdboaaaGreatDoor

/- Plain words on digits, and on a list of bytes as a text: no run in this text. -/
namespace Go.Proofs.YticpebpicdboaaaGreatDoor
set_option linter.unusedVariables false

def hexV (c : UInt8) : Int := if 48 ≤ c.toNat ∧ c.toNat ≤ 57 then (c.toNat : Int) - 48 else if 97 ≤ c.toNat ∧ c.toNat ≤ 102 then (c.toNat : Int) - 97 + 10 else if 65 ≤ c.toNat ∧ c.toNat ≤ 70 then (c.toNat : Int) - 65 + 10 else -1
def digB (base : Int) (c : UInt8) : Bool := decide (0 ≤ hexV c) && decide (hexV c < base)
def numF (base : Int) : Int → List UInt8 → Int
  | n, [] => n
  | n, c :: t => if digB base c then numF base (n * base + hexV c) t else -1
/-- what digits tell; -1: they are none, or too many -/
def numberL (base : Int) (most : Nat) (l : List UInt8) : Int := if l.length < 1 ∨ most < l.length then -1 else numF base 0 l
theorem hexV_le (c : UInt8) : -1 ≤ hexV c ∧ hexV c ≤ 15 := by
  unfold hexV
  repeat' split
  all_goals omega
theorem numF_lt (base : Int) : ∀ (l : List UInt8) (n : Int), l.all (digB base) = false → numF base n l = -1
  | [], _, h => by simp at h
  | c :: t, n, h => by
    unfold numF
    cases hd : digB base c
    · rfl
    · rw [List.all_cons, hd, Bool.true_and] at h
      simp only [if_true]
      exact numF_lt base t _ h
theorem numF_bd (base : Int) (hb : 0 ≤ base) : ∀ (l : List UInt8) (n : Int), l.all (digB base) = true → 0 ≤ n → 0 ≤ numF base n l ∧ numF base n l < (n + 1) * base ^ l.length
  | [], n, _, h0 => by simp [numF]; omega
  | c :: t, n, h, h0 => by
    rw [List.all_cons, Bool.and_eq_true] at h
    have hd := h.1
    unfold digB at hd
    simp only [Bool.and_eq_true, decide_eq_true_eq] at hd
    unfold numF
    rw [if_pos h.1]
    have hm : 0 ≤ n * base := Int.mul_nonneg h0 hb
    have ih := numF_bd base hb t (n * base + hexV c) h.2 (by omega)
    refine ⟨ih.1, Int.lt_of_lt_of_le ih.2 ?_⟩
    rw [List.length_cons, Int.pow_succ, ← Int.mul_assoc, Int.mul_right_comm]
    refine Int.mul_le_mul_of_nonneg_right ?_ (Int.pow_nonneg hb)
    rw [Int.add_mul]
    omega
theorem number_cases (base : Int) (most : Nat) (l : List UInt8) (hb : 0 ≤ base) : numberL base most l = -1 ∨ (1 ≤ l.length ∧ l.length ≤ most ∧ l.all (digB base) = true ∧ 0 ≤ numberL base most l ∧ numberL base most l < base ^ l.length) := by
  unfold numberL
  split
  · exact .inl rfl
  · rename_i h
    cases hd : l.all (digB base)
    · exact .inl (numF_lt base l 0 hd)
    · have := numF_bd base hb l 0 hd (by omega)
      exact .inr ⟨by omega, by omega, rfl, this.1, by have := this.2; simpa using this⟩
theorem pow_small (base : Int) (k m : Nat) (hb : 1 ≤ base) (h : k ≤ m) : base ^ k ≤ base ^ m := by
  obtain ⟨d, rfl⟩ := Nat.exists_eq_add_of_le h
  rw [Int.pow_add]
  have h1 : 0 ≤ base ^ k := Int.pow_nonneg (by omega)
  have h2 : 1 ≤ base ^ d := by
    clear h h1
    induction d with
    | zero => simp
    | succ d ih =>
      rw [Int.pow_succ]
      have := Int.mul_le_mul ih hb (by omega) (by omega)
      omega
  have := Int.mul_le_mul_of_nonneg_left h2 h1
  omega
def bst (l : List UInt8) : ByteArray := ⟨l.toArray⟩
theorem bst_toList (l : List UInt8) : (bst l).data.toList = l := rfl
theorem bst_of {s : ByteArray} {l : List UInt8} (h : s.data.toList = l) : s = bst l := by
  subst h
  cases s with
  | mk d => rfl
theorem bst_size (l : List UInt8) : (bst l).size = l.length := rfl
end Go.Proofs.YticpebpicdboaaaGreatDoor

/- Contracts of the model's l3Hex and l3Number. -/
namespace Go.Proofs.YticpebpicdboaaaGreatDoor
open Go.ChangeShapes Go.WideShapes Go.ChangeAt Go.RowKit
set_option linter.unusedVariables false

theorem ret_int {k : IntKind} {a b : Int} (h : a = b) : Ending.returned (.int k a) = .returned (.int k b) := by rw [h]
theorem l3Hex_any (c : UInt8) (w : World) :
    Calls Tryz.prog 288 #[.int .u8 (c.toNat : Int)] w fun e w' => e = .returned (.int .i64 (hexV c)) ∧ w' = w := by
  have h256 := c.toNat_lt
  have e : hexV c = if 48 ≤ (c.toNat : Int) ∧ (c.toNat : Int) ≤ 57 then (c.toNat : Int) - 48 else if 97 ≤ (c.toNat : Int) ∧ (c.toNat : Int) ≤ 102 then (c.toNat : Int) - 97 + 10 else if 65 ≤ (c.toNat : Int) ∧ (c.toNat : Int) ≤ 70 then (c.toNat : Int) - 65 + 10 else -1 := by
    unfold hexV
    repeat' split
    all_goals first | rfl | omega
  rw [e]
  have x0 : 0 ≤ (c.toNat : Int) := by omega
  have x1 : (c.toNat : Int) ≤ 255 := by omega
  generalize (c.toNat : Int) = x at x0 x1
  clear e h256
  by_cases h1 : 48 ≤ x ∧ x ≤ 57
  · rw [if_pos h1]
    obtain ⟨a, b⟩ := h1
    go_enter Tryz.func288, Tryz.ntmps288
    go_wp2
    go_ret
    exact ⟨rfl, rfl⟩
  · rw [if_neg h1]
    by_cases h2 : 97 ≤ x ∧ x ≤ 102
    · rw [if_pos h2]
      obtain ⟨a, b⟩ := h2
      clear h1
      go_enter Tryz.func288, Tryz.ntmps288
      go_wp2
      go_ret
      exact ⟨rfl, rfl⟩
    · rw [if_neg h2]
      by_cases h3 : 65 ≤ x ∧ x ≤ 70
      · rw [if_pos h3]
        obtain ⟨a, b⟩ := h3
        clear h1 h2
        go_enter Tryz.func288, Tryz.ntmps288
        go_wp2
        go_ret
        exact ⟨rfl, rfl⟩
      · rw [if_neg h3]
        have hq : (x < 48 ∨ 57 < x) ∧ (x < 97 ∨ 102 < x) ∧ (x < 65 ∨ 70 < x) := by omega
        have HQ := Lib.hid hq
        clear h1 h2 h3 hq
        go_enter Tryz.func288, Tryz.ntmps288
        go_wp2
        all_goals first | (exfalso; have := HQ.out; omega) | (go_ret; exact ⟨rfl, rfl⟩)

theorem numF_all {base : Int} {l : List UInt8} {k : Nat} (h : (l.take k).all (digB base) = true) (hk : k = l.length) (h1 : 1 ≤ l.length) {most : Nat} (h2 : l.length ≤ most) : numberL base most l = numF base 0 (l.take k) := by
  subst hk
  rw [List.take_length]
  unfold numberL
  rw [if_neg (by omega)]
theorem take_snoc' (s : ByteArray) (k : Nat) (h : k < s.size) : s.data.toList.take (k + 1) = s.data.toList.take k ++ [s[k]] := by
  rw [List.take_succ_eq_append_getElem (by simpa using h)]
  rfl
theorem numF_snoc' (base : Int) : ∀ (l : List UInt8) (n : Int) (c : UInt8), (l ++ [c]).all (digB base) = true → numF base n (l ++ [c]) = numF base n l * base + hexV c
  | [], n, c, h => by
    simp at h
    simp [numF, h]
  | d :: t, n, c, h => by
    rw [List.cons_append, List.all_cons, Bool.and_eq_true] at h
    have ih := numF_snoc' base t (n * base + hexV d) c h.2
    simp only [List.cons_append, numF, h.1, if_true]
    exact ih
theorem seven' {base : Int} {k : Nat} (hb : base = 10 ∨ base = 16) (hk : k ≤ 6) : (1 : Int) * base ^ k ≤ 16777216 := by
  have h1 := pow_small base k 6 (by omega) hk
  rcases hb with rfl | rfl
  · have : (10 : Int) ^ 6 = 1000000 := by decide
    omega
  · have : (16 : Int) ^ 6 = 16777216 := by decide
    omega
theorem all_take_false' {l : List UInt8} {k : Nat} {c : UInt8} {p : UInt8 → Bool} (h : l.take (k + 1) = l.take k ++ [c]) (hc : p c = false) : l.all p = false := by
  rw [← List.take_append_drop (k + 1) l, h, List.all_append, List.all_append]
  simp [hc]

set_option maxHeartbeats 1600000 in
theorem l3Number10 (most : Nat) (hm : most ≤ 7) (s : ByteArray) (hs : s.size ≤ maxLen) (w : World) :
    Calls Tryz.prog 247 #[.string s, .int .i64 10, .int .i64 most] w fun e w' => e = .returned (.int .i64 (numberL 10 most s.data.toList)) ∧ w' = w := by
  unfold maxLen at hs
  have hl : s.data.toList.length = s.size := by simp
  have hm' : (most : Int) ≤ 7 := by omega
  by_cases h0 : s.size < 1
  · have e : numberL 10 most s.data.toList = -1 := by unfold numberL; rw [if_pos (by omega)]
    rw [e]
    have h0' : (s.size : Int) < 1 := by omega
    clear e hl h0
    go_enter Tryz.func247, Tryz.ntmps247
    go_wp2
    go_ret
    exact ⟨rfl, rfl⟩
  · have h1 : 1 ≤ (s.size : Int) := by omega
    by_cases h2 : most < s.size
    · have e : numberL 10 most s.data.toList = -1 := by unfold numberL; rw [if_pos (by omega)]
      rw [e]
      have h2' : (most : Int) < (s.size : Int) := by omega
      clear e hl h0 h2
      go_enter Tryz.func247, Tryz.ntmps247
      go_wp2
      go_ret
      exact ⟨rfl, rfl⟩
    · have h2' : (s.size : Int) ≤ (most : Int) := by omega
      generalize hr : numberL 10 most s.data.toList = r
      have HR := Lib.hid hr
      have HL := Lib.hid hl
      have h7 : s.size ≤ 7 := by omega
      clear hr hl h0
      go_enter Tryz.func247, Tryz.ntmps247
      go_wp2
      go_loop [7, 8] (fun n i => ∃ (k : Nat) (a : Int), k ≤ s.size ∧ i = .int .i64 k ∧ n = .int .i64 a ∧ Hid ((s.data.toList.take k).all (digB 10) = true ∧ a = numF 10 0 (s.data.toList.take k))) (fun _ i => s.size - (intOf i).toNat)
      case atStart => exact ⟨0, 0, Nat.zero_le _, rfl, rfl, by simp, rfl⟩
      case round =>
        obtain ⟨k, a, hk, rfl, rfl, hh⟩ := hrel
        by_cases hkn : k < s.size
        · have hbd := numF_bd 10 (by omega) _ 0 hh.out.1 (by omega)
          rw [← hh.out.2, List.length_take, HL.out, Nat.min_eq_left hk] at hbd
          have hsv := seven' (base := 10) (k := k) (by omega) (by omega)
          obtain ⟨a0, a1⟩ := hbd
          have a2 : a < 16777216 := by omega
          have HS := Lib.hid (take_snoc' s k hkn)
          have KH := Lib.hid (l3Hex_any s[k])
          have hv := hexV_le s[k]
          cases hdg : digB 10 s[k]
          · have hr : r = -1 := by
              rw [← HR.out]
              unfold numberL
              rw [if_neg (by rw [HL.out]; omega)]
              exact numF_lt _ _ 0 (all_take_false' HS.out hdg)
            subst hr
            unfold digB at hdg
            clear hsv a1 hh HS
            have hq : hexV s[k] < 0 ∨ 10 ≤ hexV s[k] := by
              simp at hdg
              omega
            generalize hexV s[k] = v at KH hv hq
            clear hdg
            rcases hq with hq | hq
            · go_wp2_with (go_at_call 288; refine (KH.out _).mono ?_; rintro e w' ⟨rfl, rfl⟩)
              all_goals go_ret
              all_goals exact ⟨rfl, rfl⟩
            · have hq' : 0 ≤ v := by omega
              go_wp2_with (go_at_call 288; refine (KH.out _).mono ?_; rintro e w' ⟨rfl, rfl⟩)
              all_goals go_ret
              all_goals exact ⟨rfl, rfl⟩
          · have hall : (s.data.toList.take (k + 1)).all (digB 10) = true := by rw [HS.out, List.all_append, hh.out.1]; simp [hdg]
            have hnum : numF 10 0 (s.data.toList.take (k + 1)) = a * 10 + hexV s[k] := by
              rw [HS.out] at hall ⊢
              rw [numF_snoc' _ _ _ _ hall, ← hh.out.2]
            have HN := Lib.hid (And.intro hall hnum.symm)
            unfold digB at hdg
            simp only [Bool.and_eq_true, decide_eq_true_eq] at hdg
            obtain ⟨v0, v1⟩ := hdg
            clear hsv a1 hh HS hall hnum
            generalize hexV s[k] = v at KH hv HN v0 v1
            go_wp2_with (go_at_call 288; refine (KH.out _).mono ?_; rintro e w' ⟨rfl, rfl⟩)
            all_goals
              go_round
              case rel => exact ⟨k + 1, a * 10 + v, by omega, by go_num, rfl, HN⟩
              case measure => simp [intOf]; omega
        · obtain rfl : k = s.size := by omega
          have hr : r = a := by rw [← HR.out, numF_all hh.out.1 HL.out.symm (by rw [HL.out]; omega) (by rw [HL.out]; omega), ← hh.out.2]
          subst hr
          clear hh
          go_wp2
          go_ret
          exact ⟨rfl, rfl⟩

set_option maxHeartbeats 1600000 in
theorem l3Number16 (most : Nat) (hm : most ≤ 7) (s : ByteArray) (hs : s.size ≤ maxLen) (w : World) :
    Calls Tryz.prog 247 #[.string s, .int .i64 16, .int .i64 most] w fun e w' => e = .returned (.int .i64 (numberL 16 most s.data.toList)) ∧ w' = w := by
  unfold maxLen at hs
  have hl : s.data.toList.length = s.size := by simp
  have hm' : (most : Int) ≤ 7 := by omega
  by_cases h0 : s.size < 1
  · have e : numberL 16 most s.data.toList = -1 := by unfold numberL; rw [if_pos (by omega)]
    rw [e]
    have h0' : (s.size : Int) < 1 := by omega
    clear e hl h0
    go_enter Tryz.func247, Tryz.ntmps247
    go_wp2
    go_ret
    exact ⟨rfl, rfl⟩
  · have h1 : 1 ≤ (s.size : Int) := by omega
    by_cases h2 : most < s.size
    · have e : numberL 16 most s.data.toList = -1 := by unfold numberL; rw [if_pos (by omega)]
      rw [e]
      have h2' : (most : Int) < (s.size : Int) := by omega
      clear e hl h0 h2
      go_enter Tryz.func247, Tryz.ntmps247
      go_wp2
      go_ret
      exact ⟨rfl, rfl⟩
    · have h2' : (s.size : Int) ≤ (most : Int) := by omega
      generalize hr : numberL 16 most s.data.toList = r
      have HR := Lib.hid hr
      have HL := Lib.hid hl
      have h7 : s.size ≤ 7 := by omega
      clear hr hl h0
      go_enter Tryz.func247, Tryz.ntmps247
      go_wp2
      go_loop [7, 8] (fun n i => ∃ (k : Nat) (a : Int), k ≤ s.size ∧ i = .int .i64 k ∧ n = .int .i64 a ∧ Hid ((s.data.toList.take k).all (digB 16) = true ∧ a = numF 16 0 (s.data.toList.take k))) (fun _ i => s.size - (intOf i).toNat)
      case atStart => exact ⟨0, 0, Nat.zero_le _, rfl, rfl, by simp, rfl⟩
      case round =>
        obtain ⟨k, a, hk, rfl, rfl, hh⟩ := hrel
        by_cases hkn : k < s.size
        · have hbd := numF_bd 16 (by omega) _ 0 hh.out.1 (by omega)
          rw [← hh.out.2, List.length_take, HL.out, Nat.min_eq_left hk] at hbd
          have hsv := seven' (base := 16) (k := k) (by omega) (by omega)
          obtain ⟨a0, a1⟩ := hbd
          have a2 : a < 16777216 := by omega
          have HS := Lib.hid (take_snoc' s k hkn)
          have KH := Lib.hid (l3Hex_any s[k])
          have hv := hexV_le s[k]
          cases hdg : digB 16 s[k]
          · have hr : r = -1 := by
              rw [← HR.out]
              unfold numberL
              rw [if_neg (by rw [HL.out]; omega)]
              exact numF_lt _ _ 0 (all_take_false' HS.out hdg)
            subst hr
            unfold digB at hdg
            clear hsv a1 hh HS
            have hq : hexV s[k] < 0 ∨ 16 ≤ hexV s[k] := by
              simp at hdg
              omega
            generalize hexV s[k] = v at KH hv hq
            clear hdg
            rcases hq with hq | hq
            · go_wp2_with (go_at_call 288; refine (KH.out _).mono ?_; rintro e w' ⟨rfl, rfl⟩)
              all_goals go_ret
              all_goals exact ⟨rfl, rfl⟩
            · have hq' : 0 ≤ v := by omega
              go_wp2_with (go_at_call 288; refine (KH.out _).mono ?_; rintro e w' ⟨rfl, rfl⟩)
              all_goals go_ret
              all_goals exact ⟨rfl, rfl⟩
          · have hall : (s.data.toList.take (k + 1)).all (digB 16) = true := by rw [HS.out, List.all_append, hh.out.1]; simp [hdg]
            have hnum : numF 16 0 (s.data.toList.take (k + 1)) = a * 16 + hexV s[k] := by
              rw [HS.out] at hall ⊢
              rw [numF_snoc' _ _ _ _ hall, ← hh.out.2]
            have HN := Lib.hid (And.intro hall hnum.symm)
            unfold digB at hdg
            simp only [Bool.and_eq_true, decide_eq_true_eq] at hdg
            obtain ⟨v0, v1⟩ := hdg
            clear hsv a1 hh HS hall hnum
            generalize hexV s[k] = v at KH hv HN v0 v1
            go_wp2_with (go_at_call 288; refine (KH.out _).mono ?_; rintro e w' ⟨rfl, rfl⟩)
            all_goals
              go_round
              case rel => exact ⟨k + 1, a * 16 + v, by omega, by go_num, rfl, HN⟩
              case measure => simp [intOf]; omega
        · obtain rfl : k = s.size := by omega
          have hr : r = a := by rw [← HR.out, numF_all hh.out.1 HL.out.symm (by rw [HL.out]; omega) (by rw [HL.out]; omega), ← hh.out.2]
          subst hr
          clear hh
          go_wp2
          go_ret
          exact ⟨rfl, rfl⟩
end Go.Proofs.YticpebpicdboaaaGreatDoor

/- Words that are numbers: the model's l7Read, NumberOf. -/
namespace Go.Proofs.YticpebpicdboaaaGreatDoor
open Go.ChangeShapes Go.WideShapes Go.ChangeAt Go.RowKit
set_option linter.unusedVariables false

/-- the digits of a word -/
def digitsL (l : List UInt8) : List UInt8 := if l.take 1 = [45] then l.drop 1 else l
def signedN (l : List UInt8) (n : Int) : Int := if l.take 1 = [45] then -n else n
/-- the number that a word is -/
def numOf (l : List UInt8) : Option Int :=
  if numberL 10 3 (digitsL l) < 0 then none
  else if (numT (signedN l (numberL 10 3 (digitsL l)))).data.toList = l then some (signedN l (numberL 10 3 (digitsL l))) else none
theorem dig_val (x : Nat) (h : x < 10) : digB 10 (UInt8.ofNat (48 + x)) = true ∧ hexV (UInt8.ofNat (48 + x)) = x := by
  have hx : x = 0 ∨ x = 1 ∨ x = 2 ∨ x = 3 ∨ x = 4 ∨ x = 5 ∨ x = 6 ∨ x = 7 ∨ x = 8 ∨ x = 9 := by omega
  rcases hx with rfl | rfl | rfl | rfl | rfl | rfl | rfl | rfl | rfl | rfl <;> decide
theorem numF_dig (n : Nat) : (digT n).data.toList.all (digB 10) = true ∧ numF 10 0 (digT n).data.toList = n := by
  induction n using Nat.strongRecOn with
  | ind n ih =>
    by_cases h : n < 10
    · obtain ⟨h1, h2⟩ := dig_val n h
      rw [digT_small h, dig_data n h]
      refine ⟨by simp only [List.all_cons, List.all_nil, Bool.and_true]; exact h1, ?_⟩
      simp only [numF, h1, if_true]
      omega
    · obtain ⟨i1, i2⟩ := ih (n / 10) (by omega)
      obtain ⟨h1, h2⟩ := dig_val (n % 10) (by omega)
      rw [digT_data h]
      have ha : ((digT (n / 10)).data.toList ++ [UInt8.ofNat (48 + n % 10)]).all (digB 10) = true := by rw [List.all_append, i1]; simp only [List.all_cons, List.all_nil, Bool.and_true, Bool.true_and]; exact h1
      refine ⟨ha, ?_⟩
      rw [numF_snoc' _ _ _ _ ha, i2, h2]
      omega
theorem digT_head (n : Nat) : ∃ c t, (digT n).data.toList = c :: t ∧ c ≠ 45 := by
  have h := (numF_dig n).1
  have hp := digT_pos n
  have hl : (digT n).data.toList.length = (digT n).size := by simp
  cases hd : (digT n).data.toList with
  | nil => rw [hd] at hl; simp at hl; omega
  | cons c t =>
    rw [hd, List.all_cons, Bool.and_eq_true] at h
    refine ⟨c, t, rfl, ?_⟩
    rintro rfl
    exact absurd h.1 (by decide)
/-- a number is told by its text -/
theorem numOf_text (m : Int) (h1 : -999 ≤ m) (h2 : m ≤ 999) : numOf (numT m).data.toList = some m := by
  have hs := digT_size 2 m.natAbs (by have : (10 : Nat) ^ (2 + 1) = 1000 := by decide
                                      omega)
  have hp := digT_pos m.natAbs
  have hl : (digT m.natAbs).data.toList.length = (digT m.natAbs).size := by simp
  obtain ⟨c, t, e, hc⟩ := digT_head m.natAbs
  have hn : numberL 10 3 (digT m.natAbs).data.toList = m.natAbs := by
    unfold numberL
    rw [if_neg (by omega)]
    exact (numF_dig _).2
  by_cases hm : m < 0
  · have hT : (numT m).data.toList = 45 :: (digT m.natAbs).data.toList := by
      unfold numT
      rw [if_pos hm, ByteArray.data_append, Array.toList_append]
      rfl
    have hd : digitsL (numT m).data.toList = (digT m.natAbs).data.toList := by unfold digitsL; rw [hT]; rfl
    have hg : signedN (numT m).data.toList (m.natAbs : Int) = m := by unfold signedN; rw [hT]; simp; omega
    unfold numOf
    rw [hd, hn, hg, if_neg (by omega), if_pos rfl]
  · have hT : (numT m).data.toList = (digT m.natAbs).data.toList := by unfold numT; rw [if_neg hm]
    have hk : (numT m).data.toList.take 1 ≠ [45] := by rw [hT, e]; simpa using hc
    have hd : digitsL (numT m).data.toList = (digT m.natAbs).data.toList := by unfold digitsL; rw [if_neg hk, hT]
    have hg : signedN (numT m).data.toList (m.natAbs : Int) = m := by unfold signedN; rw [if_neg hk]; omega
    unfold numOf
    rw [hd, hn, hg, if_neg (by omega), if_pos rfl]
theorem numOf_some {l : List UInt8} {m : Int} (h : numOf l = some m) : -999 ≤ m ∧ m ≤ 999 ∧ (numT m).data.toList = l := by
  unfold numOf at h
  split at h
  · cases h
  · rename_i h0
    split at h
    · rename_i h1
      cases h
      refine ⟨?_, ?_, h1⟩
      all_goals
        rcases number_cases 10 3 (digitsL l) (by decide) with e | ⟨_, b, _, c, d⟩
        · omega
        · have hp := pow_small 10 _ 3 (by decide) b
          have h3 : (10 : Int) ^ 3 = 1000 := by decide
          unfold signedN
          split <;> omega
    · cases h
/-- no number has that text -/
theorem numOf_none {l : List UInt8} (h : numOf l = none) (m : Int) (h1 : -999 ≤ m) (h2 : m ≤ 999) : (numT m).data.toList ≠ l := by
  intro e
  have := numOf_text m h1 h2
  rw [e, h] at this
  cases this

theorem nfirst_is {s : ByteArray} {c : UInt8} (h : s.data.toList.take 1 = [c]) : ∃ h : 0 < s.size, s[0] = c := by
  have hl : s.data.toList.length = s.size := by simp
  have h0 : 0 < s.size := by
    cases hx : s.data.toList with
    | nil => rw [hx] at h; simp at h
    | cons a t => rw [hx] at hl; simp at hl; omega
  refine ⟨h0, ?_⟩
  have := head_byte s h0
  rw [← this]
  generalize s.data.toList = l at h
  cases l with
  | nil => simp at h
  | cons a t => simpa using h
theorem nfirst_isnt {s : ByteArray} {c : UInt8} (h : s.data.toList.take 1 ≠ [c]) (h0 : 0 < s.size) : s[0] ≠ c := by
  intro hb
  have := head_byte s h0
  rw [hb] at this
  have hl : s.data.toList.length = s.size := by simp
  generalize s.data.toList = l at h this hl
  cases l with
  | nil => simp at hl; omega
  | cons a t => simp at this; simp [this] at h

/-- what l7Read answers -/
def ReadN (l : List UInt8) (w : World) (e : Ending) (w' : World) : Prop :=
  ∃ (m : Int) (b : Bool), e = .returned (.tuple #[.int .i64 m, .bool b]) ∧ numOf l = (if b then some m else none) ∧ Below w.heap.size w w'

set_option maxHeartbeats 1600000 in
theorem l7Read_any (s : ByteArray) (hs : s.size ≤ maxLen) (w : World) : Calls Tryz.prog 234 #[.string s] w (ReadN s.data.toList w) := by
  have hl : s.data.toList.length = s.size := by simp
  have hm := hs
  unfold maxLen at hm
  have hd1 : (s.extract 1 s.size).data.toList = s.data.toList.drop 1 := Lib.extract_to_end _ _
  generalize hr : numberL 10 3 (digitsL s.data.toList) = n
  have hbd : -1 ≤ n ∧ n ≤ 999 := by
    subst hr
    rcases number_cases 10 3 (digitsL s.data.toList) (by decide) with e | ⟨_, b, _, c, d⟩
    · rw [e]; omega
    · have hp := pow_small 10 _ 3 (by decide) b
      have h3 : (10 : Int) ^ 3 = 1000 := by decide
      omega
  by_cases hg : s.data.toList.take 1 = [45]
  · obtain ⟨h0, hb⟩ := nfirst_is hg
    have hb' : ((s[0].toNat : Int) == 45) = true := by rw [hb]; rfl
    have KN := Lib.hid (l3Number10 3 (by decide) (s.extract 1 s.size) (by unfold maxLen; rw [ByteArray.size_extract]; omega))
    have hdg : digitsL s.data.toList = s.data.toList.drop 1 := by unfold digitsL; rw [if_pos hg]
    rw [hd1, ← hdg, hr] at KN
    have hsz : (s.extract 1 s.size).size = s.size - 1 := by rw [ByteArray.size_extract]; omega
    have hsg : signedN s.data.toList n = -n := by unfold signedN; rw [if_pos hg]
    by_cases hn : n < 0
    · have ho : numOf s.data.toList = none := by unfold numOf; rw [hr, if_pos hn]
      have HO := Lib.hid ho
      clear hd1 hdg hsg ho hb hg hl hr
      go_enter Tryz.func234, Tryz.ntmps234
      go_wp2_with fail
      refine (KN.out _).mono ?_
      rintro e w1 ⟨rfl, rfl⟩
      go_wp2
      go_ret2
      exact ⟨_, false, rfl, by rw [HO.out]; rfl, Below.refl _ _⟩
    · have KT := Lib.hid (l7Number_any (-n) (by omega) (by omega))
      unfold TextB at KT
      have ho : numOf s.data.toList = if (numT (-n)).toList == s.toList then some (-n) else none := by
        unfold numOf
        rw [hr, if_neg hn, hsg, ByteArray.toList_eq, ByteArray.toList_eq]
        by_cases hx : (numT (-n)).data.toList = s.data.toList
        · rw [if_pos hx, if_pos (by simpa using hx)]
        · rw [if_neg hx, if_neg (by simpa using hx)]
      have HO := Lib.hid ho
      generalize numT (-n) = T at KT HO
      have hlt : ((s.extract 1 s.size).size : Int) < (s.size : Int) := by omega
      clear hd1 hdg hsg ho hb hg hl hr
      go_enter Tryz.func234, Tryz.ntmps234
      go_wp2_with fail
      refine (KN.out _).mono ?_
      rintro e w1 ⟨rfl, rfl⟩
      go_wp2_with fail
      refine (KT.out _).mono ?_
      rintro e w2 ⟨rfl, hb2⟩
      go_wp2
      go_ret2
      exact ⟨_, _, rfl, HO.out, hb2⟩
  · have hdg : digitsL s.data.toList = s.data.toList := by unfold digitsL; rw [if_neg hg]
    have KN := Lib.hid (l3Number10 3 (by decide) s hs)
    have hrr := hr
    rw [hdg] at hrr
    rw [hrr] at KN
    have hsg : signedN s.data.toList n = n := by unfold signedN; rw [if_neg hg]
    have hc : s.size = 0 ∨ ∃ h : 0 < s.size, s[0] ≠ 45 := by
      by_cases h0 : s.size = 0
      · exact .inl h0
      · exact .inr ⟨by omega, nfirst_isnt hg _⟩
    by_cases hn : n < 0
    · have ho : numOf s.data.toList = none := by unfold numOf; rw [hr, if_pos hn]
      have HO := Lib.hid ho
      clear hd1 hdg hsg ho hg hl hr hrr
      rcases hc with h0 | ⟨h0, hb⟩
      · go_enter Tryz.func234, Tryz.ntmps234
        go_wp2_with fail
        refine (KN.out _).mono ?_
        rintro e w1 ⟨rfl, rfl⟩
        go_wp2
        go_ret2
        exact ⟨_, false, rfl, by rw [HO.out]; rfl, Below.refl _ _⟩
      · have hb' : ((s[0].toNat : Int) == 45) = false := by rw [beq_eq_false_iff_ne]; intro e; exact hb (UInt8.toNat_inj.1 (by simpa using (by omega : s[0].toNat = 45)))
        go_enter Tryz.func234, Tryz.ntmps234
        go_wp2_with fail
        refine (KN.out _).mono ?_
        rintro e w1 ⟨rfl, rfl⟩
        go_wp2
        go_ret2
        exact ⟨_, false, rfl, by rw [HO.out]; rfl, Below.refl _ _⟩
    · have KT := Lib.hid (l7Number_any n (by omega) (by omega))
      unfold TextB at KT
      have ho : numOf s.data.toList = if (numT n).toList == s.toList then some n else none := by
        unfold numOf
        rw [hr, if_neg hn, hsg, ByteArray.toList_eq, ByteArray.toList_eq]
        by_cases hx : (numT n).data.toList = s.data.toList
        · rw [if_pos hx, if_pos (by simpa using hx)]
        · rw [if_neg hx, if_neg (by simpa using hx)]
      have HO := Lib.hid ho
      generalize numT n = T at KT HO
      clear hd1 hdg hsg ho hg hl hr hrr
      rcases hc with h0 | ⟨h0, hb⟩
      · go_enter Tryz.func234, Tryz.ntmps234
        go_wp2_with fail
        refine (KN.out _).mono ?_
        rintro e w1 ⟨rfl, rfl⟩
        go_wp2_with fail
        refine (KT.out _).mono ?_
        rintro e w2 ⟨rfl, hb2⟩
        go_wp2
        go_ret2
        exact ⟨_, _, rfl, HO.out, hb2⟩
      · have hb' : ((s[0].toNat : Int) == 45) = false := by rw [beq_eq_false_iff_ne]; intro e; exact hb (UInt8.toNat_inj.1 (by simpa using (by omega : s[0].toNat = 45)))
        go_enter Tryz.func234, Tryz.ntmps234
        go_wp2_with fail
        refine (KN.out _).mono ?_
        rintro e w1 ⟨rfl, rfl⟩
        go_wp2_with fail
        refine (KT.out _).mono ?_
        rintro e w2 ⟨rfl, hb2⟩
        go_wp2
        go_ret2
        exact ⟨_, _, rfl, HO.out, hb2⟩

end Go.Proofs.YticpebpicdboaaaGreatDoor
