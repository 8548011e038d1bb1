/- Numbers with their signs: the model's l7Number. -/
import Derived.Test.YtppgdbejbhhjlaaGreatDoorGF11
import Derived.Test.YtppgdbejbhhjlaaGreatDoorGF0
namespace Go.Proofs.YtppgdbejbhhjlaaGreatDoor
open Go.ChangeShapes Go.WideShapes Go.ChangeAt Go.RowKit
set_option linter.unusedVariables false

/-- a number with its sign -/
def numT (n : Int) : ByteArray := if n < 0 then ⟨#[45]⟩ ++ digT n.natAbs else digT n.natAbs
theorem l7Number_any (n : Int) (h1 : -9223372036854775807 ≤ n) (h2 : n ≤ 9223372036854775807) (w : World) :
    Calls Tryz.prog 113 #[.int .i64 n] w (TextB (numT n) w) := by
  have K := Lib.hid (l1Digits_any n.natAbs (by omega))
  unfold numT
  unfold TextB at K ⊢
  have hsz := digT_size19 (n := n.natAbs) (by omega)
  generalize digT n.natAbs = t at K hsz ⊢
  by_cases h : n < 0
  · rw [if_pos h]
    have e : (n.natAbs : Int) = -n := by omega
    rw [e] at K
    clear e
    go_enter Tryz.func113, Tryz.ntmps113
    go_wp2_with fail
    refine (K.out _).mono ?_
    rintro e w1 ⟨rfl, hb1⟩
    go_wp2
    exact bodyPost_ret (v := .string _) (by simp [results, Tryz.results113, go_sem]) rfl ⟨rfl, hb1⟩
  · rw [if_neg h]
    have e : (n.natAbs : Int) = n := by omega
    rw [e] at K
    clear e
    go_enter Tryz.func113, Tryz.ntmps113
    go_wp2_with fail
    refine (K.out _).mono ?_
    rintro e w1 ⟨rfl, hb1⟩
    go_wp2
    go_ret
    exact ⟨rfl, hb1⟩
end Go.Proofs.YtppgdbejbhhjlaaGreatDoor

/- Plain words on digits, and on a list of bytes as a text: no run in this text. -/
namespace Go.Proofs.YtppgdbejbhhjlaaGreatDoor
set_option linter.unusedVariables false

def hexV (c : UInt8) : Int := if 48 ≤ c.toNat ∧ c.toNat ≤ 57 then (c.toNat : Int) - 48 else if 97 ≤ c.toNat ∧ c.toNat ≤ 102 then (c.toNat : Int) - 97 + 10 else if 65 ≤ c.toNat ∧ c.toNat ≤ 70 then (c.toNat : Int) - 65 + 10 else -1
def digB (base : Int) (c : UInt8) : Bool := decide (0 ≤ hexV c) && decide (hexV c < base)
def numF (base : Int) : Int → List UInt8 → Int
  | n, [] => n
  | n, c :: t => if digB base c then numF base (n * base + hexV c) t else -1
/-- what digits tell; -1: they are none, or too many -/
def numberL (base : Int) (most : Nat) (l : List UInt8) : Int := if l.length < 1 ∨ most < l.length then -1 else numF base 0 l
theorem hexV_le (c : UInt8) : -1 ≤ hexV c ∧ hexV c ≤ 15 := by
  unfold hexV
  repeat' split
  all_goals omega
theorem numF_lt (base : Int) : ∀ (l : List UInt8) (n : Int), l.all (digB base) = false → numF base n l = -1
  | [], _, h => by simp at h
  | c :: t, n, h => by
    unfold numF
    cases hd : digB base c
    · rfl
    · rw [List.all_cons, hd, Bool.true_and] at h
      simp only [if_true]
      exact numF_lt base t _ h
theorem numF_bd (base : Int) (hb : 0 ≤ base) : ∀ (l : List UInt8) (n : Int), l.all (digB base) = true → 0 ≤ n → 0 ≤ numF base n l ∧ numF base n l < (n + 1) * base ^ l.length
  | [], n, _, h0 => by simp [numF]; omega
  | c :: t, n, h, h0 => by
    rw [List.all_cons, Bool.and_eq_true] at h
    have hd := h.1
    unfold digB at hd
    simp only [Bool.and_eq_true, decide_eq_true_eq] at hd
    unfold numF
    rw [if_pos h.1]
    have hm : 0 ≤ n * base := Int.mul_nonneg h0 hb
    have ih := numF_bd base hb t (n * base + hexV c) h.2 (by omega)
    refine ⟨ih.1, Int.lt_of_lt_of_le ih.2 ?_⟩
    rw [List.length_cons, Int.pow_succ, ← Int.mul_assoc, Int.mul_right_comm]
    refine Int.mul_le_mul_of_nonneg_right ?_ (Int.pow_nonneg hb)
    rw [Int.add_mul]
    omega
theorem number_cases (base : Int) (most : Nat) (l : List UInt8) (hb : 0 ≤ base) : numberL base most l = -1 ∨ (1 ≤ l.length ∧ l.length ≤ most ∧ l.all (digB base) = true ∧ 0 ≤ numberL base most l ∧ numberL base most l < base ^ l.length) := by
  unfold numberL
  split
  · exact .inl rfl
  · rename_i h
    cases hd : l.all (digB base)
    · exact .inl (numF_lt base l 0 hd)
    · have := numF_bd base hb l 0 hd (by omega)
      exact .inr ⟨by omega, by omega, rfl, this.1, by have := this.2; simpa using this⟩
theorem pow_small (base : Int) (k m : Nat) (hb : 1 ≤ base) (h : k ≤ m) : base ^ k ≤ base ^ m := by
  obtain ⟨d, rfl⟩ := Nat.exists_eq_add_of_le h
  rw [Int.pow_add]
  have h1 : 0 ≤ base ^ k := Int.pow_nonneg (by omega)
  have h2 : 1 ≤ base ^ d := by
    clear h h1
    induction d with
    | zero => simp
    | succ d ih =>
      rw [Int.pow_succ]
      have := Int.mul_le_mul ih hb (by omega) (by omega)
      omega
  have := Int.mul_le_mul_of_nonneg_left h2 h1
  omega
def bst (l : List UInt8) : ByteArray := ⟨l.toArray⟩
theorem bst_toList (l : List UInt8) : (bst l).data.toList = l := rfl
theorem bst_of {s : ByteArray} {l : List UInt8} (h : s.data.toList = l) : s = bst l := by
  subst h
  cases s with
  | mk d => rfl
theorem bst_size (l : List UInt8) : (bst l).size = l.length := rfl
end Go.Proofs.YtppgdbejbhhjlaaGreatDoor
