/- Numbers in digits: the model's l1Digits, l7Number. -/
import Derived.Test.YtpafknmfacgccaaGreatDoorGT1
import Derived.IntWalk
import Derived.Test.YtpafknmfacgccaaGreatDoorGT0
namespace Go.Proofs.YtpafknmfacgccaaGreatDoor
open Go.ChangeShapes Go.WideShapes Go.ChangeAt Go.RowKit
set_option linter.unusedVariables false

/-- a number in digits -/
def digT (n : Nat) : ByteArray := if n < 10 then strOfNums [48 + (n : Int)] else digT (n / 10) ++ strOfNums [48 + (n : Int) % 10]
theorem digT_small {n : Nat} (h : n < 10) : digT n = strOfNums [48 + (n : Int)] := by rw [digT, if_pos h]
theorem digT_big {n : Nat} (h : ¬ n < 10) : digT n = digT (n / 10) ++ strOfNums [48 + (n : Int) % 10] := by rw [digT, if_neg h]

theorem digT_size : ∀ (k n : Nat), n < 10 ^ (k + 1) → (digT n).size ≤ k + 1
  | 0, n, h => by
    rw [digT_small (by simpa using h), strOfNums_size]
    simp
  | k + 1, n, h => by
    by_cases h1 : n < 10
    · rw [digT_small h1, strOfNums_size]
      simp
    · have h2 : n / 10 < 10 ^ (k + 1) := by
        rw [Nat.div_lt_iff_lt_mul (by decide)]
        rw [Nat.pow_succ] at h
        exact h
      have h3 := digT_size k (n / 10) h2
      rw [digT_big h1, ByteArray.size_append, strOfNums_size]
      simp
      omega
theorem digT_size19 {n : Nat} (h : (n : Int) ≤ 9223372036854775807) : (digT n).size ≤ 19 := by
  have h2 : (10 : Nat) ^ (18 + 1) = 10000000000000000000 := by decide
  exact digT_size 18 n (by rw [h2]; omega)
theorem digT_pos (n : Nat) : 1 ≤ (digT n).size := by
  by_cases h : n < 10
  · rw [digT_small h, strOfNums_size]; simp
  · rw [digT_big h, ByteArray.size_append, strOfNums_size]; simp
theorem row1 (W : World) (c : Int) : Row (W.alloc (.cells #[.int .u8 c] 5)) .u8 (.slice (some ⟨W.heap.size, 0, none⟩) 1 1) [c] :=
  .inr ⟨W.heap.size, 0, 1, rfl, by simp, by unfold maxLen; omega, by simp, fun i hi => match i, hi with | 0, _ => by simp⟩
theorem conv1 {W : World} {b : Nat} {c : Int} (h : Row W .u8 (.slice (some ⟨b, 0, none⟩) 1 1) [c]) : (convert 22 9 (.slice (some ⟨b, 0, none⟩) 1 1)).run Tryz.prog W = .ok (.string (strOfNums [c])) W :=
  conv_row (P := Tryz.prog) W Tryz.underlying22 Tryz.underlying5 Tryz.underlying9 h
/-- a text is handed back, and memory made -/
def TextB (s : ByteArray) (w : World) (e : Ending) (w' : World) : Prop := e = .returned (.string s) ∧ Below w.heap.size w w'

set_option maxRecDepth 100000 in
set_option maxHeartbeats 800000 in
theorem l1Digits_any (n : Nat) : (n : Int) ≤ 9223372036854775807 → ∀ w, Calls Tryz.prog 126 #[.int .i64 n] w (TextB (digT n) w) := by
  induction n using Nat.strongRecOn with
  | ind n ih =>
    intro hb w
    unfold TextB
    by_cases h : n < 10
    · rw [digT_small h]
      have h' : (n : Int) < 10 := by omega
      have hcv := conv1 (row1 w (48 + (n : Int)))
      clear ih hb h
      go_enter Tryz.func126, Tryz.ntmps126
      go_wp2
      go_ret
      exact ⟨rfl, below1 _ _⟩
    · have K := Lib.hid (ih (n / 10) (by omega) (by omega))
      unfold TextB at K
      rw [digT_big h]
      have e : ((n / 10 : Nat) : Int) = (n : Int) / 10 := by omega
      rw [e] at K
      have hsz := digT_size19 (n := n / 10) (by omega)
      generalize digT (n / 10) = t at K hsz ⊢
      have h' : 10 ≤ (n : Int) := by omega
      have q1 : 0 ≤ (n : Int) % 10 := by omega
      have q2 : (n : Int) % 10 < 10 := by omega
      have hs1 : (strOfNums [48 + (n : Int) % 10]).size ≤ 1 := by rw [strOfNums_size]; simp
      have hr0 := Lib.hid (row1 w (48 + (n : Int) % 10))
      have hcv0 := conv1 (W := (w.alloc (.cells #[.int .u8 (48 + (n : Int) % 10)] 5)).drew) (hr0.out.drewN 1)
      have k1 : IntKind.i64.wrap ((n : Int) / 10) = (n : Int) / 10 := IntWalk.i64_in _ (by omega)
      have k2 : (n : Int).tmod 10 = (n : Int) % 10 := Int.tmod_eq_emod_of_nonneg (by omega)
      have k3 : IntKind.i64.wrap (48 + (n : Int) % 10) = 48 + (n : Int) % 10 := IntWalk.i64_in _ (by omega)
      have k4 : IntKind.u8.wrap (48 + (n : Int) % 10) = 48 + (n : Int) % 10 := IntWalk.u8_in _ (by omega)
      clear ih h e
      go_enter Tryz.func126, Tryz.ntmps126
      go_wp2
      go_region_with (go_at_call 126; refine (K.out _).mono ?_; rintro e w1 ⟨rfl, hb1⟩; have hcv1 := conv1 (row1 w1 (48 + (n : Int) % 10)); try (have hcv2 := conv1 ((hr0.out.drewN 1).below hb1)))
      all_goals
        go_wp2
        go_ret
        first
          | exact ⟨rfl, (below_of_drew hb1).alloc (below_of_drew hb1).size _⟩
          | exact ⟨rfl, ((below1 w _).drew).trans (hb1.mono (by simp))⟩

/-- a number with its sign -/
def numT (n : Int) : ByteArray := if n < 0 then ⟨#[45]⟩ ++ digT n.natAbs else digT n.natAbs
theorem l7Number_any (n : Int) (h1 : -9223372036854775807 ≤ n) (h2 : n ≤ 9223372036854775807) (w : World) :
    Calls Tryz.prog 89 #[.int .i64 n] w (TextB (numT n) w) := by
  have K := Lib.hid (l1Digits_any n.natAbs (by omega))
  unfold numT
  unfold TextB at K ⊢
  have hsz := digT_size19 (n := n.natAbs) (by omega)
  generalize digT n.natAbs = t at K hsz ⊢
  by_cases h : n < 0
  · rw [if_pos h]
    have e : (n.natAbs : Int) = -n := by omega
    rw [e] at K
    clear e
    go_enter Tryz.func89, Tryz.ntmps89
    go_wp2_with fail
    refine (K.out _).mono ?_
    rintro e w1 ⟨rfl, hb1⟩
    go_wp2
    exact bodyPost_ret (v := .string _) (by simp [results, Tryz.results89, go_sem]) rfl ⟨rfl, hb1⟩
  · rw [if_neg h]
    have e : (n.natAbs : Int) = n := by omega
    rw [e] at K
    clear e
    go_enter Tryz.func89, Tryz.ntmps89
    go_wp2_with fail
    refine (K.out _).mono ?_
    rintro e w1 ⟨rfl, hb1⟩
    go_wp2
    go_ret
    exact ⟨rfl, hb1⟩
end Go.Proofs.YtpafknmfacgccaaGreatDoor

/- Plain words on digits, and on a list of bytes as a text: no run in this text. -/
namespace Go.Proofs.YtpafknmfacgccaaGreatDoor
set_option linter.unusedVariables false

def hexV (c : UInt8) : Int := if 48 ≤ c.toNat ∧ c.toNat ≤ 57 then (c.toNat : Int) - 48 else if 97 ≤ c.toNat ∧ c.toNat ≤ 102 then (c.toNat : Int) - 97 + 10 else if 65 ≤ c.toNat ∧ c.toNat ≤ 70 then (c.toNat : Int) - 65 + 10 else -1
def digB (base : Int) (c : UInt8) : Bool := decide (0 ≤ hexV c) && decide (hexV c < base)
def numF (base : Int) : Int → List UInt8 → Int
  | n, [] => n
  | n, c :: t => if digB base c then numF base (n * base + hexV c) t else -1
/-- what digits tell; -1: they are none, or too many -/
def numberL (base : Int) (most : Nat) (l : List UInt8) : Int := if l.length < 1 ∨ most < l.length then -1 else numF base 0 l
theorem hexV_le (c : UInt8) : -1 ≤ hexV c ∧ hexV c ≤ 15 := by
  unfold hexV
  repeat' split
  all_goals omega
theorem numF_lt (base : Int) : ∀ (l : List UInt8) (n : Int), l.all (digB base) = false → numF base n l = -1
  | [], _, h => by simp at h
  | c :: t, n, h => by
    unfold numF
    cases hd : digB base c
    · rfl
    · rw [List.all_cons, hd, Bool.true_and] at h
      simp only [if_true]
      exact numF_lt base t _ h
theorem numF_bd (base : Int) (hb : 0 ≤ base) : ∀ (l : List UInt8) (n : Int), l.all (digB base) = true → 0 ≤ n → 0 ≤ numF base n l ∧ numF base n l < (n + 1) * base ^ l.length
  | [], n, _, h0 => by simp [numF]; omega
  | c :: t, n, h, h0 => by
    rw [List.all_cons, Bool.and_eq_true] at h
    have hd := h.1
    unfold digB at hd
    simp only [Bool.and_eq_true, decide_eq_true_eq] at hd
    unfold numF
    rw [if_pos h.1]
    have hm : 0 ≤ n * base := Int.mul_nonneg h0 hb
    have ih := numF_bd base hb t (n * base + hexV c) h.2 (by omega)
    refine ⟨ih.1, Int.lt_of_lt_of_le ih.2 ?_⟩
    rw [List.length_cons, Int.pow_succ, ← Int.mul_assoc, Int.mul_right_comm]
    refine Int.mul_le_mul_of_nonneg_right ?_ (Int.pow_nonneg hb)
    rw [Int.add_mul]
    omega
theorem number_cases (base : Int) (most : Nat) (l : List UInt8) (hb : 0 ≤ base) : numberL base most l = -1 ∨ (1 ≤ l.length ∧ l.length ≤ most ∧ l.all (digB base) = true ∧ 0 ≤ numberL base most l ∧ numberL base most l < base ^ l.length) := by
  unfold numberL
  split
  · exact .inl rfl
  · rename_i h
    cases hd : l.all (digB base)
    · exact .inl (numF_lt base l 0 hd)
    · have := numF_bd base hb l 0 hd (by omega)
      exact .inr ⟨by omega, by omega, rfl, this.1, by have := this.2; simpa using this⟩
theorem pow_small (base : Int) (k m : Nat) (hb : 1 ≤ base) (h : k ≤ m) : base ^ k ≤ base ^ m := by
  obtain ⟨d, rfl⟩ := Nat.exists_eq_add_of_le h
  rw [Int.pow_add]
  have h1 : 0 ≤ base ^ k := Int.pow_nonneg (by omega)
  have h2 : 1 ≤ base ^ d := by
    clear h h1
    induction d with
    | zero => simp
    | succ d ih =>
      rw [Int.pow_succ]
      have := Int.mul_le_mul ih hb (by omega) (by omega)
      omega
  have := Int.mul_le_mul_of_nonneg_left h2 h1
  omega
def bst (l : List UInt8) : ByteArray := ⟨l.toArray⟩
theorem bst_toList (l : List UInt8) : (bst l).data.toList = l := rfl
theorem bst_of {s : ByteArray} {l : List UInt8} (h : s.data.toList = l) : s = bst l := by
  subst h
  cases s with
  | mk d => rfl
theorem bst_size (l : List UInt8) : (bst l).size = l.length := rfl
end Go.Proofs.YtpafknmfacgccaaGreatDoor
