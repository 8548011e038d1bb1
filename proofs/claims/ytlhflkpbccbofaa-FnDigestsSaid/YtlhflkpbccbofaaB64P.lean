/- Plain words on what is written in base 64. -/
import Derived.Test.YtlhflkpbccbofaaBase
namespace Go.Proofs.Ytlhflkpbccbofaa
set_option linter.unusedVariables false

def b64Signs : ByteArray := { data := #[65, 66, 67, 68, 69, 70, 71, 72, 73, 74, 75, 76, 77, 78, 79, 80, 81, 82, 83, 84, 85, 86, 87, 88, 89, 90, 97, 98, 99, 100, 101, 102, 103, 104, 105, 106, 107, 108, 109, 110, 111, 112, 113, 114, 115, 116, 117, 118, 119, 120, 121, 122, 48, 49, 50, 51, 52, 53, 54, 55, 56, 57, 43, 47] }
/-- a group of up to three bytes as a number -/
def grpN (g : List Int) : Int := g.getD 0 0 * 65536 + g.getD 1 0 * 256 + g.getD 2 0
/-- the i-th sign of a group -/
def grpS (g : List Int) (i : Nat) : UInt8 := if g.length < i then 61 else b64Signs.data.toList.getD (grpN g / 2 ^ (18 - 6 * i) % 64).toNat 0
def grpL (g : List Int) : List UInt8 := [grpS g 0, grpS g 1, grpS g 2, grpS g 3]
/-- the group at a place -/
def grpAt (xs : List Int) (k : Nat) : List Int := (xs.drop (3 * k)).take 3
def b64N (xs : List Int) : Nat := (xs.length + 2) / 3
def b64Pre (xs : List Int) (k : Nat) : List UInt8 := (List.range k).flatMap fun i => grpL (grpAt xs i)
def b64L (xs : List Int) : List UInt8 := b64Pre xs (b64N xs)
theorem b64Pre_succ (xs : List Int) (k : Nat) : b64Pre xs (k + 1) = b64Pre xs k ++ grpL (grpAt xs k) := by simp [b64Pre, List.range_succ]
theorem b64Pre_length (xs : List Int) (k : Nat) : (b64Pre xs k).length = 4 * k := by
  induction k with
  | zero => rfl
  | succ k ih => rw [b64Pre_succ, List.length_append, ih]; simp [grpL]; omega
theorem grpN_bounds {g : List Int} (h : ∀ x ∈ g, 0 ≤ x ∧ x ≤ 255) : 0 ≤ grpN g ∧ grpN g ≤ 16777215 := by
  have k : ∀ i, 0 ≤ g.getD i 0 ∧ g.getD i 0 ≤ 255 := fun i => by
    rw [List.getD_eq_getElem?_getD]
    rcases Nat.lt_or_ge i g.length with hi | hi
    · rw [List.getElem?_eq_getElem hi]
      exact h _ (List.getElem_mem hi)
    · rw [List.getElem?_eq_none hi]
      decide
  have := k 0
  have := k 1
  have := k 2
  unfold grpN
  omega
theorem grpAt_mem {xs : List Int} (h : ∀ x ∈ xs, 0 ≤ x ∧ x ≤ 255) (k : Nat) : ∀ x ∈ grpAt xs k, 0 ≤ x ∧ x ≤ 255 :=
  fun x hx => h x (List.mem_of_mem_drop (List.mem_of_mem_take hx))
theorem grpAt_length (xs : List Int) (k : Nat) : (grpAt xs k).length = min 3 (xs.length - 3 * k) := by simp [grpAt]
theorem grpAt_getD (xs : List Int) (k i : Nat) (hi : i < 3) : (grpAt xs k).getD i 0 = xs.getD (3 * k + i) 0 := by
  unfold grpAt
  rw [List.getD_eq_getElem?_getD, List.getD_eq_getElem?_getD, List.getElem?_take, if_pos hi, List.getElem?_drop]
def b64Code (xs : List Int) : Int := if 3000 < xs.length then 2 else 0
def b64Text (xs : List Int) : ByteArray := if 3000 < xs.length then ByteArray.empty else ⟨(b64L xs).toArray⟩
end Go.Proofs.Ytlhflkpbccbofaa
