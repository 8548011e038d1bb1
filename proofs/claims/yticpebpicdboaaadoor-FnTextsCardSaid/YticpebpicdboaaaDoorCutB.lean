/- strings.Cut at a blank. -/
import Derived.Test.YticpebpicdboaaaDoorBase
import Derived.Test.YticpebpicdboaaaDoorShelf
namespace Go.Proofs.YticpebpicdboaaaDoor
open Go.ChangeShapes Go.WideShapes Go.ChangeAt Go.RowKit
set_option linter.unusedVariables false

theorem indexByte_first : ∀ (l : List UInt8) (c : UInt8), Lib.indexByte l c = if l.findIdx (· == c) < l.length then (l.findIdx (· == c) : Int) else -1
  | [], c => by simp [Lib.indexByte]
  | b :: l, c => by
    have ih := indexByte_first l c
    unfold Lib.indexByte
    rw [List.findIdx_cons, ih]
    cases hb : (b == c)
    · simp only [Bool.false_eq_true, if_false, cond_false, List.length_cons]
      by_cases h : l.findIdx (· == c) < l.length
      · have h2 : (((l.findIdx (· == c) : Nat) : Int) == -1) = false := by rw [beq_eq_false_iff_ne]; omega
        rw [if_pos h, h2, if_neg (by simp), if_pos (by omega)]
        omega
      · rw [if_neg h, if_pos (by decide), if_neg (by omega)]
    · simp
theorem cutb_hit (s : ByteArray) (c : UInt8) (hs : s.size ≤ maxLen) (i : Nat) (hi : i < s.size) (h : Lib.indexByte s.data.toList c = (i : Int)) (w : World) :
    Calls Tryd.prog 22 #[.string s, .string ⟨#[c]⟩] w fun e w' => e = .returned (.tuple #[.string (s.extract 0 i), .string (s.extract (i + 1) s.size), .bool true]) ∧ Below w.heap.size w w' := by
  have K0 : ∀ W, Calls Tryd.prog 40 #[.string s, .string ⟨#[c]⟩] W fun e w' => e = .returned (.int .i64 i) ∧ w' = W := by
    intro W
    have := Tryd.stringslite_Index_one s c W
    rw [h] at this
    exact this
  have K := Lib.hid K0
  unfold maxLen at hs
  have hii : (i : Int) < (s.size : Int) := by omega
  clear K0 h
  have K1 : Hid (∀ W, Calls Tryd.prog 33 #[.string s, .string ⟨#[c]⟩] W fun e w' => e = .returned (.tuple #[.string (s.extract 0 i), .string (s.extract (i + 1) s.size), .bool true]) ∧ Below W.heap.size W w') := by
    refine Lib.hid fun W => ?_
    go_enter Tryd.func33, Tryd.ntmps33
    go_wp2_with (go_at_call 40; refine (K.out _).mono ?_; rintro e w' ⟨rfl, rfl⟩)
    have c1 : (0 : Int) ≤ (i : Int) := by omega
    have c2 : (i : Int) ≤ (s.size : Int) := by omega
    have c3 : (0 : Int) ≤ (i : Int) + 1 := by omega
    have c4 : (i : Int) + 1 ≤ (s.size : Int) := by omega
    have c5 : IntKind.i64.wrap ((i : Int) + 1) = (i : Int) + 1 := by rw [IntKind.wrap_i64]; omega
    have mixed : Tryd.prog.follows Departure.mixedOrders = true := by kernel_rfl
    go_region_o
    clear c5
    go_wp2
    go_ret3
    exact ⟨rfl, below_drewN (Below.refl _ _) _⟩
  go_enter Tryd.func22, Tryd.ntmps22
  go_wp2_with (go_at_call 33; refine (K1.out _).mono ?_; rintro e w' ⟨rfl, hb⟩)
  go_ret3
  exact ⟨rfl, hb⟩
theorem cutb_miss (s : ByteArray) (c : UInt8) (h : Lib.indexByte s.data.toList c = -1) (w : World) :
    Calls Tryd.prog 22 #[.string s, .string ⟨#[c]⟩] w fun e w' => e = .returned (.tuple #[.string s, .string ⟨#[]⟩, .bool false]) ∧ Below w.heap.size w w' := by
  have K0 : ∀ W, Calls Tryd.prog 40 #[.string s, .string ⟨#[c]⟩] W fun e w' => e = .returned (.int .i64 (-1)) ∧ w' = W := by
    intro W
    have := Tryd.stringslite_Index_one s c W
    rw [h] at this
    exact this
  have K := Lib.hid K0
  clear K0 h
  have K1 : Hid (∀ W, Calls Tryd.prog 33 #[.string s, .string ⟨#[c]⟩] W fun e w' => e = .returned (.tuple #[.string s, .string ⟨#[]⟩, .bool false]) ∧ Below W.heap.size W w') := by
    refine Lib.hid fun W => ?_
    go_enter Tryd.func33, Tryd.ntmps33
    go_wp2_with (go_at_call 40; refine (K.out _).mono ?_; rintro e w' ⟨rfl, rfl⟩)
    go_ret3
    exact ⟨rfl, Below.refl _ _⟩
  go_enter Tryd.func22, Tryd.ntmps22
  go_wp2_with (go_at_call 33; refine (K1.out _).mono ?_; rintro e w' ⟨rfl, hb⟩)
  go_ret3
  exact ⟨rfl, hb⟩
/-- what is behind the first such sign -/
def behindC (s : ByteArray) (c : UInt8) : ByteArray := if s.data.toList.findIdx (· == c) < s.size then s.extract (s.data.toList.findIdx (· == c) + 1) s.size else ⟨#[]⟩
theorem cutb_any (s : ByteArray) (c : UInt8) (hs : s.size ≤ maxLen) (w : World) :
    Calls Tryd.prog 22 #[.string s, .string ⟨#[c]⟩] w fun e w' => (∃ ahead found, e = .returned (.tuple #[.string ahead, .string (behindC s c), .bool found])) ∧ Below w.heap.size w w' := by
  have hl : s.data.toList.length = s.size := by simp
  have hi := indexByte_first s.data.toList c
  rw [hl] at hi
  unfold behindC
  by_cases h : s.data.toList.findIdx (· == c) < s.size
  · rw [if_pos h] at hi ⊢
    exact (cutb_hit s c hs _ h hi w).mono fun e w' ⟨he, hb⟩ => ⟨⟨_, _, he⟩, hb⟩
  · rw [if_neg h] at hi ⊢
    exact (cutb_miss s c hi w).mono fun e w' ⟨he, hb⟩ => ⟨⟨_, _, he⟩, hb⟩
end Go.Proofs.YticpebpicdboaaaDoor
