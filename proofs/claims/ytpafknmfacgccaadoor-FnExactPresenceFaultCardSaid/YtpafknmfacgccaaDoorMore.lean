/- Plain facts on what a presence carries besides (chapter 7's MoreFault). -/
import Derived.Test.YtpafknmfacgccaaDoorItem
namespace Go.Proofs.YtpafknmfacgccaaDoor
open Go.ChangeShapes Go.WideShapes Go.ChangeAt Go.RowKit
set_option linter.unusedVariables false

/-- the space of the client's own elements -/
def csL : List UInt8 := [106, 97, 98, 98, 101, 114, 58, 99, 108, 105, 101, 110, 116]
def headB (z : Bool) (d : Int) (e cs : Bool) : Bool := !(((d == 0) && (e || cs)) || (z && !(d == 0)))
def stepB (d pd : Int) (xe pe : Bool) : Bool := !(decide (pd + 1 < d) || (decide (pd < d) && pe) || (xe && pe && (d == pd)))
theorem head_no {z : Bool} {d : Int} {e cs : Bool} (h : headB z d e cs = false) : ((d == 0) = true ∧ e = true) ∨ ((d == 0) = true ∧ e = false ∧ cs = true) ∨ ((d == 0) = false ∧ z = true) := by
  have key : ∀ a z e c : Bool, (!((a && (e || c)) || (z && !a))) = false → (a = true ∧ e = true) ∨ (a = true ∧ e = false ∧ c = true) ∨ (a = false ∧ z = true) := by
    intro a z e c
    cases a <;> cases z <;> cases e <;> cases c <;> simp
  exact key _ _ _ _ h
theorem head_yes {z : Bool} {d : Int} {e cs : Bool} (h : headB z d e cs = true) : ((d == 0) = true ∧ e = false ∧ cs = false) ∨ ((d == 0) = false ∧ z = false) := by
  have key : ∀ a z e c : Bool, (!((a && (e || c)) || (z && !a))) = true → (a = true ∧ e = false ∧ c = false) ∨ (a = false ∧ z = false) := by
    intro a z e c
    cases a <;> cases z <;> cases e <;> cases c <;> simp
  exact key _ _ _ _ h
theorem step_no {d pd : Int} {xe pe : Bool} (h : stepB d pd xe pe = false) :
    decide (pd + 1 < d) = true ∨ (decide (pd + 1 < d) = false ∧ decide (pd < d) = true ∧ pe = true) ∨ (decide (pd + 1 < d) = false ∧ decide (pd < d) = false ∧ xe = true ∧ pe = true ∧ (d == pd) = true) := by
  have key : ∀ a b e p f : Bool, (!(a || (b && p) || (e && p && f))) = false → a = true ∨ (a = false ∧ b = true ∧ p = true) ∨ (a = false ∧ b = false ∧ e = true ∧ p = true ∧ f = true) := by
    intro a b e p f
    cases a <;> cases b <;> cases e <;> cases p <;> cases f <;> simp
  exact key _ _ _ _ _ h
theorem step_yes {d pd : Int} {xe pe : Bool} (h : stepB d pd xe pe = true) :
    (decide (pd + 1 < d) = false ∧ decide (pd < d) = true ∧ pe = false ∧ xe = false) ∨ (decide (pd + 1 < d) = false ∧ decide (pd < d) = true ∧ pe = false ∧ xe = true) ∨ (decide (pd + 1 < d) = false ∧ decide (pd < d) = false ∧ xe = false) ∨
    (decide (pd + 1 < d) = false ∧ decide (pd < d) = false ∧ xe = true ∧ pe = false) ∨ (decide (pd + 1 < d) = false ∧ decide (pd < d) = false ∧ xe = true ∧ pe = true ∧ (d == pd) = false) := by
  have key : ∀ a b e p f : Bool, (!(a || (b && p) || (e && p && f))) = true → (a = false ∧ b = true ∧ p = false ∧ e = false) ∨ (a = false ∧ b = true ∧ p = false ∧ e = true) ∨ (a = false ∧ b = false ∧ e = false) ∨ (a = false ∧ b = false ∧ e = true ∧ p = false) ∨ (a = false ∧ b = false ∧ e = true ∧ p = true ∧ f = false) := by
    intro a b e p f
    cases a <;> cases b <;> cases e <;> cases p <;> cases f <;> simp
  exact key _ _ _ _ _ h
def csOf (x : It) : Bool := x.space.toList == csL
/-- item i may stand where it does -/
def moreStand (l : List It) (i : Nat) : Bool :=
  headB (decide (i = 0)) (l.getD i dIt).depth (l.getD i dIt).name.toList.isEmpty (csOf (l.getD i dIt)) && (decide (i = 0) || stepB (l.getD i dIt).depth (l.getD (i - 1) dIt).depth (l.getD i dIt).name.toList.isEmpty (l.getD (i - 1) dIt).name.toList.isEmpty)
def moreStands (l : List It) : Bool := (List.range l.length).all (moreStand l)
theorem moreStands_no {l : List It} {i : Nat} (h : i < l.length) (h1 : moreStand l i = false) : moreStands l = false := by
  cases hc : moreStands l
  · rfl
  · unfold moreStands at hc
    rw [List.all_eq_true] at hc
    rw [hc i (List.mem_range.2 h)] at h1
    cases h1
theorem moreStands_yes {l : List It} (h : ∀ i, i < l.length → moreStand l i = true) : moreStands l = true := by
  unfold moreStands
  rw [List.all_eq_true]
  exact fun i hi => h i (List.mem_range.1 hi)
/-- the code of one item -/
def moreAt (x : It) : Int := if itemCode x ≠ 0 then itemCode x else if x.depth = 6 then 3 else 0
def moreCode (l : List It) : Int :=
  if 20 < l.length then 2 else
  match l.find? (fun x => moreAt x != 0) with
  | some x => moreAt x
  | none => if moreStands l = true then 0 else 1
theorem moreCode_many {l : List It} (h : 20 < l.length) : moreCode l = 2 := by unfold moreCode; rw [if_pos h]
theorem moreCode_at {l : List It} {k : Nat} (h : ¬ 20 < l.length) (hk : k < l.length) (h0 : ∀ j, j < k → moreAt (l.getD j dIt) = 0) (h1 : moreAt (l.getD k dIt) ≠ 0) : moreCode l = moreAt (l.getD k dIt) := by
  unfold moreCode
  rw [if_neg h, find_at l dIt (fun x => moreAt x != 0) k hk (fun j hj => by simp only [h0 j hj]; decide) (by simpa using h1)]
theorem moreCode_end {l : List It} (h : ¬ 20 < l.length) (h0 : ∀ j, j < l.length → moreAt (l.getD j dIt) = 0) : moreCode l = if moreStands l = true then 0 else 1 := by
  unfold moreCode
  rw [if_neg h, find_no l dIt (fun x => moreAt x != 0) (fun j hj => by simp only [h0 j hj]; decide)]
end Go.Proofs.YtpafknmfacgccaaDoor
