/- Plain facts on items' faults and trees' faults. -/
import Derived.Test.YtpafknmfacgccaaGreatDoorGT0
import Derived.Test.YtpafknmfacgccaaGreatDoorGT2
import Derived.Test.YtpafknmfacgccaaGreatDoorGT3
namespace Go.Proofs.YtpafknmfacgccaaGreatDoor
open Go.ChangeShapes Go.WideShapes Go.ChangeAt Go.RowKit
set_option linter.unusedVariables false

theorem empty_iff (s : ByteArray) : s.toList.isEmpty = true ↔ s.data.toList = [] := by rw [ByteArray.toList_eq, List.isEmpty_iff]

theorem less_le : ∀ (x y : List UInt8), (Op.bytesLess x y || (x == y)) = !Op.bytesLess y x
  | [], [] => rfl
  | [], _ :: _ => rfl
  | _ :: _, [] => rfl
  | a :: x, b :: y => by
    have ih := less_le x y
    simp only [Op.bytesLess, List.cons_beq_cons]
    by_cases h1 : a < b
    · have h2 : ¬ b < a := fun h => by rw [UInt8.lt_iff_toNat_lt] at h h1; omega
      have h3 : (b == a) = false := by rw [beq_eq_false_iff_ne]; rintro rfl; exact h2 h1
      simp [h1, h2, h3]
    · by_cases h2 : b < a
      · have h3 : (a == b) = false := by rw [beq_eq_false_iff_ne]; rintro rfl; exact h1 h2
        simp [h1, h2, h3]
      · have h3 : a = b := by rw [UInt8.lt_iff_toNat_lt] at h1 h2; exact UInt8.toNat_inj.1 (by omega)
        subst h3
        simp only [h1, decide_false, beq_self_eq_true, Bool.true_and, Bool.false_or]
        exact ih
theorem less_no {x y : List UInt8} (h : Op.bytesLess y x = false) : Op.bytesLess x y = true ∨ Op.bytesLess x y = false ∧ (x == y) = true := by
  have := less_le x y
  rw [h] at this
  cases hq : Op.bytesLess x y
  · rw [hq] at this; exact .inr ⟨rfl, by simpa using this⟩
  · exact .inl rfl
theorem less_yes {x y : List UInt8} (h : Op.bytesLess y x = true) : Op.bytesLess x y = false ∧ (x == y) = false := by
  have := less_le x y
  rw [h] at this
  simpa using this
theorem ret_i {a b : Int} (h : a = b) : Ending.returned (.int .i64 a) = .returned (.int .i64 b) := by rw [h]
/-- an attribute's fault by itself -/
def atFault (x : At) : Int := if isKeyL x.name = true then textFault x.value.data.toList else 5
def lessAt (x y : At) : Bool := Op.bytesLess x.name.toList y.name.toList
def rises (l : List At) : Bool := (List.range l.length).all fun i => i == 0 || lessAt (l.getD (i - 1) dAt) (l.getD i dAt)
def attrsCode (l : List At) : Int :=
  if 5 < l.length then 2 else
  match l.find? (fun x => atFault x != 0) with
  | some x => atFault x
  | none => if rises l = true then 0 else 6
def textCode (x : It) : Int := if x.space.toList.isEmpty = false ∨ 0 < x.attrs.length ∨ x.text.toList.isEmpty = true then 1 else textFault x.text.data.toList
def elemCode (x : It) : Int :=
  if x.text.toList.isEmpty = false then 1 else
  if isNameL x.name.data.toList = false then 5 else
  if textFault x.space.data.toList = 0 then attrsCode x.attrs else textFault x.space.data.toList
def itemCode (x : It) : Int :=
  if x.depth < 0 ∨ 6 < x.depth then 3 else
  if x.name.toList.isEmpty = true then textCode x else elemCode x

theorem attrsCode_many {l : List At} (h : 5 < l.length) : attrsCode l = 2 := by unfold attrsCode; rw [if_pos h]
theorem attrsCode_at {l : List At} {k : Nat} (h : ¬ 5 < l.length) (hk : k < l.length) (h0 : ∀ j, j < k → atFault (l.getD j dAt) = 0) (h1 : atFault (l.getD k dAt) ≠ 0) : attrsCode l = atFault (l.getD k dAt) := by
  unfold attrsCode
  rw [if_neg h, find_at l dAt _ k hk (fun j hj => by simp only [h0 j hj]; decide) (by simpa using h1)]
theorem attrsCode_end {l : List At} (h : ¬ 5 < l.length) (h0 : ∀ j, j < l.length → atFault (l.getD j dAt) = 0) : attrsCode l = if rises l = true then 0 else 6 := by
  unfold attrsCode
  rw [if_neg h, find_no l dAt _ fun j hj => by simp only [h0 j hj]; decide]
theorem rises_yes {l : List At} (h : ∀ i, 1 ≤ i → i < l.length → lessAt (l.getD (i - 1) dAt) (l.getD i dAt) = true) : rises l = true := by
  unfold rises
  rw [List.all_eq_true]
  intro i hi
  rw [List.mem_range] at hi
  by_cases h0 : i = 0
  · simp [h0]
  · rw [h i (by omega) hi]; simp
theorem rises_no {l : List At} {i : Nat} (h1 : 1 ≤ i) (h2 : i < l.length) (h : lessAt (l.getD (i - 1) dAt) (l.getD i dAt) = false) : rises l = false := by
  rw [Bool.eq_false_iff]
  intro hc
  unfold rises at hc
  rw [List.all_eq_true] at hc
  have := hc i (List.mem_range.2 h2)
  rw [h] at this
  simp at this
  omega

/-- an item of the Depth xd may stand right behind one of the Depth pd (xn, pn: it has no Name) -/
def standB (xd pd : Int) (xn pn : Bool) : Bool := !(xd == 0 || decide (pd + 1 < xd) || (decide (pd < xd) && pn) || (xn && pn && xd == pd))
def mayStand (p x : It) : Bool := standB x.depth p.depth x.name.toList.isEmpty p.name.toList.isEmpty
theorem stand_no {xd pd : Int} {xn pn : Bool} (h : standB xd pd xn pn = false) :
    ((xd == 0) = true) ∨ ((xd == 0) = false ∧ decide (pd + 1 < xd) = true) ∨ ((xd == 0) = false ∧ decide (pd + 1 < xd) = false ∧ decide (pd < xd) = true ∧ pn = true) ∨
    ((xd == 0) = false ∧ decide (pd + 1 < xd) = false ∧ decide (pd < xd) = false ∧ xn = true ∧ pn = true ∧ (xd == pd) = true) := by
  have key : ∀ a b c d e f : Bool, (!(a || b || (c && e) || (d && e && f))) = false → (a = true) ∨ (a = false ∧ b = true) ∨ (a = false ∧ b = false ∧ c = true ∧ e = true) ∨ (a = false ∧ b = false ∧ c = false ∧ d = true ∧ e = true ∧ f = true) := by
    intro a b c d e f
    cases a <;> cases b <;> cases c <;> cases d <;> cases e <;> cases f <;> simp
  exact key _ _ _ _ _ _ h
theorem stand_yes {xd pd : Int} {xn pn : Bool} (h : standB xd pd xn pn = true) :
    ((xd == 0) = false ∧ decide (pd + 1 < xd) = false ∧ decide (pd < xd) = true ∧ pn = false ∧ xn = false) ∨ ((xd == 0) = false ∧ decide (pd + 1 < xd) = false ∧ decide (pd < xd) = true ∧ pn = false ∧ xn = true) ∨
    ((xd == 0) = false ∧ decide (pd + 1 < xd) = false ∧ decide (pd < xd) = false ∧ xn = false) ∨ ((xd == 0) = false ∧ decide (pd + 1 < xd) = false ∧ decide (pd < xd) = false ∧ xn = true ∧ pn = false) ∨
    ((xd == 0) = false ∧ decide (pd + 1 < xd) = false ∧ decide (pd < xd) = false ∧ xn = true ∧ pn = true ∧ (xd == pd) = false) := by
  have key : ∀ a b c d e f : Bool, (!(a || b || (c && e) || (d && e && f))) = true → (a = false ∧ b = false ∧ c = true ∧ e = false ∧ d = false) ∨ (a = false ∧ b = false ∧ c = true ∧ e = false ∧ d = true) ∨ (a = false ∧ b = false ∧ c = false ∧ d = false) ∨ (a = false ∧ b = false ∧ c = false ∧ d = true ∧ e = false) ∨ (a = false ∧ b = false ∧ c = false ∧ d = true ∧ e = true ∧ f = false) := by
    intro a b c d e f
    cases a <;> cases b <;> cases c <;> cases d <;> cases e <;> cases f <;> simp
  exact key _ _ _ _ _ _ h
def followB (xd pd : Int) (xn pn : Bool) : Bool := if pn = true then (decide (xd < pd) || ((xd == pd) && !xn)) else decide (xd ≤ pd + 1)
theorem stand_follow {xd pd : Int} {xn pn : Bool} (h : (xd == 0) = false) : standB xd pd xn pn = followB xd pd xn pn := by
  unfold standB followB
  rw [h, Bool.eq_iff_iff]
  cases pn <;> cases xn <;> simp <;> omega
theorem stand_zero {xd pd : Int} {xn pn : Bool} (h : (xd == 0) = true) : standB xd pd xn pn = false := by
  unfold standB
  rw [h]; simp
def stands (l : List It) : Bool := decide ((l.getD 0 dIt).depth = 0) && !(l.getD 0 dIt).name.toList.isEmpty && (List.range l.length).all fun i => i == 0 || mayStand (l.getD (i - 1) dIt) (l.getD i dIt)
def treeCode (l : List It) : Int :=
  if l.length < 1 ∨ 40 < l.length then 2 else
  match l.find? (fun x => itemCode x != 0) with
  | some x => itemCode x
  | none => if stands l = true then 0 else 1
theorem treeCode_many {l : List It} (h : l.length < 1 ∨ 40 < l.length) : treeCode l = 2 := by unfold treeCode; rw [if_pos h]
theorem treeCode_at {l : List It} {k : Nat} (h : ¬ (l.length < 1 ∨ 40 < l.length)) (hk : k < l.length) (h0 : ∀ j, j < k → itemCode (l.getD j dIt) = 0) (h1 : itemCode (l.getD k dIt) ≠ 0) : treeCode l = itemCode (l.getD k dIt) := by
  unfold treeCode
  rw [if_neg h, find_at l dIt _ k hk (fun j hj => by simp only [h0 j hj]; decide) (by simpa using h1)]
theorem treeCode_end {l : List It} (h : ¬ (l.length < 1 ∨ 40 < l.length)) (h0 : ∀ j, j < l.length → itemCode (l.getD j dIt) = 0) : treeCode l = if stands l = true then 0 else 1 := by
  unfold treeCode
  rw [if_neg h, find_no l dIt _ fun j hj => by simp only [h0 j hj]; decide]
theorem item_depth {x : It} (h : itemCode x = 0) : 0 ≤ x.depth ∧ x.depth ≤ 6 := by
  unfold itemCode at h
  by_cases hd : x.depth < 0 ∨ 6 < x.depth
  · rw [if_pos hd] at h; cases h
  · omega
theorem stands_first {l : List It} (h : ¬ ((l.getD 0 dIt).depth = 0 ∧ (l.getD 0 dIt).name.toList.isEmpty = false)) : stands l = false := by
  unfold stands
  by_cases h1 : (l.getD 0 dIt).depth = 0
  · have h2 : (l.getD 0 dIt).name.toList.isEmpty = true := by
      cases hq : (l.getD 0 dIt).name.toList.isEmpty
      · exact absurd ⟨h1, hq⟩ h
      · rfl
    rw [h2]; simp
  · rw [decide_eq_false h1]; simp
theorem stands_yes {l : List It} (h0 : (l.getD 0 dIt).depth = 0) (h1 : (l.getD 0 dIt).name.toList.isEmpty = false) (h : ∀ i, 1 ≤ i → i < l.length → mayStand (l.getD (i - 1) dIt) (l.getD i dIt) = true) : stands l = true := by
  unfold stands
  rw [h0, h1]
  simp only [decide_true, Bool.not_false, Bool.and_true, Bool.true_and, List.all_eq_true]
  intro i hi
  rw [List.mem_range] at hi
  by_cases hz : i = 0
  · simp [hz]
  · rw [h i (by omega) hi]; simp
theorem stands_no {l : List It} {i : Nat} (h1 : 1 ≤ i) (h2 : i < l.length) (h : mayStand (l.getD (i - 1) dIt) (l.getD i dIt) = false) : stands l = false := by
  rw [Bool.eq_false_iff]
  intro hc
  unfold stands at hc
  simp only [Bool.and_eq_true, List.all_eq_true] at hc
  have := hc.2 i (List.mem_range.2 h2)
  rw [h] at this
  simp at this
  omega
end Go.Proofs.YtpafknmfacgccaaGreatDoor

/- Plain facts on what a presence carries besides (chapter 7's MoreFault). -/
namespace Go.Proofs.YtpafknmfacgccaaGreatDoor
open Go.ChangeShapes Go.WideShapes Go.ChangeAt Go.RowKit
set_option linter.unusedVariables false

/-- the space of the client's own elements -/
def csL : List UInt8 := [106, 97, 98, 98, 101, 114, 58, 99, 108, 105, 101, 110, 116]
def headB (z : Bool) (d : Int) (e cs : Bool) : Bool := !(((d == 0) && (e || cs)) || (z && !(d == 0)))
def stepB (d pd : Int) (xe pe : Bool) : Bool := !(decide (pd + 1 < d) || (decide (pd < d) && pe) || (xe && pe && (d == pd)))
theorem head_no {z : Bool} {d : Int} {e cs : Bool} (h : headB z d e cs = false) : ((d == 0) = true ∧ e = true) ∨ ((d == 0) = true ∧ e = false ∧ cs = true) ∨ ((d == 0) = false ∧ z = true) := by
  have key : ∀ a z e c : Bool, (!((a && (e || c)) || (z && !a))) = false → (a = true ∧ e = true) ∨ (a = true ∧ e = false ∧ c = true) ∨ (a = false ∧ z = true) := by
    intro a z e c
    cases a <;> cases z <;> cases e <;> cases c <;> simp
  exact key _ _ _ _ h
theorem head_yes {z : Bool} {d : Int} {e cs : Bool} (h : headB z d e cs = true) : ((d == 0) = true ∧ e = false ∧ cs = false) ∨ ((d == 0) = false ∧ z = false) := by
  have key : ∀ a z e c : Bool, (!((a && (e || c)) || (z && !a))) = true → (a = true ∧ e = false ∧ c = false) ∨ (a = false ∧ z = false) := by
    intro a z e c
    cases a <;> cases z <;> cases e <;> cases c <;> simp
  exact key _ _ _ _ h
theorem step_no {d pd : Int} {xe pe : Bool} (h : stepB d pd xe pe = false) :
    decide (pd + 1 < d) = true ∨ (decide (pd + 1 < d) = false ∧ decide (pd < d) = true ∧ pe = true) ∨ (decide (pd + 1 < d) = false ∧ decide (pd < d) = false ∧ xe = true ∧ pe = true ∧ (d == pd) = true) := by
  have key : ∀ a b e p f : Bool, (!(a || (b && p) || (e && p && f))) = false → a = true ∨ (a = false ∧ b = true ∧ p = true) ∨ (a = false ∧ b = false ∧ e = true ∧ p = true ∧ f = true) := by
    intro a b e p f
    cases a <;> cases b <;> cases e <;> cases p <;> cases f <;> simp
  exact key _ _ _ _ _ h
theorem step_yes {d pd : Int} {xe pe : Bool} (h : stepB d pd xe pe = true) :
    (decide (pd + 1 < d) = false ∧ decide (pd < d) = true ∧ pe = false ∧ xe = false) ∨ (decide (pd + 1 < d) = false ∧ decide (pd < d) = true ∧ pe = false ∧ xe = true) ∨ (decide (pd + 1 < d) = false ∧ decide (pd < d) = false ∧ xe = false) ∨
    (decide (pd + 1 < d) = false ∧ decide (pd < d) = false ∧ xe = true ∧ pe = false) ∨ (decide (pd + 1 < d) = false ∧ decide (pd < d) = false ∧ xe = true ∧ pe = true ∧ (d == pd) = false) := by
  have key : ∀ a b e p f : Bool, (!(a || (b && p) || (e && p && f))) = true → (a = false ∧ b = true ∧ p = false ∧ e = false) ∨ (a = false ∧ b = true ∧ p = false ∧ e = true) ∨ (a = false ∧ b = false ∧ e = false) ∨ (a = false ∧ b = false ∧ e = true ∧ p = false) ∨ (a = false ∧ b = false ∧ e = true ∧ p = true ∧ f = false) := by
    intro a b e p f
    cases a <;> cases b <;> cases e <;> cases p <;> cases f <;> simp
  exact key _ _ _ _ _ h
def csOf (x : It) : Bool := x.space.toList == csL
/-- item i may stand where it does -/
def moreStand (l : List It) (i : Nat) : Bool :=
  headB (decide (i = 0)) (l.getD i dIt).depth (l.getD i dIt).name.toList.isEmpty (csOf (l.getD i dIt)) && (decide (i = 0) || stepB (l.getD i dIt).depth (l.getD (i - 1) dIt).depth (l.getD i dIt).name.toList.isEmpty (l.getD (i - 1) dIt).name.toList.isEmpty)
def moreStands (l : List It) : Bool := (List.range l.length).all (moreStand l)
theorem moreStands_no {l : List It} {i : Nat} (h : i < l.length) (h1 : moreStand l i = false) : moreStands l = false := by
  cases hc : moreStands l
  · rfl
  · unfold moreStands at hc
    rw [List.all_eq_true] at hc
    rw [hc i (List.mem_range.2 h)] at h1
    cases h1
theorem moreStands_yes {l : List It} (h : ∀ i, i < l.length → moreStand l i = true) : moreStands l = true := by
  unfold moreStands
  rw [List.all_eq_true]
  exact fun i hi => h i (List.mem_range.1 hi)
/-- the code of one item -/
def moreAt (x : It) : Int := if itemCode x ≠ 0 then itemCode x else if x.depth = 6 then 3 else 0
def moreCode (l : List It) : Int :=
  if 20 < l.length then 2 else
  match l.find? (fun x => moreAt x != 0) with
  | some x => moreAt x
  | none => if moreStands l = true then 0 else 1
theorem moreCode_many {l : List It} (h : 20 < l.length) : moreCode l = 2 := by unfold moreCode; rw [if_pos h]
theorem moreCode_at {l : List It} {k : Nat} (h : ¬ 20 < l.length) (hk : k < l.length) (h0 : ∀ j, j < k → moreAt (l.getD j dIt) = 0) (h1 : moreAt (l.getD k dIt) ≠ 0) : moreCode l = moreAt (l.getD k dIt) := by
  unfold moreCode
  rw [if_neg h, find_at l dIt (fun x => moreAt x != 0) k hk (fun j hj => by simp only [h0 j hj]; decide) (by simpa using h1)]
theorem moreCode_end {l : List It} (h : ¬ 20 < l.length) (h0 : ∀ j, j < l.length → moreAt (l.getD j dIt) = 0) : moreCode l = if moreStands l = true then 0 else 1 := by
  unfold moreCode
  rw [if_neg h, find_no l dIt (fun x => moreAt x != 0) (fun j hj => by simp only [h0 j hj]; decide)]
end Go.Proofs.YtpafknmfacgccaaGreatDoor
