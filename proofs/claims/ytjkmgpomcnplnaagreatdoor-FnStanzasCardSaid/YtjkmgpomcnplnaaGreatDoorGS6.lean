/- Plain facts on items' faults and trees' faults. -/
import Derived.Test.YtjkmgpomcnplnaaGreatDoorGS0
import Derived.Test.YtjkmgpomcnplnaaGreatDoorGS5
import Derived.Test.YtjkmgpomcnplnaaGreatDoorGS2
import Derived.Deep.RegionWith
namespace Go.Proofs.YtjkmgpomcnplnaaGreatDoor
open Go.ChangeShapes Go.WideShapes Go.ChangeAt Go.RowKit
set_option linter.unusedVariables false
theorem empty_iff (s : ByteArray) : s.toList.isEmpty = true ↔ s.data.toList = [] := by rw [ByteArray.toList_eq, List.isEmpty_iff]
theorem less_le : ∀ (x y : List UInt8), (Op.bytesLess x y || (x == y)) = !Op.bytesLess y x
  | [], [] => rfl
  | [], _ :: _ => rfl
  | _ :: _, [] => rfl
  | a :: x, b :: y => by
    have ih := less_le x y
    simp only [Op.bytesLess, List.cons_beq_cons]
    by_cases h1 : a < b
    · have h2 : ¬ b < a := fun h => by rw [UInt8.lt_iff_toNat_lt] at h h1; omega
      have h3 : (b == a) = false := by rw [beq_eq_false_iff_ne]; rintro rfl; exact h2 h1
      simp [h1, h2, h3]
    · by_cases h2 : b < a
      · have h3 : (a == b) = false := by rw [beq_eq_false_iff_ne]; rintro rfl; exact h1 h2
        simp [h1, h2, h3]
      · have h3 : a = b := by rw [UInt8.lt_iff_toNat_lt] at h1 h2; exact UInt8.toNat_inj.1 (by omega)
        subst h3
        simp only [h1, decide_false, beq_self_eq_true, Bool.true_and, Bool.false_or]
        exact ih
theorem less_no {x y : List UInt8} (h : Op.bytesLess y x = false) : Op.bytesLess x y = true ∨ Op.bytesLess x y = false ∧ (x == y) = true := by
  have := less_le x y
  rw [h] at this
  cases hq : Op.bytesLess x y
  · rw [hq] at this; exact .inr ⟨rfl, by simpa using this⟩
  · exact .inl rfl
theorem less_yes {x y : List UInt8} (h : Op.bytesLess y x = true) : Op.bytesLess x y = false ∧ (x == y) = false := by
  have := less_le x y
  rw [h] at this
  simpa using this
theorem ret_i {a b : Int} (h : a = b) : Ending.returned (.int .i64 a) = .returned (.int .i64 b) := by rw [h]
def atFault (x : At) : Int := if isKeyL x.name = true then textFault x.value.data.toList else 5
def lessAt (x y : At) : Bool := Op.bytesLess x.name.toList y.name.toList
def rises (l : List At) : Bool := (List.range l.length).all fun i => i == 0 || lessAt (l.getD (i - 1) dAt) (l.getD i dAt)
def attrsCode (l : List At) : Int :=
  if 5 < l.length then 2 else
  match l.find? (fun x => atFault x != 0) with
  | some x => atFault x
  | none => if rises l = true then 0 else 6
def textCode (x : It) : Int := if x.space.toList.isEmpty = false ∨ 0 < x.attrs.length ∨ x.text.toList.isEmpty = true then 1 else textFault x.text.data.toList
def elemCode (x : It) : Int :=
  if x.text.toList.isEmpty = false then 1 else
  if isNameL x.name.data.toList = false then 5 else
  if textFault x.space.data.toList = 0 then attrsCode x.attrs else textFault x.space.data.toList
def itemCode (x : It) : Int :=
  if x.depth < 0 ∨ 6 < x.depth then 3 else
  if x.name.toList.isEmpty = true then textCode x else elemCode x
theorem attrsCode_many {l : List At} (h : 5 < l.length) : attrsCode l = 2 := by unfold attrsCode; rw [if_pos h]
theorem attrsCode_at {l : List At} {k : Nat} (h : ¬ 5 < l.length) (hk : k < l.length) (h0 : ∀ j, j < k → atFault (l.getD j dAt) = 0) (h1 : atFault (l.getD k dAt) ≠ 0) : attrsCode l = atFault (l.getD k dAt) := by
  unfold attrsCode
  rw [if_neg h, find_at l dAt _ k hk (fun j hj => by simp only [h0 j hj]; decide) (by simpa using h1)]
theorem attrsCode_end {l : List At} (h : ¬ 5 < l.length) (h0 : ∀ j, j < l.length → atFault (l.getD j dAt) = 0) : attrsCode l = if rises l = true then 0 else 6 := by
  unfold attrsCode
  rw [if_neg h, find_no l dAt _ fun j hj => by simp only [h0 j hj]; decide]
theorem rises_yes {l : List At} (h : ∀ i, 1 ≤ i → i < l.length → lessAt (l.getD (i - 1) dAt) (l.getD i dAt) = true) : rises l = true := by
  unfold rises
  rw [List.all_eq_true]
  intro i hi
  rw [List.mem_range] at hi
  by_cases h0 : i = 0
  · simp [h0]
  · rw [h i (by omega) hi]; simp
theorem rises_no {l : List At} {i : Nat} (h1 : 1 ≤ i) (h2 : i < l.length) (h : lessAt (l.getD (i - 1) dAt) (l.getD i dAt) = false) : rises l = false := by
  rw [Bool.eq_false_iff]
  intro hc
  unfold rises at hc
  rw [List.all_eq_true] at hc
  have := hc i (List.mem_range.2 h2)
  rw [h] at this
  simp at this
  omega
def standB (xd pd : Int) (xn pn : Bool) : Bool := !(xd == 0 || decide (pd + 1 < xd) || (decide (pd < xd) && pn) || (xn && pn && xd == pd))
def mayStand (p x : It) : Bool := standB x.depth p.depth x.name.toList.isEmpty p.name.toList.isEmpty
theorem stand_no {xd pd : Int} {xn pn : Bool} (h : standB xd pd xn pn = false) :
    ((xd == 0) = true) ∨ ((xd == 0) = false ∧ decide (pd + 1 < xd) = true) ∨ ((xd == 0) = false ∧ decide (pd + 1 < xd) = false ∧ decide (pd < xd) = true ∧ pn = true) ∨
    ((xd == 0) = false ∧ decide (pd + 1 < xd) = false ∧ decide (pd < xd) = false ∧ xn = true ∧ pn = true ∧ (xd == pd) = true) := by
  have key : ∀ a b c d e f : Bool, (!(a || b || (c && e) || (d && e && f))) = false → (a = true) ∨ (a = false ∧ b = true) ∨ (a = false ∧ b = false ∧ c = true ∧ e = true) ∨ (a = false ∧ b = false ∧ c = false ∧ d = true ∧ e = true ∧ f = true) := by
    intro a b c d e f
    cases a <;> cases b <;> cases c <;> cases d <;> cases e <;> cases f <;> simp
  exact key _ _ _ _ _ _ h
theorem stand_yes {xd pd : Int} {xn pn : Bool} (h : standB xd pd xn pn = true) :
    ((xd == 0) = false ∧ decide (pd + 1 < xd) = false ∧ decide (pd < xd) = true ∧ pn = false ∧ xn = false) ∨ ((xd == 0) = false ∧ decide (pd + 1 < xd) = false ∧ decide (pd < xd) = true ∧ pn = false ∧ xn = true) ∨
    ((xd == 0) = false ∧ decide (pd + 1 < xd) = false ∧ decide (pd < xd) = false ∧ xn = false) ∨ ((xd == 0) = false ∧ decide (pd + 1 < xd) = false ∧ decide (pd < xd) = false ∧ xn = true ∧ pn = false) ∨
    ((xd == 0) = false ∧ decide (pd + 1 < xd) = false ∧ decide (pd < xd) = false ∧ xn = true ∧ pn = true ∧ (xd == pd) = false) := by
  have key : ∀ a b c d e f : Bool, (!(a || b || (c && e) || (d && e && f))) = true → (a = false ∧ b = false ∧ c = true ∧ e = false ∧ d = false) ∨ (a = false ∧ b = false ∧ c = true ∧ e = false ∧ d = true) ∨ (a = false ∧ b = false ∧ c = false ∧ d = false) ∨ (a = false ∧ b = false ∧ c = false ∧ d = true ∧ e = false) ∨ (a = false ∧ b = false ∧ c = false ∧ d = true ∧ e = true ∧ f = false) := by
    intro a b c d e f
    cases a <;> cases b <;> cases c <;> cases d <;> cases e <;> cases f <;> simp
  exact key _ _ _ _ _ _ h
def followB (xd pd : Int) (xn pn : Bool) : Bool := if pn = true then (decide (xd < pd) || ((xd == pd) && !xn)) else decide (xd ≤ pd + 1)
theorem stand_follow {xd pd : Int} {xn pn : Bool} (h : (xd == 0) = false) : standB xd pd xn pn = followB xd pd xn pn := by
  unfold standB followB
  rw [h, Bool.eq_iff_iff]
  cases pn <;> cases xn <;> simp <;> omega
theorem stand_zero {xd pd : Int} {xn pn : Bool} (h : (xd == 0) = true) : standB xd pd xn pn = false := by
  unfold standB
  rw [h]; simp
def stands (l : List It) : Bool := decide ((l.getD 0 dIt).depth = 0) && !(l.getD 0 dIt).name.toList.isEmpty && (List.range l.length).all fun i => i == 0 || mayStand (l.getD (i - 1) dIt) (l.getD i dIt)
def treeCode (l : List It) : Int :=
  if l.length < 1 ∨ 40 < l.length then 2 else
  match l.find? (fun x => itemCode x != 0) with
  | some x => itemCode x
  | none => if stands l = true then 0 else 1
theorem treeCode_many {l : List It} (h : l.length < 1 ∨ 40 < l.length) : treeCode l = 2 := by unfold treeCode; rw [if_pos h]
theorem treeCode_at {l : List It} {k : Nat} (h : ¬ (l.length < 1 ∨ 40 < l.length)) (hk : k < l.length) (h0 : ∀ j, j < k → itemCode (l.getD j dIt) = 0) (h1 : itemCode (l.getD k dIt) ≠ 0) : treeCode l = itemCode (l.getD k dIt) := by
  unfold treeCode
  rw [if_neg h, find_at l dIt _ k hk (fun j hj => by simp only [h0 j hj]; decide) (by simpa using h1)]
theorem treeCode_end {l : List It} (h : ¬ (l.length < 1 ∨ 40 < l.length)) (h0 : ∀ j, j < l.length → itemCode (l.getD j dIt) = 0) : treeCode l = if stands l = true then 0 else 1 := by
  unfold treeCode
  rw [if_neg h, find_no l dIt _ fun j hj => by simp only [h0 j hj]; decide]
theorem item_depth {x : It} (h : itemCode x = 0) : 0 ≤ x.depth ∧ x.depth ≤ 6 := by
  unfold itemCode at h
  by_cases hd : x.depth < 0 ∨ 6 < x.depth
  · rw [if_pos hd] at h; cases h
  · omega
theorem stands_first {l : List It} (h : ¬ ((l.getD 0 dIt).depth = 0 ∧ (l.getD 0 dIt).name.toList.isEmpty = false)) : stands l = false := by
  unfold stands
  by_cases h1 : (l.getD 0 dIt).depth = 0
  · have h2 : (l.getD 0 dIt).name.toList.isEmpty = true := by
      cases hq : (l.getD 0 dIt).name.toList.isEmpty
      · exact absurd ⟨h1, hq⟩ h
      · rfl
    rw [h2]; simp
  · rw [decide_eq_false h1]; simp
theorem stands_yes {l : List It} (h0 : (l.getD 0 dIt).depth = 0) (h1 : (l.getD 0 dIt).name.toList.isEmpty = false) (h : ∀ i, 1 ≤ i → i < l.length → mayStand (l.getD (i - 1) dIt) (l.getD i dIt) = true) : stands l = true := by
  unfold stands
  rw [h0, h1]
  simp only [decide_true, Bool.not_false, Bool.and_true, Bool.true_and, List.all_eq_true]
  intro i hi
  rw [List.mem_range] at hi
  by_cases hz : i = 0
  · simp [hz]
  · rw [h i (by omega) hi]; simp
theorem stands_no {l : List It} {i : Nat} (h1 : 1 ≤ i) (h2 : i < l.length) (h : mayStand (l.getD (i - 1) dIt) (l.getD i dIt) = false) : stands l = false := by
  rw [Bool.eq_false_iff]
  intro hc
  unfold stands at hc
  simp only [Bool.and_eq_true, List.all_eq_true] at hc
  have := hc.2 i (List.mem_range.2 h2)
  rw [h] at this
  simp at this
  omega
def csL : List UInt8 := [106, 97, 98, 98, 101, 114, 58, 99, 108, 105, 101, 110, 116]
def headB (z : Bool) (d : Int) (e cs : Bool) : Bool := !(((d == 0) && (e || cs)) || (z && !(d == 0)))
def stepB (d pd : Int) (xe pe : Bool) : Bool := !(decide (pd + 1 < d) || (decide (pd < d) && pe) || (xe && pe && (d == pd)))
theorem head_no {z : Bool} {d : Int} {e cs : Bool} (h : headB z d e cs = false) : ((d == 0) = true ∧ e = true) ∨ ((d == 0) = true ∧ e = false ∧ cs = true) ∨ ((d == 0) = false ∧ z = true) := by
  have key : ∀ a z e c : Bool, (!((a && (e || c)) || (z && !a))) = false → (a = true ∧ e = true) ∨ (a = true ∧ e = false ∧ c = true) ∨ (a = false ∧ z = true) := by
    intro a z e c
    cases a <;> cases z <;> cases e <;> cases c <;> simp
  exact key _ _ _ _ h
theorem head_yes {z : Bool} {d : Int} {e cs : Bool} (h : headB z d e cs = true) : ((d == 0) = true ∧ e = false ∧ cs = false) ∨ ((d == 0) = false ∧ z = false) := by
  have key : ∀ a z e c : Bool, (!((a && (e || c)) || (z && !a))) = true → (a = true ∧ e = false ∧ c = false) ∨ (a = false ∧ z = false) := by
    intro a z e c
    cases a <;> cases z <;> cases e <;> cases c <;> simp
  exact key _ _ _ _ h
theorem step_no {d pd : Int} {xe pe : Bool} (h : stepB d pd xe pe = false) :
    decide (pd + 1 < d) = true ∨ (decide (pd + 1 < d) = false ∧ decide (pd < d) = true ∧ pe = true) ∨ (decide (pd + 1 < d) = false ∧ decide (pd < d) = false ∧ xe = true ∧ pe = true ∧ (d == pd) = true) := by
  have key : ∀ a b e p f : Bool, (!(a || (b && p) || (e && p && f))) = false → a = true ∨ (a = false ∧ b = true ∧ p = true) ∨ (a = false ∧ b = false ∧ e = true ∧ p = true ∧ f = true) := by
    intro a b e p f
    cases a <;> cases b <;> cases e <;> cases p <;> cases f <;> simp
  exact key _ _ _ _ _ h
theorem step_yes {d pd : Int} {xe pe : Bool} (h : stepB d pd xe pe = true) :
    (decide (pd + 1 < d) = false ∧ decide (pd < d) = true ∧ pe = false ∧ xe = false) ∨ (decide (pd + 1 < d) = false ∧ decide (pd < d) = true ∧ pe = false ∧ xe = true) ∨ (decide (pd + 1 < d) = false ∧ decide (pd < d) = false ∧ xe = false) ∨
    (decide (pd + 1 < d) = false ∧ decide (pd < d) = false ∧ xe = true ∧ pe = false) ∨ (decide (pd + 1 < d) = false ∧ decide (pd < d) = false ∧ xe = true ∧ pe = true ∧ (d == pd) = false) := by
  have key : ∀ a b e p f : Bool, (!(a || (b && p) || (e && p && f))) = true → (a = false ∧ b = true ∧ p = false ∧ e = false) ∨ (a = false ∧ b = true ∧ p = false ∧ e = true) ∨ (a = false ∧ b = false ∧ e = false) ∨ (a = false ∧ b = false ∧ e = true ∧ p = false) ∨ (a = false ∧ b = false ∧ e = true ∧ p = true ∧ f = false) := by
    intro a b e p f
    cases a <;> cases b <;> cases e <;> cases p <;> cases f <;> simp
  exact key _ _ _ _ _ h
def csOf (x : It) : Bool := x.space.toList == csL
def moreStand (l : List It) (i : Nat) : Bool :=
  headB (decide (i = 0)) (l.getD i dIt).depth (l.getD i dIt).name.toList.isEmpty (csOf (l.getD i dIt)) && (decide (i = 0) || stepB (l.getD i dIt).depth (l.getD (i - 1) dIt).depth (l.getD i dIt).name.toList.isEmpty (l.getD (i - 1) dIt).name.toList.isEmpty)
def moreStands (l : List It) : Bool := (List.range l.length).all (moreStand l)
theorem moreStands_no {l : List It} {i : Nat} (h : i < l.length) (h1 : moreStand l i = false) : moreStands l = false := by
  cases hc : moreStands l
  · rfl
  · unfold moreStands at hc
    rw [List.all_eq_true] at hc
    rw [hc i (List.mem_range.2 h)] at h1
    cases h1
theorem moreStands_yes {l : List It} (h : ∀ i, i < l.length → moreStand l i = true) : moreStands l = true := by
  unfold moreStands
  rw [List.all_eq_true]
  exact fun i hi => h i (List.mem_range.1 hi)
def moreAt (x : It) : Int := if itemCode x ≠ 0 then itemCode x else if x.depth = 6 then 3 else 0
def moreCode (l : List It) : Int :=
  if 20 < l.length then 2 else
  match l.find? (fun x => moreAt x != 0) with
  | some x => moreAt x
  | none => if moreStands l = true then 0 else 1
theorem moreCode_many {l : List It} (h : 20 < l.length) : moreCode l = 2 := by unfold moreCode; rw [if_pos h]
theorem moreCode_at {l : List It} {k : Nat} (h : ¬ 20 < l.length) (hk : k < l.length) (h0 : ∀ j, j < k → moreAt (l.getD j dIt) = 0) (h1 : moreAt (l.getD k dIt) ≠ 0) : moreCode l = moreAt (l.getD k dIt) := by
  unfold moreCode
  rw [if_neg h, find_at l dIt (fun x => moreAt x != 0) k hk (fun j hj => by simp only [h0 j hj]; decide) (by simpa using h1)]
theorem moreCode_end {l : List It} (h : ¬ 20 < l.length) (h0 : ∀ j, j < l.length → moreAt (l.getD j dIt) = 0) : moreCode l = if moreStands l = true then 0 else 1 := by
  unfold moreCode
  rw [if_neg h, find_no l dIt (fun x => moreAt x != 0) (fun j hj => by simp only [h0 j hj]; decide)]
theorem ret2 {a b c d : Value} (h : a = c) (k : b = d) : Ending.returned (.tuple #[a, b]) = .returned (.tuple #[c, d]) := by rw [h, k]
theorem int_eq {k : IntKind} {a b : Int} (h : a = b) : Value.int k a = .int k b := by rw [h]
theorem l1Lead_any (c : Int) (h0 : 0 ≤ c) (h1 : c ≤ 255) (w : World) :
    Calls Tryz.prog 149 #[.int .u8 c] w fun e w' => e = .returned (.tuple #[.int .i64 (leadN c : Int), .int .i64 (leadP c)]) ∧ w' = w := by
  by_cases a1 : c < 128
  · have e1 : leadN c = 1 := by simp [leadN, a1]
    have e2 : leadP c = c := leadP_1 a1
    rw [e1, e2]
    clear e1 e2
    go_enter Tryz.func149, Tryz.ntmps149
    go_wp2
    go_ret2
    exact ⟨rfl, rfl⟩
  · by_cases a2 : 192 ≤ c ∧ c < 224
    · have e1 : leadN c = 2 := by unfold leadN; rw [if_neg a1, if_pos a2]
      have e2 : leadP c = c - 192 := leadP_2 a2
      rw [e1, e2]
      clear e1 e2
      obtain ⟨b1, b2⟩ := a2
      go_enter Tryz.func149, Tryz.ntmps149
      go_wp2
      go_ret2
      exact ⟨rfl, rfl⟩
    · by_cases a3 : 224 ≤ c ∧ c < 240
      · have e1 : leadN c = 3 := by unfold leadN; rw [if_neg a1, if_neg a2, if_pos a3]
        have e2 : leadP c = c - 224 := leadP_3 a3
        rw [e1, e2]
        clear e1 e2 a2
        obtain ⟨b1, b2⟩ := a3
        go_enter Tryz.func149, Tryz.ntmps149
        go_wp2
        go_ret2
        exact ⟨rfl, rfl⟩
      · by_cases a4 : 240 ≤ c ∧ c < 248
        · have e1 : leadN c = 4 := by unfold leadN; rw [if_neg a1, if_neg a2, if_neg a3, if_pos a4]
          have e2 : leadP c = c - 240 := leadP_4 a4
          rw [e1, e2]
          clear e1 e2 a2 a3
          obtain ⟨b1, b2⟩ := a4
          go_enter Tryz.func149, Tryz.ntmps149
          go_wp2
          go_ret2
          exact ⟨rfl, rfl⟩
        · have e1 : leadN c = 0 := by unfold leadN; rw [if_neg a1, if_neg a2, if_neg a3, if_neg a4]
          have e2 : leadP c = 0 := by unfold leadP; rw [if_neg a1, if_neg a2, if_neg a3, if_neg a4]
          rw [e1, e2]
          clear e1 e2
          by_cases b1 : c < 192
          · clear a2 a3 a4
            go_enter Tryz.func149, Tryz.ntmps149
            go_wp2
            go_ret2
            exact ⟨rfl, rfl⟩
          · have b2 : 248 ≤ c := by omega
            clear a2 a3 a4
            go_enter Tryz.func149, Tryz.ntmps149
            go_wp2
            go_ret2
            exact ⟨rfl, rfl⟩
def firstPt (l : List UInt8) : Int := if badB l then 0 else ((Lib.decodeL l).1 : Int)
def firstSz (l : List UInt8) : Nat := if badB l then 0 else (Lib.decodeL l).2
theorem leadN_cases (b : Int) : leadN b = 0 ∨ leadN b = 1 ∨ leadN b = 2 ∨ leadN b = 3 ∨ leadN b = 4 := by
  unfold leadN
  repeat' split
  all_goals simp
set_option maxHeartbeats 800000 in
theorem l1First_short (s : ByteArray) (hs : s.size ≤ maxLen) (hp : 0 < s.size) (hl : leadN (by' s.data.toList 0) = 0 ∨ s.size < leadN (by' s.data.toList 0)) (w : World) :
    Calls Tryz.prog 138 #[.string s] w fun e w' => e = .returned (.tuple #[.int .i64 0, .int .i64 0]) ∧ w' = w := by
  unfold maxLen at hs
  have hb : by' s.data.toList 0 = (s[0].toNat : Int) := by
    unfold by'
    rw [List.getD_eq_getElem?_getD, head_byte s hp]
  rw [hb] at hl
  have q0 : (0 : Int) ≤ (s[0].toNat : Int) := by omega
  have q1 : (s[0].toNat : Int) ≤ 255 := by have := s[0].toNat_lt; omega
  have hc := leadN_cases (s[0].toNat : Int)
  generalize hn : leadN (s[0].toNat : Int) = n at hl hc
  have HN := Lib.hid hn
  clear hn hb
  by_cases h0 : n = 0
  · subst h0
    clear hl hc
    go_enter Tryz.func138, Tryz.ntmps138
    go_wp2_with fail
    refine (l1Lead_any _ q0 q1 _).mono ?_
    rintro e w' ⟨rfl, rfl⟩
    rw [HN.out]
    go_wp2
    go_ret2
    exact ⟨rfl, rfl⟩
  · have hl2 : (s.size : Int) < (n : Int) := by omega
    have hb0 : ((n : Int) == 0) = false := by rw [beq_eq_false_iff_ne]; omega
    clear hl hc h0
    go_enter Tryz.func138, Tryz.ntmps138
    go_wp2_with fail
    refine (l1Lead_any _ q0 q1 _).mono ?_
    rintro e w' ⟨rfl, rfl⟩
    rw [HN.out]
    go_wp2
    go_ret2
    exact ⟨rfl, rfl⟩
theorem foldP_bound (l : List UInt8) (k : Nat) (hk : 1 ≤ k) (h4 : k ≤ 4) (h0 : 0 ≤ by' l 0) (h1 : by' l 0 ≤ 255) : 0 ≤ foldP l k ∧ foldP l k ≤ 33554431 := by
  have hp : 0 ≤ leadP (by' l 0) ∧ leadP (by' l 0) ≤ 127 := by
    unfold leadP
    repeat' split
    all_goals omega
  have a1 : 0 ≤ by' l 1 % 64 ∧ by' l 1 % 64 ≤ 63 := by omega
  have a2 : 0 ≤ by' l 2 % 64 ∧ by' l 2 % 64 ≤ 63 := by omega
  have a3 : 0 ≤ by' l 3 % 64 ∧ by' l 3 % 64 ≤ 63 := by omega
  match k, hk, h4 with
  | 1, _, _ => rw [foldP_1]; omega
  | 2, _, _ => rw [foldP_2]; omega
  | 3, _, _ => rw [foldP_3]; omega
  | 4, _, _ => rw [foldP_4]; omega
set_option maxRecDepth 100000 in
set_option maxHeartbeats 800000 in
theorem l1First_long (s : ByteArray) (hs : s.size ≤ maxLen) (hp : 0 < s.size) (h0 : leadN (by' s.data.toList 0) ≠ 0) (hl : leadN (by' s.data.toList 0) ≤ s.size) (w : World) :
    Calls Tryz.prog 138 #[.string s] w fun e w' => e = .returned (.tuple #[.int .i64 (firstPt s.data.toList), .int .i64 (firstSz s.data.toList : Int)]) ∧ Below w.heap.size w w' := by
  unfold maxLen at hs
  have hb : by' s.data.toList 0 = (s[0].toNat : Int) := by
    unfold by'
    rw [List.getD_eq_getElem?_getD, head_byte s hp]
  have q0 : (0 : Int) ≤ (s[0].toNat : Int) := by omega
  have q1 : (s[0].toNat : Int) ≤ 255 := by have := s[0].toNat_lt; omega
  have hc := leadN_cases (by' s.data.toList 0)
  have hfb := fun k a b => foldP_bound s.data.toList k a b (by rw [hb]; exact q0) (by rw [hb]; exact q1)
  have hf1 : foldP s.data.toList 1 = leadP (s[0].toNat : Int) := by rw [foldP_1, hb]
  have hne : s.data.toList ≠ [] := by
    intro h
    have := congrArg List.length h
    rw [show s.data.toList.length = s.size by simp] at this
    change s.size = 0 at this
    omega
  have hfi := first_is s.data.toList hne h0 (by simpa using hl)
  generalize hn : leadN (by' s.data.toList 0) = n at h0 hl hc hfi
  rw [hb] at hn
  have n1 : 1 ≤ n := by omega
  have n4 : n ≤ 4 := by omega
  have HN := Lib.hid hn
  have HF1 := Lib.hid hf1
  have HFI := Lib.hid hfi
  have HFB := Lib.hid hfb
  clear hn hb hc hf1 hfi hfb hne h0
  have hb0 : ((n : Int) == 0) = false := by rw [beq_eq_false_iff_ne]; omega
  have hl2 : (n : Int) ≤ (s.size : Int) := by omega
  have n4' : (n : Int) ≤ 4 := by omega
  go_enter Tryz.func138, Tryz.ntmps138
  go_wp2_with fail
  refine (l1Lead_any _ q0 q1 _).mono ?_
  rintro e w' ⟨rfl, rfl⟩
  rw [HN.out, ← HF1.out]
  go_wp2
  go_loop [5, 6] (fun p i => ∃ k : Nat, 1 ≤ k ∧ k ≤ n ∧ i = .int .i64 k ∧ p = .int .i64 (foldP s.data.toList k)) (fun _ i => n - (intOf i).toNat)
  case atStart => exact ⟨1, Nat.le_refl _, n1, rfl, rfl⟩
  case round =>
    obtain ⟨k, k1, hk, rfl, rfl⟩ := hrel
    obtain ⟨f0, f1⟩ := HFB.out k k1 (by omega)
    by_cases hlt : k < n
    · have hks : k < s.size := by omega
      have hby : foldP s.data.toList (k + 1) = foldP s.data.toList k * 64 + (s[k].toNat : Int) % 64 := by
        obtain ⟨j, rfl⟩ : ∃ j, k = j + 1 := ⟨k - 1, by omega⟩
        show foldP s.data.toList (j + 1) * 64 + by' s.data.toList (j + 1) % 64 = _
        unfold by'
        rw [List.getD_eq_getElem?_getD, List.getElem?_eq_getElem (by simpa using hks)]
        rfl
      have HB := Lib.hid hby
      have r0 : (0 : Int) ≤ (s[k].toNat : Int) := by omega
      have r1 : (s[k].toNat : Int) ≤ 255 := by have := s[k].toNat_lt; omega
      clear hby
      generalize foldP s.data.toList k = pk at f0 f1 HB
      go_wp2
      go_round
      case rel => exact ⟨k + 1, by omega, by omega, by go_num, by rw [HB.out]⟩
      case measure => simp [intOf]; omega
    · obtain rfl : k = n := by omega
      go_wp2
      generalize hpk : foldP s.data.toList k = pk at *
      have HPK := Lib.hid hpk
      clear hpk
      cases hq : pointB pk
      · have HQ := Lib.hid hq
        have HBD := Lib.hid (first_not _ _ _ HPK.out HFI.out HQ.out)
        go_quiet ((go_at_call 122; exact Calls.quiet_of_same (l1Point_any _ _)))
        go_wp2
        go_ret2
        exact ⟨ret2 (int_eq (by simp [firstPt, HBD.out])) (int_eq (by simp [firstSz, HBD.out])), below_drewN (Below.refl _ _) _⟩
      · have HQ := Lib.hid hq
        have ht := first_test s k pk HPK.out HFI.out hq
        cases hbd : badB s.data.toList
        · rw [hbd] at ht
          have HBD := Lib.hid hbd
          simp only [Bool.not_false] at ht
          have hfi2 := HFI.out.2 HBD.out
          rw [HPK.out] at hfi2
          have HFI2 := Lib.hid hfi2
          clear hbd hfi2
          go_region_with (first | (go_at_call 122; refine (l1Point_any _ _).mono ?_; rintro e w' ⟨rfl, rfl⟩) | (go_at_call 98; refine (l1Put_any _ HQ.out _).mono ?_; rintro e w2 ⟨a, m, c, rfl, ho, hbl⟩; have hcv := conv_row (P := Tryz.prog) w2 Tryz.underlying22 Tryz.underlying5 Tryz.underlying9 (Row.of_owns ho); clear ho))
          go_wp2
          go_ret2
          exact ⟨ret2 (int_eq (by simp [firstPt, HBD.out, HFI2.out.1])) (int_eq (by simp [firstSz, HBD.out, HFI2.out.2])), below_of_drew hbl⟩
        · rw [hbd] at ht
          have HBD := Lib.hid hbd
          simp only [Bool.not_true] at ht
          clear hbd
          go_region_with (first | (go_at_call 122; refine (l1Point_any _ _).mono ?_; rintro e w' ⟨rfl, rfl⟩) | (go_at_call 98; refine (l1Put_any _ HQ.out _).mono ?_; rintro e w2 ⟨a, m, c, rfl, ho, hbl⟩; have hcv := conv_row (P := Tryz.prog) w2 Tryz.underlying22 Tryz.underlying5 Tryz.underlying9 (Row.of_owns ho); clear ho))
          go_wp2
          go_ret2
          exact ⟨ret2 (int_eq (by simp [firstPt, HBD.out])) (int_eq (by simp [firstSz, HBD.out])), below_of_drew hbl⟩
theorem l1First_any (s : ByteArray) (hs : s.size ≤ maxLen) (hp : 0 < s.size) (w : World) :
    Calls Tryz.prog 138 #[.string s] w fun e w' => e = .returned (.tuple #[.int .i64 (firstPt s.data.toList), .int .i64 (firstSz s.data.toList : Int)]) ∧ Below w.heap.size w w' := by
  have hne : s.data.toList ≠ [] := by
    intro h
    have := congrArg List.length h
    rw [show s.data.toList.length = s.size by simp] at this
    change s.size = 0 at this
    omega
  by_cases h : leadN (by' s.data.toList 0) = 0 ∨ s.size < leadN (by' s.data.toList 0)
  · have hb := bad_lead s.data.toList hne (by simpa using h)
    refine (l1First_short s hs hp h w).mono fun e w' ⟨he, hw⟩ => ⟨?_, by rw [hw]; exact Below.refl _ _⟩
    rw [he]
    exact ret2 (int_eq (by simp [firstPt, hb])) (int_eq (by simp [firstSz, hb]))
  · exact l1First_long s hs hp (fun e => h (.inl e)) (by omega) w
theorem i64Info : (Tryz.prog.info? 2).map (fun i => (i.zero, i.size, i.bytes)) = some (some (.int .i64 0), 1, 8) := by kernel_rfl
def PtsRes (w : World) (l : List UInt8) (en : Ending) (w' : World) : Prop :=
  ∃ a n c, en = .returned (.tuple #[.slice a n c, .bool (pts l).isSome]) ∧ w'.ownsRow w.heap.size 2 1 (.slice a n c) n (((pts l).getD []).map (Value.int .i64)) ∧ Below w.heap.size w w'
theorem pts_bad {l u : List UInt8} {done : List Int} (h : strm l = done.map (fun p => (p, true)) ++ strm u) (hu : u ≠ []) (hb : badB u = true) : pts l = none := by
  unfold pts
  rw [h, strm_bad u hu hb]
  simp
theorem pts_end {l : List UInt8} {done : List Int} (h : strm l = done.map (fun p => (p, true)) ++ strm []) : pts l = some done := by
  unfold pts
  rw [h, strm_nil]
  simp [Function.comp_def]
theorem strm_next {l u : List UInt8} {done : List Int} (h : strm l = done.map (fun p => (p, true)) ++ strm u) (hu : u ≠ []) (hb : badB u = false) :
    strm l = (done ++ [((Lib.decodeL u).1 : Int)]).map (fun p => (p, true)) ++ strm (u.drop (Lib.decodeL u).2) := by
  rw [h, strm_step u hu hb]
  simp
theorem strm_done_le {l u : List UInt8} {done : List Int} (h : strm l = done.map (fun p => (p, true)) ++ strm u) : done.length ≤ l.length := by
  have h1 := strm_len l
  rw [h] at h1
  simp at h1
  omega
set_option maxHeartbeats 1600000 in
theorem l1Points_any (s : ByteArray) (hs : s.size ≤ 1048576) (w : World) :
    Calls Tryz.prog 128 #[.string s] w (PtsRes w s.data.toList) := by
  obtain ⟨i0, hi, hz0, hz1, hz2⟩ := info_parts i64Info
  go_enter Tryz.func128, Tryz.ntmps128
  go_wp2
  go_loopw [0, 4] (fun t v wr => ∃ (u : ByteArray) (done : List Int) (a : Option Addr) (n c : Nat), t = .string u ∧ u.size ≤ s.size ∧ v = .slice a n c ∧ strm s.data.toList = done.map (fun p => (p, true)) ++ strm u.data.toList ∧
      wr.ownsRow w.heap.size 2 1 (.slice a n c) n (done.map (Value.int .i64)) ∧ Below w.heap.size w wr)
    (fun t _ _ => strSize t)
  case atStart => exact ⟨s, [], _, _, _, rfl, Nat.le_refl _, rfl, rfl, lit_owns w _ .i64 [] 0 rfl (by decide), below1 _ _⟩
  case round =>
    obtain ⟨u, done, a, n, c, rfl, hu, rfl, hst, ho, hb⟩ := hrel
    have hnl := owns_length ho
    have hdl := strm_done_le hst
    rw [show s.data.toList.length = s.size by simp] at hdl
    have HST := Lib.hid hst
    have HO := Lib.hid ho
    have HB := Lib.hid hb
    have HNL := Lib.hid hnl
    have hn1 : n ≤ s.size := by omega
    clear hst ho hb hnl hdl
    by_cases hlt : 0 < u.size
    · have hne : u.data.toList ≠ [] := by
        intro h
        have := congrArg List.length h
        rw [show u.data.toList.length = u.size by simp] at this
        change u.size = 0 at this
        omega
      have hle := Lib.decodeL_le u.data.toList hne
      have hwd := Lib.decodeL_width u.data.toList
      rw [show u.data.toList.length = u.size by simp] at hle
      have HNE := Lib.hid hne
      clear hne
      cases hbd : badB u.data.toList
      · have HBD := Lib.hid hbd
        have e1 : firstPt u.data.toList = ((Lib.decodeL u.data.toList).1 : Int) := by simp [firstPt, hbd]
        have e2 : firstSz u.data.toList = (Lib.decodeL u.data.toList).2 := by simp [firstSz, hbd]
        have K := Lib.hid (l1First_any u (by unfold maxLen; omega) hlt)
        rw [e1, e2] at K
        clear e1 e2 hbd
        have HN := Lib.hid (strm_next HST.out HNE.out HBD.out)
        have hdrop : (u.extract (Lib.decodeL u.data.toList).2 u.size).data.toList = u.data.toList.drop (Lib.decodeL u.data.toList).2 := Lib.extract_to_end _ _
        generalize ((Lib.decodeL u.data.toList).1 : Int) = pt at K HN
        generalize (Lib.decodeL u.data.toList).2 = k at K HN hle hwd hdrop
        have HD := Lib.hid hdrop
        clear hdrop
        have hk0 : ((k : Int) == 0) = false := by rw [beq_eq_false_iff_ne]; omega
        have hk1 : (0 : Int) ≤ (k : Int) := by omega
        have hk2 : (k : Int) ≤ (u.size : Int) := by omega
        go_wp2_with fail
        refine (K.out _).mono ?_
        rintro e w1 ⟨rfl, hb1⟩
        have HO1 := Lib.hid (owns_below HO.out hb1)
        have HB1 := Lib.hid (HB.out.trans (hb1.mono HB.out.size))
        clear hb1
        go_wp2_with (at_builtin; refine wpList_append_own _ rfl _ _ 108 rfl w.heap.size 2 i0 (.int .i64 0) 1 8 Tryz.underlying108 hi hz0 hz1 hz2 rfl (by decide) _ _ _ rfl (HO1.out.alloc _) ⟨w1.heap.size, 0, none⟩ 1 1 [.int .i64 pt] rfl rfl ?c1 ?c2 ?c3 ?c4 ?c5 ?_)
        case c1 =>
          intro j v hj
          match j, hj with
          | 0, hj => simp at hj; subst hj; simp [Addr.add]
        case c2 => intro v hv; simp at hv; subst hv; rfl
        case c3 => unfold maxLen; omega
        case c4 => omega
        case c5 => have := HB1.out.size; simp; omega
        intro v' w2 hown' hgrow _
        obtain ⟨a', c', rfl⟩ := owns_slice hown'
        have HB2 := Lib.hid (below_appended HB1.out HO1.out hgrow)
        have HO2 := Lib.hid hown'
        clear hown' hgrow
        go_wp2
        go_roundw
        case rel =>
          refine ⟨u.extract k u.size, done ++ [pt], a', _, c', rfl, ?_, rfl, ?_, ?_, HB2.out⟩
          · rw [ByteArray.size_extract]; omega
          · rw [HD.out]; exact HN.out
          · rw [List.map_append]; exact HO2.out
        case measure => simp only [strSize, ByteArray.size_extract]; omega
      · have HBD := Lib.hid hbd
        have e1 : firstPt u.data.toList = 0 := by simp [firstPt, hbd]
        have e2 : firstSz u.data.toList = 0 := by simp [firstSz, hbd]
        have K := Lib.hid (l1First_any u (by unfold maxLen; omega) hlt)
        rw [e1, e2] at K
        clear e1 e2 hbd
        go_wp2_with fail
        refine (K.out _).mono ?_
        rintro e w1 ⟨rfl, hb1⟩
        go_wp2
        go_ret2
        have hp := pts_bad HST.out HNE.out HBD.out
        exact ⟨none, 0, 0, by rw [hp]; rfl, by rw [hp]; exact World.ownsRow_nil _ _ _ _, HB.out.trans (hb1.mono HB.out.size)⟩
    · have hu0 : u.data.toList = [] := by
        apply List.eq_nil_of_length_eq_zero
        rw [show u.data.toList.length = u.size by simp]
        omega
      have HU := Lib.hid hu0
      clear hu0
      go_wp2
      go_ret2
      have hst := HST.out
      rw [HU.out] at hst
      have hp := pts_end hst
      exact ⟨a, n, c, by rw [hp]; rfl, by rw [hp]; exact HO.out, HB.out⟩
theorem charsB_eq (l : List UInt8) : charsB l = ((pts l).isSome && ((pts l).getD []).all charB) := by
  unfold charsB pts
  have h : (strm l).all goodB = ((strm l).all (·.2) && ((strm l).map (·.1)).all charB) := by
    induction strm l with
    | nil => rfl
    | cons x r ih =>
      simp only [List.all_cons, List.map_cons, ih, goodB]
      cases x.2 <;> cases charB x.1 <;> simp
  rw [h]
  cases (strm l).all (·.2) <;> simp
theorem allTake_succ (L : List Int) (k : Nat) (h : k < L.length) (f : Int → Bool) : (L.take (k + 1)).all f = ((L.take k).all f && f (L.getD k 0)) := by
  rw [List.take_succ_eq_append_getElem h, List.all_append, List.getD_eq_getElem?_getD, List.getElem?_eq_getElem h]
  simp only [List.all_cons, List.all_nil, Bool.and_true, Option.getD_some]
set_option maxHeartbeats 1600000 in
theorem l1Chars_any (s : ByteArray) (hs : s.size ≤ 1048576) (w : World) :
    Calls Tryz.prog 113 #[.string s] w fun e w' => e = .returned (.bool (charsB s.data.toList)) ∧ Below w.heap.size w w' := by
  rw [charsB_eq]
  have hln : ((pts s.data.toList).getD []).length ≤ s.size := by
    unfold pts
    split
    · have := strm_len s.data.toList
      rw [show s.data.toList.length = s.size by simp] at this
      simpa using this
    · simp
  have K := Lib.hid (l1Points_any s hs)
  unfold PtsRes at K
  generalize (pts s.data.toList).isSome = ok0 at K
  generalize (pts s.data.toList).getD [] = L at K hln
  go_enter Tryz.func113, Tryz.ntmps113
  go_wp2_with fail
  refine (K.out _).mono ?_
  rintro e w1 ⟨a, n, c, rfl, ho, hb⟩
  have hnl := owns_length ho
  have HR := Lib.hid (Row.of_owns ho)
  have HB := Lib.hid hb
  have hn1 : n ≤ s.size := by omega
  have HNL := Lib.hid hnl
  clear ho hb hnl
  go_wp2
  go_loop [4, 13] (fun b i => ∃ k : Nat, k ≤ n ∧ i = .int .i64 k ∧ b = .bool (ok0 && (L.take k).all charB)) (fun _ i => n - (intOf i).toNat)
  case atStart => exact ⟨0, Nat.zero_le _, rfl, by simp⟩
  case round =>
    obtain ⟨k, hk, rfl, rfl⟩ := hrel
    by_cases hlt : k < n
    · rcases HR.out with ⟨hv, h0⟩ | ⟨b, o, cap, hv, h1, h2, h3, h4⟩
      · exfalso
        have := HNL.out
        rw [h0] at this
        simp at this
        omega
      · simp only [Value.slice.injEq] at hv
        obtain ⟨rfl, hnn, rfl⟩ := hv
        have hc := h4 k (by omega)
        have hsu := allTake_succ L k (by omega) charB
        generalize L.getD k 0 = pt at hc hsu
        have HSU := Lib.hid hsu
        have HNN := Lib.hid hnn
        clear hsu h4 hnn
        generalize hbb : (ok0 && (L.take k).all charB) = bb
        have HBB := Lib.hid hbb
        clear hbb
        cases bb
        · go_wp2
          go_round
          case rel => exact ⟨k + 1, by omega, by go_num, by rw [HSU.out, ← Bool.and_assoc, HBB.out]; rfl⟩
          case measure => simp [intOf]; omega
        · go_wp2_with fail
          refine (specIsChar_any pt _).mono ?_
          rintro e w2 ⟨rfl, rfl⟩
          go_wp2
          go_round
          case rel => exact ⟨k + 1, by omega, by go_num, by rw [HSU.out, ← Bool.and_assoc, HBB.out]; rfl⟩
          case measure => simp [intOf]; omega
    · obtain rfl : k = n := by omega
      generalize hbb : (ok0 && (L.take k).all charB) = bb
      have HBB := Lib.hid hbb
      clear hbb
      go_wp2
      go_ret
      refine ⟨ret_bool ?_, HB.out⟩
      rw [← HBB.out, HNL.out, List.take_length]
theorem specTextFault_any (s : ByteArray) (hs : s.size ≤ 1048576) (w : World) :
    Calls Tryz.prog 89 #[.string s] w fun e w' => e = .returned (.int .i64 (textFault s.data.toList)) ∧ Below w.heap.size w w' := by
  have K := Lib.hid (l1Chars_any s hs)
  have hl : s.data.toList.length = s.size := by simp
  unfold textFault
  rw [hl]
  clear hl
  generalize charsB s.data.toList = b at K
  by_cases h : 60 < s.size
  · rw [if_pos h]
    go_enter Tryz.func89, Tryz.ntmps89
    go_wp2
    go_ret
    exact ⟨rfl, Below.refl _ _⟩
  · rw [if_neg h]
    cases b
    all_goals
      go_enter Tryz.func89, Tryz.ntmps89
      go_wp2_with fail
      refine (K.out _).mono ?_
      rintro e w1 ⟨rfl, hb⟩
      go_wp2
      go_ret
      exact ⟨rfl, hb⟩
end Go.Proofs.YtjkmgpomcnplnaaGreatDoor
