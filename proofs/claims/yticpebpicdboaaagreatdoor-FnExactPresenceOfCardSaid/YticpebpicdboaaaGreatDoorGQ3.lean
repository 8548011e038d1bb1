/- Plain facts on items' faults and trees' faults. -/
import Derived.Test.YticpebpicdboaaaGreatDoorGQ1
import Derived.Test.YticpebpicdboaaaGreatDoorGQ2
namespace Go.Proofs.YticpebpicdboaaaGreatDoor
open Go.ChangeShapes Go.WideShapes Go.ChangeAt Go.RowKit
set_option linter.unusedVariables false

theorem empty_iff (s : ByteArray) : s.toList.isEmpty = true ↔ s.data.toList = [] := by rw [ByteArray.toList_eq, List.isEmpty_iff]

theorem less_le : ∀ (x y : List UInt8), (Op.bytesLess x y || (x == y)) = !Op.bytesLess y x
  | [], [] => rfl
  | [], _ :: _ => rfl
  | _ :: _, [] => rfl
  | a :: x, b :: y => by
    have ih := less_le x y
    simp only [Op.bytesLess, List.cons_beq_cons]
    by_cases h1 : a < b
    · have h2 : ¬ b < a := fun h => by rw [UInt8.lt_iff_toNat_lt] at h h1; omega
      have h3 : (b == a) = false := by rw [beq_eq_false_iff_ne]; rintro rfl; exact h2 h1
      simp [h1, h2, h3]
    · by_cases h2 : b < a
      · have h3 : (a == b) = false := by rw [beq_eq_false_iff_ne]; rintro rfl; exact h1 h2
        simp [h1, h2, h3]
      · have h3 : a = b := by rw [UInt8.lt_iff_toNat_lt] at h1 h2; exact UInt8.toNat_inj.1 (by omega)
        subst h3
        simp only [h1, decide_false, beq_self_eq_true, Bool.true_and, Bool.false_or]
        exact ih
theorem less_no {x y : List UInt8} (h : Op.bytesLess y x = false) : Op.bytesLess x y = true ∨ Op.bytesLess x y = false ∧ (x == y) = true := by
  have := less_le x y
  rw [h] at this
  cases hq : Op.bytesLess x y
  · rw [hq] at this; exact .inr ⟨rfl, by simpa using this⟩
  · exact .inl rfl
theorem less_yes {x y : List UInt8} (h : Op.bytesLess y x = true) : Op.bytesLess x y = false ∧ (x == y) = false := by
  have := less_le x y
  rw [h] at this
  simpa using this
theorem ret_i {a b : Int} (h : a = b) : Ending.returned (.int .i64 a) = .returned (.int .i64 b) := by rw [h]
/-- an attribute's fault by itself -/
def atFault (x : At) : Int := if isKeyL x.name = true then textFault x.value.data.toList else 5
def lessAt (x y : At) : Bool := Op.bytesLess x.name.toList y.name.toList
def rises (l : List At) : Bool := (List.range l.length).all fun i => i == 0 || lessAt (l.getD (i - 1) dAt) (l.getD i dAt)
def attrsCode (l : List At) : Int :=
  if 5 < l.length then 2 else
  match l.find? (fun x => atFault x != 0) with
  | some x => atFault x
  | none => if rises l = true then 0 else 6
def textCode (x : It) : Int := if x.space.toList.isEmpty = false ∨ 0 < x.attrs.length ∨ x.text.toList.isEmpty = true then 1 else textFault x.text.data.toList
def elemCode (x : It) : Int :=
  if x.text.toList.isEmpty = false then 1 else
  if isNameL x.name.data.toList = false then 5 else
  if textFault x.space.data.toList = 0 then attrsCode x.attrs else textFault x.space.data.toList
def itemCode (x : It) : Int :=
  if x.depth < 0 ∨ 6 < x.depth then 3 else
  if x.name.toList.isEmpty = true then textCode x else elemCode x

theorem attrsCode_many {l : List At} (h : 5 < l.length) : attrsCode l = 2 := by unfold attrsCode; rw [if_pos h]
theorem attrsCode_at {l : List At} {k : Nat} (h : ¬ 5 < l.length) (hk : k < l.length) (h0 : ∀ j, j < k → atFault (l.getD j dAt) = 0) (h1 : atFault (l.getD k dAt) ≠ 0) : attrsCode l = atFault (l.getD k dAt) := by
  unfold attrsCode
  rw [if_neg h, find_at l dAt _ k hk (fun j hj => by simp only [h0 j hj]; decide) (by simpa using h1)]
theorem attrsCode_end {l : List At} (h : ¬ 5 < l.length) (h0 : ∀ j, j < l.length → atFault (l.getD j dAt) = 0) : attrsCode l = if rises l = true then 0 else 6 := by
  unfold attrsCode
  rw [if_neg h, find_no l dAt _ fun j hj => by simp only [h0 j hj]; decide]
theorem rises_yes {l : List At} (h : ∀ i, 1 ≤ i → i < l.length → lessAt (l.getD (i - 1) dAt) (l.getD i dAt) = true) : rises l = true := by
  unfold rises
  rw [List.all_eq_true]
  intro i hi
  rw [List.mem_range] at hi
  by_cases h0 : i = 0
  · simp [h0]
  · rw [h i (by omega) hi]; simp
theorem rises_no {l : List At} {i : Nat} (h1 : 1 ≤ i) (h2 : i < l.length) (h : lessAt (l.getD (i - 1) dAt) (l.getD i dAt) = false) : rises l = false := by
  rw [Bool.eq_false_iff]
  intro hc
  unfold rises at hc
  rw [List.all_eq_true] at hc
  have := hc i (List.mem_range.2 h2)
  rw [h] at this
  simp at this
  omega

/-- an item of the Depth xd may stand right behind one of the Depth pd (xn, pn: it has no Name) -/
def standB (xd pd : Int) (xn pn : Bool) : Bool := !(xd == 0 || decide (pd + 1 < xd) || (decide (pd < xd) && pn) || (xn && pn && xd == pd))
def mayStand (p x : It) : Bool := standB x.depth p.depth x.name.toList.isEmpty p.name.toList.isEmpty
theorem stand_no {xd pd : Int} {xn pn : Bool} (h : standB xd pd xn pn = false) :
    ((xd == 0) = true) ∨ ((xd == 0) = false ∧ decide (pd + 1 < xd) = true) ∨ ((xd == 0) = false ∧ decide (pd + 1 < xd) = false ∧ decide (pd < xd) = true ∧ pn = true) ∨
    ((xd == 0) = false ∧ decide (pd + 1 < xd) = false ∧ decide (pd < xd) = false ∧ xn = true ∧ pn = true ∧ (xd == pd) = true) := by
  have key : ∀ a b c d e f : Bool, (!(a || b || (c && e) || (d && e && f))) = false → (a = true) ∨ (a = false ∧ b = true) ∨ (a = false ∧ b = false ∧ c = true ∧ e = true) ∨ (a = false ∧ b = false ∧ c = false ∧ d = true ∧ e = true ∧ f = true) := by
    intro a b c d e f
    cases a <;> cases b <;> cases c <;> cases d <;> cases e <;> cases f <;> simp
  exact key _ _ _ _ _ _ h
theorem stand_yes {xd pd : Int} {xn pn : Bool} (h : standB xd pd xn pn = true) :
    ((xd == 0) = false ∧ decide (pd + 1 < xd) = false ∧ decide (pd < xd) = true ∧ pn = false ∧ xn = false) ∨ ((xd == 0) = false ∧ decide (pd + 1 < xd) = false ∧ decide (pd < xd) = true ∧ pn = false ∧ xn = true) ∨
    ((xd == 0) = false ∧ decide (pd + 1 < xd) = false ∧ decide (pd < xd) = false ∧ xn = false) ∨ ((xd == 0) = false ∧ decide (pd + 1 < xd) = false ∧ decide (pd < xd) = false ∧ xn = true ∧ pn = false) ∨
    ((xd == 0) = false ∧ decide (pd + 1 < xd) = false ∧ decide (pd < xd) = false ∧ xn = true ∧ pn = true ∧ (xd == pd) = false) := by
  have key : ∀ a b c d e f : Bool, (!(a || b || (c && e) || (d && e && f))) = true → (a = false ∧ b = false ∧ c = true ∧ e = false ∧ d = false) ∨ (a = false ∧ b = false ∧ c = true ∧ e = false ∧ d = true) ∨ (a = false ∧ b = false ∧ c = false ∧ d = false) ∨ (a = false ∧ b = false ∧ c = false ∧ d = true ∧ e = false) ∨ (a = false ∧ b = false ∧ c = false ∧ d = true ∧ e = true ∧ f = false) := by
    intro a b c d e f
    cases a <;> cases b <;> cases c <;> cases d <;> cases e <;> cases f <;> simp
  exact key _ _ _ _ _ _ h
def followB (xd pd : Int) (xn pn : Bool) : Bool := if pn = true then (decide (xd < pd) || ((xd == pd) && !xn)) else decide (xd ≤ pd + 1)
theorem stand_follow {xd pd : Int} {xn pn : Bool} (h : (xd == 0) = false) : standB xd pd xn pn = followB xd pd xn pn := by
  unfold standB followB
  rw [h, Bool.eq_iff_iff]
  cases pn <;> cases xn <;> simp <;> omega
theorem stand_zero {xd pd : Int} {xn pn : Bool} (h : (xd == 0) = true) : standB xd pd xn pn = false := by
  unfold standB
  rw [h]; simp
def stands (l : List It) : Bool := decide ((l.getD 0 dIt).depth = 0) && !(l.getD 0 dIt).name.toList.isEmpty && (List.range l.length).all fun i => i == 0 || mayStand (l.getD (i - 1) dIt) (l.getD i dIt)
def treeCode (l : List It) : Int :=
  if l.length < 1 ∨ 40 < l.length then 2 else
  match l.find? (fun x => itemCode x != 0) with
  | some x => itemCode x
  | none => if stands l = true then 0 else 1
theorem treeCode_many {l : List It} (h : l.length < 1 ∨ 40 < l.length) : treeCode l = 2 := by unfold treeCode; rw [if_pos h]
theorem treeCode_at {l : List It} {k : Nat} (h : ¬ (l.length < 1 ∨ 40 < l.length)) (hk : k < l.length) (h0 : ∀ j, j < k → itemCode (l.getD j dIt) = 0) (h1 : itemCode (l.getD k dIt) ≠ 0) : treeCode l = itemCode (l.getD k dIt) := by
  unfold treeCode
  rw [if_neg h, find_at l dIt _ k hk (fun j hj => by simp only [h0 j hj]; decide) (by simpa using h1)]
theorem treeCode_end {l : List It} (h : ¬ (l.length < 1 ∨ 40 < l.length)) (h0 : ∀ j, j < l.length → itemCode (l.getD j dIt) = 0) : treeCode l = if stands l = true then 0 else 1 := by
  unfold treeCode
  rw [if_neg h, find_no l dIt _ fun j hj => by simp only [h0 j hj]; decide]
theorem item_depth {x : It} (h : itemCode x = 0) : 0 ≤ x.depth ∧ x.depth ≤ 6 := by
  unfold itemCode at h
  by_cases hd : x.depth < 0 ∨ 6 < x.depth
  · rw [if_pos hd] at h; cases h
  · omega
theorem stands_first {l : List It} (h : ¬ ((l.getD 0 dIt).depth = 0 ∧ (l.getD 0 dIt).name.toList.isEmpty = false)) : stands l = false := by
  unfold stands
  by_cases h1 : (l.getD 0 dIt).depth = 0
  · have h2 : (l.getD 0 dIt).name.toList.isEmpty = true := by
      cases hq : (l.getD 0 dIt).name.toList.isEmpty
      · exact absurd ⟨h1, hq⟩ h
      · rfl
    rw [h2]; simp
  · rw [decide_eq_false h1]; simp
theorem stands_yes {l : List It} (h0 : (l.getD 0 dIt).depth = 0) (h1 : (l.getD 0 dIt).name.toList.isEmpty = false) (h : ∀ i, 1 ≤ i → i < l.length → mayStand (l.getD (i - 1) dIt) (l.getD i dIt) = true) : stands l = true := by
  unfold stands
  rw [h0, h1]
  simp only [decide_true, Bool.not_false, Bool.and_true, Bool.true_and, List.all_eq_true]
  intro i hi
  rw [List.mem_range] at hi
  by_cases hz : i = 0
  · simp [hz]
  · rw [h i (by omega) hi]; simp
theorem stands_no {l : List It} {i : Nat} (h1 : 1 ≤ i) (h2 : i < l.length) (h : mayStand (l.getD (i - 1) dIt) (l.getD i dIt) = false) : stands l = false := by
  rw [Bool.eq_false_iff]
  intro hc
  unfold stands at hc
  simp only [Bool.and_eq_true, List.all_eq_true] at hc
  have := hc.2 i (List.mem_range.2 h2)
  rw [h] at this
  simp at this
  omega
end Go.Proofs.YticpebpicdboaaaGreatDoor

/- Who is in whom in a tree laid flat, in plain words. -/
namespace Go.Proofs.YticpebpicdboaaaGreatDoor
open Go.ChangeShapes Go.WideShapes Go.ChangeAt Go.RowKit
set_option linter.unusedVariables false

def dp (l : List It) (i : Nat) : Int := (l.getD i dIt).depth
/-- the last item ahead of m that has this depth -/
def lastAt (l : List It) (d : Int) : Nat → Option Nat
  | 0 => none
  | m + 1 => if dp l m = d then some m else lastAt l d m
theorem lastAt_is {l : List It} {d : Int} : ∀ {m j : Nat}, lastAt l d m = some j → j < m ∧ dp l j = d ∧ ∀ i, j < i → i < m → dp l i ≠ d
  | m + 1, j, h => by
    unfold lastAt at h
    by_cases e : dp l m = d
    · rw [if_pos e] at h
      cases h
      exact ⟨Nat.lt_succ_self _, e, fun i h1 h2 => by omega⟩
    · rw [if_neg e] at h
      obtain ⟨h1, h2, h3⟩ := lastAt_is h
      refine ⟨by omega, h2, fun i hi hm => ?_⟩
      rcases Nat.lt_or_ge i m with g | g
      · exact h3 i hi g
      · obtain rfl : i = m := by omega
        exact e
/-- what a tree without fault is, as far as its depths go -/
structure Rises (l : List It) : Prop where
  some : 1 ≤ l.length
  few : l.length ≤ 40
  first : dp l 0 = 0
  step : ∀ i, 1 ≤ i → i < l.length → 1 ≤ dp l i ∧ dp l i ≤ dp l (i - 1) + 1
  text : ∀ i, 1 ≤ i → i < l.length → (l.getD (i - 1) dIt).name.toList.isEmpty = true → dp l i ≤ dp l (i - 1)
  bd : ∀ i, i < l.length → 0 ≤ dp l i ∧ dp l i ≤ 6
  good : ∀ i, i < l.length → itemCode (l.getD i dIt) = 0
theorem lastAt_ex {l : List It} (h : Rises l) : ∀ (m : Nat), m < l.length → ∀ d : Int, 0 ≤ d → d ≤ dp l m → ∃ j, lastAt l d (m + 1) = some j
  | 0, hm, d, h0, h1 => by
    have hf := h.first
    have h1' : d ≤ dp l 0 := h1
    have e : dp l 0 = d := by omega
    exact ⟨0, by unfold lastAt; exact if_pos e⟩
  | m + 1, hm, d, h0, h1 => by
    by_cases e : dp l (m + 1) = d
    · exact ⟨m + 1, by unfold lastAt; rw [if_pos e]⟩
    · have hs := (h.step (m + 1) (by omega) hm).2
      rw [Nat.add_sub_cancel] at hs
      obtain ⟨j, hj⟩ := lastAt_ex h m (by omega) d h0 (by omega)
      exact ⟨j, by unfold lastAt; rw [if_neg e]; exact hj⟩
/-- the item that k is in -/
def parOf (l : List It) (k : Nat) : Option Nat := lastAt l (dp l k - 1) k
theorem par_ex {l : List It} (h : Rises l) {k : Nat} (h1 : 1 ≤ k) (hk : k < l.length) : ∃ j, parOf l k = some j ∧ j < k ∧ dp l j = dp l k - 1 ∧ ∀ i, j < i → i < k → dp l i ≠ dp l k - 1 := by
  obtain ⟨m, rfl⟩ : ∃ m, k = m + 1 := ⟨k - 1, by omega⟩
  have hs := h.step (m + 1) h1 hk
  rw [Nat.add_sub_cancel] at hs
  obtain ⟨j, hj⟩ := lastAt_ex h m (by omega) (dp l (m + 1) - 1) (by omega) (by omega)
  exact ⟨j, hj, lastAt_is hj⟩
def kidB (l : List It) (j k : Nat) : Bool := decide (0 < dp l k) && decide (parOf l k = some j)
/-- those that are in j, one step deeper, ahead of m -/
def kidsUp (l : List It) (m j : Nat) : List Nat := (List.range m).filter (kidB l j)
theorem kidsUp_succ (l : List It) (m j : Nat) : kidsUp l (m + 1) j = kidsUp l m j ++ (if kidB l j m = true then [m] else []) := by
  unfold kidsUp
  rw [List.range_succ, List.filter_append]
  cases h : kidB l j m <;> simp [h]
theorem kidsUp_lt {l : List It} {m j k : Nat} (h : k ∈ kidsUp l m j) : k < m := by
  unfold kidsUp at h
  rw [List.mem_filter, List.mem_range] at h
  exact h.1
theorem kidsUp_len (l : List It) (m j : Nat) : (kidsUp l m j).length ≤ m := by
  unfold kidsUp
  have := List.length_filter_le (kidB l j) (List.range m)
  rw [List.length_range] at this
  exact this
theorem kidB_root {l : List It} {m : Nat} (h : dp l m = 0) (j : Nat) : kidB l j m = false := by
  unfold kidB
  rw [decide_eq_false (by omega)]
  rfl
theorem kidB_par {l : List It} {m p : Nat} (h0 : 0 < dp l m) (hp : parOf l m = some p) (j : Nat) : kidB l j m = decide (j = p) := by
  unfold kidB
  rw [decide_eq_true h0, hp]
  by_cases e : j = p
  · rw [e]; simp
  · rw [decide_eq_false e, decide_eq_false (fun h => e (by simpa using h.symm))]
    rfl
theorem rises_of {l : List It} (h : treeCode l = 0) : Rises l := by
  unfold treeCode at h
  split at h
  · omega
  · rename_i h1
    have hgood : ∀ i, i < l.length → itemCode (l.getD i dIt) = 0 := by
      intro i hi
      cases hf : l.find? (fun x => itemCode x != 0) with
      | some y =>
        rw [hf] at h
        have := List.find?_some hf
        rw [bne_iff_ne] at this
        exact absurd h this
      | none =>
        rw [List.find?_eq_none] at hf
        have hm := hf (l.getD i dIt) (by rw [List.getD_eq_getElem?_getD, List.getElem?_eq_getElem hi]; exact List.getElem_mem hi)
        simpa using hm
    rw [find_no l dIt _ fun j hj => by simp only [hgood j hj]; decide] at h
    have hs : stands l = true := by
      cases e : stands l
      · rw [e] at h; simp at h
      · rfl
    unfold stands at hs
    simp only [Bool.and_eq_true, List.all_eq_true, decide_eq_true_eq] at hs
    obtain ⟨⟨hd, _⟩, hall⟩ := hs
    have hst : ∀ i, 1 ≤ i → i < l.length → mayStand (l.getD (i - 1) dIt) (l.getD i dIt) = true := fun i hi hl => by
      have := hall i (List.mem_range.2 hl)
      rw [Bool.or_eq_true, beq_iff_eq] at this
      rcases this with g | g
      · omega
      · exact g
    have key : ∀ i, 1 ≤ i → i < l.length → dp l i ≠ 0 ∧ dp l i ≤ dp l (i - 1) + 1 ∧ ((l.getD (i - 1) dIt).name.toList.isEmpty = true → dp l i ≤ dp l (i - 1)) := fun i hi hl => by
      have := hst i hi hl
      unfold mayStand standB at this
      rw [Bool.not_eq_true', Bool.or_eq_false_iff, Bool.or_eq_false_iff, Bool.or_eq_false_iff] at this
      obtain ⟨⟨⟨g1, g2⟩, g3⟩, _⟩ := this
      rw [beq_eq_false_iff_ne] at g1
      rw [decide_eq_false_iff_not] at g2
      refine ⟨g1, by unfold dp; omega, fun e => ?_⟩
      rw [e, Bool.and_true, decide_eq_false_iff_not] at g3
      unfold dp
      omega
    have hb : ∀ i, i < l.length → 0 ≤ dp l i ∧ dp l i ≤ 6 := fun i hi => item_depth (hgood i hi)
    exact ⟨by omega, by omega, hd, fun i hi hl => ⟨by have := (key i hi hl).1; have := (hb i hl).1; omega, (key i hi hl).2.1⟩, fun i hi hl => (key i hi hl).2.2, hb, hgood⟩
end Go.Proofs.YticpebpicdboaaaGreatDoor

/- spec.l4Same, spec.SameTrees. -/
namespace Go.Proofs.YticpebpicdboaaaGreatDoor
open Go.ChangeShapes Go.WideShapes Go.ChangeAt Go.RowKit
set_option linter.unusedVariables false

theorem toList_inj {s t : ByteArray} (h : s.toList = t.toList) : s = t := by
  rw [ByteArray.toList_eq, ByteArray.toList_eq] at h
  exact bytes_inj h
theorem toList_ne {s t : ByteArray} (h : s ≠ t) : (s.toList == t.toList) = false := by rw [beq_eq_false_iff_ne]; exact fun e => h (toList_inj e)

set_option maxRecDepth 100000 in
set_option maxHeartbeats 1600000 in
theorem l4Same_d (b o b' o' : Nat) (x y : It) (w : World) (h : ItAt w b o x) (h' : ItAt w b' o' y)  (hne : x.depth ≠ y.depth) :
    Calls Tryz.prog 156 #[.pointer (some ⟨b, o, none⟩), .pointer (some ⟨b', o', none⟩)] w fun e w' => e = .returned (.bool false) ∧ ∃ n, w' = w.drewN n := by
  have d0 := h.c0
  have e0 := h'.c0
  obtain ⟨xd, xt, xs, xn, xa⟩ := x
  obtain ⟨yd, yt, ys, yn, ya⟩ := y
  dsimp only at hne d0 e0
  have q1 : (xd != yd) = true := by simpa using hne
  have q2 : (xd == yd) = false := by simpa using hne
  clear h h' hne
  go_enter Tryz.func156, Tryz.ntmps156
  go_wp2_with fail
  go_quiet (fail)
  go_wp2
  go_ret
  exact ⟨rfl, _, rfl⟩

set_option maxRecDepth 100000 in
set_option maxHeartbeats 1600000 in
theorem l4Same_t (b o b' o' : Nat) (x y : It) (w : World) (h : ItAt w b o x) (h' : ItAt w b' o' y) (hd : x.depth = y.depth) (hne : x.text ≠ y.text) :
    Calls Tryz.prog 156 #[.pointer (some ⟨b, o, none⟩), .pointer (some ⟨b', o', none⟩)] w fun e w' => e = .returned (.bool false) ∧ ∃ n, w' = w.drewN n := by
  have d0 := h.c0
  have e0 := h'.c0
  have d1 := h.c1
  have e1 := h'.c1
  obtain ⟨xd, xt, xs, xn, xa⟩ := x
  obtain ⟨yd, yt, ys, yn, ya⟩ := y
  dsimp only at hd hne d0 e0 d1 e1
  subst hd
  have q0 : (xd != xd) = false := by simp
  have q1 := toList_ne hne
  clear h h' hne
  go_enter Tryz.func156, Tryz.ntmps156
  go_wp2_with fail
  go_quiet (fail)
  go_wp2
  go_ret
  exact ⟨rfl, _, rfl⟩

set_option maxRecDepth 100000 in
set_option maxHeartbeats 1600000 in
theorem l4Same_s (b o b' o' : Nat) (x y : It) (w : World) (h : ItAt w b o x) (h' : ItAt w b' o' y) (hd : x.depth = y.depth) (ht : x.text = y.text) (hne : x.space ≠ y.space) :
    Calls Tryz.prog 156 #[.pointer (some ⟨b, o, none⟩), .pointer (some ⟨b', o', none⟩)] w fun e w' => e = .returned (.bool false) ∧ ∃ n, w' = w.drewN n := by
  have d0 := h.c0
  have e0 := h'.c0
  have d1 := h.c1
  have e1 := h'.c1
  have d2 := h.c2
  have e2 := h'.c2
  obtain ⟨xd, xt, xs, xn, xa⟩ := x
  obtain ⟨yd, yt, ys, yn, ya⟩ := y
  dsimp only at hd ht hne d0 e0 d1 e1 d2 e2
  subst hd
  subst ht
  have q0 : (xd != xd) = false := by simp
  have q1 := toList_ne hne
  clear h h' hne
  go_enter Tryz.func156, Tryz.ntmps156
  go_wp2_with fail
  go_quiet (fail)
  go_wp2
  go_ret
  exact ⟨rfl, _, rfl⟩

set_option maxRecDepth 100000 in
set_option maxHeartbeats 1600000 in
theorem l4Same_n (b o b' o' : Nat) (x y : It) (w : World) (h : ItAt w b o x) (h' : ItAt w b' o' y) (hd : x.depth = y.depth) (ht : x.text = y.text) (hs : x.space = y.space) (hne : x.name ≠ y.name) :
    Calls Tryz.prog 156 #[.pointer (some ⟨b, o, none⟩), .pointer (some ⟨b', o', none⟩)] w fun e w' => e = .returned (.bool false) ∧ ∃ n, w' = w.drewN n := by
  have d0 := h.c0
  have e0 := h'.c0
  have d1 := h.c1
  have e1 := h'.c1
  have d2 := h.c2
  have e2 := h'.c2
  have d3 := h.c3
  have e3 := h'.c3
  obtain ⟨xd, xt, xs, xn, xa⟩ := x
  obtain ⟨yd, yt, ys, yn, ya⟩ := y
  dsimp only at hd ht hs hne d0 e0 d1 e1 d2 e2 d3 e3
  subst hd
  subst ht
  subst hs
  have q0 : (xd != xd) = false := by simp
  have q1 := toList_ne hne
  clear h h' hne
  go_enter Tryz.func156, Tryz.ntmps156
  go_wp2_with fail
  go_quiet (fail)
  go_wp2
  go_ret
  exact ⟨rfl, _, rfl⟩

set_option maxRecDepth 100000 in
set_option maxHeartbeats 1600000 in
theorem l4Same_l (b o b' o' : Nat) (x y : It) (w : World) (h : ItAt w b o x) (h' : ItAt w b' o' y) (hd : x.depth = y.depth) (ht : x.text = y.text) (hs : x.space = y.space) (hn : x.name = y.name) (hne : x.attrs.length ≠ y.attrs.length) :
    Calls Tryz.prog 156 #[.pointer (some ⟨b, o, none⟩), .pointer (some ⟨b', o', none⟩)] w fun e w' => e = .returned (.bool false) ∧ ∃ n, w' = w.drewN n := by
  have d0 := h.c0
  have e0 := h'.c0
  have d1 := h.c1
  have e1 := h'.c1
  have d2 := h.c2
  have e2 := h'.c2
  have d3 := h.c3
  have e3 := h'.c3
  obtain ⟨a4, n4, c4, d4, hat⟩ := h.c4
  obtain ⟨a5, n5, c5, e4, hat'⟩ := h'.c4
  have m4 := hat.max
  have m5 := hat'.max
  have hnn : n4 ≠ n5 := by rw [← hat.len, ← hat'.len]; exact hne
  clear hat hat'
  obtain ⟨xd, xt, xs, xn, xa⟩ := x
  obtain ⟨yd, yt, ys, yn, ya⟩ := y
  dsimp only at hd ht hs hn d0 e0 d1 e1 d2 e2 d3 e3
  subst hd
  subst ht
  subst hs
  subst hn
  have q0 : (xd != xd) = false := by simp
  have q1 : ((n4 : Int) != (n5 : Int)) = true := by rw [bne_iff_ne]; omega
  have q2 : ((n4 : Int) == (n5 : Int)) = false := by rw [beq_eq_false_iff_ne]; omega
  clear h h' hne hnn
  go_enter Tryz.func156, Tryz.ntmps156
  go_wp2_with fail
  go_quiet (fail)
  go_wp2
  go_ret
  exact ⟨rfl, _, rfl⟩

end Go.Proofs.YticpebpicdboaaaGreatDoor

/- spec.l4End, l4Value. -/
namespace Go.Proofs.YticpebpicdboaaaGreatDoor
open Go.ChangeShapes Go.WideShapes Go.ChangeAt Go.RowKit
set_option linter.unusedVariables false

def endF (l : List It) (d : Int) : Nat → Nat → Nat
  | 0, j => j
  | f + 1, j => if d < (l.getD j dIt).depth then endF l d f (j + 1) else j
/-- the place behind all that is in the item at place a -/
def endL (l : List It) (a : Nat) : Nat := endF l (l.getD a dIt).depth (l.length - (a + 1)) (a + 1)
theorem endF_ge (l : List It) (d : Int) : ∀ f j, j ≤ endF l d f j ∧ endF l d f j ≤ j + f
  | 0, j => ⟨Nat.le_refl _, Nat.le_refl _⟩
  | f + 1, j => by
    unfold endF
    split
    · have := endF_ge l d f (j + 1); omega
    · omega
theorem endL_bounds {l : List It} {a : Nat} (h : a < l.length) : a + 1 ≤ endL l a ∧ endL l a ≤ l.length := by
  have := endF_ge l (l.getD a dIt).depth (l.length - (a + 1)) (a + 1)
  unfold endL
  omega
theorem endF_in (l : List It) (d : Int) : ∀ f j i, j ≤ i → i < endF l d f j → d < (l.getD i dIt).depth
  | 0, j, i, h1, h2 => by unfold endF at h2; omega
  | f + 1, j, i, h1, h2 => by
    unfold endF at h2
    split at h2
    · rename_i h
      rcases Nat.lt_or_ge j i with h3 | h3
      · exact endF_in l d f (j + 1) i h3 h2
      · obtain rfl : i = j := by omega
        exact h
    · omega

set_option maxRecDepth 100000 in
set_option maxHeartbeats 1600000 in
theorem specEnd_any (a : Option Addr) (n c p : Nat) (l : List It) (w : World) (hp : p < n) (h : ItsAt w a n c l) :
    Calls Tryz.prog 160 #[.slice a n c, .int .i64 p] w fun e w' => e = .returned (.int .i64 ((endL l p : Nat) : Int)) ∧ ∃ n, w' = w.drewN n := by
  have hm := h.max
  have HL := Lib.hid h.len
  obtain ⟨b, o, rfl, h4⟩ := h.row.resolve_left (by omega)
  have H4 := Lib.hid h4
  have e0 := (h4 p hp).c0
  obtain ⟨E, hE⟩ : ∃ E, endL l p = E := ⟨_, rfl⟩
  rw [hE]
  unfold endL at hE
  rw [h.len] at hE
  obtain ⟨d, hd⟩ : ∃ d, (l.getD p dIt).depth = d := ⟨_, rfl⟩
  rw [hd] at hE e0
  have HE := Lib.hid hE
  have q0 : (p : Int) < (n : Int) := by omega
  clear h h4 hE hd
  go_enter Tryz.func160, Tryz.ntmps160
  go_wp2
  go_loopw [5] (fun i wr => ∃ k : Nat, p + 1 ≤ k ∧ k ≤ n ∧ i = .int .i64 k ∧ endF l d (n - k) k = E ∧ ∃ nd, wr = w.drewN nd) (fun i _ => n - (intOf i).toNat)
  case atStart => exact ⟨p + 1, Nat.le_refl _, by omega, by go_num, HE.out, 0, rfl⟩
  case round =>
    obtain ⟨k, hk1, hk, rfl, hk2, hw⟩ := hrel
    have HW := Lib.hid hw
    have HK := Lib.hid hk2
    clear hw hk2
    by_cases hlt : k < n
    · have hbw : Below w.heap.size w wr := by obtain ⟨nd, rfl⟩ := HW.out; exact below_drewN (Below.refl _ _) nd
      have d0 := ((H4.out k hlt).below hbw).c0
      have e1 := (hbw.cell (p := ⟨b, o + p * 5, none⟩) (H4.out p hp).lt).trans e0
      clear hbw
      have hst : n - k = (n - (k + 1)) + 1 := by omega
      have HST := Lib.hid hst
      clear hst
      have q1 : decide ((k : Int) < (n : Int)) = true := by rw [decide_eq_true_iff]; omega
      have q2 : (k : Int) < (n : Int) := by omega
      obtain ⟨x, hx⟩ : ∃ x, (l.getD k dIt).depth = x := ⟨_, rfl⟩
      rw [hx] at d0
      by_cases hdx : d < x
      · have HK2 : Hid (endF l d (n - (k + 1)) (k + 1) = E) := Lib.hid (by
          have := HK.out; rw [HST.out] at this; unfold endF at this; rw [hx, if_pos hdx] at this; exact this)
        have q3 : decide (d < x) = true := by simpa using hdx
        clear hx
        go_wp2_with fail
        go_quiet (fail)
        go_wp2
        go_roundw
        case rel => exact ⟨k + 1, by omega, by omega, by go_num, HK2.out, drew_more HW.out _⟩
        case measure => simp [intOf]; omega
      · have HK2 : Hid (k = E) := Lib.hid (by
          have := HK.out; rw [HST.out] at this; unfold endF at this; rw [hx, if_neg hdx] at this; exact this)
        have q3 : decide (d < x) = false := by simpa using hdx
        clear hx
        go_wp2_with fail
        go_quiet (fail)
        go_wp2
        go_ret
        exact ⟨ret_n HK2.out, drew_more HW.out _⟩
    · obtain rfl : k = n := by omega
      have HK2 : Hid (k = E) := Lib.hid (by have := HK.out; rw [Nat.sub_self] at this; exact this)
      have q1 : decide ((k : Int) < (k : Int)) = false := by rw [decide_eq_false_iff_not]; omega
      go_wp2_with fail
      go_quiet (fail)
      go_wp2
      go_ret
      exact ⟨ret_n HK2.out, drew_more HW.out _⟩
end Go.Proofs.YticpebpicdboaaaGreatDoor
