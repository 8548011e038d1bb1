/- Texts laid together, part 7. -/
import Derived.Test.YtbfjhjkllaceaaaGreatDoorGB6
import Derived.Lib.AppendStr
import Derived.WalkLawsBesides
import Derived.IntWalk

/- Plain facts on items' faults and trees' faults. -/
namespace Go.Proofs.YtbfjhjkllaceaaaGreatDoor
open Go.ChangeShapes Go.WideShapes Go.ChangeAt Go.RowKit
set_option linter.unusedVariables false

theorem empty_iff (s : ByteArray) : s.toList.isEmpty = true ↔ s.data.toList = [] := by rw [ByteArray.toList_eq, List.isEmpty_iff]

theorem less_le : ∀ (x y : List UInt8), (Op.bytesLess x y || (x == y)) = !Op.bytesLess y x
  | [], [] => rfl
  | [], _ :: _ => rfl
  | _ :: _, [] => rfl
  | a :: x, b :: y => by
    have ih := less_le x y
    simp only [Op.bytesLess, List.cons_beq_cons]
    by_cases h1 : a < b
    · have h2 : ¬ b < a := fun h => by rw [UInt8.lt_iff_toNat_lt] at h h1; omega
      have h3 : (b == a) = false := by rw [beq_eq_false_iff_ne]; rintro rfl; exact h2 h1
      simp [h1, h2, h3]
    · by_cases h2 : b < a
      · have h3 : (a == b) = false := by rw [beq_eq_false_iff_ne]; rintro rfl; exact h1 h2
        simp [h1, h2, h3]
      · have h3 : a = b := by rw [UInt8.lt_iff_toNat_lt] at h1 h2; exact UInt8.toNat_inj.1 (by omega)
        subst h3
        simp only [h1, decide_false, beq_self_eq_true, Bool.true_and, Bool.false_or]
        exact ih
theorem less_no {x y : List UInt8} (h : Op.bytesLess y x = false) : Op.bytesLess x y = true ∨ Op.bytesLess x y = false ∧ (x == y) = true := by
  have := less_le x y
  rw [h] at this
  cases hq : Op.bytesLess x y
  · rw [hq] at this; exact .inr ⟨rfl, by simpa using this⟩
  · exact .inl rfl
theorem less_yes {x y : List UInt8} (h : Op.bytesLess y x = true) : Op.bytesLess x y = false ∧ (x == y) = false := by
  have := less_le x y
  rw [h] at this
  simpa using this
theorem ret_i {a b : Int} (h : a = b) : Ending.returned (.int .i64 a) = .returned (.int .i64 b) := by rw [h]
/-- an attribute's fault by itself -/
def atFault (x : At) : Int := if isKeyL x.name = true then textFault x.value.data.toList else 5
def lessAt (x y : At) : Bool := Op.bytesLess x.name.toList y.name.toList
def rises (l : List At) : Bool := (List.range l.length).all fun i => i == 0 || lessAt (l.getD (i - 1) dAt) (l.getD i dAt)
def attrsCode (l : List At) : Int :=
  if 5 < l.length then 2 else
  match l.find? (fun x => atFault x != 0) with
  | some x => atFault x
  | none => if rises l = true then 0 else 6
def textCode (x : It) : Int := if x.space.toList.isEmpty = false ∨ 0 < x.attrs.length ∨ x.text.toList.isEmpty = true then 1 else textFault x.text.data.toList
def elemCode (x : It) : Int :=
  if x.text.toList.isEmpty = false then 1 else
  if isNameL x.name.data.toList = false then 5 else
  if textFault x.space.data.toList = 0 then attrsCode x.attrs else textFault x.space.data.toList
def itemCode (x : It) : Int :=
  if x.depth < 0 ∨ 6 < x.depth then 3 else
  if x.name.toList.isEmpty = true then textCode x else elemCode x

theorem attrsCode_many {l : List At} (h : 5 < l.length) : attrsCode l = 2 := by unfold attrsCode; rw [if_pos h]
theorem attrsCode_at {l : List At} {k : Nat} (h : ¬ 5 < l.length) (hk : k < l.length) (h0 : ∀ j, j < k → atFault (l.getD j dAt) = 0) (h1 : atFault (l.getD k dAt) ≠ 0) : attrsCode l = atFault (l.getD k dAt) := by
  unfold attrsCode
  rw [if_neg h, find_at l dAt _ k hk (fun j hj => by simp only [h0 j hj]; decide) (by simpa using h1)]
theorem attrsCode_end {l : List At} (h : ¬ 5 < l.length) (h0 : ∀ j, j < l.length → atFault (l.getD j dAt) = 0) : attrsCode l = if rises l = true then 0 else 6 := by
  unfold attrsCode
  rw [if_neg h, find_no l dAt _ fun j hj => by simp only [h0 j hj]; decide]
theorem rises_yes {l : List At} (h : ∀ i, 1 ≤ i → i < l.length → lessAt (l.getD (i - 1) dAt) (l.getD i dAt) = true) : rises l = true := by
  unfold rises
  rw [List.all_eq_true]
  intro i hi
  rw [List.mem_range] at hi
  by_cases h0 : i = 0
  · simp [h0]
  · rw [h i (by omega) hi]; simp
theorem rises_no {l : List At} {i : Nat} (h1 : 1 ≤ i) (h2 : i < l.length) (h : lessAt (l.getD (i - 1) dAt) (l.getD i dAt) = false) : rises l = false := by
  rw [Bool.eq_false_iff]
  intro hc
  unfold rises at hc
  rw [List.all_eq_true] at hc
  have := hc i (List.mem_range.2 h2)
  rw [h] at this
  simp at this
  omega

/-- an item of the Depth xd may stand right behind one of the Depth pd (xn, pn: it has no Name) -/
def standB (xd pd : Int) (xn pn : Bool) : Bool := !(xd == 0 || decide (pd + 1 < xd) || (decide (pd < xd) && pn) || (xn && pn && xd == pd))
def mayStand (p x : It) : Bool := standB x.depth p.depth x.name.toList.isEmpty p.name.toList.isEmpty
theorem stand_no {xd pd : Int} {xn pn : Bool} (h : standB xd pd xn pn = false) :
    ((xd == 0) = true) ∨ ((xd == 0) = false ∧ decide (pd + 1 < xd) = true) ∨ ((xd == 0) = false ∧ decide (pd + 1 < xd) = false ∧ decide (pd < xd) = true ∧ pn = true) ∨
    ((xd == 0) = false ∧ decide (pd + 1 < xd) = false ∧ decide (pd < xd) = false ∧ xn = true ∧ pn = true ∧ (xd == pd) = true) := by
  have key : ∀ a b c d e f : Bool, (!(a || b || (c && e) || (d && e && f))) = false → (a = true) ∨ (a = false ∧ b = true) ∨ (a = false ∧ b = false ∧ c = true ∧ e = true) ∨ (a = false ∧ b = false ∧ c = false ∧ d = true ∧ e = true ∧ f = true) := by
    intro a b c d e f
    cases a <;> cases b <;> cases c <;> cases d <;> cases e <;> cases f <;> simp
  exact key _ _ _ _ _ _ h
theorem stand_yes {xd pd : Int} {xn pn : Bool} (h : standB xd pd xn pn = true) :
    ((xd == 0) = false ∧ decide (pd + 1 < xd) = false ∧ decide (pd < xd) = true ∧ pn = false ∧ xn = false) ∨ ((xd == 0) = false ∧ decide (pd + 1 < xd) = false ∧ decide (pd < xd) = true ∧ pn = false ∧ xn = true) ∨
    ((xd == 0) = false ∧ decide (pd + 1 < xd) = false ∧ decide (pd < xd) = false ∧ xn = false) ∨ ((xd == 0) = false ∧ decide (pd + 1 < xd) = false ∧ decide (pd < xd) = false ∧ xn = true ∧ pn = false) ∨
    ((xd == 0) = false ∧ decide (pd + 1 < xd) = false ∧ decide (pd < xd) = false ∧ xn = true ∧ pn = true ∧ (xd == pd) = false) := by
  have key : ∀ a b c d e f : Bool, (!(a || b || (c && e) || (d && e && f))) = true → (a = false ∧ b = false ∧ c = true ∧ e = false ∧ d = false) ∨ (a = false ∧ b = false ∧ c = true ∧ e = false ∧ d = true) ∨ (a = false ∧ b = false ∧ c = false ∧ d = false) ∨ (a = false ∧ b = false ∧ c = false ∧ d = true ∧ e = false) ∨ (a = false ∧ b = false ∧ c = false ∧ d = true ∧ e = true ∧ f = false) := by
    intro a b c d e f
    cases a <;> cases b <;> cases c <;> cases d <;> cases e <;> cases f <;> simp
  exact key _ _ _ _ _ _ h
def followB (xd pd : Int) (xn pn : Bool) : Bool := if pn = true then (decide (xd < pd) || ((xd == pd) && !xn)) else decide (xd ≤ pd + 1)
theorem stand_follow {xd pd : Int} {xn pn : Bool} (h : (xd == 0) = false) : standB xd pd xn pn = followB xd pd xn pn := by
  unfold standB followB
  rw [h, Bool.eq_iff_iff]
  cases pn <;> cases xn <;> simp <;> omega
theorem stand_zero {xd pd : Int} {xn pn : Bool} (h : (xd == 0) = true) : standB xd pd xn pn = false := by
  unfold standB
  rw [h]; simp
def stands (l : List It) : Bool := decide ((l.getD 0 dIt).depth = 0) && !(l.getD 0 dIt).name.toList.isEmpty && (List.range l.length).all fun i => i == 0 || mayStand (l.getD (i - 1) dIt) (l.getD i dIt)
def treeCode (l : List It) : Int :=
  if l.length < 1 ∨ 40 < l.length then 2 else
  match l.find? (fun x => itemCode x != 0) with
  | some x => itemCode x
  | none => if stands l = true then 0 else 1
theorem treeCode_many {l : List It} (h : l.length < 1 ∨ 40 < l.length) : treeCode l = 2 := by unfold treeCode; rw [if_pos h]
theorem treeCode_at {l : List It} {k : Nat} (h : ¬ (l.length < 1 ∨ 40 < l.length)) (hk : k < l.length) (h0 : ∀ j, j < k → itemCode (l.getD j dIt) = 0) (h1 : itemCode (l.getD k dIt) ≠ 0) : treeCode l = itemCode (l.getD k dIt) := by
  unfold treeCode
  rw [if_neg h, find_at l dIt _ k hk (fun j hj => by simp only [h0 j hj]; decide) (by simpa using h1)]
theorem treeCode_end {l : List It} (h : ¬ (l.length < 1 ∨ 40 < l.length)) (h0 : ∀ j, j < l.length → itemCode (l.getD j dIt) = 0) : treeCode l = if stands l = true then 0 else 1 := by
  unfold treeCode
  rw [if_neg h, find_no l dIt _ fun j hj => by simp only [h0 j hj]; decide]
theorem item_depth {x : It} (h : itemCode x = 0) : 0 ≤ x.depth ∧ x.depth ≤ 6 := by
  unfold itemCode at h
  by_cases hd : x.depth < 0 ∨ 6 < x.depth
  · rw [if_pos hd] at h; cases h
  · omega
theorem stands_first {l : List It} (h : ¬ ((l.getD 0 dIt).depth = 0 ∧ (l.getD 0 dIt).name.toList.isEmpty = false)) : stands l = false := by
  unfold stands
  by_cases h1 : (l.getD 0 dIt).depth = 0
  · have h2 : (l.getD 0 dIt).name.toList.isEmpty = true := by
      cases hq : (l.getD 0 dIt).name.toList.isEmpty
      · exact absurd ⟨h1, hq⟩ h
      · rfl
    rw [h2]; simp
  · rw [decide_eq_false h1]; simp
theorem stands_yes {l : List It} (h0 : (l.getD 0 dIt).depth = 0) (h1 : (l.getD 0 dIt).name.toList.isEmpty = false) (h : ∀ i, 1 ≤ i → i < l.length → mayStand (l.getD (i - 1) dIt) (l.getD i dIt) = true) : stands l = true := by
  unfold stands
  rw [h0, h1]
  simp only [decide_true, Bool.not_false, Bool.and_true, Bool.true_and, List.all_eq_true]
  intro i hi
  rw [List.mem_range] at hi
  by_cases hz : i = 0
  · simp [hz]
  · rw [h i (by omega) hi]; simp
theorem stands_no {l : List It} {i : Nat} (h1 : 1 ≤ i) (h2 : i < l.length) (h : mayStand (l.getD (i - 1) dIt) (l.getD i dIt) = false) : stands l = false := by
  rw [Bool.eq_false_iff]
  intro hc
  unfold stands at hc
  simp only [Bool.and_eq_true, List.all_eq_true] at hc
  have := hc.2 i (List.mem_range.2 h2)
  rw [h] at this
  simp at this
  omega
end Go.Proofs.YtbfjhjkllaceaaaGreatDoor

/- Contract of the model's l2String. -/
namespace Go.Proofs.YtbfjhjkllaceaaaGreatDoor
open Go.ChangeShapes Go.WideShapes Go.ChangeAt Go.RowKit
set_option linter.unusedVariables false

theorem strCells_eq (s : ByteArray) : Lib.strCells s = (bytesI s.data.toList).map (Value.int .u8) := by
  unfold Lib.strCells bytesI
  simp

set_option maxRecDepth 100000 in
set_option maxHeartbeats 1600000 in
theorem l2String_any (s : ByteArray) (hs : s.size ≤ 1048576) (w : World) :
    Calls Tryz.prog 54 #[.string s] w (OwnsRes w 5 .u8 (vput s.size ++ bytesI s.data.toList)) := by
  obtain ⟨i0, hi, hz0, hz1, hz2⟩ := info_parts varInfo
  have K := Lib.hid (l2Put_any s.size (by omega))
  have h9 := vput_len9 s.size (by omega)
  go_enter Tryz.func54, Tryz.ntmps54
  go_wp2_with fail
  refine (K.out _).mono ?_
  rintro e w1 ⟨a, n, c, rfl, ho, hb⟩
  have hn : n ≤ 9 := by have := owns_length ho; omega
  have HO := Lib.hid ho
  have HB := Lib.hid hb
  clear ho hb
  go_wp2_with (at_builtin; refine Lib.wpList_append_own_string _ rfl _ _ 22 9 rfl w.heap.size 5 i0 Tryz.underlying22 Tryz.underlying9 hi hz0 hz1 hz2 _ _ _ rfl HO.out s rfl ?c1 ?c2 ?c3 ?_)
  case c1 => unfold maxLen; omega
  case c2 => omega
  case c3 => exact HB.out.size
  intro v' w2 hown' hgrow _
  obtain ⟨a2, c2, rfl⟩ := owns_slice hown'
  have HB2 := Lib.hid (HB.out.grown hgrow HB.out.size (fun k hk => (HO.out.lt k hk).1))
  have HO2 := Lib.hid hown'
  clear hown' hgrow
  go_wp2
  go_ret
  exact ⟨a2, _, c2, rfl, by rw [List.map_append, ← strCells_eq]; exact HO2.out, HB2.out⟩

end Go.Proofs.YtbfjhjkllaceaaaGreatDoor

/- Plain facts on the strings of a tree without a fault: no run in this text. -/
namespace Go.Proofs.YtbfjhjkllaceaaaGreatDoor
set_option linter.unusedVariables false

theorem same_text {x t : ByteArray} : (x.toList == t.toList) = true ↔ x = t := by
  rw [beq_iff_eq, ByteArray.toList_eq, ByteArray.toList_eq]
  constructor
  · intro h
    cases x
    cases t
    simp only [ByteArray.mk.injEq]
    exact Array.toList_inj.1 h
  · rintro rfl
    rfl
theorem has_iff {ts : List ByteArray} {t : ByteArray} : 0 ≤ hasIx ts t ↔ t ∈ ts := by
  have h : ts.findIdx (fun x => x.toList == t.toList) < ts.length ↔ t ∈ ts := by
    rw [List.findIdx_lt_length]
    constructor
    · rintro ⟨x, hx, he⟩
      rw [same_text] at he
      exact he ▸ hx
    · intro hx
      exact ⟨t, hx, same_text.2 rfl⟩
  rw [← h]
  unfold hasIx
  split <;> omega
theorem mem_addT {ts : List ByteArray} {s t : ByteArray} : s ∈ addT ts t ↔ s ∈ ts ∨ s = t := by
  unfold addT
  split
  · rename_i h
    constructor
    · exact .inl
    · rintro (h1 | rfl)
      · exact h1
      · exact has_iff.1 h
  · simp
/-- the texts of an attribute, of an item -/
def atTs (a : At) : List ByteArray := [a.name, a.value]
def itTs (x : It) : List ByteArray := if x.name.toList.isEmpty then [x.text] else x.space :: x.name :: x.attrs.flatMap atTs
theorem mem_strsAts (l : List At) : ∀ (o : List ByteArray) (s : ByteArray), s ∈ strsAts o l ↔ s ∈ o ∨ s ∈ l.flatMap atTs := by
  induction l with
  | nil => intro o s; simp [strsAts]
  | cons a t ih =>
    intro o s
    have h := ih (addT (addT o a.name) a.value) s
    unfold strsAts at h ⊢
    rw [List.foldl_cons, h, mem_addT, mem_addT, List.flatMap_cons, List.mem_append]
    simp only [atTs, List.mem_cons, List.not_mem_nil, or_false]
    constructor
    · rintro (((h | h) | h) | h)
      · exact .inl h
      · exact .inr (.inl (.inl h))
      · exact .inr (.inl (.inr h))
      · exact .inr (.inr h)
    · rintro (h | (h | h) | h)
      · exact .inl (.inl (.inl h))
      · exact .inl (.inl (.inr h))
      · exact .inl (.inr h)
      · exact .inr h
theorem mem_strsIt (o : List ByteArray) (x : It) (s : ByteArray) : s ∈ strsIt o x ↔ s ∈ o ∨ s ∈ itTs x := by
  unfold strsIt itTs
  split
  · rw [mem_addT]; simp
  · rw [mem_strsAts, mem_addT, mem_addT]
    simp only [List.mem_cons]
    constructor
    · rintro (((h | h) | h) | h)
      · exact .inl h
      · exact .inr (.inl h)
      · exact .inr (.inr (.inl h))
      · exact .inr (.inr (.inr h))
    · rintro (h | h | h | h)
      · exact .inl (.inl (.inl h))
      · exact .inl (.inl (.inr h))
      · exact .inl (.inr h)
      · exact .inr h
theorem mem_strsOf (l : List It) (s : ByteArray) : s ∈ strsOf l ↔ s ∈ l.flatMap itTs := by
  have key : ∀ (l : List It) (o : List ByteArray), s ∈ l.foldl strsIt o ↔ s ∈ o ∨ s ∈ l.flatMap itTs := by
    intro l
    induction l with
    | nil => intro o; simp
    | cons x t ih =>
      intro o
      rw [List.foldl_cons, ih, mem_strsIt, List.flatMap_cons, List.mem_append]
      exact or_assoc
  have h := key l []
  unfold strsOf
  rw [h]
  simp
theorem getD_memI {α : Type} {l : List α} {i : Nat} {d : α} (h : i < l.length) : l.getD i d ∈ l := by
  rw [List.getD_eq_getElem?_getD, List.getElem?_eq_getElem h]
  exact List.getElem_mem h
theorem hasIt_of (l : List It) (i : Nat) (h : i < l.length) : HasIt (strsOf l) (l.getD i dIt) := by
  have hm : ∀ s, s ∈ itTs (l.getD i dIt) → 0 ≤ hasIx (strsOf l) s := fun s hs => has_iff.2 ((mem_strsOf l s).2 (List.mem_flatMap.2 ⟨_, getD_memI (d := dIt) h, hs⟩))
  generalize l.getD i dIt = x at hm
  unfold HasIt
  unfold itTs at hm
  split
  · rename_i he
    rw [if_pos he] at hm
    exact hm _ (by simp)
  · rename_i he
    rw [if_neg he] at hm
    refine ⟨hm _ (by simp), hm _ (by simp), fun j hj => ⟨hm _ ?_, hm _ ?_⟩⟩
    all_goals
      refine List.mem_cons_of_mem _ (List.mem_cons_of_mem _ (List.mem_flatMap.2 ⟨_, getD_memI (d := dAt) hj, ?_⟩))
      simp [atTs]

/-- what is known of an item without a fault -/
structure GoodIt (x : It) : Prop where
  depth : 0 ≤ x.depth ∧ x.depth ≤ 6
  few : x.attrs.length ≤ 5
  short : ∀ s ∈ itTs x, s.size ≤ 60
theorem dataLen (s : ByteArray) : s.data.toList.length = s.size := by simp
theorem goodText {s : ByteArray} (h : textFault s.data.toList = 0) : s.size ≤ 60 := by
  unfold textFault at h
  rw [dataLen] at h
  split at h
  · omega
  · omega
theorem goodAt {a : At} (h : atFault a = 0) : a.name.size ≤ 60 ∧ a.value.size ≤ 60 := by
  unfold atFault at h
  split at h
  · rename_i hk
    refine ⟨?_, goodText h⟩
    unfold isKeyL at hk
    rw [Bool.or_eq_true] at hk
    rcases hk with hk | hk
    · rw [Bool.and_eq_true] at hk
      have h1 := hk.1
      unfold isNameL at h1
      simp only [Bool.and_eq_true, decide_eq_true_eq] at h1
      have h2 := h1.1.1.2
      rw [dataLen] at h2
      omega
    · rw [beq_iff_eq, ByteArray.toList_eq] at hk
      have h2 := congrArg List.length hk
      rw [dataLen] at h2
      simp at h2
      omega
  · omega
theorem find_none_at {α : Type} {l : List α} {p : α → Bool} (h : l.find? p = none) {x : α} (hx : x ∈ l) : p x = false := by
  have := List.find?_eq_none.1 h x hx
  simpa using this
theorem goodAts {l : List At} (h : attrsCode l = 0) : l.length ≤ 5 ∧ ∀ a ∈ l, atFault a = 0 := by
  unfold attrsCode at h
  split at h
  · omega
  · rename_i h5
    refine ⟨by omega, fun a ha => ?_⟩
    cases hf : l.find? (fun x => atFault x != 0) with
    | none => simpa using find_none_at hf ha
    | some x =>
      rw [hf] at h
      have := List.find?_some hf
      rw [bne_iff_ne] at this
      exact absurd h this
theorem goodIt {x : It} (h : itemCode x = 0) : GoodIt x := by
  have hd := item_depth h
  unfold itemCode at h
  rw [if_neg (by omega)] at h
  split at h
  · rename_i he
    unfold textCode at h
    split at h
    · omega
    · rename_i hn
      refine ⟨hd, by omega, fun s hs => ?_⟩
      unfold itTs at hs
      rw [if_pos he] at hs
      simp only [List.mem_cons, List.not_mem_nil, or_false] at hs
      subst hs
      exact goodText h
  · rename_i he
    unfold elemCode at h
    split at h
    · omega
    · split at h
      · omega
      · rename_i h2
        split at h
        · rename_i h3
          obtain ⟨hl, ha⟩ := goodAts h
          refine ⟨hd, hl, fun s hs => ?_⟩
          unfold itTs at hs
          rw [if_neg he] at hs
          simp only [List.mem_cons] at hs
          rcases hs with rfl | rfl | hs
          · exact goodText h3
          · have hn : isNameL x.name.data.toList = true := by simpa using h2
            unfold isNameL at hn
            simp only [Bool.and_eq_true, decide_eq_true_eq] at hn
            have h4 := hn.1.1.2
            rw [dataLen] at h4
            omega
          · obtain ⟨a, ha1, ha2⟩ := List.mem_flatMap.1 hs
            have h5 := goodAt (ha a ha1)
            unfold atTs at ha2
            simp only [List.mem_cons, List.not_mem_nil, or_false] at ha2
            rcases ha2 with rfl | rfl
            · exact h5.1
            · exact h5.2
        · rename_i h3
          exact absurd h h3
/-- a tree without a fault is small -/
theorem goodTree {l : List It} (h : treeCode l = 0) : l.length ≤ 40 ∧ ∀ x ∈ l, GoodIt x := by
  unfold treeCode at h
  split at h
  · omega
  · rename_i hn
    refine ⟨by omega, fun x hx => goodIt ?_⟩
    cases hf : l.find? (fun x => itemCode x != 0) with
    | none => simpa using find_none_at hf hx
    | some y =>
      rw [hf] at h
      have := List.find?_some hf
      rw [bne_iff_ne] at this
      exact absurd h this
theorem goodStrs {l : List It} (h : ∀ x ∈ l, GoodIt x) : ∀ s ∈ strsOf l, s.size ≤ 60 := by
  intro s hs
  rw [mem_strsOf] at hs
  obtain ⟨x, hx, hs⟩ := List.mem_flatMap.1 hs
  exact (h x hx).short s hs
theorem goodCount {l : List It} (h : l.length ≤ 40) (hg : ∀ x ∈ l, GoodIt x) : (strsOf l).length ≤ 480 := by
  have key : ∀ (l : List It) (o : List ByteArray), (∀ x ∈ l, GoodIt x) → (l.foldl strsIt o).length ≤ o.length + 12 * l.length := by
    intro l
    induction l with
    | nil => intro o _; simp
    | cons x t ih =>
      intro o hx
      have h1 := ih (strsIt o x) (fun y hy => hx y (by simp [hy]))
      have h2 := strsIt_length o x (hx x (by simp)).few
      rw [List.foldl_cons, List.length_cons]
      omega
  have := key l [] hg
  unfold strsOf
  simp at this
  omega
theorem goodFew {l : List It} (h : ∀ x ∈ l, GoodIt x) : FewAts l := fun i hi => (h _ (getD_memI hi)).few

/-- a text, in bytes -/
def strB (t : ByteArray) : List Int := vput t.size ++ bytesI t.data.toList
theorem strB_length (t : ByteArray) (h : t.size ≤ 60) : (strB t).length ≤ 69 := by
  unfold strB
  have h1 := vput_len9 t.size (by omega)
  have h2 : (bytesI t.data.toList).length = t.size := by unfold bytesI; simp
  rw [List.length_append, h2]
  omega
theorem strB_pos (t : ByteArray) : (strB t).length ≠ 0 := by
  unfold strB
  have := vput_pos t.size
  rw [List.length_append]
  omega
/-- a tree, in bytes -/
def packL (l : List It) : List Int := vput (strsOf l).length ++ (strsOf l).flatMap strB ++ vput l.length ++ l.flatMap (itB (strsOf l))
theorem flat_succ {α : Type} (f : α → List Int) (l : List α) (d : α) (k : Nat) (h : k < l.length) : (l.take (k + 1)).flatMap f = (l.take k).flatMap f ++ f (l.getD k d) := by
  rw [List.take_succ_eq_append_getElem h, List.flatMap_append, List.getD_eq_getElem?_getD, List.getElem?_eq_getElem h]
  simp
end Go.Proofs.YtbfjhjkllaceaaaGreatDoor

/- The model's l6Pack. -/
namespace Go.Proofs.YtbfjhjkllaceaaaGreatDoor
open Go.ChangeShapes Go.WideShapes Go.ChangeAt Go.RowKit
set_option linter.unusedVariables false

set_option maxRecDepth 100000 in
set_option maxHeartbeats 6400000 in
theorem l6Pack_any (a : Option Addr) (n c : Nat) (l : List It) (w : World) (hl : l.length ≤ 40) (hg : ∀ x ∈ l, GoodIt x) (h : ItsAt w a n c l) :
    Calls Tryz.prog 29 #[.slice a n c] w (OwnsRes w 5 .u8 (packL l)) := by
  obtain ⟨i0, hi, hz0, hz1, hz2⟩ := info_parts varInfo
  unfold OwnsRes
  have hn := h.len
  have hn40 : n ≤ 40 := by omega
  have KS := Lib.hid (l6Strings_any a n c l w hl (goodFew hg) h)
  unfold GrownS at KS
  have hts := goodCount hl hg
  have hsz := goodStrs hg
  have hhas := fun i hi => hasIt_of l i hi
  have hpk : packL l = vput (strsOf l).length ++ (strsOf l).flatMap strB ++ vput l.length ++ l.flatMap (itB (strsOf l)) := rfl
  generalize packL l = PK at hpk ⊢
  generalize strsOf l = ts at KS hts hsz hhas hpk
  have HPK := Lib.hid hpk
  have HSZ := Lib.hid hsz
  have HHAS := Lib.hid hhas
  have HG := Lib.hid hg
  have HI := Lib.hid h
  have HN := Lib.hid hn
  have KC := Lib.hid (l2Put_any ts.length (by omega))
  have hlC := vput_len9 ts.length (by omega)
  have hpC := vput_pos ts.length
  have KN := Lib.hid (l2Put_any n (by omega))
  have hlN := vput_len9 n (by omega)
  have hpN := vput_pos n
  unfold OwnsRes at KC KN
  rw [hn] at HPK
  generalize vput ts.length = C at KC hlC hpC HPK
  generalize vput n = N at KN hlN hpN HPK
  clear hpk hsz hhas hg h hn hl
  go_enter Tryz.func29, Tryz.ntmps29
  go_wp2_with fail
  refine KS.out.mono ?_
  rintro e w1 ⟨aL, nL, cL, rfl, hoL, hbL⟩
  have hRL := Lib.hid (RowS.of_owns hoL)
  have hLL := Lib.hid (ownsS_length hoL)
  have hnL : nL ≤ 480 := by have := hLL.out; omega
  have HB1 := Lib.hid hbL
  have HI1 := Lib.hid (HI.out.below hbL)
  rw [← hLL.out] at KC
  clear hoL hbL
  go_wp2_with fail
  refine (KC.out _).mono ?_
  rintro e w2 ⟨a2, n2, c2, rfl, ho2, hb2⟩
  have hl2 := owns_length ho2
  have hn2 : n2 ≤ 9 := by omega
  have HO2 := Lib.hid ho2
  have HB2 := Lib.hid hb2
  clear ho2 hb2 hl2
  go_wp2
  go_loopw [4, 14] (fun v i wr => ∃ (k m : Nat) (x : Option Addr) (q : Nat), i = .int .i64 k ∧ k ≤ nL ∧ v = .slice x m q ∧ m ≤ 9 + 69 * k ∧ wr.ownsRow w1.heap.size 5 1 (.slice x m q) m ((C ++ (ts.take k).flatMap strB).map (Value.int .u8)) ∧ Below w1.heap.size w1 wr) (fun _ i _ => nL - (intOf i).toNat)
  case atStart => exact ⟨0, n2, _, _, rfl, Nat.zero_le _, rfl, by omega, by rw [List.take_zero, List.flatMap_nil, List.append_nil]; exact HO2.out, HB2.out⟩
  case round =>
    obtain ⟨k, m, x, q, rfl, hk, rfl, hm, ho, hb⟩ := hrel
    have HO := Lib.hid ho
    have HB := Lib.hid hb
    clear ho hb
    by_cases hlt : k < nL
    · rcases hRL.out with ⟨hv, h0⟩ | ⟨bL, oL, qL, hv, h1, h2, h3, h4⟩
      · exfalso
        have := hLL.out
        rw [h0] at this
        simp at this
        omega
      · simp only [Value.slice.injEq] at hv
        obtain ⟨rfl, hq, rfl⟩ := hv
        clear hq
        have hc := (HB.out.cell (p := ⟨bL, oL + k, none⟩) h3).trans (h4 k (by have := hLL.out; omega))
        have hsc := flat_succ strB ts ByteArray.empty k (by have := hLL.out; omega)
        have h60 := HSZ.out _ (getD_memI (d := ByteArray.empty) (l := ts) (i := k) (by have := hLL.out; omega))
        generalize ts.getD k ByteArray.empty = s at hc hsc h60
        have KT := Lib.hid (l2String_any s (by omega))
        unfold OwnsRes at KT
        have hlT := strB_length s h60
        have hpT := strB_pos s
        have eT : vput s.size ++ bytesI s.data.toList = strB s := rfl
        rw [eT] at KT
        generalize strB s = T at KT hlT hpT hsc
        have HSC := Lib.hid hsc
        have k1 : (k : Int) < (nL : Int) := by omega
        clear hsc eT h1 h2 h4
        go_wp2_with fail
        refine (KT.out _).mono ?_
        rintro e w3 ⟨a3', n3, c3, rfl, ho3, hb3⟩
        have hl3 := owns_length ho3
        obtain ⟨g3, rfl⟩ := owns_some ho3 (by omega)
        have HP3 := Lib.hid (owns_below HO.out hb3)
        have HQ3 := Lib.hid ho3
        have HW3 := Lib.hid (below_up HB.out hb3)
        have HL3 := Lib.hid hl3
        have hn3 : n3 ≤ 69 := by omega
        clear ho3 hb3 hl3
        go_wp2_with (at_builtin; refine wpList_append_own _ rfl _ _ 22 rfl w1.heap.size 5 i0 (.int .u8 0) 1 1 Tryz.underlying22 hi hz0 hz1 hz2 rfl (by decide) _ m _ rfl HP3.out ⟨g3, 0, none⟩ n3 c3 (List.map (Value.int .u8) T) rfl ?c0 ?c1 ?c2 ?c3 ?c4 ?c5 ?_)
        case c0 => simp [HL3.out]
        case c1 => exact owns_cells HQ3.out
        case c2 => exact ints_one _ _
        case c3 => unfold maxLen; omega
        case c4 => omega
        case c5 => exact HW3.out.size
        intro v' w4 hown' hgrow _
        obtain ⟨a4, c4, rfl⟩ := owns_slice hown'
        rw [← List.map_append] at hown'
        have HO4 := Lib.hid hown'
        have HB4 := Lib.hid (HW3.out.grown hgrow HW3.out.size (fun k hk => (HP3.out.lt k hk).1))
        clear hown' hgrow
        go_wp2
        go_roundw
        case rel => exact ⟨k + 1, m + n3, a4, c4, by go_num, by omega, rfl, by omega, by rw [HSC.out]; have := HO4.out; simpa only [List.append_assoc, List.map_append] using this, HB4.out⟩
        case measure => simp [intOf]; omega
    · obtain rfl : k = nL := by omega
      have hO := HO.out
      rw [hLL.out, List.take_length] at hO
      have HOX := Lib.hid hO
      clear hO
      go_wp2_with fail
      refine (KN.out _).mono ?_
      rintro e w3 ⟨a3', n3, c3, rfl, ho3, hb3⟩
      have hl3 := owns_length ho3
      obtain ⟨g3, rfl⟩ := owns_some ho3 (by omega)
      have HP3 := Lib.hid (owns_below HOX.out hb3)
      have HQ3 := Lib.hid ho3
      have HW3 := Lib.hid (below_up HB.out hb3)
      have HL3 := Lib.hid hl3
      have hn3 : n3 ≤ 9 := by omega
      clear ho3 hb3 hl3
      go_wp2_with (at_builtin; refine wpList_append_own _ rfl _ _ 22 rfl w1.heap.size 5 i0 (.int .u8 0) 1 1 Tryz.underlying22 hi hz0 hz1 hz2 rfl (by decide) _ m _ rfl HP3.out ⟨g3, 0, none⟩ n3 c3 (List.map (Value.int .u8) N) rfl ?c0 ?c1 ?c2 ?c3 ?c4 ?c5 ?_)
      case c0 => simp [HL3.out]
      case c1 => exact owns_cells HQ3.out
      case c2 => exact ints_one _ _
      case c3 => unfold maxLen; omega
      case c4 => omega
      case c5 => exact HW3.out.size
      intro v' w4 hown' hgrow _
      obtain ⟨a4, c4, rfl⟩ := owns_slice hown'
      rw [← List.map_append] at hown'
      have HO4 := Lib.hid hown'
      have HB4 := Lib.hid (HW3.out.grown hgrow HW3.out.size (fun k hk => (HP3.out.lt k hk).1))
      clear hown' hgrow
      obtain ⟨X, hX⟩ : ∃ X, Hid (C ++ ts.flatMap strB ++ N = X) := ⟨_, Lib.hid rfl⟩
      have HX4 : Hid (w4.ownsRow w1.heap.size 5 1 (.slice a4 (m + n3) c4) (m + n3) (X.map (Value.int .u8))) := Lib.hid (by
        have := HO4.out
        rw [← hX.out]
        simpa only [List.append_assoc, List.map_append] using this)
      go_wp2
      go_loopw [4, 32] (fun v i wr => ∃ (k m7 : Nat) (x7 : Option Addr) (q7 : Nat), i = .int .i64 k ∧ k ≤ n ∧ v = .slice x7 m7 q7 ∧ m7 ≤ 33200 + 200 * k ∧ wr.ownsRow w1.heap.size 5 1 (.slice x7 m7 q7) m7 ((X ++ (l.take k).flatMap (itB ts)).map (Value.int .u8)) ∧ Below w1.heap.size w1 wr) (fun _ i _ => n - (intOf i).toNat)
      case atStart => exact ⟨0, m + n3, _, _, rfl, Nat.zero_le _, rfl, by omega, by rw [List.take_zero, List.flatMap_nil, List.append_nil]; exact HX4.out, HB4.out⟩
      case round =>
        obtain ⟨k, m7, x7, q7, rfl, hk, rfl, hm7, ho7, hb7⟩ := hrel
        have HO7 := Lib.hid ho7
        have HB7 := Lib.hid hb7
        clear ho7 hb7
        by_cases hlt : k < n
        · obtain ⟨b7, of7, rfl, hc7⟩ := HI1.out.row.resolve_left (by omega)
          have hit := hc7 k hlt
          have hsc := flat_succ (itB ts) l dIt k (by have := HN.out; omega)
          have hgd := HG.out _ (getD_memI (d := dIt) (l := l) (i := k) (by have := HN.out; omega))
          have hhs := HHAS.out k (by have := HN.out; omega)
          have hle := itB_length ts (l.getD k dIt) (by omega) (by have := hgd.depth; omega) hgd.few
          generalize l.getD k dIt = y at hit hsc hgd hhs hle
          have KY := Lib.hid (l6Item_any w1 _ ts hRL.out (by omega) b7 (of7 + k * 5) y hit (by have := hgd.depth; omega) hgd.few hhs _ _ _ _ _ (by omega) HB7.out HO7.out)
          unfold GrownB at KY
          generalize itB ts y = Y at KY hsc hle
          have HSC := Lib.hid hsc
          have k1 : (k : Int) < (n : Int) := by omega
          clear hc7 hit hsc hgd hhs
          go_wp2_with fail
          refine KY.out.mono ?_
          rintro e w8 ⟨a8, n8, c8, rfl, ho8, hb8⟩
          have hn8 : n8 ≤ m7 + 200 := by have h1 := owns_length ho8; have h2 := owns_length HO7.out; rw [List.length_append, ← h2] at h1; omega
          have HO8 := Lib.hid ho8
          have HB8 := Lib.hid hb8
          clear ho8 hb8
          go_wp2
          go_roundw
          case rel => exact ⟨k + 1, n8, a8, c8, by go_num, by omega, rfl, by omega, by rw [HSC.out, ← List.append_assoc]; exact HO8.out, HB8.out⟩
          case measure => simp [intOf]; omega
        · obtain rfl : k = n := by omega
          have hO := HO7.out
          rw [← HN.out, List.take_length] at hO
          have HO8 := Lib.hid hO
          clear hO
          go_wp2
          go_ret
          refine ⟨x7, m7, q7, rfl, ?_, below_then HB1.out HB7.out⟩
          have := HO8.out
          rw [HPK.out, hX.out]
          exact owns_mono this HB1.out.size
end Go.Proofs.YtbfjhjkllaceaaaGreatDoor

/- spec.l4Attrs, spec.ItemFault. -/
namespace Go.Proofs.YtbfjhjkllaceaaaGreatDoor
open Go.ChangeShapes Go.WideShapes Go.ChangeAt Go.RowKit
set_option linter.unusedVariables false

set_option maxRecDepth 100000 in
set_option maxHeartbeats 1600000 in
theorem specAttrs_any (a : Option Addr) (n c : Nat) (l : List At) (w : World) (hn : SmallAts l) (h : AtsAt w a n c l) :
    Calls Tryz.prog 93 #[.slice a n c] w fun e w' => e = .returned (.int .i64 (attrsCode l)) ∧ Below w.heap.size w w' := by
  have hm := h.max
  have HR := Lib.hid h.row
  have HL := Lib.hid h.len
  have HN := Lib.hid hn.2
  have HZ := Lib.hid h.size
  by_cases h5 : 5 < n
  · have HC := Lib.hid (attrsCode_many (l := l) (by have := h.len; omega))
    clear h hn
    generalize attrsCode l = cd at HC
    go_enter Tryz.func93, Tryz.ntmps93
    go_wp2
    go_ret
    exact ⟨ret_i HC.out.symm, Below.refl _ _⟩
  · have HC1 : Hid (∀ k, k < n → (∀ j, j < k → atFault (l.getD j dAt) = 0) → atFault (l.getD k dAt) ≠ 0 → attrsCode l = atFault (l.getD k dAt)) := Lib.hid fun k hk h0 h1 => attrsCode_at (by have := h.len; omega) (by have := h.len; omega) h0 h1
    have HC2 : Hid ((∀ j, j < n → atFault (l.getD j dAt) = 0) → attrsCode l = if rises l = true then 0 else 6) := Lib.hid fun h0 => attrsCode_end (by have := h.len; omega) (fun j hj => h0 j (by have := h.len; omega))
    clear h hn
    generalize attrsCode l = cd at HC1 HC2
    go_enter Tryz.func93, Tryz.ntmps93
    go_wp2
    go_loopw [11] (fun i wr => ∃ k : Nat, k ≤ n ∧ i = .int .i64 k ∧ (∀ j, j < k → atFault (l.getD j dAt) = 0) ∧ Below w.heap.size w wr) (fun i _ => n - (intOf i).toNat)
    case atStart => exact ⟨0, Nat.zero_le _, rfl, fun j hj => by omega, Below.refl _ _⟩
    case round =>
      obtain ⟨k, hk, rfl, hz, hb⟩ := hrel
      have HK := Lib.hid hz
      clear hz
      by_cases hlt : k < n
      · rcases HR.out with e0 | ⟨b, o, rfl, h3, h4⟩
        · omega
        have d0 := (hb.cell (p := ⟨b, o + k * 2, none⟩) h3).trans (h4 k hlt).1
        have d1 := (hb.cell (p := ⟨b, o + k * 2 + 1, none⟩) h3).trans (h4 k hlt).2
        have HX : Hid (SmallAt (l.getD k dAt)) := Lib.hid (HN.out k (by have := HL.out; omega))
        have HY : Hid (atFault (l.getD k dAt) ≠ 0 → cd = atFault (l.getD k dAt)) := Lib.hid (HC1.out k hlt HK.out)
        have HK2 : Hid (atFault (l.getD k dAt) = 0 → ∀ j, j < k + 1 → atFault (l.getD j dAt) = 0) := Lib.hid fun hx j hj => by
          rcases Nat.lt_or_ge j k with h | h
          · exact HK.out j h
          · obtain rfl : j = k := by omega
            exact hx
        have hbb := h3
        clear h4 h3
        generalize l.getD k dAt = x at d0 d1 HX HY HK2
        obtain ⟨s, t⟩ := x
        dsimp only at d0 d1
        have hsm : s.size ≤ 1048576 := HX.out.1
        have htm : t.size ≤ 1048576 := HX.out.2
        have HB := Lib.hid hb
        clear hb
        cases hkey : isKeyL s
        · have HKEY := Lib.hid hkey
          go_wp2_with fail
          refine (specIsKey_any s (by unfold maxLen; omega) _).mono ?_
          rintro e w1 ⟨rfl, rfl⟩
          go_wp2
          go_ret
          have e5 : atFault ⟨s, t⟩ = 5 := by unfold atFault; rw [show (⟨s, t⟩ : At).name = s from rfl, HKEY.out]; rfl
          exact ⟨ret_i (by rw [HY.out (by rw [e5]; decide), e5]), HB.out⟩
        · have HKEY := Lib.hid hkey
          have ef : atFault ⟨s, t⟩ = textFault t.data.toList := by unfold atFault; rw [show (⟨s, t⟩ : At).name = s from rfl, hkey]; rfl
          rw [ef] at HY HK2
          have K := Lib.hid (fun W => specTextFault_any t htm W)
          generalize textFault t.data.toList = tf at HY HK2 K
          by_cases h0 : tf = 0
          · subst h0
            have HK3 := Lib.hid (HK2.out rfl)
            clear HK2 HY ef
            go_wp2_with fail
            refine (specIsKey_any s (by unfold maxLen; omega) _).mono ?_
            rintro e w1 ⟨rfl, rfl⟩
            go_wp2_with fail
            refine (K.out _).mono ?_
            rintro e w2 ⟨rfl, hb2⟩
            go_wp2
            go_roundw
            case rel => exact ⟨k + 1, by omega, by go_num, HK3.out, below_then HB.out hb2⟩
            case measure => simp [intOf]; omega
          · have HY2 := Lib.hid (HY.out h0)
            have q1 : (tf != 0) = true := by simpa using h0
            have q2 : (tf == 0) = false := by simpa using h0
            clear HK2 HY ef h0
            go_wp2_with fail
            refine (specIsKey_any s (by unfold maxLen; omega) _).mono ?_
            rintro e w1 ⟨rfl, rfl⟩
            go_wp2_with fail
            refine (K.out _).mono ?_
            rintro e w2 ⟨rfl, hb2⟩
            go_wp2
            go_ret
            exact ⟨ret_i HY2.out.symm, below_then HB.out hb2⟩
      · obtain rfl : k = n := by omega
        have HC3 := Lib.hid (HC2.out HK.out)
        clear HC1 HC2 HK
        go_wp2
        go_loopw [5] (fun i wx => ∃ k2 : Nat, 1 ≤ k2 ∧ (k2 ≤ k ∨ k2 = 1) ∧ i = .int .i64 k2 ∧ (∀ j, 1 ≤ j → j < k2 → lessAt (l.getD (j - 1) dAt) (l.getD j dAt) = true) ∧ Below w.heap.size w wx) (fun i _ => k - (intOf i).toNat)
        case atStart => exact ⟨1, Nat.le_refl _, .inr rfl, rfl, fun j h1 h2 => by omega, hb⟩
        case round =>
          obtain ⟨k2, hk1, hk2, rfl, hz2, hb2⟩ := hrel
          have HZ2 := Lib.hid hz2
          clear hz2
          by_cases hlt2 : k2 < k
          · rcases HR.out with e0 | ⟨b, o, rfl, h3, h4⟩
            · omega
            have d0 := (hb2.cell (p := ⟨b, o + k2 * 2, none⟩) h3).trans (h4 k2 hlt2).1
            have d1 := (hb2.cell (p := ⟨b, o + (k2 - 1) * 2, none⟩) h3).trans (h4 (k2 - 1) (by omega)).1
            have HN2 : Hid (lessAt (l.getD (k2 - 1) dAt) (l.getD k2 dAt) = false → cd = 6) := Lib.hid fun e => by
              rw [HC3.out, rises_no hk1 (by have := HL.out; omega) e]; rfl
            have HY2 : Hid (lessAt (l.getD (k2 - 1) dAt) (l.getD k2 dAt) = true → ∀ j, 1 ≤ j → j < k2 + 1 → lessAt (l.getD (j - 1) dAt) (l.getD j dAt) = true) := Lib.hid fun e j h1 h2 => by
              rcases Nat.lt_or_ge j k2 with h | h
              · exact HZ2.out j h1 h
              · obtain rfl : j = k2 := by omega
                exact e
            have q0 : (k2 : Int) < (k : Int) := by omega
            have q1 : (0 : Int) ≤ (k2 : Int) - 1 := by omega
            have q2 : (1 : Int) ≤ (k2 : Int) := by omega
            have q3 : (k2 : Int) - 1 < (k : Int) := by omega
            clear h4 h3
            generalize l.getD k2 dAt = x at d0 HN2 HY2
            generalize l.getD (k2 - 1) dAt = y at d1 HN2 HY2
            obtain ⟨s, t⟩ := x
            obtain ⟨s2, t2⟩ := y
            unfold lessAt at HN2 HY2
            dsimp only at d0 d1 HN2 HY2
            have HB2 := Lib.hid hb2
            clear hb2
            cases hless : Op.bytesLess s2.toList s.toList
            · have HF := Lib.hid (HN2.out hless)
              clear HN2 HY2
              rcases less_no hless with g1 | ⟨g1, g2⟩
              all_goals
                go_wp2_with fail
                go_quiet (fail)
                go_wp2
                go_ret
                exact ⟨ret_i HF.out.symm, below_drewN HB2.out _⟩
            · have HF := Lib.hid (HY2.out hless)
              clear HN2 HY2
              obtain ⟨g1, g2⟩ := less_yes hless
              go_wp2_with fail
              go_quiet (fail)
              go_wp2
              go_roundw
              case rel => exact ⟨k2 + 1, by omega, .inl (by omega), by go_num, HF.out, below_drewN HB2.out _⟩
              case measure => simp [intOf]; omega
          · have HF : Hid (cd = 0) := Lib.hid (by
              rw [HC3.out, rises_yes fun i h1 h2 => HZ2.out i h1 (by have := HL.out; omega)]; rfl)
            go_wp2
            go_ret
            exact ⟨ret_i HF.out.symm, hb2⟩
end Go.Proofs.YtbfjhjkllaceaaaGreatDoor

/- spec.ItemFault. -/
namespace Go.Proofs.YtbfjhjkllaceaaaGreatDoor
open Go.ChangeShapes Go.WideShapes Go.ChangeAt Go.RowKit
set_option linter.unusedVariables false

theorem inB_yes {d : Int} (h : ¬ (d < 0 ∨ 6 < d)) : inB d 0 6 = true := by unfold inB; rw [decide_eq_true_iff]; omega
theorem inB_no {d : Int} (h : d < 0 ∨ 6 < d) : inB d 0 6 = false := by unfold inB; rw [decide_eq_false_iff_not]; omega

set_option maxRecDepth 100000 in
set_option maxHeartbeats 1600000 in
theorem specItemFault_any (x : It) (a : Option Addr) (n c : Nat) (w : World) (hs : SmallIt x) (h : AtsAt w a n c x.attrs) :
    Calls Tryz.prog 66 #[.agg #[.int .i64 x.depth, .string x.text, .string x.space, .string x.name, .slice a n c]] w fun e w' => e = .returned (.int .i64 (itemCode x)) ∧ Below w.heap.size w w' := by
  have HA := Lib.hid h
  have hm := h.max
  have HL := Lib.hid h.len
  have KA := Lib.hid (fun W (hb : Below w.heap.size w W) => specAttrs_any a n c x.attrs W hs.2 (h.below hb))
  have KT := Lib.hid (fun W => specTextFault_any x.text hs.1.1 W)
  have KS := Lib.hid (fun W => specTextFault_any x.space hs.1.2.1 W)
  have KN := Lib.hid (fun W => specIsName_any x.name (by unfold maxLen; have := hs.1.2.2; omega) W)
  obtain ⟨cd, hcd⟩ : ∃ cd, itemCode x = cd := ⟨_, rfl⟩
  rw [hcd]
  unfold itemCode textCode elemCode at hcd
  clear h hs
  obtain ⟨d, s, t, u, l⟩ := x
  dsimp only at HA HL KA KT KS KN hcd ⊢
  by_cases hd : d < 0 ∨ 6 < d
  · rw [if_pos hd] at hcd
    have hin := inB_no hd
    have HC := Lib.hid hcd
    clear hcd hd
    go_enter Tryz.func66, Tryz.ntmps66
    go_wp2_with fail
    refine (l1In_any d 0 6 _).mono ?_
    rintro e w1 ⟨rfl, rfl⟩
    go_wp2
    go_ret
    exact ⟨ret_i HC.out, below1 _ _⟩
  rw [if_neg hd] at hcd
  have hin := inB_yes hd
  clear hd
  cases hu : u.toList.isEmpty
  · rw [hu, if_neg (by decide)] at hcd
    cases hs : s.toList.isEmpty
    · rw [hs, if_pos rfl] at hcd
      have HC := Lib.hid hcd
      clear hcd
      go_enter Tryz.func66, Tryz.ntmps66
      go_wp2_with fail
      refine (l1In_any d 0 6 _).mono ?_
      rintro e w1 ⟨rfl, rfl⟩
      go_wp2
      go_ret
      exact ⟨ret_i HC.out, below1 _ _⟩
    rw [hs, if_neg (by decide)] at hcd
    cases hn : isNameL u.data.toList
    · rw [hn, if_pos rfl] at hcd
      have HC := Lib.hid hcd
      have HN := Lib.hid hn
      clear hcd
      go_enter Tryz.func66, Tryz.ntmps66
      go_wp2_with fail
      refine (l1In_any d 0 6 _).mono ?_
      rintro e w1 ⟨rfl, rfl⟩
      go_wp2_with fail
      refine (KN.out _).mono ?_
      rintro e w1 ⟨rfl, rfl⟩
      go_wp2
      go_ret
      exact ⟨ret_i HC.out, below1 _ _⟩
    rw [hn, if_neg (by decide)] at hcd
    by_cases h0 : textFault t.data.toList = 0
    · rw [if_pos h0] at hcd
      rw [h0] at KS
      rw [hcd] at KA
      clear hcd h0
      go_enter Tryz.func66, Tryz.ntmps66
      go_wp2_with fail
      refine (l1In_any d 0 6 _).mono ?_
      rintro e w1 ⟨rfl, rfl⟩
      go_wp2_with fail
      refine (KN.out _).mono ?_
      rintro e w1 ⟨rfl, rfl⟩
      go_wp2_with fail
      refine (KS.out _).mono ?_
      rintro e w1 ⟨rfl, hb1⟩
      obtain ⟨hc, hf⟩ := bcell hb1
      have hz := hb1.size
      simp at hz
      have HB1 := Lib.hid hb1
      clear hb1
      go_wp2_with fail
      refine (KA.out _ (below_then (below1 _ _) HB1.out)).mono ?_
      rintro e w2 ⟨rfl, hb2⟩
      go_wp2
      go_ret
      exact ⟨rfl, below_then (below_then (below1 _ _) HB1.out) hb2⟩
    · rw [if_neg h0] at hcd
      rw [hcd] at KS h0
      have q1 : (cd != 0) = true := by simpa using h0
      have q2 : (cd == 0) = false := by simpa using h0
      clear hcd h0
      go_enter Tryz.func66, Tryz.ntmps66
      go_wp2_with fail
      refine (l1In_any d 0 6 _).mono ?_
      rintro e w1 ⟨rfl, rfl⟩
      go_wp2_with fail
      refine (KN.out _).mono ?_
      rintro e w1 ⟨rfl, rfl⟩
      go_wp2_with fail
      refine (KS.out _).mono ?_
      rintro e w1 ⟨rfl, hb1⟩
      go_wp2
      go_ret
      exact ⟨rfl, below_then (below1 _ _) hb1⟩
  · rw [hu, if_pos rfl] at hcd
    by_cases hbad : t.toList.isEmpty = false ∨ 0 < l.length ∨ s.toList.isEmpty = true
    · rw [if_pos hbad] at hcd
      have HC := Lib.hid hcd
      clear hcd
      cases ht : t.toList.isEmpty
      · clear hbad
        go_enter Tryz.func66, Tryz.ntmps66
        go_wp2_with fail
        refine (l1In_any d 0 6 _).mono ?_
        rintro e w1 ⟨rfl, rfl⟩
        go_wp2
        go_ret
        exact ⟨ret_i HC.out, below1 _ _⟩
      · by_cases hl : 0 < l.length
        · have hn0 : 0 < n := by have := HL.out; omega
          have q1 : ((n : Int) != 0) = true := by rw [bne_iff_ne]; omega
          have q2 : ((n : Int) == 0) = false := by rw [beq_eq_false_iff_ne]; omega
          clear hbad hl hn0
          go_enter Tryz.func66, Tryz.ntmps66
          go_wp2_with fail
          refine (l1In_any d 0 6 _).mono ?_
          rintro e w1 ⟨rfl, rfl⟩
          go_wp2
          go_ret
          exact ⟨ret_i HC.out, below1 _ _⟩
        · have hs : s.toList.isEmpty = true := by
            rcases hbad with h | h | h
            · rw [ht] at h; cases h
            · exact absurd h hl
            · exact h
          obtain rfl : n = 0 := by have := HL.out; omega
          clear hbad hl
          go_enter Tryz.func66, Tryz.ntmps66
          go_wp2_with fail
          refine (l1In_any d 0 6 _).mono ?_
          rintro e w1 ⟨rfl, rfl⟩
          go_wp2
          go_ret
          exact ⟨ret_i HC.out, below1 _ _⟩
    · rw [if_neg hbad] at hcd
      have ht : t.toList.isEmpty = true := by
        cases hq : t.toList.isEmpty
        · exact absurd (.inl hq) hbad
        · rfl
      obtain rfl : n = 0 := by
        have := HL.out
        rcases Nat.eq_zero_or_pos n with h | h
        · exact h
        · exact absurd (.inr (.inl (by omega))) hbad
      have hs : s.toList.isEmpty = false := by
        cases hq : s.toList.isEmpty
        · rfl
        · exact absurd (.inr (.inr hq)) hbad
      rw [hcd] at KT
      clear hcd hbad
      go_enter Tryz.func66, Tryz.ntmps66
      go_wp2_with fail
      refine (l1In_any d 0 6 _).mono ?_
      rintro e w1 ⟨rfl, rfl⟩
      go_wp2_with fail
      refine (KT.out _).mono ?_
      rintro e w1 ⟨rfl, hb1⟩
      go_wp2
      go_ret
      exact ⟨rfl, below_then (below1 _ _) hb1⟩
end Go.Proofs.YtbfjhjkllaceaaaGreatDoor

/- spec.l4Shape. -/
namespace Go.Proofs.YtbfjhjkllaceaaaGreatDoor
open Go.ChangeShapes Go.WideShapes Go.ChangeAt Go.RowKit
set_option linter.unusedVariables false

set_option maxRecDepth 100000 in
set_option maxHeartbeats 6400000 in
theorem specShape_any (a : Option Addr) (n c : Nat) (l : List It) (w : World) (h1 : 1 ≤ n) (h40 : n ≤ 40) (hd : ∀ i, i < n → 0 ≤ (l.getD i dIt).depth ∧ (l.getD i dIt).depth ≤ 6) (h : ItsAt w a n c l) :
    Calls Tryz.prog 67 #[.slice a n c] w fun e w' => e = .returned (.bool (stands l)) ∧ ∃ n, w' = w.drewN n := by
  have HL := Lib.hid h.len
  have HD := Lib.hid hd
  obtain ⟨b, o, rfl, h4⟩ : ∃ b o, a = some ⟨b, o, none⟩ ∧ ∀ i, i < n → ItAt w b (o + i * 5) (l.getD i dIt) := by
    rcases h.row with e | h
    · omega
    · exact h
  have H4 := Lib.hid h4
  have HNO : Hid (¬ ((l.getD 0 dIt).depth = 0 ∧ (l.getD 0 dIt).name.toList.isEmpty = false) → stands l = false) := Lib.hid stands_first
  have HNO2 : Hid (∀ i, 1 ≤ i → i < n → mayStand (l.getD (i - 1) dIt) (l.getD i dIt) = false → stands l = false) := Lib.hid fun i h1 h2 h3 => stands_no h1 (by have := h.len; omega) h3
  have HYES : Hid ((l.getD 0 dIt).depth = 0 → (l.getD 0 dIt).name.toList.isEmpty = false → (∀ i, 1 ≤ i → i < n → mayStand (l.getD (i - 1) dIt) (l.getD i dIt) = true) → stands l = true) := Lib.hid fun g0 g1 g2 => stands_yes g0 g1 fun i h1 h2 => g2 i h1 (by have := h.len; omega)
  clear h h4 hd
  generalize stands l = st at HNO HNO2 HYES
  have hi := H4.out 0 (by omega)
  have d0 : w.cell? ⟨b, o, none⟩ = some (.int .i64 (l.getD 0 dIt).depth) := by have := hi.c0; simpa using this
  have d3 : w.cell? ⟨b, o + 3, none⟩ = some (.string (l.getD 0 dIt).name) := by have := hi.c3; simpa using this
  clear hi
  have k0 : (0 : Int) < (n : Int) := by omega
  generalize l.getD 0 dIt = x at d0 d3 HNO HYES
  obtain ⟨xd, xt, xs, xn, xa⟩ := x
  dsimp only at d0 d3 HNO HYES
  by_cases hx0 : xd = 0
  · subst hx0
    cases hx3 : xn.toList.isEmpty
    · have HY2 := Lib.hid (HYES.out rfl hx3)
      clear HNO HYES
      go_enter Tryz.func67, Tryz.ntmps67
      go_wp2
      clear d0 d3 hx3
      go_loopw [3] (fun i wr => ∃ k : Nat, 1 ≤ k ∧ k ≤ n ∧ i = .int .i64 k ∧ (∀ j, 1 ≤ j → j < k → mayStand (l.getD (j - 1) dIt) (l.getD j dIt) = true) ∧ ∃ nd, wr = w.drewN nd) (fun i _ => n - (intOf i).toNat)
      case atStart => exact ⟨1, Nat.le_refl _, by omega, rfl, fun j h1 h2 => by omega, 0, rfl⟩
      case round =>
        obtain ⟨k, hk1, hk, rfl, hz, hw⟩ := hrel
        have HW := Lib.hid hw
        have HZ := Lib.hid hz
        clear hz hw
        by_cases hlt : k < n
        · have hbw : Below w.heap.size w wr := by obtain ⟨nd, rfl⟩ := HW.out; exact below_drewN (Below.refl _ _) nd
          have hi := (H4.out k hlt).below hbw
          have hj := (H4.out (k - 1) (by omega)).below hbw
          have d0 := hi.c0
          have d3 := hi.c3
          have e0 := hj.c0
          have e3 := hj.c3
          have hdx := HD.out k hlt
          have hdp := HD.out (k - 1) (by omega)
          clear hi hj hbw
          have HN2 : Hid (mayStand (l.getD (k - 1) dIt) (l.getD k dIt) = false → st = false) := Lib.hid (HNO2.out k hk1 hlt)
          have HY3 : Hid (mayStand (l.getD (k - 1) dIt) (l.getD k dIt) = true → ∀ j, 1 ≤ j → j < k + 1 → mayStand (l.getD (j - 1) dIt) (l.getD j dIt) = true) := Lib.hid fun e j h1 h2 => by
            rcases Nat.lt_or_ge j k with h | h
            · exact HZ.out j h1 h
            · obtain rfl : j = k := by omega
              exact e
          have q5 : (0 : Int) ≤ (k : Int) - 1 := by omega
          have q6 : (1 : Int) ≤ (k : Int) := by omega
          have q7 : (k : Int) - 1 < (n : Int) := by omega
          have q8 : (k : Int) < (n : Int) := by omega
          generalize l.getD k dIt = x at d0 d3 hdx HN2 HY3
          generalize l.getD (k - 1) dIt = p at e0 e3 hdp HN2 HY3
          obtain ⟨xd, xt, xs, xn, xa⟩ := x
          obtain ⟨pd, pt, ps, pn, pa⟩ := p
          unfold mayStand at HN2 HY3
          dsimp only at d0 d3 e0 e3 hdx hdp HN2 HY3
          have hw1 : IntKind.i64.wrap (pd + 1) = pd + 1 := IntWalk.i64_in _ (by omega)
          have hw2 : wrap64 (pd + 1) = pd + 1 := IntWalk.wrap64_in _ (by omega)
          obtain ⟨xe, hxe⟩ : ∃ xe, xn.toList.isEmpty = xe := ⟨_, rfl⟩
          obtain ⟨pe, hpe⟩ : ∃ pe, pn.toList.isEmpty = pe := ⟨_, rfl⟩
          rw [hxe, hpe] at HN2 HY3
          cases hst : standB xd pd xe pe
          · have HF := Lib.hid (HN2.out hst)
            rcases stand_no hst with g0 | ⟨g0, g1⟩ | ⟨g0, g1, g2, rfl⟩ | ⟨g0, g1, g2, rfl, rfl, g3⟩
            all_goals
              clear HN2 HY3 hst
              go_wp2_with fail
              go_quiet (fail)
              go_wp2
              go_ret
              exact ⟨ret_bool HF.out.symm, drew_more HW.out _⟩
          · have HF := Lib.hid (HY3.out hst)
            rcases stand_yes hst with ⟨g0, g1, g2, rfl, rfl⟩ | ⟨g0, g1, g2, rfl, rfl⟩ | ⟨g0, g1, g2, rfl⟩ | ⟨g0, g1, g2, rfl, rfl⟩ | ⟨g0, g1, g2, rfl, rfl, g3⟩
            all_goals
              clear HN2 HY3 hst
              go_wp2_with fail
              go_quiet (fail)
              go_wp2
              go_roundw
              case rel => exact ⟨k + 1, by omega, by omega, by go_num, HF.out, drew_more HW.out _⟩
              case measure => simp [intOf]; omega
        · have HF : st = true := HY2.out fun i h1 h2 => HZ.out i h1 (by omega)
          go_wp2
          go_ret
          exact ⟨ret_bool HF.symm, HW.out⟩
    · have HF := Lib.hid (HNO.out (fun e => by have := e.2; rw [hx3] at this; cases this))
      go_enter Tryz.func67, Tryz.ntmps67
      go_wp2
      go_ret
      exact ⟨ret_bool HF.out.symm, 0, rfl⟩
  · have HF := Lib.hid (HNO.out (fun e => hx0 e.1))
    have q1 : (xd != 0) = true := by simpa using hx0
    have q2 : (xd == 0) = false := by simpa using hx0
    clear hx0
    go_enter Tryz.func67, Tryz.ntmps67
    go_wp2
    go_ret
    exact ⟨ret_bool HF.out.symm, 0, rfl⟩
end Go.Proofs.YtbfjhjkllaceaaaGreatDoor

/- spec.TreeFault. -/
namespace Go.Proofs.YtbfjhjkllaceaaaGreatDoor
open Go.ChangeShapes Go.WideShapes Go.ChangeAt Go.RowKit
set_option linter.unusedVariables false

set_option maxRecDepth 100000 in
set_option maxHeartbeats 3200000 in
theorem specTreeFault_any (a : Option Addr) (n c : Nat) (l : List It) (w : World) (hs : SmallIts l) (h : ItsAt w a n c l) :
    Calls Tryz.prog 38 #[.slice a n c] w fun e w' => e = .returned (.int .i64 (treeCode l)) ∧ Below w.heap.size w w' := by
  have hm := h.max
  have HL := Lib.hid h.len
  have H := Lib.hid h
  have HS := Lib.hid hs.2
  clear hs
  by_cases hn : n < 1 ∨ 40 < n
  · have HC := Lib.hid (treeCode_many (l := l) (by have := h.len; omega))
    clear h
    generalize treeCode l = cd at HC
    rcases hn with hn | hn
    · obtain rfl : n = 0 := by omega
      go_enter Tryz.func38, Tryz.ntmps38
      go_wp2
      go_ret
      exact ⟨ret_i HC.out.symm, Below.refl _ _⟩
    · go_enter Tryz.func38, Tryz.ntmps38
      go_wp2
      go_ret
      exact ⟨ret_i HC.out.symm, Below.refl _ _⟩
  · have h1 : 1 ≤ n := by omega
    have h40 : n ≤ 40 := by omega
    have HC1 : Hid (∀ k, k < n → (∀ j, j < k → itemCode (l.getD j dIt) = 0) → itemCode (l.getD k dIt) ≠ 0 → treeCode l = itemCode (l.getD k dIt)) := Lib.hid fun k hk h0 h1 => treeCode_at (by have := h.len; omega) (by have := h.len; omega) h0 h1
    have HC2 : Hid ((∀ j, j < n → itemCode (l.getD j dIt) = 0) → treeCode l = if stands l = true then 0 else 1) := Lib.hid fun h0 => treeCode_end (by have := h.len; omega) (fun j hj => h0 j (by have := h.len; omega))
    obtain ⟨b, o, rfl, h4⟩ : ∃ b o, a = some ⟨b, o, none⟩ ∧ ∀ i, i < n → ItAt w b (o + i * 5) (l.getD i dIt) := by
      rcases h.row with e | h
      · omega
      · exact h
    have H4 := Lib.hid h4
    clear h hn h4
    generalize treeCode l = cd at HC1 HC2
    go_enter Tryz.func38, Tryz.ntmps38
    go_wp2
    go_loopw [15] (fun i wr => ∃ k : Nat, k ≤ n ∧ i = .int .i64 k ∧ (∀ j, j < k → itemCode (l.getD j dIt) = 0) ∧ Below w.heap.size w wr) (fun i _ => n - (intOf i).toNat)
    case atStart => exact ⟨0, Nat.zero_le _, rfl, fun j hj => by omega, Below.refl _ _⟩
    case round =>
      obtain ⟨k, hk, rfl, hz, hb⟩ := hrel
      have HK := Lib.hid hz
      clear hz
      by_cases hlt : k < n
      · have hi := (H4.out k hlt).below hb
        have d0 := hi.c0
        have d1 := hi.c1
        have d2 := hi.c2
        have d3 := hi.c3
        obtain ⟨a4, n4, c4, d4, hat⟩ := hi.c4
        have k1 : (k : Int) < (n : Int) := by omega
        have K := Lib.hid (fun W (hb' : Below wr.heap.size wr W) => specItemFault_any (l.getD k dIt) a4 n4 c4 W (HS.out k (by have := HL.out; omega)) (hat.below hb'))
        have HY : Hid (itemCode (l.getD k dIt) ≠ 0 → cd = itemCode (l.getD k dIt)) := Lib.hid (HC1.out k hlt HK.out)
        have HK2 : Hid (itemCode (l.getD k dIt) = 0 → ∀ j, j < k + 1 → itemCode (l.getD j dIt) = 0) := Lib.hid fun hx j hj => by
          rcases Nat.lt_or_ge j k with h | h
          · exact HK.out j h
          · obtain rfl : j = k := by omega
            exact hx
        have HB := Lib.hid hb
        clear hi hat hb
        generalize itemCode (l.getD k dIt) = ic at K HY HK2
        generalize l.getD k dIt = x at d0 d1 d2 d3 K
        obtain ⟨xd, xt, xs, xn, xa⟩ := x
        dsimp only at d0 d1 d2 d3 K
        by_cases h0 : ic = 0
        · subst h0
          have HK3 := Lib.hid (HK2.out rfl)
          clear HK2 HY
          go_wp2_with fail
          refine (K.out _ (Below.refl _ _)).mono ?_
          rintro e w2 ⟨rfl, hb2⟩
          go_wp2
          go_roundw
          case rel => exact ⟨k + 1, by omega, by go_num, HK3.out, below_then HB.out hb2⟩
          case measure => simp [intOf]; omega
        · have HY2 := Lib.hid (HY.out h0)
          have q1 : (ic != 0) = true := by simpa using h0
          have q2 : (ic == 0) = false := by simpa using h0
          clear HK2 HY h0
          go_wp2_with fail
          refine (K.out _ (Below.refl _ _)).mono ?_
          rintro e w2 ⟨rfl, hb2⟩
          go_wp2
          go_ret
          exact ⟨ret_i HY2.out.symm, below_then HB.out hb2⟩
      · obtain rfl : k = n := by omega
        have K := Lib.hid (specShape_any (some ⟨b, o, none⟩) k c l wr h1 h40 (fun i hi => item_depth (HK.out i hi)) (H.out.below hb))
        have HC3 := Lib.hid (HC2.out HK.out)
        generalize stands l = st at K HC3
        clear HC1 HC2
        cases st
        all_goals
          go_wp2_with fail
          refine K.out.mono ?_
          rintro e w2 ⟨rfl, nd, rfl⟩
          go_wp2
          go_ret
          exact ⟨ret_i HC3.out.symm, below_drewN hb nd⟩
end Go.Proofs.YtbfjhjkllaceaaaGreatDoor
