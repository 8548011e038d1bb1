/- Plain words on texts in their order, and what a heap of them says. -/
import Derived.Test.YtcaknhoaoodbfaaGreatDoorGC0
import Derived.Sort.Walk0
import Derived.Test.YtcaknhoaoodbfaaGreatDoorGC8
import Derived.Lib.IndexMore
namespace Go.Proofs.YtcaknhoaoodbfaaGreatDoor
set_option linter.unusedVariables false

/-- a is not behind b -/
def leT (a b : ByteArray) : Prop := Op.bytesLess b.toList a.toList = false
theorem leT_iff {a b : ByteArray} : leT a b ↔ a.data.toList ≤ b.data.toList := by
  unfold leT
  rw [bytesLess_eq, Lib.toList_data, Lib.toList_data, decide_eq_false_iff_not]
  exact List.not_lt
theorem leT_refl (a : ByteArray) : leT a a := leT_iff.2 (List.le_refl _)
theorem leT_trans {a b c : ByteArray} (h : leT a b) (k : leT b c) : leT a c := leT_iff.2 (List.le_trans (leT_iff.1 h) (leT_iff.1 k))
theorem leT_total (a b : ByteArray) : leT a b ∨ leT b a := (List.le_total a.data.toList b.data.toList).imp leT_iff.2 leT_iff.2
theorem leT_antisymm {a b : ByteArray} (h : leT a b) (k : leT b a) : a = b := by
  have := List.le_antisymm (leT_iff.1 h) (leT_iff.1 k)
  cases a; cases b
  simp only [ByteArray.mk.injEq] at this ⊢
  exact Array.toList_inj.1 this
theorem leT_of_less {a b : ByteArray} (h : Op.bytesLess a.toList b.toList = true) : leT a b := by
  rcases leT_total a b with k | k
  · exact k
  · unfold leT at k
    rw [h] at k
    cases k

/-- ts are xs in their order -/
def Sorts (xs ts : List ByteArray) : Prop := ts.Perm xs ∧ ts.Pairwise leT
theorem sorted_unique : ∀ {l m : List ByteArray}, l.Perm m → l.Pairwise leT → m.Pairwise leT → l = m
  | [], m, h, _, _ => (List.Perm.eq_nil (h.symm)).symm
  | a :: l, [], h, _, _ => by simpa using h.length_eq
  | a :: l, b :: m, h, h1, h2 => by
    rw [List.pairwise_cons] at h1 h2
    have e : a = b := by
      have ha : a ∈ b :: m := h.subset (List.mem_cons_self)
      have hb : b ∈ a :: l := h.symm.subset (List.mem_cons_self)
      rcases List.mem_cons.1 ha with e | ha
      · exact e
      rcases List.mem_cons.1 hb with e | hb
      · exact e.symm
      exact leT_antisymm (h1.1 b hb) (h2.1 a ha)
    subst e
    rw [sorted_unique (List.Perm.cons_inv h) h1.2 h2.2]
theorem Sorts.unique {xs ys ts us : List ByteArray} (h : Sorts xs ts) (k : Sorts ys us) (e : xs.Perm ys) : ts = us :=
  sorted_unique (h.1.trans (e.trans k.1.symm)) h.2 k.2

def insT (x : ByteArray) : List ByteArray → List ByteArray
  | [] => [x]
  | y :: l => if Op.bytesLess x.toList y.toList = true then x :: y :: l else y :: insT x l
theorem insT_perm (x : ByteArray) : ∀ l, (insT x l).Perm (x :: l)
  | [] => List.Perm.refl _
  | y :: l => by
    unfold insT
    split
    · exact List.Perm.refl _
    · exact ((insT_perm x l).cons y).trans (List.Perm.swap x y l)
theorem insT_pairwise (x : ByteArray) : ∀ {l : List ByteArray}, l.Pairwise leT → (insT x l).Pairwise leT
  | [], _ => List.pairwise_singleton _ _
  | y :: l, h => by
    unfold insT
    have h' := List.pairwise_cons.1 h
    split
    · rename_i hxy
      refine List.pairwise_cons.2 ⟨fun z hz => ?_, h⟩
      rcases List.mem_cons.1 hz with rfl | hz
      · exact leT_of_less hxy
      · exact leT_trans (leT_of_less hxy) (h'.1 z hz)
    · rename_i hxy
      refine List.pairwise_cons.2 ⟨fun z hz => ?_, insT_pairwise x h'.2⟩
      rcases List.mem_cons.1 ((insT_perm x l).subset hz) with rfl | hz
      · unfold leT
        simpa using hxy
      · exact h'.1 z hz
/-- the texts in their order -/
def sortT : List ByteArray → List ByteArray
  | [] => []
  | x :: l => insT x (sortT l)
theorem sortT_perm : ∀ l, (sortT l).Perm l
  | [] => List.Perm.refl _
  | x :: l => (insT_perm x _).trans ((sortT_perm l).cons x)
theorem sortT_pairwise : ∀ l, (sortT l).Pairwise leT
  | [] => List.Pairwise.nil
  | x :: l => insT_pairwise x (sortT_pairwise l)
theorem sortT_is {xs ts : List ByteArray} (h : Sorts xs ts) : ts = sortT xs := h.unique ⟨sortT_perm xs, sortT_pairwise xs⟩ (List.Perm.refl _)
theorem sortT_eq {xs ys : List ByteArray} (h : xs.Perm ys) : sortT xs = sortT ys := Sorts.unique ⟨sortT_perm xs, sortT_pairwise xs⟩ ⟨sortT_perm ys, sortT_pairwise ys⟩ h

/-! Heaps: places of a row of texts, told by a function. -/
abbrev ix (l : List ByteArray) (i : Nat) : ByteArray := l.getD i ByteArray.empty
/-- none is behind one below it, but perhaps that at a place, which may be ahead of the one above it -/
def UpAt (l : List ByteArray) (p : Nat) : Prop :=
  (∀ i, 0 < i → i < l.length → i ≠ p → leT (ix l ((i - 1) / 2)) (ix l i)) ∧
  (∀ i, 0 < i → i < l.length → (i - 1) / 2 = p → 0 < p → leT (ix l ((p - 1) / 2)) (ix l i))
/-- none is behind one below it, but perhaps that at a place behind those below it -/
def DownAt (l : List ByteArray) (p : Nat) : Prop :=
  (∀ i, 0 < i → i < l.length → (i - 1) / 2 ≠ p → leT (ix l ((i - 1) / 2)) (ix l i)) ∧
  (∀ i, 0 < i → i < l.length → (i - 1) / 2 = p → 0 < p → leT (ix l ((p - 1) / 2)) (ix l i))
def IsHeap (l : List ByteArray) : Prop := ∀ i, 0 < i → i < l.length → leT (ix l ((i - 1) / 2)) (ix l i)
/-- two places changed for one another -/
def sw (l : List ByteArray) (a b : Nat) : List ByteArray := (l.set a (ix l b)).set b (ix l a)
theorem sw_length (l : List ByteArray) (a b : Nat) : (sw l a b).length = l.length := by simp [sw]
theorem ix_set (l : List ByteArray) (a : Nat) (v : ByteArray) (i : Nat) (ha : a < l.length) : ix (l.set a v) i = if i = a then v else ix l i := by
  unfold ix
  rw [List.getD_eq_getElem?_getD, List.getD_eq_getElem?_getD, List.getElem?_set]
  by_cases h : i = a
  · subst h
    simp [ha]
  · rw [if_neg (fun e => h e.symm), if_neg h]
theorem sw_ix (l : List ByteArray) (a b i : Nat) (ha : a < l.length) (hb : b < l.length) : ix (sw l a b) i = if i = b then ix l a else if i = a then ix l b else ix l i := by
  unfold sw
  rw [ix_set _ _ _ _ (by simpa using hb), ix_set _ _ _ _ ha]
theorem sw_perm (l : List ByteArray) (a b : Nat) (ha : a < l.length) (hb : b < l.length) : (sw l a b).Perm l := by
  unfold sw ix
  rw [List.getD_eq_getElem?_getD, List.getD_eq_getElem?_getD, List.getElem?_eq_getElem ha, List.getElem?_eq_getElem hb]
  simp only [Option.getD_some]
  exact List.set_set_perm ha hb
theorem up_swap {l : List ByteArray} {p : Nat} (hp : 0 < p) (hl : p < l.length) (h : UpAt l p) (hless : leT (ix l p) (ix l ((p - 1) / 2))) : UpAt (sw l p ((p - 1) / 2)) ((p - 1) / 2) := by
  obtain ⟨h1, h2⟩ := h
  have hq : (p - 1) / 2 < p := by omega
  generalize hqq : (p - 1) / 2 = q at *
  refine ⟨fun i hi hil hne => ?_, fun i hi hil hpi hq0 => ?_⟩
  · rw [sw_length] at hil
    rw [sw_ix _ _ _ _ hl (by omega), sw_ix _ _ _ _ hl (by omega), if_neg hne]
    by_cases e : i = p
    · subst e
      rw [hqq, if_pos rfl, if_pos rfl]
      exact hless
    · rw [if_neg e]
      by_cases e1 : (i - 1) / 2 = q
      · rw [if_pos e1]
        have := h1 i hi hil e
        rw [e1] at this
        exact leT_trans hless this
      · rw [if_neg e1]
        by_cases e2 : (i - 1) / 2 = p
        · rw [if_pos e2]
          exact h2 i hi hil e2 hp
        · rw [if_neg e2]
          exact h1 i hi hil e
  · rw [sw_length] at hil
    have hqs : (q - 1) / 2 < q := by omega
    rw [sw_ix _ _ _ _ hl (by omega), sw_ix _ _ _ _ hl (by omega), if_neg (by omega), if_neg (by omega), if_neg (by omega)]
    have hqq2 := h1 q hq0 (by omega) (by omega)
    by_cases e : i = p
    · rw [if_pos e]
      exact hqq2
    · rw [if_neg e]
      have := h1 i hi hil e
      rw [hpi] at this
      exact leT_trans hqq2 this
theorem up_done {l : List ByteArray} {p : Nat} (h : UpAt l p) (h0 : p = 0 ∨ leT (ix l ((p - 1) / 2)) (ix l p)) : IsHeap l := by
  intro i hi hil
  by_cases e : i = p
  · subst e
    rcases h0 with h0 | h0
    · omega
    · exact h0
  · exact h.1 i hi hil e
theorem up_snoc {l : List ByteArray} (h : IsHeap l) (x : ByteArray) : UpAt (l ++ [x]) l.length := by
  refine ⟨fun i hi hil hne => ?_, fun i hi hil hp h0 => ?_⟩
  · rw [List.length_append] at hil
    simp only [List.length_cons, List.length_nil] at hil
    have e : ∀ j, j < l.length → ix (l ++ [x]) j = ix l j := fun j hj => by
      unfold ix
      rw [List.getD_eq_getElem?_getD, List.getD_eq_getElem?_getD, List.getElem?_append_left hj]
    rw [e _ (by omega), e _ (by omega)]
    exact h i hi (by omega)
  · rw [List.length_append] at hil
    simp only [List.length_cons, List.length_nil] at hil
    omega
theorem down_swap {l : List ByteArray} {p m : Nat} (hl : p < l.length) (hm : m < l.length) (h : DownAt l p) (hpm : m = 2 * p + 1 ∨ m = 2 * p + 2)
    (hle : ∀ j, (j = p ∨ j = 2 * p + 1 ∨ j = 2 * p + 2) → j < l.length → leT (ix l m) (ix l j)) : DownAt (sw l p m) m := by
  obtain ⟨h1, h2⟩ := h
  have hpar : (m - 1) / 2 = p := by omega
  refine ⟨fun i hi hil hne => ?_, fun i hi hil hpi h0 => ?_⟩
  · rw [sw_length] at hil
    rw [sw_ix _ _ _ _ hl hm, sw_ix _ _ _ _ hl hm, if_neg hne]
    by_cases e1 : (i - 1) / 2 = p
    · rw [if_pos e1]
      by_cases e : i = m
      · rw [if_pos e]
        exact hle p (.inl rfl) hl
      · rw [if_neg e, if_neg (by omega)]
        exact hle i (by omega) hil
    · rw [if_neg e1, if_neg (by rintro rfl; exact e1 hpar)]
      by_cases e : i = p
      · subst e
        rw [if_pos rfl]
        exact h2 m (by omega) hm hpar (by omega)
      · rw [if_neg e]
        exact h1 i hi hil e1
  · rw [sw_length] at hil
    have hq : (m - 1) / 2 = p := hpar
    rw [hq, sw_ix _ _ _ _ hl hm, sw_ix _ _ _ _ hl hm, if_neg (by omega), if_pos rfl, if_neg (by omega), if_neg (by omega)]
    have := h1 i hi hil (by omega)
    rw [hpi] at this
    exact this
theorem down_done {l : List ByteArray} {p : Nat} (h : DownAt l p) (hle : ∀ j, (j = 2 * p + 1 ∨ j = 2 * p + 2) → j < l.length → leT (ix l p) (ix l j)) : IsHeap l := by
  intro i hi hil
  by_cases e : (i - 1) / 2 = p
  · rw [e]
    exact hle i (by omega) hil
  · exact h.1 i hi hil e
theorem heap_least {l : List ByteArray} (h : IsHeap l) : ∀ i, i < l.length → leT (ix l 0) (ix l i) := by
  intro i
  induction i using Nat.strongRecOn with
  | ind i ih =>
    intro hi
    by_cases h0 : i = 0
    · subst h0; exact leT_refl _
    · exact leT_trans (ih ((i - 1) / 2) (by omega) (by omega)) (h i (by omega) hi)
/-- the last one laid at the front, and taken off the end -/
def tk (l : List ByteArray) : List ByteArray := (l.set 0 (ix l (l.length - 1))).take (l.length - 1)
theorem tk_length (l : List ByteArray) : (tk l).length = l.length - 1 := by simp [tk]
theorem tk_ix (l : List ByteArray) (i : Nat) (hi : i < l.length - 1) : ix (tk l) i = if i = 0 then ix l (l.length - 1) else ix l i := by
  rw [← ix_set l 0 _ i (by omega)]
  unfold tk ix
  rw [List.getD_eq_getElem?_getD, List.getElem?_take, if_pos hi, ← List.getD_eq_getElem?_getD]
theorem tk_down {l : List ByteArray} (h : IsHeap l) : DownAt (tk l) 0 := by
  refine ⟨fun i hi hil hne => ?_, fun i hi hil hp h0 => by omega⟩
  rw [tk_length] at hil
  rw [tk_ix _ _ (by omega), tk_ix _ _ (by omega), if_neg hne, if_neg (by omega)]
  exact h i hi (by omega)
theorem tk_perm {l : List ByteArray} (h : 0 < l.length) : l.Perm (ix l 0 :: tk l) := by
  rcases List.eq_nil_or_concat l with rfl | ⟨m, x, rfl⟩
  · simp at h
  · rw [List.concat_eq_append] at *
    cases m with
    | nil => simp [tk, ix]
    | cons y m =>
      have e1 : ix ((y :: m) ++ [x]) 0 = y := rfl
      have e2 : tk ((y :: m) ++ [x]) = x :: m := by
        have e3 : ix ((y :: m) ++ [x]) (((y :: m) ++ [x]).length - 1) = x := by simp [ix, List.getD_eq_getElem?_getD]
        unfold tk
        rw [e3]
        simp
      rw [e1, e2]
      exact (List.perm_append_comm (l₁ := y :: m) (l₂ := [x])).trans (List.Perm.swap y x m)
theorem heap_min {l : List ByteArray} (h : IsHeap l) (y : ByteArray) (hy : y ∈ l) : leT (ix l 0) y := by
  obtain ⟨i, hi, rfl⟩ := List.getElem_of_mem hy
  have := heap_least h i hi
  have e : ix l i = l[i] := by
    unfold ix
    rw [List.getD_eq_getElem?_getD, List.getElem?_eq_getElem hi]
    rfl
  rwa [e] at this

/-- each text with the mark behind it -/
def linesT (ts : List ByteArray) : List UInt8 := ts.flatMap fun t => t.data.toList ++ [60]
theorem linesT_snoc (ts : List ByteArray) (t : ByteArray) : linesT (ts ++ [t]) = linesT ts ++ (t.data.toList ++ [60]) := by simp [linesT]
end Go.Proofs.YtcaknhoaoodbfaaGreatDoor

/- Plain words of chapter 9. -/
namespace Go.Proofs.YtcaknhoaoodbfaaGreatDoor
set_option linter.unusedVariables false

structure Ident where
  cat : ByteArray
  kind : ByteArray
  lang : ByteArray
  name : ByteArray
def dId : Ident := ⟨ByteArray.empty, ByteArray.empty, ByteArray.empty, ByteArray.empty⟩
instance : Inhabited Ident := ⟨dId⟩
def hasB (c : Int) (s : ByteArray) : Bool := s.data.toList.any fun x => (x.toNat : Int) == c
/-- a field that has no fault, and no mark -/
def fldB (s : ByteArray) : Bool := (textFault s.data.toList == 0) && !hasB 60 s
def fillB (s : ByteArray) : Bool := !s.toList.isEmpty && fldB s
/-- the model's field -/
def fieldB (s : ByteArray) (e sl : Bool) : Bool := fldB s && (e || !s.toList.isEmpty) && (sl || !hasB 47 s)
def identB (x : Ident) : Bool := fieldB x.cat false false && fieldB x.kind false false && fieldB x.lang true false && fieldB x.name true true
def slash : ByteArray := { data := #[47] }
def identT (x : Ident) : ByteArray := x.cat ++ slash ++ x.kind ++ slash ++ x.lang ++ slash ++ x.name
def idCode (x : Ident) : Int := if identB x = true then 0 else 5
def idText (x : Ident) : ByteArray := if identB x = true then identT x else ByteArray.empty
/-- the program's way of asking -/
def identB' (x : Ident) : Bool := fillB x.cat && fillB x.kind && fldB x.lang && fldB x.name && !hasB 47 (x.cat ++ x.kind ++ x.lang)
theorem hasB_append (c : Int) (s t : ByteArray) : hasB c (s ++ t) = (hasB c s || hasB c t) := by
  unfold hasB
  rw [show (s ++ t).data.toList = s.data.toList ++ t.data.toList by simp [ByteArray.data_append], List.any_append]
theorem identB_eq (x : Ident) : identB' x = identB x := by
  unfold identB' identB fieldB fillB
  rw [hasB_append, hasB_append]
  cases x.cat.toList.isEmpty <;> cases x.kind.toList.isEmpty <;> cases fldB x.cat <;> cases fldB x.kind <;> cases fldB x.lang <;> cases fldB x.name <;> cases hasB 47 x.cat <;> cases hasB 47 x.kind <;> cases hasB 47 x.lang <;> rfl
theorem hasB_at {c : Int} {s : ByteArray} {k : Nat} (hk : k < s.size) (h : ((s[k].toNat : Int) == c) = true) : hasB c s = true := by
  unfold hasB
  rw [List.any_eq_true]
  exact ⟨s[k], by rw [show s[k] = s.data.toList[k]'(by simpa using hk) from rfl]; exact List.getElem_mem _, h⟩
theorem hasB_not {c : Int} {s : ByteArray} (h : ∀ k (hk : k < s.size), ((s[k].toNat : Int) == c) = false) : hasB c s = false := by
  unfold hasB
  rw [List.any_eq_false]
  intro x hx
  obtain ⟨i, hi, rfl⟩ := List.getElem_of_mem hx
  have := h i (by simpa using hi)
  rw [show s[i]'(by simpa using hi) = s.data.toList[i] from rfl] at this
  simpa using this
/-- two with the same Category, Kind and Lang -/
def sameId (x y : Ident) : Bool := x.cat.toList == y.cat.toList && x.kind.toList == y.kind.toList && x.lang.toList == y.lang.toList
def twiceI (l : List Ident) : Bool := (List.range l.length).any fun i => (List.range i).any fun k => sameId (l.getD i dId) (l.getD k dId)
def sameT (s t : ByteArray) : Bool := s.toList == t.toList
def twiceS (l : List ByteArray) : Bool := (List.range l.length).any fun i => (List.range i).any fun k => sameT (l.getD i ByteArray.empty) (l.getD k ByteArray.empty)
theorem twice_at {n : Nat} {f : Nat → Nat → Bool} {i k : Nat} (hi : i < n) (hk : k < i) (h : f i k = true) : ((List.range n).any fun i => (List.range i).any fun k => f i k) = true := by
  rw [List.any_eq_true]
  refine ⟨i, List.mem_range.2 hi, ?_⟩
  rw [List.any_eq_true]
  exact ⟨k, List.mem_range.2 hk, h⟩
theorem twice_not {n : Nat} {f : Nat → Nat → Bool} (h : ∀ i, i < n → ∀ k, k < i → f i k = false) : ((List.range n).any fun i => (List.range i).any fun k => f i k) = false := by
  rw [List.any_eq_false]
  intro i hi
  rw [Bool.not_eq_true, List.any_eq_false]
  intro k hk
  rw [h i (List.mem_range.1 hi) k (List.mem_range.1 hk)]
  decide
structure Dis where
  ids : List Ident
  feats : List ByteArray
def manyD (d : Dis) : Bool := decide (6 < d.ids.length) || decide (10 < d.feats.length)
def wrongD (d : Dis) : Bool := !((List.range d.ids.length).all fun i => identB (d.ids.getD i dId)) || !((List.range d.feats.length).all fun i => fieldB (d.feats.getD i ByteArray.empty) false true)
def disCode (d : Dis) : Int := if manyD d = true then 2 else if wrongD d = true then 5 else if (twiceI d.ids || twiceS d.feats) = true then 6 else 0
theorem wrong_id {d : Dis} {i : Nat} (hi : i < d.ids.length) (h : identB (d.ids.getD i dId) = false) : wrongD d = true := by
  unfold wrongD
  rw [Bool.or_eq_true]
  left
  rw [Bool.not_eq_true', List.all_eq_false]
  exact ⟨i, List.mem_range.2 hi, by rw [h]; decide⟩
theorem wrong_ft {d : Dis} {i : Nat} (hi : i < d.feats.length) (h : fieldB (d.feats.getD i ByteArray.empty) false true = false) : wrongD d = true := by
  unfold wrongD
  rw [Bool.or_eq_true]
  right
  rw [Bool.not_eq_true', List.all_eq_false]
  exact ⟨i, List.mem_range.2 hi, by rw [h]; decide⟩
theorem right_d {d : Dis} (h1 : ∀ i, i < d.ids.length → identB (d.ids.getD i dId) = true) (h2 : ∀ i, i < d.feats.length → fieldB (d.feats.getD i ByteArray.empty) false true = true) : wrongD d = false := by
  unfold wrongD
  rw [Bool.or_eq_false_iff, Bool.not_eq_false', Bool.not_eq_false', List.all_eq_true, List.all_eq_true]
  exact ⟨fun i hi => h1 i (List.mem_range.1 hi), fun i hi => h2 i (List.mem_range.1 hi)⟩
theorem fill_field (s : ByteArray) : fillB s = fieldB s false true := by
  unfold fillB fieldB
  cases s.toList.isEmpty <;> cases fldB s <;> rfl
def capsL (d : Dis) : List UInt8 := linesT (sortT (d.ids.map identT)) ++ linesT (sortT d.feats)
def capsCode (d : Dis) : Int := disCode d
def capsText (d : Dis) : ByteArray := if disCode d = 0 then ⟨(capsL d).toArray⟩ else ByteArray.empty
end Go.Proofs.YtcaknhoaoodbfaaGreatDoor

/- What a tree's items are, and how they lie in memory. -/
namespace Go.Proofs.YtcaknhoaoodbfaaGreatDoor
open Go.ChangeShapes Go.WideShapes Go.ChangeAt Go.RowKit
set_option linter.unusedVariables false

structure At where
  name : ByteArray
  value : ByteArray
structure It where
  depth : Int
  text : ByteArray
  space : ByteArray
  name : ByteArray
  attrs : List At
def dAt : At := ⟨ByteArray.empty, ByteArray.empty⟩
def dIt : It := ⟨0, ByteArray.empty, ByteArray.empty, ByteArray.empty, []⟩
theorem At.eq {x y : At} (h1 : x.name = y.name) (h2 : x.value = y.value) : x = y := by cases x; cases y; simp_all
theorem It.eq {x y : It} (h0 : x.depth = y.depth) (h1 : x.text = y.text) (h2 : x.space = y.space) (h3 : x.name = y.name) (h4 : x.attrs = y.attrs) : x = y := by cases x; cases y; simp_all

/-- a slice of attributes that reads as l -/
structure AtsAt (w : World) (a : Option Addr) (n c : Nat) (l : List At) : Prop where
  len : l.length = n
  max : n ≤ 9223372036854775807
  size : ∀ i, (l.getD i dAt).name.size ≤ 9223372036854775807 ∧ (l.getD i dAt).value.size ≤ 9223372036854775807
  row : n = 0 ∨ ∃ b o, a = some ⟨b, o, none⟩ ∧ b < w.heap.size ∧ ∀ i, i < n → w.cell? ⟨b, o + i * 2, none⟩ = some (.string (l.getD i dAt).name) ∧ w.cell? ⟨b, o + i * 2 + 1, none⟩ = some (.string (l.getD i dAt).value)
theorem AtsAt.below {w w' : World} {a : Option Addr} {n c : Nat} {l : List At} (h : AtsAt w a n c l) (hb : Below w.heap.size w w') : AtsAt w' a n c l := by
  refine ⟨h.len, h.max, h.size, ?_⟩
  rcases h.row with e | ⟨b, o, ha, hr, hc⟩
  · exact .inl e
  · exact .inr ⟨b, o, ha, Nat.lt_of_lt_of_le hr hb.size, fun i hi => ⟨(hb.cell (p := ⟨b, o + i * 2, none⟩) hr).trans (hc i hi).1, (hb.cell (p := ⟨b, o + i * 2 + 1, none⟩) hr).trans (hc i hi).2⟩⟩

/-- five cells that read as an item -/
structure ItAt (w : World) (b o : Nat) (x : It) : Prop where
  lt : b < w.heap.size
  wf : -9223372036854775808 ≤ x.depth ∧ x.depth ≤ 9223372036854775807
  size : x.text.size ≤ 9223372036854775807 ∧ x.space.size ≤ 9223372036854775807 ∧ x.name.size ≤ 9223372036854775807
  c0 : w.cell? ⟨b, o, none⟩ = some (.int .i64 x.depth)
  c1 : w.cell? ⟨b, o + 1, none⟩ = some (.string x.text)
  c2 : w.cell? ⟨b, o + 2, none⟩ = some (.string x.space)
  c3 : w.cell? ⟨b, o + 3, none⟩ = some (.string x.name)
  c4 : ∃ a n c, w.cell? ⟨b, o + 4, none⟩ = some (.slice a n c) ∧ AtsAt w a n c x.attrs
theorem ItAt.below {w w' : World} {b o : Nat} {x : It} (h : ItAt w b o x) (hb : Below w.heap.size w w') : ItAt w' b o x := by
  obtain ⟨a, n, c, h4, hat⟩ := h.c4
  exact ⟨Nat.lt_of_lt_of_le h.lt hb.size, h.wf, h.size, (hb.cell (by exact h.lt)).trans h.c0, (hb.cell (by exact h.lt)).trans h.c1, (hb.cell (by exact h.lt)).trans h.c2, (hb.cell (by exact h.lt)).trans h.c3, a, n, c, (hb.cell (by exact h.lt)).trans h4, hat.below hb⟩

/-- a slice of items that reads as l -/
structure ItsAt (w : World) (a : Option Addr) (n c : Nat) (l : List It) : Prop where
  len : l.length = n
  max : n ≤ 9223372036854775807
  row : n = 0 ∨ ∃ b o, a = some ⟨b, o, none⟩ ∧ ∀ i, i < n → ItAt w b (o + i * 5) (l.getD i dIt)
theorem ItsAt.below {w w' : World} {a : Option Addr} {n c : Nat} {l : List It} (h : ItsAt w a n c l) (hb : Below w.heap.size w w') : ItsAt w' a n c l := by
  refine ⟨h.len, h.max, ?_⟩
  rcases h.row with e | ⟨b, o, ha, hc⟩
  · exact .inl e
  · exact .inr ⟨b, o, ha, fun i hi => (hc i hi).below hb⟩

/-- what was measured is small -/
def SmallAt (x : At) : Prop := x.name.size ≤ 1048576 ∧ x.value.size ≤ 1048576
def SmallAts (l : List At) : Prop := l.length ≤ 1048576 ∧ ∀ i, i < l.length → SmallAt (l.getD i dAt)
def SmallIt (x : It) : Prop := (x.text.size ≤ 1048576 ∧ x.space.size ≤ 1048576 ∧ x.name.size ≤ 1048576) ∧ SmallAts x.attrs
def SmallIts (l : List It) : Prop := l.length ≤ 1048576 ∧ ∀ i, i < l.length → SmallIt (l.getD i dIt)
/-- some number is handed back, and only memory is made -/
def SzRes (P : Int → Prop) (w : World) (e : Ending) (w' : World) : Prop := ∃ r : Int, P r ∧ e = .returned (.int .i64 r) ∧ Below w.heap.size w w'
theorem SzRes.mk {P : Int → Prop} {w w' : World} {r : Int} (h : P r) (hb : Below w.heap.size w w') : SzRes P w (.returned (.int .i64 r)) w' := ⟨r, h, rfl, hb⟩
/-- some number is left, or fewer than none -/
def Left (left : Int) (P : Prop) (r : Int) : Prop := r = -1 ∨ (0 ≤ r ∧ r ≤ left ∧ P)
theorem Left.no {left : Int} {P : Prop} : Left left P (-1) := .inl rfl
theorem Left.yes {left r : Int} {P : Prop} (h1 : 0 ≤ r) (h2 : r ≤ left) (h : P) : Left left P r := .inr ⟨h1, h2, h⟩
theorem drew_more {w wr : World} (h : ∃ n, wr = w.drewN n) (m : Nat) : ∃ n, wr.drewN m = w.drewN n := by
  obtain ⟨n, rfl⟩ := h
  exact ⟨_, World.drewN_drewN _ _ _⟩
theorem find_at {α : Type} (l : List α) (d : α) (p : α → Bool) (k : Nat) (hk : k < l.length) (h0 : ∀ j, j < k → p (l.getD j d) = false) (h1 : p (l.getD k d) = true) : l.find? p = some (l.getD k d) := by
  induction l generalizing k with
  | nil => simp at hk
  | cons x r ih =>
    cases k with
    | zero =>
      have hx : p x = true := by simpa using h1
      simp [hx]
    | succ k =>
      have hx : p x = false := by simpa using h0 0 (by omega)
      rw [List.find?_cons, hx]
      simpa using ih k (by simpa using hk) (fun j hj => by simpa using h0 (j + 1) (by omega)) (by simpa using h1)
theorem find_no {α : Type} (l : List α) (d : α) (p : α → Bool) (h0 : ∀ j, j < l.length → p (l.getD j d) = false) : l.find? p = none := by
  rw [List.find?_eq_none]
  intro x hx
  obtain ⟨i, hi, rfl⟩ := List.getElem_of_mem hx
  have := h0 i hi
  rw [List.getD_eq_getElem?_getD, List.getElem?_eq_getElem hi] at this
  simpa using this
theorem ret_n {a b : Nat} (h : a = b) : Ending.returned (.int .i64 (a : Int)) = .returned (.int .i64 (b : Int)) := by rw [h]
end Go.Proofs.YtcaknhoaoodbfaaGreatDoor

/- Rooms: cells of one's own. -/
namespace Go.Proofs.YtcaknhoaoodbfaaGreatDoor
open Go.ChangeShapes Go.WideShapes Go.ChangeAt Go.RowKit
set_option linter.unusedVariables false

theorem below3 (w : World) (o1 o2 o3 : Obj) : Below w.heap.size w (((w.alloc o1).alloc o2).alloc o3) := (((Below.refl _ _).alloc (Nat.le_refl _) _).alloc (by simp) _).alloc (by simp; omega) _


theorem below_made {w w1 : World} (h : w.grownBy w1 none) : Below w.heap.size w w1 := ⟨h.os, h.tape, h.output, h.size, fun i hi => h.block i hi (by simp)⟩


/-- m cells in block b, not frozen -/
def Room (w : World) (b m : Nat) : Prop := b < w.heap.size ∧ ∀ i, i < m → (∃ v, w.cell? ⟨b, i, none⟩ = some v) ∧ w.frozen? ⟨b, i, none⟩ = false
theorem Room.below {w w' : World} {b m : Nat} (h : Room w b m) (hb : Below w.heap.size w w') : Room w' b m :=
  ⟨Nat.lt_of_lt_of_le h.1 hb.size, fun i hi => ⟨(h.2 i hi).1.imp fun v hv => (hb.cell (p := ⟨b, i, none⟩) h.1).trans hv, (hb.frozen (p := ⟨b, i, none⟩) h.1).trans (h.2 i hi).2⟩⟩
theorem room_made {w : World} {base : Nat} {e : TypeId} {size n g cap : Nat} {xs : List Value} (h : w.ownsRow base e size (.slice (some ⟨g, 0, none⟩) n cap) n xs) : Room w g (n * size) := by
  refine ⟨(h.lt g rfl).2, fun i hi => ⟨?_, h.frozenAt i⟩⟩
  rw [h.cellAt i hi]
  have := h.1
  exact ⟨xs[i]'(by omega), List.getElem?_eq_getElem (by omega)⟩

theorem Room.set {w : World} {b m : Nat} (h : Room w b m) (p : Addr) (v : Value) : Room (w.setCell p v) b m :=
  ⟨by simpa using h.1, fun i hi => ⟨by obtain ⟨v', hv⟩ := (h.2 i hi).1; exact cell?_setCell_some hv, by rw [World.frozen?_setCell]; exact (h.2 i hi).2⟩⟩
theorem Room.put {w : World} {b m i : Nat} (h : Room w b m) (hi : i < m) (v : Value) : (w.setCell ⟨b, i, none⟩ v).cell? ⟨b, i, none⟩ = some v := by
  obtain ⟨u, hu⟩ := (h.2 i hi).1
  exact World.cell?_setCell_same _ _ _ hu
theorem set_off {w : World} {b i j : Nat} {v : Value} (h : i ≠ j) : (w.setCell ⟨b, i, none⟩ v).cell? ⟨b, j, none⟩ = w.cell? ⟨b, j, none⟩ := World.cell?_setCell_other _ _ _ _ (fun e => absurd (congrArg Addr.off e) h)
end Go.Proofs.YtcaknhoaoodbfaaGreatDoor

/- How identities, texts and a disco lie in memory. -/
namespace Go.Proofs.YtcaknhoaoodbfaaGreatDoor
open Go.ChangeShapes Go.WideShapes Go.ChangeAt Go.RowKit
set_option linter.unusedVariables false

theorem Ident.eq {x y : Ident} (h0 : x.cat = y.cat) (h1 : x.kind = y.kind) (h2 : x.lang = y.lang) (h3 : x.name = y.name) : x = y := by cases x; cases y; simp_all
/-- four cells that read as an identity -/
structure IdAt (w : World) (b o : Nat) (x : Ident) : Prop where
  lt : b < w.heap.size
  c0 : w.cell? ⟨b, o, none⟩ = some (.string x.cat)
  c1 : w.cell? ⟨b, o + 1, none⟩ = some (.string x.kind)
  c2 : w.cell? ⟨b, o + 2, none⟩ = some (.string x.lang)
  c3 : w.cell? ⟨b, o + 3, none⟩ = some (.string x.name)
theorem IdAt.below {w w' : World} {b o : Nat} {x : Ident} (h : IdAt w b o x) (hb : Below w.heap.size w w') : IdAt w' b o x :=
  ⟨Nat.lt_of_lt_of_le h.lt hb.size, (hb.cell (by exact h.lt)).trans h.c0, (hb.cell (by exact h.lt)).trans h.c1, (hb.cell (by exact h.lt)).trans h.c2, (hb.cell (by exact h.lt)).trans h.c3⟩
theorem IdAt.new (w : World) (T : TypeId) (x : Ident) : IdAt (w.alloc (.cells #[.string x.cat, .string x.kind, .string x.lang, .string x.name] T)) w.heap.size 0 x := ⟨by simp, by simp, by simp, by simp, by simp⟩
theorem IdAt.only {P : Nat → Prop} {w w' : World} {b o : Nat} {x : Ident} (h : IdAt w b o x) (hb : ∀ i, i < w.heap.size → ¬ P i → w'.heap[i]? = w.heap[i]?) (hs : w.heap.size ≤ w'.heap.size) (hp : ¬ P b) : IdAt w' b o x := by
  have e := hb b h.lt hp
  have c : ∀ o, w'.cell? ⟨b, o, none⟩ = w.cell? ⟨b, o, none⟩ := fun o => World.cell?_of_block (w := w) e
  exact ⟨Nat.lt_of_lt_of_le h.lt hs, (c _).trans h.c0, (c _).trans h.c1, (c _).trans h.c2, (c _).trans h.c3⟩
theorem IdAt.set {w : World} {B o i : Nat} {x : Ident} {v : Value} (h : IdAt w B o x) (hi : i < o ∨ o + 4 ≤ i) : IdAt (w.setCell ⟨B, i, none⟩ v) B o x := by
  refine ⟨by simpa using h.lt, ?_, ?_, ?_, ?_⟩
  · rw [set_off (by omega)]; exact h.c0
  · rw [set_off (by omega)]; exact h.c1
  · rw [set_off (by omega)]; exact h.c2
  · rw [set_off (by omega)]; exact h.c3
/-- a slice of identities that reads as l -/
structure IdsAt (w : World) (a : Option Addr) (n c : Nat) (l : List Ident) : Prop where
  len : l.length = n
  max : n ≤ 9223372036854775807
  row : n = 0 ∨ ∃ b o, a = some ⟨b, o, none⟩ ∧ ∀ i, i < n → IdAt w b (o + i * 4) (l.getD i dId)
theorem IdsAt.below {w w' : World} {a : Option Addr} {n c : Nat} {l : List Ident} (h : IdsAt w a n c l) (hb : Below w.heap.size w w') : IdsAt w' a n c l := by
  refine ⟨h.len, h.max, ?_⟩
  rcases h.row with e | ⟨b, o, ha, hc⟩
  · exact .inl e
  · exact .inr ⟨b, o, ha, fun i hi => (hc i hi).below hb⟩
/-- a slice of texts that reads as ts -/
structure StsAt (w : World) (a : Option Addr) (n c : Nat) (ts : List ByteArray) : Prop where
  len : ts.length = n
  max : n ≤ 9223372036854775807
  row : n = 0 ∨ ∃ b o, a = some ⟨b, o, none⟩ ∧ b < w.heap.size ∧ ∀ i, i < n → w.cell? ⟨b, o + i, none⟩ = some (.string (ts.getD i ByteArray.empty))
theorem StsAt.below {w w' : World} {a : Option Addr} {n c : Nat} {ts : List ByteArray} (h : StsAt w a n c ts) (hb : Below w.heap.size w w') : StsAt w' a n c ts := by
  refine ⟨h.len, h.max, ?_⟩
  rcases h.row with e | ⟨b, o, ha, hr, hc⟩
  · exact .inl e
  · exact .inr ⟨b, o, ha, Nat.lt_of_lt_of_le hr hb.size, fun i hi => (hb.cell (p := ⟨b, o + i, none⟩) hr).trans (hc i hi)⟩
/-- sizes as they are of what came in, and as they are of what was measured -/
def IdSize (x : Ident) : Prop := x.cat.size ≤ 9223372036854775807 ∧ x.kind.size ≤ 9223372036854775807 ∧ x.lang.size ≤ 9223372036854775807 ∧ x.name.size ≤ 9223372036854775807
def IdsSize (l : List Ident) : Prop := ∀ i, IdSize (l.getD i dId)
def StsSize (l : List ByteArray) : Prop := ∀ i, (l.getD i ByteArray.empty).size ≤ 9223372036854775807
def SmallId (x : Ident) : Prop := x.cat.size ≤ 1048576 ∧ x.kind.size ≤ 1048576 ∧ x.lang.size ≤ 1048576 ∧ x.name.size ≤ 1048576
def SmallIds (l : List Ident) : Prop := l.length ≤ 1048576 ∧ ∀ i, i < l.length → SmallId (l.getD i dId)
def SmallSts (l : List ByteArray) : Prop := l.length ≤ 1048576 ∧ ∀ i, i < l.length → (l.getD i ByteArray.empty).size ≤ 1048576
def SmallDis (d : Dis) : Prop := SmallIds d.ids ∧ SmallSts d.feats
/-- the two slices of a disco -/
structure DisAt (w : World) (a1 : Option Addr) (n1 c1 : Nat) (a2 : Option Addr) (n2 c2 : Nat) (d : Dis) : Prop where
  ids : IdsAt w a1 n1 c1 d.ids
  feats : StsAt w a2 n2 c2 d.feats
theorem DisAt.below {w w' : World} {a1 a2 : Option Addr} {n1 c1 n2 c2 : Nat} {d : Dis} (h : DisAt w a1 n1 c1 a2 n2 c2 d) (hb : Below w.heap.size w w') : DisAt w' a1 n1 c1 a2 n2 c2 d := ⟨h.ids.below hb, h.feats.below hb⟩
/-- new slices are handed back -/
def IdsRes (w : World) (l : List Ident) (e : Ending) (w' : World) : Prop := ∃ a n c, e = .returned (.slice a n c) ∧ IdsAt w' a n c l ∧ (∀ y, a = some y → w.heap.size ≤ y.block) ∧ Below w.heap.size w w'
def StsRes (w : World) (l : List ByteArray) (e : Ending) (w' : World) : Prop := ∃ a n c, e = .returned (.slice a n c) ∧ StsAt w' a n c l ∧ (∀ y, a = some y → w.heap.size ≤ y.block) ∧ Below w.heap.size w w'
def DisRes (w : World) (d : Dis) (e : Ending) (w' : World) : Prop := ∃ a1 n1 c1 a2 n2 c2, e = .returned (.agg #[.slice a1 n1 c1, .slice a2 n2 c2]) ∧ DisAt w' a1 n1 c1 a2 n2 c2 d ∧ Below w.heap.size w w'
theorem IdAt.set2 {w : World} {B o : Nat} {p : Addr} {x : Ident} {v : Value} (h : IdAt w B o x) (hp : p.block ≠ B) : IdAt (w.setCell p v) B o x := by
  have c : ∀ o, (w.setCell p v).cell? ⟨B, o, none⟩ = w.cell? ⟨B, o, none⟩ := fun o => World.cell?_setCell_other _ _ _ _ (fun e => hp (by rw [e]))
  exact ⟨by simpa using h.lt, (c _).trans h.c0, (c _).trans h.c1, (c _).trans h.c2, (c _).trans h.c3⟩
theorem IdsAt.set {w : World} {a : Option Addr} {n c : Nat} {l : List Ident} {p : Addr} {v : Value} (h : IdsAt w a n c l) (hs : ∀ y, a = some y → p.block ≠ y.block) : IdsAt (w.setCell p v) a n c l := by
  refine ⟨h.len, h.max, ?_⟩
  rcases h.row with e | ⟨b, o, ha, hc⟩
  · exact .inl e
  · exact .inr ⟨b, o, ha, fun i hi => (hc i hi).set2 (hs _ ha)⟩
theorem StsAt.set {w : World} {a : Option Addr} {n c : Nat} {l : List ByteArray} {p : Addr} {v : Value} (h : StsAt w a n c l) (hs : ∀ y, a = some y → p.block ≠ y.block) : StsAt (w.setCell p v) a n c l := by
  refine ⟨h.len, h.max, ?_⟩
  rcases h.row with e | ⟨b, o, ha, hr, hc⟩
  · exact .inl e
  · refine .inr ⟨b, o, ha, by simpa using hr, fun i hi => ?_⟩
    rw [World.cell?_setCell_other _ _ _ _ (fun e => hs _ ha (by rw [e]))]
    exact hc i hi
end Go.Proofs.YtcaknhoaoodbfaaGreatDoor
