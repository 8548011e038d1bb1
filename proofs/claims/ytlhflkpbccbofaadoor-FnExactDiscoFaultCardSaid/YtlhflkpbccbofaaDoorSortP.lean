/- Plain words on texts in their order, and what a heap of them says. -/
import Derived.Test.YtlhflkpbccbofaaDoorBase
import Derived.Sort.Walk0
namespace Go.Proofs.YtlhflkpbccbofaaDoor
set_option linter.unusedVariables false

/-- a is not behind b -/
def leT (a b : ByteArray) : Prop := Op.bytesLess b.toList a.toList = false
theorem leT_iff {a b : ByteArray} : leT a b ↔ a.data.toList ≤ b.data.toList := by
  unfold leT
  rw [bytesLess_eq, Lib.toList_data, Lib.toList_data, decide_eq_false_iff_not]
  exact List.not_lt
theorem leT_refl (a : ByteArray) : leT a a := leT_iff.2 (List.le_refl _)
theorem leT_trans {a b c : ByteArray} (h : leT a b) (k : leT b c) : leT a c := leT_iff.2 (List.le_trans (leT_iff.1 h) (leT_iff.1 k))
theorem leT_total (a b : ByteArray) : leT a b ∨ leT b a := (List.le_total a.data.toList b.data.toList).imp leT_iff.2 leT_iff.2
theorem leT_antisymm {a b : ByteArray} (h : leT a b) (k : leT b a) : a = b := by
  have := List.le_antisymm (leT_iff.1 h) (leT_iff.1 k)
  cases a; cases b
  simp only [ByteArray.mk.injEq] at this ⊢
  exact Array.toList_inj.1 this
theorem leT_of_less {a b : ByteArray} (h : Op.bytesLess a.toList b.toList = true) : leT a b := by
  rcases leT_total a b with k | k
  · exact k
  · unfold leT at k
    rw [h] at k
    cases k

/-- ts are xs in their order -/
def Sorts (xs ts : List ByteArray) : Prop := ts.Perm xs ∧ ts.Pairwise leT
theorem sorted_unique : ∀ {l m : List ByteArray}, l.Perm m → l.Pairwise leT → m.Pairwise leT → l = m
  | [], m, h, _, _ => (List.Perm.eq_nil (h.symm)).symm
  | a :: l, [], h, _, _ => by simpa using h.length_eq
  | a :: l, b :: m, h, h1, h2 => by
    rw [List.pairwise_cons] at h1 h2
    have e : a = b := by
      have ha : a ∈ b :: m := h.subset (List.mem_cons_self)
      have hb : b ∈ a :: l := h.symm.subset (List.mem_cons_self)
      rcases List.mem_cons.1 ha with e | ha
      · exact e
      rcases List.mem_cons.1 hb with e | hb
      · exact e.symm
      exact leT_antisymm (h1.1 b hb) (h2.1 a ha)
    subst e
    rw [sorted_unique (List.Perm.cons_inv h) h1.2 h2.2]
theorem Sorts.unique {xs ys ts us : List ByteArray} (h : Sorts xs ts) (k : Sorts ys us) (e : xs.Perm ys) : ts = us :=
  sorted_unique (h.1.trans (e.trans k.1.symm)) h.2 k.2

def insT (x : ByteArray) : List ByteArray → List ByteArray
  | [] => [x]
  | y :: l => if Op.bytesLess x.toList y.toList = true then x :: y :: l else y :: insT x l
theorem insT_perm (x : ByteArray) : ∀ l, (insT x l).Perm (x :: l)
  | [] => List.Perm.refl _
  | y :: l => by
    unfold insT
    split
    · exact List.Perm.refl _
    · exact ((insT_perm x l).cons y).trans (List.Perm.swap x y l)
theorem insT_pairwise (x : ByteArray) : ∀ {l : List ByteArray}, l.Pairwise leT → (insT x l).Pairwise leT
  | [], _ => List.pairwise_singleton _ _
  | y :: l, h => by
    unfold insT
    have h' := List.pairwise_cons.1 h
    split
    · rename_i hxy
      refine List.pairwise_cons.2 ⟨fun z hz => ?_, h⟩
      rcases List.mem_cons.1 hz with rfl | hz
      · exact leT_of_less hxy
      · exact leT_trans (leT_of_less hxy) (h'.1 z hz)
    · rename_i hxy
      refine List.pairwise_cons.2 ⟨fun z hz => ?_, insT_pairwise x h'.2⟩
      rcases List.mem_cons.1 ((insT_perm x l).subset hz) with rfl | hz
      · unfold leT
        simpa using hxy
      · exact h'.1 z hz
/-- the texts in their order -/
def sortT : List ByteArray → List ByteArray
  | [] => []
  | x :: l => insT x (sortT l)
theorem sortT_perm : ∀ l, (sortT l).Perm l
  | [] => List.Perm.refl _
  | x :: l => (insT_perm x _).trans ((sortT_perm l).cons x)
theorem sortT_pairwise : ∀ l, (sortT l).Pairwise leT
  | [] => List.Pairwise.nil
  | x :: l => insT_pairwise x (sortT_pairwise l)
theorem sortT_is {xs ts : List ByteArray} (h : Sorts xs ts) : ts = sortT xs := h.unique ⟨sortT_perm xs, sortT_pairwise xs⟩ (List.Perm.refl _)
theorem sortT_eq {xs ys : List ByteArray} (h : xs.Perm ys) : sortT xs = sortT ys := Sorts.unique ⟨sortT_perm xs, sortT_pairwise xs⟩ ⟨sortT_perm ys, sortT_pairwise ys⟩ h

/-! Heaps: places of a row of texts, told by a function. -/
abbrev ix (l : List ByteArray) (i : Nat) : ByteArray := l.getD i ByteArray.empty
/-- none is behind one below it, but perhaps that at a place, which may be ahead of the one above it -/
def UpAt (l : List ByteArray) (p : Nat) : Prop :=
  (∀ i, 0 < i → i < l.length → i ≠ p → leT (ix l ((i - 1) / 2)) (ix l i)) ∧
  (∀ i, 0 < i → i < l.length → (i - 1) / 2 = p → 0 < p → leT (ix l ((p - 1) / 2)) (ix l i))
/-- none is behind one below it, but perhaps that at a place behind those below it -/
def DownAt (l : List ByteArray) (p : Nat) : Prop :=
  (∀ i, 0 < i → i < l.length → (i - 1) / 2 ≠ p → leT (ix l ((i - 1) / 2)) (ix l i)) ∧
  (∀ i, 0 < i → i < l.length → (i - 1) / 2 = p → 0 < p → leT (ix l ((p - 1) / 2)) (ix l i))
def IsHeap (l : List ByteArray) : Prop := ∀ i, 0 < i → i < l.length → leT (ix l ((i - 1) / 2)) (ix l i)
/-- two places changed for one another -/
def sw (l : List ByteArray) (a b : Nat) : List ByteArray := (l.set a (ix l b)).set b (ix l a)
theorem sw_length (l : List ByteArray) (a b : Nat) : (sw l a b).length = l.length := by simp [sw]
theorem ix_set (l : List ByteArray) (a : Nat) (v : ByteArray) (i : Nat) (ha : a < l.length) : ix (l.set a v) i = if i = a then v else ix l i := by
  unfold ix
  rw [List.getD_eq_getElem?_getD, List.getD_eq_getElem?_getD, List.getElem?_set]
  by_cases h : i = a
  · subst h
    simp [ha]
  · rw [if_neg (fun e => h e.symm), if_neg h]
theorem sw_ix (l : List ByteArray) (a b i : Nat) (ha : a < l.length) (hb : b < l.length) : ix (sw l a b) i = if i = b then ix l a else if i = a then ix l b else ix l i := by
  unfold sw
  rw [ix_set _ _ _ _ (by simpa using hb), ix_set _ _ _ _ ha]
theorem sw_perm (l : List ByteArray) (a b : Nat) (ha : a < l.length) (hb : b < l.length) : (sw l a b).Perm l := by
  unfold sw ix
  rw [List.getD_eq_getElem?_getD, List.getD_eq_getElem?_getD, List.getElem?_eq_getElem ha, List.getElem?_eq_getElem hb]
  simp only [Option.getD_some]
  exact List.set_set_perm ha hb
theorem up_swap {l : List ByteArray} {p : Nat} (hp : 0 < p) (hl : p < l.length) (h : UpAt l p) (hless : leT (ix l p) (ix l ((p - 1) / 2))) : UpAt (sw l p ((p - 1) / 2)) ((p - 1) / 2) := by
  obtain ⟨h1, h2⟩ := h
  have hq : (p - 1) / 2 < p := by omega
  generalize hqq : (p - 1) / 2 = q at *
  refine ⟨fun i hi hil hne => ?_, fun i hi hil hpi hq0 => ?_⟩
  · rw [sw_length] at hil
    rw [sw_ix _ _ _ _ hl (by omega), sw_ix _ _ _ _ hl (by omega), if_neg hne]
    by_cases e : i = p
    · subst e
      rw [hqq, if_pos rfl, if_pos rfl]
      exact hless
    · rw [if_neg e]
      by_cases e1 : (i - 1) / 2 = q
      · rw [if_pos e1]
        have := h1 i hi hil e
        rw [e1] at this
        exact leT_trans hless this
      · rw [if_neg e1]
        by_cases e2 : (i - 1) / 2 = p
        · rw [if_pos e2]
          exact h2 i hi hil e2 hp
        · rw [if_neg e2]
          exact h1 i hi hil e
  · rw [sw_length] at hil
    have hqs : (q - 1) / 2 < q := by omega
    rw [sw_ix _ _ _ _ hl (by omega), sw_ix _ _ _ _ hl (by omega), if_neg (by omega), if_neg (by omega), if_neg (by omega)]
    have hqq2 := h1 q hq0 (by omega) (by omega)
    by_cases e : i = p
    · rw [if_pos e]
      exact hqq2
    · rw [if_neg e]
      have := h1 i hi hil e
      rw [hpi] at this
      exact leT_trans hqq2 this
theorem up_done {l : List ByteArray} {p : Nat} (h : UpAt l p) (h0 : p = 0 ∨ leT (ix l ((p - 1) / 2)) (ix l p)) : IsHeap l := by
  intro i hi hil
  by_cases e : i = p
  · subst e
    rcases h0 with h0 | h0
    · omega
    · exact h0
  · exact h.1 i hi hil e
theorem up_snoc {l : List ByteArray} (h : IsHeap l) (x : ByteArray) : UpAt (l ++ [x]) l.length := by
  refine ⟨fun i hi hil hne => ?_, fun i hi hil hp h0 => ?_⟩
  · rw [List.length_append] at hil
    simp only [List.length_cons, List.length_nil] at hil
    have e : ∀ j, j < l.length → ix (l ++ [x]) j = ix l j := fun j hj => by
      unfold ix
      rw [List.getD_eq_getElem?_getD, List.getD_eq_getElem?_getD, List.getElem?_append_left hj]
    rw [e _ (by omega), e _ (by omega)]
    exact h i hi (by omega)
  · rw [List.length_append] at hil
    simp only [List.length_cons, List.length_nil] at hil
    omega
theorem down_swap {l : List ByteArray} {p m : Nat} (hl : p < l.length) (hm : m < l.length) (h : DownAt l p) (hpm : m = 2 * p + 1 ∨ m = 2 * p + 2)
    (hle : ∀ j, (j = p ∨ j = 2 * p + 1 ∨ j = 2 * p + 2) → j < l.length → leT (ix l m) (ix l j)) : DownAt (sw l p m) m := by
  obtain ⟨h1, h2⟩ := h
  have hpar : (m - 1) / 2 = p := by omega
  refine ⟨fun i hi hil hne => ?_, fun i hi hil hpi h0 => ?_⟩
  · rw [sw_length] at hil
    rw [sw_ix _ _ _ _ hl hm, sw_ix _ _ _ _ hl hm, if_neg hne]
    by_cases e1 : (i - 1) / 2 = p
    · rw [if_pos e1]
      by_cases e : i = m
      · rw [if_pos e]
        exact hle p (.inl rfl) hl
      · rw [if_neg e, if_neg (by omega)]
        exact hle i (by omega) hil
    · rw [if_neg e1, if_neg (by rintro rfl; exact e1 hpar)]
      by_cases e : i = p
      · subst e
        rw [if_pos rfl]
        exact h2 m (by omega) hm hpar (by omega)
      · rw [if_neg e]
        exact h1 i hi hil e1
  · rw [sw_length] at hil
    have hq : (m - 1) / 2 = p := hpar
    rw [hq, sw_ix _ _ _ _ hl hm, sw_ix _ _ _ _ hl hm, if_neg (by omega), if_pos rfl, if_neg (by omega), if_neg (by omega)]
    have := h1 i hi hil (by omega)
    rw [hpi] at this
    exact this
theorem down_done {l : List ByteArray} {p : Nat} (h : DownAt l p) (hle : ∀ j, (j = 2 * p + 1 ∨ j = 2 * p + 2) → j < l.length → leT (ix l p) (ix l j)) : IsHeap l := by
  intro i hi hil
  by_cases e : (i - 1) / 2 = p
  · rw [e]
    exact hle i (by omega) hil
  · exact h.1 i hi hil e
theorem heap_least {l : List ByteArray} (h : IsHeap l) : ∀ i, i < l.length → leT (ix l 0) (ix l i) := by
  intro i
  induction i using Nat.strongRecOn with
  | ind i ih =>
    intro hi
    by_cases h0 : i = 0
    · subst h0; exact leT_refl _
    · exact leT_trans (ih ((i - 1) / 2) (by omega) (by omega)) (h i (by omega) hi)
/-- the last one laid at the front, and taken off the end -/
def tk (l : List ByteArray) : List ByteArray := (l.set 0 (ix l (l.length - 1))).take (l.length - 1)
theorem tk_length (l : List ByteArray) : (tk l).length = l.length - 1 := by simp [tk]
theorem tk_ix (l : List ByteArray) (i : Nat) (hi : i < l.length - 1) : ix (tk l) i = if i = 0 then ix l (l.length - 1) else ix l i := by
  rw [← ix_set l 0 _ i (by omega)]
  unfold tk ix
  rw [List.getD_eq_getElem?_getD, List.getElem?_take, if_pos hi, ← List.getD_eq_getElem?_getD]
theorem tk_down {l : List ByteArray} (h : IsHeap l) : DownAt (tk l) 0 := by
  refine ⟨fun i hi hil hne => ?_, fun i hi hil hp h0 => by omega⟩
  rw [tk_length] at hil
  rw [tk_ix _ _ (by omega), tk_ix _ _ (by omega), if_neg hne, if_neg (by omega)]
  exact h i hi (by omega)
theorem tk_perm {l : List ByteArray} (h : 0 < l.length) : l.Perm (ix l 0 :: tk l) := by
  rcases List.eq_nil_or_concat l with rfl | ⟨m, x, rfl⟩
  · simp at h
  · rw [List.concat_eq_append] at *
    cases m with
    | nil => simp [tk, ix]
    | cons y m =>
      have e1 : ix ((y :: m) ++ [x]) 0 = y := rfl
      have e2 : tk ((y :: m) ++ [x]) = x :: m := by
        have e3 : ix ((y :: m) ++ [x]) (((y :: m) ++ [x]).length - 1) = x := by simp [ix, List.getD_eq_getElem?_getD]
        unfold tk
        rw [e3]
        simp
      rw [e1, e2]
      exact (List.perm_append_comm (l₁ := y :: m) (l₂ := [x])).trans (List.Perm.swap y x m)
theorem heap_min {l : List ByteArray} (h : IsHeap l) (y : ByteArray) (hy : y ∈ l) : leT (ix l 0) y := by
  obtain ⟨i, hi, rfl⟩ := List.getElem_of_mem hy
  have := heap_least h i hi
  have e : ix l i = l[i] := by
    unfold ix
    rw [List.getD_eq_getElem?_getD, List.getElem?_eq_getElem hi]
    rfl
  rwa [e] at this

/-- each text with the mark behind it -/
def linesT (ts : List ByteArray) : List UInt8 := ts.flatMap fun t => t.data.toList ++ [60]
theorem linesT_snoc (ts : List ByteArray) (t : ByteArray) : linesT (ts ++ [t]) = linesT ts ++ (t.data.toList ++ [60]) := by simp [linesT]
end Go.Proofs.YtlhflkpbccbofaaDoor
