/- What is read out of a tree is small; the code and the presence of a tree. -/
import Derived.Test.YticpebpicdboaaaGreatDoorGQ21
import Derived.Test.YticpebpicdboaaaGreatDoorGQ4
namespace Go.Proofs.YticpebpicdboaaaGreatDoor
open Go.ChangeShapes Go.WideShapes Go.ChangeAt Go.RowKit
set_option linter.unusedVariables false

theorem moved_all {P : It → Prop} {l : List It} (hP : ∀ i (by_ : Int), i < l.length → -1 ≤ by_ → by_ ≤ 1 → P ⟨(l.getD i dIt).depth + by_, (l.getD i dIt).text, (l.getD i dIt).space, (l.getD i dIt).name, (l.getD i dIt).attrs⟩) {i : Nat} (hi : i < l.length) : ∀ x ∈ movedTo l i (endL l i) (-1), P x := by
  intro x hx
  unfold movedTo at hx
  obtain ⟨j, hj, rfl⟩ := List.mem_map.1 hx
  have hj := List.mem_range.1 hj
  have := (endL_bounds hi).2
  exact hP (i + j) (-1) (by omega) (by decide) (by decide)
theorem moved_few {l : List It} (hR : Rises l) {i : Nat} (hi : i < l.length) : (movedTo l i (endL l i) (-1)).length ≤ 40 := by
  rw [movedTo_length]
  have := (endL_bounds hi).2
  have := hR.few
  omega
/-- what holds of a presence on its way -/
def WayPr (P : It → Prop) (m : Nat) (q : Pr) : Prop := ShortPr q ∧ (∀ x ∈ q.more, P x) ∧ q.more.length ≤ m
theorem kidOne_way {P : It → Prop} {l : List It} (hc : treeCode l = 0) (hP : ∀ i (by_ : Int), i < l.length → -1 ≤ by_ → by_ ≤ 1 → P ⟨(l.getD i dIt).depth + by_, (l.getD i dIt).text, (l.getD i dIt).space, (l.getD i dIt).name, (l.getD i dIt).attrs⟩) {i m : Nat} (hi : i < l.length)
    {s t : List ByteArray × Pr} (h : kidOne l i s = some t) (hw : WayPr P m s.2) : WayPr P (m + 40) t.2 := by
  obtain ⟨h1, h2, h3⟩ := hw
  unfold kidOne at h
  split at h
  · cases h
  · split at h
    · cases h
      refine ⟨⟨h1.s1, h1.s2, h1.s4⟩, fun x hx => ?_, ?_⟩
      · rcases List.mem_append.1 hx with hx | hx
        · exact h2 x hx
        · exact moved_all hP hi x hx
      · show (s.2.more ++ movedTo l i (endL l i) (-1)).length ≤ _
        rw [List.length_append]
        have := moved_few (rises_of hc) hi
        omega
    · split at h
      · cases h
      · cases hq : partP l i s.2 with
        | none => rw [hq] at h; cases h
        | some q =>
          rw [hq] at h
          cases h
          obtain ⟨k1, k2⟩ := partP_short hc hi h1 hq
          refine ⟨k1, fun x hx => h2 x ?_, ?_⟩
          · rw [← k2]; exact hx
          · show q.more.length ≤ _
            rw [k2]
            omega
theorem kidsF_way {P : It → Prop} {l : List It} (hc : treeCode l = 0) (hP : ∀ i (by_ : Int), i < l.length → -1 ≤ by_ → by_ ≤ 1 → P ⟨(l.getD i dIt).depth + by_, (l.getD i dIt).text, (l.getD i dIt).space, (l.getD i dIt).name, (l.getD i dIt).attrs⟩) {ks : List Int} (hk : ∀ j, j < ks.length → (ks.getD j 0).toNat < l.length) :
    ∀ (f j : Nat) (s : List ByteArray × Pr) (q : Pr) (m : Nat), j + f ≤ ks.length → WayPr P m s.2 → kidsF l ks f j s = some q → WayPr P (m + f * 40) q
  | 0, j, s, q, m, hj, hw, h => by
    unfold kidsF at h
    cases h
    exact ⟨hw.1, hw.2.1, by have := hw.2.2; omega⟩
  | f + 1, j, s, q, m, hj, hw, h => by
    unfold kidsF at h
    cases ht : kidOne l (ks.getD j 0).toNat s with
    | none => rw [ht] at h; cases h
    | some t =>
      rw [ht] at h
      have hw2 := kidOne_way hc hP (hk j (by omega)) ht hw
      have := kidsF_way hc hP hk f (j + 1) t q (m + 40) (by omega) hw2 h
      exact ⟨this.1, this.2.1, by have := this.2.2; omega⟩
theorem kidsL_lt {l : List It} (hR : Rises l) : ∀ j, j < (kidsL l 0).length → ((kidsL l 0).getD j 0).toNat < l.length := by
  intro j hj
  have h0 : 0 < l.length := hR.some
  rw [← kids_same hR h0] at hj ⊢
  rw [List.length_map] at hj
  rw [List.getD_eq_getElem?_getD, List.getElem?_map, List.getElem?_eq_getElem hj]
  exact kidsUp_lt (List.getElem_mem hj)
theorem kidsL_few {l : List It} (hR : Rises l) : (kidsL l 0).length ≤ 40 := by
  rw [← kids_same hR (by exact hR.some), List.length_map]
  have := kidsUp_len l l.length 0
  have := hR.few
  omega
theorem read_way {P : It → Prop} {l : List It} (hc : treeCode l = 0) (hP : ∀ i (by_ : Int), i < l.length → -1 ≤ by_ → by_ ≤ 1 → P ⟨(l.getD i dIt).depth + by_, (l.getD i dIt).text, (l.getD i dIt).space, (l.getD i dIt).name, (l.getD i dIt).attrs⟩) {q : Pr} (h : readP l = some q) : WayPr P 1600 q := by
  have hR := rises_of hc
  unfold readP at h
  cases hr : rootP (l.getD 0 dIt) dPr with
  | none => rw [hr] at h; cases h
  | some p =>
    rw [hr] at h
    have h1 := rootP_short hc hR.some hr
    have h2 := rootP_rest hr
    have hw := kidsF_way hc hP (kidsL_lt hR) _ 0 ([], p) q 0 (by omega) ⟨h1, fun x hx => (by rw [show (([], p) : List ByteArray × Pr).2.more = [] from h2] at hx; cases hx), by rw [show (([], p) : List ByteArray × Pr).2.more = [] from h2]; exact Nat.le_refl _⟩ h
    have := kidsL_few hR
    exact ⟨hw.1, hw.2.1, by have := hw.2.2; omega⟩
theorem mem_getD {l : List It} {i : Nat} (h : i < l.length) : l.getD i dIt ∈ l := by
  rw [List.getD_eq_getElem?_getD, List.getElem?_eq_getElem h]
  exact List.getElem_mem h
/-- what is read out of a small tree is small -/
theorem read_small {l : List It} (hc : treeCode l = 0) (hs : SmallIts l) {q : Pr} (h : readP l = some q) : SmallPr q ∧ q.more.length ≤ 1600 ∧ ∀ i, i < q.more.length → (-10 ≤ (q.more.getD i dIt).depth ∧ (q.more.getD i dIt).depth ≤ 10) ∧ SmallIt (q.more.getD i dIt) := by
  have hw := read_way (P := fun x => (-10 ≤ x.depth ∧ x.depth ≤ 10) ∧ SmallIt x) hc (fun i by_ hi h1 h2 => by
    have hb := (rises_of hc).bd i hi
    unfold dp at hb
    exact ⟨⟨by show _ ≤ (l.getD i dIt).depth + by_; omega, by show (l.getD i dIt).depth + by_ ≤ _; omega⟩, hs.2 i hi⟩) h
  have hg := fun i (hi : i < q.more.length) => hw.2.1 _ (mem_getD hi)
  have h1 := hw.1.s1
  have h2 := hw.1.s2
  have h4 := hw.1.s4
  have h5 := hw.2.2
  exact ⟨⟨⟨by omega, by omega, by omega⟩, by omega, fun i hi => (hg i hi).2⟩, h5, hg⟩
/-- the code that a tree is told, and the presence -/
def readCode (l : List It) : Int :=
  if treeCode l ≠ 0 then treeCode l else match readP l with | none => 1 | some q => presCode q
def readVal (l : List It) : Pr :=
  if treeCode l ≠ 0 then dPr else match readP l with | none => dPr | some q => if presCode q ≠ 0 then dPr else q
theorem read_bad {l : List It} (h : treeCode l ≠ 0) : readCode l = treeCode l ∧ readVal l = dPr := by
  unfold readCode readVal
  rw [if_pos h, if_pos h]
  exact ⟨rfl, rfl⟩
theorem read_none {l : List It} (h : treeCode l = 0) (hr : readP l = none) : readCode l = 1 ∧ readVal l = dPr := by
  unfold readCode readVal
  rw [if_neg (by simp [h]), if_neg (by simp [h]), hr]
  exact ⟨rfl, rfl⟩
theorem read_some {l : List It} (h : treeCode l = 0) {q : Pr} (hr : readP l = some q) : readCode l = presCode q ∧ readVal l = if presCode q ≠ 0 then dPr else q := by
  unfold readCode readVal
  rw [if_neg (by simp [h]), if_neg (by simp [h]), hr]
  exact ⟨rfl, rfl⟩
theorem readVal_few (l : List It) (hs : ∀ i, (l.getD i dIt).attrs.length ≤ 1048576) : ∀ i, ((readVal l).more.getD i dIt).attrs.length ≤ 1048576 := by
  intro i
  by_cases h : treeCode l = 0
  · cases hr : readP l with
    | none => rw [(read_none h hr).2]; exact Nat.zero_le _
    | some q =>
      rw [(read_some h hr).2]
      split
      · exact Nat.zero_le _
      · have hw := read_way (P := fun x => x.attrs.length ≤ 1048576) h (fun i by_ hi h1 h2 => hs i) hr
        rcases Nat.lt_or_ge i q.more.length with hi | hi
        · exact hw.2.1 _ (mem_getD hi)
        · rw [List.getD_eq_getElem?_getD, List.getElem?_eq_none hi]; decide
  · rw [(read_bad h).2]; exact Nat.zero_le _
end Go.Proofs.YticpebpicdboaaaGreatDoor
