/- The text of a node's kids is the model's text of an item. -/
import Derived.Test.YtjkmgpomcnplnaaGreatDoorGS24
import Derived.Test.YtjkmgpomcnplnaaGreatDoorGS28
import Derived.Test.YtjkmgpomcnplnaaGreatDoorGS12
import Derived.Test.YtjkmgpomcnplnaaGreatDoorGS25
import Derived.Test.YtjkmgpomcnplnaaGreatDoorGS17
import Derived.Test.YtjkmgpomcnplnaaGreatDoorGS0
import Derived.Test.YtjkmgpomcnplnaaGreatDoorGS23
import Derived.Test.YtjkmgpomcnplnaaGreatDoorGS8
import Derived.Deep.RegionHeld3
namespace Go.Proofs.YtjkmgpomcnplnaaGreatDoor
open Go.ChangeShapes Go.WideShapes Go.ChangeAt Go.RowKit
set_option linter.unusedSimpArgs false
set_option linter.unusedVariables false
theorem two_texts {l : List It} (h : treeCode l = 0) {i : Nat} (h1 : 1 ≤ i) (hi : i < l.length) (ha : (l.getD (i - 1) dIt).name.toList.isEmpty = true) (hb : (l.getD i dIt).name.toList.isEmpty = true) : dp l i ≠ dp l (i - 1) := by
  have hg := fun j (hj : j < l.length) => good_item h hj
  unfold treeCode at h
  split at h
  · omega
  · rw [find_no l dIt _ fun j hj => by simp only [hg j hj]; decide] at h
    have hs : stands l = true := by
      cases e : stands l
      · rw [e] at h; simp at h
      · rfl
    unfold stands at hs
    simp only [Bool.and_eq_true, List.all_eq_true, decide_eq_true_eq] at hs
    obtain ⟨_, hall⟩ := hs
    have := hall i (List.mem_range.2 hi)
    rw [Bool.or_eq_true, beq_iff_eq] at this
    rcases this with g | g
    · omega
    · unfold mayStand standB at g
      rw [Bool.not_eq_true', Bool.or_eq_false_iff, Bool.or_eq_false_iff, Bool.or_eq_false_iff] at g
      obtain ⟨_, g4⟩ := g
      rw [ha, hb] at g4
      simp at g4
      exact g4
theorem text_size {x : It} (h : itemCode x = 0) (he : x.name.toList.isEmpty = true) : x.text.size ≤ 60 := by
  unfold itemCode at h
  split at h
  · omega
  · try rw [if_pos he] at h
    unfold textCode at h
    split at h
    · omega
    · unfold textFault at h
      split at h
      · omega
      · rename_i h2
        simp at h2
        exact h2
theorem in_elem {l : List It} {ks : List Nat} {b : Nat} (hb : b ∈ ks) (he : (l.getD b dIt).name.toList.isEmpty = false) : inC l ks = 1 ∧ inT l ks = ⟨#[]⟩ := by
  obtain ⟨j, hj, e⟩ := List.mem_iff_getElem.1 hb
  refine in_no hj ?_
  have e2 : ks.getD j 0 = b := by rw [List.getD_eq_getElem?_getD, List.getElem?_eq_getElem hj, Option.getD_some, e]
  unfold isTx
  rw [e2]
  exact he
theorem in_text {l : List It} (h : treeCode l = 0) {a : Nat} (ha : a < l.length) :
    inC l (kidsUp l l.length a) = (if (textL l a).isSome then 0 else 1) ∧ inT l (kidsUp l l.length a) = txtT (textL l a) := by
  have R := rises_of h
  have hbd := endL_bounds ha
  have hks := kids_same R ha
  have hmem : ∀ b, b < l.length → a < b → b < endL l a → dp l b = dp l a + 1 → b ∈ kidsUp l l.length a := fun b hb h1 h2 h3 => by
    unfold kidsUp
    rw [List.mem_filter, List.mem_range]
    exact ⟨hb, (kid_iff R ha hb).2 ⟨h1, h2, h3⟩⟩
  unfold kidsL kidsTo at hks
  unfold textL
  rcases Nat.lt_or_ge (a + 1) (endL l a) with g | g
  · have hb : a + 1 < l.length := by omega
    have d1 := endL_in (l := l) (a := a) (i := a + 1) (by omega) g
    have d2 := (R.step (a + 1) (by omega) hb).2
    rw [Nat.add_sub_cancel] at d2
    have d3 : dp l (a + 1) = dp l a + 1 := by omega
    obtain ⟨f, hf⟩ : ∃ f, endL l a - (a + 1) = f + 1 := ⟨endL l a - (a + 1) - 1, by omega⟩
    cases hn : (l.getD (a + 1) dIt).name.toList.isEmpty
    · obtain ⟨e1, e2⟩ := in_elem (hmem (a + 1) hb (by omega) g d3) hn
      rw [hf, e1, e2, textF, hn]
      exact ⟨rfl, rfl⟩
    · rcases Nat.lt_or_ge (a + 2) (endL l a) with g2 | g2
      · have hb2 : a + 2 < l.length := by omega
        have c1 := endL_in (l := l) (a := a) (i := a + 2) (by omega) g2
        have c2 := R.text (a + 2) (by omega) hb2 (by rw [show a + 2 - 1 = a + 1 from by omega]; exact hn)
        rw [show a + 2 - 1 = a + 1 from by omega] at c2
        have hn2 : (l.getD (a + 2) dIt).name.toList.isEmpty = false := by
          cases e : (l.getD (a + 2) dIt).name.toList.isEmpty
          · rfl
          · have := two_texts h (i := a + 2) (by omega) hb2 (by rw [show a + 2 - 1 = a + 1 from by omega]; exact hn) e
            rw [show a + 2 - 1 = a + 1 from by omega] at this
            omega
        obtain ⟨e1, e2⟩ := in_elem (hmem (a + 2) hb2 (by omega) g2 (by omega)) hn2
        obtain ⟨f2, rfl⟩ : ∃ f2, f = f2 + 1 := ⟨f - 1, by omega⟩
        rw [hf, e1, e2, textF, hn, if_pos rfl, textF, show a + 1 + 1 = a + 2 from rfl, hn2]
        exact ⟨rfl, rfl⟩
      · obtain rfl : f = 0 := by omega
        rw [hf] at hks ⊢
        have hq : ((l.getD (a + 1) dIt).depth == (l.getD a dIt).depth + 1) = true := by
          rw [beq_iff_eq]
          exact d3
        rw [List.range'_succ, List.range'_zero, List.filter_cons, if_pos hq, List.filter_nil, List.map_cons, List.map_nil, List.map_eq_singleton_iff] at hks
        obtain ⟨b, hb1, hb2⟩ := hks
        obtain rfl : b = a + 1 := by omega
        have hsz := text_size (good_item h hb) hn
        rw [hb1]
        obtain ⟨e1, e2⟩ := in_yes (l := l) (ks := [a + 1]) (fun j hj => by
          have : j = 0 := by simpa using hj
          subst this
          exact hn)
        have hj : joinT l [a + 1] [a + 1].length = ByteArray.empty ++ (l.getD (a + 1) dIt).text := rfl
        have hj2 : ¬ 60 < (joinT l [a + 1] [a + 1].length).size := by
          rw [hj, ByteArray.size_append]
          simp
          exact hsz
        rw [if_neg hj2] at e1 e2
        rw [e1, e2, textF, hn, if_pos rfl, textF]
        exact ⟨rfl, rfl⟩
  · have hf : endL l a - (a + 1) = 0 := by omega
    rw [hf] at hks ⊢
    rw [List.range'_zero, List.filter_nil, List.map_nil, List.map_eq_nil_iff] at hks
    rw [hks]
    exact ⟨rfl, rfl⟩
theorem textL_size {l : List It} (h : treeCode l = 0) {a : Nat} (ha : a < l.length) {t : ByteArray} (ht : textL l a = some t) : t.size ≤ 60 := by
  obtain ⟨h1, h2⟩ := in_text h ha
  rw [ht] at h1 h2
  simp only [Option.isSome_some, if_true] at h1
  unfold txtT at h2
  dsimp only at h2
  unfold inC at h1
  unfold inT at h2
  by_cases hall : (List.range (kidsUp l l.length a).length).all (isTx l (kidsUp l l.length a)) = true
  · rw [if_pos hall] at h1 h2
    by_cases h60 : 60 < (joinT l (kidsUp l l.length a) (kidsUp l l.length a).length).size
    · rw [if_pos h60] at h1
      cases h1
    · rw [if_neg h60] at h2
      rw [← h2]
      omega
  · rw [if_neg hall] at h1
    cases h1
structure ShortPr (p : Pr) : Prop where
  s1 : p.sender.size ≤ 60
  s2 : p.goal.size ≤ 60
  s4 : p.status.size ≤ 60
theorem atts_small {x : It} (hg : itemCode x = 0) : x.attrs.length ≤ 5 ∧ ∀ j, j < x.attrs.length → (x.attrs.getD j dAt).value.size ≤ 60 := by
  cases he : x.name.toList.isEmpty
  · unfold itemCode at hg
    split at hg
    · omega
    · rw [if_neg (by rw [he]; simp)] at hg
      unfold elemCode at hg
      split at hg
      · omega
      · split at hg
        · omega
        · split at hg
          · unfold attrsCode at hg
            split at hg
            · omega
            · rename_i h5
              refine ⟨by omega, fun j hj => ?_⟩
              cases hf : x.attrs.find? (fun x => atFault x != 0) with
              | some y =>
                rw [hf] at hg
                have := List.find?_some hf
                rw [bne_iff_ne] at this
                exact absurd hg this
              | none =>
                have h2 := List.find?_eq_none.1 hf (x.attrs.getD j dAt) (by rw [List.getD_eq_getElem?_getD, List.getElem?_eq_getElem hj]; exact List.getElem_mem hj)
                have h3 : atFault (x.attrs.getD j dAt) = 0 := by simpa using h2
                generalize x.attrs.getD j dAt = y at h3
                unfold atFault at h3
                split at h3
                · unfold textFault at h3
                  split at h3
                  · omega
                  · rename_i h6
                    simp at h6
                    exact h6
                · omega
          · rename_i h3
            exact absurd hg h3
  · have e := text_attrs hg he
    rw [e]
    exact ⟨by decide, fun j hj => by simp at hj⟩
theorem atts_size {l : List It} (h : treeCode l = 0) {i : Nat} (hi : i < l.length) : (l.getD i dIt).attrs.length ≤ 5 ∧ ∀ j, j < (l.getD i dIt).attrs.length → ((l.getD i dIt).attrs.getD j dAt).value.size ≤ 60 := by
  have hg := good_item h hi
  generalize l.getD i dIt = x at hg
  exact atts_small hg
theorem rootOne_short {x : At} {p q : Pr} (hx : x.value.size ≤ 60) (hp : ShortPr p) (h : rootOne x p = some q) : ShortPr q := by
  unfold rootOne at h
  split at h
  · cases h; exact ⟨hx, hp.s2, hp.s4⟩
  · split at h
    · cases h; exact ⟨hp.s1, hx, hp.s4⟩
    · split at h
      · split at h
        · cases h
        · cases h; exact ⟨hp.s1, hp.s2, hp.s4⟩
      · cases h
theorem rootF_short {l : List At} (hl : ∀ i, i < l.length → (l.getD i dAt).value.size ≤ 60) : ∀ {f i : Nat} {p q : Pr}, i + f ≤ l.length → ShortPr p → rootF l f i p = some q → ShortPr q
  | 0, i, p, q, _, hp, h => by cases h; exact hp
  | f + 1, i, p, q, hif, hp, h => by
    cases h1 : rootOne (l.getD i dAt) p with
    | none => rw [rootF_stop h1] at h; cases h
    | some r =>
      rw [rootF_step h1] at h
      exact rootF_short hl (by omega) (rootOne_short (hl i (by omega)) hp h1) h
theorem dPr_short : ShortPr dPr := ⟨by decide, by decide, by decide⟩
theorem rootP_short {l : List It} (h : treeCode l = 0) (h0 : 0 < l.length) {q : Pr} (hq : rootP (l.getD 0 dIt) dPr = some q) : ShortPr q := by
  unfold rootP at hq
  split at hq
  · exact rootF_short (atts_size h h0).2 (by omega) dPr_short hq
  · cases hq
theorem rootP_rest {x : It} {q : Pr} (hq : rootP x dPr = some q) : q.more = [] := by
  unfold rootP at hq
  split at hq
  · exact (rootF_rest hq).2.2.2
  · cases hq
theorem partP_short {l : List It} (h : treeCode l = 0) {i : Nat} (hi : i < l.length) {p q : Pr} (hp : ShortPr p) (hq : partP l i p = some q) : ShortPr q ∧ q.more = p.more := by
  unfold partP at hq
  cases ht : textL l i with
  | none => rw [ht] at hq; cases hq
  | some t =>
    have h60 := textL_size h hi ht
    rw [ht] at hq
    dsimp only at hq
    split at hq
    · cases hq
    · split at hq
      · split at hq
        · cases hq
        · cases hq; exact ⟨⟨hp.s1, hp.s2, hp.s4⟩, rfl⟩
      · split at hq
        · cases hq; exact ⟨⟨hp.s1, hp.s2, h60⟩, rfl⟩
        · split at hq
          · split at hq
            · cases hq; exact ⟨⟨hp.s1, hp.s2, hp.s4⟩, rfl⟩
            · cases hq
          · cases hq
theorem moved_all {P : It → Prop} {l : List It} (hP : ∀ i (by_ : Int), i < l.length → -1 ≤ by_ → by_ ≤ 1 → P ⟨(l.getD i dIt).depth + by_, (l.getD i dIt).text, (l.getD i dIt).space, (l.getD i dIt).name, (l.getD i dIt).attrs⟩) {i : Nat} (hi : i < l.length) : ∀ x ∈ movedTo l i (endL l i) (-1), P x := by
  intro x hx
  unfold movedTo at hx
  obtain ⟨j, hj, rfl⟩ := List.mem_map.1 hx
  have hj := List.mem_range.1 hj
  have := (endL_bounds hi).2
  exact hP (i + j) (-1) (by omega) (by decide) (by decide)
theorem moved_few {l : List It} (hR : Rises l) {i : Nat} (hi : i < l.length) : (movedTo l i (endL l i) (-1)).length ≤ 40 := by
  rw [movedTo_length]
  have := (endL_bounds hi).2
  have := hR.few
  omega
def WayPr (P : It → Prop) (m : Nat) (q : Pr) : Prop := ShortPr q ∧ (∀ x ∈ q.more, P x) ∧ q.more.length ≤ m
theorem kidOne_way {P : It → Prop} {l : List It} (hc : treeCode l = 0) (hP : ∀ i (by_ : Int), i < l.length → -1 ≤ by_ → by_ ≤ 1 → P ⟨(l.getD i dIt).depth + by_, (l.getD i dIt).text, (l.getD i dIt).space, (l.getD i dIt).name, (l.getD i dIt).attrs⟩) {i m : Nat} (hi : i < l.length)
    {s t : List ByteArray × Pr} (h : kidOne l i s = some t) (hw : WayPr P m s.2) : WayPr P (m + 40) t.2 := by
  obtain ⟨h1, h2, h3⟩ := hw
  unfold kidOne at h
  split at h
  · cases h
  · split at h
    · cases h
      refine ⟨⟨h1.s1, h1.s2, h1.s4⟩, fun x hx => ?_, ?_⟩
      · rcases List.mem_append.1 hx with hx | hx
        · exact h2 x hx
        · exact moved_all hP hi x hx
      · show (s.2.more ++ movedTo l i (endL l i) (-1)).length ≤ _
        rw [List.length_append]
        have := moved_few (rises_of hc) hi
        omega
    · split at h
      · cases h
      · cases hq : partP l i s.2 with
        | none => rw [hq] at h; cases h
        | some q =>
          rw [hq] at h
          cases h
          obtain ⟨k1, k2⟩ := partP_short hc hi h1 hq
          refine ⟨k1, fun x hx => h2 x ?_, ?_⟩
          · rw [← k2]; exact hx
          · show q.more.length ≤ _
            rw [k2]
            omega
theorem kidsF_way {P : It → Prop} {l : List It} (hc : treeCode l = 0) (hP : ∀ i (by_ : Int), i < l.length → -1 ≤ by_ → by_ ≤ 1 → P ⟨(l.getD i dIt).depth + by_, (l.getD i dIt).text, (l.getD i dIt).space, (l.getD i dIt).name, (l.getD i dIt).attrs⟩) {ks : List Int} (hk : ∀ j, j < ks.length → (ks.getD j 0).toNat < l.length) :
    ∀ (f j : Nat) (s : List ByteArray × Pr) (q : Pr) (m : Nat), j + f ≤ ks.length → WayPr P m s.2 → kidsF l ks f j s = some q → WayPr P (m + f * 40) q
  | 0, j, s, q, m, hj, hw, h => by
    unfold kidsF at h
    cases h
    exact ⟨hw.1, hw.2.1, by have := hw.2.2; omega⟩
  | f + 1, j, s, q, m, hj, hw, h => by
    unfold kidsF at h
    cases ht : kidOne l (ks.getD j 0).toNat s with
    | none => rw [ht] at h; cases h
    | some t =>
      rw [ht] at h
      have hw2 := kidOne_way hc hP (hk j (by omega)) ht hw
      have := kidsF_way hc hP hk f (j + 1) t q (m + 40) (by omega) hw2 h
      exact ⟨this.1, this.2.1, by have := this.2.2; omega⟩
theorem kidsL_lt {l : List It} (hR : Rises l) : ∀ j, j < (kidsL l 0).length → ((kidsL l 0).getD j 0).toNat < l.length := by
  intro j hj
  have h0 : 0 < l.length := hR.some
  rw [← kids_same hR h0] at hj ⊢
  rw [List.length_map] at hj
  rw [List.getD_eq_getElem?_getD, List.getElem?_map, List.getElem?_eq_getElem hj]
  exact kidsUp_lt (List.getElem_mem hj)
theorem kidsL_few {l : List It} (hR : Rises l) : (kidsL l 0).length ≤ 40 := by
  rw [← kids_same hR (by exact hR.some), List.length_map]
  have := kidsUp_len l l.length 0
  have := hR.few
  omega
theorem read_way {P : It → Prop} {l : List It} (hc : treeCode l = 0) (hP : ∀ i (by_ : Int), i < l.length → -1 ≤ by_ → by_ ≤ 1 → P ⟨(l.getD i dIt).depth + by_, (l.getD i dIt).text, (l.getD i dIt).space, (l.getD i dIt).name, (l.getD i dIt).attrs⟩) {q : Pr} (h : readP l = some q) : WayPr P 1600 q := by
  have hR := rises_of hc
  unfold readP at h
  cases hr : rootP (l.getD 0 dIt) dPr with
  | none => rw [hr] at h; cases h
  | some p =>
    rw [hr] at h
    have h1 := rootP_short hc hR.some hr
    have h2 := rootP_rest hr
    have hw := kidsF_way hc hP (kidsL_lt hR) _ 0 ([], p) q 0 (by omega) ⟨h1, fun x hx => (by rw [show (([], p) : List ByteArray × Pr).2.more = [] from h2] at hx; cases hx), by rw [show (([], p) : List ByteArray × Pr).2.more = [] from h2]; exact Nat.le_refl _⟩ h
    have := kidsL_few hR
    exact ⟨hw.1, hw.2.1, by have := hw.2.2; omega⟩
theorem mem_getD {l : List It} {i : Nat} (h : i < l.length) : l.getD i dIt ∈ l := by
  rw [List.getD_eq_getElem?_getD, List.getElem?_eq_getElem h]
  exact List.getElem_mem h
theorem read_small {l : List It} (hc : treeCode l = 0) (hs : SmallIts l) {q : Pr} (h : readP l = some q) : SmallPr q ∧ q.more.length ≤ 1600 ∧ ∀ i, i < q.more.length → (-10 ≤ (q.more.getD i dIt).depth ∧ (q.more.getD i dIt).depth ≤ 10) ∧ SmallIt (q.more.getD i dIt) := by
  have hw := read_way (P := fun x => (-10 ≤ x.depth ∧ x.depth ≤ 10) ∧ SmallIt x) hc (fun i by_ hi h1 h2 => by
    have hb := (rises_of hc).bd i hi
    unfold dp at hb
    exact ⟨⟨by show _ ≤ (l.getD i dIt).depth + by_; omega, by show (l.getD i dIt).depth + by_ ≤ _; omega⟩, hs.2 i hi⟩) h
  have hg := fun i (hi : i < q.more.length) => hw.2.1 _ (mem_getD hi)
  have h1 := hw.1.s1
  have h2 := hw.1.s2
  have h4 := hw.1.s4
  have h5 := hw.2.2
  exact ⟨⟨⟨by omega, by omega, by omega⟩, by omega, fun i hi => (hg i hi).2⟩, h5, hg⟩
def readCode (l : List It) : Int :=
  if treeCode l ≠ 0 then treeCode l else match readP l with | none => 1 | some q => presCode q
def readVal (l : List It) : Pr :=
  if treeCode l ≠ 0 then dPr else match readP l with | none => dPr | some q => if presCode q ≠ 0 then dPr else q
theorem read_bad {l : List It} (h : treeCode l ≠ 0) : readCode l = treeCode l ∧ readVal l = dPr := by
  unfold readCode readVal
  rw [if_pos h, if_pos h]
  exact ⟨rfl, rfl⟩
theorem read_none {l : List It} (h : treeCode l = 0) (hr : readP l = none) : readCode l = 1 ∧ readVal l = dPr := by
  unfold readCode readVal
  rw [if_neg (by simp [h]), if_neg (by simp [h]), hr]
  exact ⟨rfl, rfl⟩
theorem read_some {l : List It} (h : treeCode l = 0) {q : Pr} (hr : readP l = some q) : readCode l = presCode q ∧ readVal l = if presCode q ≠ 0 then dPr else q := by
  unfold readCode readVal
  rw [if_neg (by simp [h]), if_neg (by simp [h]), hr]
  exact ⟨rfl, rfl⟩
theorem kind_index (k : Int) (h1 : 1 ≤ k) (h2 : k ≤ 6) : hasIx kindWs (kindW k) = k := by
  have key : (List.range 6).all (fun j => decide (hasIx kindWs (kindWs.getD (j + 1) ByteArray.empty) = ((j + 1 : Nat) : Int))) = true := by decide +kernel
  rw [List.all_eq_true] at key
  have := key (k.toNat - 1) (List.mem_range.2 (by omega))
  rw [decide_eq_true_eq, show k.toNat - 1 + 1 = k.toNat by omega] at this
  unfold kindW
  omega
theorem show_index (k : Int) (h1 : 1 ≤ k) (h2 : k ≤ 4) : hasIx showWs (showW k) = k := by
  have key : (List.range 4).all (fun j => decide (hasIx showWs (showWs.getD (j + 1) ByteArray.empty) = ((j + 1 : Nat) : Int))) = true := by decide +kernel
  rw [List.all_eq_true] at key
  have := key (k.toNat - 1) (List.mem_range.2 (by omega))
  rw [decide_eq_true_eq, show k.toNat - 1 + 1 = k.toNat by omega] at this
  unfold showW
  omega
theorem kind_none : (kindW 0).toList.isEmpty = true := by decide +kernel
theorem show_none : (showW 0).toList.isEmpty = true := by decide +kernel
theorem bytes_none {s : ByteArray} (h : s.toList.isEmpty = true) : s = ByteArray.empty := by
  apply ByteArray.ext
  rw [ByteArray.toList_eq] at h
  apply Array.ext'
  have h2 : s.data.toList = [] := List.isEmpty_iff.1 h
  rw [h2]
  rfl
theorem from_one (s : ByteArray) (p : Pr) : rootOne ⟨fromT, s⟩ p = some { p with sender := s } := by unfold rootOne; rw [if_pos rfl]
theorem to_one (s : ByteArray) (p : Pr) : rootOne ⟨toT, s⟩ p = some { p with goal := s } := by
  unfold rootOne
  rw [if_neg (by show ¬ toT.toList = fromT.toList; decide +kernel), if_pos rfl]
theorem type_one (k : Int) (h1 : 1 ≤ k) (h2 : k ≤ 6) (p : Pr) : rootOne ⟨typeT, kindW k⟩ p = some { p with kind := k } := by
  unfold rootOne
  rw [if_neg (by show ¬ typeT.toList = fromT.toList; decide +kernel), if_neg (by show ¬ typeT.toList = toT.toList; decide +kernel), if_pos rfl]
  show (if hasIx kindWs (kindW k) < 1 then none else some { p with kind := hasIx kindWs (kindW k) }) = _
  rw [kind_index k h1 h2, if_neg (by omega)]
theorem rootF_G (l : List At) : ∀ (f i : Nat) (p : Pr), i + f = l.length → rootF l f i p = (l.drop i).foldlM (fun q x => rootOne x q) p
  | 0, i, p, h => by rw [List.drop_of_length_le (by omega)]; rfl
  | f + 1, i, p, h => by
    rw [List.drop_eq_getElem_cons (show i < l.length by omega), List.foldlM_cons]
    have e : l.getD i dAt = l[i]'(by omega) := by rw [List.getD_eq_getElem?_getD, List.getElem?_eq_getElem (by omega)]; rfl
    rw [rootF, e]
    cases rootOne (l[i]'(by omega)) p with
    | none => rfl
    | some q => exact rootF_G l f (i + 1) q (by omega)
theorem root_reads {p : Pr} (h : presCode p = 0) : rootP (rootI p) dPr = some { dPr with kind := p.kind, sender := p.sender, goal := p.goal } := by
  obtain ⟨i0, i1, i2, t1, t2, t3, hf, hm⟩ := pres_parts h
  have e1 : (rootI p).name.toList = prT.toList ∧ (rootI p).space.toList = csL := ⟨rfl, by show csT.toList = csL; decide +kernel⟩
  unfold rootP
  rw [if_pos e1, rootF_G _ _ 0 _ (by show 0 + (attrs3 p).length = (attrs3 p).length; omega), List.drop_zero]
  show (attrs3 p).foldlM (fun q x => rootOne x q) dPr = _
  rw [← filled_three]
  unfold filledL
  obtain ⟨pk, pf, pt, ps, pu, pp, pm⟩ := p
  dsimp only at *
  rcases Decidable.em (pk = 0) with rfl | hk0
  · have e3 : (!(kindW 0).toList.isEmpty) = false := by rw [kind_none]; rfl
    cases hs : pf.toList.isEmpty <;> cases hg : pt.toList.isEmpty
    all_goals
      try have := bytes_none hs
      try have := bytes_none hg
      try subst pf
      try subst pt
      simp only [List.filter_cons, List.filter_nil, hs, hg, e3, Bool.not_false, Bool.not_true, if_true, if_false, reduceIte, Bool.false_eq_true]
      simp only [List.foldlM_cons, List.foldlM_nil, from_one, to_one]
      rfl
  · have hk1 : (!(kindW pk).toList.isEmpty) = true := by
      have key : (List.range 6).all (fun j => !(kindWs.getD (j + 1) ByteArray.empty).toList.isEmpty) = true := by decide +kernel
      rw [List.all_eq_true] at key
      have := key (pk.toNat - 1) (List.mem_range.2 (by omega))
      rw [show pk.toNat - 1 + 1 = pk.toNat by omega] at this
      exact this
    have e3 := type_one pk (by omega) i0.2
    cases hs : pf.toList.isEmpty <;> cases hg : pt.toList.isEmpty
    all_goals
      try have := bytes_none hs
      try have := bytes_none hg
      try subst pf
      try subst pt
      simp only [List.filter_cons, List.filter_nil, hs, hg, hk1, Bool.not_false, Bool.not_true, if_true, if_false, reduceIte, Bool.false_eq_true]
      simp only [List.foldlM_cons, List.foldlM_nil, from_one, to_one, e3]
      rfl
def Top (l : List It) : Prop := l = [] ∨ (l.getD 0 dIt).depth = 1
theorem Top.app {a b : List It} (ha : Top a) (hb : Top b) : Top (a ++ b) := by
  rcases ha with rfl | ha
  · exact hb
  · cases a with
    | nil => exact hb
    | cons x a => exact .inr ha
theorem part_top (nm t : ByteArray) : Top (partL nm t) := by
  unfold partL
  split
  · exact .inl rfl
  · exact .inr rfl
theorem get_mid (a b c : List It) (i : Nat) (h : i < b.length) : (a ++ (b ++ c)).getD (a.length + i) dIt = b.getD i dIt := by
  rw [List.getD_eq_getElem?_getD, List.getElem?_append_right (by omega), show a.length + i - a.length = i by omega, List.getElem?_append_left h, ← List.getD_eq_getElem?_getD]
theorem top_mid (a c : List It) (h : Top c) : a.length = (a ++ c).length ∨ ((a ++ c).getD a.length dIt).depth ≤ 1 := by
  rcases h with rfl | h
  · left; simp
  · right
    rw [List.getD_eq_getElem?_getD, List.getElem?_append_right (by omega), Nat.sub_self, ← List.getD_eq_getElem?_getD]
    omega
theorem part_deep (nm t : ByteArray) : ∀ x ∈ partL nm t, 1 ≤ x.depth := by
  unfold partL
  split
  · intro x hx; cases hx
  · intro x hx
    simp only [List.mem_cons, List.not_mem_nil, or_false] at hx
    rcases hx with rfl | rfl
    · show (1 : Int) ≤ 1; decide
    · show (1 : Int) ≤ 2; decide
theorem part_shown {l : List It} {j : Nat} {q : Pr} (k : Int) (h1 : 1 ≤ k) (h2 : k ≤ 4) (ht : textL l j = some (showW k)) (h0 : l.getD j dIt = ⟨1, ⟨#[]⟩, csT, showNm, []⟩) : partP l j q = some { q with shown := k } := by
  unfold partP
  rw [ht, h0]
  show (if ([] : List At).length ≠ 0 then none else if showNm.toList = showNm.toList then (if hasIx showWs (showW k) < 1 then none else some { q with shown := hasIx showWs (showW k) }) else _) = _
  rw [if_neg (by decide), if_pos rfl, show_index k h1 h2, if_neg (by omega)]
theorem part_status {l : List It} {j : Nat} {q : Pr} (t : ByteArray) (ht : textL l j = some t) (h0 : l.getD j dIt = ⟨1, ⟨#[]⟩, csT, statusNm, []⟩) : partP l j q = some { q with status := t } := by
  unfold partP
  rw [ht, h0]
  show (if ([] : List At).length ≠ 0 then none else if statusNm.toList = showNm.toList then _ else if statusNm.toList = statusNm.toList then some { q with status := t } else _) = _
  rw [if_neg (by decide), if_neg (by decide +kernel), if_pos rfl]
theorem part_prio {l : List It} {j : Nat} {q : Pr} (n : Int) (h1 : -999 ≤ n) (h2 : n ≤ 999) (ht : textL l j = some (numT n)) (h0 : l.getD j dIt = ⟨1, ⟨#[]⟩, csT, prioNm, []⟩) : partP l j q = some { q with prio := n } := by
  unfold partP
  rw [ht, h0]
  have e : (numT n).toList = (numT n).data.toList := ByteArray.toList_eq _
  show (if ([] : List At).length ≠ 0 then none else if prioNm.toList = showNm.toList then _ else if prioNm.toList = statusNm.toList then _ else if prioNm.toList = prioNm.toList then (match numOf (numT n).toList with | some n => some { q with prio := n } | none => none) else none) = _
  rw [if_neg (by decide), if_neg (by decide +kernel), if_neg (by decide +kernel), if_pos rfl, e, numOf_text n h1 h2]
theorem show_nm : showNm.toList.isEmpty = false ∧ statusNm.toList.isEmpty = false ∧ prioNm.toList.isEmpty = false := by refine ⟨?_, ?_, ?_⟩ <;> decide +kernel
theorem not_seen : hasIx [] showNm < 0 ∧ hasIx [] statusNm < 0 ∧ hasIx [showNm] statusNm < 0 ∧ hasIx [] prioNm < 0 ∧ hasIx [showNm] prioNm < 0 ∧ hasIx [statusNm] prioNm < 0 ∧ hasIx [showNm, statusNm] prioNm < 0 := by refine ⟨?_, ?_, ?_, ?_, ?_, ?_, ?_⟩ <;> decide +kernel
theorem moved_back (A m : List It) : movedTo (A ++ movedTo m 0 m.length 1) A.length (A ++ movedTo m 0 m.length 1).length (-1) = m := by
  apply List.ext_getElem
  · rw [movedTo_length, List.length_append, movedTo_length]; omega
  · intro i h1 h2
    have e1 := movedTo_get (A ++ movedTo m 0 m.length 1) A.length (A ++ movedTo m 0 m.length 1).length (-1) i (by rwa [movedTo_length] at h1)
    rw [List.getD_eq_getElem?_getD, List.getElem?_eq_getElem h1, Option.getD_some] at e1
    have e2 : (A ++ movedTo m 0 m.length 1).getD (A.length + i) dIt = (movedTo m 0 m.length 1).getD i dIt := by
      rw [List.getD_eq_getElem?_getD, List.getElem?_append_right (by omega), show A.length + i - A.length = i by omega, ← List.getD_eq_getElem?_getD]
    rw [e1, e2, movedTo_get m 0 m.length 1 i (by omega), Nat.zero_add, List.getD_eq_getElem?_getD, List.getElem?_eq_getElem h2, Option.getD_some]
    show (⟨m[i].depth + 1 + -1, _, _, _, _⟩ : It) = m[i]
    rw [show m[i].depth + 1 + -1 = m[i].depth by omega]
theorem tree_reads {p : Pr} (h : presCode p = 0) : readP (treeL p) = some p := by
  obtain ⟨i0, i1, i2, t1, t2, t3, hf, hm⟩ := pres_parts h
  obtain ⟨m1, m2, m3⟩ := more_parts hm
  obtain ⟨n1, n2, n3⟩ := show_nm
  obtain ⟨s1, s2, s3, s4, s5, s6, s7⟩ := not_seen
  have hroot := root_reads h
  obtain ⟨P1, hP1⟩ : ∃ P1, partL showNm (showW p.shown) = P1 := ⟨_, rfl⟩
  obtain ⟨P2, hP2⟩ : ∃ P2, partL statusNm p.status = P2 := ⟨_, rfl⟩
  obtain ⟨P3, hP3⟩ : ∃ P3, partL prioNm (prioT p.prio) = P3 := ⟨_, rfl⟩
  obtain ⟨M, hM⟩ : ∃ M, movedTo p.more 0 p.more.length 1 = M := ⟨_, rfl⟩
  have hMl : M.length = p.more.length := by rw [← hM, movedTo_length, Nat.sub_zero]
  have hMg : ∀ i, i < M.length → M.getD i dIt = ⟨(p.more.getD i dIt).depth + 1, (p.more.getD i dIt).text, (p.more.getD i dIt).space, (p.more.getD i dIt).name, (p.more.getD i dIt).attrs⟩ := fun i hi => by
    rw [← hM, movedTo_get p.more 0 p.more.length 1 i (by omega), Nat.zero_add]
  have hT : treeL p = [rootI p] ++ (P1 ++ (P2 ++ (P3 ++ M))) := by
    unfold treeL headL
    rw [hP1, hP2, hP3, hM]
    simp only [List.append_assoc]
  have hB := moved_back ([rootI p] ++ P1 ++ P2 ++ P3) p.more
  rw [hM] at hB
  have hTB : [rootI p] ++ P1 ++ P2 ++ P3 ++ M = treeL p := by rw [hT]; simp only [List.append_assoc]
  rw [hTB] at hB
  have hlen : (treeL p).length = 1 + (P1.length + (P2.length + (P3.length + M.length))) := by rw [hT]; simp only [List.length_append, List.length_cons, List.length_nil]
  have hhl : ([rootI p] ++ P1 ++ P2 ++ P3).length = 1 + P1.length + P2.length + P3.length := by simp only [List.length_append, List.length_cons, List.length_nil]
  rw [hhl] at hB
  have tM : Top M := by
    by_cases h0 : 0 < M.length
    · right
      rw [hMg 0 h0]
      have h1 := m3 0 (by omega)
      unfold moreStand at h1
      rw [Bool.and_eq_true] at h1
      rcases head_yes h1.1 with ⟨e1, _, _⟩ | ⟨_, e2⟩
      · have e1' : (p.more.getD 0 dIt).depth = 0 := by simpa using e1
        show (p.more.getD 0 dIt).depth + 1 = 1
        omega
      · simp at e2
    · left
      exact List.length_eq_zero_iff.1 (by omega)
  have t3' : Top (P3 ++ M) := (hP3 ▸ part_top _ _).app tM
  have t2' : Top (P2 ++ (P3 ++ M)) := (hP2 ▸ part_top _ _).app t3'
  have g1 : ∀ i, i < P1.length → (treeL p).getD (1 + i) dIt = P1.getD i dIt := fun i hi => by rw [hT]; exact get_mid [rootI p] P1 _ i hi
  have g2 : ∀ i, i < P2.length → (treeL p).getD (1 + P1.length + i) dIt = P2.getD i dIt := fun i hi => by
    have := get_mid ([rootI p] ++ P1) P2 (P3 ++ M) i hi
    rw [List.append_assoc, ← hT] at this
    rw [show 1 + P1.length = ([rootI p] ++ P1).length by simp only [List.length_append, List.length_cons, List.length_nil]]
    exact this
  have g3 : ∀ i, i < P3.length → (treeL p).getD (1 + P1.length + P2.length + i) dIt = P3.getD i dIt := fun i hi => by
    have := get_mid ([rootI p] ++ P1 ++ P2) P3 M i hi
    rw [← List.append_assoc, hTB] at this
    rw [show 1 + P1.length + P2.length = ([rootI p] ++ P1 ++ P2).length by simp only [List.length_append, List.length_cons, List.length_nil]]
    exact this
  have gM : ∀ i, 1 + P1.length + P2.length + P3.length ≤ i → i < (treeL p).length → (treeL p).getD i dIt = M.getD (i - (1 + P1.length + P2.length + P3.length)) dIt := fun i h1 h2 => by
    rw [← hTB, List.getD_eq_getElem?_getD, List.getElem?_append_right (by omega), hhl, ← List.getD_eq_getElem?_getD]
  have b1 : 1 + P1.length = (treeL p).length ∨ ((treeL p).getD (1 + P1.length) dIt).depth ≤ 1 := by
    have := top_mid ([rootI p] ++ P1) _ t2'
    rw [List.append_assoc, ← hT] at this
    rw [show 1 + P1.length = ([rootI p] ++ P1).length by simp only [List.length_append, List.length_cons, List.length_nil]]
    exact this
  have b2 : 1 + P1.length + P2.length = (treeL p).length ∨ ((treeL p).getD (1 + P1.length + P2.length) dIt).depth ≤ 1 := by
    have := top_mid ([rootI p] ++ P1 ++ P2) _ t3'
    rw [← List.append_assoc, hTB] at this
    rw [show 1 + P1.length + P2.length = ([rootI p] ++ P1 ++ P2).length by simp only [List.length_append, List.length_cons, List.length_nil]]
    exact this
  have b3 : 1 + P1.length + P2.length + P3.length = (treeL p).length ∨ ((treeL p).getD (1 + P1.length + P2.length + P3.length) dIt).depth ≤ 1 := by
    have := top_mid ([rootI p] ++ P1 ++ P2 ++ P3) _ tM
    rw [hTB, hhl] at this
    exact this
  have hd1 : ∀ x ∈ P1, 1 ≤ x.depth := by rw [← hP1]; exact part_deep _ _
  have hd2 : ∀ x ∈ P2, 1 ≤ x.depth := by rw [← hP2]; exact part_deep _ _
  have hd3 : ∀ x ∈ P3, 1 ≤ x.depth := by rw [← hP3]; exact part_deep _ _
  have deep : ∀ i, 0 < i → i < (treeL p).length → 1 ≤ ((treeL p).getD i dIt).depth := fun i h1 h2 => by
    by_cases c1 : i < 1 + P1.length
    · rw [show i = 1 + (i - 1) by omega, g1 _ (by omega)]
      exact hd1 _ (mem_getD (by omega))
    · by_cases c2 : i < 1 + P1.length + P2.length
      · rw [show i = 1 + P1.length + (i - (1 + P1.length)) by omega, g2 _ (by omega)]
        exact hd2 _ (mem_getD (by omega))
      · by_cases c3 : i < 1 + P1.length + P2.length + P3.length
        · rw [show i = 1 + P1.length + P2.length + (i - (1 + P1.length + P2.length)) by omega, g3 _ (by omega)]
          exact hd3 _ (mem_getD (by omega))
        · rw [gM i (by omega) h2, hMg _ (by omega)]
          have := depth_of (m2 (i - (1 + P1.length + P2.length + P3.length)) (by omega)).1
          show 1 ≤ _ + 1
          omega
  have r0 : (treeL p).getD 0 dIt = rootI p := by rw [hT]; rfl
  have hend : endL (treeL p) 0 = (treeL p).length := by
    have hb := endL_bounds (l := treeL p) (a := 0) (by omega)
    rcases endL_out (l := treeL p) (a := 0) (by omega) with e | e
    · exact e
    · by_cases hlt : endL (treeL p) 0 < (treeL p).length
      · have := deep _ (by omega) hlt
        unfold dp at e
        rw [r0] at e
        have e0 : (rootI p).depth = 0 := rfl
        omega
      · omega
  unfold readP
  rw [r0, hroot]
  show kidsF (treeL p) (kidsL (treeL p) 0) (kidsL (treeL p) 0).length 0 ([], _) = _
  rw [kidsF_G _ _ _ 0 _ (by omega), List.drop_zero]
  unfold kidsL kidsTo
  rw [hend, r0, show (rootI p).depth = 0 from rfl, kidsG_R, hlen, show 0 + 1 = 1 from rfl, show 1 + (P1.length + (P2.length + (P3.length + M.length))) - 1 = P1.length + (P2.length + (P3.length + M.length)) by omega]
  obtain ⟨S1, hS1, e1⟩ := readR_part (l := treeL p) (f := P2.length + (P3.length + M.length)) (j := 1) (s := ([], { dPr with kind := p.kind, sender := p.sender, goal := p.goal })) (q := { dPr with kind := p.kind, sender := p.sender, goal := p.goal, shown := p.shown }) (nm := showNm) (t := showW p.shown)
    (by rw [hP1]; exact g1) (by rw [hP1]; omega) (by rw [hP1]; exact b1) n1 s1 (fun hn ht h0 => by
      have hz : p.shown ≠ 0 := fun e => by rw [e, show_none] at hn; cases hn
      exact part_shown p.shown (by omega) i1.2 ht h0) (fun he => by
      have hz : p.shown = 0 := by
        by_cases hz : p.shown = 0
        · exact hz
        · exfalso
          have := show_index p.shown (by omega) i1.2
          rw [bytes_none he] at this
          have e0 : hasIx showWs ByteArray.empty = 0 := by decide +kernel
          omega
      rw [hz]
      rfl)
  rw [hP1] at e1
  rw [e1]
  obtain ⟨S2, hS2, e2⟩ := readR_part (l := treeL p) (f := P3.length + M.length) (j := 1 + P1.length) (s := (S1, { dPr with kind := p.kind, sender := p.sender, goal := p.goal, shown := p.shown })) (q := { dPr with kind := p.kind, sender := p.sender, goal := p.goal, shown := p.shown, status := p.status }) (nm := statusNm) (t := p.status)
    (by rw [hP2]; exact g2) (by rw [hP2]; omega) (by rw [hP2]; exact b2) n2 (by rcases hS1 with e | e <;> (show hasIx S1 statusNm < 0; rw [e]; first | exact s2 | exact s3)) (fun hn ht h0 => part_status p.status ht h0) (fun he => by
      rw [bytes_none he]
      rfl)
  rw [hP2] at e2
  rw [e2]
  obtain ⟨S3, hS3, e3⟩ := readR_part (l := treeL p) (f := M.length) (j := 1 + P1.length + P2.length) (s := (S2, { dPr with kind := p.kind, sender := p.sender, goal := p.goal, shown := p.shown, status := p.status })) (q := { dPr with kind := p.kind, sender := p.sender, goal := p.goal, shown := p.shown, status := p.status, prio := p.prio }) (nm := prioNm) (t := prioT p.prio)
    (by rw [hP3]; exact g3) (by rw [hP3]; omega) (by rw [hP3]; exact b3) n3 (by rcases hS1 with e | e <;> rcases hS2 with e' | e' <;> (show hasIx S2 prioNm < 0; rw [e']; show hasIx _ prioNm < 0; simp only [e]; first | exact s4 | exact s5 | exact s6 | exact s7)) (fun hn ht h0 => by
      have hz : p.prio ≠ 0 := fun e => by unfold prioT at hn; rw [if_pos e, empty_text] at hn; cases hn
      have ep : prioT p.prio = numT p.prio := by unfold prioT; rw [if_neg hz]
      rw [ep] at ht
      exact part_prio p.prio (by omega) (by omega) ht h0) (fun he => by
      have hz : p.prio = 0 := by
        by_cases hz : p.prio = 0
        · exact hz
        · exfalso
          unfold prioT at he
          rw [if_neg hz] at he
          have := (num_fine (n := p.prio) (by omega) (by omega)).2.1
          rw [bytes_none he] at this
          exact absurd this (by decide)
      rw [hz]
      rfl)
  rw [hP3] at e3
  rw [e3, readR_more M.length (1 + P1.length + P2.length + P3.length) M.length _ (Nat.le_refl _) (by omega) (by omega) (by
    rcases tM with e | e
    · left; rw [e]; rfl
    · by_cases h0 : M.length = 0
      · exact .inl h0
      · right
        rw [gM _ (Nat.le_refl _) (by omega), Nat.sub_self]
        exact e) deep (fun i h1 h2 h3 => by
    rw [gM i h1 h2, hMg _ (by omega)] at h3 ⊢
    have h4 := m3 (i - (1 + P1.length + P2.length + P3.length)) (by omega)
    unfold moreStand at h4
    rw [Bool.and_eq_true] at h4
    rcases head_yes h4.1 with ⟨a1, a2, a3⟩ | ⟨a1, _⟩
    · refine ⟨a2, fun e => ?_⟩
      unfold csOf at a3
      rw [beq_eq_false_iff_ne] at a3
      exact a3 e
    · rw [beq_eq_false_iff_ne] at a1
      exact absurd (show _ + 1 = (1 : Int) from h3) (by omega)), hB]
  show some { p with more := [] ++ p.more } = some p
  rw [List.nil_append]
theorem tree_back {p : Pr} (h : presCode p = 0) : readCode (treeL p) = 0 ∧ readVal (treeL p) = p := by
  obtain ⟨e1, e2⟩ := read_some (tree_fault h) (tree_reads h)
  rw [h] at e1 e2
  rw [if_neg (by decide)] at e2
  exact ⟨e1, e2⟩
theorem small_dP : SmallPr dPr := ⟨⟨by decide, by decide, by decide⟩, ⟨by decide, fun i hi => by simp [dPr] at hi⟩⟩
theorem small_read {l : List It} (hs : SmallIts l) : SmallPr (readVal l) := by
  by_cases h : treeCode l = 0
  · cases hr : readP l with
    | none => rw [(read_none h hr).2]; exact small_dP
    | some q =>
      rw [(read_some h hr).2]
      split
      · exact small_dP
      · exact (read_small h hs hr).1
  · rw [(read_bad h).2]
    exact small_dP
theorem read_void {l : List It} (h : readCode l ≠ 0) : (readVal l).more = [] := by
  by_cases hc : treeCode l = 0
  · cases hr : readP l with
    | none => rw [(read_none hc hr).2]; rfl
    | some q =>
      obtain ⟨e1, e2⟩ := read_some hc hr
      rw [e2, if_pos (by rw [← e1]; exact h)]
      rfl
  · rw [(read_bad hc).2]
    rfl
theorem read_good {l : List It} (h : readCode l = 0) : presCode (readVal l) = 0 := by
  by_cases hc : treeCode l = 0
  · cases hr : readP l with
    | none => rw [(read_none hc hr).1] at h; omega
    | some q =>
      obtain ⟨e1, e2⟩ := read_some hc hr
      rw [e1] at h
      rw [e2, if_neg (by rw [Decidable.not_not]; exact h)]
      exact h
  · rw [(read_bad hc).1] at h
    exact absurd h hc
theorem tree_whole {p : Pr} (h : presCode p = 0) : treeCode (treeT p) = 0 ∧ readCode (treeT p) = 0 ∧ readVal (treeT p) = p := by
  unfold treeT
  rw [if_pos h]
  exact ⟨tree_fault h, (tree_back h).1, (tree_back h).2⟩
theorem small_tree {p : Pr} (hD : SmallPr p) (h : presCode p = 0) : SmallIts (treeT p) := by
  unfold treeT
  rw [if_pos h]
  have hc := tree_fault h
  refine ⟨?_, fun i hi => ?_⟩
  · have := (goodPr h).few
    have h7 := headL_len p
    unfold treeL
    rw [List.length_append, movedTo_length]
    omega
  · have hg := (head_fine h)
    unfold treeL at hi ⊢
    by_cases hi2 : i < (headL p).length
    · rw [List.getD_eq_getElem?_getD, List.getElem?_append_left hi2, List.getElem?_eq_getElem hi2]
      have hx := (hg _ (List.getElem_mem hi2)).2
      have h1 := hx.sizes
      exact ⟨by show (headL p)[i].text.size ≤ _ ∧ (headL p)[i].space.size ≤ _ ∧ (headL p)[i].name.size ≤ _; omega, by show (headL p)[i].attrs.length ≤ _; have := hx.few; omega, fun j hj => by have := hx.short j; unfold SmallAt; show ((headL p)[i].attrs.getD j dAt).name.size ≤ _ ∧ ((headL p)[i].attrs.getD j dAt).value.size ≤ _; omega⟩
    · rw [List.length_append, movedTo_length] at hi
      rw [List.getD_eq_getElem?_getD, List.getElem?_append_right (by omega), ← List.getD_eq_getElem?_getD, movedTo_get _ _ _ _ _ (by omega)]
      exact hD.more.2 _ (by omega)
theorem lwBig_any (a : Option Addr) (n c : Nat) (hn : n ≤ 9223372036854775807) (w : World) :
    Calls Tryz.prog 4 #[.slice a n c] w fun e w' => e = .returned (.bool (decide (1048576 < n))) ∧ w' = w := by
  by_cases h : 1048576 < n
  · go_enter Tryz.func4, Tryz.ntmps4
    go_wp2
    go_ret
    exact ⟨ret_bool (by simp; omega), rfl⟩
  · go_enter Tryz.func4, Tryz.ntmps4
    go_wp2
    go_ret
    exact ⟨ret_bool (by simp; omega), rfl⟩
theorem neqAttr (s t s' t' : ByteArray) (q1 q2 : Bool) (h1 : (s.toList == s'.toList) = q1) (h2 : (t.toList == t'.toList) = q2) (w : World) : (binOp .neq 52 (.agg #[.string s, .string t]) (.agg #[.string s', .string t'])).run Tryz.prog w = .ok (.bool (!(q1 && q2))) w := by
  have u4 := Tryz.underlying9
  have hS : Tryz.prog.underlying 52 = some (.struct (Tryz.prog.fieldsOf 52)) := by kernel_rfl
  rw [run_neq_struct, show (10000 : Nat) = 9999 + 1 from rfl, run_equalIn_agg w 9999 _ _ _ hS (by kernel_rfl)]
  simp only [Program.fieldsOf, Tryz.underlying52]
  cases q1 <;> cases q2 <;> go_simp
theorem take_snocD {l : List At} {k : Nat} (h : k < l.length) : l.take (k + 1) = l.take k ++ [l.getD k dAt] := by
  rw [List.take_succ_eq_append_getElem h, List.getD_eq_getElem?_getD, List.getElem?_eq_getElem h]; rfl
set_option maxRecDepth 100000 in
set_option maxHeartbeats 3200000 in
theorem l4Same_a (b o b' o' : Nat) (x y : It) (w : World) (bb : Bool) (hbb : bb = true ↔ x.attrs = y.attrs) (h : ItAt w b o x) (h' : ItAt w b' o' y) (hd : x.depth = y.depth) (ht : x.text = y.text) (hs : x.space = y.space) (hn : x.name = y.name) (hl : x.attrs.length = y.attrs.length) :
    Calls Tryz.prog 81 #[.pointer (some ⟨b, o, none⟩), .pointer (some ⟨b', o', none⟩)] w fun e w' => e = .returned (.bool bb) ∧ ∃ n, w' = w.drewN n := by
  have d0 := h.c0
  have e0 := h'.c0
  have d1 := h.c1
  have e1 := h'.c1
  have d2 := h.c2
  have e2 := h'.c2
  have d3 := h.c3
  have e3 := h'.c3
  obtain ⟨a4, n4, c4, d4, hat⟩ := h.c4
  obtain ⟨a5, n5, c5, e4, hat'⟩ := h'.c4
  obtain rfl : n4 = n5 := by rw [← hat.len, ← hat'.len]; exact hl
  have hm := hat.max
  have HR := Lib.hid hat.row
  have HR' := Lib.hid hat'.row
  have HL := Lib.hid hat.len
  have HL' := Lib.hid hat'.len
  obtain ⟨xd, xt, xs, xn, xa⟩ := x
  obtain ⟨yd, yt, ys, yn, ya⟩ := y
  dsimp only at hd ht hs hn hl d0 e0 d1 e1 d2 e2 d3 e3 hbb HR HR' HL HL'
  subst hd
  subst ht
  subst hs
  subst hn
  have HBB := Lib.hid hbb
  have q0 : (xd != xd) = false := by simp
  clear h h' hat hat' hl hbb
  go_enter Tryz.func81, Tryz.ntmps81
  go_wp2_with fail
  go_quiet (fail)
  go_wp2
  clear d0 e0 d1 e1 d2 e2 d3 e3 q0
  go_loopw [66] (fun i wr => ∃ k : Nat, k ≤ n4 ∧ i = .int .i64 k ∧ xa.take k = ya.take k ∧ ∃ n, wr = w.drewN n) (fun i _ => n4 - (intOf i).toNat)
  case atStart => exact ⟨0, Nat.zero_le _, rfl, rfl, _, rfl⟩
  case round =>
    obtain ⟨k, hk, rfl, ht, nd, rfl⟩ := hrel
    have HT := Lib.hid ht
    clear ht
    by_cases hlt : k < n4
    · rcases HR.out with e0 | ⟨b4, o4, rfl, h3, h4⟩
      · omega
      rcases HR'.out with e0 | ⟨b5, o5, rfl, h3', h4'⟩
      · omega
      have f0 := (h4 k hlt).1
      have f1 := (h4 k hlt).2
      have g0 := (h4' k hlt).1
      have g1 := (h4' k hlt).2
      clear h4 h4'
      have k1 : (k : Int) < (n4 : Int) := by omega
      have HE : Hid (xa.getD k dAt = ya.getD k dAt → xa.take (k + 1) = ya.take (k + 1)) := Lib.hid fun e => by
        rw [take_snocD (by have := HL.out; omega), take_snocD (l := ya) (by have := HL'.out; omega), HT.out, e]
      have HN : Hid (xa.getD k dAt ≠ ya.getD k dAt → bb = false) := Lib.hid fun e => by
        rw [Bool.eq_false_iff]
        intro hb
        exact e (by rw [HBB.out.1 hb])
      obtain ⟨p, hp⟩ : ∃ p, xa.getD k dAt = p := ⟨_, rfl⟩
      obtain ⟨q, hq⟩ : ∃ q, ya.getD k dAt = q := ⟨_, rfl⟩
      rw [hp] at f0 f1 HE HN
      rw [hq] at g0 g1 HE HN
      have HP := Lib.hid hp
      have HQ := Lib.hid hq
      clear hp hq
      obtain ⟨ps, pt⟩ := p
      obtain ⟨qs, qt⟩ := q
      dsimp only at f0 f1 g0 g1
      by_cases hne : ps = qs ∧ pt = qt
      · obtain ⟨rfl, rfl⟩ := hne
        have hfr := neqAttr ps pt ps pt true true (by simp) (by simp)
        go_wp2_with fail
        go_quiet (fail)
        go_wp2
        go_roundw
        case rel => exact ⟨k + 1, by omega, by go_num, HE.out trivial, _, rfl⟩
        case measure => simp [intOf]; omega
      · have hfr : ∀ w, (binOp .neq 52 (.agg #[.string ps, .string pt]) (.agg #[.string qs, .string qt])).run Tryz.prog w = .ok (.bool true) w := by
          intro W
          by_cases h1 : ps = qs
          · rw [neqAttr ps pt qs qt true false (by rw [h1]; simp) (toList_ne fun e => hne ⟨h1, e⟩)]; rfl
          · rw [neqAttr ps pt qs qt false _ (toList_ne h1) rfl]; rfl
        have HF := HN.out fun e => hne (by rw [At.mk.injEq] at e; exact e)
        subst HF
        clear hne HN HE
        go_wp2_with fail
        go_quiet (fail)
        go_wp2
        go_ret
        exact ⟨rfl, _, World.drewN_drewN _ _ _⟩
    · obtain rfl : k = n4 := by omega
      have HF : bb = true := HBB.out.2 (by
        have := HT.out
        rw [List.take_of_length_le (by have := HL.out; omega), List.take_of_length_le (by have := HL'.out; omega)] at this
        exact this)
      subst HF
      go_wp2
      go_ret
      exact ⟨rfl, _, rfl⟩
theorem l4Same_any (b o b' o' : Nat) (x y : It) (w : World) (bb : Bool) (hbb : bb = true ↔ x = y) (h : ItAt w b o x) (h' : ItAt w b' o' y) :
    Calls Tryz.prog 81 #[.pointer (some ⟨b, o, none⟩), .pointer (some ⟨b', o', none⟩)] w fun e w' => e = .returned (.bool bb) ∧ ∃ n, w' = w.drewN n := by
  have no : x ≠ y → bb = false := fun hne => by rw [Bool.eq_false_iff]; exact fun e => hne (hbb.1 e)
  by_cases hd : x.depth = y.depth
  · by_cases ht : x.text = y.text
    · by_cases hs : x.space = y.space
      · by_cases hn : x.name = y.name
        · by_cases hl : x.attrs.length = y.attrs.length
          · exact l4Same_a b o b' o' x y w bb ⟨fun e => by rw [hbb.1 e], fun e => hbb.2 (It.eq hd ht hs hn e)⟩ h h' hd ht hs hn hl
          · rw [no fun e => hl (by rw [e])]; exact l4Same_l b o b' o' x y w h h' hd ht hs hn hl
        · rw [no fun e => hn (by rw [e])]; exact l4Same_n b o b' o' x y w h h' hd ht hs hn
      · rw [no fun e => hs (by rw [e])]; exact l4Same_s b o b' o' x y w h h' hd ht hs
    · rw [no fun e => ht (by rw [e])]; exact l4Same_t b o b' o' x y w h h' hd ht
  · rw [no fun e => hd (by rw [e])]; exact l4Same_d b o b' o' x y w h h' hd
theorem take_snocI {l : List It} {k : Nat} (h : k < l.length) : l.take (k + 1) = l.take k ++ [l.getD k dIt] := by
  rw [List.take_succ_eq_append_getElem h, List.getD_eq_getElem?_getD, List.getElem?_eq_getElem h]; rfl
set_option maxRecDepth 100000 in
set_option maxHeartbeats 1600000 in
theorem specSameTrees_any (a a' : Option Addr) (n n' c c' : Nat) (l l' : List It) (w : World) (bb : Bool) (hbb : bb = true ↔ l = l') (h : ItsAt w a n c l) (h' : ItsAt w a' n' c' l') :
    Calls Tryz.prog 43 #[.slice a n c, .slice a' n' c'] w fun e w' => e = .returned (.bool bb) ∧ ∃ n, w' = w.drewN n := by
  have hm := h.max
  have hm' := h'.max
  have HR := Lib.hid h.row
  have HR' := Lib.hid h'.row
  have HL := Lib.hid h.len
  have HL' := Lib.hid h'.len
  have HBB := Lib.hid hbb
  clear h h' hbb
  by_cases hnn : n = n'
  · subst hnn
    go_enter Tryz.func43, Tryz.ntmps43
    go_wp2
    go_loopw [13] (fun i wr => ∃ k : Nat, k ≤ n ∧ i = .int .i64 k ∧ l.take k = l'.take k ∧ ∃ n, wr = w.drewN n) (fun i _ => n - (intOf i).toNat)
    case atStart => exact ⟨0, Nat.zero_le _, rfl, rfl, 0, rfl⟩
    case round =>
      obtain ⟨k, hk, rfl, ht, hw⟩ := hrel
      have HW := Lib.hid hw
      clear hw
      have HT := Lib.hid ht
      clear ht
      by_cases hlt : k < n
      · rcases HR.out with e0 | ⟨b, o, rfl, h4⟩
        · omega
        rcases HR'.out with e0 | ⟨b', o', rfl, h4'⟩
        · omega
        have hbw : Below w.heap.size w wr := by obtain ⟨nd, rfl⟩ := HW.out; exact below_drewN (Below.refl _ _) nd
        have hi := (h4 k hlt).below hbw
        have hi' := (h4' k hlt).below hbw
        clear hbw
        clear h4 h4'
        have k1 : (k : Int) < (n : Int) := by omega
        by_cases hne : l.getD k dIt = l'.getD k dIt
        · have HE : Hid (l.take (k + 1) = l'.take (k + 1)) := Lib.hid (by
            rw [take_snocI (by have := HL.out; omega), take_snocI (l := l') (by have := HL'.out; omega), HT.out, hne])
          have K := Lib.hid (fun (m : Nat) => l4Same_any b (o + k * 5) b' (o' + k * 5) (l.getD k dIt) (l'.getD k dIt) (wr.drewN m) true (iff_of_true rfl hne) (hi.below (below_drewN (Below.refl _ _) m)) (hi'.below (below_drewN (Below.refl _ _) m)))
          clear hne hi hi'
          go_wp2_with fail
          go_quiet ((go_at_call 81; exact Calls.quiet_of (K.out _)))
          go_wp2
          go_roundw
          case rel => exact ⟨k + 1, by omega, by go_num, HE.out, drew_more HW.out _⟩
          case measure => simp [intOf]; omega
        · have HF : bb = false := by
            rw [Bool.eq_false_iff]
            exact fun hb => hne (by rw [HBB.out.1 hb])
          subst HF
          have K := Lib.hid (fun (m : Nat) => l4Same_any b (o + k * 5) b' (o' + k * 5) (l.getD k dIt) (l'.getD k dIt) (wr.drewN m) false (iff_of_false (by decide) hne) (hi.below (below_drewN (Below.refl _ _) m)) (hi'.below (below_drewN (Below.refl _ _) m)))
          clear hne hi hi'
          go_wp2_with fail
          go_quiet ((go_at_call 81; exact Calls.quiet_of (K.out _)))
          go_wp2
          go_ret
          exact ⟨rfl, drew_more HW.out _⟩
      · obtain rfl : k = n := by omega
        have HF : bb = true := HBB.out.2 (by
          have := HT.out
          rw [List.take_of_length_le (by have := HL.out; omega), List.take_of_length_le (by have := HL'.out; omega)] at this
          exact this)
        subst HF
        go_wp2
        go_ret
        exact ⟨rfl, HW.out⟩
  · have HF : bb = false := by
      rw [Bool.eq_false_iff]
      exact fun hb => hnn (by rw [← HL.out, ← HL'.out, HBB.out.1 hb])
    subst HF
    have q1 : ((n : Int) != (n' : Int)) = true := by rw [bne_iff_ne]; omega
    have q2 : ((n : Int) == (n' : Int)) = false := by rw [beq_eq_false_iff_ne]; omega
    clear hnn
    go_enter Tryz.func43, Tryz.ntmps43
    go_wp2
    go_ret
    exact ⟨rfl, 0, rfl⟩
theorem Pr.eq {x y : Pr} (h0 : x.kind = y.kind) (h1 : x.sender = y.sender) (h2 : x.goal = y.goal) (h3 : x.shown = y.shown) (h4 : x.status = y.status) (h5 : x.prio = y.prio) (h6 : x.more = y.more) : x = y := by cases x; cases y; simp_all
theorem str_ne {s t : ByteArray} (h : s ≠ t) : (s.toList == t.toList) = false := by
  rw [beq_eq_false_iff_ne]
  intro e
  rw [ByteArray.toList_eq, ByteArray.toList_eq] at e
  have h2 := Array.toList_inj.1 e
  exact h (by cases s; cases t; exact congrArg ByteArray.mk h2)
set_option maxRecDepth 100000 in
set_option maxHeartbeats 3200000 in
theorem specSamePresences_any (p p' : Pr) (a a' : Option Addr) (n n' c c' : Nat) (w : World) (bb : Bool) (hbb : bb = true ↔ p = p') (h : ItsAt w a n c p.more) (h' : ItsAt w a' n' c' p'.more) :
    Calls Tryz.prog 18 #[.agg #[.int .i64 p.kind, .string p.sender, .string p.goal, .int .i64 p.shown, .string p.status, .int .i64 p.prio, .slice a n c], .agg #[.int .i64 p'.kind, .string p'.sender, .string p'.goal, .int .i64 p'.shown, .string p'.status, .int .i64 p'.prio, .slice a' n' c']] w fun e w' => e = .returned (.bool bb) ∧ Below w.heap.size w w' := by
  have H := Lib.hid (h.below (below2 w (.cells #[.int .i64 p.kind, .string p.sender, .string p.goal, .int .i64 p.shown, .string p.status, .int .i64 p.prio, .slice a n c] 26) (.cells #[.int .i64 p'.kind, .string p'.sender, .string p'.goal, .int .i64 p'.shown, .string p'.status, .int .i64 p'.prio, .slice a' n' c'] 26)))
  have H' := Lib.hid (h'.below (below2 w (.cells #[.int .i64 p.kind, .string p.sender, .string p.goal, .int .i64 p.shown, .string p.status, .int .i64 p.prio, .slice a n c] 26) (.cells #[.int .i64 p'.kind, .string p'.sender, .string p'.goal, .int .i64 p'.shown, .string p'.status, .int .i64 p'.prio, .slice a' n' c'] 26)))
  clear h h'
  obtain ⟨pk, pf, pt, ps, pu, pp, pm⟩ := p
  obtain ⟨qk, qf, qt, qs, qu, qp, qm⟩ := p'
  dsimp only at H H' ⊢
  by_cases hk : pk = qk
  case neg =>
    have HF : Hid (bb = false) := Lib.hid (by rw [Bool.eq_false_iff]; exact fun e => hk (congrArg Pr.kind (hbb.1 e)))
    have q1 : (pk == qk) = false := by rw [beq_eq_false_iff_ne]; exact hk
    clear hk hbb
    rw [HF.out]
    go_enter Tryz.func18, Tryz.ntmps18
    go_wp2
    go_ret
    exact ⟨rfl, below2 w _ _⟩
  subst hk
  by_cases hf : pf = qf
  case neg =>
    have HF : Hid (bb = false) := Lib.hid (by rw [Bool.eq_false_iff]; exact fun e => hf (congrArg Pr.sender (hbb.1 e)))
    have q1 := str_ne hf
    clear hf hbb
    rw [HF.out]
    go_enter Tryz.func18, Tryz.ntmps18
    go_wp2
    go_ret
    exact ⟨rfl, below2 w _ _⟩
  subst hf
  by_cases ht : pt = qt
  case neg =>
    have HF : Hid (bb = false) := Lib.hid (by rw [Bool.eq_false_iff]; exact fun e => ht (congrArg Pr.goal (hbb.1 e)))
    have q1 := str_ne ht
    clear ht hbb
    rw [HF.out]
    go_enter Tryz.func18, Tryz.ntmps18
    go_wp2
    go_ret
    exact ⟨rfl, below2 w _ _⟩
  subst ht
  by_cases hs : ps = qs
  case neg =>
    have HF : Hid (bb = false) := Lib.hid (by rw [Bool.eq_false_iff]; exact fun e => hs (congrArg Pr.shown (hbb.1 e)))
    have q1 : (ps == qs) = false := by rw [beq_eq_false_iff_ne]; exact hs
    clear hs hbb
    rw [HF.out]
    go_enter Tryz.func18, Tryz.ntmps18
    go_wp2
    go_ret
    exact ⟨rfl, below2 w _ _⟩
  subst hs
  by_cases hu : pu = qu
  case neg =>
    have HF : Hid (bb = false) := Lib.hid (by rw [Bool.eq_false_iff]; exact fun e => hu (congrArg Pr.status (hbb.1 e)))
    have q1 := str_ne hu
    clear hu hbb
    rw [HF.out]
    go_enter Tryz.func18, Tryz.ntmps18
    go_wp2
    go_ret
    exact ⟨rfl, below2 w _ _⟩
  subst hu
  by_cases hp : pp = qp
  case neg =>
    have HF : Hid (bb = false) := Lib.hid (by rw [Bool.eq_false_iff]; exact fun e => hp (congrArg Pr.prio (hbb.1 e)))
    have q1 : (pp == qp) = false := by rw [beq_eq_false_iff_ne]; exact hp
    clear hp hbb
    rw [HF.out]
    go_enter Tryz.func18, Tryz.ntmps18
    go_wp2
    go_ret
    exact ⟨rfl, below2 w _ _⟩
  subst hp
  have hmm : bb = true ↔ pm = qm := hbb.trans ⟨fun e => congrArg Pr.more e, fun e => by rw [e]⟩
  have HM := Lib.hid hmm
  clear hbb hmm
  go_enter Tryz.func18, Tryz.ntmps18
  go_wp2_with fail
  refine (specSameTrees_any a a' n n' c c' pm qm _ bb HM.out H.out H'.out).mono ?_
  rintro e w2 ⟨rfl, nd, rfl⟩
  go_wp2
  go_ret
  exact ⟨rfl, below_drewN (below2 w _ _) nd⟩
set_option maxRecDepth 100000 in
set_option maxHeartbeats 1600000 in
theorem equalAttrs_any (a a' : Option Addr) (n n' c c' : Nat) (l l' : List At) (w : World) (bb : Bool) (hbb : bb = true ↔ l = l') (h : AtsAt w a n c l) (h' : AtsAt w a' n' c' l') :
    Calls Tryz.prog 110 #[.slice a n c, .slice a' n' c'] w fun e w' => e = .returned (.bool bb) ∧ ∃ n, w' = w.drewN n := by
  have hm := h.max
  have hm' := h'.max
  have HR := Lib.hid h.row
  have HR' := Lib.hid h'.row
  have HL := Lib.hid h.len
  have HL' := Lib.hid h'.len
  have HBB := Lib.hid hbb
  clear h h' hbb
  by_cases hnn : n = n'
  · subst hnn
    go_enter Tryz.func110, Tryz.ntmps110
    go_wp2
    go_loopw [13] (fun i wr => ∃ k : Nat, k ≤ n ∧ i = .int .i64 k ∧ l.take k = l'.take k ∧ ∃ n, wr = w.drewN n) (fun i _ => n - (intOf i).toNat)
    case atStart => exact ⟨0, Nat.zero_le _, rfl, rfl, 0, rfl⟩
    case round =>
      obtain ⟨k, hk, rfl, ht, hw⟩ := hrel
      have HW := Lib.hid hw
      have HT := Lib.hid ht
      clear ht hw
      by_cases hlt : k < n
      · rcases HR.out with e0 | ⟨b4, o4, rfl, h3, h4⟩
        · omega
        rcases HR'.out with e0 | ⟨b5, o5, rfl, h3', h4'⟩
        · omega
        have hbw : Below w.heap.size w wr := by obtain ⟨nd, rfl⟩ := HW.out; exact below_drewN (Below.refl _ _) nd
        have f0 := (hbw.cell (p := ⟨b4, o4 + k * 2, none⟩) h3).trans (h4 k hlt).1
        have f1 := (hbw.cell (p := ⟨b4, o4 + k * 2 + 1, none⟩) h3).trans (h4 k hlt).2
        have g0 := (hbw.cell (p := ⟨b5, o5 + k * 2, none⟩) h3').trans (h4' k hlt).1
        have g1 := (hbw.cell (p := ⟨b5, o5 + k * 2 + 1, none⟩) h3').trans (h4' k hlt).2
        clear h4 h4' hbw
        have k1 : (k : Int) < (n : Int) := by omega
        have HE : Hid (l.getD k dAt = l'.getD k dAt → l.take (k + 1) = l'.take (k + 1)) := Lib.hid fun e => by
          rw [take_snocD (by have := HL.out; omega), take_snocD (l := l') (by have := HL'.out; omega), HT.out, e]
        have HN : Hid (l.getD k dAt ≠ l'.getD k dAt → bb = false) := Lib.hid fun e => by
          rw [Bool.eq_false_iff]
          intro hb
          exact e (by rw [HBB.out.1 hb])
        obtain ⟨p, hp⟩ : ∃ p, l.getD k dAt = p := ⟨_, rfl⟩
        obtain ⟨q, hq⟩ : ∃ q, l'.getD k dAt = q := ⟨_, rfl⟩
        rw [hp] at f0 f1 HE HN
        rw [hq] at g0 g1 HE HN
        have HP := Lib.hid hp
        have HQ := Lib.hid hq
        clear hp hq
        obtain ⟨ps, pt⟩ := p
        obtain ⟨qs, qt⟩ := q
        dsimp only at f0 f1 g0 g1
        by_cases hne : ps = qs ∧ pt = qt
        · obtain ⟨rfl, rfl⟩ := hne
          have hfr := neqAttr ps pt ps pt true true (by simp) (by simp)
          go_wp2_with fail
          go_quiet (fail)
          go_wp2
          go_roundw
          case rel => exact ⟨k + 1, by omega, by go_num, HE.out trivial, drew_more HW.out _⟩
          case measure => simp [intOf]; omega
        · have hfr : ∀ w, (binOp .neq 52 (.agg #[.string ps, .string pt]) (.agg #[.string qs, .string qt])).run Tryz.prog w = .ok (.bool true) w := by
            intro W
            by_cases h1 : ps = qs
            · rw [neqAttr ps pt qs qt true false (by rw [h1]; simp) (toList_ne fun e => hne ⟨h1, e⟩)]; rfl
            · rw [neqAttr ps pt qs qt false _ (toList_ne h1) rfl]; rfl
          have HF := HN.out fun e => hne (by rw [At.mk.injEq] at e; exact e)
          subst HF
          clear hne HN HE
          go_wp2_with fail
          go_quiet (fail)
          go_wp2
          go_ret
          exact ⟨rfl, drew_more HW.out _⟩
      · obtain rfl : k = n := by omega
        have HF : bb = true := HBB.out.2 (by
          have := HT.out
          rw [List.take_of_length_le (by have := HL.out; omega), List.take_of_length_le (by have := HL'.out; omega)] at this
          exact this)
        subst HF
        go_wp2
        go_ret
        exact ⟨rfl, HW.out⟩
  · have HF : bb = false := by
      rw [Bool.eq_false_iff]
      exact fun hb => hnn (by rw [← HL.out, ← HL'.out, HBB.out.1 hb])
    subst HF
    have q1 : ((n : Int) != (n' : Int)) = true := by rw [bne_iff_ne]; omega
    have q2 : ((n : Int) == (n' : Int)) = false := by rw [beq_eq_false_iff_ne]; omega
    clear hnn
    go_enter Tryz.func110, Tryz.ntmps110
    go_wp2
    go_ret
    exact ⟨rfl, 0, rfl⟩
theorem it_ne {x y : It} (bb : Bool) (hbb : bb = true ↔ x = y) (h : x ≠ y) : bb = false := by rw [Bool.eq_false_iff]; exact fun e => h (hbb.1 e)
set_option maxRecDepth 100000 in
set_option maxHeartbeats 1600000 in
theorem sameItems_any (x y : It) (a a' : Option Addr) (n n' c c' : Nat) (w : World) (bb : Bool) (hbb : bb = true ↔ x = y) (h : AtsAt w a n c x.attrs) (h' : AtsAt w a' n' c' y.attrs) :
    Calls Tryz.prog 80 #[.agg #[.int .i64 x.depth, .string x.text, .string x.space, .string x.name, .slice a n c], .agg #[.int .i64 y.depth, .string y.text, .string y.space, .string y.name, .slice a' n' c']] w fun e w' => e = .returned (.bool bb) ∧ Below w.heap.size w w' := by
  have HBB := Lib.hid hbb
  have K := Lib.hid (fun cc hcc W (hb : Below w.heap.size w W) => equalAttrs_any a a' n n' c c' x.attrs y.attrs W cc hcc (h.below hb) (h'.below hb))
  clear h h' hbb
  obtain ⟨xd, xt, xs, xn, xa⟩ := x
  obtain ⟨yd, yt, ys, yn, ya⟩ := y
  dsimp only at K ⊢
  by_cases hd : xd = yd
  · subst hd
    have q0 : (xd == xd) = true := by simp
    by_cases ht : xt = yt
    · subst ht
      by_cases hs : xs = ys
      · subst hs
        by_cases hn : xn = yn
        · subst hn
          have K2 := Lib.hid (K.out bb ⟨fun e => by have := HBB.out.1 e; rw [It.mk.injEq] at this; exact this.2.2.2.2, fun e => HBB.out.2 (by rw [e])⟩)
          go_enter Tryz.func80, Tryz.ntmps80
          go_wp2_with (go_at_call 110; refine (K2.out _ (below2 _ _ _)).mono ?_; rintro e w1 ⟨rfl, nd, rfl⟩)
          go_ret
          exact ⟨rfl, below_drewN (below2 _ _ _) _⟩
        · have q1 := toList_ne hn
          have HF := it_ne bb HBB.out (fun e => hn (by rw [It.mk.injEq] at e; exact e.2.2.2.1))
          subst HF
          clear hn
          go_enter Tryz.func80, Tryz.ntmps80
          go_wp2
          go_ret
          exact ⟨rfl, below2 _ _ _⟩
      · have q1 := toList_ne hs
        have HF := it_ne bb HBB.out (fun e => hs (by rw [It.mk.injEq] at e; exact e.2.2.1))
        subst HF
        clear hs
        go_enter Tryz.func80, Tryz.ntmps80
        go_wp2
        go_ret
        exact ⟨rfl, below2 _ _ _⟩
    · have q1 := toList_ne ht
      have HF := it_ne bb HBB.out (fun e => ht (by rw [It.mk.injEq] at e; exact e.2.1))
      subst HF
      clear ht
      go_enter Tryz.func80, Tryz.ntmps80
      go_wp2
      go_ret
      exact ⟨rfl, below2 _ _ _⟩
  · have q1 : (xd == yd) = false := by simpa using hd
    have HF := it_ne bb HBB.out (fun e => hd (by rw [It.mk.injEq] at e; exact e.1))
    subst HF
    clear hd
    go_enter Tryz.func80, Tryz.ntmps80
    go_wp2
    go_ret
    exact ⟨rfl, below2 _ _ _⟩
set_option maxRecDepth 100000 in
set_option maxHeartbeats 1600000 in
theorem equalFunc_any (a a' : Option Addr) (n n' c c' : Nat) (l l' : List It) (w : World) (bb : Bool) (hbb : bb = true ↔ l = l') (h : ItsAt w a n c l) (h' : ItsAt w a' n' c' l') :
    Calls Tryz.prog 79 #[.slice a n c, .slice a' n' c', .func (.func 80) #[] #[]] w fun e w' => e = .returned (.bool bb) ∧ Below w.heap.size w w' := by
  have hm := h.max
  have hm' := h'.max
  have HR := Lib.hid h.row
  have HR' := Lib.hid h'.row
  have HL := Lib.hid h.len
  have HL' := Lib.hid h'.len
  have HBB := Lib.hid hbb
  clear h h' hbb
  by_cases hnn : n = n'
  · subst hnn
    go_enter Tryz.func79, Tryz.ntmps79
    go_wp2
    go_loopw [17] (fun i wr => ∃ k : Nat, k ≤ n ∧ i = .int .i64 k ∧ l.take k = l'.take k ∧ Below w.heap.size w wr) (fun i _ => n - (intOf i).toNat)
    case atStart => exact ⟨0, Nat.zero_le _, rfl, rfl, Below.refl _ _⟩
    case round =>
      obtain ⟨k, hk, rfl, ht, hb⟩ := hrel
      have HT := Lib.hid ht
      clear ht
      by_cases hlt : k < n
      · rcases HR.out with e0 | ⟨b, o, rfl, h4⟩
        · omega
        rcases HR'.out with e0 | ⟨b', o', rfl, h4'⟩
        · omega
        have hi := (h4 k hlt).below hb
        have hi' := (h4' k hlt).below hb
        have d0 := hi.c0
        have d1 := hi.c1
        have d2 := hi.c2
        have d3 := hi.c3
        obtain ⟨a4, n4, c4, d4, hat⟩ := hi.c4
        have e0 := hi'.c0
        have e1 := hi'.c1
        have e2 := hi'.c2
        have e3 := hi'.c3
        obtain ⟨a5, n5, c5, e4, hat'⟩ := hi'.c4
        have hbl := hi.lt
        have hbl' := hi'.lt
        have k1 : (k : Int) < (n : Int) := by omega
        have HE : Hid (l.getD k dIt = l'.getD k dIt → l.take (k + 1) = l'.take (k + 1)) := Lib.hid fun e => by
          rw [take_snocI (by have := HL.out; omega), take_snocI (l := l') (by have := HL'.out; omega), HT.out, e]
        have HN : Hid (l.getD k dIt ≠ l'.getD k dIt → bb = false) := Lib.hid fun e => by
          rw [Bool.eq_false_iff]
          intro hb
          exact e (by rw [HBB.out.1 hb])
        have K := Lib.hid (fun cc hcc W (hb' : Below wr.heap.size wr W) => sameItems_any (l.getD k dIt) (l'.getD k dIt) a4 a5 n4 n5 c4 c5 W cc hcc (hat.below hb') (hat'.below hb'))
        clear hi hi' hat hat' h4 h4'
        generalize l.getD k dIt = x at d0 d1 d2 d3 K HE HN
        generalize l'.getD k dIt = y at e0 e1 e2 e3 K HE HN
        have HB := Lib.hid hb
        clear hb
        obtain ⟨xd, xt, xs, xn, xa⟩ := x
        obtain ⟨yd, yt, ys, yn, ya⟩ := y
        dsimp only at d0 d1 d2 d3 e0 e1 e2 e3 K
        by_cases hne : (⟨xd, xt, xs, xn, xa⟩ : It) = ⟨yd, yt, ys, yn, ya⟩
        · have HE2 := Lib.hid (HE.out hne)
          have K2 := Lib.hid (K.out true (iff_of_true rfl hne))
          clear HE HN K hne
          go_wp2_with (go_at_call 80; refine (K2.out _ (below2 _ _ _)).mono ?_; rintro e w2 ⟨rfl, hb2⟩)
          go_roundw
          case rel => exact ⟨k + 1, by omega, by go_num, HE2.out, below_then HB.out (below_then (below2 _ _ _) hb2)⟩
          case measure => simp [intOf]; omega
        · have HF := HN.out hne
          subst HF
          have K2 := Lib.hid (K.out false (iff_of_false (by decide) hne))
          clear HE HN K hne
          go_wp2_with (go_at_call 80; refine (K2.out _ (below2 _ _ _)).mono ?_; rintro e w2 ⟨rfl, hb2⟩)
          go_ret
          exact ⟨rfl, below_then HB.out (below_then (below2 _ _ _) hb2)⟩
      · obtain rfl : k = n := by omega
        have HF : bb = true := HBB.out.2 (by
          have := HT.out
          rw [List.take_of_length_le (by have := HL.out; omega), List.take_of_length_le (by have := HL'.out; omega)] at this
          exact this)
        subst HF
        go_wp2
        go_ret
        exact ⟨rfl, hb⟩
  · have HF : bb = false := by
      rw [Bool.eq_false_iff]
      exact fun hb => hnn (by rw [← HL.out, ← HL'.out, HBB.out.1 hb])
    subst HF
    have q1 : ((n : Int) != (n' : Int)) = true := by rw [bne_iff_ne]; omega
    have q2 : ((n : Int) == (n' : Int)) = false := by rw [beq_eq_false_iff_ne]; omega
    clear hnn
    go_enter Tryz.func79, Tryz.ntmps79
    go_wp2
    go_ret
    exact ⟨rfl, Below.refl _ _⟩
theorem implSameTrees_any (a a' : Option Addr) (n n' c c' : Nat) (l l' : List It) (w : World) (bb : Bool) (hbb : bb = true ↔ l = l') (h : ItsAt w a n c l) (h' : ItsAt w a' n' c' l') :
    Calls Tryz.prog 42 #[.slice a n c, .slice a' n' c'] w fun e w' => e = .returned (.bool bb) ∧ Below w.heap.size w w' := by
  have K := Lib.hid (fun W (hb : Below w.heap.size w W) => equalFunc_any a a' n n' c c' l l' W bb hbb (h.below hb) (h'.below hb))
  clear h h' hbb
  go_enter Tryz.func42, Tryz.ntmps42
  go_wp2_with fail
  refine (K.out _ (Below.refl _ _)).mono ?_
  rintro e w1 ⟨rfl, hb⟩
  go_wp2
  go_ret
  exact ⟨rfl, hb⟩
set_option maxRecDepth 100000 in
set_option maxHeartbeats 3200000 in
theorem implSamePresences_any (p p' : Pr) (a a' : Option Addr) (n n' c c' : Nat) (w : World) (bb : Bool) (hbb : bb = true ↔ p = p') (h : ItsAt w a n c p.more) (h' : ItsAt w a' n' c' p'.more) :
    Calls Tryz.prog 17 #[.agg #[.int .i64 p.kind, .string p.sender, .string p.goal, .int .i64 p.shown, .string p.status, .int .i64 p.prio, .slice a n c], .agg #[.int .i64 p'.kind, .string p'.sender, .string p'.goal, .int .i64 p'.shown, .string p'.status, .int .i64 p'.prio, .slice a' n' c']] w fun e w' => e = .returned (.bool bb) ∧ Below w.heap.size w w' := by
  have H := Lib.hid (h.below (below2 w (.cells #[.int .i64 p.kind, .string p.sender, .string p.goal, .int .i64 p.shown, .string p.status, .int .i64 p.prio, .slice a n c] 26) (.cells #[.int .i64 p'.kind, .string p'.sender, .string p'.goal, .int .i64 p'.shown, .string p'.status, .int .i64 p'.prio, .slice a' n' c'] 26)))
  have H' := Lib.hid (h'.below (below2 w (.cells #[.int .i64 p.kind, .string p.sender, .string p.goal, .int .i64 p.shown, .string p.status, .int .i64 p.prio, .slice a n c] 26) (.cells #[.int .i64 p'.kind, .string p'.sender, .string p'.goal, .int .i64 p'.shown, .string p'.status, .int .i64 p'.prio, .slice a' n' c'] 26)))
  clear h h'
  obtain ⟨pk, pf, pt, ps, pu, pp, pm⟩ := p
  obtain ⟨qk, qf, qt, qs, qu, qp, qm⟩ := p'
  dsimp only at H H' ⊢
  by_cases hk : pk = qk
  case neg =>
    have HF : Hid (bb = false) := Lib.hid (by rw [Bool.eq_false_iff]; exact fun e => hk (congrArg Pr.kind (hbb.1 e)))
    have q1 : (pk == qk) = false := by rw [beq_eq_false_iff_ne]; exact hk
    clear hk hbb
    rw [HF.out]
    go_enter Tryz.func17, Tryz.ntmps17
    go_wp2
    go_ret
    exact ⟨rfl, below2 w _ _⟩
  subst hk
  by_cases hf : pf = qf
  case neg =>
    have HF : Hid (bb = false) := Lib.hid (by rw [Bool.eq_false_iff]; exact fun e => hf (congrArg Pr.sender (hbb.1 e)))
    have q1 := str_ne hf
    clear hf hbb
    rw [HF.out]
    go_enter Tryz.func17, Tryz.ntmps17
    go_wp2
    go_ret
    exact ⟨rfl, below2 w _ _⟩
  subst hf
  by_cases ht : pt = qt
  case neg =>
    have HF : Hid (bb = false) := Lib.hid (by rw [Bool.eq_false_iff]; exact fun e => ht (congrArg Pr.goal (hbb.1 e)))
    have q1 := str_ne ht
    clear ht hbb
    rw [HF.out]
    go_enter Tryz.func17, Tryz.ntmps17
    go_wp2
    go_ret
    exact ⟨rfl, below2 w _ _⟩
  subst ht
  by_cases hs : ps = qs
  case neg =>
    have HF : Hid (bb = false) := Lib.hid (by rw [Bool.eq_false_iff]; exact fun e => hs (congrArg Pr.shown (hbb.1 e)))
    have q1 : (ps == qs) = false := by rw [beq_eq_false_iff_ne]; exact hs
    clear hs hbb
    rw [HF.out]
    go_enter Tryz.func17, Tryz.ntmps17
    go_wp2
    go_ret
    exact ⟨rfl, below2 w _ _⟩
  subst hs
  by_cases hu : pu = qu
  case neg =>
    have HF : Hid (bb = false) := Lib.hid (by rw [Bool.eq_false_iff]; exact fun e => hu (congrArg Pr.status (hbb.1 e)))
    have q1 := str_ne hu
    clear hu hbb
    rw [HF.out]
    go_enter Tryz.func17, Tryz.ntmps17
    go_wp2
    go_ret
    exact ⟨rfl, below2 w _ _⟩
  subst hu
  by_cases hp : pp = qp
  case neg =>
    have HF : Hid (bb = false) := Lib.hid (by rw [Bool.eq_false_iff]; exact fun e => hp (congrArg Pr.prio (hbb.1 e)))
    have q1 : (pp == qp) = false := by rw [beq_eq_false_iff_ne]; exact hp
    clear hp hbb
    rw [HF.out]
    go_enter Tryz.func17, Tryz.ntmps17
    go_wp2
    go_ret
    exact ⟨rfl, below2 w _ _⟩
  subst hp
  have hmm : bb = true ↔ pm = qm := hbb.trans ⟨fun e => congrArg Pr.more e, fun e => by rw [e]⟩
  have HM := Lib.hid hmm
  clear hbb hmm
  go_enter Tryz.func17, Tryz.ntmps17
  go_wp2_with fail
  refine (implSameTrees_any a a' n n' c c' pm qm _ bb HM.out H.out H'.out).mono ?_
  rintro e w2 ⟨rfl, hb2⟩
  go_wp2
  go_ret
  exact ⟨rfl, below_then (below2 w _ _) hb2⟩
end Go.Proofs.YtjkmgpomcnplnaaGreatDoor
