/- The tree of a presence that has no fault has none (the whole of it). -/
import Derived.Test.YtjkmgpomcnplnaaGreatDoorGS24
import Derived.Test.YtjkmgpomcnplnaaGreatDoorGS0
import Derived.Test.YtjkmgpomcnplnaaGreatDoorGS1
import Derived.Maps.AppendAt
namespace Go.Proofs.YtjkmgpomcnplnaaGreatDoor
open Go.ChangeShapes Go.WideShapes Go.ChangeAt Go.RowKit
set_option linter.unusedVariables false
set_option linter.unusedSimpArgs false
theorem plain_text {l : List UInt8} (h : l.all plainB = true) (hl : l.length ≤ 60) : textFault l = 0 := by
  unfold textFault
  rw [if_neg (by omega), chars_plain h]
  rfl
theorem dig_plain (n : Nat) : (digT n).data.toList.all plainB = true := by
  induction n using Nat.strongRecOn with
  | _ n ih =>
    by_cases h : n < 10
    · rw [digT_small h]
      have key : (List.range 10).all (fun n => (strOfNums [48 + (n : Int)]).data.toList.all plainB) = true := by decide +kernel
      rw [List.all_eq_true] at key
      exact key n (List.mem_range.2 h)
    · rw [digT_data h, List.all_append, ih (n / 10) (by omega)]
      have key : (List.range 10).all (fun n => [UInt8.ofNat (48 + n)].all plainB) = true := by decide +kernel
      rw [List.all_eq_true] at key
      rw [key (n % 10) (List.mem_range.2 (by omega))]
      rfl
theorem num_fine {n : Int} (h1 : -1000 ≤ n) (h2 : n ≤ 1000) : textFault (numT n).data.toList = 0 ∧ 0 < (numT n).size ∧ (numT n).size ≤ 60 := by
  have hs : (digT n.natAbs).size ≤ 19 := digT_size19 (by omega)
  have hp := digT_pos n.natAbs
  have hl : (digT n.natAbs).data.toList.length = (digT n.natAbs).size := by simp
  unfold numT
  split
  · refine ⟨?_, by rw [ByteArray.size_append]; omega, by rw [ByteArray.size_append]; show 1 + _ ≤ 60; omega⟩
    rw [ByteArray.data_append, Array.toList_append]
    exact plain_text (by rw [List.all_append, dig_plain]; rfl) (by rw [List.length_append, hl]; show 1 + _ ≤ 60; omega)
  · exact ⟨plain_text (dig_plain _) (by omega), by omega, by omega⟩
theorem words_fine (k : Int) (h0 : 0 ≤ k) (h6 : k ≤ 6) : textFault (kindW k).data.toList = 0 ∧ (kindW k).size ≤ 60 := by
  have key : (List.range 7).all (fun j => decide (textFault (kindWs.getD j ByteArray.empty).data.toList = 0 ∧ (kindWs.getD j ByteArray.empty).size ≤ 60)) = true := by decide +kernel
  rw [List.all_eq_true] at key
  have := key k.toNat (List.mem_range.2 (by omega))
  rw [decide_eq_true_eq] at this
  exact this
theorem shows_fine (k : Int) (h0 : 0 ≤ k) (h4 : k ≤ 4) : textFault (showW k).data.toList = 0 ∧ (showW k).size ≤ 60 := by
  have key : (List.range 5).all (fun j => decide (textFault (showWs.getD j ByteArray.empty).data.toList = 0 ∧ (showWs.getD j ByteArray.empty).size ≤ 60)) = true := by decide +kernel
  rw [List.all_eq_true] at key
  have := key k.toNat (List.mem_range.2 (by omega))
  rw [decide_eq_true_eq] at this
  exact this
theorem attrs_ok {l : List At} (h5 : l.length ≤ 5) (h : ∀ x ∈ l, atFault x = 0) (hr : rises l = true) : attrsCode l = 0 := by
  rw [attrsCode_end (by omega) (fun j hj => h _ (by rw [List.getD_eq_getElem?_getD, List.getElem?_eq_getElem hj]; exact List.getElem_mem hj)), if_pos hr]
theorem size_text {s : ByteArray} (h : textFault s.data.toList = 0) : s.size ≤ 60 := by
  have hl : s.data.toList.length = s.size := by simp
  unfold textFault at h
  split at h
  · cases h
  · omega
theorem attrs3_fine {p : Pr} (h : presCode p = 0) : attrsCode (attrs3 p) = 0 ∧ (attrs3 p).length ≤ 3 ∧ ShortAts (attrs3 p) := by
  obtain ⟨i0, i1, i2, t1, t2, t3, hf, hm⟩ := pres_parts h
  obtain ⟨k1, k2⟩ := words_fine p.kind i0.1 i0.2
  have s1 := size_text t1
  have s2 := size_text t2
  have a1 : atFault ⟨fromT, p.sender⟩ = 0 := by unfold atFault; rw [if_pos (by show isKeyL fromT = true; decide +kernel)]; exact t1
  have a2 : atFault ⟨toT, p.goal⟩ = 0 := by unfold atFault; rw [if_pos (by show isKeyL toT = true; decide +kernel)]; exact t2
  have a3 : atFault ⟨typeT, kindW p.kind⟩ = 0 := by unfold atFault; rw [if_pos (by show isKeyL typeT = true; decide +kernel)]; exact k1
  have l12 : ∀ u v, lessAt ⟨fromT, u⟩ ⟨toT, v⟩ = true := fun u v => by show Op.bytesLess fromT.toList toT.toList = true; decide +kernel
  have l13 : ∀ u v, lessAt ⟨fromT, u⟩ ⟨typeT, v⟩ = true := fun u v => by show Op.bytesLess fromT.toList typeT.toList = true; decide +kernel
  have l23 : ∀ u v, lessAt ⟨toT, u⟩ ⟨typeT, v⟩ = true := fun u v => by show Op.bytesLess toT.toList typeT.toList = true; decide +kernel
  have sh : ∀ l : List At, (∀ x ∈ l, x.name.size ≤ 60 ∧ x.value.size ≤ 60) → ShortAts l := fun l hl i => by
    rw [List.getD_eq_getElem?_getD]
    by_cases hi : i < l.length
    · rw [List.getElem?_eq_getElem hi]; exact hl _ (List.getElem_mem hi)
    · rw [List.getElem?_eq_none (by omega)]; exact ⟨by show (0 : Nat) ≤ 60; decide, by show (0 : Nat) ≤ 60; decide⟩
  have n1 : fromT.size ≤ 60 := by decide
  have n2 : toT.size ≤ 60 := by decide
  have n3 : typeT.size ≤ 60 := by decide
  rw [← filled_three]
  unfold filledL
  have hall : ∀ x ∈ ([⟨fromT, p.sender⟩, ⟨toT, p.goal⟩, ⟨typeT, kindW p.kind⟩] : List At).filter (fun x => !x.value.toList.isEmpty), atFault x = 0 ∧ x.name.size ≤ 60 ∧ x.value.size ≤ 60 := fun x hx => by
    have hx2 := (List.mem_filter.1 hx).1
    simp only [List.mem_cons, List.not_mem_nil, or_false] at hx2
    rcases hx2 with rfl | rfl | rfl
    · exact ⟨a1, n1, s1⟩
    · exact ⟨a2, n2, s2⟩
    · exact ⟨a3, n3, k2⟩
  have hpw : (([⟨fromT, p.sender⟩, ⟨toT, p.goal⟩, ⟨typeT, kindW p.kind⟩] : List At).filter (fun x => !x.value.toList.isEmpty)).Pairwise (fun x y => lessAt x y = true) := by
    refine List.Pairwise.filter _ ?_
    refine List.Pairwise.cons (fun y hy => ?_) (List.Pairwise.cons (fun y hy => ?_) (List.Pairwise.cons (fun y hy => by cases hy) List.Pairwise.nil))
    · simp only [List.mem_cons, List.not_mem_nil, or_false] at hy
      rcases hy with rfl | rfl
      · exact l12 _ _
      · exact l13 _ _
    · simp only [List.mem_cons, List.not_mem_nil, or_false] at hy
      subst hy
      exact l23 _ _
  have hlen : (([⟨fromT, p.sender⟩, ⟨toT, p.goal⟩, ⟨typeT, kindW p.kind⟩] : List At).filter (fun x => !x.value.toList.isEmpty)).length ≤ 3 := List.length_filter_le _ _
  generalize ([⟨fromT, p.sender⟩, ⟨toT, p.goal⟩, ⟨typeT, kindW p.kind⟩] : List At).filter (fun x => !x.value.toList.isEmpty) = l at *
  refine ⟨attrs_ok (by omega) (fun x hx => (hall x hx).1) (rises_yes fun i h1 h2 => ?_), hlen, sh _ fun x hx => (hall x hx).2⟩
  rw [List.pairwise_iff_getElem] at hpw
  rw [List.getD_eq_getElem?_getD, List.getD_eq_getElem?_getD, List.getElem?_eq_getElem h2, List.getElem?_eq_getElem (by omega)]
  exact hpw (i - 1) i (by omega) h2 (by omega)
theorem part_fine (nm t : ByteArray) (h1 : 0 < nm.size) (h2 : isNameL nm.data.toList = true) (h3 : nm.size ≤ 60) (ht : textFault t.data.toList = 0) : ∀ x ∈ partL nm t, Fine x := by
  unfold partL
  split
  · intro x hx; cases hx
  · rename_i he
    intro x hx
    simp only [List.mem_cons, List.not_mem_nil, or_false] at hx
    rcases hx with rfl | rfl
    · exact fine_elem 1 csT nm [] (by decide) (size_empty h1) h2 (by decide +kernel) (by decide +kernel) ⟨by decide, h3⟩ (by decide) short_none
    · exact fine_text 2 t (by decide) (by simpa using he) ht (size_text ht)
theorem head_fine {p : Pr} (h : presCode p = 0) : ∀ x ∈ headL p, Fine x := by
  obtain ⟨i0, i1, i2, t1, t2, t3, hf, hm⟩ := pres_parts h
  obtain ⟨c1, c2, c3⟩ := attrs3_fine h
  intro x hx
  unfold headL at hx
  rw [List.mem_append, List.mem_append, List.mem_append] at hx
  rcases hx with ((hx | hx) | hx) | hx
  · simp only [List.mem_cons, List.not_mem_nil, or_false] at hx
    subst hx
    exact fine_elem 0 csT prT (attrs3 p) (by decide) (size_empty (by decide)) (by decide +kernel) (by decide +kernel) c1 ⟨by decide, by decide⟩ (by omega) c3
  · exact part_fine _ _ (by decide) (by decide +kernel) (by decide) (shows_fine p.shown i1.1 i1.2).1 x hx
  · exact part_fine _ _ (by decide) (by decide +kernel) (by decide) t3 x hx
  · refine part_fine _ _ (by decide) (by decide +kernel) (by decide) ?_ x hx
    unfold prioT
    split
    · exact text_nil
    · exact (num_fine (by omega) (by omega)).1
theorem shapes_part (nm t : ByteArray) (h1 : 0 < nm.size) : (partL nm t).map shapeI = [] ∨ (partL nm t).map shapeI = [(1, false), (2, true)] := by
  unfold partL
  split
  · exact .inl rfl
  · right
    simp only [List.map_cons, List.map_nil]
    rw [show shapeI ⟨1, ⟨#[]⟩, csT, nm, []⟩ = (1, false) from shape_elem 1 csT nm [] h1, show shapeI ⟨2, t, ⟨#[]⟩, ⟨#[]⟩, []⟩ = (2, true) from shape_text 2 t]
theorem tree_fault {p : Pr} (h : presCode p = 0) : treeCode (treeL p) = 0 := by
  obtain ⟨i0, i1, i2, t1, t2, t3, hf, hm⟩ := pres_parts h
  obtain ⟨m1, m2, m3⟩ := more_parts hm
  have hh := head_fine h
  have hl : 1 ≤ (headL p).length ∧ (headL p).length ≤ 7 := by
    have k : ∀ nm t, (partL nm t).length ≤ 2 := fun nm t => by unfold partL; split <;> simp
    have k1 := k showNm (showW p.shown)
    have k2 := k statusNm p.status
    have k3 := k prioNm (prioT p.prio)
    unfold headL
    simp only [List.length_append, List.length_cons, List.length_nil]
    omega
  have hlt : (treeL p).length = (headL p).length + p.more.length := by unfold treeL; rw [List.length_append, movedTo_length, Nat.sub_zero]
  have hst : stands (treeL p) = true := by
    rw [stands_shape]
    unfold treeL
    rw [List.map_append]
    have hs : ∃ m, (headL p).map shapeI = (0, false) :: m ∧ chainL (0, false) m = true ∧ (((m.getLastD (0, false)).1 = 0 ∧ (m.getLastD (0, false)).2 = false) ∨ 1 ≤ (m.getLastD (0, false)).1) := by
      unfold headL
      rw [List.map_append, List.map_append, List.map_append]
      have r0 : [rootI p].map shapeI = [(0, false)] := by
        simp only [List.map_cons, List.map_nil]
        rw [show shapeI (rootI p) = (0, false) from shape_elem 0 csT prT (attrs3 p) (by decide)]
      rw [r0]
      rcases shapes_part showNm (showW p.shown) (by decide) with e1 | e1 <;> rcases shapes_part statusNm p.status (by decide) with e2 | e2 <;> rcases shapes_part prioNm (prioT p.prio) (by decide) with e3 | e3 <;> rw [e1, e2, e3] <;> exact ⟨_, rfl, by decide, by decide⟩
    obtain ⟨m, e1, e2, e3⟩ := hs
    rw [e1, List.cons_append, stands_chain, chain_app, e2, moved_chain hm _ e3]
    rfl
  have hpc : ∀ j, j < (treeL p).length → itemCode ((treeL p).getD j dIt) = 0 := fun j hj => by
    unfold treeL at hj ⊢
    rw [List.getD_eq_getElem?_getD]
    by_cases h1 : j < (headL p).length
    · rw [List.getElem?_append_left h1, List.getElem?_eq_getElem h1]
      exact (hh _ (List.getElem_mem h1)).1
    · rw [List.getElem?_append_right (by omega), ← List.getD_eq_getElem?_getD]
      have hj2 : j - (headL p).length < p.more.length := by rw [List.length_append, movedTo_length] at hj; omega
      rw [movedTo_get p.more 0 p.more.length 1 _ (by omega), Nat.zero_add]
      exact moved_code (m2 _ hj2).1 (m2 _ hj2).2
  rw [treeCode_end (by omega) hpc, if_pos hst]
def kidsG (l : List It) : List Int → List ByteArray × Pr → Option Pr
  | [], s => some s.2
  | k :: ks, s => match kidOne l k.toNat s with | some t => kidsG l ks t | none => none
theorem kidsF_G (l : List It) (ks : List Int) : ∀ (f j : Nat) (s : List ByteArray × Pr), j + f = ks.length → kidsF l ks f j s = kidsG l (ks.drop j) s
  | 0, j, s, h => by rw [List.drop_of_length_le (by omega)]; rfl
  | f + 1, j, s, h => by
    rw [List.drop_eq_getElem_cons (show j < ks.length by omega)]
    have e : ks.getD j 0 = ks[j]'(by omega) := by rw [List.getD_eq_getElem?_getD, List.getElem?_eq_getElem (by omega)]; rfl
    rw [kidsF, kidsG, e]
    cases kidOne l (ks[j]'(by omega)).toNat s with
    | none => rfl
    | some t => exact kidsF_G l ks f (j + 1) t (by omega)
def readR (l : List It) : Nat → Nat → List ByteArray × Pr → Option Pr
  | 0, _, s => some s.2
  | f + 1, j, s => if (l.getD j dIt).depth = 1 then (match kidOne l j s with | some t => readR l f (j + 1) t | none => none) else readR l f (j + 1) s
theorem kidsG_R (l : List It) : ∀ (f j : Nat) (s : List ByteArray × Pr), kidsG l (((List.range' j f).filter fun i => (l.getD i dIt).depth == 0 + 1).map fun i => ((i : Nat) : Int)) s = readR l f j s
  | 0, j, s => rfl
  | f + 1, j, s => by
    rw [List.range'_succ, List.filter_cons, readR]
    by_cases h : (l.getD j dIt).depth = 1
    · rw [if_pos (by rw [h]; rfl), if_pos h, List.map_cons, kidsG, Int.toNat_natCast]
      cases kidOne l j s with
      | none => rfl
      | some t => exact kidsG_R l f (j + 1) t
    · rw [if_neg (by simpa using h), if_neg h]
      exact kidsG_R l f (j + 1) s
theorem readR_skip {l : List It} {f j : Nat} {s : List ByteArray × Pr} (h : (l.getD j dIt).depth ≠ 1) : readR l (f + 1) j s = readR l f (j + 1) s := by rw [readR, if_neg h]
theorem readR_kid {l : List It} {f j : Nat} {s t : List ByteArray × Pr} (h : (l.getD j dIt).depth = 1) (hk : kidOne l j s = some t) : readR l (f + 1) j s = readR l f (j + 1) t := by rw [readR, if_pos h, hk]
theorem readR_skips {l : List It} : ∀ (m f j : Nat) (s : List ByteArray × Pr), (∀ i, j ≤ i → i < j + m → (l.getD i dIt).depth ≠ 1) → readR l (m + f) j s = readR l f (j + m) s
  | 0, f, j, s, h => by rw [Nat.zero_add]; rfl
  | m + 1, f, j, s, h => by
    rw [show m + 1 + f = (m + f) + 1 by omega, readR_skip (h j (by omega) (by omega)), readR_skips m f (j + 1) s (fun i h1 h2 => h i (by omega) (by omega)), show j + 1 + m = j + (m + 1) by omega]
theorem moved_join (l : List It) {j e k : Nat} (h1 : j ≤ e) (h2 : e ≤ k) (b : Int) : movedTo l j e b ++ movedTo l e k b = movedTo l j k b := by
  unfold movedTo
  rw [show k - j = (e - j) + (k - e) by omega, List.range_add, List.map_append, List.map_map]
  congr 1
  apply List.map_congr_left
  intro i hi
  simp only [Function.comp]
  rw [show j + (e - j + i) = e + i by omega]
theorem readR_more {l : List It} : ∀ (n j f : Nat) (s : List ByteArray × Pr), f ≤ n → 0 < j → j + f = l.length → (f = 0 ∨ (l.getD j dIt).depth = 1) → (∀ i, 0 < i → i < l.length → 1 ≤ (l.getD i dIt).depth) →
    (∀ i, j ≤ i → i < l.length → (l.getD i dIt).depth = 1 → (l.getD i dIt).name.toList.isEmpty = false ∧ (l.getD i dIt).space.toList ≠ csL) → readR l f j s = some { s.2 with more := s.2.more ++ movedTo l j l.length (-1) }
  | n, j, 0, s, hn, h0, hl, hb, hd, hk => by
    rw [show movedTo l j l.length (-1) = [] by unfold movedTo; rw [show l.length - j = 0 by omega]; rfl, List.append_nil]
    rfl
  | 0, j, f + 1, s, hn, h0, hl, hb, hd, hk => by omega
  | n + 1, j, f + 1, s, hn, h0, hl, hb, hd, hk => by
    have hb1 := hb.resolve_left (by omega)
    obtain ⟨k1, k2⟩ := hk j (by omega) (by omega) hb1
    have he := endL_bounds (l := l) (a := j) (by omega)
    have ho := endL_out (l := l) (a := j) (by omega)
    have hkid : kidOne l j s = some (s.1, { s.2 with more := s.2.more ++ movedTo l j (endL l j) (-1) }) := by
      unfold kidOne
      rw [if_neg (by rw [k1]; decide), if_pos k2]
    rw [readR_kid hb1 hkid]
    obtain ⟨m, hm⟩ : ∃ m, endL l j = j + 1 + m := ⟨endL l j - (j + 1), by omega⟩
    have hsk := readR_skips (l := l) m (f - m) (j + 1) (s.1, { s.2 with more := s.2.more ++ movedTo l j (endL l j) (-1) }) (fun i h1 h2 => by
      have := endL_in (l := l) (a := j) (i := i) (by omega) (by omega)
      unfold dp at this
      omega)
    rw [show m + (f - m) = f by omega] at hsk
    rw [hsk, readR_more n (j + 1 + m) (f - m) _ (by omega) (by omega) (by omega) (by
      rcases ho with e | e
      · left; omega
      · by_cases hlt : endL l j < l.length
        · right
          have := hd (endL l j) (by omega) hlt
          unfold dp at e
          rw [← hm]
          omega
        · left; omega) hd (fun i h1 h2 h3 => hk i (by omega) h2 h3)]
    show some { s.2 with more := (s.2.more ++ movedTo l j (endL l j) (-1)) ++ movedTo l (j + 1 + m) l.length (-1) } = _
    rw [List.append_assoc, ← hm, moved_join l (by omega) he.2]
theorem empty_text : (⟨#[]⟩ : ByteArray).toList.isEmpty = true := by rw [ByteArray.toList_eq]; rfl
theorem readR_part {l : List It} {f j : Nat} {s : List ByteArray × Pr} {q : Pr} {nm t : ByteArray} (hl : ∀ i, i < (partL nm t).length → l.getD (j + i) dIt = (partL nm t).getD i dIt) (hlen : j + (partL nm t).length ≤ l.length)
    (h2 : j + (partL nm t).length = l.length ∨ (l.getD (j + (partL nm t).length) dIt).depth ≤ 1) (hnm : nm.toList.isEmpty = false) (hs : hasIx s.1 nm < 0)
    (hp : t.toList.isEmpty = false → textL l j = some t → (l.getD j dIt) = ⟨1, ⟨#[]⟩, csT, nm, []⟩ → partP l j s.2 = some q) (hq : t.toList.isEmpty = true → q = s.2) :
    ∃ S, (S = s.1 ∨ S = s.1 ++ [nm]) ∧ readR l ((partL nm t).length + f) j s = readR l f (j + (partL nm t).length) (S, q) := by
  cases he : t.toList.isEmpty
  · have e : partL nm t = [⟨1, ⟨#[]⟩, csT, nm, []⟩, ⟨2, t, ⟨#[]⟩, ⟨#[]⟩, []⟩] := by unfold partL; rw [if_neg (by rw [he]; decide)]
    rw [e] at hl hlen h2 ⊢
    have g0 : l.getD j dIt = ⟨1, ⟨#[]⟩, csT, nm, []⟩ := hl 0 (Nat.succ_pos _)
    have g1 : l.getD (j + 1) dIt = ⟨2, t, ⟨#[]⟩, ⟨#[]⟩, []⟩ := hl 1 (Nat.lt_succ_self 1)
    have hlen2 : j + 2 ≤ l.length := hlen
    have h22 : j + 2 = l.length ∨ (l.getD (j + 2) dIt).depth ≤ 1 := h2
    have ht : textL l j = some t := by
      have hend := end_one (l := l) (i := j) (by omega) (by unfold dp; rw [g0, g1]; rfl) (by unfold dp; rw [g0]; exact h22)
      unfold textL
      rw [hend, show j + 2 - (j + 1) = 0 + 1 by omega, textF, g1, if_pos empty_text, textF]
      show some (ByteArray.empty ++ t) = some t
      rw [show ByteArray.empty ++ t = t from by apply ByteArray.ext; simp]
    have hk : kidOne l j s = some (s.1 ++ [nm], q) := by
      unfold kidOne
      rw [hp he ht g0, g0, if_neg (by show ¬ nm.toList.isEmpty = true; rw [hnm]; decide), if_neg (by show ¬ csT.toList ≠ csL; exact Decidable.not_not.2 (by decide +kernel)), if_neg (by show ¬ 0 ≤ hasIx s.1 nm; omega)]
    refine ⟨s.1 ++ [nm], .inr rfl, ?_⟩
    show readR l (2 + f) j s = readR l f (j + 2) _
    rw [show 2 + f = (f + 1) + 1 by omega, readR_kid (by rw [g0]) hk, readR_skip (by rw [g1]; show (2 : Int) ≠ 1; decide)]
  · have e : partL nm t = [] := by unfold partL; rw [if_pos he]
    rw [e]
    refine ⟨s.1, .inl rfl, ?_⟩
    rw [hq he]
    show readR l (0 + f) j s = readR l f (j + 0) s
    rw [Nat.zero_add, Nat.add_zero]
def ptrN (k : Nat) : Value := .pointer (some ⟨k, 0, none⟩)
def ptrO (nb : Nat → Nat) (o : Option Nat) : Value := .pointer (o.map fun j => ⟨nb j, 0, none⟩)
def partV (bi oi : Nat) (x : It) (j : Nat) : Value := .iface (if x.name.toList.isEmpty then 87 else 88) (.agg #[.pointer (some ⟨bi, oi + j * 5, none⟩)])
def rowN (nb : Nat → Nat) (ks : List Nat) : List Value := ks.map fun k => ptrN (nb k)
structure Nodes (w : World) (B bi oi : Nat) (l : List It) (m : Nat) (nb : Nat → Nat) (KA : Nat → Option Addr) (KN KC : Nat → Nat) (K : Nat → List Nat) : Prop where
  lt : ∀ j, j < m → B ≤ nb j ∧ nb j < w.heap.size
  c0 : ∀ j, j < m → w.cell? ⟨nb j, 0, none⟩ = some (partV bi oi (l.getD j dIt) j)
  c1 : ∀ j, j < m → w.cell? ⟨nb j, 1, none⟩ = some (.int .i64 (j : Int))
  c2 : ∀ j, j < m → w.cell? ⟨nb j, 2, none⟩ = some (.slice (KA j) (KN j) (KC j))
  f2 : ∀ j, j < m → w.frozen? ⟨nb j, 2, none⟩ = false
  row : ∀ j, j < m → w.ownsRow B 100 1 (.slice (KA j) (KN j) (KC j)) (KN j) (rowN nb (K j))
  kid : ∀ j, j < m → ∀ k ∈ K j, k < m
  one : ∀ i j, i < m → j < m → i ≠ j → nb i ≠ nb j
  off : ∀ i j, i < m → j < m → (Value.slice (KA i) (KN i) (KC i)).ownBlock ≠ some (nb j)
  each : ∀ i j, i < m → j < m → i ≠ j → ∀ g, (Value.slice (KA i) (KN i) (KC i)).ownBlock = some g → (Value.slice (KA j) (KN j) (KC j)).ownBlock ≠ some g
theorem rowN_len (nb : Nat → Nat) (ks : List Nat) : (rowN nb ks).length = ks.length := by simp [rowN]
theorem rowN_congr {nb nb' : Nat → Nat} {ks : List Nat} (h : ∀ k ∈ ks, nb k = nb' k) : rowN nb ks = rowN nb' ks := by
  unfold rowN
  exact List.map_congr_left fun k hk => by rw [h k hk]
section
variable {w w' : World} {B bi oi : Nat} {l : List It} {m : Nat} {nb : Nat → Nat} {KA : Nat → Option Addr} {KN KC : Nat → Nat} {K : Nat → List Nat}
theorem Nodes.below (h : Nodes w B bi oi l m nb KA KN KC K) (hb : Below w.heap.size w w') : Nodes w' B bi oi l m nb KA KN KC K :=
  ⟨fun j hj => ⟨(h.lt j hj).1, Nat.lt_of_lt_of_le (h.lt j hj).2 hb.size⟩, fun j hj => (hb.cell (by exact (h.lt j hj).2)).trans (h.c0 j hj), fun j hj => (hb.cell (by exact (h.lt j hj).2)).trans (h.c1 j hj), fun j hj => (hb.cell (by exact (h.lt j hj).2)).trans (h.c2 j hj), fun j hj => (hb.frozen (by exact (h.lt j hj).2)).trans (h.f2 j hj), fun j hj => owns_below (h.row j hj) hb, h.kid, h.one, h.off, h.each⟩
theorem owns_onlyN {P : Nat → Prop} {base : Nat} {e : TypeId} {size : Nat} {v : Value} {n : Nat} {xs : List Value} (h : w.ownsRow base e size v n xs) (ho : Only P w w') (hn : ∀ g, v.ownBlock = some g → ¬ P g) : w'.ownsRow base e size v n xs := by
  refine ⟨h.1, ?_⟩
  rcases h.2 with h2 | ⟨g, cap, cur, hv, hg, hh, r⟩
  · exact .inl h2
  · have hlt : g < w.heap.size := (h.lt g (by rw [hv]; rfl)).2
    exact .inr ⟨g, cap, cur, hv, hg, by rw [ho.block g hlt (hn g (by rw [hv]; rfl))]; exact hh, r⟩
theorem Nodes.only {P : Nat → Prop} (h : Nodes w B bi oi l m nb KA KN KC K) (ho : Only P w w') (hP : ∀ i, B ≤ i → ¬ P i) : Nodes w' B bi oi l m nb KA KN KC K :=
  ⟨fun j hj => ⟨(h.lt j hj).1, Nat.lt_of_lt_of_le (h.lt j hj).2 ho.size⟩, fun j hj => (ho.cell (p := ⟨nb j, 0, none⟩) (h.lt j hj).2 (hP _ (h.lt j hj).1)).trans (h.c0 j hj), fun j hj => (ho.cell (p := ⟨nb j, 1, none⟩) (h.lt j hj).2 (hP _ (h.lt j hj).1)).trans (h.c1 j hj), fun j hj => (ho.cell (p := ⟨nb j, 2, none⟩) (h.lt j hj).2 (hP _ (h.lt j hj).1)).trans (h.c2 j hj), fun j hj => (ho.frozen (p := ⟨nb j, 2, none⟩) (h.lt j hj).2 (hP _ (h.lt j hj).1)).trans (h.f2 j hj), fun j hj => owns_onlyN (h.row j hj) ho fun g hg => hP g ((h.row j hj).lt g hg).1, h.kid, h.one, h.off, h.each⟩
theorem Nodes.congr {K' : Nat → List Nat} (h : Nodes w B bi oi l m nb KA KN KC K) (hk : ∀ j, j < m → K j = K' j) : Nodes w B bi oi l m nb KA KN KC K' :=
  ⟨h.lt, h.c0, h.c1, h.c2, h.f2, fun j hj => by rw [← hk j hj]; exact h.row j hj, fun j hj => by rw [← hk j hj]; exact h.kid j hj, h.one, h.off, h.each⟩
theorem putA_at {α : Type} (n : Nat) (a : α) (A : Nat → α) : putA n a A n = a := by unfold putA; rw [if_pos rfl]
theorem putA_ne {α : Type} {n i : Nat} (a : α) (A : Nat → α) (h : i ≠ n) : putA n a A i = A i := by unfold putA; rw [if_neg h]
theorem Nodes.add (h : Nodes w B bi oi l m nb KA KN KC K) (hB : B ≤ w.heap.size) (t : TypeId) :
    Nodes (w.alloc (.cells #[partV bi oi (l.getD m dIt) m, .int .i64 (m : Int), .slice none 0 0] t)) B bi oi l (m + 1) (putA m w.heap.size nb) (putA m none KA) (putA m 0 KN) (putA m 0 KC) (putA m [] K) := by
  have h1 := h.below (below1 w (.cells #[partV bi oi (l.getD m dIt) m, .int .i64 (m : Int), .slice none 0 0] t))
  have hc : ∀ j, j < m + 1 → j = m ∨ (j ≠ m ∧ j < m) := fun j hj => by omega
  have hlt : ∀ j, j < m → nb j < w.heap.size := fun j hj => (h.lt j hj).2
  refine ⟨fun j hj => ?_, fun j hj => ?_, fun j hj => ?_, fun j hj => ?_, fun j hj => ?_, fun j hj => ?_, fun j hj => ?_, fun i j hi hj hij => ?_, fun i j hi hj => ?_, fun i j hi hj hij => ?_⟩
  · rcases hc j hj with rfl | ⟨e, hj⟩
    · rw [putA_at]; simp; omega
    · rw [putA_ne _ _ e]; exact h1.lt j hj
  · rcases hc j hj with rfl | ⟨e, hj⟩
    · rw [putA_at]; simp
    · rw [putA_ne _ _ e]; exact h1.c0 j hj
  · rcases hc j hj with rfl | ⟨e, hj⟩
    · rw [putA_at]; simp
    · rw [putA_ne _ _ e]; exact h1.c1 j hj
  · rcases hc j hj with rfl | ⟨e, hj⟩
    · rw [putA_at, putA_at, putA_at, putA_at]; simp
    · rw [putA_ne _ _ e, putA_ne _ _ e, putA_ne _ _ e, putA_ne _ _ e]; exact h1.c2 j hj
  · rcases hc j hj with rfl | ⟨e, hj⟩
    · rw [putA_at]; go_simp
    · rw [putA_ne _ _ e]; exact h1.f2 j hj
  · rcases hc j hj with rfl | ⟨e, hj⟩
    · rw [putA_at, putA_at, putA_at, putA_at]
      exact World.ownsRow_nil _ _ _ _
    · rw [putA_ne _ _ e, putA_ne _ _ e, putA_ne _ _ e, putA_ne _ _ e, rowN_congr (nb' := nb) fun k hk => putA_ne _ _ (by have := h.kid j hj k hk; omega)]
      exact h1.row j hj
  · rcases hc j hj with rfl | ⟨e, hj⟩
    · rw [putA_at]; intro k hk; cases hk
    · rw [putA_ne _ _ e]
      intro k hk
      have := h.kid j hj k hk
      omega
  · rcases hc i hi with rfl | ⟨e, hi⟩ <;> rcases hc j hj with rfl | ⟨e2, hj⟩
    · exact absurd rfl hij
    · rw [putA_at, putA_ne _ _ e2]
      have := hlt j hj
      omega
    · rw [putA_at, putA_ne _ _ e]
      have := hlt i hi
      omega
    · rw [putA_ne _ _ e, putA_ne _ _ e2]
      exact h.one i j hi hj hij
  · rcases hc i hi with rfl | ⟨e, hi⟩
    · rw [putA_at, putA_at, putA_at]
      intro q
      cases q
    · rw [putA_ne _ _ e, putA_ne _ _ e, putA_ne _ _ e]
      rcases hc j hj with rfl | ⟨e2, hj⟩
      · rw [putA_at]
        intro q
        have := ((h.row i hi).lt _ q).2
        omega
      · rw [putA_ne _ _ e2]
        exact h.off i j hi hj
  · rcases hc i hi with rfl | ⟨e, hi⟩
    · rw [putA_at, putA_at, putA_at]
      intro g q
      cases q
    · rw [putA_ne _ _ e, putA_ne _ _ e, putA_ne _ _ e]
      rcases hc j hj with rfl | ⟨e2, hj⟩
      · rw [putA_at, putA_at, putA_at]
        intro g _ q
        cases q
      · rw [putA_ne _ _ e2, putA_ne _ _ e2, putA_ne _ _ e2]
        exact h.each i j hi hj hij
theorem Nodes.put {w0 w3 : World} {p k : Nat} {a' : Option Addr} {n' c' : Nat} (h : Nodes w B bi oi l m nb KA KN KC K) (hp : p < m) (hk : k < m) (hw : Below w.heap.size w w0)
    (hown : w3.ownsRow B 100 1 (.slice a' n' c') n' (rowN nb (K p) ++ [ptrN (nb k)])) (hgr : w0.grownBy w3 (Value.slice (KA p) (KN p) (KC p)).ownBlock)
    (hat : (Value.slice a' n' c').ownBlock = (Value.slice (KA p) (KN p) (KC p)).ownBlock ∨ ∃ g, (Value.slice a' n' c').ownBlock = some g ∧ w0.heap.size ≤ g) :
    Nodes (w3.setCell ⟨nb p, 2, none⟩ (.slice a' n' c')) B bi oi l m nb (putA p a' KA) (putA p n' KN) (putA p c' KC) (putA p (K p ++ [k]) K) := by
  have h0 := h.below hw
  have ho := Only.grown hgr
  have hnr : ∀ j, j < m → ¬ (some (nb j) = (Value.slice (KA p) (KN p) (KC p)).ownBlock) := fun j hj e => h.off p j hp hj e.symm
  have hsz : w3.heap.size = (w3.setCell ⟨nb p, 2, none⟩ (.slice a' n' c')).heap.size := by simp
  have hl3 : ∀ j, j < m → nb j < w3.heap.size := fun j hj => Nat.lt_of_lt_of_le (h0.lt j hj).2 ho.size
  have k0 : ∀ j, j < m → ∀ i, w3.cell? ⟨nb j, i, none⟩ = w0.cell? ⟨nb j, i, none⟩ := fun j hj i => ho.cell (p := ⟨nb j, i, none⟩) (h0.lt j hj).2 (hnr j hj)
  have kf : ∀ j, j < m → ∀ i, w3.frozen? ⟨nb j, i, none⟩ = w0.frozen? ⟨nb j, i, none⟩ := fun j hj i => ho.frozen (p := ⟨nb j, i, none⟩) (h0.lt j hj).2 (hnr j hj)
  have hnew : ∀ j, j < m → (Value.slice a' n' c').ownBlock ≠ some (nb j) := fun j hj e => by
    rcases hat with q | ⟨g, q, hg⟩
    · exact h.off p j hp hj (q.symm.trans e)
    · rw [q] at e
      simp only [Option.some.injEq] at e
      have := (h0.lt j hj).2
      omega
  have hc : ∀ j, j = p ∨ j ≠ p := fun j => by omega
  refine ⟨fun j hj => ⟨(h.lt j hj).1, by rw [← hsz]; exact hl3 j hj⟩, fun j hj => ?_, fun j hj => ?_, fun j hj => ?_, fun j hj => ?_, fun j hj => ?_, fun j hj => ?_, h.one, fun i j hi hj => ?_, fun i j hi hj hij => ?_⟩
  · rw [World.cell?_setCell_other _ _ _ _ (fun e => absurd (congrArg Addr.off e) (show (2 : Nat) ≠ 0 by decide)), k0 j hj]
    exact h0.c0 j hj
  · rw [World.cell?_setCell_other _ _ _ _ (fun e => absurd (congrArg Addr.off e) (show (2 : Nat) ≠ 1 by decide)), k0 j hj]
    exact h0.c1 j hj
  · rcases hc j with rfl | e
    · rw [putA_at, putA_at, putA_at]
      exact World.cell?_setCell_same _ _ _ ((k0 j hj 2).trans (h0.c2 j hj))
    · rw [putA_ne _ _ e, putA_ne _ _ e, putA_ne _ _ e, World.cell?_setCell_other _ _ _ _ (fun q => h.one p j hp hj (fun r => e r.symm) (congrArg Addr.block q)), k0 j hj]
      exact h0.c2 j hj
  · rw [World.frozen?_setCell, kf j hj]
    exact h0.f2 j hj
  · rcases hc j with rfl | e
    · rw [putA_at, putA_at, putA_at, putA_at]
      have er : rowN nb (K j ++ [k]) = rowN nb (K j) ++ [ptrN (nb k)] := by simp [rowN]
      rw [er]
      exact owns_onlyN hown (Only.set (P := fun i => i = nb j) w3 ⟨nb j, 2, none⟩ _ rfl) fun g hg q => hnew j hj (by rw [hg, q])
    · rw [putA_ne _ _ e, putA_ne _ _ e, putA_ne _ _ e, putA_ne _ _ e]
      have r3 := owns_onlyN (h0.row j hj) ho fun g hg q => h.each p j hp hj (fun r => e r.symm) g q.symm hg
      exact owns_onlyN r3 (Only.set (P := fun i => i = nb p) w3 ⟨nb p, 2, none⟩ _ rfl) fun g hg q => h.off j p hj hp (by rw [hg, q])
  · rcases hc j with rfl | e
    · rw [putA_at]
      intro q hq
      rw [List.mem_append, List.mem_singleton] at hq
      rcases hq with hq | rfl
      · exact h.kid j hj q hq
      · exact hk
    · rw [putA_ne _ _ e]
      exact h.kid j hj
  · rcases hc i with rfl | e
    · rw [putA_at, putA_at, putA_at]
      exact hnew j hj
    · rw [putA_ne _ _ e, putA_ne _ _ e, putA_ne _ _ e]
      exact h.off i j hi hj
  · have hne : ∀ j, j < m → j ≠ p → ∀ g, (Value.slice a' n' c').ownBlock = some g → (Value.slice (KA j) (KN j) (KC j)).ownBlock ≠ some g := fun j hj e g hg q => by
      rcases hat with r | ⟨g', r, hg'⟩
      · exact h.each p j hp hj (fun r => e r.symm) g (r.symm.trans hg) q
      · rw [r] at hg
        simp only [Option.some.injEq] at hg
        have := ((h0.row j hj).lt g q).2
        omega
    rcases hc i with rfl | e
    · rcases hc j with rfl | e2
      · exact absurd rfl hij
      · rw [putA_at, putA_at, putA_at, putA_ne _ _ e2, putA_ne _ _ e2, putA_ne _ _ e2]
        exact hne j hj e2
    · rcases hc j with rfl | e2
      · rw [putA_ne _ _ e, putA_ne _ _ e, putA_ne _ _ e, putA_at, putA_at, putA_at]
        intro g hg q
        exact hne i hi e g q hg
      · rw [putA_ne _ _ e, putA_ne _ _ e, putA_ne _ _ e, putA_ne _ _ e2, putA_ne _ _ e2, putA_ne _ _ e2]
        exact h.each i j hi hj hij
end
end Go.Proofs.YtjkmgpomcnplnaaGreatDoor
