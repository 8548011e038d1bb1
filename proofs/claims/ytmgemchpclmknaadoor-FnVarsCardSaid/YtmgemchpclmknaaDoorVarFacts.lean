/- Plain facts of the law on numbers and strings. -/
import Derived.Test.YtmgemchpclmknaaDoorReadString2
import Derived.Test.YtmgemchpclmknaaDoorFacts
namespace Go.Proofs.YtmgemchpclmknaaDoor
open Go.RowKit
set_option linter.unusedVariables false

/-- the form of a number's bytes -/
theorem vput_form : ∀ (m N : Nat), N ≤ m → ∃ (l : List Int) (z : Int), vput N = l ++ [z] ∧ (∀ x ∈ l, 128 ≤ x ∧ x ≤ 255) ∧ 0 ≤ z ∧ z < 128 ∧ (l = [] ∨ z ≠ 0) ∧ vval (vput N) = N := by
  intro m
  induction m with
  | zero =>
    intro N h
    obtain rfl : N = 0 := by omega
    exact ⟨[], 0, by rw [vput_small (by omega)]; rfl, fun x hx => by simp at hx, by omega, by omega, .inl rfl, by rw [vput_small (by omega)]; simp [vval]⟩
  | succ m ih =>
    intro N h
    by_cases hs : N < 128
    · exact ⟨[], N, by rw [vput_small hs]; rfl, fun x hx => by simp at hx, by omega, by omega, .inl rfl, by rw [vput_small hs]; simp [vval]; omega⟩
    · obtain ⟨l, z, h1, h2, h3, h4, h5, h6⟩ := ih (N / 128) (by omega)
      refine ⟨(128 + (N : Int) % 128) :: l, z, by rw [vput_big hs, h1]; rfl, ?_, h3, h4, .inr ?_, ?_⟩
      · intro x hx
        rcases List.mem_cons.1 hx with rfl | hx
        · omega
        · exact h2 x hx
      · rcases h5 with h5 | h5
        · intro hz
          subst h5
          rw [h1] at h6
          simp [vval, hz] at h6
          omega
        · exact h5
      · rw [vput_big hs]
        simp only [vval, h6]
        omega
/-- what is put is read again, whatever stands behind it -/
theorem vread_app (N : Nat) (D : List Int) (hN : N ≤ 9223372036854775807) : vreadOk (vput N ++ D) = true ∧ vreadN (vput N ++ D) = N ∧ vreadK (vput N ++ D) = (vput N).length := by
  obtain ⟨l, z, h1, h2, h3, h4, h5, h6⟩ := vput_form N N (Nat.le_refl _)
  have h9 := vput_len9 N hN
  have hlen : (vput N).length = l.length + 1 := by rw [h1]; simp
  have hg : ∀ i, i < l.length → (vput N ++ D).getD i 0 = l.getD i 0 := fun i hi => by
    rw [h1, List.append_assoc]
    simp [List.getD_eq_getElem?_getD, List.getElem?_append_left hi]
  have hz : (vput N ++ D).getD l.length 0 = z := by
    rw [h1, List.append_assoc]
    simp [List.getD_eq_getElem?_getD]
  have hl : lead (vput N ++ D) = l.length := by
    refine lead_is _ _ (fun i hi => ?_) (by simp; omega) (by omega) (fun _ _ => by rw [hz]; exact h4)
    rw [hg i hi, List.getD_eq_getElem?_getD, List.getElem?_eq_getElem hi]
    exact (h2 _ (List.getElem_mem hi)).1
  have hok : vreadOk (vput N ++ D) = true := by
    unfold vreadOk
    rw [decide_eq_true_iff, hl, hz]
    refine ⟨by simp; omega, by omega, ?_⟩
    rcases h5 with h5 | h5
    · left; rw [h5]; rfl
    · right; exact h5
  obtain ⟨e1, e2⟩ := read_some hl hok
  refine ⟨hok, ?_, by rw [e2, hlen]⟩
  rw [e1, ← hlen, List.take_left, h6]
theorem takeWhile_low {f : Int → Bool} : ∀ (l : List Int) (i : Nat), i < (l.takeWhile f).length → f (l.getD i 0) = true
  | [], i, h => by simp at h
  | a :: r, 0, h => by
    by_cases ha : f a = true
    · simpa using ha
    · simp [ha] at h
  | a :: r, i + 1, h => by
    by_cases ha : f a = true
    · have := takeWhile_low r i (by simpa [ha] using h)
      simpa using this
    · simp [ha] at h
theorem takeWhile_stop {f : Int → Bool} : ∀ (l : List Int), (l.takeWhile f).length < l.length → f (l.getD (l.takeWhile f).length 0) = false
  | [], h => by simp at h
  | a :: r, h => by
    by_cases ha : f a = true
    · have := takeWhile_stop r (by simpa [ha] using h)
      simpa [ha] using this
    · simp [ha]
theorem lead_low (xs : List Int) : ∀ i, i < lead xs → 128 ≤ xs.getD i 0 := by
  intro i hi
  have h9 := (lead_le xs).2
  unfold lead at hi
  have := takeWhile_low (f := fun b => decide (128 ≤ b)) (xs.take 9) i hi
  have hi9 : i < 9 := by unfold lead at h9; omega
  have e : (xs.take 9).getD i 0 = xs.getD i 0 := by simp [List.getD_eq_getElem?_getD, hi9]
  rw [e] at this
  simpa using this
theorem lead_stop (xs : List Int) (h : lead xs < xs.length) (h9 : lead xs < 9) : xs.getD (lead xs) 0 < 128 := by
  have hlen : (xs.take 9).length = min 9 xs.length := by simp
  have hl : ((xs.take 9).takeWhile (fun b => decide (128 ≤ b))).length = lead xs := rfl
  have := takeWhile_stop (f := fun b => decide (128 ≤ b)) (xs.take 9) (by rw [hl, hlen]; omega)
  rw [hl] at this
  have e : (xs.take 9).getD (lead xs) 0 = xs.getD (lead xs) 0 := by simp [List.getD_eq_getElem?_getD, h9]
  rw [e] at this
  simpa using this
/-- what is read is put again in the same bytes -/
theorem vread_back (xs : List Int) (hb : ∀ i, 0 ≤ xs.getD i 0 ∧ xs.getD i 0 ≤ 255) (h : vreadOk xs = true) : vput (vreadN xs).toNat = xs.take (vreadK xs) ∧ 1 ≤ vreadK xs := by
  have h2 := h
  unfold vreadOk at h2
  rw [decide_eq_true_iff] at h2
  obtain ⟨h3, h4, h5⟩ := h2
  obtain ⟨e1, e2⟩ := read_some rfl h
  have hgt := lead_low xs
  rw [e1, e2]
  exact ⟨(vread_put xs (fun i _ => hb i) (lead xs) h3 (fun i hi => (hgt i hi)) (lead_stop xs h3 h4)).2 h5, by omega⟩
theorem bytesI_of (xs : List Int) (h : ∀ x ∈ xs, 0 ≤ x ∧ x ≤ 255) : bytesI (strOfNums xs).data.toList = xs := bytesI_nums xs (fun x hx => by have := h x hx; omega)
theorem fault0_size {s : ByteArray} (h : textFault s.data.toList = 0) : s.size ≤ 60 := by
  have := fault_size h
  simpa using this
/-- a string put is read again, whatever stands behind it -/
theorem sread_app (t : ByteArray) (D : List Int) (ht : textFault t.data.toList = 0) : sOk (psList t.data.toList ++ D) = true ∧ stxt (psList t.data.toList ++ D) = t ∧ ssz (psList t.data.toList ++ D) = (psList t.data.toList).length := by
  have h60 := fault0_size ht
  have hl : t.data.toList.length = t.size := by simp
  have hp : psList t.data.toList = vput t.size ++ bytesI t.data.toList := by unfold psList; rw [if_pos ht, hl]
  obtain ⟨h1, h2, h3⟩ := vread_app t.size (bytesI t.data.toList ++ D) (by omega)
  have hbl : (bytesI t.data.toList).length = t.size := by rw [bytesI_length, hl]
  rw [← List.append_assoc, ← hp] at h1 h2 h3
  have hbody : sbody (psList t.data.toList ++ D) = t := by
    unfold sbody
    rw [h2, h3, hp, List.append_assoc, List.drop_left, Int.toNat_natCast, ← hbl, List.take_left]
    exact nums_bytesI t
  have hok : sOk (psList t.data.toList ++ D) = true := by
    unfold sOk
    rw [h1, hbody, ht, h2, h3, hp]
    simp [hbl]
    omega
  obtain ⟨e1, e2⟩ := s_some hok
  refine ⟨hok, by rw [e1, hbody], ?_⟩
  rw [e2, h2, h3, hp]
  simp [hbl]
theorem mem_piece {xs : List Int} (h : ∀ y ∈ xs, 0 ≤ y ∧ y ≤ 255) (a b : Nat) : ∀ y ∈ (xs.drop a).take b, 0 ≤ y ∧ y ≤ 255 := fun y hy => h y (List.mem_of_mem_drop (List.mem_of_mem_take hy))
/-- a string read is put again in the same bytes -/
theorem sread_back (xs : List Int) (hm : ∀ y ∈ xs, 0 ≤ y ∧ y ≤ 255) (hb : ∀ i, 0 ≤ xs.getD i 0 ∧ xs.getD i 0 ≤ 255) (h : sOk xs = true) :
    psList (stxt xs).data.toList = xs.take (ssz xs).toNat ∧ 1 ≤ ssz xs ∧ ssz xs ≤ xs.length ∧ textFault (stxt xs).data.toList = 0 ∧ (stxt xs).size ≤ 60 := by
  have h2 := h
  unfold sOk at h2
  simp only [Bool.and_eq_true, decide_eq_true_iff] at h2
  obtain ⟨h3, h4, h5⟩ := h2
  obtain ⟨e1, e2⟩ := s_some h
  obtain ⟨b1, b2⟩ := vread_back xs hb h3
  have h0 := (vreadN_bd xs).1
  have hk := (vreadK_le xs).1
  have hsz := sbody_size xs h4
  have h60 := fault0_size h5
  rw [e1, e2]
  refine ⟨?_, by omega, by omega, h5, h60⟩
  have hl : (sbody xs).data.toList.length = (sbody xs).size := by simp
  unfold psList
  rw [if_pos h5, hl]
  have e3 : (sbody xs).size = (vreadN xs).toNat := by omega
  rw [e3, b1]
  unfold sbody
  rw [bytesI_of _ (mem_piece hm _ _)]
  have e4 : ((vreadK xs : Int) + vreadN xs).toNat = vreadK xs + (vreadN xs).toNat := by omega
  rw [e4, List.take_add]
theorem getD_of_mem {xs : List Int} (h : ∀ y ∈ xs, 0 ≤ y ∧ y ≤ 255) : ∀ i, 0 ≤ xs.getD i 0 ∧ xs.getD i 0 ≤ 255 := by
  intro i
  rw [List.getD_eq_getElem?_getD]
  by_cases hi : i < xs.length
  · rw [List.getElem?_eq_getElem hi]; exact h _ (List.getElem_mem hi)
  · rw [List.getElem?_eq_none (by omega)]; simp
end Go.Proofs.YtmgemchpclmknaaDoor
