/- Plain words on points that are put and read again: no run in this text. -/
import Derived.Test.YtkpbamjmdcbflaaDoorUtf
namespace Go.Proofs.YtkpbamjmdcbflaaDoor
open Go.Lib
set_option linter.unusedVariables false

theorem bytesI_length (l : List UInt8) : (bytesI l).length = l.length := by unfold bytesI; simp
theorem by_bytesI (l : List UInt8) (i : Nat) : by' l i = (bytesI l).getD i 0 := by
  unfold by' bytesI
  rw [List.getD_eq_getElem?_getD, List.getD_eq_getElem?_getD, List.getElem?_map]
  cases l[i]? <;> simp
theorem enc_core (l : List UInt8) (n : Nat) (p : Int) (h : pointB p = true) (hl : bytesI l = encodeRuneZ p) (hlen : l.length = n) (hn : 0 < n) (hlead : leadN (by' l 0) = n) (hf : foldP l n = p) : strm l = [(p, true)] := by
  have hne : l ≠ [] := fun e => by rw [e] at hlen; simp at hlen; omega
  have hi := first_is l hne (by omega) (by omega)
  rw [hlead] at hi
  have ok : FirstOk l n := ⟨by rw [hf]; exact h, by rw [hf, ← hl, List.take_of_length_le (by omega)]⟩
  have hb := hi.1.1 ok
  obtain ⟨h1, h2⟩ := hi.2 hb
  rw [strm_step l hne hb, h1, hf, h2, List.drop_of_length_le (by omega), strm_nil]
theorem enc_strm (l : List UInt8) (p : Int) (h : pointB p = true) (hl : bytesI l = encodeRuneZ p) : strm l = [(p, true)] := by
  have hlen := bytesI_length l
  have hp := (pointB_iff p).1 h
  have q0 := by_bytesI l 0
  have q1 := by_bytesI l 1
  have q2 := by_bytesI l 2
  have q3 := by_bytesI l 3
  rcases enc_cases p h with ⟨c, e⟩ | ⟨c1, c2, e⟩ | ⟨c1, c2, e⟩ | ⟨c, e⟩
  · rw [hl, e] at q0 hlen
    simp at q0 hlen
    refine enc_core l 1 p h hl (by omega) (by omega) (by unfold leadN; rw [q0, if_pos c]) ?_
    rw [foldP_1, leadP_1 (by omega), q0]
  · rw [hl, e] at q0 q1 hlen
    simp at q0 q1 hlen
    refine enc_core l 2 p h hl (by omega) (by omega) (by unfold leadN; rw [if_neg (by omega), if_pos (by omega)]) ?_
    rw [foldP_2, leadP_2 (by omega), q0, q1]
    omega
  · rw [hl, e] at q0 q1 q2 hlen
    simp at q0 q1 q2 hlen
    refine enc_core l 3 p h hl (by omega) (by omega) (by unfold leadN; rw [if_neg (by omega), if_neg (by omega), if_pos (by omega)]) ?_
    rw [foldP_3, leadP_3 (by omega), q0, q1, q2]
    omega
  · rw [hl, e] at q0 q1 q2 q3 hlen
    simp at q0 q1 q2 q3 hlen
    refine enc_core l 4 p h hl (by omega) (by omega) (by unfold leadN; rw [if_neg (by omega), if_neg (by omega), if_neg (by omega), if_pos (by omega)]) ?_
    rw [foldP_4, leadP_4 (by omega), q0, q1, q2, q3]
    omega
theorem bytesI_nums (xs : List Int) (h : ∀ x ∈ xs, 0 ≤ x ∧ x < 256) : bytesI (strOfNums xs).data.toList = xs := by
  rw [strOfNums_data]
  exact ((ofNums_inj xs _ h).1 rfl).symm
theorem nums_bytesI (s : ByteArray) : strOfNums (bytesI s.data.toList) = s := by
  have h := strOfNums_data (bytesI s.data.toList)
  have h2 := (ofNums_inj (bytesI s.data.toList) s.data.toList (fun x hx => by
    unfold bytesI at hx
    obtain ⟨c, _, rfl⟩ := List.mem_map.1 hx
    have := c.toNat_lt
    omega)).2 rfl
  rw [h2] at h
  cases s with
  | mk d =>
    generalize strOfNums _ = t at h ⊢
    cases t with
    | mk d2 =>
      congr 1
      exact Array.ext' h
/-- what is put is read as one point -/
theorem put_read (p : Int) (h : pointB p = true) : ptsList (strOfNums (encodeRuneZ p)).data.toList = [p] := by
  have hs := enc_strm _ p h (bytesI_nums _ (encodeRuneZ_byte p))
  have hl : (strOfNums (encodeRuneZ p)).data.toList.length ≤ 4 := by
    have := Lib.encodeRuneZ_length p
    have h2 := strOfNums_size (encodeRuneZ p)
    simp only [Array.length_toList]
    show (strOfNums (encodeRuneZ p)).size ≤ 4
    omega
  unfold ptsList pts
  rw [hs, if_neg (by omega)]
  simp

theorem pts_strm {l : List UInt8} {L : List Int} (h : pts l = some L) : strm l = L.map (fun p => (p, true)) := by
  unfold pts at h
  split at h
  · rename_i ha
    injection h with h
    rw [← h, List.map_map]
    refine (List.map_id _).symm.trans (List.map_congr_left fun x hx => ?_)
    have := List.all_eq_true.1 ha x hx
    cases x with
    | mk a b =>
      simp at this
      simp [this]
  · cases h
theorem strm_join : ∀ (n : Nat) (l : List UInt8) (L : List Int), l.length ≤ n → strm l = L.map (fun p => (p, true)) → bytesI l = L.flatMap encodeRuneZ ∧ ∀ p ∈ L, pointB p = true
  | 0, l, L, hn, h => by
    have : l = [] := List.eq_nil_of_length_eq_zero (by omega)
    subst this
    rw [strm_nil] at h
    have : L = [] := by simpa using h.symm
    subst this
    exact ⟨rfl, by simp⟩
  | n + 1, l, L, hn, h => by
    by_cases h0 : l = []
    · subst h0
      rw [strm_nil] at h
      have : L = [] := by simpa using h.symm
      subst this
      exact ⟨rfl, by simp⟩
    · cases hb : badB l
      · have hd := drop_lt l h0
        rw [strm_step l h0 hb] at h
        cases L with
        | nil => simp at h
        | cons p L =>
          rw [List.map_cons, List.cons.injEq] at h
          obtain ⟨h1, h2⟩ := h
          obtain ⟨i1, i2⟩ := strm_join n _ L (by omega) h2
          have hlead : leadN (by' l 0) ≠ 0 ∧ leadN (by' l 0) ≤ l.length := by
            refine Decidable.byContradiction fun hc => ?_
            have := bad_lead l h0 (by omega)
            rw [hb] at this
            cases this
          have hi := first_is l h0 hlead.1 hlead.2
          obtain ⟨o1, o2⟩ := hi.1.2 hb
          obtain ⟨e1, e2⟩ := hi.2 hb
          have hp : p = foldP l (leadN (by' l 0)) := by
            have h3 := congrArg Prod.fst h1
            exact h3.symm.trans e1
          rw [← hp] at o1 o2
          rw [e2] at i1
          refine ⟨?_, fun q hq => ?_⟩
          · rw [List.flatMap_cons, o2, ← i1]
            unfold bytesI
            rw [← List.map_append, List.take_append_drop]
          · rcases List.mem_cons.1 hq with rfl | hq
            · exact o1
            · exact i2 q hq
      · rw [strm_bad l h0 hb] at h
        cases L with
        | nil => simp at h
        | cons p L => simp at h

/-- the points of a text, put one behind the other, are the text -/
theorem read_put (s : ByteArray) (h : ptsCode s.data.toList = 0) : strOfNums ((ptsList s.data.toList).flatMap encodeRuneZ) = s ∧ ∀ p ∈ ptsList s.data.toList, pointB p = true := by
  unfold ptsCode at h
  split at h
  · cases h
  · rename_i hn
    split at h
    · rename_i hp
      obtain ⟨L, hL⟩ := Option.isSome_iff_exists.1 hp
      obtain ⟨a, b⟩ := strm_join _ _ L (Nat.le_refl _) (pts_strm hL)
      unfold ptsList
      rw [if_neg hn, hL, Option.getD_some, ← a]
      exact ⟨nums_bytesI s, b⟩
    · cases h
theorem fault_none (l : List UInt8) (h : ptsCode l ≠ 0) : ptsList l = [] := by
  unfold ptsCode at h
  unfold ptsList
  split at h
  · rename_i hn
    rw [if_pos hn]
  · rename_i hn
    rw [if_neg hn]
    split at h
    · exact absurd rfl h
    · rename_i hp
      cases hq : pts l
      · rfl
      · rw [hq] at hp
        simp at hp

theorem ascii_chars : ∀ (l : List UInt8), (∀ c ∈ l, c.toNat < 128 ∧ charB (c.toNat : Int) = true) → (strm l).all goodB = true
  | [], _ => by rw [strm_nil]; rfl
  | c :: l, h => by
    obtain ⟨h1, h2⟩ := h c (by simp)
    have hb0 : by' (c :: l) 0 = (c.toNat : Int) := rfl
    have hi := first1 (c :: l) (by simp) (by rw [hb0]; omega)
    have hf : foldP (c :: l) 1 = (c.toNat : Int) := by rw [foldP_1, leadP_1 (by rw [hb0]; omega), hb0]
    have ok : FirstOk (c :: l) 1 := by
      obtain ⟨n1, n2⟩ := num1 c.toNat h1
      exact ⟨by rw [hf]; exact n1, by rw [hf, n2]; rfl⟩
    have hb := hi.1.1 ok
    obtain ⟨e1, e2⟩ := hi.2 hb
    have ih := ascii_chars l (fun x hx => h x (by simp [hx]))
    rw [strm_step _ (by simp) hb, e1, e2, hf]
    simp only [List.drop_succ_cons, List.drop_zero, List.all_cons, ih, goodB, h2, Bool.and_self]
end Go.Proofs.YtkpbamjmdcbflaaDoor
