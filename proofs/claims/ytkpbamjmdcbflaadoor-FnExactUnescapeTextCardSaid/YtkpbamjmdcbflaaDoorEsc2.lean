/- Plain words on reading what is written otherwise, sign by sign: no run in this text. -/
import Derived.Test.YtkpbamjmdcbflaaDoorEsc
namespace Go.Proofs.YtkpbamjmdcbflaaDoor
open Go.Lib
set_option linter.unusedVariables false

theorem hex_plain (c : UInt8) (h : 0 ≤ hexV c) : plainB c = true := by
  have hc : (48 ≤ c.toNat ∧ c.toNat ≤ 57) ∨ (97 ≤ c.toNat ∧ c.toNat ≤ 102) ∨ (65 ≤ c.toNat ∧ c.toNat ≤ 70) := by
    unfold hexV at h
    repeat' split at h
    all_goals first | omega | (exfalso; omega) | skip
  have hp : pointB (c.toNat : Int) = true := (pointB_iff _).2 (by omega)
  simp [plainB, charB, hp]
  omega
theorem hexV_le (c : UInt8) : -1 ≤ hexV c ∧ hexV c ≤ 15 := by
  unfold hexV
  repeat' split
  all_goals omega
theorem numF_lt (base : Int) : ∀ (l : List UInt8) (n : Int), l.all (digB base) = false → numF base n l = -1
  | [], _, h => by simp at h
  | c :: t, n, h => by
    unfold numF
    cases hd : digB base c
    · rfl
    · rw [List.all_cons, hd, Bool.true_and] at h
      simp only [if_true]
      exact numF_lt base t _ h
theorem numF_bd (base : Int) (hb : 0 ≤ base) : ∀ (l : List UInt8) (n : Int), l.all (digB base) = true → 0 ≤ n → 0 ≤ numF base n l ∧ numF base n l < (n + 1) * base ^ l.length
  | [], n, _, h0 => by simp [numF]; omega
  | c :: t, n, h, h0 => by
    rw [List.all_cons, Bool.and_eq_true] at h
    have hd := h.1
    unfold digB at hd
    simp only [Bool.and_eq_true, decide_eq_true_eq] at hd
    unfold numF
    rw [if_pos h.1]
    have hm : 0 ≤ n * base := Int.mul_nonneg h0 hb
    have ih := numF_bd base hb t (n * base + hexV c) h.2 (by omega)
    refine ⟨ih.1, Int.lt_of_lt_of_le ih.2 ?_⟩
    rw [List.length_cons, Int.pow_succ, ← Int.mul_assoc, Int.mul_right_comm]
    refine Int.mul_le_mul_of_nonneg_right ?_ (Int.pow_nonneg hb)
    rw [Int.add_mul]
    omega
theorem number_cases (base : Int) (most : Nat) (l : List UInt8) (hb : 0 ≤ base) : numberL base most l = -1 ∨ (1 ≤ l.length ∧ l.length ≤ most ∧ l.all (digB base) = true ∧ 0 ≤ numberL base most l ∧ numberL base most l < base ^ l.length) := by
  unfold numberL
  split
  · exact .inl rfl
  · rename_i h
    cases hd : l.all (digB base)
    · exact .inl (numF_lt base l 0 hd)
    · have := numF_bd base hb l 0 hd (by omega)
      exact .inr ⟨by omega, by omega, rfl, this.1, by have := this.2; simpa using this⟩
theorem digs_plain {base : Int} {l : List UInt8} (h : l.all (digB base) = true) : l.all plainB = true := by
  rw [List.all_eq_true] at h ⊢
  intro c hc
  have := h c hc
  unfold digB at this
  simp only [Bool.and_eq_true, decide_eq_true_eq] at this
  exact hex_plain c this.1
theorem number_plain {base : Int} {most : Nat} {l : List UInt8} (hb : 0 ≤ base) (h : charB (numberL base most l) = true) : l.all plainB = true := by
  rcases number_cases base most l hb with e | ⟨_, _, h3, _⟩
  · rw [e] at h
    exact absurd h (by decide)
  · exact digs_plain h3
theorem pow_small (base : Int) (k m : Nat) (hb : 1 ≤ base) (h : k ≤ m) : base ^ k ≤ base ^ m := by
  obtain ⟨d, rfl⟩ := Nat.exists_eq_add_of_le h
  rw [Int.pow_add]
  have h1 : 0 ≤ base ^ k := Int.pow_nonneg (by omega)
  have h2 : 1 ≤ base ^ d := by
    clear h h1
    induction d with
    | zero => simp
    | succ d ih =>
      rw [Int.pow_succ]
      have := Int.mul_le_mul ih hb (by omega) (by omega)
      omega
  have := Int.mul_le_mul_of_nonneg_left h2 h1
  omega
theorem number_le (base : Int) (most : Nat) (l : List UInt8) (hb : 1 ≤ base) : -1 ≤ numberL base most l ∧ numberL base most l ≤ base ^ most := by
  rcases number_cases base most l (by omega) with e | ⟨_, h2, _, h4, h5⟩
  · rw [e]
    have : 0 ≤ base ^ most := Int.pow_nonneg (by omega)
    omega
  · have := pow_small base _ _ hb h2
    omega
/-- what a name tells is no great number -/
theorem nameN_le (l : List UInt8) : -1 ≤ nameN l ∧ nameN l ≤ 16777216 := by
  unfold nameN
  repeat' split
  all_goals first | omega | skip
  · have := number_le 16 6 (l.drop 2) (by omega)
    simpa using this
  · have := number_le 10 7 (l.drop 1) (by omega)
    have e : (10 : Int) ^ 7 = 10000000 := by decide
    omega
/-- a name that tells a character is made of plain bytes -/
theorem name_plain (l : List UInt8) (h : charB (nameN l) = true) : l.all plainB = true := by
  unfold nameN at h
  repeat' split at h
  all_goals first | (rename_i e; subst e; decide) | skip
  · rename_i e
    rw [← List.take_append_drop 2 l, e, List.all_append, number_plain (by omega) h]
    decide
  · rename_i e
    rw [← List.take_append_drop 1 l, e, List.all_append, number_plain (by omega) h]
    decide
  · exact absurd h (by decide)

theorem semi_le (t : List UInt8) : semi t ≤ t.length := List.findIdx_le_length
theorem semi_at (t : List UInt8) (h : semi t < t.length) : t[semi t] = 59 := by
  have := List.findIdx_getElem (p := (· == (59 : UInt8))) (xs := t) (w := h)
  exact beq_iff_eq.1 this
theorem semi_lt (t : List UInt8) (j : Nat) (h : j < semi t) (hj : j < t.length) : t[j] ≠ 59 := by
  have := List.not_of_lt_findIdx (p := (· == (59 : UInt8))) (xs := t) (i := j) h
  simpa using this

/-! One sign ahead. -/
def firstR (u : List UInt8) : Nat := (decodeL u).1
def firstK (u : List UInt8) : Nat := (decodeL u).2
def aheadP (u : List UInt8) : Int :=
  if firstR u = 60 then -1 else if firstR u = 38 then (if semi (u.drop 1) < (u.drop 1).length then nameN ((u.drop 1).take (semi (u.drop 1))) else -1) else (firstR u : Int)
def aheadK (u : List UInt8) : Nat :=
  if firstR u = 60 then 0 else if firstR u = 38 then (if semi (u.drop 1) < (u.drop 1).length then 2 + semi (u.drop 1) else 0) else firstK u
theorem encodeRune_len (r : Int) : 1 ≤ (encodeRune r).length ∧ (encodeRune r).length ≤ 4 := by
  unfold encodeRune
  have := encodeRuneZ_length r
  simpa using this
theorem ent_of {l : List UInt8} (h : charB (nameN l) = true) : entL l = encodeRune (nameN l) ∧ entL l ≠ [] := by
  have e : entL l = encodeRune (nameN l) := by simp [entL, h]
  refine ⟨e, ?_⟩
  rw [e]
  intro h0
  have h1 := (encodeRune_len (nameN l)).1
  rw [h0] at h1
  simp at h1
theorem ent_none {l : List UInt8} (h : charB (nameN l) = false) : entL l = [] := by simp [entL, h]
theorem first_byte (u : List UInt8) (h : u ≠ []) (ho : okB u = true) (c : UInt8) (hc : c.toNat < 128) (hf : firstR u = c.toNat) : u = c :: u.drop 1 ∧ firstK u = 1 := by
  obtain ⟨f1, f2⟩ := first_low u h (not_bad h ho) (by unfold firstR at hf; omega)
  cases u with
  | nil => exact absurd rfl h
  | cons d t =>
    simp only [List.headD_cons] at f1
    have : d = c := UInt8.toNat_inj.1 (by unfold firstR at hf; omega)
    exact ⟨by rw [this]; rfl, f2⟩
theorem first_ok (u : List UInt8) (h : u ≠ []) (ho : okB u = true) : strm u = ((firstR u : Int), true) :: strm (u.drop (firstK u)) ∧ okB (u.drop (firstK u)) = true ∧ 1 ≤ firstK u ∧ firstK u ≤ u.length ∧ encodeRune (firstR u : Int) = u.take (firstK u) ∧ charsB u = (charB (firstR u : Int) && charsB (u.drop (firstK u))) := by
  have hb := not_bad h ho
  have hs := strm_step u h hb
  refine ⟨hs, ?_, decodeL_width u, decodeL_le u h, enc_first u h hb, ?_⟩
  · unfold okB at ho ⊢
    rw [hs, List.all_cons, Bool.and_eq_true] at ho
    exact ho.2
  · unfold charsB
    rw [hs, List.all_cons]
    simp [goodB, firstR, firstK]
/-- where the sign ahead is none, the whole is none -/
theorem un_step_bad (u : List UInt8) (h : u ≠ []) (ho : okB u = true) (hc : charB (aheadP u) = false) : unL u = none := by
  obtain ⟨_, _, _, _, _, hch⟩ := first_ok u h ho
  unfold unL
  unfold aheadP at hc
  by_cases h60 : firstR u = 60
  · obtain ⟨e, _⟩ := first_byte u h ho 60 (by decide) h60
    rw [e, unescL_lt]
    split <;> rfl
  · rw [if_neg h60] at hc
    by_cases h38 : firstR u = 38
    · rw [if_pos h38] at hc
      obtain ⟨e, _⟩ := first_byte u h ho 38 (by decide) h38
      generalize u.drop 1 = t at e hc
      rw [e]
      split
      · refine unescL_amp0 t ?_
        split at hc
        · exact .inr (ent_none hc)
        · exact .inl (by omega)
      · rfl
    · rw [if_neg h38] at hc
      rw [hch, hc]
      rfl
/-- where it is one, all goes on behind it -/
theorem un_step_ok (u : List UInt8) (h : u ≠ []) (ho : okB u = true) (hc : charB (aheadP u) = true) :
    unescL u = (unescL (u.drop (aheadK u))).map (encodeRune (aheadP u) ++ ·) ∧ firstK u ≤ aheadK u ∧ aheadK u ≤ u.length ∧ ((u.drop (firstK u)).take (aheadK u - firstK u)).all plainB = true ∧ charsB u = charsB (u.drop (firstK u)) := by
  obtain ⟨_, ho2, k1, k2, henc, hch⟩ := first_ok u h ho
  have q := hc
  unfold aheadP at q
  by_cases h60 : firstR u = 60
  · rw [if_pos h60] at q
    exact absurd q (by decide)
  · rw [if_neg h60] at q
    by_cases h38 : firstR u = 38
    · rw [if_pos h38] at q
      by_cases hs : semi (u.drop 1) < (u.drop 1).length
      · rw [if_pos hs] at q
        have eP : aheadP u = nameN ((u.drop 1).take (semi (u.drop 1))) := by unfold aheadP; rw [if_neg h60, if_pos h38, if_pos hs]
        have eK : aheadK u = 2 + semi (u.drop 1) := by unfold aheadK; rw [if_neg h60, if_pos h38, if_pos hs]
        obtain ⟨e, f1⟩ := first_byte u h ho 38 (by decide) h38
        obtain ⟨e1, e2⟩ := ent_of q
        have hp := name_plain _ q
        have hl : (u.drop 1).length + 1 = u.length := by rw [List.length_drop]; omega
        have hch2 : charsB u = charsB (u.drop 1) := by
          rw [f1] at hch
          rw [hch, h38]
          simp [show charB (38 : Int) = true by decide]
        rw [eP, eK, f1]
        refine ⟨?_, by omega, by omega, ?_, hch2⟩
        · have hd : u.drop (2 + semi (u.drop 1)) = (u.drop 1).drop (semi (u.drop 1) + 1) := by
            rw [List.drop_drop]
            congr 1
            omega
          rw [hd, ← e1]
          generalize u.drop 1 = t at e hs e2
          rw [e]
          exact unescL_amp t hs e2
        · have hsa := semi_at _ hs
          have e3 : 2 + semi (u.drop 1) - 1 = semi (u.drop 1) + 1 := by omega
          rw [e3, List.take_succ_eq_append_getElem hs, List.all_append, hp, hsa]
          decide
      · rw [if_neg hs] at q
        exact absurd q (by decide)
    · rw [if_neg h38] at q
      have eP : aheadP u = (firstR u : Int) := by unfold aheadP; rw [if_neg h60, if_neg h38]
      have eK : aheadK u = firstK u := by unfold aheadK; rw [if_neg h60, if_neg h38]
      rw [eP, eK, henc]
      refine ⟨?_, Nat.le_refl _, k2, by simp, by rw [hch, q, Bool.true_and]⟩
      by_cases hq : firstR u < 128
      · obtain ⟨f1, f2⟩ := first_low u h (not_bad h ho) hq
        cases u with
        | nil => exact absurd rfl h
        | cons c t =>
          have hk : firstK (c :: t) = 1 := f2
          simp only [List.headD_cons] at f1
          rw [hk]
          simp only [List.take_succ_cons, List.take_zero, List.drop_succ_cons, List.drop_zero, List.cons_append, List.nil_append]
          refine unescL_cons c t ?_ ?_
          · intro e; subst e; exact h60 f1.symm
          · intro e; subst e; exact h38 f1.symm
      · have hh := first_high u h (not_bad h ho) (by unfold firstR at hq; omega)
        have := unescL_high (u.take (firstK u)) (u.drop (firstK u)) hh
        rwa [List.take_append_drop] at this
/-- a plain byte ahead -/
theorem plain_step (u : List UInt8) (h : u ≠ []) (ho : okB u = true) (hp : (u.take 1).all plainB = true) : firstK u = 1 ∧ charsB u = charsB (u.drop 1) := by
  cases u with
  | nil => exact absurd rfl h
  | cons c t =>
    simp [plainB] at hp
    have hd := decodeL_ascii c t hp.1
    have hk : firstK (c :: t) = 1 := by unfold firstK; rw [hd]
    have hr : firstR (c :: t) = c.toNat := by unfold firstR; rw [hd]
    have := (first_ok (c :: t) h ho).2.2.2.2.2
    rw [hk, hr, hp.2, Bool.true_and] at this
    exact ⟨hk, this⟩
theorem runeLen_first (u : List UInt8) (h : u ≠ []) (ho : okB u = true) : runeLen (firstR u : Int) = (firstK u : Int) := by
  have hb := not_bad h ho
  have he := (first_ok u h ho).2.2.2.2.1
  by_cases hq : firstR u = 65533
  · have hl := congrArg List.length he
    rw [List.length_take] at hl
    have hk := (first_ok u h ho).2.2.2.1
    rw [hq] at hl ⊢
    have e3 : (encodeRune ((65533 : Nat) : Int)).length = 3 := by decide
    have e4 : runeLen ((65533 : Nat) : Int) = 3 := by decide
    rw [e3] at hl
    rw [e4]
    omega
  · exact runeLen_decode u hq

/-! The loop's relation: rune by rune, m: how far signs are read. -/
structure UnRel (l : List UInt8) (at_ behind : Nat) (acc : List UInt8) : Prop where
  le1 : at_ ≤ l.length
  le2 : behind ≤ l.length
  un : unescL l = (unescL (l.drop (max at_ behind))).map (acc ++ ·)
  ch : charsB l = charsB (l.drop at_)
  ok : okB (l.drop at_) = true
  pl : ((l.drop at_).take (max at_ behind - at_)).all plainB = true
  len : acc.length ≤ 4 * max at_ behind
theorem UnRel.start (l : List UInt8) (h : okB l = true) : UnRel l 0 0 [] :=
  ⟨Nat.zero_le _, Nat.zero_le _, by simp, by simp, by simpa using h, by simp, by simp⟩
theorem drop_ne {l : List UInt8} {k : Nat} (h : k < l.length) : l.drop k ≠ [] := by
  intro e
  have := congrArg List.length e
  rw [List.length_drop] at this
  simp at this
  omega
theorem UnRel.skip {l : List UInt8} {at_ behind : Nat} {acc : List UInt8} (h : UnRel l at_ behind acc) (hl : at_ < l.length) (hb : at_ < behind) : firstK (l.drop at_) = 1 ∧ UnRel l (at_ + 1) behind acc := by
  have hm : max at_ behind = behind := by omega
  have hp := h.pl
  rw [hm] at hp
  have hne := drop_ne hl
  have hp1 : ((l.drop at_).take 1).all plainB = true := by
    rw [show behind - at_ = 1 + (behind - at_ - 1) by omega, List.take_add, List.all_append, Bool.and_eq_true] at hp
    exact hp.1
  obtain ⟨k1, c1⟩ := plain_step _ hne h.ok hp1
  have ho := (first_ok _ hne h.ok).2.1
  rw [k1] at ho
  rw [List.drop_drop] at ho c1
  have hm2 : max (at_ + 1) behind = behind := by omega
  have h1 := h.un
  have h2 := h.len
  rw [hm] at h1 h2
  refine ⟨k1, ⟨by omega, h.le2, by rw [hm2]; exact h1, h.ch.trans c1, ho, ?_, by rw [hm2]; exact h2⟩⟩
  rw [hm2]
  rw [show behind - at_ = 1 + (behind - at_ - 1) by omega, List.take_add, List.all_append, Bool.and_eq_true, List.drop_drop] at hp
  rw [show behind - (at_ + 1) = behind - at_ - 1 by omega]
  exact hp.2
theorem UnRel.bad {l : List UInt8} {at_ behind : Nat} {acc : List UInt8} (h : UnRel l at_ behind acc) (hl : at_ < l.length) (hb : behind ≤ at_) (hc : charB (aheadP (l.drop at_)) = false) : unL l = none := by
  have hm : max at_ behind = at_ := by omega
  have h1 := h.un
  rw [hm] at h1
  have h2 := un_step_bad _ (drop_ne hl) h.ok hc
  unfold unL at h2 ⊢
  rw [h.ch, h1]
  split
  · rename_i hq
    rw [if_pos hq] at h2
    rw [h2]
    rfl
  · rfl
theorem UnRel.good {l : List UInt8} {at_ behind : Nat} {acc : List UInt8} (h : UnRel l at_ behind acc) (hl : at_ < l.length) (hb : behind ≤ at_) (hc : charB (aheadP (l.drop at_)) = true) :
    UnRel l (at_ + firstK (l.drop at_)) (at_ + aheadK (l.drop at_)) (acc ++ encodeRune (aheadP (l.drop at_))) ∧ 1 ≤ firstK (l.drop at_) := by
  have hm : max at_ behind = at_ := by omega
  have h1 := h.un
  have h2 := h.len
  rw [hm] at h1 h2
  have hne := drop_ne hl
  obtain ⟨a1, a2, a3, a4, a5⟩ := un_step_ok _ hne h.ok hc
  obtain ⟨_, o2, k1, k2, _, _⟩ := first_ok _ hne h.ok
  have hlen : (l.drop at_).length = l.length - at_ := List.length_drop ..
  have hel := encodeRune_len (aheadP (l.drop at_))
  rw [hlen] at a3 k2
  rw [List.drop_drop] at a1 a5 o2 a4
  have hm2 : max (at_ + firstK (l.drop at_)) (at_ + aheadK (l.drop at_)) = at_ + aheadK (l.drop at_) := by omega
  refine ⟨⟨by omega, by omega, ?_, h.ch.trans a5, o2, ?_, ?_⟩, k1⟩
  · rw [hm2, h1, a1, Option.map_map]
    congr 1
    funext x
    simp
  · rw [hm2, show at_ + aheadK (l.drop at_) - (at_ + firstK (l.drop at_)) = aheadK (l.drop at_) - firstK (l.drop at_) by omega]
    exact a4
  · rw [hm2, List.length_append]
    omega
theorem UnRel.done {l : List UInt8} {at_ behind : Nat} {acc : List UInt8} (h : UnRel l at_ behind acc) (hl : at_ = l.length) : unL l = some acc := by
  have hm : max at_ behind = l.length := by have := h.le2; omega
  have h1 := h.un
  have h2 := h.ch
  rw [hm, List.drop_length, unescL_nil] at h1
  rw [hl, List.drop_length, chars_nil] at h2
  unfold unL
  rw [h2, h1]
  simp
end Go.Proofs.YtkpbamjmdcbflaaDoor
