/- What a pidf's tree says, in plain words: both functions' answers are the same. -/
import Derived.Test.YtcaknhoaoodbfaaGreatDoorGP25
import Derived.Test.YtcaknhoaoodbfaaGreatDoorGP28
import Derived.Test.YtcaknhoaoodbfaaGreatDoorGP20
import Derived.Test.YtcaknhoaoodbfaaGreatDoorGP30
import Derived.Test.YtcaknhoaoodbfaaGreatDoorGP7
import Derived.Test.YtcaknhoaoodbfaaGreatDoorGP6
import Derived.Test.YtcaknhoaoodbfaaGreatDoorGP0
import Derived.Test.YtcaknhoaoodbfaaGreatDoorGP24
import Derived.Deep.RegionHeld3
namespace Go.Proofs.YtcaknhoaoodbfaaGreatDoor
open Go.ChangeShapes Go.WideShapes Go.ChangeAt Go.RowKit
set_option linter.unusedVariables false
set_option linter.unusedSimpArgs false
def Tells (l : List It) (g : Pr) : Prop := projCode g = 0 ∧ proj g = g ∧ pidfL g = l
open Classical in
noncomputable def pofCode (l : List It) : Int := if treeCode l ≠ 0 then treeCode l else if Tells l (guessM l) then 0 else 1
open Classical in
noncomputable def pofVal (l : List It) : Pr := if treeCode l ≠ 0 then dPr else if Tells l (guessM l) then guessM l else dPr
theorem proj_twice (p : Pr) : proj (proj p) = proj p := by
  unfold proj
  dsimp only
  have e1 : sharedS (sharedS p.shown) = sharedS p.shown := by
    unfold sharedS
    by_cases h2 : p.shown = 2
    · rw [if_pos h2]; rfl
    · rw [if_neg h2]
      by_cases h4 : p.shown = 4
      · rw [if_pos h4]; rfl
      · rw [if_neg h4, if_neg h2, if_neg h4]
  have e2 : prioS (prioS p.prio) = prioS p.prio := by
    unfold prioS
    by_cases h : 0 < p.prio
    · rw [if_pos h, if_pos h]
    · rw [if_neg h]; rfl
  rw [e1, e2]
theorem zero_code : projCode zeroPr = 7 := by decide +kernel
theorem told_same {l : List It} (hc : treeCode l = 0) : (pidfT (projT (guessP l)) = l ↔ Tells l (guessM l)) ∧ (Tells l (guessM l) → projT (guessP l) = guessM l) := by
  have hR := rises_of hc
  have hne : l ≠ [] := fun e => by have := hR.some; rw [e] at this; simp at this
  have hM : ∀ q, Tells l q → guessM l = q ∧ guessP l = q := fun q ⟨h1, h2, h3⟩ => by
    have := guess_right (ownPr_of h1 h2) (by rw [h3]; exact hR)
    rwa [h3] at this
  have hT : ∀ q, Tells l q → projT q = q := fun q ⟨h1, h2, _⟩ => by unfold projT; rw [if_pos h1, h2]
  refine ⟨⟨fun h => ?_, fun h => ?_⟩, fun h => ?_⟩
  · obtain ⟨t, ht⟩ : ∃ t, projT (guessP l) = t := ⟨_, rfl⟩
    rw [ht] at h
    have hct : projCode t = 0 := by
      rcases Decidable.em (projCode t = 0) with h0 | h0
      · exact h0
      · unfold pidfT at h
        rw [if_neg h0] at h
        exact absurd h.symm hne
    have hpt : proj t = t := by
      rw [← ht]
      unfold projT
      by_cases h0 : projCode (guessP l) = 0
      · rw [if_pos h0]; exact proj_twice _
      · rw [if_neg h0]
        exfalso
        unfold projT at ht
        rw [if_neg h0] at ht
        rw [← ht, zero_code] at hct
        cases hct
    have hl : pidfL t = l := by
      unfold pidfT at h
      rw [if_pos hct, hpt] at h
      exact h
    have hTl : Tells l t := ⟨hct, hpt, hl⟩
    rw [(hM t hTl).1]
    exact hTl
  · have hg := (hM _ h).2
    rw [hg, hT _ h]
    unfold pidfT
    rw [if_pos h.1, h.2.1]
    exact h.2.2
  · rw [(hM _ h).2]
    exact hT _ h
theorem behind5_le {s : ByteArray} (h : s.size ≤ 60) : (behind5 s).size ≤ 60 := by
  unfold behind5
  split
  · rw [ByteArray.size_extract]; omega
  · exact Nat.zero_le _
theorem off5_le {s : ByteArray} (h : s.size ≤ 60) : (off5 s).size ≤ 60 := by
  have e : (off5 s).size = (Lib.trimPrefix s.data.toList presP.data.toList).length := by
    unfold off5
    show (Array.size _) = _
    rw [List.size_toArray]
  rw [e]
  unfold Lib.trimPrefix
  have hl : s.data.toList.length = s.size := by simp
  split
  · rw [List.length_drop]; omega
  · omega
def GuessOk (q : Pr) : Prop := ShortPr q ∧ q.goal = ByteArray.empty ∧ q.more = []
theorem upM_ok {l : List It} (hc : treeCode l = 0) : ∀ k, k ≤ l.length → GuessOk (upM l k)
  | 0, _ => ⟨⟨behind5_le (val_size hc (by have := (rises_of hc).some; omega) _), Nat.zero_le _, Nat.zero_le _⟩, rfl, rfl⟩
  | k + 1, h => by
    have ih := upM_ok hc k (by omega)
    have ht := txtT_le hc (i := k) (by omega)
    show GuessOk (stepM l k (upM l k))
    obtain ⟨⟨i1, i2, i3⟩, i4, i5⟩ := ih
    unfold stepM
    split
    · split
      · exact ⟨⟨i1, i2, i3⟩, i4, i5⟩
      · exact ⟨⟨i1, i2, i3⟩, i4, i5⟩
    · split
      · exact ⟨⟨i1, i2, i3⟩, i4, i5⟩
      · split
        · exact ⟨⟨i1, i2, i3⟩, i4, i5⟩
        · split
          · exact ⟨⟨i1, i2, ht⟩, i4, i5⟩
          · split <;> exact ⟨⟨i1, i2, i3⟩, i4, i5⟩
theorem upP_ok {l : List It} (hc : treeCode l = 0) : ∀ k, k ≤ l.length → GuessOk (upP l k)
  | 0, _ => ⟨⟨off5_le (val_size hc (by have := (rises_of hc).some; omega) _), Nat.zero_le _, Nat.zero_le _⟩, rfl, rfl⟩
  | k + 1, h => by
    have ih := upP_ok hc k (by omega)
    have ht := txtT_le hc (i := k) (by omega)
    show GuessOk (stepP l k (upP l k))
    obtain ⟨⟨i1, i2, i3⟩, i4, i5⟩ := ih
    unfold stepP
    split
    · exact ⟨⟨i1, i2, i3⟩, i4, i5⟩
    · split
      · exact ⟨⟨i1, i2, i3⟩, i4, i5⟩
      · split
        · exact ⟨⟨i1, i2, i3⟩, i4, i5⟩
        · split
          · exact ⟨⟨i1, i2, ht⟩, i4, i5⟩
          · exact ⟨⟨i1, i2, i3⟩, i4, i5⟩
theorem GuessOk.small {q : Pr} (h : GuessOk q) : SmallPr q := by
  obtain ⟨⟨h1, h2, h3⟩, _, h5⟩ := h
  refine ⟨⟨by omega, by omega, by omega⟩, ?_⟩
  rw [h5]
  exact ⟨by decide, fun i hi => by simp at hi⟩
theorem guessM_ok {l : List It} (hc : treeCode l = 0) : GuessOk (guessM l) := upM_ok hc _ (Nat.le_refl _)
theorem guessP_ok {l : List It} (hc : treeCode l = 0) : GuessOk (guessP l) := upP_ok hc _ (Nat.min_le_right _ _)
theorem pof_few (l : List It) (hs : ∀ i, (l.getD i dIt).attrs.length ≤ 1048576) : ∀ i, ((pofVal l).more.getD i dIt).attrs.length ≤ 1048576 := by
  intro i
  have e : (pofVal l).more = [] := by
    unfold pofVal
    split
    · rfl
    · rename_i h
      split
      · exact (guessM_ok (by simpa using h)).2.2
      · rfl
  rw [e]
  exact Nat.zero_le _
end Go.Proofs.YtcaknhoaoodbfaaGreatDoor
namespace Go.Proofs.YtcaknhoaoodbfaaGreatDoor
open Go.Lib
set_option linter.unusedVariables false
theorem ascii_chars : ∀ (l : List UInt8), (∀ c ∈ l, c.toNat < 128 ∧ charB (c.toNat : Int) = true) → (strm l).all goodB = true
  | [], _ => by rw [strm_nil]; rfl
  | c :: l, h => by
    obtain ⟨h1, h2⟩ := h c (by simp)
    have hb0 : by' (c :: l) 0 = (c.toNat : Int) := rfl
    have hi := first1 (c :: l) (by simp) (by rw [hb0]; omega)
    have hf : foldP (c :: l) 1 = (c.toNat : Int) := by rw [foldP_1, leadP_1 (by rw [hb0]; omega), hb0]
    have ok : FirstOk (c :: l) 1 := by
      obtain ⟨n1, n2⟩ := num1 c.toNat h1
      exact ⟨by rw [hf]; exact n1, by rw [hf, n2]; rfl⟩
    have hb := hi.1.1 ok
    obtain ⟨e1, e2⟩ := hi.2 hb
    have ih := ascii_chars l (fun x hx => h x (by simp [hx]))
    rw [strm_step _ (by simp) hb, e1, e2, hf]
    simp only [List.drop_succ_cons, List.drop_zero, List.all_cons, ih, goodB, h2, Bool.and_self]
theorem byA (a b : List UInt8) (i : Nat) (h : i < a.length) : by' (a ++ b) i = by' a i := by
  unfold by'
  rw [List.getD_eq_getElem?_getD, List.getElem?_append_left h, List.getD_eq_getElem?_getD]
theorem foldP_app (a b : List UInt8) : ∀ n, n ≤ a.length → 0 < a.length → foldP (a ++ b) n = foldP a n
  | 0, _, h0 => by show leadP (by' (a ++ b) 0) = leadP (by' a 0); rw [byA a b 0 h0]
  | 1, _, h0 => by show leadP (by' (a ++ b) 0) = leadP (by' a 0); rw [byA a b 0 h0]
  | k + 2, h, h0 => by
    show foldP (a ++ b) (k + 1) * 64 + by' (a ++ b) (k + 1) % 64 = foldP a (k + 1) * 64 + by' a (k + 1) % 64
    rw [foldP_app a b (k + 1) (by omega) h0, byA a b (k + 1) (by omega)]
theorem first_app (a b : List UInt8) (h : a ≠ []) (hb : badB a = false) : badB (a ++ b) = false ∧ (decodeL (a ++ b)).1 = (decodeL a).1 ∧ (decodeL (a ++ b)).2 = (decodeL a).2 := by
  have hp : 0 < a.length := List.length_pos_iff.2 h
  have hlead : leadN (by' a 0) ≠ 0 ∧ leadN (by' a 0) ≤ a.length := by
    refine Decidable.byContradiction fun hc => ?_
    have := bad_lead a h (by omega)
    rw [hb] at this
    cases this
  have hi := first_is a h hlead.1 hlead.2
  obtain ⟨o1, o2⟩ := hi.1.2 hb
  obtain ⟨e1, e2⟩ := hi.2 hb
  have h0 : by' (a ++ b) 0 = by' a 0 := byA a b 0 hp
  have hne : a ++ b ≠ [] := fun e => h (List.append_eq_nil_iff.1 e).1
  have hi2 := first_is (a ++ b) hne (by rw [h0]; exact hlead.1) (by rw [h0, List.length_append]; omega)
  rw [h0] at hi2
  have hf := foldP_app a b _ hlead.2 hp
  have ok : FirstOk (a ++ b) (leadN (by' a 0)) := ⟨by rw [hf]; exact o1, by rw [hf, List.take_append_of_le_length hlead.2]; exact o2⟩
  have hb2 := hi2.1.1 ok
  obtain ⟨f1, f2⟩ := hi2.2 hb2
  rw [hf] at f1
  exact ⟨hb2, by have := f1.trans e1.symm; omega, by rw [f2, e2]⟩
theorem strm_append : ∀ (n : Nat) (a b : List UInt8), a.length ≤ n → (strm a).all (·.2) = true → strm (a ++ b) = strm a ++ strm b
  | 0, a, b, hn, _ => by
    have : a = [] := List.eq_nil_of_length_eq_zero (by omega)
    subst this
    rfl
  | n + 1, a, b, hn, h => by
    by_cases h0 : a = []
    · subst h0; rfl
    · cases hb : badB a
      · have hd := drop_lt a h0
        have hle := decodeL_le a h0
        obtain ⟨b1, b2, b3⟩ := first_app a b h0 hb
        rw [strm_step a h0 hb] at h ⊢
        rw [List.all_cons, Bool.and_eq_true] at h
        rw [strm_step (a ++ b) (fun e => h0 (List.append_eq_nil_iff.1 e).1) b1, b2, b3, List.drop_append_of_le_length hle, strm_append n _ b (by omega) h.2, List.cons_append]
      · rw [strm_bad a h0 hb] at h
        simp at h
def okB (l : List UInt8) : Bool := (strm l).all (·.2)
theorem ok_of_chars {l : List UInt8} (h : charsB l = true) : okB l = true := by
  unfold charsB at h
  unfold okB
  rw [List.all_eq_true] at h ⊢
  intro x hx
  have := h x hx
  simp [goodB] at this
  exact this.1
theorem chars_append {a b : List UInt8} (h : okB a = true) : charsB (a ++ b) = (charsB a && charsB b) := by
  unfold charsB
  rw [strm_append _ a b (Nat.le_refl _) h, List.all_append]
def plainB (c : UInt8) : Bool := decide (c.toNat < 128) && charB (c.toNat : Int)
theorem chars_plain {l : List UInt8} (h : l.all plainB = true) : charsB l = true :=
  ascii_chars l fun c hc => by
    have := List.all_eq_true.1 h c hc
    simp [plainB] at this
    exact this
end Go.Proofs.YtcaknhoaoodbfaaGreatDoor
namespace Go.Proofs.YtcaknhoaoodbfaaGreatDoor
open Go.ChangeShapes Go.WideShapes Go.ChangeAt Go.RowKit
set_option linter.unusedVariables false
set_option linter.unusedSimpArgs false
theorem pres_parts {p : Pr} (h : presCode p = 0) : (0 ≤ p.kind ∧ p.kind ≤ 6) ∧ (0 ≤ p.shown ∧ p.shown ≤ 4) ∧ (-128 ≤ p.prio ∧ p.prio ≤ 127) ∧ textFault p.sender.data.toList = 0 ∧ textFault p.goal.data.toList = 0 ∧ textFault p.status.data.toList = 0 ∧ fits p = true ∧ moreCode p.more = 0 := by
  unfold presCode at h
  split at h
  · omega
  · rename_i h1
    rw [Bool.not_eq_false, Bool.and_eq_true, Bool.and_eq_true] at h1
    obtain ⟨⟨i0, i1⟩, i2⟩ := h1
    simp only [inB, decide_eq_true_eq] at i0 i1 i2
    split at h
    · rename_i h2; exact absurd h h2
    · rename_i h2
      rw [Decidable.not_not] at h2
      split at h
      · omega
      · rename_i h3
        rw [Bool.not_eq_false] at h3
        unfold wordsCode at h2
        split at h2
        · rename_i h4; exact absurd h2 h4
        · rename_i h4
          split at h2
          · rename_i h5; exact absurd h2 h5
          · rename_i h5
            exact ⟨by omega, by omega, by omega, Decidable.not_not.1 h4, Decidable.not_not.1 h5, h2, h3, h⟩
theorem proj_parts {p : Pr} (h : projCode p = 0) : presCode p = 0 ∧ p.kind ≤ 1 ∧ p.sender.toList.isEmpty = false ∧ p.sender.size ≤ 55 := by
  unfold projCode at h
  split at h
  · rename_i h1; exact absurd h h1
  · rename_i h1
    split at h
    · omega
    · rename_i h2
      split at h
      · omega
      · rename_i h3
        unfold askB at h2
        rw [Bool.not_eq_true, Bool.or_eq_false_iff, decide_eq_false_iff_not] at h2
        exact ⟨Decidable.not_not.1 h1, by omega, h2.2, by omega⟩
theorem text_nil : textFault [] = 0 := by decide
theorem more_nil : moreCode [] = 0 := by decide +kernel
theorem pres_of {p : Pr} (h0 : 0 ≤ p.kind ∧ p.kind ≤ 6) (h1 : 0 ≤ p.shown ∧ p.shown ≤ 4) (h2 : -128 ≤ p.prio ∧ p.prio ≤ 127) (h3 : textFault p.sender.data.toList = 0) (h4 : textFault p.goal.data.toList = 0) (h5 : textFault p.status.data.toList = 0) (h6 : fits p = true) (h7 : moreCode p.more = 0) : presCode p = 0 := by
  unfold presCode
  have e1 : (inB p.kind 0 6 && inB p.shown 0 4 && inB p.prio (-128) 127) = true := by
    simp only [inB, Bool.and_eq_true, decide_eq_true_eq]
    omega
  have e2 : wordsCode p = 0 := by
    unfold wordsCode
    rw [if_neg (by rw [Decidable.not_not]; exact h3), if_neg (by rw [Decidable.not_not]; exact h4)]
    exact h5
  rw [e1, if_neg (by decide), if_neg (by rw [Decidable.not_not]; exact e2), if_neg (by rw [h6]; decide)]
  exact h7
theorem proj_pres {p : Pr} (h : projCode p = 0) : presCode (proj p) = 0 := by
  obtain ⟨hp, hk, hs, hz⟩ := proj_parts h
  obtain ⟨i0, i1, i2, t1, t2, t3, hf, hm⟩ := pres_parts hp
  refine pres_of (p := proj p) i0 ?_ ?_ t1 text_nil t3 ?_ more_nil
  · show 0 ≤ sharedS p.shown ∧ sharedS p.shown ≤ 4
    unfold sharedS
    split
    · omega
    · split <;> omega
  · show -128 ≤ prioS p.prio ∧ prioS p.prio ≤ 127
    unfold prioS
    split <;> omega
  · unfold fits fitsB at hf ⊢
    show (!(((p.kind != 0) && ((sharedS p.shown != 0) || (prioS p.prio != 0))) || ((decide (1 < p.kind)) && !p.status.toList.isEmpty))) = true
    have hk1 : decide (1 < p.kind) = false := by rw [decide_eq_false_iff_not]; omega
    rw [hk1] at hf ⊢
    by_cases hk0 : p.kind = 0
    · simp [hk0]
    · have e : (p.kind != 0) = true := by rw [bne_iff_ne]; exact hk0
      rw [e] at hf ⊢
      simp at hf ⊢
      obtain ⟨h1, h2⟩ := hf
      unfold sharedS prioS
      rw [h1, h2]
      decide
theorem proj_code {p : Pr} (h : projCode p = 0) : projCode (proj p) = 0 := by
  obtain ⟨hp, hk, hs, hz⟩ := proj_parts h
  unfold projCode
  rw [if_neg (by rw [Decidable.not_not]; exact proj_pres h)]
  have e : askB (decide (1 < (proj p).kind)) (proj p).sender.toList.isEmpty = false := by
    unfold askB
    show (decide (1 < p.kind) || p.sender.toList.isEmpty) = false
    rw [hs, Bool.or_false, decide_eq_false_iff_not]
    omega
  rw [e, if_neg (by decide), if_neg (by show ¬ 55 < p.sender.size; omega)]
theorem projT_proj {p : Pr} (h : projCode p = 0) : projT (proj p) = proj p := by
  unfold projT
  rw [if_pos (proj_code h), proj_twice]
theorem projT_is {p : Pr} (h : projCode p = 0) : projT p = proj p := by unfold projT; rw [if_pos h]
theorem own_proj {p : Pr} (h : projCode p = 0) : OwnPr (proj p) := ownPr_of (proj_code h) (proj_twice p)
theorem plain_front {a b : List UInt8} (ha : a.all plainB = true) (hb : textFault b = 0) (hl : a.length + b.length ≤ 60) : textFault (a ++ b) = 0 := by
  have hc : charsB b = true := by
    unfold textFault at hb
    split at hb
    · cases hb
    · split at hb
      · rename_i h; exact h
      · cases hb
  unfold textFault
  rw [if_neg (by rw [List.length_append]; omega), chars_append (ok_of_chars (chars_plain ha)), chars_plain ha, hc]
  rfl
def Fine (x : It) : Prop := itemCode x = 0 ∧ DrawnIt x
theorem fine_elem (d : Int) (sp nm : ByteArray) (es : List At) (hd : 0 ≤ d ∧ d ≤ 6) (h1 : nm.toList.isEmpty = false) (h2 : isNameL nm.data.toList = true) (h3 : textFault sp.data.toList = 0) (h4 : attrsCode es = 0) (hs : sp.size ≤ 60 ∧ nm.size ≤ 60) (hf : es.length ≤ 5) (ha : ShortAts es) : Fine (elemI d sp nm es) := by
  refine ⟨?_, hd, ⟨by show (⟨#[]⟩ : ByteArray).size ≤ 60; decide, hs.1, hs.2⟩, hf, ha⟩
  unfold itemCode
  rw [if_neg (by show ¬ (d < 0 ∨ 6 < d); omega)]
  show (if nm.toList.isEmpty = true then _ else _) = _
  rw [h1, if_neg (by decide)]
  unfold elemCode
  have e0 : (elemI d sp nm es).text.toList.isEmpty = true := by rw [empty_iff]; rfl
  rw [e0, if_neg (by decide)]
  show (if isNameL nm.data.toList = false then _ else if textFault sp.data.toList = 0 then attrsCode es else _) = _
  rw [h2, if_neg (by decide), h3, if_pos rfl, h4]
theorem fine_text (d : Int) (t : ByteArray) (hd : 0 ≤ d ∧ d ≤ 6) (h1 : t.toList.isEmpty = false) (h2 : textFault t.data.toList = 0) (hs : t.size ≤ 60) : Fine (textI d t) := by
  refine ⟨?_, hd, ⟨hs, by show (⟨#[]⟩ : ByteArray).size ≤ 60; decide, by show (⟨#[]⟩ : ByteArray).size ≤ 60; decide⟩, by show (0 : Nat) ≤ 5; decide, fun i => by simp [textI, dAt]⟩
  unfold itemCode
  rw [if_neg (by show ¬ (d < 0 ∨ 6 < d); omega)]
  have e0 : (textI d t).name.toList.isEmpty = true := by rw [empty_iff]; rfl
  rw [e0, if_pos rfl]
  unfold textCode
  have e1 : (textI d t).space.toList.isEmpty = true := by rw [empty_iff]; rfl
  rw [if_neg]
  · exact h2
  · rw [e1]
    show ¬ (true = false ∨ 0 < 0 ∨ t.toList.isEmpty = true)
    rw [h1]
    simp
theorem attrs_one (k v : ByteArray) (h1 : isKeyL k = true) (h2 : textFault v.data.toList = 0) : attrsCode [⟨k, v⟩] = 0 := by
  have e : atFault ⟨k, v⟩ = 0 := by unfold atFault; rw [if_pos h1]; exact h2
  unfold attrsCode
  rw [if_neg (by show ¬ 5 < 1; decide), List.find?_cons_of_neg (by rw [e]; decide), List.find?_nil]
  rfl
theorem short_one (k v : ByteArray) (h1 : k.size ≤ 60) (h2 : v.size ≤ 60) : ShortAts [⟨k, v⟩] := fun i => by
  match i with
  | 0 => exact ⟨h1, h2⟩
  | i + 1 => exact ⟨by show (0 : Nat) ≤ 60; decide, by show (0 : Nat) ≤ 60; decide⟩
theorem short_none : ShortAts [] := fun i => by simp [dAt]
theorem share_fine (k : Nat) (hk : k ≤ 127) : textFault (shareText (thouVal ((k : Nat) : Int))).data.toList = 0 ∧ (shareText (thouVal ((k : Nat) : Int))).size ≤ 60 := by
  have h := (by decide +kernel : (List.range 128).all (fun k => decide (textFault (shareC (thouN k)).data.toList = 0 ∧ (shareC (thouN k)).size ≤ 60)) = true)
  rw [List.all_eq_true] at h
  have := h k (List.mem_range.2 (by omega))
  rw [decide_eq_true_eq] at this
  rw [share_is hk]
  exact this
theorem size_empty {s : ByteArray} (h : 0 < s.size) : s.toList.isEmpty = false := by
  rw [Bool.eq_false_iff]
  intro he
  rw [empty_iff] at he
  have h1 : s.size = s.data.toList.length := by simp
  rw [he, List.length_nil] at h1
  omega
theorem pidf_fine {p : Pr} (h : projCode p = 0) : ∀ x ∈ pidfL (proj p), Fine x := by
  have hO := own_proj h
  obtain ⟨hp, _, hs, hz⟩ := proj_parts (proj_code h)
  obtain ⟨_, _, _, t1, _, t3, _, _⟩ := pres_parts hp
  have hst : (proj p).status.size ≤ 60 := by
    unfold textFault at t3
    split at t3
    · cases t3
    · rename_i h; simpa using h
  generalize proj p = q at hO hs hz t1 t3 hst ⊢
  have sp1 : textFault pidfSp.data.toList = 0 := by decide +kernel
  have sp2 : textFault rpidSp.data.toList = 0 := by decide +kernel
  intro x hx
  unfold pidfL at hx
  rw [List.mem_append, List.mem_append, List.mem_append] at hx
  rcases hx with ((hx | hx) | hx) | hx
  · unfold headP8 at hx
    simp only [List.mem_cons, List.not_mem_nil, or_false] at hx
    rcases hx with rfl | rfl | rfl | rfl | rfl
    · exact fine_elem _ _ _ _ (by decide) (size_empty (by decide)) (by decide +kernel) sp1 (attrs_one _ _ (by decide +kernel) (by
        rw [ByteArray.data_append, Array.toList_append]
        exact plain_front (by decide +kernel) t1 (by have : q.sender.data.toList.length = q.sender.size := by simp
                                                     rw [this]; show 5 + _ ≤ 60; omega))) (by decide) (by show (1 : Nat) ≤ 5; decide) (short_one _ _ (by decide) (by rw [ByteArray.size_append]; show 5 + _ ≤ 60; omega))
    · exact fine_elem _ _ _ _ (by decide) (size_empty (by decide)) (by decide +kernel) sp1 (attrs_one _ _ (by decide +kernel) (by decide +kernel)) (by decide) (by show (1 : Nat) ≤ 5; decide) (short_one _ _ (by decide) (by decide))
    · exact fine_elem _ _ _ _ (by decide) (size_empty (by decide)) (by decide +kernel) sp1 (by decide +kernel) (by decide) (by decide) short_none
    · exact fine_elem _ _ _ _ (by decide) (size_empty (by decide)) (by decide +kernel) sp1 (by decide +kernel) (by decide) (by decide) short_none
    · exact fine_text _ _ (by decide) (size_empty (by unfold basicW; split <;> decide)) (by unfold basicW; split <;> decide +kernel) (by unfold basicW; split <;> decide)
  · unfold actsP8 at hx
    split at hx
    · cases hx
    · simp only [List.mem_cons, List.not_mem_nil, or_false] at hx
      rcases hx with rfl | rfl
      · exact fine_elem _ _ _ _ (by decide) (size_empty (by decide)) (by decide +kernel) sp2 (by decide +kernel) (by decide) (by decide) short_none
      · exact fine_elem _ _ _ _ (by decide) (size_empty (by unfold actW; split <;> decide)) (by unfold actW; split <;> decide +kernel) sp2 (by decide +kernel) ⟨by decide, by unfold actW; split <;> decide⟩ (by decide) short_none
  · unfold contP8 at hx
    split at hx
    · cases hx
    · obtain ⟨kn, hkn⟩ : ∃ kn : Nat, q.prio = (kn : Int) := ⟨q.prio.toNat, by have := hO.pr; omega⟩
      have hk7 : kn ≤ 127 := by have := hO.pr; omega
      have sf := share_fine kn hk7
      rw [hkn] at hx
      simp only [List.mem_cons, List.not_mem_nil, or_false] at hx
      rcases hx with rfl | rfl
      · exact fine_elem _ _ _ _ (by decide) (size_empty (by decide)) (by decide +kernel) sp1 (attrs_one _ _ (by decide +kernel) sf.1) (by decide) (by show (1 : Nat) ≤ 5; decide) (short_one _ _ (by decide) sf.2)
      · exact fine_text _ _ (by decide) (size_empty (by rw [ByteArray.size_append]; show 0 < 5 + _; omega)) (by
          rw [ByteArray.data_append, Array.toList_append]
          exact plain_front (by decide +kernel) t1 (by have : q.sender.data.toList.length = q.sender.size := by simp
                                                       rw [this]; show 5 + _ ≤ 60; omega)) (by rw [ByteArray.size_append]; show 5 + _ ≤ 60; omega)
  · unfold noteP8 at hx
    split at hx
    · cases hx
    · rename_i hn
      simp only [List.mem_cons, List.not_mem_nil, or_false] at hx
      rcases hx with rfl | rfl
      · exact fine_elem _ _ _ _ (by decide) (size_empty (by decide)) (by decide +kernel) sp1 (by decide +kernel) (by decide) (by decide) short_none
      · exact fine_text _ _ (by decide) (by simpa using hn) t3 hst
def TopIts (w : World) (en : Ending) (w' : World) : Prop := ∃ (x : Option Addr) (m q : Nat) (l : List It), en = .returned (.slice x m q) ∧ OwnIts w' w.heap.size w'.heap.size x m q l ∧ SmallIts l ∧ Below w.heap.size w w'
theorem pidfT_mids (y : Pr) : Mids (pidfT y) := by
  unfold pidfT
  split
  · rename_i h
    exact mids_of (by have := pidfL_len (proj y); omega) (fun x hx => (pidf_fine h x hx).2)
  · exact mids_of (by simp) (fun x hx => by cases hx)
theorem leaf_len : (leafL 2 ⟨#[117, 114, 110, 58, 105, 101, 116, 102, 58, 112, 97, 114, 97, 109, 115, 58, 120, 109, 108, 58, 110, 115, 58, 112, 105, 100, 102]⟩ ⟨#[110, 111, 116, 101]⟩ ⟨#[97, 103, 97, 105, 110]⟩).length = 2 := by decide +kernel
theorem leaf_note : ∀ x ∈ leafL 2 ⟨#[117, 114, 110, 58, 105, 101, 116, 102, 58, 112, 97, 114, 97, 109, 115, 58, 120, 109, 108, 58, 110, 115, 58, 112, 105, 100, 102]⟩ ⟨#[110, 111, 116, 101]⟩ ⟨#[97, 103, 97, 105, 110]⟩, DrawnIt x := by
  have e : leafL 2 ⟨#[117, 114, 110, 58, 105, 101, 116, 102, 58, 112, 97, 114, 97, 109, 115, 58, 120, 109, 108, 58, 110, 115, 58, 112, 105, 100, 102]⟩ ⟨#[110, 111, 116, 101]⟩ ⟨#[97, 103, 97, 105, 110]⟩ = [⟨2, ByteArray.empty, ⟨#[117, 114, 110, 58, 105, 101, 116, 102, 58, 112, 97, 114, 97, 109, 115, 58, 120, 109, 108, 58, 110, 115, 58, 112, 105, 100, 102]⟩, ⟨#[110, 111, 116, 101]⟩, []⟩, ⟨3, ⟨#[97, 103, 97, 105, 110]⟩, ByteArray.empty, ByteArray.empty, []⟩] := by
    unfold leafL
    rw [if_neg (by decide +kernel)]
    rfl
  intro x hx
  rw [e] at hx
  simp only [List.mem_cons, List.not_mem_nil, or_false] at hx
  rcases hx with rfl | rfl
  · exact ⟨by decide, by decide, by decide, fun i => by simp [dAt]⟩
  · exact ⟨by decide, by decide, by decide, fun i => by simp [dAt]⟩
theorem pidfT_text (y : Pr) (i : Nat) : ((pidfT y).getD i dIt).text.size ≤ 60 := by
  rw [List.getD_eq_getElem?_getD]
  by_cases hi : i < (pidfT y).length
  · rw [List.getElem?_eq_getElem hi]
    have hm := List.getElem_mem hi
    show ((pidfT y)[i]).text.size ≤ 60
    generalize (pidfT y)[i] = x at hm ⊢
    unfold pidfT at hm
    split at hm
    · rename_i h
      exact (pidf_fine h x hm).2.sizes.1
    · cases hm
  · rw [List.getElem?_eq_none (by omega)]
    show (dIt).text.size ≤ 60
    exact dIt_drawn.sizes.1
set_option maxRecDepth 100000 in
set_option maxHeartbeats 6400000 in
theorem drawPresenceOfPidf_any (a : Option Addr) (n c : Nat) (xs : List Int) (w : World) (h : CodeAt w a n c xs) :
    Calls Tryz.prog 34 #[.slice a n c] w (TopIts w) := by
  have HC := Lib.hid h
  clear h
  unfold TopIts
  go_enter Tryz.func34, Tryz.ntmps34
  go_wp2_with fail
  refine (source_any HC.out).mono ?_
  rintro e w1 ⟨rfl, hs, hb⟩
  have HB := Lib.hid hb
  have KD := l8Draw_any w.heap.size a n c xs 0 (by decide) w1 hs
  unfold PrBent at KD
  have hz1 := hs.lt
  clear hs hb
  go_wp2_with fail
  refine KD.mono ?_
  clear KD
  rintro e w2 ⟨⟨yk, yf, yt, ys, yu, yp, l⟩, x, m, q, A, N, C, k1, rfl, hG, hm, hPD, hk1, hs2, hg⟩
  dsimp only at hG
  have HB2 := Lib.hid (below_step HB.out hg (Nat.le_refl _))
  have b2 := below1 w2 (.cells #[.int .i64 yk, .string yf, .string yt, .int .i64 ys, .string yu, .int .i64 yp, .slice (some x) m q] 26)
  have S3 := Lib.hid (hs2.below b2)
  have KP := specPidfG_any ⟨yk, yf, yt, ys, yu, yp, l⟩ (some x) m q w1.heap.size w2.heap.size (w2.alloc (.cells #[.int .i64 yk, .string yf, .string yt, .int .i64 ys, .string yu, .int .i64 yp, .slice (some x) m q] 26)) hPD.small ((hPD.own hG).below b2)
  unfold PidfGrow at KP
  have hsz2 : (w2.alloc (.cells #[.int .i64 yk, .string yf, .string yt, .int .i64 ys, .string yu, .int .i64 yp, .slice (some x) m q] 26)).heap.size = w2.heap.size + 1 := by simp
  have hz2 : w1.heap.size ≤ w2.heap.size := hg.size
  have HM := Lib.hid (pidfT_mids ⟨yk, yf, yt, ys, yu, yp, l⟩)
  have HL11 := Lib.hid (pidf_len ⟨yk, yf, yt, ys, yu, yp, l⟩)
  have HT : Hid (∀ i z, (pidfT ⟨yk, yf, yt, ys, yu, yp, l⟩).getD i dIt = z → z.text.size ≤ 199) := Lib.hid (fun i z h => by have := pidfT_text ⟨yk, yf, yt, ys, yu, yp, l⟩ i; rw [h] at this; omega)
  have HL5 : Hid (projCode ⟨yk, yf, yt, ys, yu, yp, l⟩ = 0 → 5 ≤ (pidfT ⟨yk, yf, yt, ys, yu, yp, l⟩).length) := Lib.hid (fun h => by
    unfold pidfT
    rw [if_pos h]
    unfold pidfL headP8
    simp only [List.length_append, List.length_cons]
    omega)
  generalize projCode ⟨yk, yf, yt, ys, yu, yp, l⟩ = cd at *
  generalize pidfT ⟨yk, yf, yt, ys, yu, yp, l⟩ = L at *
  have HBA := Lib.hid (below_then HB2.out b2)
  clear hs2 hg hG hPD b2
  go_wp2_with fail
  refine KP.mono ?_
  clear KP
  rintro e w3 ⟨a3, n3, c3, A3, N3, C3, rfl, hG3, hb3⟩
  rw [hsz2] at hG3
  have b3 := below1 w3 (.cells #[.int .i64 cd, .slice a3 n3 c3] 29)
  have b33 := below_then hb3 b3
  have S4 := Lib.hid (S3.out.below b33)
  have G4 := Lib.hid (hG3.below b3)
  have HB4 := Lib.hid (below_then HBA.out b33)
  have hlL : L.length = n3 := hG3.len
  have hz3 : w2.heap.size + 1 ≤ w3.heap.size := by have := hb3.size; simpa using this
  have V4 := Lib.hid (Var2.new w3 29 cd (.slice a3 n3 c3))
  clear hG3 hb3 b3 b33 S3 HBA hsz2
  by_cases hcd : cd = 0
  case neg =>
    have hcd1 : (cd != 0) = true := by rw [bne_iff_ne]; exact hcd
    clear hcd HL5
    have p0 := V4.out.c0
    have lx := V4.out.lt
    have KB := l4BentO_any w.heap.size a n c xs k1 (by omega) _ S4.out
    unfold BentOwn at KB
    go_wp2_with fail
    refine KB.mono ?_
    clear KB
    rintro e w5 ⟨x5, m5, q5, l5, rfl, ho, hbn, hg⟩
    have HO := Lib.hid ho
    have HBN := Lib.hid hbn
    have BB := below_step HB4.out hg (Nat.le_refl _)
    have hz : w.heap.size ≤ (w3.alloc (.cells #[.int .i64 cd, .slice a3 n3 c3] 29)).heap.size := by simp; omega
    clear ho hbn hg
    go_wp2
    go_ret
    exact ⟨_, _, _, _, rfl, HO.out.mono hz (Nat.le_refl _), HBN.out.small, BB⟩
  subst hcd
  have hn5 := HL5.out rfl
  obtain ⟨g3, cap, cur, hv, hbg, _⟩ := G4.out.row.2.resolve_left (by omega)
  simp only [Value.slice.injEq] at hv
  obtain ⟨rfl, _, rfl⟩ := hv
  have hn60 : n3 ≤ 60 := by have := HM.out.1; omega
  have p0 := V4.out.c0
  have p1 := V4.out.c1
  have lx := V4.out.lt
  have KN := Lib.hid (fun (k : Nat) (m : Int) (hm0 : 1 ≤ m) (hm : m ≤ 1000000000) (hk : k < 1000000) (W : World) (h : Src W w.heap.size a n c xs k) => l1Next_any w.heap.size a n c xs k m hm0 hm hk W h)
  unfold NextRes at KN
  go_wp2_with fail
  generalize w3.alloc (.cells #[.int .i64 0, .slice (some ⟨g3, 0, none⟩) n3 c3] 29) = w4 at *
  refine (KN.out k1 n3 (by omega) (by omega) (by omega) _ S4.out).mono ?_
  rintro e w5 ⟨i, rfl, hi, hs, hg⟩
  have hi := hi (by omega)
  have hin : i < n3 := by omega
  have G5 := Lib.hid (G4.out.onlyP (Only.grown hg) (fun i h1 _ h2 => by simp only [Option.some.injEq] at h2; omega))
  have S5 := Lib.hid hs
  have HB5 := Lib.hid (below_step HB4.out hg (Nat.le_refl _))
  clear hs hg G4 S4 HB4 V4 p0 p1 lx
  have qi0 : (0 : Int) ≤ (i : Int) := by omega
  go_wp2_with fail
  refine (KN.out (k1 + 1) 8 (by decide) (by decide) (by omega) _ S5.out).mono ?_
  rintro e w6 ⟨t, rfl, ht, hs, hg⟩
  have G6 := Lib.hid (G5.out.onlyP (Only.grown hg) (fun i h1 _ h2 => by simp only [Option.some.injEq] at h2; omega))
  have BB := below_step HB5.out hg (Nat.le_refl _)
  have HB6 := Lib.hid BB
  clear hs hg G5 S5 HB5 BB
  have htn : (0 : Int) ≤ (t : Int) := by omega
  generalize (t : Int) = tt at htn ⊢
  obtain ⟨⟨zd, zt, zs, zn, za⟩, hz⟩ : ∃ z, L.getD i dIt = z := ⟨_, rfl⟩
  have hmz := HM.out.2 i
  rw [hz] at hmz
  have hgl : g3 < w6.heap.size := (G6.out.row.lt g3 rfl).2
  have fz : ∀ j, w6.frozen? ⟨g3, j, none⟩ = false := fun j => G6.out.row.frozenAt j
  by_cases t0 : tt = 0
  · subst t0
    have p2 := G6.out.cellAt i 2 hin (by decide)
    rw [hz] at p2
    have f2 := fz (i * 5 + 2)
    have G7 := Lib.hid (G6.out.put (r := i) (f := 2) (y := ⟨zd, zt, ⟨#[117, 114, 110, 58, 105, 101, 116, 102, 58, 112, 97, 114, 97, 109, 115, 58, 120, 109, 108, 58, 110, 115, 58, 112, 105, 100, 102, 58, 114, 112, 105, 100]⟩, zn, za⟩) (u := .string ⟨#[117, 114, 110, 58, 105, 101, 116, 102, 58, 112, 97, 114, 97, 109, 115, 58, 120, 109, 108, 58, 110, 115, 58, 112, 105, 100, 102, 58, 114, 112, 105, 100]⟩) hin (by decide) rfl (.inr (by rw [hz])) (.inr (by rw [hz])) (.inl rfl) (.inr (by rw [hz])) (by rw [hz]))
    have M7 := Lib.hid (mids_set HM.out (r := i) (y := ⟨zd, zt, ⟨#[117, 114, 110, 58, 105, 101, 116, 102, 58, 112, 97, 114, 97, 109, 115, 58, 120, 109, 108, 58, 110, 115, 58, 112, 105, 100, 102, 58, 114, 112, 105, 100]⟩, zn, za⟩) ⟨hmz.depth, ⟨hmz.sizes.1, by show (⟨#[117, 114, 110, 58, 105, 101, 116, 102, 58, 112, 97, 114, 97, 109, 115, 58, 120, 109, 108, 58, 110, 115, 58, 112, 105, 100, 102, 58, 114, 112, 105, 100]⟩ : ByteArray).size ≤ 200; decide, hmz.sizes.2.2⟩, hmz.few, hmz.short⟩)
    have BB := HB6.out.setCell (p := ⟨g3, i * 5 + 2, none⟩) (by show w.heap.size ≤ g3; omega) (.string ⟨#[117, 114, 110, 58, 105, 101, 116, 102, 58, 112, 97, 114, 97, 109, 115, 58, 120, 109, 108, 58, 110, 115, 58, 112, 105, 100, 102, 58, 114, 112, 105, 100]⟩)
    go_wp2
    go_ret
    exact ⟨_, _, _, _, rfl, (M7.out.own G7.out).mono (by omega) (Nat.le_refl _), M7.out.small, BB⟩
  by_cases t1 : tt = 1
  · subst t1
    have hz61 : zt.size ≤ 199 := HT.out i ⟨zd, zt, zs, zn, za⟩ hz
    have p1 := G6.out.cellAt i 1 hin (by decide)
    rw [hz] at p1
    have f1 := fz (i * 5 + 1)
    have G7 := Lib.hid (G6.out.put (r := i) (f := 1) (y := ⟨zd, zt ++ ⟨#[120]⟩, zs, zn, za⟩) (u := .string (zt ++ ⟨#[120]⟩)) hin (by decide) rfl (.inr (by rw [hz])) (.inl rfl) (.inr (by rw [hz])) (.inr (by rw [hz])) (by rw [hz]))
    have M7 := Lib.hid (mids_set HM.out (r := i) (y := ⟨zd, zt ++ ⟨#[120]⟩, zs, zn, za⟩) ⟨hmz.depth, ⟨by show (zt ++ (⟨#[120]⟩ : ByteArray)).size ≤ 200; rw [ByteArray.size_append]; show _ + 1 ≤ 200; omega, hmz.sizes.2.1, hmz.sizes.2.2⟩, hmz.few, hmz.short⟩)
    have BB := HB6.out.setCell (p := ⟨g3, i * 5 + 1, none⟩) (by show w.heap.size ≤ g3; omega) (.string (zt ++ ⟨#[120]⟩))
    go_wp2
    go_ret
    exact ⟨_, _, _, _, rfl, (M7.out.own G7.out).mono (by omega) (Nat.le_refl _), M7.out.small, BB⟩
  by_cases t2 : tt = 2
  · subst t2
    go_wp2_with fail
    refine (l7Leaf_any (w2.heap.size + 1) _ n3 c3 L A3 N3 C3 2 ⟨#[117, 114, 110, 58, 105, 101, 116, 102, 58, 112, 97, 114, 97, 109, 115, 58, 120, 109, 108, 58, 110, 115, 58, 112, 105, 100, 102]⟩ ⟨#[110, 111, 116, 101]⟩ ⟨#[97, 103, 97, 105, 110]⟩ w6 (by have := G6.out.row.lt g3 rfl; omega) (by omega) (by decide) G6.out).mono ?_
    rintro e w7 ⟨a7, n7, c7, A7, N7, C7, rfl, hG7, hg7, hv7⟩
    have G7 := Lib.hid hG7
    have M7 := Lib.hid (mids_app HM.out (l2 := leafL 2 ⟨#[117, 114, 110, 58, 105, 101, 116, 102, 58, 112, 97, 114, 97, 109, 115, 58, 120, 109, 108, 58, 110, 115, 58, 112, 105, 100, 102]⟩ ⟨#[110, 111, 116, 101]⟩ ⟨#[97, 103, 97, 105, 110]⟩) leaf_note (by have := HL11.out; show L.length + _ ≤ 60; have : (leafL 2 ⟨#[117, 114, 110, 58, 105, 101, 116, 102, 58, 112, 97, 114, 97, 109, 115, 58, 120, 109, 108, 58, 110, 115, 58, 112, 105, 100, 102]⟩ ⟨#[110, 111, 116, 101]⟩ ⟨#[97, 103, 97, 105, 110]⟩).length = 2 := leaf_len; omega))
    have BB := HB6.out.grown hg7 HB6.out.size (fun k e => by have := G6.out.row.lt k e; omega)
    clear hG7 hg7 hv7
    go_wp2
    go_ret
    exact ⟨_, _, _, _, rfl, (M7.out.own G7.out).mono (by omega) (Nat.le_refl _), M7.out.small, BB⟩
  by_cases t3 : tt = 3
  · subst t3
    have p4 := G6.out.cellAt i 4 hin (by decide)
    have f4 := fz (i * 5 + 4)
    simp only [show ¬ ((4 : Nat) = 0) by decide, show ¬ ((4 : Nat) = 1) by decide, show ¬ ((4 : Nat) = 2) by decide, show ¬ ((4 : Nat) = 3) by decide, if_false] at p4
    have hai := G6.out.ats i (by omega)
    rw [hz] at hai
    by_cases hN : N3 i = 0
    · have hN1 : ¬ ((0 : Int) < ((N3 i : Nat) : Int)) := by omega
      have BB := HB6.out
      go_wp2
      go_ret
      exact ⟨_, _, _, _, rfl, (HM.out.own G6.out).mono (by omega) (Nat.le_refl _), HM.out.small, BB⟩
    · have hN1 : (0 : Int) < ((N3 i : Nat) : Int) := by omega
      obtain ⟨ga, hA, hga1, hga2, hroom⟩ := hai.1.own.resolve_left hN
      have hgal : ga < w6.heap.size := hroom.1
      obtain ⟨u1, hu1⟩ := (hroom.2 1 (by omega)).1
      have fu1 := (hroom.2 1 (by omega)).2
      rw [hA] at p4
      have G7 := Lib.hid (G6.out.putVal (r := i) (ga := ga) (v := ⟨#[48, 46, 53]⟩) hin hA hN (by decide))
      rw [hz] at G7
      dsimp only at G7
      have M7 := Lib.hid (mids_set HM.out (r := i) (y := ⟨zd, zt, zs, zn, za.set 0 ⟨(za.getD 0 dAt).name, ⟨#[48, 46, 53]⟩⟩⟩) ⟨hmz.depth, hmz.sizes, by show (za.set 0 _).length ≤ 10; rw [List.length_set]; exact hmz.few, fun j => by
        show ((za.set 0 _).getD j dAt).name.size ≤ 200 ∧ ((za.set 0 _).getD j dAt).value.size ≤ 200
        rw [List.getD_eq_getElem?_getD, List.getElem?_set]
        by_cases e : 0 = j
        · rw [if_pos e]
          split
          · exact ⟨(hmz.short 0).1, by show (⟨#[48, 46, 53]⟩ : ByteArray).size ≤ 200; decide⟩
          · exact ⟨by show (0 : Nat) ≤ 200; decide, by show (0 : Nat) ≤ 200; decide⟩
        · rw [if_neg e, ← List.getD_eq_getElem?_getD]
          exact hmz.short j⟩)
      have BB := HB6.out.setCell (p := ⟨ga, 1, none⟩) (by show w.heap.size ≤ ga; omega) (.string ⟨#[48, 46, 53]⟩)
      go_wp2
      go_ret
      exact ⟨_, _, _, _, rfl, (M7.out.own G7.out).mono (by omega) (Nat.le_refl _), M7.out.small, BB⟩
  have BB := HB6.out
  go_wp2
  go_ret
  exact ⟨_, _, _, _, rfl, (HM.out.own G6.out).mono (by omega) (Nat.le_refl _), HM.out.small, BB⟩
theorem lwBig_any (a : Option Addr) (n c : Nat) (hn : n ≤ 9223372036854775807) (w : World) :
    Calls Tryz.prog 6 #[.slice a n c] w fun e w' => e = .returned (.bool (decide (1048576 < n))) ∧ w' = w := by
  by_cases h : 1048576 < n
  · go_enter Tryz.func6, Tryz.ntmps6
    go_wp2
    go_ret
    exact ⟨ret_bool (by simp; omega), rfl⟩
  · go_enter Tryz.func6, Tryz.ntmps6
    go_wp2
    go_ret
    exact ⟨ret_bool (by simp; omega), rfl⟩
set_option maxRecDepth 100000 in
set_option maxHeartbeats 1600000 in
theorem equalAttrs_any (a a' : Option Addr) (n n' c c' : Nat) (l l' : List At) (w : World) (bb : Bool) (hbb : bb = true ↔ l = l') (h : AtsAt w a n c l) (h' : AtsAt w a' n' c' l') :
    Calls Tryz.prog 192 #[.slice a n c, .slice a' n' c'] w fun e w' => e = .returned (.bool bb) ∧ ∃ n, w' = w.drewN n := by
  have hm := h.max
  have hm' := h'.max
  have HR := Lib.hid h.row
  have HR' := Lib.hid h'.row
  have HL := Lib.hid h.len
  have HL' := Lib.hid h'.len
  have HBB := Lib.hid hbb
  clear h h' hbb
  by_cases hnn : n = n'
  · subst hnn
    go_enter Tryz.func192, Tryz.ntmps192
    go_wp2
    go_loopw [13] (fun i wr => ∃ k : Nat, k ≤ n ∧ i = .int .i64 k ∧ l.take k = l'.take k ∧ ∃ n, wr = w.drewN n) (fun i _ => n - (intOf i).toNat)
    case atStart => exact ⟨0, Nat.zero_le _, rfl, rfl, 0, rfl⟩
    case round =>
      obtain ⟨k, hk, rfl, ht, hw⟩ := hrel
      have HW := Lib.hid hw
      have HT := Lib.hid ht
      clear ht hw
      by_cases hlt : k < n
      · rcases HR.out with e0 | ⟨b4, o4, rfl, h3, h4⟩
        · omega
        rcases HR'.out with e0 | ⟨b5, o5, rfl, h3', h4'⟩
        · omega
        have hbw : Below w.heap.size w wr := by obtain ⟨nd, rfl⟩ := HW.out; exact below_drewN (Below.refl _ _) nd
        have f0 := (hbw.cell (p := ⟨b4, o4 + k * 2, none⟩) h3).trans (h4 k hlt).1
        have f1 := (hbw.cell (p := ⟨b4, o4 + k * 2 + 1, none⟩) h3).trans (h4 k hlt).2
        have g0 := (hbw.cell (p := ⟨b5, o5 + k * 2, none⟩) h3').trans (h4' k hlt).1
        have g1 := (hbw.cell (p := ⟨b5, o5 + k * 2 + 1, none⟩) h3').trans (h4' k hlt).2
        clear h4 h4' hbw
        have k1 : (k : Int) < (n : Int) := by omega
        have HE : Hid (l.getD k dAt = l'.getD k dAt → l.take (k + 1) = l'.take (k + 1)) := Lib.hid fun e => by
          rw [take_snocD (by have := HL.out; omega), take_snocD (l := l') (by have := HL'.out; omega), HT.out, e]
        have HN : Hid (l.getD k dAt ≠ l'.getD k dAt → bb = false) := Lib.hid fun e => by
          rw [Bool.eq_false_iff]
          intro hb
          exact e (by rw [HBB.out.1 hb])
        obtain ⟨p, hp⟩ : ∃ p, l.getD k dAt = p := ⟨_, rfl⟩
        obtain ⟨q, hq⟩ : ∃ q, l'.getD k dAt = q := ⟨_, rfl⟩
        rw [hp] at f0 f1 HE HN
        rw [hq] at g0 g1 HE HN
        have HP := Lib.hid hp
        have HQ := Lib.hid hq
        clear hp hq
        obtain ⟨ps, pt⟩ := p
        obtain ⟨qs, qt⟩ := q
        dsimp only at f0 f1 g0 g1
        by_cases hne : ps = qs ∧ pt = qt
        · obtain ⟨rfl, rfl⟩ := hne
          have hfr := neqAttr ps pt ps pt true true (by simp) (by simp)
          go_wp2_with fail
          go_quiet (fail)
          go_wp2
          go_roundw
          case rel => exact ⟨k + 1, by omega, by go_num, HE.out trivial, drew_more HW.out _⟩
          case measure => simp [intOf]; omega
        · have hfr : ∀ w, (binOp .neq 65 (.agg #[.string ps, .string pt]) (.agg #[.string qs, .string qt])).run Tryz.prog w = .ok (.bool true) w := by
            intro W
            by_cases h1 : ps = qs
            · rw [neqAttr ps pt qs qt true false (by rw [h1]; simp) (toList_ne fun e => hne ⟨h1, e⟩)]; rfl
            · rw [neqAttr ps pt qs qt false _ (toList_ne h1) rfl]; rfl
          have HF := HN.out fun e => hne (by rw [At.mk.injEq] at e; exact e)
          subst HF
          clear hne HN HE
          go_wp2_with fail
          go_quiet (fail)
          go_wp2
          go_ret
          exact ⟨rfl, drew_more HW.out _⟩
      · obtain rfl : k = n := by omega
        have HF : bb = true := HBB.out.2 (by
          have := HT.out
          rw [List.take_of_length_le (by have := HL.out; omega), List.take_of_length_le (by have := HL'.out; omega)] at this
          exact this)
        subst HF
        go_wp2
        go_ret
        exact ⟨rfl, HW.out⟩
  · have HF : bb = false := by
      rw [Bool.eq_false_iff]
      exact fun hb => hnn (by rw [← HL.out, ← HL'.out, HBB.out.1 hb])
    subst HF
    have q1 : ((n : Int) != (n' : Int)) = true := by rw [bne_iff_ne]; omega
    have q2 : ((n : Int) == (n' : Int)) = false := by rw [beq_eq_false_iff_ne]; omega
    clear hnn
    go_enter Tryz.func192, Tryz.ntmps192
    go_wp2
    go_ret
    exact ⟨rfl, 0, rfl⟩
theorem it_ne {x y : It} (bb : Bool) (hbb : bb = true ↔ x = y) (h : x ≠ y) : bb = false := by rw [Bool.eq_false_iff]; exact fun e => h (hbb.1 e)
set_option maxRecDepth 100000 in
set_option maxHeartbeats 1600000 in
theorem sameItems_any (x y : It) (a a' : Option Addr) (n n' c c' : Nat) (w : World) (bb : Bool) (hbb : bb = true ↔ x = y) (h : AtsAt w a n c x.attrs) (h' : AtsAt w a' n' c' y.attrs) :
    Calls Tryz.prog 129 #[.agg #[.int .i64 x.depth, .string x.text, .string x.space, .string x.name, .slice a n c], .agg #[.int .i64 y.depth, .string y.text, .string y.space, .string y.name, .slice a' n' c']] w fun e w' => e = .returned (.bool bb) ∧ Below w.heap.size w w' := by
  have HBB := Lib.hid hbb
  have K := Lib.hid (fun cc hcc W (hb : Below w.heap.size w W) => equalAttrs_any a a' n n' c c' x.attrs y.attrs W cc hcc (h.below hb) (h'.below hb))
  clear h h' hbb
  obtain ⟨xd, xt, xs, xn, xa⟩ := x
  obtain ⟨yd, yt, ys, yn, ya⟩ := y
  dsimp only at K ⊢
  by_cases hd : xd = yd
  · subst hd
    have q0 : (xd == xd) = true := by simp
    by_cases ht : xt = yt
    · subst ht
      by_cases hs : xs = ys
      · subst hs
        by_cases hn : xn = yn
        · subst hn
          have K2 := Lib.hid (K.out bb ⟨fun e => by have := HBB.out.1 e; rw [It.mk.injEq] at this; exact this.2.2.2.2, fun e => HBB.out.2 (by rw [e])⟩)
          go_enter Tryz.func129, Tryz.ntmps129
          go_wp2_with (go_at_call 192; refine (K2.out _ (below2 _ _ _)).mono ?_; rintro e w1 ⟨rfl, nd, rfl⟩)
          go_ret
          exact ⟨rfl, below_drewN (below2 _ _ _) _⟩
        · have q1 := toList_ne hn
          have HF := it_ne bb HBB.out (fun e => hn (by rw [It.mk.injEq] at e; exact e.2.2.2.1))
          subst HF
          clear hn
          go_enter Tryz.func129, Tryz.ntmps129
          go_wp2
          go_ret
          exact ⟨rfl, below2 _ _ _⟩
      · have q1 := toList_ne hs
        have HF := it_ne bb HBB.out (fun e => hs (by rw [It.mk.injEq] at e; exact e.2.2.1))
        subst HF
        clear hs
        go_enter Tryz.func129, Tryz.ntmps129
        go_wp2
        go_ret
        exact ⟨rfl, below2 _ _ _⟩
    · have q1 := toList_ne ht
      have HF := it_ne bb HBB.out (fun e => ht (by rw [It.mk.injEq] at e; exact e.2.1))
      subst HF
      clear ht
      go_enter Tryz.func129, Tryz.ntmps129
      go_wp2
      go_ret
      exact ⟨rfl, below2 _ _ _⟩
  · have q1 : (xd == yd) = false := by simpa using hd
    have HF := it_ne bb HBB.out (fun e => hd (by rw [It.mk.injEq] at e; exact e.1))
    subst HF
    clear hd
    go_enter Tryz.func129, Tryz.ntmps129
    go_wp2
    go_ret
    exact ⟨rfl, below2 _ _ _⟩
end Go.Proofs.YtcaknhoaoodbfaaGreatDoor
