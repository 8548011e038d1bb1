/- Plain words on what is written otherwise: no run in this text. -/
import Derived.Test.YtkpbamjmdcbflaaDoorFacts0
import Derived.Lib.TrimAscii
namespace Go.Proofs.YtkpbamjmdcbflaaDoor
open Go.Lib
set_option linter.unusedVariables false

/-! Bytes that are points, one behind the other. -/
theorem byA (a b : List UInt8) (i : Nat) (h : i < a.length) : by' (a ++ b) i = by' a i := by
  unfold by'
  rw [List.getD_eq_getElem?_getD, List.getElem?_append_left h, List.getD_eq_getElem?_getD]
theorem foldP_app (a b : List UInt8) : ∀ n, n ≤ a.length → 0 < a.length → foldP (a ++ b) n = foldP a n
  | 0, _, h0 => by show leadP (by' (a ++ b) 0) = leadP (by' a 0); rw [byA a b 0 h0]
  | 1, _, h0 => by show leadP (by' (a ++ b) 0) = leadP (by' a 0); rw [byA a b 0 h0]
  | k + 2, h, h0 => by
    show foldP (a ++ b) (k + 1) * 64 + by' (a ++ b) (k + 1) % 64 = foldP a (k + 1) * 64 + by' a (k + 1) % 64
    rw [foldP_app a b (k + 1) (by omega) h0, byA a b (k + 1) (by omega)]
theorem first_app (a b : List UInt8) (h : a ≠ []) (hb : badB a = false) : badB (a ++ b) = false ∧ (decodeL (a ++ b)).1 = (decodeL a).1 ∧ (decodeL (a ++ b)).2 = (decodeL a).2 := by
  have hp : 0 < a.length := List.length_pos_iff.2 h
  have hlead : leadN (by' a 0) ≠ 0 ∧ leadN (by' a 0) ≤ a.length := by
    refine Decidable.byContradiction fun hc => ?_
    have := bad_lead a h (by omega)
    rw [hb] at this
    cases this
  have hi := first_is a h hlead.1 hlead.2
  obtain ⟨o1, o2⟩ := hi.1.2 hb
  obtain ⟨e1, e2⟩ := hi.2 hb
  have h0 : by' (a ++ b) 0 = by' a 0 := byA a b 0 hp
  have hne : a ++ b ≠ [] := fun e => h (List.append_eq_nil_iff.1 e).1
  have hi2 := first_is (a ++ b) hne (by rw [h0]; exact hlead.1) (by rw [h0, List.length_append]; omega)
  rw [h0] at hi2
  have hf := foldP_app a b _ hlead.2 hp
  have ok : FirstOk (a ++ b) (leadN (by' a 0)) := ⟨by rw [hf]; exact o1, by rw [hf, List.take_append_of_le_length hlead.2]; exact o2⟩
  have hb2 := hi2.1.1 ok
  obtain ⟨f1, f2⟩ := hi2.2 hb2
  rw [hf] at f1
  exact ⟨hb2, by have := f1.trans e1.symm; omega, by rw [f2, e2]⟩
theorem strm_append : ∀ (n : Nat) (a b : List UInt8), a.length ≤ n → (strm a).all (·.2) = true → strm (a ++ b) = strm a ++ strm b
  | 0, a, b, hn, _ => by
    have : a = [] := List.eq_nil_of_length_eq_zero (by omega)
    subst this
    rfl
  | n + 1, a, b, hn, h => by
    by_cases h0 : a = []
    · subst h0; rfl
    · cases hb : badB a
      · have hd := drop_lt a h0
        have hle := decodeL_le a h0
        obtain ⟨b1, b2, b3⟩ := first_app a b h0 hb
        rw [strm_step a h0 hb] at h ⊢
        rw [List.all_cons, Bool.and_eq_true] at h
        rw [strm_step (a ++ b) (fun e => h0 (List.append_eq_nil_iff.1 e).1) b1, b2, b3, List.drop_append_of_le_length hle, strm_append n _ b (by omega) h.2, List.cons_append]
      · rw [strm_bad a h0 hb] at h
        simp at h
/-- all bytes are points' -/
def okB (l : List UInt8) : Bool := (strm l).all (·.2)
theorem ok_of_chars {l : List UInt8} (h : charsB l = true) : okB l = true := by
  unfold charsB at h
  unfold okB
  rw [List.all_eq_true] at h ⊢
  intro x hx
  have := h x hx
  simp [goodB] at this
  exact this.1
theorem chars_append {a b : List UInt8} (h : okB a = true) : charsB (a ++ b) = (charsB a && charsB b) := by
  unfold charsB
  rw [strm_append _ a b (Nat.le_refl _) h, List.all_append]
theorem chars_nil : charsB [] = true := rfl
theorem ok_nil : okB [] = true := rfl
theorem ok_append {a b : List UInt8} (h : okB a = true) : okB (a ++ b) = okB b := by
  unfold okB at h ⊢
  rw [strm_append _ a b (Nat.le_refl _) h, List.all_append, h, Bool.true_and]
/-- bytes below 128 that are characters -/
def plainB (c : UInt8) : Bool := decide (c.toNat < 128) && charB (c.toNat : Int)
theorem chars_plain {l : List UInt8} (h : l.all plainB = true) : charsB l = true :=
  ascii_chars l fun c hc => by
    have := List.all_eq_true.1 h c hc
    simp [plainB] at this
    exact this
theorem ok_plain {l : List UInt8} (h : l.all plainB = true) : okB l = true := ok_of_chars (chars_plain h)
theorem not_bad {l : List UInt8} (h : l ≠ []) (hb : okB l = true) : badB l = false := by
  cases hq : badB l
  · rfl
  · unfold okB at hb
    rw [strm_bad l h hq] at hb
    simp at hb
theorem dec_ascii (l : List UInt8) (h : l ≠ []) (hb : (l.headD 0).toNat < 128) : decodeL l = ((l.headD 0).toNat, 1) := by
  cases l with
  | nil => exact absurd rfl h
  | cons c t => exact decodeL_ascii c t hb
/-- the first point's bytes: one byte below 128, or some bytes from 128 on -/
theorem first_high (l : List UInt8) (h : l ≠ []) (hb : badB l = false) (hq : 128 ≤ (decodeL l).1) : ∀ c ∈ l.take (decodeL l).2, 128 ≤ c.toNat := by
  have hlead : leadN (by' l 0) ≠ 0 ∧ leadN (by' l 0) ≤ l.length := by
    refine Decidable.byContradiction fun hc => ?_
    have := bad_lead l h (by omega)
    rw [hb] at this
    cases this
  have hi := first_is l h hlead.1 hlead.2
  obtain ⟨o1, o2⟩ := hi.1.2 hb
  obtain ⟨e1, e2⟩ := hi.2 hb
  rw [e2]
  rw [← e1] at o1 o2
  intro c hc
  have hm : (c.toNat : Int) ∈ encodeRuneZ ((decodeL l).1 : Int) := by
    rw [o2]
    exact List.mem_map.2 ⟨c, hc, rfl⟩
  have hp := (pointB_iff _).1 o1
  rcases enc_cases _ o1 with ⟨c1, e⟩ | ⟨c1, c2, e⟩ | ⟨c1, c2, e⟩ | ⟨c1, e⟩ <;> rw [e] at hm <;> simp at hm <;> omega
theorem first_low (l : List UInt8) (h : l ≠ []) (hb : badB l = false) (hq : (decodeL l).1 < 128) : (l.headD 0).toNat = (decodeL l).1 ∧ (decodeL l).2 = 1 := by
  cases l with
  | nil => exact absurd rfl h
  | cons c t =>
    by_cases hc : c.toNat < 128
    · rw [decodeL_ascii c t hc]
      exact ⟨rfl, rfl⟩
    · exfalso
      have hlead : leadN (by' (c :: t) 0) ≠ 0 ∧ leadN (by' (c :: t) 0) ≤ (c :: t).length := by
        refine Decidable.byContradiction fun hc => ?_
        have := bad_lead (c :: t) h (by omega)
        rw [hb] at this
        cases this
      have hi := first_is (c :: t) h hlead.1 hlead.2
      obtain ⟨o1, o2⟩ := hi.1.2 hb
      obtain ⟨e1, e2⟩ := hi.2 hb
      rw [← e1] at o1 o2
      obtain ⟨k, hk⟩ : ∃ k, leadN (by' (c :: t) 0) = k + 1 := ⟨leadN (by' (c :: t) 0) - 1, by omega⟩
      rw [hk] at o2
      rcases enc_cases _ o1 with ⟨c1, e⟩ | ⟨c1, c2, e⟩ | ⟨c1, c2, e⟩ | ⟨c1, e⟩
      · rw [e] at o2
        simp [bytesI] at o2
        omega
      all_goals omega
theorem enc_first (l : List UInt8) (h : l ≠ []) (hb : badB l = false) : encodeRune ((decodeL l).1 : Int) = l.take (decodeL l).2 :=
  encode_decode l h (by unfold badB at hb; exact of_decide_eq_false hb)

/-! How a sign is written. -/
def signB (v : Bool) (c : UInt8) : List UInt8 :=
  if c = 38 then [38, 97, 109, 112, 59] else if c = 60 then [38, 108, 116, 59] else if c = 62 then [38, 103, 116, 59]
  else if (c == 34 && v) = true then [38, 113, 117, 111, 116, 59] else if (c == 9 && v) = true then [38, 35, 57, 59] else if (c == 10 && v) = true then [38, 35, 49, 48, 59] else [c]
def escL (v : Bool) (l : List UInt8) : List UInt8 := l.flatMap (signB v)
theorem sign_len (v : Bool) (c : UInt8) : 1 ≤ (signB v c).length ∧ (signB v c).length ≤ 6 := by
  unfold signB
  repeat' split
  all_goals simp
theorem escL_nil (v : Bool) : escL v [] = [] := rfl
theorem escL_cons (v : Bool) (c : UInt8) (l : List UInt8) : escL v (c :: l) = signB v c ++ escL v l := rfl
theorem escL_append (v : Bool) (a b : List UInt8) : escL v (a ++ b) = escL v a ++ escL v b := List.flatMap_append ..
theorem escL_len (v : Bool) : ∀ l : List UInt8, (escL v l).length ≤ 6 * l.length
  | [] => by simp [escL_nil]
  | c :: l => by
    have := sign_len v c
    have := escL_len v l
    rw [escL_cons, List.length_append, List.length_cons]
    omega
theorem sign_high (v : Bool) (c : UInt8) (h : 128 ≤ c.toNat) : signB v c = [c] := by
  unfold signB
  have h1 : ∀ k : UInt8, k.toNat < 128 → (c == k) = false := fun k hk => by rw [beq_eq_false_iff_ne]; intro e; rw [e] at h; omega
  rw [if_neg (by intro e; rw [e] at h; simp at h), if_neg (by intro e; rw [e] at h; simp at h), if_neg (by intro e; rw [e] at h; simp at h), h1 34 (by decide), h1 9 (by decide), h1 10 (by decide)]
  simp
theorem escL_high (v : Bool) : ∀ l : List UInt8, (∀ c ∈ l, 128 ≤ c.toNat) → escL v l = l
  | [], _ => rfl
  | c :: l, h => by
    rw [escL_cons, sign_high v c (h c (by simp)), escL_high v l (fun x hx => h x (by simp [hx]))]
    rfl
theorem sign_plain (v : Bool) (c : UInt8) (h : plainB c = true) : (signB v c).all plainB = true := by
  unfold signB
  repeat' split
  all_goals first | decide | (simp [h]; done)
/-- the text stays one of characters -/
theorem chars_escL (v : Bool) : ∀ (n : Nat) (l : List UInt8), l.length ≤ n → charsB l = true → charsB (escL v l) = true
  | 0, l, hn, _ => by
    have : l = [] := List.eq_nil_of_length_eq_zero (by omega)
    subst this
    rfl
  | n + 1, l, hn, h => by
    by_cases h0 : l = []
    · subst h0; rfl
    · have hb := not_bad h0 (ok_of_chars h)
      have hd := drop_lt l h0
      have hu := h
      unfold charsB at hu
      rw [strm_step l h0 hb, List.all_cons, Bool.and_eq_true] at hu
      obtain ⟨u1, u2⟩ := hu
      have ih := chars_escL v n _ (by omega) u2
      have hs : strm (l.take (decodeL l).2) = [(((decodeL l).1 : Int), true)] := by
        refine enc_strm _ _ (by
          have hp : pointB ((decodeL l).1 : Int) = true := by
            cases hq : pointB ((decodeL l).1 : Int)
            · have := charB_point _ hq
              simp [goodB, this] at u1
            · rfl
          exact hp) ?_
        rw [← enc_first l h0 hb]
        unfold encodeRune bytesI
        rw [List.map_map]
        refine (List.map_congr_left (g := id) fun x hx => ?_).trans (List.map_id _)
        have := encodeRuneZ_byte _ x hx
        simp
        omega
      have hl : l = l.take (decodeL l).2 ++ l.drop (decodeL l).2 := (List.take_append_drop _ _).symm
      rw [hl, escL_append]
      have key : charsB (escL v (l.take (decodeL l).2)) = true := by
        by_cases hq : (decodeL l).1 < 128
        · obtain ⟨f1, f2⟩ := first_low l h0 hb hq
          cases l with
          | nil => exact absurd rfl h0
          | cons c t =>
            rw [f2]
            simp only [List.take_succ_cons, List.take_zero, escL_cons, escL_nil, List.append_nil]
            refine chars_plain (sign_plain v c ?_)
            simp only [List.headD_cons] at f1
            simp [goodB] at u1
            simp [plainB, f1, u1]
            exact hq
        · rw [escL_high v _ (first_high l h0 hb (by omega))]
          unfold charsB
          rw [hs]
          simpa using u1
      rw [chars_append (ok_of_chars key), key, ih]
      rfl
theorem sign_safe (c : UInt8) : ∀ x ∈ signB true c, x ≠ 60 ∧ x ≠ 34 ∧ x ≠ 10 ∧ x ≠ 9 := by
  unfold signB
  repeat' split
  all_goals first | decide | skip
  intro x hx
  simp at hx
  subst hx
  simp_all
/-- what is written in a value has none of these -/
theorem escL_safe (l : List UInt8) : ∀ x ∈ escL true l, x ≠ 60 ∧ x ≠ 34 ∧ x ≠ 10 ∧ x ≠ 9 := by
  intro x hx
  obtain ⟨c, _, h⟩ := List.mem_flatMap.1 hx
  exact sign_safe c x h

/-! How it is read. -/
def hexV (c : UInt8) : Int := if 48 ≤ c.toNat ∧ c.toNat ≤ 57 then (c.toNat : Int) - 48 else if 97 ≤ c.toNat ∧ c.toNat ≤ 102 then (c.toNat : Int) - 97 + 10 else if 65 ≤ c.toNat ∧ c.toNat ≤ 70 then (c.toNat : Int) - 65 + 10 else -1
def digB (base : Int) (c : UInt8) : Bool := decide (0 ≤ hexV c) && decide (hexV c < base)
def numF (base : Int) : Int → List UInt8 → Int
  | n, [] => n
  | n, c :: t => if digB base c then numF base (n * base + hexV c) t else -1
/-- what digits tell; -1: they are none, or too many -/
def numberL (base : Int) (most : Nat) (l : List UInt8) : Int := if l.length < 1 ∨ most < l.length then -1 else numF base 0 l
/-- what a name tells; -1: nothing -/
def nameN (l : List UInt8) : Int :=
  if l = [97, 109, 112] then 38 else if l = [108, 116] then 60 else if l = [103, 116] then 62 else if l = [113, 117, 111, 116] then 34 else if l = [97, 112, 111, 115] then 39
  else if l.take 2 = [35, 120] then numberL 16 6 (l.drop 2) else if l.take 1 = [35] then numberL 10 7 (l.drop 1) else -1
def entL (l : List UInt8) : List UInt8 := if charB (nameN l) then encodeRune (nameN l) else []
/-- the place of the first semicolon, or behind all -/
def semi (l : List UInt8) : Nat := l.findIdx (· == 59)
def unescF : Nat → List UInt8 → Option (List UInt8)
  | 0, _ => some []
  | _ + 1, [] => some []
  | f + 1, c :: t => if c = 60 then none else if c = 38 then (if t.length ≤ semi t then none else if entL (t.take (semi t)) = [] then none else (unescF f (t.drop (semi t + 1))).map (entL (t.take (semi t)) ++ ·)) else (unescF f t).map (c :: ·)
def unescL (l : List UInt8) : Option (List UInt8) := unescF l.length l
theorem unescF_fuel : ∀ (n m : Nat) (l : List UInt8), l.length ≤ n → l.length ≤ m → unescF n l = unescF m l
  | n, m, [], _, _ => by cases n <;> cases m <;> rfl
  | 0, _, _ :: _, h, _ => by simp at h
  | _ + 1, 0, _ :: _, _, h => by simp at h
  | n + 1, m + 1, c :: t, hn, hm => by
    simp only [List.length_cons] at hn hm
    simp only [unescF]
    rw [unescF_fuel n m t (by omega) (by omega), unescF_fuel n m (t.drop (semi t + 1)) (by rw [List.length_drop]; omega) (by rw [List.length_drop]; omega)]
theorem unescL_nil : unescL [] = some [] := rfl
theorem unescL_lt (t : List UInt8) : unescL (60 :: t) = none := by simp [unescL, unescF]
theorem unescL_cons (c : UInt8) (t : List UInt8) (h1 : c ≠ 60) (h2 : c ≠ 38) : unescL (c :: t) = (unescL t).map (c :: ·) := by
  simp only [unescL, List.length_cons, unescF, if_neg h1, if_neg h2]
theorem unescL_amp0 (t : List UInt8) (h : t.length ≤ semi t ∨ entL (t.take (semi t)) = []) : unescL (38 :: t) = none := by
  simp only [unescL, List.length_cons, unescF]
  rw [if_neg (by decide), if_pos trivial]
  rcases h with h | h
  · rw [if_pos h]
  · rw [if_pos h]
    split <;> rfl
theorem unescL_amp (t : List UInt8) (h : semi t < t.length) (he : entL (t.take (semi t)) ≠ []) : unescL (38 :: t) = (unescL (t.drop (semi t + 1))).map (entL (t.take (semi t)) ++ ·) := by
  simp only [unescL, List.length_cons, unescF]
  rw [if_neg (by decide), if_pos trivial, if_neg (by omega), if_neg he, unescF_fuel t.length _ _ (by rw [List.length_drop]; omega) (Nat.le_refl _)]
theorem unescL_high : ∀ (a b : List UInt8), (∀ c ∈ a, 128 ≤ c.toNat) → unescL (a ++ b) = (unescL b).map (a ++ ·)
  | [], b, _ => by simp
  | c :: a, b, h => by
    have hc := h c (by simp)
    rw [List.cons_append, unescL_cons c _ (by intro e; rw [e] at hc; simp at hc) (by intro e; rw [e] at hc; simp at hc), unescL_high a b (fun x hx => h x (by simp [hx])), Option.map_map]
    rfl
theorem unesc_sign (v : Bool) (c : UInt8) (b : List UInt8) : unescL (signB v c ++ b) = (unescL b).map (c :: ·) := by
  unfold signB
  repeat' split
  · rename_i h
    subst h
    have e : entL [97, 109, 112] = [38] := by decide
    have s : semi (97 :: 109 :: 112 :: 59 :: b) = 3 := by simp [semi, List.findIdx_cons]
    exact (unescL_amp (97 :: 109 :: 112 :: 59 :: b) (by rw [s]; simp) (by rw [s]; simp [e])).trans (by rw [s]; simp [e])
  · rename_i h
    subst h
    have e : entL [108, 116] = [60] := by decide
    have s : semi (108 :: 116 :: 59 :: b) = 2 := by simp [semi, List.findIdx_cons]
    exact (unescL_amp (108 :: 116 :: 59 :: b) (by rw [s]; simp) (by rw [s]; simp [e])).trans (by rw [s]; simp [e])
  · rename_i h
    subst h
    have e : entL [103, 116] = [62] := by decide
    have s : semi (103 :: 116 :: 59 :: b) = 2 := by simp [semi, List.findIdx_cons]
    exact (unescL_amp (103 :: 116 :: 59 :: b) (by rw [s]; simp) (by rw [s]; simp [e])).trans (by rw [s]; simp [e])
  · rename_i h
    simp only [Bool.and_eq_true, beq_iff_eq] at h
    obtain ⟨rfl, _⟩ := h
    have e : entL [113, 117, 111, 116] = [34] := by decide
    have s : semi (113 :: 117 :: 111 :: 116 :: 59 :: b) = 4 := by simp [semi, List.findIdx_cons]
    exact (unescL_amp (113 :: 117 :: 111 :: 116 :: 59 :: b) (by rw [s]; simp) (by rw [s]; simp [e])).trans (by rw [s]; simp [e])
  · rename_i h
    simp only [Bool.and_eq_true, beq_iff_eq] at h
    obtain ⟨rfl, _⟩ := h
    have e : entL [35, 57] = [9] := by decide
    have s : semi (35 :: 57 :: 59 :: b) = 2 := by simp [semi, List.findIdx_cons]
    exact (unescL_amp (35 :: 57 :: 59 :: b) (by rw [s]; simp) (by rw [s]; simp [e])).trans (by rw [s]; simp [e])
  · rename_i h
    simp only [Bool.and_eq_true, beq_iff_eq] at h
    obtain ⟨rfl, _⟩ := h
    have e : entL [35, 49, 48] = [10] := by decide
    have s : semi (35 :: 49 :: 48 :: 59 :: b) = 3 := by simp [semi, List.findIdx_cons]
    exact (unescL_amp (35 :: 49 :: 48 :: 59 :: b) (by rw [s]; simp) (by rw [s]; simp [e])).trans (by rw [s]; simp [e])
  · rename_i h1 h2 _ _ _ _
    exact unescL_cons c b h2 h1
/-- what is written otherwise is read as it was -/
theorem unesc_esc (v : Bool) : ∀ l : List UInt8, unescL (escL v l) = some l
  | [] => rfl
  | c :: l => by rw [escL_cons, unesc_sign, unesc_esc v l]; rfl

/-! The three functions' answers. -/
def escText (v : Bool) (l : List UInt8) : List UInt8 := if textFault l = 0 then escL v l else []
def unL (l : List UInt8) : Option (List UInt8) := if charsB l then unescL l else none
def unCode (l : List UInt8) : Int := if 600 < l.length then 2 else if (unL l).isSome then 0 else 5
def unText (l : List UInt8) : List UInt8 := if 600 < l.length then [] else (unL l).getD []
def bst (l : List UInt8) : ByteArray := ⟨l.toArray⟩
theorem bst_toList (l : List UInt8) : (bst l).data.toList = l := rfl
theorem bst_of {s : ByteArray} {l : List UInt8} (h : s.data.toList = l) : s = bst l := by
  subst h
  cases s with
  | mk d => rfl
theorem bst_size (l : List UInt8) : (bst l).size = l.length := rfl
theorem fault_chars {l : List UInt8} (h : textFault l = 0) : l.length ≤ 60 ∧ charsB l = true := by
  unfold textFault at h
  split at h
  · cases h
  · split at h
    · exact ⟨by omega, by assumption⟩
    · cases h
theorem un_esc (v : Bool) (l : List UInt8) (h : textFault l = 0) : unCode (escText v l) = 0 ∧ unText (escText v l) = l := by
  obtain ⟨h1, h2⟩ := fault_chars h
  have hl := escL_len v l
  have hu : unL (escL v l) = some l := by
    unfold unL
    rw [chars_escL v _ l (Nat.le_refl _) h2, unesc_esc]
    rfl
  unfold unCode unText escText
  rw [if_pos h, if_neg (by omega), hu]
  refine ⟨rfl, ?_⟩
  rw [if_neg (by omega)]
  rfl
theorem escText_safe (l : List UInt8) : ∀ x ∈ escText true l, x ≠ 60 ∧ x ≠ 34 ∧ x ≠ 10 ∧ x ≠ 9 := by
  unfold escText
  split
  · exact escL_safe l
  · simp
theorem escText_len (v : Bool) (l : List UInt8) : (escText v l).length ≤ 360 := by
  unfold escText
  split
  · rename_i h
    have := (fault_chars h).1
    have := escL_len v l
    omega
  · simp
end Go.Proofs.YtkpbamjmdcbflaaDoor
