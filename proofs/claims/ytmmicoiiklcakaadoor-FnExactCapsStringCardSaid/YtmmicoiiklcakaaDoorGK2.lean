/- Plain words on points in bytes: no run in this text. -/
import Derived.Test.YtmmicoiiklcakaaDoorGK1
import Derived.Lib.MapLaws
import Derived.Laws.BytesArg
import Derived.Lib.Strings
import Derived.Lib.IndexBytes
import Derived.Laws.Strings
import Derived.Test.YtmmicoiiklcakaaDoorGK0
import Derived.Sort.Walk0
namespace Go.Proofs.YtmmicoiiklcakaaDoor
open Go.Lib
set_option linter.unusedVariables false

/-- the bytes begin with no point -/
def badB (l : List UInt8) : Bool := decide ((decodeL l).1 = 65533 ∧ (decodeL l).2 = 1)
/-- the points of the bytes, each with true; what is none: false, and the end -/
def strmF : Nat → List UInt8 → List (Int × Bool)
  | 0, _ => []
  | f + 1, l => if l = [] then [] else if badB l then [(0, false)] else (((decodeL l).1 : Int), true) :: strmF f (l.drop (decodeL l).2)
def strm (l : List UInt8) : List (Int × Bool) := strmF l.length l
theorem strmF_nil : ∀ f, strmF f [] = []
  | 0 => rfl
  | _ + 1 => by simp [strmF]
theorem drop_lt (l : List UInt8) (h : l ≠ []) : (l.drop (decodeL l).2).length < l.length := by
  have h1 := decodeL_width l
  have h2 : 0 < l.length := List.length_pos_iff.2 h
  rw [List.length_drop]
  omega
theorem strmF_fuel : ∀ (n m : Nat) (l : List UInt8), l.length ≤ n → l.length ≤ m → strmF n l = strmF m l
  | 0, m, l, hn, _ => by
    have : l = [] := List.eq_nil_of_length_eq_zero (by omega)
    subst this
    rw [strmF_nil, strmF_nil]
  | n + 1, 0, l, _, hm => by
    have : l = [] := List.eq_nil_of_length_eq_zero (by omega)
    subst this
    rw [strmF_nil, strmF_nil]
  | n + 1, m + 1, l, hn, hm => by
    by_cases h : l = []
    · subst h
      rw [strmF_nil, strmF_nil]
    · have := drop_lt l h
      simp only [strmF, if_neg h]
      rw [strmF_fuel n m _ (by omega) (by omega)]
theorem strm_nil : strm [] = [] := rfl
theorem strm_bad (l : List UInt8) (h : l ≠ []) (hb : badB l = true) : strm l = [(0, false)] := by
  unfold strm
  obtain ⟨k, hk⟩ : ∃ k, l.length = k + 1 := ⟨l.length - 1, by have : 0 < l.length := List.length_pos_iff.2 h; omega⟩
  rw [hk]
  simp [strmF, h, hb]
theorem strm_step (l : List UInt8) (h : l ≠ []) (hb : badB l = false) : strm l = (((decodeL l).1 : Int), true) :: strm (l.drop (decodeL l).2) := by
  have hd := drop_lt l h
  unfold strm
  obtain ⟨k, hk⟩ : ∃ k, l.length = k + 1 := ⟨l.length - 1, by have : 0 < l.length := List.length_pos_iff.2 h; omega⟩
  rw [hk]
  simp only [strmF, if_neg h, hb]
  rw [strmF_fuel k _ _ (by omega) (Nat.le_refl _)]
  rfl
theorem strm_length_le : ∀ (n : Nat) (l : List UInt8), l.length ≤ n → (strm l).length ≤ l.length
  | 0, l, h => by
    have : l = [] := List.eq_nil_of_length_eq_zero (by omega)
    subst this
    simp [strm_nil]
  | n + 1, l, h => by
    by_cases h0 : l = []
    · subst h0; simp [strm_nil]
    · have hp : 0 < l.length := List.length_pos_iff.2 h0
      cases hb : badB l
      · rw [strm_step l h0 hb, List.length_cons]
        have hd := drop_lt l h0
        have := strm_length_le n (l.drop (decodeL l).2) (by omega)
        omega
      · rw [strm_bad l h0 hb]
        simp
        omega
theorem strm_len (l : List UInt8) : (strm l).length ≤ l.length := strm_length_le _ l (Nat.le_refl _)

/-- the points, or none -/
def pts (l : List UInt8) : Option (List Int) := if (strm l).all (·.2) then some ((strm l).map (·.1)) else none
/-- all are characters -/
def goodB (x : Int × Bool) : Bool := x.2 && charB x.1
def charsB (l : List UInt8) : Bool := (strm l).all goodB
/-- the text's fault -/
def textFault (l : List UInt8) : Int := if 60 < l.length then 2 else if charsB l then 0 else 5
/-- PointsOf: its code and its list -/
def ptsCode (l : List UInt8) : Int := if 4000 < l.length then 2 else if (pts l).isSome then 0 else 5
def ptsList (l : List UInt8) : List Int := if 4000 < l.length then [] else (pts l).getD []

/-! What the bytes' first one tells, and what the rest of them must be. -/
def by' (l : List UInt8) (i : Nat) : Int := ((l.getD i 0).toNat : Int)
def leadN (b : Int) : Nat := if b < 128 then 1 else if 192 ≤ b ∧ b < 224 then 2 else if 224 ≤ b ∧ b < 240 then 3 else if 240 ≤ b ∧ b < 248 then 4 else 0
def leadP (b : Int) : Int := if b < 128 then b else if 192 ≤ b ∧ b < 224 then b - 192 else if 224 ≤ b ∧ b < 240 then b - 224 else if 240 ≤ b ∧ b < 248 then b - 240 else 0
/-- the number that k bytes tell -/
def foldP (l : List UInt8) : Nat → Int
  | 0 => leadP (by' l 0)
  | 1 => leadP (by' l 0)
  | k + 2 => foldP l (k + 1) * 64 + by' l (k + 1) % 64
def bytesI (l : List UInt8) : List Int := l.map fun c => (c.toNat : Int)

theorem bad_lead (l : List UInt8) (h : l ≠ []) (hl : leadN (by' l 0) = 0 ∨ l.length < leadN (by' l 0)) : badB l = true := by
  have hp : 0 < l.length := List.length_pos_iff.2 h
  have k0 := (l.getD 0 0).toNat_lt
  unfold badB
  rw [decodeL_N]
  unfold leadN by' at hl
  rcases decodeN_shape l.length (l.getD 0 0).toNat (l.getD 1 0).toNat (l.getD 2 0).toNat (l.getD 3 0).toNat with ⟨c, e⟩ | ⟨c1, c2, c3, cv, e⟩ | ⟨c1, c2, c3, c4, cv, cs, e⟩ | ⟨c1, c2, c3, c4, c5, cv, cw, e⟩ | e
  · exfalso
    rw [if_pos (by omega)] at hl
    omega
  · exfalso
    rw [if_neg (by omega), if_pos (by omega)] at hl
    omega
  · exfalso
    rw [if_neg (by omega), if_neg (by omega), if_pos (by omega)] at hl
    omega
  · exfalso
    rw [if_neg (by omega), if_neg (by omega), if_neg (by omega), if_pos (by omega)] at hl
    omega
  · rw [e]
    simp

theorem dec1 (n b0 b1 b2 b3 : Nat) (h : b0 < 128) : decodeN n b0 b1 b2 b3 = (b0, 1) := by simp [decodeN, h]
theorem dec2 (n b0 b1 b2 b3 : Nat) (h : 192 ≤ b0 ∧ b0 < 224) (hn : 1 < n) (h1 : b1 < 256) :
    decodeN n b0 b1 b2 b3 = if b1 / 64 = 2 ∧ 128 ≤ b0 % 32 * 64 + b1 % 64 then (b0 % 32 * 64 + b1 % 64, 2) else (65533, 1) := by
  unfold decodeN
  repeat' split
  all_goals first | rfl | (exfalso; omega)
set_option maxRecDepth 100000 in
set_option maxHeartbeats 1000000 in
theorem dec3 (n b0 b1 b2 b3 : Nat) (h : 224 ≤ b0 ∧ b0 < 240) (hn : 2 < n) (h1 : b1 < 256) (h2 : b2 < 256) :
    decodeN n b0 b1 b2 b3 = if b1 / 64 = 2 ∧ b2 / 64 = 2 ∧ 2048 ≤ b0 % 16 * 4096 + b1 % 64 * 64 + b2 % 64 ∧ ¬ (55296 ≤ b0 % 16 * 4096 + b1 % 64 * 64 + b2 % 64 ∧ b0 % 16 * 4096 + b1 % 64 * 64 + b2 % 64 ≤ 57343) then (b0 % 16 * 4096 + b1 % 64 * 64 + b2 % 64, 3) else (65533, 1) := by
  unfold decodeN
  repeat' split
  all_goals first | rfl | (exfalso; omega)
set_option maxRecDepth 100000 in
set_option maxHeartbeats 1000000 in
theorem dec4 (n b0 b1 b2 b3 : Nat) (h : 240 ≤ b0 ∧ b0 < 248) (hn : 3 < n) (h1 : b1 < 256) (h2 : b2 < 256) (h3 : b3 < 256) :
    decodeN n b0 b1 b2 b3 = if b1 / 64 = 2 ∧ b2 / 64 = 2 ∧ b3 / 64 = 2 ∧ 65536 ≤ b0 % 8 * 262144 + b1 % 64 * 4096 + b2 % 64 * 64 + b3 % 64 ∧ b0 % 8 * 262144 + b1 % 64 * 4096 + b2 % 64 * 64 + b3 % 64 ≤ 1114111 then (b0 % 8 * 262144 + b1 % 64 * 4096 + b2 % 64 * 64 + b3 % 64, 4) else (65533, 1) := by
  unfold decodeN
  repeat' split
  all_goals first | rfl | (exfalso; omega)

theorem pointB_iff (p : Int) : pointB p = true ↔ (0 ≤ p ∧ p ≤ 1114111) ∧ ¬ (55296 ≤ p ∧ p ≤ 57343) := by
  simp [pointB, inB]
  omega
theorem enc_cases (p : Int) (h : pointB p = true) :
    (p < 128 ∧ encodeRuneZ p = [p]) ∨ (128 ≤ p ∧ p < 2048 ∧ encodeRuneZ p = [192 + p / 64, 128 + p % 64]) ∨
    (2048 ≤ p ∧ p < 65536 ∧ encodeRuneZ p = [224 + p / 4096, 128 + p / 64 % 64, 128 + p % 64]) ∨ (65536 ≤ p ∧ encodeRuneZ p = [240 + p / 262144, 128 + p / 4096 % 64, 128 + p / 64 % 64, 128 + p % 64]) := by
  have := (pointB_iff p).1 h
  by_cases c1 : p < 128
  · exact .inl ⟨c1, encodeRuneZ_one (by omega) (by omega)⟩
  · by_cases c2 : p < 2048
    · exact .inr (.inl ⟨by omega, c2, encodeRuneZ_two (by omega) (by omega)⟩)
    · by_cases c3 : p < 65536
      · exact .inr (.inr (.inl ⟨by omega, c3, encodeRuneZ_three (by omega)⟩))
      · exact .inr (.inr (.inr ⟨by omega, encodeRuneZ_four (by omega) (by omega)⟩))

/-- the test that the model makes, as a proposition -/
def FirstOk (l : List UInt8) (n : Nat) : Prop := pointB (foldP l n) = true ∧ encodeRuneZ (foldP l n) = bytesI (l.take n)

theorem leadP_1 {b : Int} (h : b < 128) : leadP b = b := by simp [leadP, h]
theorem leadP_2 {b : Int} (h : 192 ≤ b ∧ b < 224) : leadP b = b - 192 := by
  unfold leadP
  rw [if_neg (by omega), if_pos h]
theorem leadP_3 {b : Int} (h : 224 ≤ b ∧ b < 240) : leadP b = b - 224 := by
  unfold leadP
  rw [if_neg (by omega), if_neg (by omega), if_pos h]
theorem leadP_4 {b : Int} (h : 240 ≤ b ∧ b < 248) : leadP b = b - 240 := by
  unfold leadP
  rw [if_neg (by omega), if_neg (by omega), if_neg (by omega), if_pos h]
theorem foldP_1 (l : List UInt8) : foldP l 1 = leadP (by' l 0) := rfl
theorem foldP_2 (l : List UInt8) : foldP l 2 = leadP (by' l 0) * 64 + by' l 1 % 64 := rfl
theorem foldP_3 (l : List UInt8) : foldP l 3 = (leadP (by' l 0) * 64 + by' l 1 % 64) * 64 + by' l 2 % 64 := rfl
theorem foldP_4 (l : List UInt8) : foldP l 4 = ((leadP (by' l 0) * 64 + by' l 1 % 64) * 64 + by' l 2 % 64) * 64 + by' l 3 % 64 := rfl

/-! The four lengths, over plain numbers. -/
theorem num1 (b0 : Nat) (h : b0 < 128) : pointB (b0 : Int) = true ∧ encodeRuneZ (b0 : Int) = [(b0 : Int)] :=
  ⟨(pointB_iff _).2 (by omega), encodeRuneZ_one (by omega) (by omega)⟩
theorem num2 (b0 b1 p : Nat) (h : 192 ≤ b0 ∧ b0 < 224) (h1 : b1 < 256) (hp : p = b0 % 32 * 64 + b1 % 64) :
    (pointB (p : Int) = true ∧ encodeRuneZ (p : Int) = [(b0 : Int), (b1 : Int)]) ↔ (b1 / 64 = 2 ∧ 128 ≤ p) := by
  constructor
  · rintro ⟨a, e⟩
    rcases enc_cases _ a with ⟨c, e'⟩ | ⟨c, d, e'⟩ | ⟨c, d, e'⟩ | ⟨c, e'⟩ <;> rw [e'] at e <;> simp at e <;> omega
  · rintro ⟨a, b⟩
    refine ⟨(pointB_iff _).2 (by omega), ?_⟩
    rw [encodeRuneZ_two (by omega) (by omega)]
    simp
    omega
theorem num3 (b0 b1 b2 p : Nat) (h : 224 ≤ b0 ∧ b0 < 240) (h1 : b1 < 256) (h2 : b2 < 256) (hp : p = b0 % 16 * 4096 + b1 % 64 * 64 + b2 % 64) :
    (pointB (p : Int) = true ∧ encodeRuneZ (p : Int) = [(b0 : Int), (b1 : Int), (b2 : Int)]) ↔ (b1 / 64 = 2 ∧ b2 / 64 = 2 ∧ 2048 ≤ p ∧ ¬ (55296 ≤ p ∧ p ≤ 57343)) := by
  constructor
  · rintro ⟨a, e⟩
    have a' := (pointB_iff _).1 a
    rcases enc_cases _ a with ⟨c, e'⟩ | ⟨c, d, e'⟩ | ⟨c, d, e'⟩ | ⟨c, e'⟩ <;> rw [e'] at e <;> simp at e <;> omega
  · rintro ⟨a, b, c, d⟩
    refine ⟨(pointB_iff _).2 (by omega), ?_⟩
    rw [encodeRuneZ_three (by omega)]
    simp
    omega
theorem num4 (b0 b1 b2 b3 p : Nat) (h : 240 ≤ b0 ∧ b0 < 248) (h1 : b1 < 256) (h2 : b2 < 256) (h3 : b3 < 256) (hp : p = b0 % 8 * 262144 + b1 % 64 * 4096 + b2 % 64 * 64 + b3 % 64) :
    (pointB (p : Int) = true ∧ encodeRuneZ (p : Int) = [(b0 : Int), (b1 : Int), (b2 : Int), (b3 : Int)]) ↔ (b1 / 64 = 2 ∧ b2 / 64 = 2 ∧ b3 / 64 = 2 ∧ 65536 ≤ p ∧ p ≤ 1114111) := by
  constructor
  · rintro ⟨a, e⟩
    have a' := (pointB_iff _).1 a
    rcases enc_cases _ a with ⟨c, e'⟩ | ⟨c, d, e'⟩ | ⟨c, d, e'⟩ | ⟨c, e'⟩ <;> rw [e'] at e <;> simp at e <;> omega
  · rintro ⟨a, b, c, d, e⟩
    refine ⟨(pointB_iff _).2 (by omega), ?_⟩
    rw [encodeRuneZ_four (by omega) (by omega)]
    simp
    omega

def FirstIs (l : List UInt8) (n : Nat) : Prop := (FirstOk l n ↔ badB l = false) ∧ (badB l = false → ((decodeL l).1 : Int) = foldP l n ∧ (decodeL l).2 = n)
theorem bad_of (l : List UInt8) {c : Prop} [Decidable c] {p n : Nat} (hd : decodeL l = if c then (p, n) else (65533, 1)) (hn : c → ¬ (p = 65533 ∧ n = 1)) : badB l = false ↔ c := by
  unfold badB
  rw [hd]
  by_cases hc : c
  · rw [if_pos hc]
    have := hn hc
    simp only [decide_eq_false_iff_not]
    exact ⟨fun _ => hc, fun _ => this⟩
  · rw [if_neg hc]
    simp [hc]
theorem first_of (l : List UInt8) {c : Prop} [Decidable c] {p n : Nat} (hd : decodeL l = if c then (p, n) else (65533, 1)) (hn : c → ¬ (p = 65533 ∧ n = 1)) (hf : foldP l n = (p : Int))
    (ho : (pointB (p : Int) = true ∧ encodeRuneZ (p : Int) = bytesI (l.take n)) ↔ c) : FirstIs l n := by
  have hb := bad_of l hd hn
  refine ⟨?_, fun h => ?_⟩
  · unfold FirstOk
    rw [hf, ho, hb]
  · rw [hd, if_pos (hb.1 h), hf]
    exact ⟨rfl, rfl⟩

theorem first1 (l : List UInt8) (h : l ≠ []) (hb : by' l 0 < 128) : FirstIs l 1 := by
  have hp : 0 < l.length := List.length_pos_iff.2 h
  have hd := decodeL_N l
  have hb' : (l.getD 0 0).toNat < 128 := by unfold by' at hb; omega
  rw [dec1 _ _ _ _ _ hb'] at hd
  refine first_of (c := True) l (p := (l.getD 0 0).toNat) (by rw [hd, if_pos trivial]) (fun _ => by omega) (by rw [foldP_1, leadP_1 hb]; rfl) ?_
  rw [takeA l hp]
  exact ⟨fun _ => trivial, fun _ => num1 _ hb'⟩
theorem first2 (l : List UInt8) (hl : 2 ≤ l.length) (hb : 192 ≤ by' l 0 ∧ by' l 0 < 224) : FirstIs l 2 := by
  have k1 := (l.getD 1 0).toNat_lt
  have hd := decodeL_N l
  have hb' : 192 ≤ (l.getD 0 0).toNat ∧ (l.getD 0 0).toNat < 224 := by unfold by' at hb; omega
  rw [dec2 _ _ _ _ _ hb' (by omega) k1] at hd
  refine first_of l hd (fun _ => by omega) (by rw [foldP_2, leadP_2 hb]; unfold by'; omega) ?_
  rw [takeB l (by omega)]
  exact num2 _ _ _ hb' k1 rfl
theorem first3 (l : List UInt8) (hl : 3 ≤ l.length) (hb : 224 ≤ by' l 0 ∧ by' l 0 < 240) : FirstIs l 3 := by
  have k1 := (l.getD 1 0).toNat_lt
  have k2 := (l.getD 2 0).toNat_lt
  have hd := decodeL_N l
  have hb' : 224 ≤ (l.getD 0 0).toNat ∧ (l.getD 0 0).toNat < 240 := by unfold by' at hb; omega
  rw [dec3 _ _ _ _ _ hb' (by omega) k1 k2] at hd
  refine first_of l hd (fun _ => by omega) (by rw [foldP_3, leadP_3 hb]; unfold by'; omega) ?_
  rw [takeC l (by omega)]
  exact num3 _ _ _ _ hb' k1 k2 rfl
theorem first4 (l : List UInt8) (hl : 4 ≤ l.length) (hb : 240 ≤ by' l 0 ∧ by' l 0 < 248) : FirstIs l 4 := by
  have k1 := (l.getD 1 0).toNat_lt
  have k2 := (l.getD 2 0).toNat_lt
  have k3 := (l.getD 3 0).toNat_lt
  have hd := decodeL_N l
  have hb' : 240 ≤ (l.getD 0 0).toNat ∧ (l.getD 0 0).toNat < 248 := by unfold by' at hb; omega
  rw [dec4 _ _ _ _ _ hb' (by omega) k1 k2 k3] at hd
  refine first_of l hd (fun _ => by omega) (by rw [foldP_4, leadP_4 hb]; unfold by'; omega) ?_
  rw [takeD l (by omega)]
  exact num4 _ _ _ _ _ hb' k1 k2 k3 rfl

theorem first_is (l : List UInt8) (h : l ≠ []) (hn : leadN (by' l 0) ≠ 0) (hl : leadN (by' l 0) ≤ l.length) : FirstIs l (leadN (by' l 0)) := by
  by_cases a1 : by' l 0 < 128
  · have e : leadN (by' l 0) = 1 := by simp [leadN, a1]
    rw [e]
    exact first1 l h a1
  · by_cases a2 : 192 ≤ by' l 0 ∧ by' l 0 < 224
    · have e : leadN (by' l 0) = 2 := by unfold leadN; rw [if_neg a1, if_pos a2]
      rw [e] at hl ⊢
      exact first2 l hl a2
    · by_cases a3 : 224 ≤ by' l 0 ∧ by' l 0 < 240
      · have e : leadN (by' l 0) = 3 := by unfold leadN; rw [if_neg a1, if_neg a2, if_pos a3]
        rw [e] at hl ⊢
        exact first3 l hl a3
      · by_cases a4 : 240 ≤ by' l 0 ∧ by' l 0 < 248
        · have e : leadN (by' l 0) = 4 := by unfold leadN; rw [if_neg a1, if_neg a2, if_neg a3, if_pos a4]
          rw [e] at hl ⊢
          exact first4 l hl a4
        · exact absurd (by unfold leadN; rw [if_neg a1, if_neg a2, if_neg a3, if_neg a4]) hn

/-! Bytes as numbers. -/
theorem ofNums_inj : ∀ (xs : List Int) (l : List UInt8), (∀ x ∈ xs, 0 ≤ x ∧ x < 256) → (xs.map (fun n => UInt8.ofNat n.toNat) = l ↔ xs = bytesI l)
  | [], [], _ => by simp [bytesI]
  | [], _ :: _, _ => by simp [bytesI]
  | _ :: _, [], _ => by simp [bytesI]
  | x :: xs, c :: l, h => by
    have hx := h x (by simp)
    have ih := ofNums_inj xs l (fun y hy => h y (by simp [hy]))
    unfold bytesI at ih ⊢
    simp only [List.map_cons, List.cons.injEq]
    rw [ih]
    refine and_congr_left fun _ => ?_
    constructor
    · intro e
      have e2 := congrArg UInt8.toNat e
      simp at e2
      omega
    · intro e
      subst e
      simp
/-- the test of a number's bytes against the text's head -/
theorem str_test (s : ByteArray) (k : Nat) (p : Int) : ((strOfNums (encodeRuneZ p)).toList == (s.extract 0 k).toList) = decide (encodeRuneZ p = bytesI (s.data.toList.take k)) := by
  rw [ByteArray.toList_eq, ByteArray.toList_eq, strOfNums_data, Lib.extract_data, List.drop_zero, Nat.sub_zero]
  rw [Bool.eq_iff_iff, beq_iff_eq, decide_eq_true_iff]
  exact ofNums_inj _ _ (encodeRuneZ_byte p)
theorem first_test (s : ByteArray) (k : Nat) (p : Int) (hp : foldP s.data.toList k = p) (h : FirstIs s.data.toList k) (hq : pointB p = true) :
    ((strOfNums (encodeRuneZ p)).toList == (s.extract 0 k).toList) = !badB s.data.toList := by
  rw [str_test]
  have h1 := h.1
  unfold FirstOk at h1
  rw [hp] at h1
  rw [Bool.eq_iff_iff, decide_eq_true_iff]
  simp only [hq, true_and] at h1
  rw [h1]
  simp
theorem first_not (l : List UInt8) (k : Nat) (p : Int) (hp : foldP l k = p) (h : FirstIs l k) (hq : pointB p = false) : badB l = true := by
  have h1 := h.1
  unfold FirstOk at h1
  rw [hp, hq] at h1
  simp at h1
  exact h1
end Go.Proofs.YtmmicoiiklcakaaDoor

/- Plain words on texts in their order, and what a heap of them says. -/
namespace Go.Proofs.YtmmicoiiklcakaaDoor
set_option linter.unusedVariables false

/-- a is not behind b -/
def leT (a b : ByteArray) : Prop := Op.bytesLess b.toList a.toList = false
theorem leT_iff {a b : ByteArray} : leT a b ↔ a.data.toList ≤ b.data.toList := by
  unfold leT
  rw [bytesLess_eq, Lib.toList_data, Lib.toList_data, decide_eq_false_iff_not]
  exact List.not_lt
theorem leT_refl (a : ByteArray) : leT a a := leT_iff.2 (List.le_refl _)
theorem leT_trans {a b c : ByteArray} (h : leT a b) (k : leT b c) : leT a c := leT_iff.2 (List.le_trans (leT_iff.1 h) (leT_iff.1 k))
theorem leT_total (a b : ByteArray) : leT a b ∨ leT b a := (List.le_total a.data.toList b.data.toList).imp leT_iff.2 leT_iff.2
theorem leT_antisymm {a b : ByteArray} (h : leT a b) (k : leT b a) : a = b := by
  have := List.le_antisymm (leT_iff.1 h) (leT_iff.1 k)
  cases a; cases b
  simp only [ByteArray.mk.injEq] at this ⊢
  exact Array.toList_inj.1 this
theorem leT_of_less {a b : ByteArray} (h : Op.bytesLess a.toList b.toList = true) : leT a b := by
  rcases leT_total a b with k | k
  · exact k
  · unfold leT at k
    rw [h] at k
    cases k

/-- ts are xs in their order -/
def Sorts (xs ts : List ByteArray) : Prop := ts.Perm xs ∧ ts.Pairwise leT
theorem sorted_unique : ∀ {l m : List ByteArray}, l.Perm m → l.Pairwise leT → m.Pairwise leT → l = m
  | [], m, h, _, _ => (List.Perm.eq_nil (h.symm)).symm
  | a :: l, [], h, _, _ => by simpa using h.length_eq
  | a :: l, b :: m, h, h1, h2 => by
    rw [List.pairwise_cons] at h1 h2
    have e : a = b := by
      have ha : a ∈ b :: m := h.subset (List.mem_cons_self)
      have hb : b ∈ a :: l := h.symm.subset (List.mem_cons_self)
      rcases List.mem_cons.1 ha with e | ha
      · exact e
      rcases List.mem_cons.1 hb with e | hb
      · exact e.symm
      exact leT_antisymm (h1.1 b hb) (h2.1 a ha)
    subst e
    rw [sorted_unique (List.Perm.cons_inv h) h1.2 h2.2]
theorem Sorts.unique {xs ys ts us : List ByteArray} (h : Sorts xs ts) (k : Sorts ys us) (e : xs.Perm ys) : ts = us :=
  sorted_unique (h.1.trans (e.trans k.1.symm)) h.2 k.2

def insT (x : ByteArray) : List ByteArray → List ByteArray
  | [] => [x]
  | y :: l => if Op.bytesLess x.toList y.toList = true then x :: y :: l else y :: insT x l
theorem insT_perm (x : ByteArray) : ∀ l, (insT x l).Perm (x :: l)
  | [] => List.Perm.refl _
  | y :: l => by
    unfold insT
    split
    · exact List.Perm.refl _
    · exact ((insT_perm x l).cons y).trans (List.Perm.swap x y l)
theorem insT_pairwise (x : ByteArray) : ∀ {l : List ByteArray}, l.Pairwise leT → (insT x l).Pairwise leT
  | [], _ => List.pairwise_singleton _ _
  | y :: l, h => by
    unfold insT
    have h' := List.pairwise_cons.1 h
    split
    · rename_i hxy
      refine List.pairwise_cons.2 ⟨fun z hz => ?_, h⟩
      rcases List.mem_cons.1 hz with rfl | hz
      · exact leT_of_less hxy
      · exact leT_trans (leT_of_less hxy) (h'.1 z hz)
    · rename_i hxy
      refine List.pairwise_cons.2 ⟨fun z hz => ?_, insT_pairwise x h'.2⟩
      rcases List.mem_cons.1 ((insT_perm x l).subset hz) with rfl | hz
      · unfold leT
        simpa using hxy
      · exact h'.1 z hz
/-- the texts in their order -/
def sortT : List ByteArray → List ByteArray
  | [] => []
  | x :: l => insT x (sortT l)
theorem sortT_perm : ∀ l, (sortT l).Perm l
  | [] => List.Perm.refl _
  | x :: l => (insT_perm x _).trans ((sortT_perm l).cons x)
theorem sortT_pairwise : ∀ l, (sortT l).Pairwise leT
  | [] => List.Pairwise.nil
  | x :: l => insT_pairwise x (sortT_pairwise l)
theorem sortT_is {xs ts : List ByteArray} (h : Sorts xs ts) : ts = sortT xs := h.unique ⟨sortT_perm xs, sortT_pairwise xs⟩ (List.Perm.refl _)
theorem sortT_eq {xs ys : List ByteArray} (h : xs.Perm ys) : sortT xs = sortT ys := Sorts.unique ⟨sortT_perm xs, sortT_pairwise xs⟩ ⟨sortT_perm ys, sortT_pairwise ys⟩ h

/-! Heaps: places of a row of texts, told by a function. -/
abbrev ix (l : List ByteArray) (i : Nat) : ByteArray := l.getD i ByteArray.empty
/-- none is behind one below it, but perhaps that at a place, which may be ahead of the one above it -/
def UpAt (l : List ByteArray) (p : Nat) : Prop :=
  (∀ i, 0 < i → i < l.length → i ≠ p → leT (ix l ((i - 1) / 2)) (ix l i)) ∧
  (∀ i, 0 < i → i < l.length → (i - 1) / 2 = p → 0 < p → leT (ix l ((p - 1) / 2)) (ix l i))
/-- none is behind one below it, but perhaps that at a place behind those below it -/
def DownAt (l : List ByteArray) (p : Nat) : Prop :=
  (∀ i, 0 < i → i < l.length → (i - 1) / 2 ≠ p → leT (ix l ((i - 1) / 2)) (ix l i)) ∧
  (∀ i, 0 < i → i < l.length → (i - 1) / 2 = p → 0 < p → leT (ix l ((p - 1) / 2)) (ix l i))
def IsHeap (l : List ByteArray) : Prop := ∀ i, 0 < i → i < l.length → leT (ix l ((i - 1) / 2)) (ix l i)
/-- two places changed for one another -/
def sw (l : List ByteArray) (a b : Nat) : List ByteArray := (l.set a (ix l b)).set b (ix l a)
theorem sw_length (l : List ByteArray) (a b : Nat) : (sw l a b).length = l.length := by simp [sw]
theorem ix_set (l : List ByteArray) (a : Nat) (v : ByteArray) (i : Nat) (ha : a < l.length) : ix (l.set a v) i = if i = a then v else ix l i := by
  unfold ix
  rw [List.getD_eq_getElem?_getD, List.getD_eq_getElem?_getD, List.getElem?_set]
  by_cases h : i = a
  · subst h
    simp [ha]
  · rw [if_neg (fun e => h e.symm), if_neg h]
theorem sw_ix (l : List ByteArray) (a b i : Nat) (ha : a < l.length) (hb : b < l.length) : ix (sw l a b) i = if i = b then ix l a else if i = a then ix l b else ix l i := by
  unfold sw
  rw [ix_set _ _ _ _ (by simpa using hb), ix_set _ _ _ _ ha]
theorem sw_perm (l : List ByteArray) (a b : Nat) (ha : a < l.length) (hb : b < l.length) : (sw l a b).Perm l := by
  unfold sw ix
  rw [List.getD_eq_getElem?_getD, List.getD_eq_getElem?_getD, List.getElem?_eq_getElem ha, List.getElem?_eq_getElem hb]
  simp only [Option.getD_some]
  exact List.set_set_perm ha hb
theorem up_swap {l : List ByteArray} {p : Nat} (hp : 0 < p) (hl : p < l.length) (h : UpAt l p) (hless : leT (ix l p) (ix l ((p - 1) / 2))) : UpAt (sw l p ((p - 1) / 2)) ((p - 1) / 2) := by
  obtain ⟨h1, h2⟩ := h
  have hq : (p - 1) / 2 < p := by omega
  generalize hqq : (p - 1) / 2 = q at *
  refine ⟨fun i hi hil hne => ?_, fun i hi hil hpi hq0 => ?_⟩
  · rw [sw_length] at hil
    rw [sw_ix _ _ _ _ hl (by omega), sw_ix _ _ _ _ hl (by omega), if_neg hne]
    by_cases e : i = p
    · subst e
      rw [hqq, if_pos rfl, if_pos rfl]
      exact hless
    · rw [if_neg e]
      by_cases e1 : (i - 1) / 2 = q
      · rw [if_pos e1]
        have := h1 i hi hil e
        rw [e1] at this
        exact leT_trans hless this
      · rw [if_neg e1]
        by_cases e2 : (i - 1) / 2 = p
        · rw [if_pos e2]
          exact h2 i hi hil e2 hp
        · rw [if_neg e2]
          exact h1 i hi hil e
  · rw [sw_length] at hil
    have hqs : (q - 1) / 2 < q := by omega
    rw [sw_ix _ _ _ _ hl (by omega), sw_ix _ _ _ _ hl (by omega), if_neg (by omega), if_neg (by omega), if_neg (by omega)]
    have hqq2 := h1 q hq0 (by omega) (by omega)
    by_cases e : i = p
    · rw [if_pos e]
      exact hqq2
    · rw [if_neg e]
      have := h1 i hi hil e
      rw [hpi] at this
      exact leT_trans hqq2 this
theorem up_done {l : List ByteArray} {p : Nat} (h : UpAt l p) (h0 : p = 0 ∨ leT (ix l ((p - 1) / 2)) (ix l p)) : IsHeap l := by
  intro i hi hil
  by_cases e : i = p
  · subst e
    rcases h0 with h0 | h0
    · omega
    · exact h0
  · exact h.1 i hi hil e
theorem up_snoc {l : List ByteArray} (h : IsHeap l) (x : ByteArray) : UpAt (l ++ [x]) l.length := by
  refine ⟨fun i hi hil hne => ?_, fun i hi hil hp h0 => ?_⟩
  · rw [List.length_append] at hil
    simp only [List.length_cons, List.length_nil] at hil
    have e : ∀ j, j < l.length → ix (l ++ [x]) j = ix l j := fun j hj => by
      unfold ix
      rw [List.getD_eq_getElem?_getD, List.getD_eq_getElem?_getD, List.getElem?_append_left hj]
    rw [e _ (by omega), e _ (by omega)]
    exact h i hi (by omega)
  · rw [List.length_append] at hil
    simp only [List.length_cons, List.length_nil] at hil
    omega
theorem down_swap {l : List ByteArray} {p m : Nat} (hl : p < l.length) (hm : m < l.length) (h : DownAt l p) (hpm : m = 2 * p + 1 ∨ m = 2 * p + 2)
    (hle : ∀ j, (j = p ∨ j = 2 * p + 1 ∨ j = 2 * p + 2) → j < l.length → leT (ix l m) (ix l j)) : DownAt (sw l p m) m := by
  obtain ⟨h1, h2⟩ := h
  have hpar : (m - 1) / 2 = p := by omega
  refine ⟨fun i hi hil hne => ?_, fun i hi hil hpi h0 => ?_⟩
  · rw [sw_length] at hil
    rw [sw_ix _ _ _ _ hl hm, sw_ix _ _ _ _ hl hm, if_neg hne]
    by_cases e1 : (i - 1) / 2 = p
    · rw [if_pos e1]
      by_cases e : i = m
      · rw [if_pos e]
        exact hle p (.inl rfl) hl
      · rw [if_neg e, if_neg (by omega)]
        exact hle i (by omega) hil
    · rw [if_neg e1, if_neg (by rintro rfl; exact e1 hpar)]
      by_cases e : i = p
      · subst e
        rw [if_pos rfl]
        exact h2 m (by omega) hm hpar (by omega)
      · rw [if_neg e]
        exact h1 i hi hil e1
  · rw [sw_length] at hil
    have hq : (m - 1) / 2 = p := hpar
    rw [hq, sw_ix _ _ _ _ hl hm, sw_ix _ _ _ _ hl hm, if_neg (by omega), if_pos rfl, if_neg (by omega), if_neg (by omega)]
    have := h1 i hi hil (by omega)
    rw [hpi] at this
    exact this
theorem down_done {l : List ByteArray} {p : Nat} (h : DownAt l p) (hle : ∀ j, (j = 2 * p + 1 ∨ j = 2 * p + 2) → j < l.length → leT (ix l p) (ix l j)) : IsHeap l := by
  intro i hi hil
  by_cases e : (i - 1) / 2 = p
  · rw [e]
    exact hle i (by omega) hil
  · exact h.1 i hi hil e
theorem heap_least {l : List ByteArray} (h : IsHeap l) : ∀ i, i < l.length → leT (ix l 0) (ix l i) := by
  intro i
  induction i using Nat.strongRecOn with
  | ind i ih =>
    intro hi
    by_cases h0 : i = 0
    · subst h0; exact leT_refl _
    · exact leT_trans (ih ((i - 1) / 2) (by omega) (by omega)) (h i (by omega) hi)
/-- the last one laid at the front, and taken off the end -/
def tk (l : List ByteArray) : List ByteArray := (l.set 0 (ix l (l.length - 1))).take (l.length - 1)
theorem tk_length (l : List ByteArray) : (tk l).length = l.length - 1 := by simp [tk]
theorem tk_ix (l : List ByteArray) (i : Nat) (hi : i < l.length - 1) : ix (tk l) i = if i = 0 then ix l (l.length - 1) else ix l i := by
  rw [← ix_set l 0 _ i (by omega)]
  unfold tk ix
  rw [List.getD_eq_getElem?_getD, List.getElem?_take, if_pos hi, ← List.getD_eq_getElem?_getD]
theorem tk_down {l : List ByteArray} (h : IsHeap l) : DownAt (tk l) 0 := by
  refine ⟨fun i hi hil hne => ?_, fun i hi hil hp h0 => by omega⟩
  rw [tk_length] at hil
  rw [tk_ix _ _ (by omega), tk_ix _ _ (by omega), if_neg hne, if_neg (by omega)]
  exact h i hi (by omega)
theorem tk_perm {l : List ByteArray} (h : 0 < l.length) : l.Perm (ix l 0 :: tk l) := by
  rcases List.eq_nil_or_concat l with rfl | ⟨m, x, rfl⟩
  · simp at h
  · rw [List.concat_eq_append] at *
    cases m with
    | nil => simp [tk, ix]
    | cons y m =>
      have e1 : ix ((y :: m) ++ [x]) 0 = y := rfl
      have e2 : tk ((y :: m) ++ [x]) = x :: m := by
        have e3 : ix ((y :: m) ++ [x]) (((y :: m) ++ [x]).length - 1) = x := by simp [ix, List.getD_eq_getElem?_getD]
        unfold tk
        rw [e3]
        simp
      rw [e1, e2]
      exact (List.perm_append_comm (l₁ := y :: m) (l₂ := [x])).trans (List.Perm.swap y x m)
theorem heap_min {l : List ByteArray} (h : IsHeap l) (y : ByteArray) (hy : y ∈ l) : leT (ix l 0) y := by
  obtain ⟨i, hi, rfl⟩ := List.getElem_of_mem hy
  have := heap_least h i hi
  have e : ix l i = l[i] := by
    unfold ix
    rw [List.getD_eq_getElem?_getD, List.getElem?_eq_getElem hi]
    rfl
  rwa [e] at this

/-- each text with the mark behind it -/
def linesT (ts : List ByteArray) : List UInt8 := ts.flatMap fun t => t.data.toList ++ [60]
theorem linesT_snoc (ts : List ByteArray) (t : ByteArray) : linesT (ts ++ [t]) = linesT ts ++ (t.data.toList ++ [60]) := by simp [linesT]
end Go.Proofs.YtmmicoiiklcakaaDoor
