/- Plain words on points in bytes: no run in this text. -/
import Derived.Test.YtcaknhoaoodbfaaGreatDoorGC3
import Derived.Lib.MapLaws
import Derived.Laws.BytesArg
import Derived.Lib.Strings
import Derived.Lib.IndexBytes
import Derived.Laws.Strings
namespace Go.Proofs.YtcaknhoaoodbfaaGreatDoor
open Go.Lib
set_option linter.unusedVariables false

/-- the bytes begin with no point -/
def badB (l : List UInt8) : Bool := decide ((decodeL l).1 = 65533 ∧ (decodeL l).2 = 1)
/-- the points of the bytes, each with true; what is none: false, and the end -/
def strmF : Nat → List UInt8 → List (Int × Bool)
  | 0, _ => []
  | f + 1, l => if l = [] then [] else if badB l then [(0, false)] else (((decodeL l).1 : Int), true) :: strmF f (l.drop (decodeL l).2)
def strm (l : List UInt8) : List (Int × Bool) := strmF l.length l
theorem strmF_nil : ∀ f, strmF f [] = []
  | 0 => rfl
  | _ + 1 => by simp [strmF]
theorem drop_lt (l : List UInt8) (h : l ≠ []) : (l.drop (decodeL l).2).length < l.length := by
  have h1 := decodeL_width l
  have h2 : 0 < l.length := List.length_pos_iff.2 h
  rw [List.length_drop]
  omega
theorem strmF_fuel : ∀ (n m : Nat) (l : List UInt8), l.length ≤ n → l.length ≤ m → strmF n l = strmF m l
  | 0, m, l, hn, _ => by
    have : l = [] := List.eq_nil_of_length_eq_zero (by omega)
    subst this
    rw [strmF_nil, strmF_nil]
  | n + 1, 0, l, _, hm => by
    have : l = [] := List.eq_nil_of_length_eq_zero (by omega)
    subst this
    rw [strmF_nil, strmF_nil]
  | n + 1, m + 1, l, hn, hm => by
    by_cases h : l = []
    · subst h
      rw [strmF_nil, strmF_nil]
    · have := drop_lt l h
      simp only [strmF, if_neg h]
      rw [strmF_fuel n m _ (by omega) (by omega)]
theorem strm_nil : strm [] = [] := rfl
theorem strm_bad (l : List UInt8) (h : l ≠ []) (hb : badB l = true) : strm l = [(0, false)] := by
  unfold strm
  obtain ⟨k, hk⟩ : ∃ k, l.length = k + 1 := ⟨l.length - 1, by have : 0 < l.length := List.length_pos_iff.2 h; omega⟩
  rw [hk]
  simp [strmF, h, hb]
theorem strm_step (l : List UInt8) (h : l ≠ []) (hb : badB l = false) : strm l = (((decodeL l).1 : Int), true) :: strm (l.drop (decodeL l).2) := by
  have hd := drop_lt l h
  unfold strm
  obtain ⟨k, hk⟩ : ∃ k, l.length = k + 1 := ⟨l.length - 1, by have : 0 < l.length := List.length_pos_iff.2 h; omega⟩
  rw [hk]
  simp only [strmF, if_neg h, hb]
  rw [strmF_fuel k _ _ (by omega) (Nat.le_refl _)]
  rfl
theorem strm_length_le : ∀ (n : Nat) (l : List UInt8), l.length ≤ n → (strm l).length ≤ l.length
  | 0, l, h => by
    have : l = [] := List.eq_nil_of_length_eq_zero (by omega)
    subst this
    simp [strm_nil]
  | n + 1, l, h => by
    by_cases h0 : l = []
    · subst h0; simp [strm_nil]
    · have hp : 0 < l.length := List.length_pos_iff.2 h0
      cases hb : badB l
      · rw [strm_step l h0 hb, List.length_cons]
        have hd := drop_lt l h0
        have := strm_length_le n (l.drop (decodeL l).2) (by omega)
        omega
      · rw [strm_bad l h0 hb]
        simp
        omega
theorem strm_len (l : List UInt8) : (strm l).length ≤ l.length := strm_length_le _ l (Nat.le_refl _)

/-- the points, or none -/
def pts (l : List UInt8) : Option (List Int) := if (strm l).all (·.2) then some ((strm l).map (·.1)) else none
/-- all are characters -/
def goodB (x : Int × Bool) : Bool := x.2 && charB x.1
def charsB (l : List UInt8) : Bool := (strm l).all goodB
/-- the text's fault -/
def textFault (l : List UInt8) : Int := if 60 < l.length then 2 else if charsB l then 0 else 5
/-- PointsOf: its code and its list -/
def ptsCode (l : List UInt8) : Int := if 4000 < l.length then 2 else if (pts l).isSome then 0 else 5
def ptsList (l : List UInt8) : List Int := if 4000 < l.length then [] else (pts l).getD []

/-! What the bytes' first one tells, and what the rest of them must be. -/
def by' (l : List UInt8) (i : Nat) : Int := ((l.getD i 0).toNat : Int)
def leadN (b : Int) : Nat := if b < 128 then 1 else if 192 ≤ b ∧ b < 224 then 2 else if 224 ≤ b ∧ b < 240 then 3 else if 240 ≤ b ∧ b < 248 then 4 else 0
def leadP (b : Int) : Int := if b < 128 then b else if 192 ≤ b ∧ b < 224 then b - 192 else if 224 ≤ b ∧ b < 240 then b - 224 else if 240 ≤ b ∧ b < 248 then b - 240 else 0
/-- the number that k bytes tell -/
def foldP (l : List UInt8) : Nat → Int
  | 0 => leadP (by' l 0)
  | 1 => leadP (by' l 0)
  | k + 2 => foldP l (k + 1) * 64 + by' l (k + 1) % 64
def bytesI (l : List UInt8) : List Int := l.map fun c => (c.toNat : Int)

theorem bad_lead (l : List UInt8) (h : l ≠ []) (hl : leadN (by' l 0) = 0 ∨ l.length < leadN (by' l 0)) : badB l = true := by
  have hp : 0 < l.length := List.length_pos_iff.2 h
  have k0 := (l.getD 0 0).toNat_lt
  unfold badB
  rw [decodeL_N]
  unfold leadN by' at hl
  rcases decodeN_shape l.length (l.getD 0 0).toNat (l.getD 1 0).toNat (l.getD 2 0).toNat (l.getD 3 0).toNat with ⟨c, e⟩ | ⟨c1, c2, c3, cv, e⟩ | ⟨c1, c2, c3, c4, cv, cs, e⟩ | ⟨c1, c2, c3, c4, c5, cv, cw, e⟩ | e
  · exfalso
    rw [if_pos (by omega)] at hl
    omega
  · exfalso
    rw [if_neg (by omega), if_pos (by omega)] at hl
    omega
  · exfalso
    rw [if_neg (by omega), if_neg (by omega), if_pos (by omega)] at hl
    omega
  · exfalso
    rw [if_neg (by omega), if_neg (by omega), if_neg (by omega), if_pos (by omega)] at hl
    omega
  · rw [e]
    simp

theorem dec1 (n b0 b1 b2 b3 : Nat) (h : b0 < 128) : decodeN n b0 b1 b2 b3 = (b0, 1) := by simp [decodeN, h]
theorem dec2 (n b0 b1 b2 b3 : Nat) (h : 192 ≤ b0 ∧ b0 < 224) (hn : 1 < n) (h1 : b1 < 256) :
    decodeN n b0 b1 b2 b3 = if b1 / 64 = 2 ∧ 128 ≤ b0 % 32 * 64 + b1 % 64 then (b0 % 32 * 64 + b1 % 64, 2) else (65533, 1) := by
  unfold decodeN
  repeat' split
  all_goals first | rfl | (exfalso; omega)
set_option maxRecDepth 100000 in
set_option maxHeartbeats 1000000 in
theorem dec3 (n b0 b1 b2 b3 : Nat) (h : 224 ≤ b0 ∧ b0 < 240) (hn : 2 < n) (h1 : b1 < 256) (h2 : b2 < 256) :
    decodeN n b0 b1 b2 b3 = if b1 / 64 = 2 ∧ b2 / 64 = 2 ∧ 2048 ≤ b0 % 16 * 4096 + b1 % 64 * 64 + b2 % 64 ∧ ¬ (55296 ≤ b0 % 16 * 4096 + b1 % 64 * 64 + b2 % 64 ∧ b0 % 16 * 4096 + b1 % 64 * 64 + b2 % 64 ≤ 57343) then (b0 % 16 * 4096 + b1 % 64 * 64 + b2 % 64, 3) else (65533, 1) := by
  unfold decodeN
  repeat' split
  all_goals first | rfl | (exfalso; omega)
set_option maxRecDepth 100000 in
set_option maxHeartbeats 1000000 in
theorem dec4 (n b0 b1 b2 b3 : Nat) (h : 240 ≤ b0 ∧ b0 < 248) (hn : 3 < n) (h1 : b1 < 256) (h2 : b2 < 256) (h3 : b3 < 256) :
    decodeN n b0 b1 b2 b3 = if b1 / 64 = 2 ∧ b2 / 64 = 2 ∧ b3 / 64 = 2 ∧ 65536 ≤ b0 % 8 * 262144 + b1 % 64 * 4096 + b2 % 64 * 64 + b3 % 64 ∧ b0 % 8 * 262144 + b1 % 64 * 4096 + b2 % 64 * 64 + b3 % 64 ≤ 1114111 then (b0 % 8 * 262144 + b1 % 64 * 4096 + b2 % 64 * 64 + b3 % 64, 4) else (65533, 1) := by
  unfold decodeN
  repeat' split
  all_goals first | rfl | (exfalso; omega)

theorem pointB_iff (p : Int) : pointB p = true ↔ (0 ≤ p ∧ p ≤ 1114111) ∧ ¬ (55296 ≤ p ∧ p ≤ 57343) := by
  simp [pointB, inB]
  omega
theorem enc_cases (p : Int) (h : pointB p = true) :
    (p < 128 ∧ encodeRuneZ p = [p]) ∨ (128 ≤ p ∧ p < 2048 ∧ encodeRuneZ p = [192 + p / 64, 128 + p % 64]) ∨
    (2048 ≤ p ∧ p < 65536 ∧ encodeRuneZ p = [224 + p / 4096, 128 + p / 64 % 64, 128 + p % 64]) ∨ (65536 ≤ p ∧ encodeRuneZ p = [240 + p / 262144, 128 + p / 4096 % 64, 128 + p / 64 % 64, 128 + p % 64]) := by
  have := (pointB_iff p).1 h
  by_cases c1 : p < 128
  · exact .inl ⟨c1, encodeRuneZ_one (by omega) (by omega)⟩
  · by_cases c2 : p < 2048
    · exact .inr (.inl ⟨by omega, c2, encodeRuneZ_two (by omega) (by omega)⟩)
    · by_cases c3 : p < 65536
      · exact .inr (.inr (.inl ⟨by omega, c3, encodeRuneZ_three (by omega)⟩))
      · exact .inr (.inr (.inr ⟨by omega, encodeRuneZ_four (by omega) (by omega)⟩))

/-- the test that the model makes, as a proposition -/
def FirstOk (l : List UInt8) (n : Nat) : Prop := pointB (foldP l n) = true ∧ encodeRuneZ (foldP l n) = bytesI (l.take n)

theorem leadP_1 {b : Int} (h : b < 128) : leadP b = b := by simp [leadP, h]
theorem leadP_2 {b : Int} (h : 192 ≤ b ∧ b < 224) : leadP b = b - 192 := by
  unfold leadP
  rw [if_neg (by omega), if_pos h]
theorem leadP_3 {b : Int} (h : 224 ≤ b ∧ b < 240) : leadP b = b - 224 := by
  unfold leadP
  rw [if_neg (by omega), if_neg (by omega), if_pos h]
theorem leadP_4 {b : Int} (h : 240 ≤ b ∧ b < 248) : leadP b = b - 240 := by
  unfold leadP
  rw [if_neg (by omega), if_neg (by omega), if_neg (by omega), if_pos h]
theorem foldP_1 (l : List UInt8) : foldP l 1 = leadP (by' l 0) := rfl
theorem foldP_2 (l : List UInt8) : foldP l 2 = leadP (by' l 0) * 64 + by' l 1 % 64 := rfl
theorem foldP_3 (l : List UInt8) : foldP l 3 = (leadP (by' l 0) * 64 + by' l 1 % 64) * 64 + by' l 2 % 64 := rfl
theorem foldP_4 (l : List UInt8) : foldP l 4 = ((leadP (by' l 0) * 64 + by' l 1 % 64) * 64 + by' l 2 % 64) * 64 + by' l 3 % 64 := rfl

/-! The four lengths, over plain numbers. -/
theorem num1 (b0 : Nat) (h : b0 < 128) : pointB (b0 : Int) = true ∧ encodeRuneZ (b0 : Int) = [(b0 : Int)] :=
  ⟨(pointB_iff _).2 (by omega), encodeRuneZ_one (by omega) (by omega)⟩
theorem num2 (b0 b1 p : Nat) (h : 192 ≤ b0 ∧ b0 < 224) (h1 : b1 < 256) (hp : p = b0 % 32 * 64 + b1 % 64) :
    (pointB (p : Int) = true ∧ encodeRuneZ (p : Int) = [(b0 : Int), (b1 : Int)]) ↔ (b1 / 64 = 2 ∧ 128 ≤ p) := by
  constructor
  · rintro ⟨a, e⟩
    rcases enc_cases _ a with ⟨c, e'⟩ | ⟨c, d, e'⟩ | ⟨c, d, e'⟩ | ⟨c, e'⟩ <;> rw [e'] at e <;> simp at e <;> omega
  · rintro ⟨a, b⟩
    refine ⟨(pointB_iff _).2 (by omega), ?_⟩
    rw [encodeRuneZ_two (by omega) (by omega)]
    simp
    omega
theorem num3 (b0 b1 b2 p : Nat) (h : 224 ≤ b0 ∧ b0 < 240) (h1 : b1 < 256) (h2 : b2 < 256) (hp : p = b0 % 16 * 4096 + b1 % 64 * 64 + b2 % 64) :
    (pointB (p : Int) = true ∧ encodeRuneZ (p : Int) = [(b0 : Int), (b1 : Int), (b2 : Int)]) ↔ (b1 / 64 = 2 ∧ b2 / 64 = 2 ∧ 2048 ≤ p ∧ ¬ (55296 ≤ p ∧ p ≤ 57343)) := by
  constructor
  · rintro ⟨a, e⟩
    have a' := (pointB_iff _).1 a
    rcases enc_cases _ a with ⟨c, e'⟩ | ⟨c, d, e'⟩ | ⟨c, d, e'⟩ | ⟨c, e'⟩ <;> rw [e'] at e <;> simp at e <;> omega
  · rintro ⟨a, b, c, d⟩
    refine ⟨(pointB_iff _).2 (by omega), ?_⟩
    rw [encodeRuneZ_three (by omega)]
    simp
    omega
theorem num4 (b0 b1 b2 b3 p : Nat) (h : 240 ≤ b0 ∧ b0 < 248) (h1 : b1 < 256) (h2 : b2 < 256) (h3 : b3 < 256) (hp : p = b0 % 8 * 262144 + b1 % 64 * 4096 + b2 % 64 * 64 + b3 % 64) :
    (pointB (p : Int) = true ∧ encodeRuneZ (p : Int) = [(b0 : Int), (b1 : Int), (b2 : Int), (b3 : Int)]) ↔ (b1 / 64 = 2 ∧ b2 / 64 = 2 ∧ b3 / 64 = 2 ∧ 65536 ≤ p ∧ p ≤ 1114111) := by
  constructor
  · rintro ⟨a, e⟩
    have a' := (pointB_iff _).1 a
    rcases enc_cases _ a with ⟨c, e'⟩ | ⟨c, d, e'⟩ | ⟨c, d, e'⟩ | ⟨c, e'⟩ <;> rw [e'] at e <;> simp at e <;> omega
  · rintro ⟨a, b, c, d, e⟩
    refine ⟨(pointB_iff _).2 (by omega), ?_⟩
    rw [encodeRuneZ_four (by omega) (by omega)]
    simp
    omega

def FirstIs (l : List UInt8) (n : Nat) : Prop := (FirstOk l n ↔ badB l = false) ∧ (badB l = false → ((decodeL l).1 : Int) = foldP l n ∧ (decodeL l).2 = n)
theorem bad_of (l : List UInt8) {c : Prop} [Decidable c] {p n : Nat} (hd : decodeL l = if c then (p, n) else (65533, 1)) (hn : c → ¬ (p = 65533 ∧ n = 1)) : badB l = false ↔ c := by
  unfold badB
  rw [hd]
  by_cases hc : c
  · rw [if_pos hc]
    have := hn hc
    simp only [decide_eq_false_iff_not]
    exact ⟨fun _ => hc, fun _ => this⟩
  · rw [if_neg hc]
    simp [hc]
theorem first_of (l : List UInt8) {c : Prop} [Decidable c] {p n : Nat} (hd : decodeL l = if c then (p, n) else (65533, 1)) (hn : c → ¬ (p = 65533 ∧ n = 1)) (hf : foldP l n = (p : Int))
    (ho : (pointB (p : Int) = true ∧ encodeRuneZ (p : Int) = bytesI (l.take n)) ↔ c) : FirstIs l n := by
  have hb := bad_of l hd hn
  refine ⟨?_, fun h => ?_⟩
  · unfold FirstOk
    rw [hf, ho, hb]
  · rw [hd, if_pos (hb.1 h), hf]
    exact ⟨rfl, rfl⟩

theorem first1 (l : List UInt8) (h : l ≠ []) (hb : by' l 0 < 128) : FirstIs l 1 := by
  have hp : 0 < l.length := List.length_pos_iff.2 h
  have hd := decodeL_N l
  have hb' : (l.getD 0 0).toNat < 128 := by unfold by' at hb; omega
  rw [dec1 _ _ _ _ _ hb'] at hd
  refine first_of (c := True) l (p := (l.getD 0 0).toNat) (by rw [hd, if_pos trivial]) (fun _ => by omega) (by rw [foldP_1, leadP_1 hb]; rfl) ?_
  rw [takeA l hp]
  exact ⟨fun _ => trivial, fun _ => num1 _ hb'⟩
theorem first2 (l : List UInt8) (hl : 2 ≤ l.length) (hb : 192 ≤ by' l 0 ∧ by' l 0 < 224) : FirstIs l 2 := by
  have k1 := (l.getD 1 0).toNat_lt
  have hd := decodeL_N l
  have hb' : 192 ≤ (l.getD 0 0).toNat ∧ (l.getD 0 0).toNat < 224 := by unfold by' at hb; omega
  rw [dec2 _ _ _ _ _ hb' (by omega) k1] at hd
  refine first_of l hd (fun _ => by omega) (by rw [foldP_2, leadP_2 hb]; unfold by'; omega) ?_
  rw [takeB l (by omega)]
  exact num2 _ _ _ hb' k1 rfl
theorem first3 (l : List UInt8) (hl : 3 ≤ l.length) (hb : 224 ≤ by' l 0 ∧ by' l 0 < 240) : FirstIs l 3 := by
  have k1 := (l.getD 1 0).toNat_lt
  have k2 := (l.getD 2 0).toNat_lt
  have hd := decodeL_N l
  have hb' : 224 ≤ (l.getD 0 0).toNat ∧ (l.getD 0 0).toNat < 240 := by unfold by' at hb; omega
  rw [dec3 _ _ _ _ _ hb' (by omega) k1 k2] at hd
  refine first_of l hd (fun _ => by omega) (by rw [foldP_3, leadP_3 hb]; unfold by'; omega) ?_
  rw [takeC l (by omega)]
  exact num3 _ _ _ _ hb' k1 k2 rfl
theorem first4 (l : List UInt8) (hl : 4 ≤ l.length) (hb : 240 ≤ by' l 0 ∧ by' l 0 < 248) : FirstIs l 4 := by
  have k1 := (l.getD 1 0).toNat_lt
  have k2 := (l.getD 2 0).toNat_lt
  have k3 := (l.getD 3 0).toNat_lt
  have hd := decodeL_N l
  have hb' : 240 ≤ (l.getD 0 0).toNat ∧ (l.getD 0 0).toNat < 248 := by unfold by' at hb; omega
  rw [dec4 _ _ _ _ _ hb' (by omega) k1 k2 k3] at hd
  refine first_of l hd (fun _ => by omega) (by rw [foldP_4, leadP_4 hb]; unfold by'; omega) ?_
  rw [takeD l (by omega)]
  exact num4 _ _ _ _ _ hb' k1 k2 k3 rfl

theorem first_is (l : List UInt8) (h : l ≠ []) (hn : leadN (by' l 0) ≠ 0) (hl : leadN (by' l 0) ≤ l.length) : FirstIs l (leadN (by' l 0)) := by
  by_cases a1 : by' l 0 < 128
  · have e : leadN (by' l 0) = 1 := by simp [leadN, a1]
    rw [e]
    exact first1 l h a1
  · by_cases a2 : 192 ≤ by' l 0 ∧ by' l 0 < 224
    · have e : leadN (by' l 0) = 2 := by unfold leadN; rw [if_neg a1, if_pos a2]
      rw [e] at hl ⊢
      exact first2 l hl a2
    · by_cases a3 : 224 ≤ by' l 0 ∧ by' l 0 < 240
      · have e : leadN (by' l 0) = 3 := by unfold leadN; rw [if_neg a1, if_neg a2, if_pos a3]
        rw [e] at hl ⊢
        exact first3 l hl a3
      · by_cases a4 : 240 ≤ by' l 0 ∧ by' l 0 < 248
        · have e : leadN (by' l 0) = 4 := by unfold leadN; rw [if_neg a1, if_neg a2, if_neg a3, if_pos a4]
          rw [e] at hl ⊢
          exact first4 l hl a4
        · exact absurd (by unfold leadN; rw [if_neg a1, if_neg a2, if_neg a3, if_neg a4]) hn

/-! Bytes as numbers. -/
theorem ofNums_inj : ∀ (xs : List Int) (l : List UInt8), (∀ x ∈ xs, 0 ≤ x ∧ x < 256) → (xs.map (fun n => UInt8.ofNat n.toNat) = l ↔ xs = bytesI l)
  | [], [], _ => by simp [bytesI]
  | [], _ :: _, _ => by simp [bytesI]
  | _ :: _, [], _ => by simp [bytesI]
  | x :: xs, c :: l, h => by
    have hx := h x (by simp)
    have ih := ofNums_inj xs l (fun y hy => h y (by simp [hy]))
    unfold bytesI at ih ⊢
    simp only [List.map_cons, List.cons.injEq]
    rw [ih]
    refine and_congr_left fun _ => ?_
    constructor
    · intro e
      have e2 := congrArg UInt8.toNat e
      simp at e2
      omega
    · intro e
      subst e
      simp
/-- the test of a number's bytes against the text's head -/
theorem str_test (s : ByteArray) (k : Nat) (p : Int) : ((strOfNums (encodeRuneZ p)).toList == (s.extract 0 k).toList) = decide (encodeRuneZ p = bytesI (s.data.toList.take k)) := by
  rw [ByteArray.toList_eq, ByteArray.toList_eq, strOfNums_data, Lib.extract_data, List.drop_zero, Nat.sub_zero]
  rw [Bool.eq_iff_iff, beq_iff_eq, decide_eq_true_iff]
  exact ofNums_inj _ _ (encodeRuneZ_byte p)
theorem first_test (s : ByteArray) (k : Nat) (p : Int) (hp : foldP s.data.toList k = p) (h : FirstIs s.data.toList k) (hq : pointB p = true) :
    ((strOfNums (encodeRuneZ p)).toList == (s.extract 0 k).toList) = !badB s.data.toList := by
  rw [str_test]
  have h1 := h.1
  unfold FirstOk at h1
  rw [hp] at h1
  rw [Bool.eq_iff_iff, decide_eq_true_iff]
  simp only [hq, true_and] at h1
  rw [h1]
  simp
theorem first_not (l : List UInt8) (k : Nat) (p : Int) (hp : foldP l k = p) (h : FirstIs l k) (hq : pointB p = false) : badB l = true := by
  have h1 := h.1
  unfold FirstOk at h1
  rw [hp, hq] at h1
  simp at h1
  exact h1
end Go.Proofs.YtcaknhoaoodbfaaGreatDoor
