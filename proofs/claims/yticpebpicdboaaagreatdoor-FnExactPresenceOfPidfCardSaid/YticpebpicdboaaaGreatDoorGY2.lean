/- Contracts of the characters' classes. -/
import Derived.Test.YticpebpicdboaaaGreatDoorGY1
import Derived.Lib.MapLaws
import Derived.Laws.BytesArg
import Derived.Lib.Strings
import Derived.Lib.IndexBytes
import Derived.Laws.Strings
import Derived.Test.YticpebpicdboaaaGreatDoorGY0
namespace Go.Proofs.YticpebpicdboaaaGreatDoor
open Go.ChangeShapes Go.WideShapes Go.ChangeAt Go.RowKit
set_option linter.unusedVariables false

def pointB (p : Int) : Bool := inB p 0 1114111 && !inB p 55296 57343
def charB (p : Int) : Bool := decide (p = 9) || decide (p = 10) || (decide (32 ≤ p) && pointB p && decide (p ≠ 127) && decide (p ≠ 65534) && decide (p ≠ 65535))

theorem l1Point_any (p : Int) (w : World) :
    Calls Tryz.prog 281 #[.int .i64 p] w fun e w' => e = .returned (.bool (pointB p)) ∧ w' = w := by
  cases h : inB p 0 1114111
  all_goals
    go_enter Tryz.func281, Tryz.ntmps281
    go_wp2_with (go_at_call 85; refine (l1In_any _ _ _ _).mono ?_; rintro e w' ⟨rfl, rfl⟩)
    go_ret
    exact ⟨ret_bool (by simp [pointB, h]), rfl⟩

theorem pointB_spans (p : Int) : (inB p 0 55295 || inB p 57344 1114111) = pointB p := by
  rw [Bool.eq_iff_iff]
  simp [pointB, inB]
  omega

theorem isPoint_any (p : Int) (w : World) :
    Calls Tryz.prog 241 #[.int .i64 p] w fun e w' => e = .returned (.bool (pointB p)) ∧ Below w.heap.size w w' := by
  go_enter Tryz.func241, Tryz.ntmps241
  go_wp2_with fail
  refine (isIn_any p [(0, 55295), (57344, 1114111)] _ _ _ rfl (by decide) (by simp) ?_).mono ?_
  · intro i hi
    match i, hi with
    | 0, _ => simp
    | 1, _ => simp
  rintro e w' ⟨rfl, hb⟩
  go_wp2
  go_ret
  exact ⟨ret_bool (pointB_spans p), ((Below.refl _ _).alloc (Nat.le_refl _) _).trans (hb.mono (by simp))⟩

theorem charB_spans (p : Int) (h : pointB p = true) : (inB p 9 10 || (inB p 32 126 || (inB p 128 65533 || inB p 65536 1114111))) = charB p := by
  rw [Bool.eq_iff_iff]
  simp [charB, h]
  simp [pointB, inB] at h ⊢
  omega

theorem charB_point (p : Int) (h : pointB p = false) : charB p = false := by
  simp [charB, h]
  simp [pointB, inB] at h
  constructor <;> (rintro rfl; simp at h)

theorem implIsChar_any (p : Int) (w : World) :
    Calls Tryz.prog 168 #[.int .i64 p] w fun e w' => e = .returned (.bool (charB p)) ∧ Below w.heap.size w w' := by
  cases h : pointB p
  · go_enter Tryz.func168, Tryz.ntmps168
    go_wp2_with fail
    refine (isPoint_any p _).mono ?_
    rintro e w1 ⟨rfl, hb⟩
    go_wp2
    go_ret
    exact ⟨ret_bool (charB_point p h).symm, hb⟩
  · go_enter Tryz.func168, Tryz.ntmps168
    go_wp2_with fail
    refine (isPoint_any p _).mono ?_
    rintro e w1 ⟨rfl, hb⟩
    go_wp2_with fail
    refine (isIn_any p [(9, 10), (32, 126), (128, 65533), (65536, 1114111)] _ _ _ rfl (by decide) (by simp) ?_).mono ?_
    · intro i hi
      match i, hi with
      | 0, _ => simp
      | 1, _ => simp
      | 2, _ => simp
      | 3, _ => simp
    rintro e w2 ⟨rfl, hb2⟩
    go_wp2
    go_ret
    exact ⟨ret_bool (charB_spans p h), (hb.alloc hb.size _).trans (hb2.mono (by have := hb.size; simp; omega))⟩

theorem specIsChar_any (p : Int) (w : World) :
    Calls Tryz.prog 224 #[.int .i64 p] w fun e w' => e = .returned (.bool (charB p)) ∧ w' = w := by
  cases hq : pointB p
  all_goals
    go_enter Tryz.func224, Tryz.ntmps224
    go_wp2_with (go_at_call 281; refine (l1Point_any _ _).mono ?_; rintro e w' ⟨rfl, rfl⟩)
    all_goals
      go_ret
      exact ⟨ret_bool (by rw [Bool.eq_iff_iff]; simp [charB, hq] <;> omega), rfl⟩
end Go.Proofs.YticpebpicdboaaaGreatDoor

/- Plain words on points in bytes: no run in this text. -/
namespace Go.Proofs.YticpebpicdboaaaGreatDoor
open Go.Lib
set_option linter.unusedVariables false

/-- the bytes begin with no point -/
def badB (l : List UInt8) : Bool := decide ((decodeL l).1 = 65533 ∧ (decodeL l).2 = 1)
/-- the points of the bytes, each with true; what is none: false, and the end -/
def strmF : Nat → List UInt8 → List (Int × Bool)
  | 0, _ => []
  | f + 1, l => if l = [] then [] else if badB l then [(0, false)] else (((decodeL l).1 : Int), true) :: strmF f (l.drop (decodeL l).2)
def strm (l : List UInt8) : List (Int × Bool) := strmF l.length l
theorem strmF_nil : ∀ f, strmF f [] = []
  | 0 => rfl
  | _ + 1 => by simp [strmF]
theorem drop_lt (l : List UInt8) (h : l ≠ []) : (l.drop (decodeL l).2).length < l.length := by
  have h1 := decodeL_width l
  have h2 : 0 < l.length := List.length_pos_iff.2 h
  rw [List.length_drop]
  omega
theorem strmF_fuel : ∀ (n m : Nat) (l : List UInt8), l.length ≤ n → l.length ≤ m → strmF n l = strmF m l
  | 0, m, l, hn, _ => by
    have : l = [] := List.eq_nil_of_length_eq_zero (by omega)
    subst this
    rw [strmF_nil, strmF_nil]
  | n + 1, 0, l, _, hm => by
    have : l = [] := List.eq_nil_of_length_eq_zero (by omega)
    subst this
    rw [strmF_nil, strmF_nil]
  | n + 1, m + 1, l, hn, hm => by
    by_cases h : l = []
    · subst h
      rw [strmF_nil, strmF_nil]
    · have := drop_lt l h
      simp only [strmF, if_neg h]
      rw [strmF_fuel n m _ (by omega) (by omega)]
theorem strm_nil : strm [] = [] := rfl
theorem strm_bad (l : List UInt8) (h : l ≠ []) (hb : badB l = true) : strm l = [(0, false)] := by
  unfold strm
  obtain ⟨k, hk⟩ : ∃ k, l.length = k + 1 := ⟨l.length - 1, by have : 0 < l.length := List.length_pos_iff.2 h; omega⟩
  rw [hk]
  simp [strmF, h, hb]
theorem strm_step (l : List UInt8) (h : l ≠ []) (hb : badB l = false) : strm l = (((decodeL l).1 : Int), true) :: strm (l.drop (decodeL l).2) := by
  have hd := drop_lt l h
  unfold strm
  obtain ⟨k, hk⟩ : ∃ k, l.length = k + 1 := ⟨l.length - 1, by have : 0 < l.length := List.length_pos_iff.2 h; omega⟩
  rw [hk]
  simp only [strmF, if_neg h, hb]
  rw [strmF_fuel k _ _ (by omega) (Nat.le_refl _)]
  rfl
theorem strm_length_le : ∀ (n : Nat) (l : List UInt8), l.length ≤ n → (strm l).length ≤ l.length
  | 0, l, h => by
    have : l = [] := List.eq_nil_of_length_eq_zero (by omega)
    subst this
    simp [strm_nil]
  | n + 1, l, h => by
    by_cases h0 : l = []
    · subst h0; simp [strm_nil]
    · have hp : 0 < l.length := List.length_pos_iff.2 h0
      cases hb : badB l
      · rw [strm_step l h0 hb, List.length_cons]
        have hd := drop_lt l h0
        have := strm_length_le n (l.drop (decodeL l).2) (by omega)
        omega
      · rw [strm_bad l h0 hb]
        simp
        omega
theorem strm_len (l : List UInt8) : (strm l).length ≤ l.length := strm_length_le _ l (Nat.le_refl _)

/-- the points, or none -/
def pts (l : List UInt8) : Option (List Int) := if (strm l).all (·.2) then some ((strm l).map (·.1)) else none
/-- all are characters -/
def goodB (x : Int × Bool) : Bool := x.2 && charB x.1
def charsB (l : List UInt8) : Bool := (strm l).all goodB
/-- the text's fault -/
def textFault (l : List UInt8) : Int := if 60 < l.length then 2 else if charsB l then 0 else 5
/-- PointsOf: its code and its list -/
def ptsCode (l : List UInt8) : Int := if 4000 < l.length then 2 else if (pts l).isSome then 0 else 5
def ptsList (l : List UInt8) : List Int := if 4000 < l.length then [] else (pts l).getD []

/-! What the bytes' first one tells, and what the rest of them must be. -/
def by' (l : List UInt8) (i : Nat) : Int := ((l.getD i 0).toNat : Int)
def leadN (b : Int) : Nat := if b < 128 then 1 else if 192 ≤ b ∧ b < 224 then 2 else if 224 ≤ b ∧ b < 240 then 3 else if 240 ≤ b ∧ b < 248 then 4 else 0
def leadP (b : Int) : Int := if b < 128 then b else if 192 ≤ b ∧ b < 224 then b - 192 else if 224 ≤ b ∧ b < 240 then b - 224 else if 240 ≤ b ∧ b < 248 then b - 240 else 0
/-- the number that k bytes tell -/
def foldP (l : List UInt8) : Nat → Int
  | 0 => leadP (by' l 0)
  | 1 => leadP (by' l 0)
  | k + 2 => foldP l (k + 1) * 64 + by' l (k + 1) % 64
def bytesI (l : List UInt8) : List Int := l.map fun c => (c.toNat : Int)

theorem bad_lead (l : List UInt8) (h : l ≠ []) (hl : leadN (by' l 0) = 0 ∨ l.length < leadN (by' l 0)) : badB l = true := by
  have hp : 0 < l.length := List.length_pos_iff.2 h
  have k0 := (l.getD 0 0).toNat_lt
  unfold badB
  rw [decodeL_N]
  unfold leadN by' at hl
  rcases decodeN_shape l.length (l.getD 0 0).toNat (l.getD 1 0).toNat (l.getD 2 0).toNat (l.getD 3 0).toNat with ⟨c, e⟩ | ⟨c1, c2, c3, cv, e⟩ | ⟨c1, c2, c3, c4, cv, cs, e⟩ | ⟨c1, c2, c3, c4, c5, cv, cw, e⟩ | e
  · exfalso
    rw [if_pos (by omega)] at hl
    omega
  · exfalso
    rw [if_neg (by omega), if_pos (by omega)] at hl
    omega
  · exfalso
    rw [if_neg (by omega), if_neg (by omega), if_pos (by omega)] at hl
    omega
  · exfalso
    rw [if_neg (by omega), if_neg (by omega), if_neg (by omega), if_pos (by omega)] at hl
    omega
  · rw [e]
    simp

theorem dec1 (n b0 b1 b2 b3 : Nat) (h : b0 < 128) : decodeN n b0 b1 b2 b3 = (b0, 1) := by simp [decodeN, h]
theorem dec2 (n b0 b1 b2 b3 : Nat) (h : 192 ≤ b0 ∧ b0 < 224) (hn : 1 < n) (h1 : b1 < 256) :
    decodeN n b0 b1 b2 b3 = if b1 / 64 = 2 ∧ 128 ≤ b0 % 32 * 64 + b1 % 64 then (b0 % 32 * 64 + b1 % 64, 2) else (65533, 1) := by
  unfold decodeN
  repeat' split
  all_goals first | rfl | (exfalso; omega)
set_option maxRecDepth 100000 in
set_option maxHeartbeats 1000000 in
theorem dec3 (n b0 b1 b2 b3 : Nat) (h : 224 ≤ b0 ∧ b0 < 240) (hn : 2 < n) (h1 : b1 < 256) (h2 : b2 < 256) :
    decodeN n b0 b1 b2 b3 = if b1 / 64 = 2 ∧ b2 / 64 = 2 ∧ 2048 ≤ b0 % 16 * 4096 + b1 % 64 * 64 + b2 % 64 ∧ ¬ (55296 ≤ b0 % 16 * 4096 + b1 % 64 * 64 + b2 % 64 ∧ b0 % 16 * 4096 + b1 % 64 * 64 + b2 % 64 ≤ 57343) then (b0 % 16 * 4096 + b1 % 64 * 64 + b2 % 64, 3) else (65533, 1) := by
  unfold decodeN
  repeat' split
  all_goals first | rfl | (exfalso; omega)
set_option maxRecDepth 100000 in
set_option maxHeartbeats 1000000 in
theorem dec4 (n b0 b1 b2 b3 : Nat) (h : 240 ≤ b0 ∧ b0 < 248) (hn : 3 < n) (h1 : b1 < 256) (h2 : b2 < 256) (h3 : b3 < 256) :
    decodeN n b0 b1 b2 b3 = if b1 / 64 = 2 ∧ b2 / 64 = 2 ∧ b3 / 64 = 2 ∧ 65536 ≤ b0 % 8 * 262144 + b1 % 64 * 4096 + b2 % 64 * 64 + b3 % 64 ∧ b0 % 8 * 262144 + b1 % 64 * 4096 + b2 % 64 * 64 + b3 % 64 ≤ 1114111 then (b0 % 8 * 262144 + b1 % 64 * 4096 + b2 % 64 * 64 + b3 % 64, 4) else (65533, 1) := by
  unfold decodeN
  repeat' split
  all_goals first | rfl | (exfalso; omega)

theorem pointB_iff (p : Int) : pointB p = true ↔ (0 ≤ p ∧ p ≤ 1114111) ∧ ¬ (55296 ≤ p ∧ p ≤ 57343) := by
  simp [pointB, inB]
  omega
theorem enc_cases (p : Int) (h : pointB p = true) :
    (p < 128 ∧ encodeRuneZ p = [p]) ∨ (128 ≤ p ∧ p < 2048 ∧ encodeRuneZ p = [192 + p / 64, 128 + p % 64]) ∨
    (2048 ≤ p ∧ p < 65536 ∧ encodeRuneZ p = [224 + p / 4096, 128 + p / 64 % 64, 128 + p % 64]) ∨ (65536 ≤ p ∧ encodeRuneZ p = [240 + p / 262144, 128 + p / 4096 % 64, 128 + p / 64 % 64, 128 + p % 64]) := by
  have := (pointB_iff p).1 h
  by_cases c1 : p < 128
  · exact .inl ⟨c1, encodeRuneZ_one (by omega) (by omega)⟩
  · by_cases c2 : p < 2048
    · exact .inr (.inl ⟨by omega, c2, encodeRuneZ_two (by omega) (by omega)⟩)
    · by_cases c3 : p < 65536
      · exact .inr (.inr (.inl ⟨by omega, c3, encodeRuneZ_three (by omega)⟩))
      · exact .inr (.inr (.inr ⟨by omega, encodeRuneZ_four (by omega) (by omega)⟩))

/-- the test that the model makes, as a proposition -/
def FirstOk (l : List UInt8) (n : Nat) : Prop := pointB (foldP l n) = true ∧ encodeRuneZ (foldP l n) = bytesI (l.take n)

theorem leadP_1 {b : Int} (h : b < 128) : leadP b = b := by simp [leadP, h]
theorem leadP_2 {b : Int} (h : 192 ≤ b ∧ b < 224) : leadP b = b - 192 := by
  unfold leadP
  rw [if_neg (by omega), if_pos h]
theorem leadP_3 {b : Int} (h : 224 ≤ b ∧ b < 240) : leadP b = b - 224 := by
  unfold leadP
  rw [if_neg (by omega), if_neg (by omega), if_pos h]
theorem leadP_4 {b : Int} (h : 240 ≤ b ∧ b < 248) : leadP b = b - 240 := by
  unfold leadP
  rw [if_neg (by omega), if_neg (by omega), if_neg (by omega), if_pos h]
theorem foldP_1 (l : List UInt8) : foldP l 1 = leadP (by' l 0) := rfl
theorem foldP_2 (l : List UInt8) : foldP l 2 = leadP (by' l 0) * 64 + by' l 1 % 64 := rfl
theorem foldP_3 (l : List UInt8) : foldP l 3 = (leadP (by' l 0) * 64 + by' l 1 % 64) * 64 + by' l 2 % 64 := rfl
theorem foldP_4 (l : List UInt8) : foldP l 4 = ((leadP (by' l 0) * 64 + by' l 1 % 64) * 64 + by' l 2 % 64) * 64 + by' l 3 % 64 := rfl

/-! The four lengths, over plain numbers. -/
theorem num1 (b0 : Nat) (h : b0 < 128) : pointB (b0 : Int) = true ∧ encodeRuneZ (b0 : Int) = [(b0 : Int)] :=
  ⟨(pointB_iff _).2 (by omega), encodeRuneZ_one (by omega) (by omega)⟩
theorem num2 (b0 b1 p : Nat) (h : 192 ≤ b0 ∧ b0 < 224) (h1 : b1 < 256) (hp : p = b0 % 32 * 64 + b1 % 64) :
    (pointB (p : Int) = true ∧ encodeRuneZ (p : Int) = [(b0 : Int), (b1 : Int)]) ↔ (b1 / 64 = 2 ∧ 128 ≤ p) := by
  constructor
  · rintro ⟨a, e⟩
    rcases enc_cases _ a with ⟨c, e'⟩ | ⟨c, d, e'⟩ | ⟨c, d, e'⟩ | ⟨c, e'⟩ <;> rw [e'] at e <;> simp at e <;> omega
  · rintro ⟨a, b⟩
    refine ⟨(pointB_iff _).2 (by omega), ?_⟩
    rw [encodeRuneZ_two (by omega) (by omega)]
    simp
    omega
theorem num3 (b0 b1 b2 p : Nat) (h : 224 ≤ b0 ∧ b0 < 240) (h1 : b1 < 256) (h2 : b2 < 256) (hp : p = b0 % 16 * 4096 + b1 % 64 * 64 + b2 % 64) :
    (pointB (p : Int) = true ∧ encodeRuneZ (p : Int) = [(b0 : Int), (b1 : Int), (b2 : Int)]) ↔ (b1 / 64 = 2 ∧ b2 / 64 = 2 ∧ 2048 ≤ p ∧ ¬ (55296 ≤ p ∧ p ≤ 57343)) := by
  constructor
  · rintro ⟨a, e⟩
    have a' := (pointB_iff _).1 a
    rcases enc_cases _ a with ⟨c, e'⟩ | ⟨c, d, e'⟩ | ⟨c, d, e'⟩ | ⟨c, e'⟩ <;> rw [e'] at e <;> simp at e <;> omega
  · rintro ⟨a, b, c, d⟩
    refine ⟨(pointB_iff _).2 (by omega), ?_⟩
    rw [encodeRuneZ_three (by omega)]
    simp
    omega
theorem num4 (b0 b1 b2 b3 p : Nat) (h : 240 ≤ b0 ∧ b0 < 248) (h1 : b1 < 256) (h2 : b2 < 256) (h3 : b3 < 256) (hp : p = b0 % 8 * 262144 + b1 % 64 * 4096 + b2 % 64 * 64 + b3 % 64) :
    (pointB (p : Int) = true ∧ encodeRuneZ (p : Int) = [(b0 : Int), (b1 : Int), (b2 : Int), (b3 : Int)]) ↔ (b1 / 64 = 2 ∧ b2 / 64 = 2 ∧ b3 / 64 = 2 ∧ 65536 ≤ p ∧ p ≤ 1114111) := by
  constructor
  · rintro ⟨a, e⟩
    have a' := (pointB_iff _).1 a
    rcases enc_cases _ a with ⟨c, e'⟩ | ⟨c, d, e'⟩ | ⟨c, d, e'⟩ | ⟨c, e'⟩ <;> rw [e'] at e <;> simp at e <;> omega
  · rintro ⟨a, b, c, d, e⟩
    refine ⟨(pointB_iff _).2 (by omega), ?_⟩
    rw [encodeRuneZ_four (by omega) (by omega)]
    simp
    omega

def FirstIs (l : List UInt8) (n : Nat) : Prop := (FirstOk l n ↔ badB l = false) ∧ (badB l = false → ((decodeL l).1 : Int) = foldP l n ∧ (decodeL l).2 = n)
theorem bad_of (l : List UInt8) {c : Prop} [Decidable c] {p n : Nat} (hd : decodeL l = if c then (p, n) else (65533, 1)) (hn : c → ¬ (p = 65533 ∧ n = 1)) : badB l = false ↔ c := by
  unfold badB
  rw [hd]
  by_cases hc : c
  · rw [if_pos hc]
    have := hn hc
    simp only [decide_eq_false_iff_not]
    exact ⟨fun _ => hc, fun _ => this⟩
  · rw [if_neg hc]
    simp [hc]
theorem first_of (l : List UInt8) {c : Prop} [Decidable c] {p n : Nat} (hd : decodeL l = if c then (p, n) else (65533, 1)) (hn : c → ¬ (p = 65533 ∧ n = 1)) (hf : foldP l n = (p : Int))
    (ho : (pointB (p : Int) = true ∧ encodeRuneZ (p : Int) = bytesI (l.take n)) ↔ c) : FirstIs l n := by
  have hb := bad_of l hd hn
  refine ⟨?_, fun h => ?_⟩
  · unfold FirstOk
    rw [hf, ho, hb]
  · rw [hd, if_pos (hb.1 h), hf]
    exact ⟨rfl, rfl⟩

theorem first1 (l : List UInt8) (h : l ≠ []) (hb : by' l 0 < 128) : FirstIs l 1 := by
  have hp : 0 < l.length := List.length_pos_iff.2 h
  have hd := decodeL_N l
  have hb' : (l.getD 0 0).toNat < 128 := by unfold by' at hb; omega
  rw [dec1 _ _ _ _ _ hb'] at hd
  refine first_of (c := True) l (p := (l.getD 0 0).toNat) (by rw [hd, if_pos trivial]) (fun _ => by omega) (by rw [foldP_1, leadP_1 hb]; rfl) ?_
  rw [takeA l hp]
  exact ⟨fun _ => trivial, fun _ => num1 _ hb'⟩
theorem first2 (l : List UInt8) (hl : 2 ≤ l.length) (hb : 192 ≤ by' l 0 ∧ by' l 0 < 224) : FirstIs l 2 := by
  have k1 := (l.getD 1 0).toNat_lt
  have hd := decodeL_N l
  have hb' : 192 ≤ (l.getD 0 0).toNat ∧ (l.getD 0 0).toNat < 224 := by unfold by' at hb; omega
  rw [dec2 _ _ _ _ _ hb' (by omega) k1] at hd
  refine first_of l hd (fun _ => by omega) (by rw [foldP_2, leadP_2 hb]; unfold by'; omega) ?_
  rw [takeB l (by omega)]
  exact num2 _ _ _ hb' k1 rfl
theorem first3 (l : List UInt8) (hl : 3 ≤ l.length) (hb : 224 ≤ by' l 0 ∧ by' l 0 < 240) : FirstIs l 3 := by
  have k1 := (l.getD 1 0).toNat_lt
  have k2 := (l.getD 2 0).toNat_lt
  have hd := decodeL_N l
  have hb' : 224 ≤ (l.getD 0 0).toNat ∧ (l.getD 0 0).toNat < 240 := by unfold by' at hb; omega
  rw [dec3 _ _ _ _ _ hb' (by omega) k1 k2] at hd
  refine first_of l hd (fun _ => by omega) (by rw [foldP_3, leadP_3 hb]; unfold by'; omega) ?_
  rw [takeC l (by omega)]
  exact num3 _ _ _ _ hb' k1 k2 rfl
theorem first4 (l : List UInt8) (hl : 4 ≤ l.length) (hb : 240 ≤ by' l 0 ∧ by' l 0 < 248) : FirstIs l 4 := by
  have k1 := (l.getD 1 0).toNat_lt
  have k2 := (l.getD 2 0).toNat_lt
  have k3 := (l.getD 3 0).toNat_lt
  have hd := decodeL_N l
  have hb' : 240 ≤ (l.getD 0 0).toNat ∧ (l.getD 0 0).toNat < 248 := by unfold by' at hb; omega
  rw [dec4 _ _ _ _ _ hb' (by omega) k1 k2 k3] at hd
  refine first_of l hd (fun _ => by omega) (by rw [foldP_4, leadP_4 hb]; unfold by'; omega) ?_
  rw [takeD l (by omega)]
  exact num4 _ _ _ _ _ hb' k1 k2 k3 rfl

theorem first_is (l : List UInt8) (h : l ≠ []) (hn : leadN (by' l 0) ≠ 0) (hl : leadN (by' l 0) ≤ l.length) : FirstIs l (leadN (by' l 0)) := by
  by_cases a1 : by' l 0 < 128
  · have e : leadN (by' l 0) = 1 := by simp [leadN, a1]
    rw [e]
    exact first1 l h a1
  · by_cases a2 : 192 ≤ by' l 0 ∧ by' l 0 < 224
    · have e : leadN (by' l 0) = 2 := by unfold leadN; rw [if_neg a1, if_pos a2]
      rw [e] at hl ⊢
      exact first2 l hl a2
    · by_cases a3 : 224 ≤ by' l 0 ∧ by' l 0 < 240
      · have e : leadN (by' l 0) = 3 := by unfold leadN; rw [if_neg a1, if_neg a2, if_pos a3]
        rw [e] at hl ⊢
        exact first3 l hl a3
      · by_cases a4 : 240 ≤ by' l 0 ∧ by' l 0 < 248
        · have e : leadN (by' l 0) = 4 := by unfold leadN; rw [if_neg a1, if_neg a2, if_neg a3, if_pos a4]
          rw [e] at hl ⊢
          exact first4 l hl a4
        · exact absurd (by unfold leadN; rw [if_neg a1, if_neg a2, if_neg a3, if_neg a4]) hn

/-! Bytes as numbers. -/
theorem ofNums_inj : ∀ (xs : List Int) (l : List UInt8), (∀ x ∈ xs, 0 ≤ x ∧ x < 256) → (xs.map (fun n => UInt8.ofNat n.toNat) = l ↔ xs = bytesI l)
  | [], [], _ => by simp [bytesI]
  | [], _ :: _, _ => by simp [bytesI]
  | _ :: _, [], _ => by simp [bytesI]
  | x :: xs, c :: l, h => by
    have hx := h x (by simp)
    have ih := ofNums_inj xs l (fun y hy => h y (by simp [hy]))
    unfold bytesI at ih ⊢
    simp only [List.map_cons, List.cons.injEq]
    rw [ih]
    refine and_congr_left fun _ => ?_
    constructor
    · intro e
      have e2 := congrArg UInt8.toNat e
      simp at e2
      omega
    · intro e
      subst e
      simp
/-- the test of a number's bytes against the text's head -/
theorem str_test (s : ByteArray) (k : Nat) (p : Int) : ((strOfNums (encodeRuneZ p)).toList == (s.extract 0 k).toList) = decide (encodeRuneZ p = bytesI (s.data.toList.take k)) := by
  rw [ByteArray.toList_eq, ByteArray.toList_eq, strOfNums_data, Lib.extract_data, List.drop_zero, Nat.sub_zero]
  rw [Bool.eq_iff_iff, beq_iff_eq, decide_eq_true_iff]
  exact ofNums_inj _ _ (encodeRuneZ_byte p)
theorem first_test (s : ByteArray) (k : Nat) (p : Int) (hp : foldP s.data.toList k = p) (h : FirstIs s.data.toList k) (hq : pointB p = true) :
    ((strOfNums (encodeRuneZ p)).toList == (s.extract 0 k).toList) = !badB s.data.toList := by
  rw [str_test]
  have h1 := h.1
  unfold FirstOk at h1
  rw [hp] at h1
  rw [Bool.eq_iff_iff, decide_eq_true_iff]
  simp only [hq, true_and] at h1
  rw [h1]
  simp
theorem first_not (l : List UInt8) (k : Nat) (p : Int) (hp : foldP l k = p) (h : FirstIs l k) (hq : pointB p = false) : badB l = true := by
  have h1 := h.1
  unfold FirstOk at h1
  rw [hp, hq] at h1
  simp at h1
  exact h1
end Go.Proofs.YticpebpicdboaaaGreatDoor

/- Plain facts on items' faults and trees' faults. -/
namespace Go.Proofs.YticpebpicdboaaaGreatDoor
open Go.ChangeShapes Go.WideShapes Go.ChangeAt Go.RowKit
set_option linter.unusedVariables false

theorem empty_iff (s : ByteArray) : s.toList.isEmpty = true ↔ s.data.toList = [] := by rw [ByteArray.toList_eq, List.isEmpty_iff]

theorem less_le : ∀ (x y : List UInt8), (Op.bytesLess x y || (x == y)) = !Op.bytesLess y x
  | [], [] => rfl
  | [], _ :: _ => rfl
  | _ :: _, [] => rfl
  | a :: x, b :: y => by
    have ih := less_le x y
    simp only [Op.bytesLess, List.cons_beq_cons]
    by_cases h1 : a < b
    · have h2 : ¬ b < a := fun h => by rw [UInt8.lt_iff_toNat_lt] at h h1; omega
      have h3 : (b == a) = false := by rw [beq_eq_false_iff_ne]; rintro rfl; exact h2 h1
      simp [h1, h2, h3]
    · by_cases h2 : b < a
      · have h3 : (a == b) = false := by rw [beq_eq_false_iff_ne]; rintro rfl; exact h1 h2
        simp [h1, h2, h3]
      · have h3 : a = b := by rw [UInt8.lt_iff_toNat_lt] at h1 h2; exact UInt8.toNat_inj.1 (by omega)
        subst h3
        simp only [h1, decide_false, beq_self_eq_true, Bool.true_and, Bool.false_or]
        exact ih
theorem less_no {x y : List UInt8} (h : Op.bytesLess y x = false) : Op.bytesLess x y = true ∨ Op.bytesLess x y = false ∧ (x == y) = true := by
  have := less_le x y
  rw [h] at this
  cases hq : Op.bytesLess x y
  · rw [hq] at this; exact .inr ⟨rfl, by simpa using this⟩
  · exact .inl rfl
theorem less_yes {x y : List UInt8} (h : Op.bytesLess y x = true) : Op.bytesLess x y = false ∧ (x == y) = false := by
  have := less_le x y
  rw [h] at this
  simpa using this
theorem ret_i {a b : Int} (h : a = b) : Ending.returned (.int .i64 a) = .returned (.int .i64 b) := by rw [h]
/-- an attribute's fault by itself -/
def atFault (x : At) : Int := if isKeyL x.name = true then textFault x.value.data.toList else 5
def lessAt (x y : At) : Bool := Op.bytesLess x.name.toList y.name.toList
def rises (l : List At) : Bool := (List.range l.length).all fun i => i == 0 || lessAt (l.getD (i - 1) dAt) (l.getD i dAt)
def attrsCode (l : List At) : Int :=
  if 5 < l.length then 2 else
  match l.find? (fun x => atFault x != 0) with
  | some x => atFault x
  | none => if rises l = true then 0 else 6
def textCode (x : It) : Int := if x.space.toList.isEmpty = false ∨ 0 < x.attrs.length ∨ x.text.toList.isEmpty = true then 1 else textFault x.text.data.toList
def elemCode (x : It) : Int :=
  if x.text.toList.isEmpty = false then 1 else
  if isNameL x.name.data.toList = false then 5 else
  if textFault x.space.data.toList = 0 then attrsCode x.attrs else textFault x.space.data.toList
def itemCode (x : It) : Int :=
  if x.depth < 0 ∨ 6 < x.depth then 3 else
  if x.name.toList.isEmpty = true then textCode x else elemCode x

theorem attrsCode_many {l : List At} (h : 5 < l.length) : attrsCode l = 2 := by unfold attrsCode; rw [if_pos h]
theorem attrsCode_at {l : List At} {k : Nat} (h : ¬ 5 < l.length) (hk : k < l.length) (h0 : ∀ j, j < k → atFault (l.getD j dAt) = 0) (h1 : atFault (l.getD k dAt) ≠ 0) : attrsCode l = atFault (l.getD k dAt) := by
  unfold attrsCode
  rw [if_neg h, find_at l dAt _ k hk (fun j hj => by simp only [h0 j hj]; decide) (by simpa using h1)]
theorem attrsCode_end {l : List At} (h : ¬ 5 < l.length) (h0 : ∀ j, j < l.length → atFault (l.getD j dAt) = 0) : attrsCode l = if rises l = true then 0 else 6 := by
  unfold attrsCode
  rw [if_neg h, find_no l dAt _ fun j hj => by simp only [h0 j hj]; decide]
theorem rises_yes {l : List At} (h : ∀ i, 1 ≤ i → i < l.length → lessAt (l.getD (i - 1) dAt) (l.getD i dAt) = true) : rises l = true := by
  unfold rises
  rw [List.all_eq_true]
  intro i hi
  rw [List.mem_range] at hi
  by_cases h0 : i = 0
  · simp [h0]
  · rw [h i (by omega) hi]; simp
theorem rises_no {l : List At} {i : Nat} (h1 : 1 ≤ i) (h2 : i < l.length) (h : lessAt (l.getD (i - 1) dAt) (l.getD i dAt) = false) : rises l = false := by
  rw [Bool.eq_false_iff]
  intro hc
  unfold rises at hc
  rw [List.all_eq_true] at hc
  have := hc i (List.mem_range.2 h2)
  rw [h] at this
  simp at this
  omega

/-- an item of the Depth xd may stand right behind one of the Depth pd (xn, pn: it has no Name) -/
def standB (xd pd : Int) (xn pn : Bool) : Bool := !(xd == 0 || decide (pd + 1 < xd) || (decide (pd < xd) && pn) || (xn && pn && xd == pd))
def mayStand (p x : It) : Bool := standB x.depth p.depth x.name.toList.isEmpty p.name.toList.isEmpty
theorem stand_no {xd pd : Int} {xn pn : Bool} (h : standB xd pd xn pn = false) :
    ((xd == 0) = true) ∨ ((xd == 0) = false ∧ decide (pd + 1 < xd) = true) ∨ ((xd == 0) = false ∧ decide (pd + 1 < xd) = false ∧ decide (pd < xd) = true ∧ pn = true) ∨
    ((xd == 0) = false ∧ decide (pd + 1 < xd) = false ∧ decide (pd < xd) = false ∧ xn = true ∧ pn = true ∧ (xd == pd) = true) := by
  have key : ∀ a b c d e f : Bool, (!(a || b || (c && e) || (d && e && f))) = false → (a = true) ∨ (a = false ∧ b = true) ∨ (a = false ∧ b = false ∧ c = true ∧ e = true) ∨ (a = false ∧ b = false ∧ c = false ∧ d = true ∧ e = true ∧ f = true) := by
    intro a b c d e f
    cases a <;> cases b <;> cases c <;> cases d <;> cases e <;> cases f <;> simp
  exact key _ _ _ _ _ _ h
theorem stand_yes {xd pd : Int} {xn pn : Bool} (h : standB xd pd xn pn = true) :
    ((xd == 0) = false ∧ decide (pd + 1 < xd) = false ∧ decide (pd < xd) = true ∧ pn = false ∧ xn = false) ∨ ((xd == 0) = false ∧ decide (pd + 1 < xd) = false ∧ decide (pd < xd) = true ∧ pn = false ∧ xn = true) ∨
    ((xd == 0) = false ∧ decide (pd + 1 < xd) = false ∧ decide (pd < xd) = false ∧ xn = false) ∨ ((xd == 0) = false ∧ decide (pd + 1 < xd) = false ∧ decide (pd < xd) = false ∧ xn = true ∧ pn = false) ∨
    ((xd == 0) = false ∧ decide (pd + 1 < xd) = false ∧ decide (pd < xd) = false ∧ xn = true ∧ pn = true ∧ (xd == pd) = false) := by
  have key : ∀ a b c d e f : Bool, (!(a || b || (c && e) || (d && e && f))) = true → (a = false ∧ b = false ∧ c = true ∧ e = false ∧ d = false) ∨ (a = false ∧ b = false ∧ c = true ∧ e = false ∧ d = true) ∨ (a = false ∧ b = false ∧ c = false ∧ d = false) ∨ (a = false ∧ b = false ∧ c = false ∧ d = true ∧ e = false) ∨ (a = false ∧ b = false ∧ c = false ∧ d = true ∧ e = true ∧ f = false) := by
    intro a b c d e f
    cases a <;> cases b <;> cases c <;> cases d <;> cases e <;> cases f <;> simp
  exact key _ _ _ _ _ _ h
def followB (xd pd : Int) (xn pn : Bool) : Bool := if pn = true then (decide (xd < pd) || ((xd == pd) && !xn)) else decide (xd ≤ pd + 1)
theorem stand_follow {xd pd : Int} {xn pn : Bool} (h : (xd == 0) = false) : standB xd pd xn pn = followB xd pd xn pn := by
  unfold standB followB
  rw [h, Bool.eq_iff_iff]
  cases pn <;> cases xn <;> simp <;> omega
theorem stand_zero {xd pd : Int} {xn pn : Bool} (h : (xd == 0) = true) : standB xd pd xn pn = false := by
  unfold standB
  rw [h]; simp
def stands (l : List It) : Bool := decide ((l.getD 0 dIt).depth = 0) && !(l.getD 0 dIt).name.toList.isEmpty && (List.range l.length).all fun i => i == 0 || mayStand (l.getD (i - 1) dIt) (l.getD i dIt)
def treeCode (l : List It) : Int :=
  if l.length < 1 ∨ 40 < l.length then 2 else
  match l.find? (fun x => itemCode x != 0) with
  | some x => itemCode x
  | none => if stands l = true then 0 else 1
theorem treeCode_many {l : List It} (h : l.length < 1 ∨ 40 < l.length) : treeCode l = 2 := by unfold treeCode; rw [if_pos h]
theorem treeCode_at {l : List It} {k : Nat} (h : ¬ (l.length < 1 ∨ 40 < l.length)) (hk : k < l.length) (h0 : ∀ j, j < k → itemCode (l.getD j dIt) = 0) (h1 : itemCode (l.getD k dIt) ≠ 0) : treeCode l = itemCode (l.getD k dIt) := by
  unfold treeCode
  rw [if_neg h, find_at l dIt _ k hk (fun j hj => by simp only [h0 j hj]; decide) (by simpa using h1)]
theorem treeCode_end {l : List It} (h : ¬ (l.length < 1 ∨ 40 < l.length)) (h0 : ∀ j, j < l.length → itemCode (l.getD j dIt) = 0) : treeCode l = if stands l = true then 0 else 1 := by
  unfold treeCode
  rw [if_neg h, find_no l dIt _ fun j hj => by simp only [h0 j hj]; decide]
theorem item_depth {x : It} (h : itemCode x = 0) : 0 ≤ x.depth ∧ x.depth ≤ 6 := by
  unfold itemCode at h
  by_cases hd : x.depth < 0 ∨ 6 < x.depth
  · rw [if_pos hd] at h; cases h
  · omega
theorem stands_first {l : List It} (h : ¬ ((l.getD 0 dIt).depth = 0 ∧ (l.getD 0 dIt).name.toList.isEmpty = false)) : stands l = false := by
  unfold stands
  by_cases h1 : (l.getD 0 dIt).depth = 0
  · have h2 : (l.getD 0 dIt).name.toList.isEmpty = true := by
      cases hq : (l.getD 0 dIt).name.toList.isEmpty
      · exact absurd ⟨h1, hq⟩ h
      · rfl
    rw [h2]; simp
  · rw [decide_eq_false h1]; simp
theorem stands_yes {l : List It} (h0 : (l.getD 0 dIt).depth = 0) (h1 : (l.getD 0 dIt).name.toList.isEmpty = false) (h : ∀ i, 1 ≤ i → i < l.length → mayStand (l.getD (i - 1) dIt) (l.getD i dIt) = true) : stands l = true := by
  unfold stands
  rw [h0, h1]
  simp only [decide_true, Bool.not_false, Bool.and_true, Bool.true_and, List.all_eq_true]
  intro i hi
  rw [List.mem_range] at hi
  by_cases hz : i = 0
  · simp [hz]
  · rw [h i (by omega) hi]; simp
theorem stands_no {l : List It} {i : Nat} (h1 : 1 ≤ i) (h2 : i < l.length) (h : mayStand (l.getD (i - 1) dIt) (l.getD i dIt) = false) : stands l = false := by
  rw [Bool.eq_false_iff]
  intro hc
  unfold stands at hc
  simp only [Bool.and_eq_true, List.all_eq_true] at hc
  have := hc.2 i (List.mem_range.2 h2)
  rw [h] at this
  simp at this
  omega
end Go.Proofs.YticpebpicdboaaaGreatDoor

/- Plain facts on what a presence carries besides (chapter 7's MoreFault). -/
namespace Go.Proofs.YticpebpicdboaaaGreatDoor
open Go.ChangeShapes Go.WideShapes Go.ChangeAt Go.RowKit
set_option linter.unusedVariables false

/-- the space of the client's own elements -/
def csL : List UInt8 := [106, 97, 98, 98, 101, 114, 58, 99, 108, 105, 101, 110, 116]
def headB (z : Bool) (d : Int) (e cs : Bool) : Bool := !(((d == 0) && (e || cs)) || (z && !(d == 0)))
def stepB (d pd : Int) (xe pe : Bool) : Bool := !(decide (pd + 1 < d) || (decide (pd < d) && pe) || (xe && pe && (d == pd)))
theorem head_no {z : Bool} {d : Int} {e cs : Bool} (h : headB z d e cs = false) : ((d == 0) = true ∧ e = true) ∨ ((d == 0) = true ∧ e = false ∧ cs = true) ∨ ((d == 0) = false ∧ z = true) := by
  have key : ∀ a z e c : Bool, (!((a && (e || c)) || (z && !a))) = false → (a = true ∧ e = true) ∨ (a = true ∧ e = false ∧ c = true) ∨ (a = false ∧ z = true) := by
    intro a z e c
    cases a <;> cases z <;> cases e <;> cases c <;> simp
  exact key _ _ _ _ h
theorem head_yes {z : Bool} {d : Int} {e cs : Bool} (h : headB z d e cs = true) : ((d == 0) = true ∧ e = false ∧ cs = false) ∨ ((d == 0) = false ∧ z = false) := by
  have key : ∀ a z e c : Bool, (!((a && (e || c)) || (z && !a))) = true → (a = true ∧ e = false ∧ c = false) ∨ (a = false ∧ z = false) := by
    intro a z e c
    cases a <;> cases z <;> cases e <;> cases c <;> simp
  exact key _ _ _ _ h
theorem step_no {d pd : Int} {xe pe : Bool} (h : stepB d pd xe pe = false) :
    decide (pd + 1 < d) = true ∨ (decide (pd + 1 < d) = false ∧ decide (pd < d) = true ∧ pe = true) ∨ (decide (pd + 1 < d) = false ∧ decide (pd < d) = false ∧ xe = true ∧ pe = true ∧ (d == pd) = true) := by
  have key : ∀ a b e p f : Bool, (!(a || (b && p) || (e && p && f))) = false → a = true ∨ (a = false ∧ b = true ∧ p = true) ∨ (a = false ∧ b = false ∧ e = true ∧ p = true ∧ f = true) := by
    intro a b e p f
    cases a <;> cases b <;> cases e <;> cases p <;> cases f <;> simp
  exact key _ _ _ _ _ h
theorem step_yes {d pd : Int} {xe pe : Bool} (h : stepB d pd xe pe = true) :
    (decide (pd + 1 < d) = false ∧ decide (pd < d) = true ∧ pe = false ∧ xe = false) ∨ (decide (pd + 1 < d) = false ∧ decide (pd < d) = true ∧ pe = false ∧ xe = true) ∨ (decide (pd + 1 < d) = false ∧ decide (pd < d) = false ∧ xe = false) ∨
    (decide (pd + 1 < d) = false ∧ decide (pd < d) = false ∧ xe = true ∧ pe = false) ∨ (decide (pd + 1 < d) = false ∧ decide (pd < d) = false ∧ xe = true ∧ pe = true ∧ (d == pd) = false) := by
  have key : ∀ a b e p f : Bool, (!(a || (b && p) || (e && p && f))) = true → (a = false ∧ b = true ∧ p = false ∧ e = false) ∨ (a = false ∧ b = true ∧ p = false ∧ e = true) ∨ (a = false ∧ b = false ∧ e = false) ∨ (a = false ∧ b = false ∧ e = true ∧ p = false) ∨ (a = false ∧ b = false ∧ e = true ∧ p = true ∧ f = false) := by
    intro a b e p f
    cases a <;> cases b <;> cases e <;> cases p <;> cases f <;> simp
  exact key _ _ _ _ _ h
def csOf (x : It) : Bool := x.space.toList == csL
/-- item i may stand where it does -/
def moreStand (l : List It) (i : Nat) : Bool :=
  headB (decide (i = 0)) (l.getD i dIt).depth (l.getD i dIt).name.toList.isEmpty (csOf (l.getD i dIt)) && (decide (i = 0) || stepB (l.getD i dIt).depth (l.getD (i - 1) dIt).depth (l.getD i dIt).name.toList.isEmpty (l.getD (i - 1) dIt).name.toList.isEmpty)
def moreStands (l : List It) : Bool := (List.range l.length).all (moreStand l)
theorem moreStands_no {l : List It} {i : Nat} (h : i < l.length) (h1 : moreStand l i = false) : moreStands l = false := by
  cases hc : moreStands l
  · rfl
  · unfold moreStands at hc
    rw [List.all_eq_true] at hc
    rw [hc i (List.mem_range.2 h)] at h1
    cases h1
theorem moreStands_yes {l : List It} (h : ∀ i, i < l.length → moreStand l i = true) : moreStands l = true := by
  unfold moreStands
  rw [List.all_eq_true]
  exact fun i hi => h i (List.mem_range.1 hi)
/-- the code of one item -/
def moreAt (x : It) : Int := if itemCode x ≠ 0 then itemCode x else if x.depth = 6 then 3 else 0
def moreCode (l : List It) : Int :=
  if 20 < l.length then 2 else
  match l.find? (fun x => moreAt x != 0) with
  | some x => moreAt x
  | none => if moreStands l = true then 0 else 1
theorem moreCode_many {l : List It} (h : 20 < l.length) : moreCode l = 2 := by unfold moreCode; rw [if_pos h]
theorem moreCode_at {l : List It} {k : Nat} (h : ¬ 20 < l.length) (hk : k < l.length) (h0 : ∀ j, j < k → moreAt (l.getD j dIt) = 0) (h1 : moreAt (l.getD k dIt) ≠ 0) : moreCode l = moreAt (l.getD k dIt) := by
  unfold moreCode
  rw [if_neg h, find_at l dIt (fun x => moreAt x != 0) k hk (fun j hj => by simp only [h0 j hj]; decide) (by simpa using h1)]
theorem moreCode_end {l : List It} (h : ¬ 20 < l.length) (h0 : ∀ j, j < l.length → moreAt (l.getD j dIt) = 0) : moreCode l = if moreStands l = true then 0 else 1 := by
  unfold moreCode
  rw [if_neg h, find_no l dIt (fun x => moreAt x != 0) (fun j hj => by simp only [h0 j hj]; decide)]
end Go.Proofs.YticpebpicdboaaaGreatDoor
