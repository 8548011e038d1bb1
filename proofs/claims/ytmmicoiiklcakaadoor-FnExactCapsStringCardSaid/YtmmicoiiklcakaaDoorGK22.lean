/- Plain words on a digest. -/
import Derived.Test.YtmmicoiiklcakaaDoorGK0
import Derived.Laws.BitsAllLaws
namespace Go.Proofs.YtmmicoiiklcakaaDoor
set_option linter.unusedVariables false

def In32 (x : Int) : Prop := 0 ≤ x ∧ x ≤ 4294967295
def rotI (x : Int) (k : Nat) : Int := bits .or .u32 (x * 2 ^ k % 4294967296) (x / 2 ^ (32 - k))
def mixF (t : Nat) (b c d : Int) : Int :=
  if t < 20 then bits .or .u32 (bits .and .u32 b c) (bits .and .u32 (bits .xor .u32 IntKind.u32.max b) d) else
  if t < 40 then bits .xor .u32 (bits .xor .u32 b c) d else
  if t < 60 then bits .or .u32 (bits .or .u32 (bits .and .u32 b c) (bits .and .u32 b d)) (bits .and .u32 c d) else
  bits .xor .u32 (bits .xor .u32 b c) d
def mixK (t : Nat) : Int := if t < 20 then 1518500249 else if t < 40 then 1859775393 else if t < 60 then 2400959708 else 3395469782
structure St5 where
  a : Int
  b : Int
  c : Int
  d : Int
  e : Int
def St5.list (s : St5) : List Int := [s.a, s.b, s.c, s.d, s.e]
def St5.In (s : St5) : Prop := In32 s.a ∧ In32 s.b ∧ In32 s.c ∧ In32 s.d ∧ In32 s.e
def stepT (t : Nat) (s : St5) (w : Int) : St5 := ⟨(rotI s.a 5 + mixF t s.b s.c s.d + s.e + mixK t + w) % 4294967296, s.a, rotI s.b 30, s.c, s.d⟩
theorem bits_in (o : BinOp) (a b : Int) : In32 (bits o .u32 a b) := ⟨bits_lo_u32 o a b, bits_hi_u32 o a b⟩
theorem rotI_in (x : Int) (k : Nat) : In32 (rotI x k) := bits_in _ _ _
theorem mixF_in (t : Nat) (b c d : Int) : In32 (mixF t b c d) := by
  unfold mixF
  split
  · exact bits_in _ _ _
  split
  · exact bits_in _ _ _
  split
  · exact bits_in _ _ _
  · exact bits_in _ _ _
theorem mod_in (x : Int) : In32 (x % 4294967296) := by unfold In32; omega
theorem stepT_in (t : Nat) {s : St5} (w : Int) (h : s.In) : (stepT t s w).In := ⟨mod_in _, h.1, rotI_in _ _, h.2.2.1, h.2.2.2.1⟩
/-- the first m bytes of word j, as a number -/
def pw (bs : List Int) (j : Nat) : Nat → Int
  | 0 => 0
  | m + 1 => (pw bs j m * 256 + bs.getD (4 * j + m) 0) % 4294967296
theorem pw_in (bs : List Int) (j m : Nat) : In32 (pw bs j m) := by
  cases m with
  | zero => exact ⟨by simp [pw], by simp [pw]⟩
  | succ m => exact mod_in _
/-- the first words -/
def sched (bs : List Int) : Nat → List Int
  | 0 => []
  | t + 1 => sched bs t ++ [if t < 16 then pw bs t 4 else rotI (bits .xor .u32 (bits .xor .u32 (bits .xor .u32 ((sched bs t).getD (t - 3) 0) ((sched bs t).getD (t - 8) 0)) ((sched bs t).getD (t - 14) 0)) ((sched bs t).getD (t - 16) 0)) 1]
theorem sched_length (bs : List Int) (n : Nat) : (sched bs n).length = n := by
  induction n with
  | zero => rfl
  | succ n ih => simp [sched, ih]
def wd (bs : List Int) (t : Nat) : Int := (sched bs (t + 1)).getD t 0
theorem sched_getD (bs : List Int) (n t : Nat) (h : t < n) : (sched bs n).getD t 0 = wd bs t := by
  induction n with
  | zero => omega
  | succ n ih =>
    by_cases e : t = n
    · subst e; rfl
    · rw [← ih (by omega)]
      simp only [sched]
      rw [List.getD_eq_getElem?_getD, List.getElem?_append_left (by rw [sched_length]; omega), ← List.getD_eq_getElem?_getD]
theorem wd_low (bs : List Int) (t : Nat) (h : t < 16) : wd bs t = pw bs t 4 := by
  unfold wd
  simp only [sched]
  rw [List.getD_eq_getElem?_getD, List.getElem?_append_right (by rw [sched_length]; exact Nat.le_refl _), sched_length, Nat.sub_self, if_pos h]
  rfl
theorem wd_high (bs : List Int) (t : Nat) (h : 16 ≤ t) : wd bs t = rotI (bits .xor .u32 (bits .xor .u32 (bits .xor .u32 (wd bs (t - 3)) (wd bs (t - 8))) (wd bs (t - 14))) (wd bs (t - 16))) 1 := by
  rw [← sched_getD bs t (t - 3) (by omega), ← sched_getD bs t (t - 8) (by omega), ← sched_getD bs t (t - 14) (by omega), ← sched_getD bs t (t - 16) (by omega)]
  conv => lhs; unfold wd
  simp only [sched]
  rw [List.getD_eq_getElem?_getD, List.getElem?_append_right (by rw [sched_length]; exact Nat.le_refl _), sched_length, Nat.sub_self, if_neg (by omega)]
  rfl
theorem wd_in (bs : List Int) (t : Nat) : In32 (wd bs t) := by
  by_cases h : t < 16
  · rw [wd_low bs t h]; exact pw_in _ _ _
  · rw [wd_high bs t (by omega)]; exact rotI_in _ _
/-- the letters behind t steps -/
def turns (bs : List Int) (s : St5) : Nat → St5
  | 0 => s
  | t + 1 => stepT t (turns bs s t) (wd bs t)
theorem turns_in (bs : List Int) {s : St5} (h : s.In) (t : Nat) : (turns bs s t).In := by
  induction t with
  | zero => exact h
  | succ t ih => exact stepT_in _ _ ih
def addS (s t : St5) : St5 := ⟨(s.a + t.a) % 4294967296, (s.b + t.b) % 4294967296, (s.c + t.c) % 4294967296, (s.d + t.d) % 4294967296, (s.e + t.e) % 4294967296⟩
theorem addS_in (s t : St5) : (addS s t).In := ⟨mod_in _, mod_in _, mod_in _, mod_in _, mod_in _⟩
def withB (s : St5) (bs : List Int) : St5 := addS s (turns bs s 80)
def sha0 : St5 := ⟨1732584193, 4023233417, 2562383102, 271733878, 3285377520⟩
theorem sha0_in : sha0.In := by refine ⟨?_, ?_, ?_, ?_, ?_⟩ <;> (unfold In32 sha0; decide)
def blkAt (p : List Int) (k : Nat) : List Int := (p.drop (64 * k)).take 64
def shaSt (p : List Int) : Nat → St5
  | 0 => sha0
  | k + 1 => withB (shaSt p k) (blkAt p k)
theorem shaSt_in (p : List Int) (k : Nat) : (shaSt p k).In := by
  cases k with
  | zero => exact sha0_in
  | succ k => exact addS_in _ _
/-- how many noughts fill the last block -/
def fills (n : Nat) : Nat := (119 - n % 64) % 64
/-- the lowest bytes of a number, the highest first -/
def highs (n : Int) : Nat → List Int
  | 0 => []
  | k + 1 => n / 2 ^ (8 * k) % 256 :: highs n k
def padL (xs : List Int) : List Int := xs ++ [128] ++ List.replicate (fills xs.length) 0 ++ highs (8 * xs.length) 8
theorem highs_length (n : Int) (k : Nat) : (highs n k).length = k := by induction k with | zero => rfl | succ k ih => simp [highs, ih]
theorem padL_length (xs : List Int) : (padL xs).length = 64 * ((xs.length + 72) / 64) := by
  unfold padL fills
  simp only [List.length_append, List.length_replicate, highs_length, List.length_cons, List.length_nil]
  omega
def wordB (x : Int) : List Int := highs x 4
def shaL (xs : List Int) : List Int :=
  let s := shaSt (padL xs) ((xs.length + 72) / 64)
  wordB s.a ++ wordB s.b ++ wordB s.c ++ wordB s.d ++ wordB s.e
theorem shaL_length (xs : List Int) : (shaL xs).length = 20 := by simp [shaL, wordB, highs_length]
def shaCode (xs : List Int) : Int := if 3000 < xs.length then 2 else 0
def shaBytes (xs : List Int) : List Int := if 3000 < xs.length then [] else shaL xs
theorem highs_mem (n : Int) (k : Nat) : ∀ x ∈ highs n k, 0 ≤ x ∧ x ≤ 255 := by
  induction k with
  | zero => intro x hx; cases hx
  | succ k ih =>
    intro x hx
    rcases List.mem_cons.1 hx with rfl | hx
    · constructor <;> omega
    · exact ih x hx
theorem shaL_mem (xs : List Int) : ∀ x ∈ shaL xs, 0 ≤ x ∧ x ≤ 255 := by
  intro x hx
  unfold shaL wordB at hx
  simp only [List.mem_append] at hx
  rcases hx with (((h | h) | h) | h) | h
  all_goals exact highs_mem _ _ x h
theorem padL_mem {xs : List Int} (h : ∀ x ∈ xs, 0 ≤ x ∧ x ≤ 255) : ∀ x ∈ padL xs, 0 ≤ x ∧ x ≤ 255 := by
  intro x hx
  unfold padL at hx
  simp only [List.mem_append, List.mem_cons, List.mem_nil_iff, or_false] at hx
  rcases hx with ((h1 | rfl) | h1) | h1
  · exact h x h1
  · decide
  · rw [(List.mem_replicate.1 h1).2]; decide
  · exact highs_mem _ _ x h1
end Go.Proofs.YtmmicoiiklcakaaDoor

/- Plain words on what is written in base 64. -/
namespace Go.Proofs.YtmmicoiiklcakaaDoor
set_option linter.unusedVariables false

def b64Signs : ByteArray := { data := #[65, 66, 67, 68, 69, 70, 71, 72, 73, 74, 75, 76, 77, 78, 79, 80, 81, 82, 83, 84, 85, 86, 87, 88, 89, 90, 97, 98, 99, 100, 101, 102, 103, 104, 105, 106, 107, 108, 109, 110, 111, 112, 113, 114, 115, 116, 117, 118, 119, 120, 121, 122, 48, 49, 50, 51, 52, 53, 54, 55, 56, 57, 43, 47] }
/-- a group of up to three bytes as a number -/
def grpN (g : List Int) : Int := g.getD 0 0 * 65536 + g.getD 1 0 * 256 + g.getD 2 0
/-- the i-th sign of a group -/
def grpS (g : List Int) (i : Nat) : UInt8 := if g.length < i then 61 else b64Signs.data.toList.getD (grpN g / 2 ^ (18 - 6 * i) % 64).toNat 0
def grpL (g : List Int) : List UInt8 := [grpS g 0, grpS g 1, grpS g 2, grpS g 3]
/-- the group at a place -/
def grpAt (xs : List Int) (k : Nat) : List Int := (xs.drop (3 * k)).take 3
def b64N (xs : List Int) : Nat := (xs.length + 2) / 3
def b64Pre (xs : List Int) (k : Nat) : List UInt8 := (List.range k).flatMap fun i => grpL (grpAt xs i)
def b64L (xs : List Int) : List UInt8 := b64Pre xs (b64N xs)
theorem b64Pre_succ (xs : List Int) (k : Nat) : b64Pre xs (k + 1) = b64Pre xs k ++ grpL (grpAt xs k) := by simp [b64Pre, List.range_succ]
theorem b64Pre_length (xs : List Int) (k : Nat) : (b64Pre xs k).length = 4 * k := by
  induction k with
  | zero => rfl
  | succ k ih => rw [b64Pre_succ, List.length_append, ih]; simp [grpL]; omega
theorem grpN_bounds {g : List Int} (h : ∀ x ∈ g, 0 ≤ x ∧ x ≤ 255) : 0 ≤ grpN g ∧ grpN g ≤ 16777215 := by
  have k : ∀ i, 0 ≤ g.getD i 0 ∧ g.getD i 0 ≤ 255 := fun i => by
    rw [List.getD_eq_getElem?_getD]
    rcases Nat.lt_or_ge i g.length with hi | hi
    · rw [List.getElem?_eq_getElem hi]
      exact h _ (List.getElem_mem hi)
    · rw [List.getElem?_eq_none hi]
      decide
  have := k 0
  have := k 1
  have := k 2
  unfold grpN
  omega
theorem grpAt_mem {xs : List Int} (h : ∀ x ∈ xs, 0 ≤ x ∧ x ≤ 255) (k : Nat) : ∀ x ∈ grpAt xs k, 0 ≤ x ∧ x ≤ 255 :=
  fun x hx => h x (List.mem_of_mem_drop (List.mem_of_mem_take hx))
theorem grpAt_length (xs : List Int) (k : Nat) : (grpAt xs k).length = min 3 (xs.length - 3 * k) := by simp [grpAt]
theorem grpAt_getD (xs : List Int) (k i : Nat) (hi : i < 3) : (grpAt xs k).getD i 0 = xs.getD (3 * k + i) 0 := by
  unfold grpAt
  rw [List.getD_eq_getElem?_getD, List.getD_eq_getElem?_getD, List.getElem?_take, if_pos hi, List.getElem?_drop]
def b64Code (xs : List Int) : Int := if 3000 < xs.length then 2 else 0
def b64Text (xs : List Int) : ByteArray := if 3000 < xs.length then ByteArray.empty else ⟨(b64L xs).toArray⟩
end Go.Proofs.YtmmicoiiklcakaaDoor
