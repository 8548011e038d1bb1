/- Plain facts on numbers in groups of seven bits. -/
import Derived.Test.YtmgemchpclmknaaDoorBase
namespace Go.Proofs.YtmgemchpclmknaaDoor
set_option linter.unusedVariables false

theorem i64_of_wf {p : Int} (h : (Lit.int .i64 p).wf = true) : -9223372036854775808 ≤ p ∧ p ≤ 9223372036854775807 := by
  have h2 := h
  simp only [Lit.wf, Bool.and_eq_true, decide_eq_true_eq] at h2
  have a : IntKind.i64.min = -9223372036854775808 := by decide
  have b : IntKind.i64.max = 9223372036854775807 := by decide
  omega
/-- the bytes of a number -/
def vput (n : Nat) : List Int := if h : n < 128 then [(n : Int)] else (128 + (n : Int) % 128) :: vput (n / 128)
termination_by n
decreasing_by omega
theorem vput_small {n : Nat} (h : n < 128) : vput n = [(n : Int)] := by rw [vput]; simp [h]
theorem vput_big {n : Nat} (h : ¬ n < 128) : vput n = (128 + (n : Int) % 128) :: vput (n / 128) := by rw [vput]; simp [h]
theorem vput_len (k : Nat) : ∀ n : Nat, n < 128 ^ (k + 1) → (vput n).length ≤ k + 1 := by
  induction k with
  | zero => intro n h; rw [vput_small (by simpa using h)]; simp
  | succ k ih =>
    intro n h
    by_cases hs : n < 128
    · rw [vput_small hs]; simp
    · rw [vput_big hs]
      have : n / 128 < 128 ^ (k + 1) := Nat.div_lt_of_lt_mul (by rw [Nat.pow_succ] at h; omega)
      have := ih _ this
      simp
      omega
theorem vput_len9 (n : Nat) (h : n ≤ 9223372036854775807) : (vput n).length ≤ 9 := vput_len 8 n (by
  have : (128 : Nat) ^ 9 = 9223372036854775808 := by decide
  omega)
theorem vput_pos (n : Nat) : 0 < (vput n).length := by
  by_cases hs : n < 128
  · rw [vput_small hs]; simp
  · rw [vput_big hs]; simp
theorem vput_bytes : ∀ (m n : Nat), n ≤ m → ∀ x ∈ vput n, 0 ≤ x ∧ x ≤ 255 := by
  intro m
  induction m with
  | zero => intro n h x hx; rw [vput_small (by omega)] at hx; simp at hx; omega
  | succ m ih =>
    intro n h x hx
    by_cases hs : n < 128
    · rw [vput_small hs] at hx; simp at hx; omega
    · rw [vput_big hs] at hx
      simp at hx
      rcases hx with rfl | hx
      · omega
      · exact ih (n / 128) (by omega) x hx
/-- one step of the loops that put -/
theorem vput_step {N m : Nat} {zs : List Int} (h : zs ++ vput m = vput N) (hm : ¬ m < 128) : (zs ++ [128 + (m : Int) % 128]) ++ vput (m / 128) = vput N := by
  rw [← h, vput_big hm]; simp
theorem vput_last {N m : Nat} {zs : List Int} (h : zs ++ vput m = vput N) (hm : m < 128) : zs ++ [(m : Int)] = vput N := by
  rw [← h, vput_small hm]

/-- the number that bytes tell, the lowest ones first -/
def vval : List Int → Int
  | [] => 0
  | b :: r => b % 128 + 128 * vval r
theorem vval_nonneg : ∀ l : List Int, 0 ≤ vval l
  | [] => by simp [vval]
  | b :: r => by have := vval_nonneg r; simp only [vval]; omega
theorem vval_lt : ∀ l : List Int, vval l < 128 ^ l.length
  | [] => by simp [vval]
  | b :: r => by
    have h := vval_lt r
    have h0 := vval_nonneg r
    simp only [vval, List.length_cons]
    rw [Int.pow_succ]
    omega
theorem vval_le9 (l : List Int) (h : l.length ≤ 9) : vval l ≤ 9223372036854775807 := by
  have h2 := vval_lt l
  have h4 : (128 : Nat) ^ l.length ≤ 128 ^ 9 := Nat.pow_le_pow_right (by decide) h
  have h5 : (128 : Nat) ^ 9 = 9223372036854775808 := by decide
  have h6 : (128 : Int) ^ l.length = ((128 ^ l.length : Nat) : Int) := by simp
  omega
theorem vval_snoc : ∀ (l : List Int) (b : Int), vval (l ++ [b]) = vval l + b % 128 * 128 ^ l.length
  | [], b => by simp [vval]
  | a :: r, b => by
    have h := vval_snoc r b
    simp only [vval, List.cons_append, List.length_cons, h, Int.pow_succ]
    rw [Int.mul_add, Int.add_assoc]
    congr 2
    rw [Int.mul_comm (128 ^ r.length) 128, ← Int.mul_assoc, ← Int.mul_assoc, Int.mul_comm 128 (b % 128)]
theorem vval_pos : ∀ (l : List Int) (z : Int), 0 < z → z < 128 → 0 < vval (l ++ [z])
  | [], z, h, h2 => by simp [vval]; omega
  | a :: r, z, h, h2 => by have := vval_pos r z h h2; simp only [vval, List.cons_append]; omega
/-- bytes of the right form are those of their number -/
theorem vput_vval : ∀ (l : List Int) (z : Int), (∀ x ∈ l, 128 ≤ x ∧ x ≤ 255) → 0 ≤ z → z < 128 → (l = [] ∨ z ≠ 0) → vput (vval (l ++ [z])).toNat = l ++ [z]
  | [], z, _, h0, h1, _ => by
    have e : vval ([] ++ [z]) = z := by simp [vval]; omega
    rw [e, vput_small (by omega)]
    simp; omega
  | a :: r, z, hl, h0, h1, h2 => by
    have hz : z ≠ 0 := by rcases h2 with h | h; · cases h
                          · exact h
    have ha := hl a (by simp)
    have ih := vput_vval r z (fun x hx => hl x (by simp [hx])) h0 h1 (.inr hz)
    have hp := vval_pos r z (by omega) h1
    have e : vval (a :: r ++ [z]) = a % 128 + 128 * vval (r ++ [z]) := by simp [vval]
    rw [e, vput_big (by omega)]
    have e2 : (a % 128 + 128 * vval (r ++ [z])).toNat / 128 = (vval (r ++ [z])).toNat := by omega
    rw [e2, ih]
    simp
    omega
/-- the last byte is no nought, where there are more -/
theorem vput_tail : ∀ (m n : Nat), n ≤ m → ∀ (l : List Int) (z : Int), l ≠ [] → vput n = l ++ [z] → z ≠ 0 := by
  intro m
  induction m with
  | zero =>
    intro n h l z hl he
    rw [vput_small (by omega)] at he
    have := congrArg List.length he
    simp at this
    exact absurd this hl
  | succ m ih =>
    intro n h l z hl he
    by_cases hs : n < 128
    · rw [vput_small hs] at he
      have := congrArg List.length he
      simp at this
      exact absurd this hl
    · rw [vput_big hs] at he
      cases l with
      | nil => exact absurd rfl hl
      | cons a r =>
        simp only [List.cons_append, List.cons.injEq] at he
        obtain ⟨_, he⟩ := he
        by_cases hr : r = []
        · subst hr
          by_cases h2 : n / 128 < 128
          · rw [vput_small h2] at he
            simp at he
            omega
          · rw [vput_big h2] at he
            have := congrArg List.length he
            have hp := vput_pos (n / 128 / 128)
            simp at this
            rw [this] at hp
            simp at hp
        · exact ih (n / 128) (by omega) r z hr he

/-- how many bytes go on, ahead of the last one -/
def lead (bs : List Int) : Nat := ((bs.take 9).takeWhile (fun b => decide (128 ≤ b))).length
theorem lead_le (bs : List Int) : lead bs ≤ bs.length ∧ lead bs ≤ 9 := by
  unfold lead
  have h := (List.takeWhile_sublist (fun b : Int => decide (128 ≤ b)) (l := bs.take 9)).length_le
  have h2 : (bs.take 9).length ≤ 9 := by simp; omega
  have h3 : (bs.take 9).length ≤ bs.length := by simp; omega
  omega
theorem takeWhile_len {f : Int → Bool} : ∀ (l : List Int) (j : Nat), (∀ i, i < j → f (l.getD i 0) = true) → j ≤ l.length → (j < l.length → f (l.getD j 0) = false) → (l.takeWhile f).length = j
  | [], j, _, h, _ => by simp at h; simp [h]
  | a :: r, 0, _, _, h => by
    have := h (by simp)
    simp at this
    simp [this]
  | a :: r, j + 1, h, hl, hn => by
    have h0 := h 0 (by omega)
    simp at h0
    have ih := takeWhile_len r j (fun i hi => by have := h (i + 1) (by omega); simpa using this) (by simpa using hl) (fun hj => by have := hn (by simpa using hj); simpa using this)
    simp [h0, ih]
/-- j bytes go on; the next one does not, or there is none, or nine are over -/
theorem lead_is (bs : List Int) (j : Nat) (h : ∀ i, i < j → 128 ≤ bs.getD i 0) (hl : j ≤ bs.length) (h9 : j ≤ 9) (hn : j < bs.length → j < 9 → bs.getD j 0 < 128) : lead bs = j := by
  unfold lead
  have hlen : (bs.take 9).length = min 9 bs.length := by simp
  have hg : ∀ i, i < 9 → (bs.take 9).getD i 0 = bs.getD i 0 := fun i hi => by simp [List.getD_eq_getElem?_getD, hi]
  refine takeWhile_len _ j (fun i hi => ?_) (by rw [hlen]; omega) (fun hj => ?_)
  · rw [hg i (by omega)]; simpa using h i hi
  · rw [hlen] at hj
    rw [hg j (by omega)]
    simpa using hn (by omega) (by omega)
/-- the number that bytes begin with, and how many bytes it has; 0: there is none -/
def vreadOk (bs : List Int) : Bool := decide (lead bs < bs.length ∧ lead bs < 9 ∧ (lead bs = 0 ∨ bs.getD (lead bs) 0 ≠ 0))
def vreadN (bs : List Int) : Int := if vreadOk bs then vval (bs.take (lead bs + 1)) else 0
def vreadK (bs : List Int) : Nat := if vreadOk bs then lead bs + 1 else 0
theorem take_snoc_getD (bs : List Int) (k : Nat) (h : k < bs.length) : bs.take (k + 1) = bs.take k ++ [bs.getD k 0] := by
  rw [List.take_succ_eq_append_getElem h, List.getD_eq_getElem?_getD, List.getElem?_eq_getElem h]; rfl
theorem vreadN_bd (bs : List Int) : 0 ≤ vreadN bs ∧ vreadN bs ≤ 9223372036854775807 := by
  unfold vreadN
  split
  · rename_i h
    simp [vreadOk] at h
    exact ⟨vval_nonneg _, vval_le9 _ (by simp; omega)⟩
  · omega
theorem vreadK_le (bs : List Int) : vreadK bs ≤ bs.length ∧ vreadK bs ≤ 9 := by
  unfold vreadK
  split
  · rename_i h
    simp [vreadOk] at h
    omega
  · omega
/-- the bytes are those of the number, just where it is so -/
theorem vread_put (bs : List Int) (hb : ∀ i, i < bs.length → 0 ≤ bs.getD i 0 ∧ bs.getD i 0 ≤ 255) (k : Nat) (hk : k < bs.length) (h128 : ∀ i, i < k → 128 ≤ bs.getD i 0) (hz : bs.getD k 0 < 128) :
    (vput (vval (bs.take (k + 1))).toNat = bs.take (k + 1)) ↔ (k = 0 ∨ bs.getD k 0 ≠ 0) := by
  rw [take_snoc_getD bs k hk]
  have hmem : ∀ x ∈ bs.take k, 128 ≤ x ∧ x ≤ 255 := by
    intro x hx
    obtain ⟨i, hi, rfl⟩ := List.mem_iff_getElem.1 hx
    have hi2 : i < k ∧ i < bs.length := by rw [List.length_take] at hi; omega
    have e : (bs.take k)[i] = bs.getD i 0 := by simp [List.getD_eq_getElem?_getD, List.getElem?_eq_getElem hi2.2]
    rw [e]
    exact ⟨h128 i hi2.1, (hb i hi2.2).2⟩
  have hnil : bs.take k = [] ↔ k = 0 := by
    rw [List.take_eq_nil_iff]
    constructor
    · rintro (h | h)
      · exact h
      · subst h; simp at hk
    · intro h; exact .inl h
  constructor
  · intro h
    by_cases h0 : k = 0
    · exact .inl h0
    · exact .inr (vput_tail _ _ (Nat.le_refl _) _ _ (fun e => h0 (hnil.1 e)) h)
  · intro h
    exact vput_vval _ _ hmem (hb k hk).1 hz (h.imp hnil.2 id)
end Go.Proofs.YtmgemchpclmknaaDoor
