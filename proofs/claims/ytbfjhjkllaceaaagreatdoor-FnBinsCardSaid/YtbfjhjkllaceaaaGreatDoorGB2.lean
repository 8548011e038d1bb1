/- Texts laid together, part 2. -/
import Derived.Test.YtbfjhjkllaceaaaGreatDoorGB1
import Derived.Lib.MapLaws
import Derived.Laws.BytesArg
import Derived.Lib.Strings
import Derived.Lib.IndexBytes
import Derived.Laws.Strings
import Derived.Deep.RegionWith
import Derived.IntWalk

/- Plain facts on numbers in groups of seven bits. -/
namespace Go.Proofs.YtbfjhjkllaceaaaGreatDoor
set_option linter.unusedVariables false

theorem i64_of_wf {p : Int} (h : (Lit.int .i64 p).wf = true) : -9223372036854775808 ≤ p ∧ p ≤ 9223372036854775807 := by
  have h2 := h
  simp only [Lit.wf, Bool.and_eq_true, decide_eq_true_eq] at h2
  have a : IntKind.i64.min = -9223372036854775808 := by decide
  have b : IntKind.i64.max = 9223372036854775807 := by decide
  omega
/-- the bytes of a number -/
def vput (n : Nat) : List Int := if h : n < 128 then [(n : Int)] else (128 + (n : Int) % 128) :: vput (n / 128)
termination_by n
decreasing_by omega
theorem vput_small {n : Nat} (h : n < 128) : vput n = [(n : Int)] := by rw [vput]; simp [h]
theorem vput_big {n : Nat} (h : ¬ n < 128) : vput n = (128 + (n : Int) % 128) :: vput (n / 128) := by rw [vput]; simp [h]
theorem vput_len (k : Nat) : ∀ n : Nat, n < 128 ^ (k + 1) → (vput n).length ≤ k + 1 := by
  induction k with
  | zero => intro n h; rw [vput_small (by simpa using h)]; simp
  | succ k ih =>
    intro n h
    by_cases hs : n < 128
    · rw [vput_small hs]; simp
    · rw [vput_big hs]
      have : n / 128 < 128 ^ (k + 1) := Nat.div_lt_of_lt_mul (by rw [Nat.pow_succ] at h; omega)
      have := ih _ this
      simp
      omega
theorem vput_len9 (n : Nat) (h : n ≤ 9223372036854775807) : (vput n).length ≤ 9 := vput_len 8 n (by
  have : (128 : Nat) ^ 9 = 9223372036854775808 := by decide
  omega)
theorem vput_pos (n : Nat) : 0 < (vput n).length := by
  by_cases hs : n < 128
  · rw [vput_small hs]; simp
  · rw [vput_big hs]; simp
theorem vput_bytes : ∀ (m n : Nat), n ≤ m → ∀ x ∈ vput n, 0 ≤ x ∧ x ≤ 255 := by
  intro m
  induction m with
  | zero => intro n h x hx; rw [vput_small (by omega)] at hx; simp at hx; omega
  | succ m ih =>
    intro n h x hx
    by_cases hs : n < 128
    · rw [vput_small hs] at hx; simp at hx; omega
    · rw [vput_big hs] at hx
      simp at hx
      rcases hx with rfl | hx
      · omega
      · exact ih (n / 128) (by omega) x hx
/-- one step of the loops that put -/
theorem vput_step {N m : Nat} {zs : List Int} (h : zs ++ vput m = vput N) (hm : ¬ m < 128) : (zs ++ [128 + (m : Int) % 128]) ++ vput (m / 128) = vput N := by
  rw [← h, vput_big hm]; simp
theorem vput_last {N m : Nat} {zs : List Int} (h : zs ++ vput m = vput N) (hm : m < 128) : zs ++ [(m : Int)] = vput N := by
  rw [← h, vput_small hm]

/-- the number that bytes tell, the lowest ones first -/
def vval : List Int → Int
  | [] => 0
  | b :: r => b % 128 + 128 * vval r
theorem vval_nonneg : ∀ l : List Int, 0 ≤ vval l
  | [] => by simp [vval]
  | b :: r => by have := vval_nonneg r; simp only [vval]; omega
theorem vval_lt : ∀ l : List Int, vval l < 128 ^ l.length
  | [] => by simp [vval]
  | b :: r => by
    have h := vval_lt r
    have h0 := vval_nonneg r
    simp only [vval, List.length_cons]
    rw [Int.pow_succ]
    omega
theorem vval_le9 (l : List Int) (h : l.length ≤ 9) : vval l ≤ 9223372036854775807 := by
  have h2 := vval_lt l
  have h4 : (128 : Nat) ^ l.length ≤ 128 ^ 9 := Nat.pow_le_pow_right (by decide) h
  have h5 : (128 : Nat) ^ 9 = 9223372036854775808 := by decide
  have h6 : (128 : Int) ^ l.length = ((128 ^ l.length : Nat) : Int) := by simp
  omega
theorem vval_snoc : ∀ (l : List Int) (b : Int), vval (l ++ [b]) = vval l + b % 128 * 128 ^ l.length
  | [], b => by simp [vval]
  | a :: r, b => by
    have h := vval_snoc r b
    simp only [vval, List.cons_append, List.length_cons, h, Int.pow_succ]
    rw [Int.mul_add, Int.add_assoc]
    congr 2
    rw [Int.mul_comm (128 ^ r.length) 128, ← Int.mul_assoc, ← Int.mul_assoc, Int.mul_comm 128 (b % 128)]
theorem vval_pos : ∀ (l : List Int) (z : Int), 0 < z → z < 128 → 0 < vval (l ++ [z])
  | [], z, h, h2 => by simp [vval]; omega
  | a :: r, z, h, h2 => by have := vval_pos r z h h2; simp only [vval, List.cons_append]; omega
/-- bytes of the right form are those of their number -/
theorem vput_vval : ∀ (l : List Int) (z : Int), (∀ x ∈ l, 128 ≤ x ∧ x ≤ 255) → 0 ≤ z → z < 128 → (l = [] ∨ z ≠ 0) → vput (vval (l ++ [z])).toNat = l ++ [z]
  | [], z, _, h0, h1, _ => by
    have e : vval ([] ++ [z]) = z := by simp [vval]; omega
    rw [e, vput_small (by omega)]
    simp; omega
  | a :: r, z, hl, h0, h1, h2 => by
    have hz : z ≠ 0 := by rcases h2 with h | h; · cases h
                          · exact h
    have ha := hl a (by simp)
    have ih := vput_vval r z (fun x hx => hl x (by simp [hx])) h0 h1 (.inr hz)
    have hp := vval_pos r z (by omega) h1
    have e : vval (a :: r ++ [z]) = a % 128 + 128 * vval (r ++ [z]) := by simp [vval]
    rw [e, vput_big (by omega)]
    have e2 : (a % 128 + 128 * vval (r ++ [z])).toNat / 128 = (vval (r ++ [z])).toNat := by omega
    rw [e2, ih]
    simp
    omega
/-- the last byte is no nought, where there are more -/
theorem vput_tail : ∀ (m n : Nat), n ≤ m → ∀ (l : List Int) (z : Int), l ≠ [] → vput n = l ++ [z] → z ≠ 0 := by
  intro m
  induction m with
  | zero =>
    intro n h l z hl he
    rw [vput_small (by omega)] at he
    have := congrArg List.length he
    simp at this
    exact absurd this hl
  | succ m ih =>
    intro n h l z hl he
    by_cases hs : n < 128
    · rw [vput_small hs] at he
      have := congrArg List.length he
      simp at this
      exact absurd this hl
    · rw [vput_big hs] at he
      cases l with
      | nil => exact absurd rfl hl
      | cons a r =>
        simp only [List.cons_append, List.cons.injEq] at he
        obtain ⟨_, he⟩ := he
        by_cases hr : r = []
        · subst hr
          by_cases h2 : n / 128 < 128
          · rw [vput_small h2] at he
            simp at he
            omega
          · rw [vput_big h2] at he
            have := congrArg List.length he
            have hp := vput_pos (n / 128 / 128)
            simp at this
            rw [this] at hp
            simp at hp
        · exact ih (n / 128) (by omega) r z hr he

/-- how many bytes go on, ahead of the last one -/
def lead (bs : List Int) : Nat := ((bs.take 9).takeWhile (fun b => decide (128 ≤ b))).length
theorem lead_le (bs : List Int) : lead bs ≤ bs.length ∧ lead bs ≤ 9 := by
  unfold lead
  have h := (List.takeWhile_sublist (fun b : Int => decide (128 ≤ b)) (l := bs.take 9)).length_le
  have h2 : (bs.take 9).length ≤ 9 := by simp; omega
  have h3 : (bs.take 9).length ≤ bs.length := by simp; omega
  omega
theorem takeWhile_len {f : Int → Bool} : ∀ (l : List Int) (j : Nat), (∀ i, i < j → f (l.getD i 0) = true) → j ≤ l.length → (j < l.length → f (l.getD j 0) = false) → (l.takeWhile f).length = j
  | [], j, _, h, _ => by simp at h; simp [h]
  | a :: r, 0, _, _, h => by
    have := h (by simp)
    simp at this
    simp [this]
  | a :: r, j + 1, h, hl, hn => by
    have h0 := h 0 (by omega)
    simp at h0
    have ih := takeWhile_len r j (fun i hi => by have := h (i + 1) (by omega); simpa using this) (by simpa using hl) (fun hj => by have := hn (by simpa using hj); simpa using this)
    simp [h0, ih]
/-- j bytes go on; the next one does not, or there is none, or nine are over -/
theorem lead_is (bs : List Int) (j : Nat) (h : ∀ i, i < j → 128 ≤ bs.getD i 0) (hl : j ≤ bs.length) (h9 : j ≤ 9) (hn : j < bs.length → j < 9 → bs.getD j 0 < 128) : lead bs = j := by
  unfold lead
  have hlen : (bs.take 9).length = min 9 bs.length := by simp
  have hg : ∀ i, i < 9 → (bs.take 9).getD i 0 = bs.getD i 0 := fun i hi => by simp [List.getD_eq_getElem?_getD, hi]
  refine takeWhile_len _ j (fun i hi => ?_) (by rw [hlen]; omega) (fun hj => ?_)
  · rw [hg i (by omega)]; simpa using h i hi
  · rw [hlen] at hj
    rw [hg j (by omega)]
    simpa using hn (by omega) (by omega)
/-- the number that bytes begin with, and how many bytes it has; 0: there is none -/
def vreadOk (bs : List Int) : Bool := decide (lead bs < bs.length ∧ lead bs < 9 ∧ (lead bs = 0 ∨ bs.getD (lead bs) 0 ≠ 0))
def vreadN (bs : List Int) : Int := if vreadOk bs then vval (bs.take (lead bs + 1)) else 0
def vreadK (bs : List Int) : Nat := if vreadOk bs then lead bs + 1 else 0
theorem take_snoc_getD (bs : List Int) (k : Nat) (h : k < bs.length) : bs.take (k + 1) = bs.take k ++ [bs.getD k 0] := by
  rw [List.take_succ_eq_append_getElem h, List.getD_eq_getElem?_getD, List.getElem?_eq_getElem h]; rfl
theorem vreadN_bd (bs : List Int) : 0 ≤ vreadN bs ∧ vreadN bs ≤ 9223372036854775807 := by
  unfold vreadN
  split
  · rename_i h
    simp [vreadOk] at h
    exact ⟨vval_nonneg _, vval_le9 _ (by simp; omega)⟩
  · omega
theorem vreadK_le (bs : List Int) : vreadK bs ≤ bs.length ∧ vreadK bs ≤ 9 := by
  unfold vreadK
  split
  · rename_i h
    simp [vreadOk] at h
    omega
  · omega
/-- the bytes are those of the number, just where it is so -/
theorem vread_put (bs : List Int) (hb : ∀ i, i < bs.length → 0 ≤ bs.getD i 0 ∧ bs.getD i 0 ≤ 255) (k : Nat) (hk : k < bs.length) (h128 : ∀ i, i < k → 128 ≤ bs.getD i 0) (hz : bs.getD k 0 < 128) :
    (vput (vval (bs.take (k + 1))).toNat = bs.take (k + 1)) ↔ (k = 0 ∨ bs.getD k 0 ≠ 0) := by
  rw [take_snoc_getD bs k hk]
  have hmem : ∀ x ∈ bs.take k, 128 ≤ x ∧ x ≤ 255 := by
    intro x hx
    obtain ⟨i, hi, rfl⟩ := List.mem_iff_getElem.1 hx
    have hi2 : i < k ∧ i < bs.length := by rw [List.length_take] at hi; omega
    have e : (bs.take k)[i] = bs.getD i 0 := by simp [List.getD_eq_getElem?_getD, List.getElem?_eq_getElem hi2.2]
    rw [e]
    exact ⟨h128 i hi2.1, (hb i hi2.2).2⟩
  have hnil : bs.take k = [] ↔ k = 0 := by
    rw [List.take_eq_nil_iff]
    constructor
    · rintro (h | h)
      · exact h
      · subst h; simp at hk
    · intro h; exact .inl h
  constructor
  · intro h
    by_cases h0 : k = 0
    · exact .inl h0
    · exact .inr (vput_tail _ _ (Nat.le_refl _) _ _ (fun e => h0 (hnil.1 e)) h)
  · intro h
    exact vput_vval _ _ hmem (hb k hk).1 hz (h.imp hnil.2 id)
end Go.Proofs.YtbfjhjkllaceaaaGreatDoor

/- Contract of the model's l2Put. -/
namespace Go.Proofs.YtbfjhjkllaceaaaGreatDoor
open Go.ChangeShapes Go.WideShapes Go.ChangeAt Go.RowKit
set_option linter.unusedVariables false

theorem varInfo : (Tryz.prog.info? 5).map (fun i => (i.zero, i.size, i.bytes)) = some (some (.int .u8 0), 1, 1) := by kernel_rfl

theorem vint {k : IntKind} {a b : Int} (h : a = b) : Value.int k a = .int k b := by rw [h]

set_option maxRecDepth 100000 in
set_option maxHeartbeats 1600000 in
theorem l2Put_any (N : Nat) (hN : N ≤ 9223372036854775807) (w : World) :
    Calls Tryz.prog 53 #[.int .i64 N] w (OwnsRes w 5 .u8 (vput N)) := by
  obtain ⟨i0, hi, hz0, hz1, hz2⟩ := info_parts varInfo
  have h9 := vput_len9 N hN
  have HN := Lib.hid hN
  clear hN
  go_enter Tryz.func53, Tryz.ntmps53
  go_wp2
  go_loopw [0, 3] (fun q v wr => ∃ (m j : Nat) (a' : Option Addr) (c' : Nat) (zs : List Int), q = .int .i64 m ∧ m ≤ N ∧ zs ++ vput m = vput N ∧ v = .slice a' j c' ∧ wr.ownsRow w.heap.size 5 1 (.slice a' j c') j (zs.map (Value.int .u8)) ∧ Below w.heap.size w wr) (fun q _ _ => (intOf q).toNat)
  case atStart => exact ⟨N, 0, _, _, [], rfl, Nat.le_refl _, rfl, rfl, lit_owns w _ .u8 [] 0 rfl (by decide), below1 w _⟩
  case round =>
    obtain ⟨m, j, a', c', zs, rfl, hm, hz, rfl, ho, hb⟩ := hrel
    have hj : j ≤ 9 := by have := congrArg List.length hz; have := owns_length ho; simp at *; omega
    have HZ := Lib.hid hz
    have HO := Lib.hid ho
    have HB := Lib.hid hb
    clear hz ho hb
    by_cases h128 : m < 128
    · go_wp2_with (at_builtin; refine wpList_append_own _ rfl _ _ 22 rfl w.heap.size 5 i0 (.int .u8 0) 1 1 Tryz.underlying22 hi hz0 hz1 hz2 rfl (by decide) _ _ _ rfl (HO.out.alloc _) ⟨wr.heap.size, 0, none⟩ 1 1 [.int .u8 (m : Int)] rfl rfl ?c1 ?c2 ?c3 ?c4 ?c5 ?_)
      case c1 =>
        intro j v hj
        match j, hj with
        | 0, hj => simp at hj; subst hj; simp [Addr.add]
      case c2 => intro v hv; simp at hv; subst hv; rfl
      case c3 => unfold maxLen; omega
      case c4 => omega
      case c5 => have := HB.out.size; simp; omega
      intro v' w2 hown' hgrow _
      obtain ⟨a2, c2, rfl⟩ := owns_slice hown'
      have HB2 := Lib.hid (below_appended HB.out HO.out hgrow)
      have HO2 := Lib.hid hown'
      clear hown' hgrow
      go_wp2
      go_ret
      exact ⟨a2, _, c2, rfl, by rw [← vput_last HZ.out h128, List.map_append]; exact HO2.out, HB2.out⟩
    · have q1 : 0 ≤ (m : Int) % 128 := by omega
      have q2 : (m : Int) % 128 < 128 := by omega
      have q3 : (m : Int) / 128 ≤ 72057594037927936 := by have := HN.out; omega
      have q4 : 0 ≤ (m : Int) / 128 := by omega
      go_wp2_with (at_builtin; refine wpList_append_own _ rfl _ _ 22 rfl w.heap.size 5 i0 (.int .u8 0) 1 1 Tryz.underlying22 hi hz0 hz1 hz2 rfl (by decide) _ _ _ rfl (HO.out.alloc _) ⟨wr.heap.size, 0, none⟩ 1 1 [.int .u8 (128 + (m : Int) % 128)] rfl rfl ?d1 ?d2 ?d3 ?d4 ?d5 ?_)
      case d1 =>
        intro j v hj
        match j, hj with
        | 0, hj => simp at hj; subst hj; simp [Addr.add]
      case d2 => intro v hv; simp at hv; subst hv; rfl
      case d3 => unfold maxLen; omega
      case d4 => omega
      case d5 => have := HB.out.size; simp; omega
      intro v' w2 hown' hgrow _
      obtain ⟨a2, c2, rfl⟩ := owns_slice hown'
      have HB2 := Lib.hid (below_appended HB.out HO.out hgrow)
      have HO2 := Lib.hid hown'
      clear hown' hgrow
      go_wp2
      go_roundw
      case rel => exact ⟨m / 128, j + 1, a2, c2, zs ++ [128 + (m : Int) % 128], vint (by omega), by omega, vput_step HZ.out h128, rfl, by rw [List.map_append]; exact HO2.out, HB2.out⟩
      case measure => simp [intOf]; omega

end Go.Proofs.YtbfjhjkllaceaaaGreatDoor

/- Plain words on points in bytes: no run in this text. -/
namespace Go.Proofs.YtbfjhjkllaceaaaGreatDoor
open Go.Lib
set_option linter.unusedVariables false

/-- the bytes begin with no point -/
def badB (l : List UInt8) : Bool := decide ((decodeL l).1 = 65533 ∧ (decodeL l).2 = 1)
/-- the points of the bytes, each with true; what is none: false, and the end -/
def strmF : Nat → List UInt8 → List (Int × Bool)
  | 0, _ => []
  | f + 1, l => if l = [] then [] else if badB l then [(0, false)] else (((decodeL l).1 : Int), true) :: strmF f (l.drop (decodeL l).2)
def strm (l : List UInt8) : List (Int × Bool) := strmF l.length l
theorem strmF_nil : ∀ f, strmF f [] = []
  | 0 => rfl
  | _ + 1 => by simp [strmF]
theorem drop_lt (l : List UInt8) (h : l ≠ []) : (l.drop (decodeL l).2).length < l.length := by
  have h1 := decodeL_width l
  have h2 : 0 < l.length := List.length_pos_iff.2 h
  rw [List.length_drop]
  omega
theorem strmF_fuel : ∀ (n m : Nat) (l : List UInt8), l.length ≤ n → l.length ≤ m → strmF n l = strmF m l
  | 0, m, l, hn, _ => by
    have : l = [] := List.eq_nil_of_length_eq_zero (by omega)
    subst this
    rw [strmF_nil, strmF_nil]
  | n + 1, 0, l, _, hm => by
    have : l = [] := List.eq_nil_of_length_eq_zero (by omega)
    subst this
    rw [strmF_nil, strmF_nil]
  | n + 1, m + 1, l, hn, hm => by
    by_cases h : l = []
    · subst h
      rw [strmF_nil, strmF_nil]
    · have := drop_lt l h
      simp only [strmF, if_neg h]
      rw [strmF_fuel n m _ (by omega) (by omega)]
theorem strm_nil : strm [] = [] := rfl
theorem strm_bad (l : List UInt8) (h : l ≠ []) (hb : badB l = true) : strm l = [(0, false)] := by
  unfold strm
  obtain ⟨k, hk⟩ : ∃ k, l.length = k + 1 := ⟨l.length - 1, by have : 0 < l.length := List.length_pos_iff.2 h; omega⟩
  rw [hk]
  simp [strmF, h, hb]
theorem strm_step (l : List UInt8) (h : l ≠ []) (hb : badB l = false) : strm l = (((decodeL l).1 : Int), true) :: strm (l.drop (decodeL l).2) := by
  have hd := drop_lt l h
  unfold strm
  obtain ⟨k, hk⟩ : ∃ k, l.length = k + 1 := ⟨l.length - 1, by have : 0 < l.length := List.length_pos_iff.2 h; omega⟩
  rw [hk]
  simp only [strmF, if_neg h, hb]
  rw [strmF_fuel k _ _ (by omega) (Nat.le_refl _)]
  rfl
theorem strm_length_le : ∀ (n : Nat) (l : List UInt8), l.length ≤ n → (strm l).length ≤ l.length
  | 0, l, h => by
    have : l = [] := List.eq_nil_of_length_eq_zero (by omega)
    subst this
    simp [strm_nil]
  | n + 1, l, h => by
    by_cases h0 : l = []
    · subst h0; simp [strm_nil]
    · have hp : 0 < l.length := List.length_pos_iff.2 h0
      cases hb : badB l
      · rw [strm_step l h0 hb, List.length_cons]
        have hd := drop_lt l h0
        have := strm_length_le n (l.drop (decodeL l).2) (by omega)
        omega
      · rw [strm_bad l h0 hb]
        simp
        omega
theorem strm_len (l : List UInt8) : (strm l).length ≤ l.length := strm_length_le _ l (Nat.le_refl _)

/-- the points, or none -/
def pts (l : List UInt8) : Option (List Int) := if (strm l).all (·.2) then some ((strm l).map (·.1)) else none
/-- all are characters -/
def goodB (x : Int × Bool) : Bool := x.2 && charB x.1
def charsB (l : List UInt8) : Bool := (strm l).all goodB
/-- the text's fault -/
def textFault (l : List UInt8) : Int := if 60 < l.length then 2 else if charsB l then 0 else 5
/-- PointsOf: its code and its list -/
def ptsCode (l : List UInt8) : Int := if 4000 < l.length then 2 else if (pts l).isSome then 0 else 5
def ptsList (l : List UInt8) : List Int := if 4000 < l.length then [] else (pts l).getD []

/-! What the bytes' first one tells, and what the rest of them must be. -/
def by' (l : List UInt8) (i : Nat) : Int := ((l.getD i 0).toNat : Int)
def leadN (b : Int) : Nat := if b < 128 then 1 else if 192 ≤ b ∧ b < 224 then 2 else if 224 ≤ b ∧ b < 240 then 3 else if 240 ≤ b ∧ b < 248 then 4 else 0
def leadP (b : Int) : Int := if b < 128 then b else if 192 ≤ b ∧ b < 224 then b - 192 else if 224 ≤ b ∧ b < 240 then b - 224 else if 240 ≤ b ∧ b < 248 then b - 240 else 0
/-- the number that k bytes tell -/
def foldP (l : List UInt8) : Nat → Int
  | 0 => leadP (by' l 0)
  | 1 => leadP (by' l 0)
  | k + 2 => foldP l (k + 1) * 64 + by' l (k + 1) % 64
def bytesI (l : List UInt8) : List Int := l.map fun c => (c.toNat : Int)

theorem bad_lead (l : List UInt8) (h : l ≠ []) (hl : leadN (by' l 0) = 0 ∨ l.length < leadN (by' l 0)) : badB l = true := by
  have hp : 0 < l.length := List.length_pos_iff.2 h
  have k0 := (l.getD 0 0).toNat_lt
  unfold badB
  rw [decodeL_N]
  unfold leadN by' at hl
  rcases decodeN_shape l.length (l.getD 0 0).toNat (l.getD 1 0).toNat (l.getD 2 0).toNat (l.getD 3 0).toNat with ⟨c, e⟩ | ⟨c1, c2, c3, cv, e⟩ | ⟨c1, c2, c3, c4, cv, cs, e⟩ | ⟨c1, c2, c3, c4, c5, cv, cw, e⟩ | e
  · exfalso
    rw [if_pos (by omega)] at hl
    omega
  · exfalso
    rw [if_neg (by omega), if_pos (by omega)] at hl
    omega
  · exfalso
    rw [if_neg (by omega), if_neg (by omega), if_pos (by omega)] at hl
    omega
  · exfalso
    rw [if_neg (by omega), if_neg (by omega), if_neg (by omega), if_pos (by omega)] at hl
    omega
  · rw [e]
    simp

theorem dec1 (n b0 b1 b2 b3 : Nat) (h : b0 < 128) : decodeN n b0 b1 b2 b3 = (b0, 1) := by simp [decodeN, h]
theorem dec2 (n b0 b1 b2 b3 : Nat) (h : 192 ≤ b0 ∧ b0 < 224) (hn : 1 < n) (h1 : b1 < 256) :
    decodeN n b0 b1 b2 b3 = if b1 / 64 = 2 ∧ 128 ≤ b0 % 32 * 64 + b1 % 64 then (b0 % 32 * 64 + b1 % 64, 2) else (65533, 1) := by
  unfold decodeN
  repeat' split
  all_goals first | rfl | (exfalso; omega)
set_option maxRecDepth 100000 in
set_option maxHeartbeats 1000000 in
theorem dec3 (n b0 b1 b2 b3 : Nat) (h : 224 ≤ b0 ∧ b0 < 240) (hn : 2 < n) (h1 : b1 < 256) (h2 : b2 < 256) :
    decodeN n b0 b1 b2 b3 = if b1 / 64 = 2 ∧ b2 / 64 = 2 ∧ 2048 ≤ b0 % 16 * 4096 + b1 % 64 * 64 + b2 % 64 ∧ ¬ (55296 ≤ b0 % 16 * 4096 + b1 % 64 * 64 + b2 % 64 ∧ b0 % 16 * 4096 + b1 % 64 * 64 + b2 % 64 ≤ 57343) then (b0 % 16 * 4096 + b1 % 64 * 64 + b2 % 64, 3) else (65533, 1) := by
  unfold decodeN
  repeat' split
  all_goals first | rfl | (exfalso; omega)
set_option maxRecDepth 100000 in
set_option maxHeartbeats 1000000 in
theorem dec4 (n b0 b1 b2 b3 : Nat) (h : 240 ≤ b0 ∧ b0 < 248) (hn : 3 < n) (h1 : b1 < 256) (h2 : b2 < 256) (h3 : b3 < 256) :
    decodeN n b0 b1 b2 b3 = if b1 / 64 = 2 ∧ b2 / 64 = 2 ∧ b3 / 64 = 2 ∧ 65536 ≤ b0 % 8 * 262144 + b1 % 64 * 4096 + b2 % 64 * 64 + b3 % 64 ∧ b0 % 8 * 262144 + b1 % 64 * 4096 + b2 % 64 * 64 + b3 % 64 ≤ 1114111 then (b0 % 8 * 262144 + b1 % 64 * 4096 + b2 % 64 * 64 + b3 % 64, 4) else (65533, 1) := by
  unfold decodeN
  repeat' split
  all_goals first | rfl | (exfalso; omega)

theorem pointB_iff (p : Int) : pointB p = true ↔ (0 ≤ p ∧ p ≤ 1114111) ∧ ¬ (55296 ≤ p ∧ p ≤ 57343) := by
  simp [pointB, inB]
  omega
theorem enc_cases (p : Int) (h : pointB p = true) :
    (p < 128 ∧ encodeRuneZ p = [p]) ∨ (128 ≤ p ∧ p < 2048 ∧ encodeRuneZ p = [192 + p / 64, 128 + p % 64]) ∨
    (2048 ≤ p ∧ p < 65536 ∧ encodeRuneZ p = [224 + p / 4096, 128 + p / 64 % 64, 128 + p % 64]) ∨ (65536 ≤ p ∧ encodeRuneZ p = [240 + p / 262144, 128 + p / 4096 % 64, 128 + p / 64 % 64, 128 + p % 64]) := by
  have := (pointB_iff p).1 h
  by_cases c1 : p < 128
  · exact .inl ⟨c1, encodeRuneZ_one (by omega) (by omega)⟩
  · by_cases c2 : p < 2048
    · exact .inr (.inl ⟨by omega, c2, encodeRuneZ_two (by omega) (by omega)⟩)
    · by_cases c3 : p < 65536
      · exact .inr (.inr (.inl ⟨by omega, c3, encodeRuneZ_three (by omega)⟩))
      · exact .inr (.inr (.inr ⟨by omega, encodeRuneZ_four (by omega) (by omega)⟩))

/-- the test that the model makes, as a proposition -/
def FirstOk (l : List UInt8) (n : Nat) : Prop := pointB (foldP l n) = true ∧ encodeRuneZ (foldP l n) = bytesI (l.take n)

theorem leadP_1 {b : Int} (h : b < 128) : leadP b = b := by simp [leadP, h]
theorem leadP_2 {b : Int} (h : 192 ≤ b ∧ b < 224) : leadP b = b - 192 := by
  unfold leadP
  rw [if_neg (by omega), if_pos h]
theorem leadP_3 {b : Int} (h : 224 ≤ b ∧ b < 240) : leadP b = b - 224 := by
  unfold leadP
  rw [if_neg (by omega), if_neg (by omega), if_pos h]
theorem leadP_4 {b : Int} (h : 240 ≤ b ∧ b < 248) : leadP b = b - 240 := by
  unfold leadP
  rw [if_neg (by omega), if_neg (by omega), if_neg (by omega), if_pos h]
theorem foldP_1 (l : List UInt8) : foldP l 1 = leadP (by' l 0) := rfl
theorem foldP_2 (l : List UInt8) : foldP l 2 = leadP (by' l 0) * 64 + by' l 1 % 64 := rfl
theorem foldP_3 (l : List UInt8) : foldP l 3 = (leadP (by' l 0) * 64 + by' l 1 % 64) * 64 + by' l 2 % 64 := rfl
theorem foldP_4 (l : List UInt8) : foldP l 4 = ((leadP (by' l 0) * 64 + by' l 1 % 64) * 64 + by' l 2 % 64) * 64 + by' l 3 % 64 := rfl

/-! The four lengths, over plain numbers. -/
theorem num1 (b0 : Nat) (h : b0 < 128) : pointB (b0 : Int) = true ∧ encodeRuneZ (b0 : Int) = [(b0 : Int)] :=
  ⟨(pointB_iff _).2 (by omega), encodeRuneZ_one (by omega) (by omega)⟩
theorem num2 (b0 b1 p : Nat) (h : 192 ≤ b0 ∧ b0 < 224) (h1 : b1 < 256) (hp : p = b0 % 32 * 64 + b1 % 64) :
    (pointB (p : Int) = true ∧ encodeRuneZ (p : Int) = [(b0 : Int), (b1 : Int)]) ↔ (b1 / 64 = 2 ∧ 128 ≤ p) := by
  constructor
  · rintro ⟨a, e⟩
    rcases enc_cases _ a with ⟨c, e'⟩ | ⟨c, d, e'⟩ | ⟨c, d, e'⟩ | ⟨c, e'⟩ <;> rw [e'] at e <;> simp at e <;> omega
  · rintro ⟨a, b⟩
    refine ⟨(pointB_iff _).2 (by omega), ?_⟩
    rw [encodeRuneZ_two (by omega) (by omega)]
    simp
    omega
theorem num3 (b0 b1 b2 p : Nat) (h : 224 ≤ b0 ∧ b0 < 240) (h1 : b1 < 256) (h2 : b2 < 256) (hp : p = b0 % 16 * 4096 + b1 % 64 * 64 + b2 % 64) :
    (pointB (p : Int) = true ∧ encodeRuneZ (p : Int) = [(b0 : Int), (b1 : Int), (b2 : Int)]) ↔ (b1 / 64 = 2 ∧ b2 / 64 = 2 ∧ 2048 ≤ p ∧ ¬ (55296 ≤ p ∧ p ≤ 57343)) := by
  constructor
  · rintro ⟨a, e⟩
    have a' := (pointB_iff _).1 a
    rcases enc_cases _ a with ⟨c, e'⟩ | ⟨c, d, e'⟩ | ⟨c, d, e'⟩ | ⟨c, e'⟩ <;> rw [e'] at e <;> simp at e <;> omega
  · rintro ⟨a, b, c, d⟩
    refine ⟨(pointB_iff _).2 (by omega), ?_⟩
    rw [encodeRuneZ_three (by omega)]
    simp
    omega
theorem num4 (b0 b1 b2 b3 p : Nat) (h : 240 ≤ b0 ∧ b0 < 248) (h1 : b1 < 256) (h2 : b2 < 256) (h3 : b3 < 256) (hp : p = b0 % 8 * 262144 + b1 % 64 * 4096 + b2 % 64 * 64 + b3 % 64) :
    (pointB (p : Int) = true ∧ encodeRuneZ (p : Int) = [(b0 : Int), (b1 : Int), (b2 : Int), (b3 : Int)]) ↔ (b1 / 64 = 2 ∧ b2 / 64 = 2 ∧ b3 / 64 = 2 ∧ 65536 ≤ p ∧ p ≤ 1114111) := by
  constructor
  · rintro ⟨a, e⟩
    have a' := (pointB_iff _).1 a
    rcases enc_cases _ a with ⟨c, e'⟩ | ⟨c, d, e'⟩ | ⟨c, d, e'⟩ | ⟨c, e'⟩ <;> rw [e'] at e <;> simp at e <;> omega
  · rintro ⟨a, b, c, d, e⟩
    refine ⟨(pointB_iff _).2 (by omega), ?_⟩
    rw [encodeRuneZ_four (by omega) (by omega)]
    simp
    omega

def FirstIs (l : List UInt8) (n : Nat) : Prop := (FirstOk l n ↔ badB l = false) ∧ (badB l = false → ((decodeL l).1 : Int) = foldP l n ∧ (decodeL l).2 = n)
theorem bad_of (l : List UInt8) {c : Prop} [Decidable c] {p n : Nat} (hd : decodeL l = if c then (p, n) else (65533, 1)) (hn : c → ¬ (p = 65533 ∧ n = 1)) : badB l = false ↔ c := by
  unfold badB
  rw [hd]
  by_cases hc : c
  · rw [if_pos hc]
    have := hn hc
    simp only [decide_eq_false_iff_not]
    exact ⟨fun _ => hc, fun _ => this⟩
  · rw [if_neg hc]
    simp [hc]
theorem first_of (l : List UInt8) {c : Prop} [Decidable c] {p n : Nat} (hd : decodeL l = if c then (p, n) else (65533, 1)) (hn : c → ¬ (p = 65533 ∧ n = 1)) (hf : foldP l n = (p : Int))
    (ho : (pointB (p : Int) = true ∧ encodeRuneZ (p : Int) = bytesI (l.take n)) ↔ c) : FirstIs l n := by
  have hb := bad_of l hd hn
  refine ⟨?_, fun h => ?_⟩
  · unfold FirstOk
    rw [hf, ho, hb]
  · rw [hd, if_pos (hb.1 h), hf]
    exact ⟨rfl, rfl⟩

theorem first1 (l : List UInt8) (h : l ≠ []) (hb : by' l 0 < 128) : FirstIs l 1 := by
  have hp : 0 < l.length := List.length_pos_iff.2 h
  have hd := decodeL_N l
  have hb' : (l.getD 0 0).toNat < 128 := by unfold by' at hb; omega
  rw [dec1 _ _ _ _ _ hb'] at hd
  refine first_of (c := True) l (p := (l.getD 0 0).toNat) (by rw [hd, if_pos trivial]) (fun _ => by omega) (by rw [foldP_1, leadP_1 hb]; rfl) ?_
  rw [takeA l hp]
  exact ⟨fun _ => trivial, fun _ => num1 _ hb'⟩
theorem first2 (l : List UInt8) (hl : 2 ≤ l.length) (hb : 192 ≤ by' l 0 ∧ by' l 0 < 224) : FirstIs l 2 := by
  have k1 := (l.getD 1 0).toNat_lt
  have hd := decodeL_N l
  have hb' : 192 ≤ (l.getD 0 0).toNat ∧ (l.getD 0 0).toNat < 224 := by unfold by' at hb; omega
  rw [dec2 _ _ _ _ _ hb' (by omega) k1] at hd
  refine first_of l hd (fun _ => by omega) (by rw [foldP_2, leadP_2 hb]; unfold by'; omega) ?_
  rw [takeB l (by omega)]
  exact num2 _ _ _ hb' k1 rfl
theorem first3 (l : List UInt8) (hl : 3 ≤ l.length) (hb : 224 ≤ by' l 0 ∧ by' l 0 < 240) : FirstIs l 3 := by
  have k1 := (l.getD 1 0).toNat_lt
  have k2 := (l.getD 2 0).toNat_lt
  have hd := decodeL_N l
  have hb' : 224 ≤ (l.getD 0 0).toNat ∧ (l.getD 0 0).toNat < 240 := by unfold by' at hb; omega
  rw [dec3 _ _ _ _ _ hb' (by omega) k1 k2] at hd
  refine first_of l hd (fun _ => by omega) (by rw [foldP_3, leadP_3 hb]; unfold by'; omega) ?_
  rw [takeC l (by omega)]
  exact num3 _ _ _ _ hb' k1 k2 rfl
theorem first4 (l : List UInt8) (hl : 4 ≤ l.length) (hb : 240 ≤ by' l 0 ∧ by' l 0 < 248) : FirstIs l 4 := by
  have k1 := (l.getD 1 0).toNat_lt
  have k2 := (l.getD 2 0).toNat_lt
  have k3 := (l.getD 3 0).toNat_lt
  have hd := decodeL_N l
  have hb' : 240 ≤ (l.getD 0 0).toNat ∧ (l.getD 0 0).toNat < 248 := by unfold by' at hb; omega
  rw [dec4 _ _ _ _ _ hb' (by omega) k1 k2 k3] at hd
  refine first_of l hd (fun _ => by omega) (by rw [foldP_4, leadP_4 hb]; unfold by'; omega) ?_
  rw [takeD l (by omega)]
  exact num4 _ _ _ _ _ hb' k1 k2 k3 rfl

theorem first_is (l : List UInt8) (h : l ≠ []) (hn : leadN (by' l 0) ≠ 0) (hl : leadN (by' l 0) ≤ l.length) : FirstIs l (leadN (by' l 0)) := by
  by_cases a1 : by' l 0 < 128
  · have e : leadN (by' l 0) = 1 := by simp [leadN, a1]
    rw [e]
    exact first1 l h a1
  · by_cases a2 : 192 ≤ by' l 0 ∧ by' l 0 < 224
    · have e : leadN (by' l 0) = 2 := by unfold leadN; rw [if_neg a1, if_pos a2]
      rw [e] at hl ⊢
      exact first2 l hl a2
    · by_cases a3 : 224 ≤ by' l 0 ∧ by' l 0 < 240
      · have e : leadN (by' l 0) = 3 := by unfold leadN; rw [if_neg a1, if_neg a2, if_pos a3]
        rw [e] at hl ⊢
        exact first3 l hl a3
      · by_cases a4 : 240 ≤ by' l 0 ∧ by' l 0 < 248
        · have e : leadN (by' l 0) = 4 := by unfold leadN; rw [if_neg a1, if_neg a2, if_neg a3, if_pos a4]
          rw [e] at hl ⊢
          exact first4 l hl a4
        · exact absurd (by unfold leadN; rw [if_neg a1, if_neg a2, if_neg a3, if_neg a4]) hn

/-! Bytes as numbers. -/
theorem ofNums_inj : ∀ (xs : List Int) (l : List UInt8), (∀ x ∈ xs, 0 ≤ x ∧ x < 256) → (xs.map (fun n => UInt8.ofNat n.toNat) = l ↔ xs = bytesI l)
  | [], [], _ => by simp [bytesI]
  | [], _ :: _, _ => by simp [bytesI]
  | _ :: _, [], _ => by simp [bytesI]
  | x :: xs, c :: l, h => by
    have hx := h x (by simp)
    have ih := ofNums_inj xs l (fun y hy => h y (by simp [hy]))
    unfold bytesI at ih ⊢
    simp only [List.map_cons, List.cons.injEq]
    rw [ih]
    refine and_congr_left fun _ => ?_
    constructor
    · intro e
      have e2 := congrArg UInt8.toNat e
      simp at e2
      omega
    · intro e
      subst e
      simp
/-- the test of a number's bytes against the text's head -/
theorem str_test (s : ByteArray) (k : Nat) (p : Int) : ((strOfNums (encodeRuneZ p)).toList == (s.extract 0 k).toList) = decide (encodeRuneZ p = bytesI (s.data.toList.take k)) := by
  rw [ByteArray.toList_eq, ByteArray.toList_eq, strOfNums_data, Lib.extract_data, List.drop_zero, Nat.sub_zero]
  rw [Bool.eq_iff_iff, beq_iff_eq, decide_eq_true_iff]
  exact ofNums_inj _ _ (encodeRuneZ_byte p)
theorem first_test (s : ByteArray) (k : Nat) (p : Int) (hp : foldP s.data.toList k = p) (h : FirstIs s.data.toList k) (hq : pointB p = true) :
    ((strOfNums (encodeRuneZ p)).toList == (s.extract 0 k).toList) = !badB s.data.toList := by
  rw [str_test]
  have h1 := h.1
  unfold FirstOk at h1
  rw [hp] at h1
  rw [Bool.eq_iff_iff, decide_eq_true_iff]
  simp only [hq, true_and] at h1
  rw [h1]
  simp
theorem first_not (l : List UInt8) (k : Nat) (p : Int) (hp : foldP l k = p) (h : FirstIs l k) (hq : pointB p = false) : badB l = true := by
  have h1 := h.1
  unfold FirstOk at h1
  rw [hp, hq] at h1
  simp at h1
  exact h1
end Go.Proofs.YtbfjhjkllaceaaaGreatDoor

/- Contracts of the model's points. -/
namespace Go.Proofs.YtbfjhjkllaceaaaGreatDoor
open Go.ChangeShapes Go.WideShapes Go.ChangeAt Go.RowKit
set_option linter.unusedVariables false

theorem ret2 {a b c d : Value} (h : a = c) (k : b = d) : Ending.returned (.tuple #[a, b]) = .returned (.tuple #[c, d]) := by rw [h, k]
theorem int_eq {k : IntKind} {a b : Int} (h : a = b) : Value.int k a = .int k b := by rw [h]

theorem l1Lead_any (c : Int) (h0 : 0 ≤ c) (h1 : c ≤ 255) (w : World) :
    Calls Tryz.prog 119 #[.int .u8 c] w fun e w' => e = .returned (.tuple #[.int .i64 (leadN c : Int), .int .i64 (leadP c)]) ∧ w' = w := by
  by_cases a1 : c < 128
  · have e1 : leadN c = 1 := by simp [leadN, a1]
    have e2 : leadP c = c := leadP_1 a1
    rw [e1, e2]
    clear e1 e2
    go_enter Tryz.func119, Tryz.ntmps119
    go_wp2
    go_ret2
    exact ⟨rfl, rfl⟩
  · by_cases a2 : 192 ≤ c ∧ c < 224
    · have e1 : leadN c = 2 := by unfold leadN; rw [if_neg a1, if_pos a2]
      have e2 : leadP c = c - 192 := leadP_2 a2
      rw [e1, e2]
      clear e1 e2
      obtain ⟨b1, b2⟩ := a2
      go_enter Tryz.func119, Tryz.ntmps119
      go_wp2
      go_ret2
      exact ⟨rfl, rfl⟩
    · by_cases a3 : 224 ≤ c ∧ c < 240
      · have e1 : leadN c = 3 := by unfold leadN; rw [if_neg a1, if_neg a2, if_pos a3]
        have e2 : leadP c = c - 224 := leadP_3 a3
        rw [e1, e2]
        clear e1 e2 a2
        obtain ⟨b1, b2⟩ := a3
        go_enter Tryz.func119, Tryz.ntmps119
        go_wp2
        go_ret2
        exact ⟨rfl, rfl⟩
      · by_cases a4 : 240 ≤ c ∧ c < 248
        · have e1 : leadN c = 4 := by unfold leadN; rw [if_neg a1, if_neg a2, if_neg a3, if_pos a4]
          have e2 : leadP c = c - 240 := leadP_4 a4
          rw [e1, e2]
          clear e1 e2 a2 a3
          obtain ⟨b1, b2⟩ := a4
          go_enter Tryz.func119, Tryz.ntmps119
          go_wp2
          go_ret2
          exact ⟨rfl, rfl⟩
        · have e1 : leadN c = 0 := by unfold leadN; rw [if_neg a1, if_neg a2, if_neg a3, if_neg a4]
          have e2 : leadP c = 0 := by unfold leadP; rw [if_neg a1, if_neg a2, if_neg a3, if_neg a4]
          rw [e1, e2]
          clear e1 e2
          by_cases b1 : c < 192
          · clear a2 a3 a4
            go_enter Tryz.func119, Tryz.ntmps119
            go_wp2
            go_ret2
            exact ⟨rfl, rfl⟩
          · have b2 : 248 ≤ c := by omega
            clear a2 a3 a4
            go_enter Tryz.func119, Tryz.ntmps119
            go_wp2
            go_ret2
            exact ⟨rfl, rfl⟩

/-- what the model's first point tells: the point and its size; or two noughts -/
def firstPt (l : List UInt8) : Int := if badB l then 0 else ((Lib.decodeL l).1 : Int)
def firstSz (l : List UInt8) : Nat := if badB l then 0 else (Lib.decodeL l).2

theorem leadN_cases (b : Int) : leadN b = 0 ∨ leadN b = 1 ∨ leadN b = 2 ∨ leadN b = 3 ∨ leadN b = 4 := by
  unfold leadN
  repeat' split
  all_goals simp

set_option maxHeartbeats 800000 in
theorem l1First_short (s : ByteArray) (hs : s.size ≤ maxLen) (hp : 0 < s.size) (hl : leadN (by' s.data.toList 0) = 0 ∨ s.size < leadN (by' s.data.toList 0)) (w : World) :
    Calls Tryz.prog 114 #[.string s] w fun e w' => e = .returned (.tuple #[.int .i64 0, .int .i64 0]) ∧ w' = w := by
  unfold maxLen at hs
  have hb : by' s.data.toList 0 = (s[0].toNat : Int) := by
    unfold by'
    rw [List.getD_eq_getElem?_getD, head_byte s hp]
  rw [hb] at hl
  have q0 : (0 : Int) ≤ (s[0].toNat : Int) := by omega
  have q1 : (s[0].toNat : Int) ≤ 255 := by have := s[0].toNat_lt; omega
  have hc := leadN_cases (s[0].toNat : Int)
  generalize hn : leadN (s[0].toNat : Int) = n at hl hc
  have HN := Lib.hid hn
  clear hn hb
  by_cases h0 : n = 0
  · subst h0
    clear hl hc
    go_enter Tryz.func114, Tryz.ntmps114
    go_wp2_with fail
    refine (l1Lead_any _ q0 q1 _).mono ?_
    rintro e w' ⟨rfl, rfl⟩
    rw [HN.out]
    go_wp2
    go_ret2
    exact ⟨rfl, rfl⟩
  · have hl2 : (s.size : Int) < (n : Int) := by omega
    have hb0 : ((n : Int) == 0) = false := by rw [beq_eq_false_iff_ne]; omega
    clear hl hc h0
    go_enter Tryz.func114, Tryz.ntmps114
    go_wp2_with fail
    refine (l1Lead_any _ q0 q1 _).mono ?_
    rintro e w' ⟨rfl, rfl⟩
    rw [HN.out]
    go_wp2
    go_ret2
    exact ⟨rfl, rfl⟩

theorem foldP_bound (l : List UInt8) (k : Nat) (hk : 1 ≤ k) (h4 : k ≤ 4) (h0 : 0 ≤ by' l 0) (h1 : by' l 0 ≤ 255) : 0 ≤ foldP l k ∧ foldP l k ≤ 33554431 := by
  have hp : 0 ≤ leadP (by' l 0) ∧ leadP (by' l 0) ≤ 127 := by
    unfold leadP
    repeat' split
    all_goals omega
  have a1 : 0 ≤ by' l 1 % 64 ∧ by' l 1 % 64 ≤ 63 := by omega
  have a2 : 0 ≤ by' l 2 % 64 ∧ by' l 2 % 64 ≤ 63 := by omega
  have a3 : 0 ≤ by' l 3 % 64 ∧ by' l 3 % 64 ≤ 63 := by omega
  match k, hk, h4 with
  | 1, _, _ => rw [foldP_1]; omega
  | 2, _, _ => rw [foldP_2]; omega
  | 3, _, _ => rw [foldP_3]; omega
  | 4, _, _ => rw [foldP_4]; omega

set_option maxRecDepth 100000 in
set_option maxHeartbeats 800000 in
theorem l1First_long (s : ByteArray) (hs : s.size ≤ maxLen) (hp : 0 < s.size) (h0 : leadN (by' s.data.toList 0) ≠ 0) (hl : leadN (by' s.data.toList 0) ≤ s.size) (w : World) :
    Calls Tryz.prog 114 #[.string s] w fun e w' => e = .returned (.tuple #[.int .i64 (firstPt s.data.toList), .int .i64 (firstSz s.data.toList : Int)]) ∧ Below w.heap.size w w' := by
  unfold maxLen at hs
  have hb : by' s.data.toList 0 = (s[0].toNat : Int) := by
    unfold by'
    rw [List.getD_eq_getElem?_getD, head_byte s hp]
  have q0 : (0 : Int) ≤ (s[0].toNat : Int) := by omega
  have q1 : (s[0].toNat : Int) ≤ 255 := by have := s[0].toNat_lt; omega
  have hc := leadN_cases (by' s.data.toList 0)
  have hfb := fun k a b => foldP_bound s.data.toList k a b (by rw [hb]; exact q0) (by rw [hb]; exact q1)
  have hf1 : foldP s.data.toList 1 = leadP (s[0].toNat : Int) := by rw [foldP_1, hb]
  have hne : s.data.toList ≠ [] := by
    intro h
    have := congrArg List.length h
    rw [show s.data.toList.length = s.size by simp] at this
    change s.size = 0 at this
    omega
  have hfi := first_is s.data.toList hne h0 (by simpa using hl)
  generalize hn : leadN (by' s.data.toList 0) = n at h0 hl hc hfi
  rw [hb] at hn
  have n1 : 1 ≤ n := by omega
  have n4 : n ≤ 4 := by omega
  have HN := Lib.hid hn
  have HF1 := Lib.hid hf1
  have HFI := Lib.hid hfi
  have HFB := Lib.hid hfb
  clear hn hb hc hf1 hfi hfb hne h0
  have hb0 : ((n : Int) == 0) = false := by rw [beq_eq_false_iff_ne]; omega
  have hl2 : (n : Int) ≤ (s.size : Int) := by omega
  have n4' : (n : Int) ≤ 4 := by omega
  go_enter Tryz.func114, Tryz.ntmps114
  go_wp2_with fail
  refine (l1Lead_any _ q0 q1 _).mono ?_
  rintro e w' ⟨rfl, rfl⟩
  rw [HN.out, ← HF1.out]
  go_wp2
  go_loop [5, 6] (fun p i => ∃ k : Nat, 1 ≤ k ∧ k ≤ n ∧ i = .int .i64 k ∧ p = .int .i64 (foldP s.data.toList k)) (fun _ i => n - (intOf i).toNat)
  case atStart => exact ⟨1, Nat.le_refl _, n1, rfl, rfl⟩
  case round =>
    obtain ⟨k, k1, hk, rfl, rfl⟩ := hrel
    obtain ⟨f0, f1⟩ := HFB.out k k1 (by omega)
    by_cases hlt : k < n
    · have hks : k < s.size := by omega
      have hby : foldP s.data.toList (k + 1) = foldP s.data.toList k * 64 + (s[k].toNat : Int) % 64 := by
        obtain ⟨j, rfl⟩ : ∃ j, k = j + 1 := ⟨k - 1, by omega⟩
        show foldP s.data.toList (j + 1) * 64 + by' s.data.toList (j + 1) % 64 = _
        unfold by'
        rw [List.getD_eq_getElem?_getD, List.getElem?_eq_getElem (by simpa using hks)]
        rfl
      have HB := Lib.hid hby
      have r0 : (0 : Int) ≤ (s[k].toNat : Int) := by omega
      have r1 : (s[k].toNat : Int) ≤ 255 := by have := s[k].toNat_lt; omega
      clear hby
      generalize foldP s.data.toList k = pk at f0 f1 HB
      go_wp2
      go_round
      case rel => exact ⟨k + 1, by omega, by omega, by go_num, by rw [HB.out]⟩
      case measure => simp [intOf]; omega
    · obtain rfl : k = n := by omega
      go_wp2
      generalize hpk : foldP s.data.toList k = pk at *
      have HPK := Lib.hid hpk
      clear hpk
      cases hq : pointB pk
      · have HQ := Lib.hid hq
        have HBD := Lib.hid (first_not _ _ _ HPK.out HFI.out HQ.out)
        go_quiet ((go_at_call 97; exact Calls.quiet_of_same (l1Point_any _ _)))
        go_wp2
        go_ret2
        exact ⟨ret2 (int_eq (by simp [firstPt, HBD.out])) (int_eq (by simp [firstSz, HBD.out])), below_drewN (Below.refl _ _) _⟩
      · have HQ := Lib.hid hq
        have ht := first_test s k pk HPK.out HFI.out hq
        cases hbd : badB s.data.toList
        · rw [hbd] at ht
          have HBD := Lib.hid hbd
          simp only [Bool.not_false] at ht
          have hfi2 := HFI.out.2 HBD.out
          rw [HPK.out] at hfi2
          have HFI2 := Lib.hid hfi2
          clear hbd hfi2
          go_region_with (first | (go_at_call 97; refine (l1Point_any _ _).mono ?_; rintro e w' ⟨rfl, rfl⟩) | (go_at_call 84; refine (l1Put_any _ HQ.out _).mono ?_; rintro e w2 ⟨a, m, c, rfl, ho, hbl⟩; have hcv := conv_row (P := Tryz.prog) w2 Tryz.underlying22 Tryz.underlying5 Tryz.underlying9 (Row.of_owns ho); clear ho))
          go_wp2
          go_ret2
          exact ⟨ret2 (int_eq (by simp [firstPt, HBD.out, HFI2.out.1])) (int_eq (by simp [firstSz, HBD.out, HFI2.out.2])), below_of_drew hbl⟩
        · rw [hbd] at ht
          have HBD := Lib.hid hbd
          simp only [Bool.not_true] at ht
          clear hbd
          go_region_with (first | (go_at_call 97; refine (l1Point_any _ _).mono ?_; rintro e w' ⟨rfl, rfl⟩) | (go_at_call 84; refine (l1Put_any _ HQ.out _).mono ?_; rintro e w2 ⟨a, m, c, rfl, ho, hbl⟩; have hcv := conv_row (P := Tryz.prog) w2 Tryz.underlying22 Tryz.underlying5 Tryz.underlying9 (Row.of_owns ho); clear ho))
          go_wp2
          go_ret2
          exact ⟨ret2 (int_eq (by simp [firstPt, HBD.out])) (int_eq (by simp [firstSz, HBD.out])), below_of_drew hbl⟩

/-- the model's first point of a text that is not empty -/
theorem l1First_any (s : ByteArray) (hs : s.size ≤ maxLen) (hp : 0 < s.size) (w : World) :
    Calls Tryz.prog 114 #[.string s] w fun e w' => e = .returned (.tuple #[.int .i64 (firstPt s.data.toList), .int .i64 (firstSz s.data.toList : Int)]) ∧ Below w.heap.size w w' := by
  have hne : s.data.toList ≠ [] := by
    intro h
    have := congrArg List.length h
    rw [show s.data.toList.length = s.size by simp] at this
    change s.size = 0 at this
    omega
  by_cases h : leadN (by' s.data.toList 0) = 0 ∨ s.size < leadN (by' s.data.toList 0)
  · have hb := bad_lead s.data.toList hne (by simpa using h)
    refine (l1First_short s hs hp h w).mono fun e w' ⟨he, hw⟩ => ⟨?_, by rw [hw]; exact Below.refl _ _⟩
    rw [he]
    exact ret2 (int_eq (by simp [firstPt, hb])) (int_eq (by simp [firstSz, hb]))
  · exact l1First_long s hs hp (fun e => h (.inl e)) (by omega) w
end Go.Proofs.YtbfjhjkllaceaaaGreatDoor

/- Contract of the model's l2Read. -/
namespace Go.Proofs.YtbfjhjkllaceaaaGreatDoor
open Go.ChangeShapes Go.WideShapes Go.ChangeAt Go.RowKit
set_option linter.unusedVariables false

theorem nums_test (xs ys : List Int) (hx : ∀ x ∈ xs, 0 ≤ x ∧ x < 256) (hy : ∀ x ∈ ys, 0 ≤ x ∧ x < 256) : ((strOfNums xs).toList == (strOfNums ys).toList) = decide (xs = ys) := by
  rw [ByteArray.toList_eq, ByteArray.toList_eq, strOfNums_data, strOfNums_data, Bool.eq_iff_iff, beq_iff_eq, decide_eq_true_iff]
  constructor
  · intro h
    have h2 := (ofNums_inj xs _ hx).1 h
    rw [(ofNums_inj ys _ hy).1 rfl, h2]
  · intro h; rw [h]
theorem getD_bytes {xs : List Int} (h : ∀ i, 0 ≤ xs.getD i 0 ∧ xs.getD i 0 ≤ 255) : ∀ x ∈ xs, 0 ≤ x ∧ x < 256 := by
  intro x hx
  obtain ⟨i, hi, rfl⟩ := List.mem_iff_getElem.1 hx
  have := h i
  rw [List.getD_eq_getElem?_getD, List.getElem?_eq_getElem hi] at this
  simp at this
  omega
theorem vval_drop (l : List Int) (q : Nat) (h : q < l.length) : vval (l.drop q) = l.getD q 0 % 128 + 128 * vval (l.drop (q + 1)) := by
  rw [List.drop_eq_getElem_cons h, List.getD_eq_getElem?_getD, List.getElem?_eq_getElem h]; rfl
theorem vval_drop_le (l : List Int) (q : Nat) (h : l.length ≤ 9) (hq : 1 ≤ q) : 0 ≤ vval (l.drop q) ∧ vval (l.drop q) ≤ 72057594037927935 := by
  refine ⟨vval_nonneg _, ?_⟩
  have h2 := vval_lt (l.drop q)
  have h4 : (128 : Nat) ^ (l.drop q).length ≤ 128 ^ 8 := Nat.pow_le_pow_right (by decide) (by simp; omega)
  have h5 : (128 : Nat) ^ 8 = 72057594037927936 := by decide
  have h6 : (128 : Int) ^ (l.drop q).length = ((128 ^ (l.drop q).length : Nat) : Int) := by simp
  omega

/-- what l2Read answers -/
def ReadRes (xs : List Int) (w : World) (e : Ending) (w' : World) : Prop :=
  e = .returned (.tuple #[.int .i64 (vreadN xs), .int .i64 (vreadK xs)]) ∧ Below w.heap.size w w'
theorem read_none {xs : List Int} (h : vreadOk xs = false) : vreadN xs = 0 ∧ vreadK xs = 0 := by unfold vreadN vreadK; simp [h]
theorem read_some {xs : List Int} {j : Nat} (hj : lead xs = j) (h : vreadOk xs = true) : vreadN xs = vval (xs.take (j + 1)) ∧ vreadK xs = j + 1 := by unfold vreadN vreadK; simp [h, hj]
theorem vread_short {xs : List Int} (h : xs.length = 0) : vreadOk xs = false := by unfold vreadOk; simp; omega

theorem l2Read_nil (w : World) : Calls Tryz.prog 73 #[.slice none 0 0] w (ReadRes [] w) := by
  go_enter Tryz.func73, Tryz.ntmps73
  go_wp2
  go_loop [4] (fun k => k = .int .i64 0) (fun _ => 0)
  case atStart => rfl
  case round =>
    obtain rfl := hrel
    go_wp2
    go_ret2
    exact ⟨rfl, Below.refl _ _⟩

set_option maxRecDepth 100000 in
set_option maxHeartbeats 3200000 in
theorem l2Read_at (b o c n : Nat) (xs : List Int) (w : World) (hn : n = xs.length) (hc : n ≤ c) (hm : c ≤ maxLen) (hlt : b < w.heap.size) (hx : ∀ i, i < n → w.cell? ⟨b, o + i, none⟩ = some (.int .u8 (xs.getD i 0)))
    (hby : ∀ i, 0 ≤ xs.getD i 0 ∧ xs.getD i 0 ≤ 255) :
    Calls Tryz.prog 73 #[.slice (some ⟨b, o, none⟩) n c] w (ReadRes xs w) := by
  have HX := Lib.hid hx
  have HY := Lib.hid hby
  have HN := Lib.hid hn
  clear hx hby hn
  unfold maxLen at hm
  go_enter Tryz.func73, Tryz.ntmps73
  go_wp2
  go_loop [4] (fun k => ∃ j : Nat, j ≤ n ∧ j ≤ 9 ∧ k = .int .i64 j ∧ Hid (∀ i, i < j → 128 ≤ xs.getD i 0)) (fun k => n - (intOf k).toNat)
  case atStart => exact ⟨0, Nat.zero_le _, by omega, rfl, Lib.hid (fun i hi => by omega)⟩
  case round =>
    obtain ⟨j, hj, h9, rfl, H128⟩ := hrel
    by_cases hjn : j < n
    · have hcj := HX.out j hjn
      have hbj := HY.out j
      by_cases hj9 : j < 9
      · by_cases hz : 128 ≤ xs.getD j 0
        · have H128' : Hid (∀ i, i < j + 1 → 128 ≤ xs.getD i 0) := Lib.hid (fun i hi => by
            by_cases h : i < j
            · exact H128.out i h
            · obtain rfl : i = j := by omega
              exact hz)
          generalize xs.getD j 0 = x at hcj hbj hz
          go_wp2
          go_round
          case rel => exact ⟨j + 1, by omega, by omega, by go_num, H128'⟩
          case measure => simp [intOf]; omega
        · have hz0 : xs.getD j 0 < 128 := by omega
          have hlead := lead_is xs j H128.out (by have := HN.out; omega) h9 (fun _ _ => hz0)
          have htl : (xs.take (j + 1)).length = j + 1 := by have := HN.out; simp; omega
          have HT := Lib.hid htl
          have htg : ∀ i, i < j + 1 → (xs.take (j + 1)).getD i 0 = xs.getD i 0 := fun i hi => by
            simp only [List.getD_eq_getElem?_getD, List.getElem?_take, hi, if_true]
          have HTG := Lib.hid htg
          have htb : ∀ i, 0 ≤ (xs.take (j + 1)).getD i 0 ∧ (xs.take (j + 1)).getD i 0 ≤ 255 := fun i => by
            by_cases hi : i < j + 1
            · rw [htg i hi]; exact HY.out i
            · rw [List.getD_eq_getElem?_getD, List.getElem?_eq_none (by rw [htl]; omega)]; simp
          have hput := vread_put xs (fun i _ => HY.out i) j (by have := HN.out; omega) H128.out hz0
          have htest := nums_test (vput (vval (xs.take (j + 1))).toNat) (xs.take (j + 1)) (fun x hx => by have := vput_bytes _ _ (Nat.le_refl _) x hx; omega) (getD_bytes htb)
          have hle9 := vval_le9 (xs.take (j + 1)) (by omega)
          have hge0 := vval_nonneg (xs.take (j + 1))
          have hall : vval ((xs.take (j + 1)).drop (j + 1)) = 0 := by rw [List.drop_of_length_le (by omega)]; rfl
          have hdl := fun q => vval_drop_le (xs.take (j + 1)) q (by omega)
          have hds := fun q (h : q < j + 1) => vval_drop (xs.take (j + 1)) q (by omega)
          have HLD := Lib.hid hlead
          have HP := Lib.hid hput
          have HB := Lib.hid hle9
          have HA := Lib.hid hall
          have HDL := Lib.hid hdl
          have HDS := Lib.hid hds
          have HZ := Lib.hid hz0
          have HRow : Hid (Row w .u8 (.slice (some ⟨b, o, none⟩) (j + 1) c) (xs.take (j + 1))) := Lib.hid (.inr ⟨b, o, c, by rw [htl], by rw [htl]; omega, by unfold maxLen; omega, hlt, fun i hi => by
            rw [htl] at hi
            rw [htg i hi]
            exact HX.out i (by omega)⟩)
          clear hlead htl htg htb hput hle9 hall hdl hds
          have hzz := hz
          clear hz hz0
          generalize hTT : xs.take (j + 1) = T at *
          have HTT := Lib.hid hTT
          clear hTT
          generalize hxj : xs.getD j 0 = x at hcj hbj hzz
          have HXJ := Lib.hid hxj
          clear hxj
          go_wp2
          go_loop [5, 6] (fun m i => ∃ q : Nat, q ≤ j + 1 ∧ ((∃ r : Nat, q = r + 1 ∧ i = .int .i64 r) ∨ (q = 0 ∧ i = .int .i64 (-1))) ∧ m = .int .i64 (vval (T.drop q))) (fun _ i => (intOf i + 1).toNat)
          case atStart => exact ⟨j + 1, Nat.le_refl _, .inl ⟨j, rfl, rfl⟩, by rw [HA.out]⟩
          case round =>
            obtain ⟨q, hq, hi, rfl⟩ := hrel
            rcases hi with ⟨r, rfl, rfl⟩ | ⟨rfl, rfl⟩
            · have hrj : r ≤ j := by omega
              have hcr := HX.out r (by omega)
              have hyr := HY.out r
              have hd1 := HDL.out (r + 1) (by omega)
              have hds := HDS.out r (by omega)
              rw [HTG.out r (by omega)] at hds
              generalize xs.getD r 0 = y at hcr hyr hds
              generalize vval (T.drop (r + 1)) = m at hd1 hds
              have HDS2 := Lib.hid hds
              clear hds
              go_wp2
              go_round
              case rel =>
                refine ⟨r, by omega, ?_, by rw [HDS2.out]; exact vint (by omega)⟩
                cases r with
                | zero => exact .inr ⟨rfl, vint (by omega)⟩
                | succ r' => exact .inl ⟨r', rfl, vint (by omega)⟩
              case measure => simp [intOf]
            · simp only [List.drop_zero]
              obtain ⟨N, hN⟩ : ∃ N : Nat, vval T = N := ⟨(vval T).toNat, by omega⟩
              have hN9 : N ≤ 9223372036854775807 := by have := HB.out; omega
              rw [hN] at htest hge0 ⊢
              rw [Int.toNat_natCast] at htest
              have HP2 := Lib.hid HP.out
              rw [hN, Int.toNat_natCast] at HP2
              have HNN := Lib.hid hN
              have KP := Lib.hid (l2Put_any N hN9)
              have hcv0 := conv_row (P := Tryz.prog) w.drew Tryz.underlying22 Tryz.underlying5 Tryz.underlying9 (HRow.out.drewN 1)
              clear hN hN9 hcj
              by_cases hq : j = 0 ∨ xs.getD j 0 ≠ 0
              · have hd : decide (vput N = T) = true := by rw [decide_eq_true_iff]; exact HP2.out.2 hq
                rw [hd] at htest
                have HOK : Hid (vreadOk xs = true) := Lib.hid (by unfold vreadOk; rw [decide_eq_true_iff, HLD.out]; exact ⟨by have := HN.out; omega, hj9, hq⟩)
                clear hd hq
                have hjc : (j : Int) + 1 ≤ (c : Int) := by omega
                go_wp2
                have k1 : IntKind.i64.wrap ((j : Int) + 1) = (j : Int) + 1 := IntWalk.i64_in _ (by omega)
                have k2 : 0 ≤ (j : Int) + 1 := by omega
                have k3 : ((j : Int) + 1).toNat = j + 1 := by omega
                go_region_with (go_at_call 53; refine (KP.out _).mono ?_; rintro e w2 ⟨a2, n2, c2, rfl, ho, hbl⟩; have hcv := conv_row (P := Tryz.prog) w2 Tryz.underlying22 Tryz.underlying5 Tryz.underlying9 (Row.of_owns ho); have hcv2 := conv_row (P := Tryz.prog) w2 Tryz.underlying22 Tryz.underlying5 Tryz.underlying9 (HRow.out.below (below_of_drew hbl)); clear ho)
                all_goals
                  clear k1 k2 k3
                  go_wp2
                  go_ret2
                  obtain ⟨e1, e2⟩ := read_some HLD.out HOK.out
                  rw [HTT.out, HNN.out] at e1
                  exact ⟨ret2 (int_eq (by rw [e1])) (int_eq (by rw [e2]; omega)), below_of_drew hbl⟩
              · have hd : decide (vput N = T) = false := by rw [decide_eq_false_iff_not]; exact fun h => hq (HP2.out.1 h)
                rw [hd] at htest
                have HOK : Hid (vreadOk xs = false) := Lib.hid (by unfold vreadOk; rw [decide_eq_false_iff_not, HLD.out]; exact fun h => hq h.2.2)
                clear hd hq
                have hjc : (j : Int) + 1 ≤ (c : Int) := by omega
                go_wp2
                have k1 : IntKind.i64.wrap ((j : Int) + 1) = (j : Int) + 1 := IntWalk.i64_in _ (by omega)
                have k2 : 0 ≤ (j : Int) + 1 := by omega
                have k3 : ((j : Int) + 1).toNat = j + 1 := by omega
                go_region_with (go_at_call 53; refine (KP.out _).mono ?_; rintro e w2 ⟨a2, n2, c2, rfl, ho, hbl⟩; have hcv := conv_row (P := Tryz.prog) w2 Tryz.underlying22 Tryz.underlying5 Tryz.underlying9 (Row.of_owns ho); have hcv2 := conv_row (P := Tryz.prog) w2 Tryz.underlying22 Tryz.underlying5 Tryz.underlying9 (HRow.out.below (below_of_drew hbl)); clear ho)
                all_goals
                  clear k1 k2 k3
                  go_wp2
                  go_ret2
                  obtain ⟨e1, e2⟩ := read_none HOK.out
                  exact ⟨ret2 (int_eq (by rw [e1])) (int_eq (by rw [e2]; rfl)), below_of_drew hbl⟩
      · have HL : Hid (vreadOk xs = false) := Lib.hid (by
          have := lead_is xs j H128.out (by have := HN.out; omega) h9 (fun _ h => absurd h hj9)
          unfold vreadOk; simp [this]; omega)
        clear hbj
        generalize xs.getD j 0 = x at hcj
        go_wp2
        go_ret2
        obtain ⟨e1, e2⟩ := read_none HL.out
        exact ⟨by rw [e1, e2]; rfl, Below.refl _ _⟩
    · have HL : Hid (vreadOk xs = false) := Lib.hid (by
        have hnn := HN.out
        have := lead_is xs j H128.out (by omega) h9 (fun h _ => by omega)
        unfold vreadOk; simp [this]; omega)
      go_wp2
      go_ret2
      obtain ⟨e1, e2⟩ := read_none HL.out
      exact ⟨by rw [e1, e2]; rfl, Below.refl _ _⟩

theorem l2Read_any (a : Option Addr) (n c : Nat) (xs : List Int) (w : World) (hn : n = xs.length) (h : Row w .u8 (.slice a n c) xs) (hby : ∀ i, 0 ≤ xs.getD i 0 ∧ xs.getD i 0 ≤ 255) :
    Calls Tryz.prog 73 #[.slice a n c] w (ReadRes xs w) := by
  rcases h with ⟨hv, h0⟩ | ⟨b, o, cap, hv, h1, h2, h3, h4⟩
  · simp only [Value.slice.injEq] at hv
    obtain ⟨rfl, rfl, rfl⟩ := hv
    subst h0
    exact l2Read_nil w
  · simp only [Value.slice.injEq] at hv
    obtain ⟨rfl, rfl, rfl⟩ := hv
    exact l2Read_at b o c xs.length xs w rfl h1 h2 h3 h4 hby

end Go.Proofs.YtbfjhjkllaceaaaGreatDoor
