/- Contracts of varAhead and the program's ReadVar. -/
import Derived.Test.YtmgemchpclmknaaDoorSpecVar
import Derived.Test.YtmgemchpclmknaaDoorErr
namespace Go.Proofs.YtmgemchpclmknaaDoor
open Go.ChangeShapes Go.WideShapes Go.ChangeAt Go.RowKit
set_option linter.unusedVariables false

/-- the error of a reading -/
def errOf (a : Addr) (ok : Bool) : Value := if ok then .nilIface else .iface 122 (.pointer (some a))
/-- what varAhead answers -/
def AheadRes (xs : List Int) (sa : Addr) (w : World) (e : Ending) (w' : World) : Prop :=
  e = .returned (.tuple #[.int .i64 (vreadN xs), .int .i64 (vreadK xs), errOf sa (vreadOk xs)]) ∧ Below w.heap.size w w'

theorem or_join (s : Nat) (a y : Int) (h0 : 0 ≤ a) (h1 : a < 2 ^ s) (hy : 0 ≤ y) (hb : a + y * 2 ^ s < 9223372036854775808) : bits BinOp.or IntKind.i64 a (y * 2 ^ s) = a + y * 2 ^ s := by
  obtain ⟨A, rfl⟩ := Int.eq_ofNat_of_zero_le h0
  obtain ⟨Y, rfl⟩ := Int.eq_ofNat_of_zero_le hy
  have hc : ((Y : Int) * 2 ^ s) = ((2 ^ s * Y : Nat) : Int) := by push_cast; rw [Int.mul_comm]
  have h1' : A < 2 ^ s := by
    have : ((A : Nat) : Int) < ((2 ^ s : Nat) : Int) := by push_cast; exact h1
    omega
  rw [hc] at hb ⊢
  generalize hP : 2 ^ s * Y = Q at *
  have hk : (BitVec.ofInt 64 (A : Int) ||| BitVec.ofInt 64 (Q : Int)).toNat = Q + A := by
    rw [BitVec.toNat_or, BitVec.toNat_ofInt, BitVec.toNat_ofInt]
    have e1 : ((A : Int) % ((2 ^ 64 : Nat) : Int)).toNat = A := by omega
    have e2 : ((Q : Int) % ((2 ^ 64 : Nat) : Int)).toNat = Q := by omega
    rw [e1, e2, Nat.or_comm, ← hP, Nat.two_pow_add_eq_or_of_lt h1']
  show IntKind.i64.wrap (((BitVec.ofInt 64 (A : Int) ||| BitVec.ofInt 64 (Q : Int)).toNat : Nat) : Int) = _
  rw [hk, IntKind.wrap_i64]
  omega
/-- one more group -/
theorem or_group (l : List Int) (x : Int) (j : Nat) (hl : l.length = j) (h8 : j ≤ 8) : bits BinOp.or IntKind.i64 (vval l) (wrap64 (x % 128 * 2 ^ (7 * j))) = vval (l ++ [x]) := by
  have e : (2 : Int) ^ (7 * j) = 128 ^ j := by rw [Int.pow_mul]; rfl
  have h0 := vval_nonneg l
  have h1 := vval_lt l
  have h2 := vval_le9 (l ++ [x]) (by simp; omega)
  rw [vval_snoc, hl] at h2
  rw [hl] at h1
  rw [vval_snoc, hl, e]
  have hm : 0 ≤ x % 128 := by omega
  have hmm : 0 ≤ x % 128 * 128 ^ j := Int.mul_nonneg hm (Int.pow_nonneg (by decide))
  have hw : wrap64 (x % 128 * 128 ^ j) = x % 128 * 128 ^ j := by unfold wrap64; omega
  rw [hw, ← e]
  rw [← e] at h1 h2 hmm
  exact or_join (7 * j) _ _ h0 h1 hm (by omega)

theorem ret3 {a b c d e f : Value} (h : a = d) (k : b = e) (l : c = f) : Ending.returned (.tuple #[a, b, c]) = .returned (.tuple #[d, e, f]) := by rw [h, k, l]
set_option maxRecDepth 100000 in
set_option maxHeartbeats 3200000 in
theorem varAhead_at (b o c n : Nat) (xs : List Int) (w : World) (sa : Addr) (hs : Sent w sa) (hn : n = xs.length) (hc : n ≤ c) (hm : c ≤ maxLen) (hlt : b < w.heap.size) (hx : ∀ i, i < n → w.cell? ⟨b, o + i, none⟩ = some (.int .u8 (xs.getD i 0)))
    (hby : ∀ i, 0 ≤ xs.getD i 0 ∧ xs.getD i 0 ≤ 255) :
    Calls Tryd.prog 73 #[.slice (some ⟨b, o, none⟩) n c] w (AheadRes xs sa w) := by
  have HX := Lib.hid hx
  have HY := Lib.hid hby
  have HN := Lib.hid hn
  have hsc := hs.cell
  have hsl := hs.lt
  clear hx hby hn hs
  unfold maxLen at hm
  go_enter Tryd.func73, Tryd.ntmps73
  go_wp2
  go_loop [2, 13] (fun m i => ∃ j : Nat, j ≤ n ∧ j ≤ 9 ∧ i = .int .i64 j ∧ m = .int .i64 (vval (xs.take j)) ∧ Hid (∀ i, i < j → 128 ≤ xs.getD i 0)) (fun _ i => n - (intOf i).toNat)
  case atStart => exact ⟨0, Nat.zero_le _, by omega, rfl, rfl, Lib.hid (fun i hi => by omega)⟩
  case round =>
    obtain ⟨j, hj, h9, rfl, rfl, H128⟩ := hrel
    by_cases hjm : j < n ∧ j < 9
    · obtain ⟨hjn, hj9⟩ := hjm
      have hcj := HX.out j hjn
      have hbj := HY.out j
      have hor := or_group (xs.take j) (xs.getD j 0) j (by have := HN.out; simp; omega) (by omega)
      rw [← take_snoc_getD xs j (by have := HN.out; omega)] at hor
      have HOR := Lib.hid hor
      have hv0 := vval_nonneg (xs.take j)
      have HJN : Hid (j < xs.length) := Lib.hid (by have := HN.out; omega)
      clear hor
      by_cases hz : 128 ≤ xs.getD j 0
      · have H128' : Hid (∀ i, i < j + 1 → 128 ≤ xs.getD i 0) := Lib.hid (fun i hi => by
          by_cases h : i < j
          · exact H128.out i h
          · obtain rfl : i = j := by omega
            exact hz)
        generalize xs.getD j 0 = x at hcj hbj hz HOR
        generalize vval (xs.take j) = m at hv0 HOR
        go_wp2
        go_round
        case rel => exact ⟨j + 1, by omega, by omega, by go_num, by rw [HOR.out], H128'⟩
        case measure => simp [intOf]; omega
      · have hlead := lead_is xs j H128.out (by have := HN.out; omega) h9 (fun _ _ => by omega)
        have HLD := Lib.hid hlead
        clear hlead
        by_cases hq : j = 0 ∨ xs.getD j 0 ≠ 0
        · have HOK : Hid (vreadOk xs = true) := Lib.hid (by unfold vreadOk; rw [decide_eq_true_iff, HLD.out]; exact ⟨HJN.out, hj9, hq⟩)
          rcases hq with hq | hq
          · have hj0 : (j : Int) ≤ 0 := by omega
            clear hq
            generalize xs.getD j 0 = x at hcj hbj hz HOR
            generalize vval (xs.take j) = m at hv0 HOR
            cases hx0 : x == 0
            all_goals
              go_wp2
              go_ret3
              obtain ⟨e1, e2⟩ := read_some HLD.out HOK.out
              exact ⟨ret3 (int_eq (by rw [e1]; exact HOR.out)) (int_eq (by rw [e2]; omega)) (by rw [HOK.out]; rfl), Below.refl _ _⟩
          · have hq2 : (xs.getD j 0 == 0) = false := by rw [beq_eq_false_iff_ne]; exact hq
            clear hq
            generalize xs.getD j 0 = x at hcj hbj hz HOR hq2
            generalize vval (xs.take j) = m at hv0 HOR
            go_wp2
            go_ret3
            obtain ⟨e1, e2⟩ := read_some HLD.out HOK.out
            exact ⟨ret3 (int_eq (by rw [e1]; exact HOR.out)) (int_eq (by rw [e2]; omega)) (by rw [HOK.out]; rfl), Below.refl _ _⟩
        · have HOK : Hid (vreadOk xs = false) := Lib.hid (by unfold vreadOk; rw [decide_eq_false_iff_not, HLD.out]; exact fun h => hq h.2.2)
          have hj1 : 0 < (j : Int) := by omega
          have hx0 : xs.getD j 0 = 0 := by
            by_cases h : xs.getD j 0 = 0
            · exact h
            · exact absurd (.inr h) hq
          rw [hx0] at hcj
          clear hx0 hq hz hbj HOR
          generalize vval (xs.take j) = m at hv0
          go_wp2
          go_quiet (fail)
          go_wp2
          go_ret3
          obtain ⟨e1, e2⟩ := read_none HOK.out
          exact ⟨ret3 (int_eq (by rw [e1])) (int_eq (by rw [e2]; rfl)) (by rw [HOK.out]; rfl), below_drewN (Below.refl _ _) _⟩
    · have HL : Hid (vreadOk xs = false) := Lib.hid (by
        have := lead_is xs j H128.out (by have := HN.out; omega) h9 (fun h1 h2 => absurd ⟨by have := HN.out; omega, h2⟩ hjm)
        have h2 := HN.out
        unfold vreadOk
        rw [decide_eq_false_iff_not, this]
        omega)
      have hmin : ¬ ((j : Int) < max (min (n : Int) 9) 0) := by omega
      generalize vval (xs.take j) = m
      go_wp2
      go_quiet (fail)
      go_wp2
      go_ret3
      obtain ⟨e1, e2⟩ := read_none HL.out
      exact ⟨ret3 (int_eq (by rw [e1])) (int_eq (by rw [e2]; rfl)) (by rw [HL.out]; rfl), below_drewN (Below.refl _ _) _⟩

set_option maxHeartbeats 800000 in
theorem varAhead_nil (w : World) (sa : Addr) (hs : Sent w sa) :
    Calls Tryd.prog 73 #[.slice none 0 0] w (AheadRes [] sa w) := by
  have hsc := hs.cell
  have hsl := hs.lt
  have HL : Hid (vreadOk [] = false) := Lib.hid (by decide)
  clear hs
  go_enter Tryd.func73, Tryd.ntmps73
  go_wp2
  go_loop [13] (fun i => i = .int .i64 0) (fun i => 0)
  case atStart => rfl
  case round =>
    obtain rfl := hrel
    go_wp2
    go_quiet (fail)
    go_wp2
    go_ret3
    obtain ⟨e1, e2⟩ := read_none HL.out
    exact ⟨ret3 (int_eq (by rw [e1])) (int_eq (by rw [e2]; rfl)) (by rw [HL.out]; rfl), below_drewN (Below.refl _ _) _⟩

theorem varAhead_any (a : Option Addr) (n c : Nat) (xs : List Int) (w : World) (sa : Addr) (hs : Sent w sa) (hn : n = xs.length) (h : Row w .u8 (.slice a n c) xs) (hby : ∀ i, 0 ≤ xs.getD i 0 ∧ xs.getD i 0 ≤ 255) :
    Calls Tryd.prog 73 #[.slice a n c] w (AheadRes xs sa w) := by
  rcases h with ⟨hv, h0⟩ | ⟨b, o, cap, hv, h1, h2, h3, h4⟩
  · simp only [Value.slice.injEq] at hv
    obtain ⟨rfl, rfl, rfl⟩ := hv
    subst h0
    exact varAhead_nil w sa hs
  · simp only [Value.slice.injEq] at hv
    obtain ⟨rfl, rfl, rfl⟩ := hv
    exact varAhead_at b o c xs.length xs w sa hs rfl h1 h2 h3 h4 hby

set_option maxHeartbeats 800000 in
theorem implReadVar_any (a : Option Addr) (n c : Nat) (xs : List Int) (w : World) (sa : Addr) (hs : Sent w sa) (hn : n = xs.length) (h : Row w .u8 (.slice a n c) xs) (hby : ∀ i, 0 ≤ xs.getD i 0 ∧ xs.getD i 0 ≤ 255) :
    Calls Tryd.prog 31 #[.slice a n c] w (Res3 w (vcode xs) (vreadN xs) (vreadK xs)) := by
  have K := Lib.hid (fun (W : World) (hW : Below w.heap.size w W) => varAhead_any a n c xs W sa (hs.kept hW) hn (h.below hW) hby)
  have HS := Lib.hid hs
  unfold AheadRes errOf at K
  clear hn h hby hs
  cases hk : vreadOk xs
  · have e3 : vcode xs = 5 := by unfold vcode; rw [hk]; rfl
    rw [e3]
    rw [hk] at K
    simp only [Bool.false_eq_true, if_false] at K
    generalize vreadK xs = k at *
    generalize vreadN xs = v at *
    clear e3 hk
    go_enter Tryd.func31, Tryd.ntmps31
    go_wp2_with fail
    refine (K.out _ (below1 _ _)).mono ?_
    rintro e w1 ⟨rfl, hb⟩
    have KR := Lib.hid (readCode_err sa w1 ((HS.out.alloc _).kept hb))
    obtain ⟨hc, hf⟩ := bcell hb
    have hz := hb.size
    simp at hz
    go_wp2_with fail
    refine KR.out.mono ?_
    rintro e w' ⟨rfl, rfl⟩
    go_wp2
    exact bodyPost_ret (v := .agg #[.int .i64 5, .int .i64 v, .int .i64 k]) (by simp [results, Tryd.results31, go_sem, hc]) rfl
      ⟨rfl, ((((below1 w _).trans (hb.mono (by simp))).setCell (by simp) _).setCell (by simp) _).setCell (by simp) _⟩
  · have e3 : vcode xs = 0 := by unfold vcode; rw [hk]; rfl
    rw [e3]
    rw [hk] at K
    simp only [if_true] at K
    generalize vreadK xs = k at *
    generalize vreadN xs = v at *
    clear e3 hk
    go_enter Tryd.func31, Tryd.ntmps31
    go_wp2_with fail
    refine (K.out _ (below1 _ _)).mono ?_
    rintro e w1 ⟨rfl, hb⟩
    have KR := Lib.hid (readCode_nil sa w1 ((HS.out.alloc _).kept hb))
    obtain ⟨hc, hf⟩ := bcell hb
    have hz := hb.size
    simp at hz
    go_wp2_with fail
    refine KR.out.mono ?_
    rintro e w' ⟨rfl, rfl⟩
    go_wp2
    exact bodyPost_ret (v := .agg #[.int .i64 0, .int .i64 v, .int .i64 k]) (by simp [results, Tryd.results31, go_sem, hc]) rfl
      ⟨rfl, ((((below1 w _).trans (hb.mono (by simp))).setCell (by simp) _).setCell (by simp) _).setCell (by simp) _⟩
end Go.Proofs.YtmgemchpclmknaaDoor
