/- Contracts of what reads one sign: strconv.ParseUint, numberIn, strings.Cut, signOf, signAhead. -/
import Derived.Test.YtkpbamjmdcbflaaDoorParse
import Derived.Shelf.RegionOpenPlain
namespace Go.Proofs.YtkpbamjmdcbflaaDoor
open Go.ChangeShapes Go.WideShapes Go.ChangeAt Go.RowKit Go.Shelf
set_option linter.unusedVariables false

/-- strconv.ErrSyntax: its variable holds an error -/
structure SynErr (w : World) (a : Addr) : Prop where
  lt : 3 < w.heap.size
  cell : w.cell? ⟨3, 0, none⟩ = some (.iface 101 (.pointer (some a)))
theorem SynErr.kept {w w' : World} {a : Addr} (h : SynErr w a) (hb : Below w.heap.size w w') : SynErr w' a :=
  ⟨Nat.lt_of_lt_of_le h.lt hb.size, (hb.cell (p := ⟨3, 0, none⟩) h.lt).trans h.cell⟩

/-- a number, or none, is handed back -/
def NumOr (ok : Bool) (n : Int) (w : World) (e : Ending) (w' : World) : Prop :=
  (if ok then e = .returned (.tuple #[.int .u64 n, .nilIface]) else ∃ N, e = .returned (.tuple #[.int .u64 0, .iface 94 (.pointer (some ⟨N, 0, none⟩))])) ∧ Below w.heap.size w w'

set_option maxRecDepth 100000 in
theorem parse_none (base : Int) (w : World) :
    Calls Tryd.prog 49 #[.string ⟨#[]⟩, .int .i64 base, .int .i64 32] w fun e w' => e = .returned (.tuple #[.int .u64 0, .iface 92 (.int .i64 2)]) ∧ w' = w := by
  go_enter Tryd.func49, Tryd.ntmps49
  go_wp2
  go_ret2
  exact ⟨rfl, rfl⟩

set_option maxHeartbeats 800000 in
theorem parseU_ok (base n : Int) (t : ByteArray) (w : World)
    (K : ∀ W, Calls Tryd.prog 49 #[.string t, .int .i64 base, .int .i64 32] W fun e w' => e = .returned (.tuple #[.int .u64 n, .nilIface]) ∧ Below W.heap.size W w') :
    Calls Tryd.prog 41 #[.string t, .int .i64 base, .int .i64 32] w (NumOr true n w) := by
  have K := Lib.hid K
  unfold NumOr
  simp only [if_true]
  go_enter Tryd.func41, Tryd.ntmps41
  go_wp2_with fail
  refine (K.out _).mono ?_
  rintro e w1 ⟨rfl, hb⟩
  go_wp2
  go_ret2
  exact ⟨rfl, hb⟩

set_option maxHeartbeats 800000 in
theorem parseU_bad (base n : Int) (t : ByteArray) (ht : t.size ≤ 1000) (w : World) (sa : Addr) (hs : SynErr w sa)
    (K : ∀ W, Calls Tryd.prog 49 #[.string t, .int .i64 base, .int .i64 32] W fun e w' => e = .returned (.tuple #[.int .u64 0, .iface 92 (.int .i64 2)]) ∧ Below W.heap.size W w') :
    Calls Tryd.prog 41 #[.string t, .int .i64 base, .int .i64 32] w (NumOr false n w) := by
  have K := Lib.hid K
  have HS := Lib.hid hs
  unfold NumOr
  simp only [Bool.false_eq_true, if_false]
  clear hs
  go_enter Tryd.func41, Tryd.ntmps41
  go_wp2_with fail
  refine (K.out _).mono ?_
  rintro e w1 ⟨rfl, hb⟩
  go_wp2_with fail
  refine (Tryd.strconv_toError_syntax _ t base 32 _ w1 (by omega) (HS.out.kept hb).cell (.inr ⟨_, _, rfl⟩)).mono ?_
  rintro e w2 ⟨N, rfl, _, _, hb2⟩
  go_wp2
  go_ret2
  exact ⟨⟨N, rfl⟩, below_then hb hb2⟩

theorem number_ok {base : Int} {most : Nat} {l : List UInt8} (h1 : 1 ≤ l.length) (h2 : l.length ≤ most) : numberL base most l = numF base 0 l := by
  unfold numberL
  rw [if_neg (by omega)]
theorem number_bad {base : Int} {most : Nat} {l : List UInt8} (h : l.all (digB base) = false) : numberL base most l = -1 := by
  unfold numberL
  split
  · rfl
  · exact numF_lt base l 0 h

set_option maxHeartbeats 800000 in
theorem numberIn_any (base : Int) (most : Nat) (hb : base = 10 ∨ base = 16) (hm : most ≤ 7) (t : ByteArray) (ht : t.size ≤ maxLen) (w : World) (sa : Addr) (hs : SynErr w sa) :
    Calls Tryd.prog 32 #[.string t, .int .i64 base, .int .i64 most] w fun e w' => e = .returned (.int .i64 (numberL base most t.data.toList)) ∧ Below w.heap.size w w' := by
  have hl : t.data.toList.length = t.size := by simp
  have hm' : (most : Int) ≤ 7 := by omega
  by_cases h : most < t.size
  · have e : numberL base most t.data.toList = -1 := by unfold numberL; rw [if_pos (by omega)]
    rw [e]
    unfold maxLen at ht
    clear e hl hs hb
    go_enter Tryd.func32, Tryd.ntmps32
    go_wp2
    go_ret
    exact ⟨rfl, Below.refl _ _⟩
  · have hle : (t.size : Int) ≤ (most : Int) := by omega
    have KU : Hid (∀ W, SynErr W sa → Calls Tryd.prog 41 #[.string t, .int .i64 base, .int .i64 32] W (NumOr (decide (numberL base most t.data.toList ≠ -1)) (numberL base most t.data.toList) W)) := by
      refine Lib.hid fun W hW => ?_
      by_cases h0 : t.size = 0
      · have e : numberL base most t.data.toList = -1 := by unfold numberL; rw [if_pos (by omega)]
        obtain rfl : t = ⟨#[]⟩ := by
          cases t with
          | mk d =>
            congr 1
            exact Array.eq_empty_of_size_eq_zero h0
        rw [e]
        exact parseU_bad base (-1) _ (by decide) W sa hW (fun W2 => (parse_none base W2).mono fun e w' ⟨a, b⟩ => ⟨a, by rw [b]; exact Below.refl _ _⟩)
      · have K : ∀ W, Calls Tryd.prog 49 #[.string t, .int .i64 base, .int .i64 32] W fun e w' => e = .returned (parsed base t.data.toList) ∧ Below W.heap.size W w' := by
          intro W2
          rcases hb with rfl | rfl
          · exact parse_in10 t (by omega) (by omega) W2
          · exact parse_in16 t (by omega) (by omega) W2
        unfold parsed at K
        cases hd : t.data.toList.all (digB base)
        · rw [hd] at K
          rw [number_bad hd]
          exact parseU_bad base (-1) t (by omega) W sa hW K
        · rw [hd] at K
          have e := number_ok (base := base) (most := most) (l := t.data.toList) (by omega) (by omega)
          have hp := (numF_bd base (by omega) t.data.toList 0 hd (by omega)).1
          rw [e, decide_eq_true (show numF base 0 t.data.toList ≠ -1 by omega)]
          exact parseU_ok base _ t W K
    have hnl := number_le base most t.data.toList (by omega)
    have hn7 : base ^ most ≤ 16777216 * 16 := by
      have h1 := pow_small base most 7 (by omega) hm
      rcases hb with rfl | rfl
      · have : (10 : Int) ^ 7 = 10000000 := by decide
        omega
      · have : (16 : Int) ^ 7 = 268435456 := by decide
        omega
    generalize numberL base most t.data.toList = n at KU hnl
    have HS := Lib.hid hs
    unfold maxLen at ht
    have q0 : -1 ≤ n := hnl.1
    have q1 : n ≤ 268435456 := by omega
    clear hl hs hb hnl hn7 h
    by_cases hn : n = -1
    · subst hn
      rw [decide_eq_false (by simp)] at KU
      unfold NumOr at KU
      simp only [Bool.false_eq_true, if_false] at KU
      go_enter Tryd.func32, Tryd.ntmps32
      go_wp2_with fail
      refine (KU.out _ HS.out).mono ?_
      rintro e w1 ⟨⟨N, rfl⟩, hb⟩
      go_wp2
      go_ret
      exact ⟨rfl, hb⟩
    · have q2 : 0 ≤ n := by omega
      rw [decide_eq_true hn] at KU
      unfold NumOr at KU
      simp only [if_true] at KU
      clear hn
      go_enter Tryd.func32, Tryd.ntmps32
      go_wp2_with fail
      refine (KU.out _ HS.out).mono ?_
      rintro e w1 ⟨rfl, hb⟩
      go_wp2
      go_ret
      exact ⟨rfl, hb⟩

/-! strings.Cut at a semicolon -/
theorem indexByte_find : ∀ (l : List UInt8) (c : UInt8), Lib.indexByte l c = if l.findIdx (· == c) < l.length then (l.findIdx (· == c) : Int) else -1
  | [], c => by simp [Lib.indexByte]
  | b :: l, c => by
    have ih := indexByte_find l c
    unfold Lib.indexByte
    rw [List.findIdx_cons, ih]
    cases hb : (b == c)
    · simp only [Bool.false_eq_true, if_false, cond_false, List.length_cons]
      by_cases h : l.findIdx (· == c) < l.length
      · have h2 : (((l.findIdx (· == c) : Nat) : Int) == -1) = false := by rw [beq_eq_false_iff_ne]; omega
        rw [if_pos h, h2, if_neg (by simp), if_pos (by omega)]
        omega
      · rw [if_neg h, if_pos (by decide), if_neg (by omega)]
    · simp
theorem index_semi (s : ByteArray) : Lib.indexByte s.data.toList 59 = if semi s.data.toList < s.size then (semi s.data.toList : Int) else -1 := by
  rw [indexByte_find]
  rfl

theorem cut_hit (s : ByteArray) (hs : s.size ≤ maxLen) (i : Nat) (hi : i < s.size) (h : Lib.indexByte s.data.toList 59 = (i : Int)) (w : World) :
    Calls Tryd.prog 17 #[.string s, .string ⟨#[59]⟩] w fun e w' => e = .returned (.tuple #[.string (s.extract 0 i), .string (s.extract (i + 1) s.size), .bool true]) ∧ Below w.heap.size w w' := by
  have K0 : ∀ W, Calls Tryd.prog 39 #[.string s, .string ⟨#[59]⟩] W fun e w' => e = .returned (.int .i64 i) ∧ w' = W := by
    intro W
    have := Tryd.stringslite_Index_one s 59 W
    rw [h] at this
    exact this
  have K := Lib.hid K0
  unfold maxLen at hs
  have hii : (i : Int) < (s.size : Int) := by omega
  clear K0 h
  have K1 : Hid (∀ W, Calls Tryd.prog 30 #[.string s, .string ⟨#[59]⟩] W fun e w' => e = .returned (.tuple #[.string (s.extract 0 i), .string (s.extract (i + 1) s.size), .bool true]) ∧ Below W.heap.size W w') := by
    refine Lib.hid fun W => ?_
    go_enter Tryd.func30, Tryd.ntmps30
    go_wp2_with (go_at_call 39; refine (K.out _).mono ?_; rintro e w' ⟨rfl, rfl⟩)
    have c1 : (0 : Int) ≤ (i : Int) := by omega
    have c2 : (i : Int) ≤ (s.size : Int) := by omega
    have c3 : (0 : Int) ≤ (i : Int) + 1 := by omega
    have c4 : (i : Int) + 1 ≤ (s.size : Int) := by omega
    have c5 : IntKind.i64.wrap ((i : Int) + 1) = (i : Int) + 1 := by rw [IntKind.wrap_i64]; omega
    have mixed : Tryd.prog.follows Departure.mixedOrders = true := by kernel_rfl
    go_region_o
    clear c5
    go_wp2
    go_ret3
    exact ⟨rfl, below_drewN (Below.refl _ _) _⟩
  go_enter Tryd.func17, Tryd.ntmps17
  go_wp2_with (go_at_call 30; refine (K1.out _).mono ?_; rintro e w' ⟨rfl, hb⟩)
  go_ret3
  exact ⟨rfl, hb⟩
theorem cut_miss (s : ByteArray) (h : Lib.indexByte s.data.toList 59 = -1) (w : World) :
    Calls Tryd.prog 17 #[.string s, .string ⟨#[59]⟩] w fun e w' => e = .returned (.tuple #[.string s, .string ⟨#[]⟩, .bool false]) ∧ Below w.heap.size w w' := by
  have K0 : ∀ W, Calls Tryd.prog 39 #[.string s, .string ⟨#[59]⟩] W fun e w' => e = .returned (.int .i64 (-1)) ∧ w' = W := by
    intro W
    have := Tryd.stringslite_Index_one s 59 W
    rw [h] at this
    exact this
  have K := Lib.hid K0
  clear K0 h
  have K1 : Hid (∀ W, Calls Tryd.prog 30 #[.string s, .string ⟨#[59]⟩] W fun e w' => e = .returned (.tuple #[.string s, .string ⟨#[]⟩, .bool false]) ∧ Below W.heap.size W w') := by
    refine Lib.hid fun W => ?_
    go_enter Tryd.func30, Tryd.ntmps30
    go_wp2_with (go_at_call 39; refine (K.out _).mono ?_; rintro e w' ⟨rfl, rfl⟩)
    go_ret3
    exact ⟨rfl, Below.refl _ _⟩
  go_enter Tryd.func17, Tryd.ntmps17
  go_wp2_with (go_at_call 30; refine (K1.out _).mono ?_; rintro e w' ⟨rfl, hb⟩)
  go_ret3
  exact ⟨rfl, hb⟩
end Go.Proofs.YtkpbamjmdcbflaaDoor
