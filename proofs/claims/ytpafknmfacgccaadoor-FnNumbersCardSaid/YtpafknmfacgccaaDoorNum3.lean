/- Contracts of the model's l3Hex and l3Number. -/
import Derived.Test.YtpafknmfacgccaaDoorHexN
import Derived.Laws.IdiomStrings
namespace Go.Proofs.YtpafknmfacgccaaDoor
open Go.ChangeShapes Go.WideShapes Go.ChangeAt Go.RowKit
set_option linter.unusedVariables false

theorem ret_int {k : IntKind} {a b : Int} (h : a = b) : Ending.returned (.int k a) = .returned (.int k b) := by rw [h]
theorem l3Hex_any (c : UInt8) (w : World) :
    Calls Tryd.prog 67 #[.int .u8 (c.toNat : Int)] w fun e w' => e = .returned (.int .i64 (hexV c)) ∧ w' = w := by
  have h256 := c.toNat_lt
  have e : hexV c = if 48 ≤ (c.toNat : Int) ∧ (c.toNat : Int) ≤ 57 then (c.toNat : Int) - 48 else if 97 ≤ (c.toNat : Int) ∧ (c.toNat : Int) ≤ 102 then (c.toNat : Int) - 97 + 10 else if 65 ≤ (c.toNat : Int) ∧ (c.toNat : Int) ≤ 70 then (c.toNat : Int) - 65 + 10 else -1 := by
    unfold hexV
    repeat' split
    all_goals first | rfl | omega
  rw [e]
  have x0 : 0 ≤ (c.toNat : Int) := by omega
  have x1 : (c.toNat : Int) ≤ 255 := by omega
  generalize (c.toNat : Int) = x at x0 x1
  clear e h256
  by_cases h1 : 48 ≤ x ∧ x ≤ 57
  · rw [if_pos h1]
    obtain ⟨a, b⟩ := h1
    go_enter Tryd.func67, Tryd.ntmps67
    go_wp2
    go_ret
    exact ⟨rfl, rfl⟩
  · rw [if_neg h1]
    by_cases h2 : 97 ≤ x ∧ x ≤ 102
    · rw [if_pos h2]
      obtain ⟨a, b⟩ := h2
      clear h1
      go_enter Tryd.func67, Tryd.ntmps67
      go_wp2
      go_ret
      exact ⟨rfl, rfl⟩
    · rw [if_neg h2]
      by_cases h3 : 65 ≤ x ∧ x ≤ 70
      · rw [if_pos h3]
        obtain ⟨a, b⟩ := h3
        clear h1 h2
        go_enter Tryd.func67, Tryd.ntmps67
        go_wp2
        go_ret
        exact ⟨rfl, rfl⟩
      · rw [if_neg h3]
        have hq : (x < 48 ∨ 57 < x) ∧ (x < 97 ∨ 102 < x) ∧ (x < 65 ∨ 70 < x) := by omega
        have HQ := Lib.hid hq
        clear h1 h2 h3 hq
        go_enter Tryd.func67, Tryd.ntmps67
        go_wp2
        all_goals first | (exfalso; have := HQ.out; omega) | (go_ret; exact ⟨rfl, rfl⟩)

theorem numF_all {base : Int} {l : List UInt8} {k : Nat} (h : (l.take k).all (digB base) = true) (hk : k = l.length) (h1 : 1 ≤ l.length) {most : Nat} (h2 : l.length ≤ most) : numberL base most l = numF base 0 (l.take k) := by
  subst hk
  rw [List.take_length]
  unfold numberL
  rw [if_neg (by omega)]
theorem take_snoc' (s : ByteArray) (k : Nat) (h : k < s.size) : s.data.toList.take (k + 1) = s.data.toList.take k ++ [s[k]] := by
  rw [List.take_succ_eq_append_getElem (by simpa using h)]
  rfl
theorem numF_snoc' (base : Int) : ∀ (l : List UInt8) (n : Int) (c : UInt8), (l ++ [c]).all (digB base) = true → numF base n (l ++ [c]) = numF base n l * base + hexV c
  | [], n, c, h => by
    simp at h
    simp [numF, h]
  | d :: t, n, c, h => by
    rw [List.cons_append, List.all_cons, Bool.and_eq_true] at h
    have ih := numF_snoc' base t (n * base + hexV d) c h.2
    simp only [List.cons_append, numF, h.1, if_true]
    exact ih
theorem seven' {base : Int} {k : Nat} (hb : base = 10 ∨ base = 16) (hk : k ≤ 6) : (1 : Int) * base ^ k ≤ 16777216 := by
  have h1 := pow_small base k 6 (by omega) hk
  rcases hb with rfl | rfl
  · have : (10 : Int) ^ 6 = 1000000 := by decide
    omega
  · have : (16 : Int) ^ 6 = 16777216 := by decide
    omega
theorem all_take_false' {l : List UInt8} {k : Nat} {c : UInt8} {p : UInt8 → Bool} (h : l.take (k + 1) = l.take k ++ [c]) (hc : p c = false) : l.all p = false := by
  rw [← List.take_append_drop (k + 1) l, h, List.all_append, List.all_append]
  simp [hc]

set_option maxHeartbeats 1600000 in
theorem l3Number10 (most : Nat) (hm : most ≤ 7) (s : ByteArray) (hs : s.size ≤ maxLen) (w : World) :
    Calls Tryd.prog 43 #[.string s, .int .i64 10, .int .i64 most] w fun e w' => e = .returned (.int .i64 (numberL 10 most s.data.toList)) ∧ w' = w := by
  unfold maxLen at hs
  have hl : s.data.toList.length = s.size := by simp
  have hm' : (most : Int) ≤ 7 := by omega
  by_cases h0 : s.size < 1
  · have e : numberL 10 most s.data.toList = -1 := by unfold numberL; rw [if_pos (by omega)]
    rw [e]
    have h0' : (s.size : Int) < 1 := by omega
    clear e hl h0
    go_enter Tryd.func43, Tryd.ntmps43
    go_wp2
    go_ret
    exact ⟨rfl, rfl⟩
  · have h1 : 1 ≤ (s.size : Int) := by omega
    by_cases h2 : most < s.size
    · have e : numberL 10 most s.data.toList = -1 := by unfold numberL; rw [if_pos (by omega)]
      rw [e]
      have h2' : (most : Int) < (s.size : Int) := by omega
      clear e hl h0 h2
      go_enter Tryd.func43, Tryd.ntmps43
      go_wp2
      go_ret
      exact ⟨rfl, rfl⟩
    · have h2' : (s.size : Int) ≤ (most : Int) := by omega
      generalize hr : numberL 10 most s.data.toList = r
      have HR := Lib.hid hr
      have HL := Lib.hid hl
      have h7 : s.size ≤ 7 := by omega
      clear hr hl h0
      go_enter Tryd.func43, Tryd.ntmps43
      go_wp2
      go_loop [7, 8] (fun n i => ∃ (k : Nat) (a : Int), k ≤ s.size ∧ i = .int .i64 k ∧ n = .int .i64 a ∧ Hid ((s.data.toList.take k).all (digB 10) = true ∧ a = numF 10 0 (s.data.toList.take k))) (fun _ i => s.size - (intOf i).toNat)
      case atStart => exact ⟨0, 0, Nat.zero_le _, rfl, rfl, by simp, rfl⟩
      case round =>
        obtain ⟨k, a, hk, rfl, rfl, hh⟩ := hrel
        by_cases hkn : k < s.size
        · have hbd := numF_bd 10 (by omega) _ 0 hh.out.1 (by omega)
          rw [← hh.out.2, List.length_take, HL.out, Nat.min_eq_left hk] at hbd
          have hsv := seven' (base := 10) (k := k) (by omega) (by omega)
          obtain ⟨a0, a1⟩ := hbd
          have a2 : a < 16777216 := by omega
          have HS := Lib.hid (take_snoc' s k hkn)
          have KH := Lib.hid (l3Hex_any s[k])
          have hv := hexV_le s[k]
          cases hdg : digB 10 s[k]
          · have hr : r = -1 := by
              rw [← HR.out]
              unfold numberL
              rw [if_neg (by rw [HL.out]; omega)]
              exact numF_lt _ _ 0 (all_take_false' HS.out hdg)
            subst hr
            unfold digB at hdg
            clear hsv a1 hh HS
            have hq : hexV s[k] < 0 ∨ 10 ≤ hexV s[k] := by
              simp at hdg
              omega
            generalize hexV s[k] = v at KH hv hq
            clear hdg
            rcases hq with hq | hq
            · go_wp2_with (go_at_call 67; refine (KH.out _).mono ?_; rintro e w' ⟨rfl, rfl⟩)
              all_goals go_ret
              all_goals exact ⟨rfl, rfl⟩
            · have hq' : 0 ≤ v := by omega
              go_wp2_with (go_at_call 67; refine (KH.out _).mono ?_; rintro e w' ⟨rfl, rfl⟩)
              all_goals go_ret
              all_goals exact ⟨rfl, rfl⟩
          · have hall : (s.data.toList.take (k + 1)).all (digB 10) = true := by rw [HS.out, List.all_append, hh.out.1]; simp [hdg]
            have hnum : numF 10 0 (s.data.toList.take (k + 1)) = a * 10 + hexV s[k] := by
              rw [HS.out] at hall ⊢
              rw [numF_snoc' _ _ _ _ hall, ← hh.out.2]
            have HN := Lib.hid (And.intro hall hnum.symm)
            unfold digB at hdg
            simp only [Bool.and_eq_true, decide_eq_true_eq] at hdg
            obtain ⟨v0, v1⟩ := hdg
            clear hsv a1 hh HS hall hnum
            generalize hexV s[k] = v at KH hv HN v0 v1
            go_wp2_with (go_at_call 67; refine (KH.out _).mono ?_; rintro e w' ⟨rfl, rfl⟩)
            all_goals
              go_round
              case rel => exact ⟨k + 1, a * 10 + v, by omega, by go_num, rfl, HN⟩
              case measure => simp [intOf]; omega
        · obtain rfl : k = s.size := by omega
          have hr : r = a := by rw [← HR.out, numF_all hh.out.1 HL.out.symm (by rw [HL.out]; omega) (by rw [HL.out]; omega), ← hh.out.2]
          subst hr
          clear hh
          go_wp2
          go_ret
          exact ⟨rfl, rfl⟩

set_option maxHeartbeats 1600000 in
theorem l3Number16 (most : Nat) (hm : most ≤ 7) (s : ByteArray) (hs : s.size ≤ maxLen) (w : World) :
    Calls Tryd.prog 43 #[.string s, .int .i64 16, .int .i64 most] w fun e w' => e = .returned (.int .i64 (numberL 16 most s.data.toList)) ∧ w' = w := by
  unfold maxLen at hs
  have hl : s.data.toList.length = s.size := by simp
  have hm' : (most : Int) ≤ 7 := by omega
  by_cases h0 : s.size < 1
  · have e : numberL 16 most s.data.toList = -1 := by unfold numberL; rw [if_pos (by omega)]
    rw [e]
    have h0' : (s.size : Int) < 1 := by omega
    clear e hl h0
    go_enter Tryd.func43, Tryd.ntmps43
    go_wp2
    go_ret
    exact ⟨rfl, rfl⟩
  · have h1 : 1 ≤ (s.size : Int) := by omega
    by_cases h2 : most < s.size
    · have e : numberL 16 most s.data.toList = -1 := by unfold numberL; rw [if_pos (by omega)]
      rw [e]
      have h2' : (most : Int) < (s.size : Int) := by omega
      clear e hl h0 h2
      go_enter Tryd.func43, Tryd.ntmps43
      go_wp2
      go_ret
      exact ⟨rfl, rfl⟩
    · have h2' : (s.size : Int) ≤ (most : Int) := by omega
      generalize hr : numberL 16 most s.data.toList = r
      have HR := Lib.hid hr
      have HL := Lib.hid hl
      have h7 : s.size ≤ 7 := by omega
      clear hr hl h0
      go_enter Tryd.func43, Tryd.ntmps43
      go_wp2
      go_loop [7, 8] (fun n i => ∃ (k : Nat) (a : Int), k ≤ s.size ∧ i = .int .i64 k ∧ n = .int .i64 a ∧ Hid ((s.data.toList.take k).all (digB 16) = true ∧ a = numF 16 0 (s.data.toList.take k))) (fun _ i => s.size - (intOf i).toNat)
      case atStart => exact ⟨0, 0, Nat.zero_le _, rfl, rfl, by simp, rfl⟩
      case round =>
        obtain ⟨k, a, hk, rfl, rfl, hh⟩ := hrel
        by_cases hkn : k < s.size
        · have hbd := numF_bd 16 (by omega) _ 0 hh.out.1 (by omega)
          rw [← hh.out.2, List.length_take, HL.out, Nat.min_eq_left hk] at hbd
          have hsv := seven' (base := 16) (k := k) (by omega) (by omega)
          obtain ⟨a0, a1⟩ := hbd
          have a2 : a < 16777216 := by omega
          have HS := Lib.hid (take_snoc' s k hkn)
          have KH := Lib.hid (l3Hex_any s[k])
          have hv := hexV_le s[k]
          cases hdg : digB 16 s[k]
          · have hr : r = -1 := by
              rw [← HR.out]
              unfold numberL
              rw [if_neg (by rw [HL.out]; omega)]
              exact numF_lt _ _ 0 (all_take_false' HS.out hdg)
            subst hr
            unfold digB at hdg
            clear hsv a1 hh HS
            have hq : hexV s[k] < 0 ∨ 16 ≤ hexV s[k] := by
              simp at hdg
              omega
            generalize hexV s[k] = v at KH hv hq
            clear hdg
            rcases hq with hq | hq
            · go_wp2_with (go_at_call 67; refine (KH.out _).mono ?_; rintro e w' ⟨rfl, rfl⟩)
              all_goals go_ret
              all_goals exact ⟨rfl, rfl⟩
            · have hq' : 0 ≤ v := by omega
              go_wp2_with (go_at_call 67; refine (KH.out _).mono ?_; rintro e w' ⟨rfl, rfl⟩)
              all_goals go_ret
              all_goals exact ⟨rfl, rfl⟩
          · have hall : (s.data.toList.take (k + 1)).all (digB 16) = true := by rw [HS.out, List.all_append, hh.out.1]; simp [hdg]
            have hnum : numF 16 0 (s.data.toList.take (k + 1)) = a * 16 + hexV s[k] := by
              rw [HS.out] at hall ⊢
              rw [numF_snoc' _ _ _ _ hall, ← hh.out.2]
            have HN := Lib.hid (And.intro hall hnum.symm)
            unfold digB at hdg
            simp only [Bool.and_eq_true, decide_eq_true_eq] at hdg
            obtain ⟨v0, v1⟩ := hdg
            clear hsv a1 hh HS hall hnum
            generalize hexV s[k] = v at KH hv HN v0 v1
            go_wp2_with (go_at_call 67; refine (KH.out _).mono ?_; rintro e w' ⟨rfl, rfl⟩)
            all_goals
              go_round
              case rel => exact ⟨k + 1, a * 16 + v, by omega, by go_num, rfl, HN⟩
              case measure => simp [intOf]; omega
        · obtain rfl : k = s.size := by omega
          have hr : r = a := by rw [← HR.out, numF_all hh.out.1 HL.out.symm (by rw [HL.out]; omega) (by rw [HL.out]; omega), ← hh.out.2]
          subst hr
          clear hh
          go_wp2
          go_ret
          exact ⟨rfl, rfl⟩
end Go.Proofs.YtpafknmfacgccaaDoor
