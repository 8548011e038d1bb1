/- Contract of the laws' eqByteS. -/
import Derived.Test.YticpebpicdboaaaBase
namespace Go.Proofs.Yticpebpicdboaaa
open Go.ChangeShapes Go.WideShapes Go.ChangeAt Go.RowKit
set_option linter.unusedVariables false

set_option maxHeartbeats 800000 in
theorem eqByteS_len (a1 a2 : Option Addr) (n1 n2 c1 c2 : Nat) (w : World) (h1 : n1 ≤ 9223372036854775807) (h2 : n2 ≤ 9223372036854775807) (hne : n1 ≠ n2) :
    Calls Try.prog 14 #[.slice a1 n1 c1, .slice a2 n2 c2] w fun e w' => e = .returned (.bool false) ∧ ∃ n, w' = w.drewN n := by
  have hb : ((n1 : Int) != (n2 : Int)) = true := by rw [bne_iff_ne]; omega
  have hb2 : ((n1 : Int) == (n2 : Int)) = false := by rw [beq_eq_false_iff_ne]; omega
  clear hne
  go_enter Try.func14, Try.ntmps14
  go_wp2
  go_ret
  exact ⟨rfl, 0, rfl⟩
set_option maxHeartbeats 800000 in
theorem eqByteS_nil (a1 a2 : Option Addr) (c1 c2 : Nat) (w : World) :
    Calls Try.prog 14 #[.slice a1 0 c1, .slice a2 0 c2] w fun e w' => e = .returned (.bool true) ∧ ∃ n, w' = w.drewN n := by
  go_enter Try.func14, Try.ntmps14
  go_wp2
  go_loop [5] (fun i => i = .int .i64 0) (fun i => 0)
  case atStart => rfl
  case round =>
    subst hrel
    go_wp2
    go_ret
    exact ⟨rfl, 0, rfl⟩

set_option maxHeartbeats 1600000 in
theorem eqByteS_any (v1 v2 : Value) (xs ys : List Int) (w : World) (h1 : Row w .u8 v1 xs) (h2 : Row w .u8 v2 ys) :
    Calls Try.prog 14 #[v1, v2] w fun e w' => e = .returned (.bool (decide (xs = ys))) ∧ ∃ n, w' = w.drewN n := by
  rcases h1 with ⟨rfl, rfl⟩ | ⟨b1, o1, c1, rfl, hc1, hm1, hb1, hx⟩
  · rcases h2 with ⟨rfl, rfl⟩ | ⟨b2, o2, c2, rfl, hc2, hm2, hb2, hy⟩
    · exact (eqByteS_nil _ _ _ _ w).mono fun e w' ⟨he, hw⟩ => ⟨he, hw⟩
    · cases ys with
      | nil => exact (eqByteS_nil _ _ _ _ w).mono fun e w' ⟨he, hw⟩ => ⟨he, hw⟩
      | cons y ys =>
        refine (eqByteS_len _ _ _ _ _ _ w (by omega) (by unfold maxLen at hm2; omega) (by simp)).mono fun e w' ⟨he, hw⟩ => ⟨?_, hw⟩
        rw [he, decide_eq_false (by simp)]
  · rcases h2 with ⟨rfl, rfl⟩ | ⟨b2, o2, c2, rfl, hc2, hm2, hb2, hy⟩
    · cases xs with
      | nil => exact (eqByteS_nil _ _ _ _ w).mono fun e w' ⟨he, hw⟩ => ⟨he, hw⟩
      | cons y ys =>
        refine (eqByteS_len _ _ _ _ _ _ w (by unfold maxLen at hm1; omega) (by omega) (by simp)).mono fun e w' ⟨he, hw⟩ => ⟨?_, hw⟩
        rw [he, decide_eq_false (by simp)]
    · by_cases hl : xs.length = ys.length
      · have hmm : xs.length ≤ 9223372036854775807 := by unfold maxLen at hm1; omega
        have HL := Lib.hid hl
        clear hl
        rw [← HL.out]
        go_enter Try.func14, Try.ntmps14
        go_wp2
        go_loopw [5] (fun i wr => ∃ k : Nat, k ≤ xs.length ∧ i = .int .i64 k ∧ xs.take k = ys.take k ∧ ∃ n, wr = w.drewN n) (fun i _ => xs.length - (intOf i).toNat)
        case atStart => exact ⟨0, Nat.zero_le _, rfl, rfl, 0, rfl⟩
        case round =>
          obtain ⟨k, hk, rfl, ht, nd, rfl⟩ := hrel
          have HT := Lib.hid ht
          clear ht
          by_cases hlt : k < xs.length
          · have d1 := hx k hlt
            have d2 := hy k (by have := HL.out; omega)
            clear hx hy
            have k1 : (k : Int) < (xs.length : Int) := by omega
            have hne := ne_at HL.out k hlt
            have hsu := fun h => take_eq_succ HL.out k hlt h HT.out
            generalize xs.getD k 0 = x at d1 hne hsu
            generalize ys.getD k 0 = y at d2 hne hsu
            have HNE := Lib.hid hne
            have HSU := Lib.hid hsu
            clear hne hsu
            by_cases he : x = y
            · have q1 : (x == y) = true := by simpa using he
              have q2 : (x != y) = false := by simpa using he
              have HE := Lib.hid q1
              subst he
              clear q1 q2
              go_wp2_with fail
              go_quiet (fail)
              go_wp2
              go_roundw
              case rel => exact ⟨k + 1, by omega, by go_num, HSU.out HE.out, _, rfl⟩
              case measure => simp [intOf]; omega
            · have q1 : (x == y) = false := by simpa using he
              have q2 : (x != y) = true := by simpa using he
              have HE := Lib.hid q1
              go_wp2_with fail
              go_quiet (fail)
              go_wp2
              go_ret
              exact ⟨ret_bool (HNE.out HE.out).symm, _, World.drewN_drewN _ _ _⟩
          · obtain rfl : k = xs.length := by omega
            go_wp2
            go_ret
            have := HT.out
            rw [List.take_length, HL.out, List.take_length] at this
            exact ⟨ret_bool (by simpa using this), _, rfl⟩
      · refine (eqByteS_len _ _ _ _ _ _ w (by unfold maxLen at hm1; omega) (by unfold maxLen at hm2; omega) hl).mono fun e w' ⟨he, hw⟩ => ⟨?_, hw⟩
        rw [he, decide_eq_false (fun h => hl (by rw [h]))]
end Go.Proofs.Yticpebpicdboaaa
