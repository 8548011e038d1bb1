/- Contracts of the laws' helpers on slices of bytes. -/
import Derived.Test.YtlhflkpbccbofaaMarkB
namespace Go.Proofs.Ytlhflkpbccbofaa
open Go.ChangeShapes Go.WideShapes Go.ChangeAt Go.RowKit
set_option linter.unusedVariables false

set_option maxHeartbeats 800000 in
theorem heldByteS_any (v : Value) (n k0 : Nat) (w : World) (hk0 : k0 ≤ 1152921504606846976) (hn : n ≤ 1152921504606846976) (h : Row w .u8 v (markL k0 n)) :
    Calls Try.prog 35 #[v, .int .i64 k0] w fun e w' => e = .returned (.int .i64 ((k0 + n : Nat) : Int)) ∧ w' = w := by
  rcases h with ⟨rfl, h0⟩ | ⟨b, o, cap, rfl, hc, hm, hb, hx⟩
  · have : n = 0 := by have := markL_length k0 n; rw [h0] at this; simpa using this.symm
    subst this
    go_enter Try.func35, Try.ntmps35
    go_wp2
    go_loop [1, 5] (fun q i => i = .int .i64 0 ∧ q = .int .i64 k0) (fun _ i => 0)
    case atStart => exact ⟨rfl, rfl⟩
    case round =>
      obtain ⟨rfl, rfl⟩ := hrel
      go_wp2
      go_ret
      exact ⟨rfl, rfl⟩
  · rw [markL_length] at *
    go_enter Try.func35, Try.ntmps35
    go_wp2
    go_loop [1, 5] (fun q i => ∃ j : Nat, j ≤ n ∧ i = .int .i64 j ∧ q = .int .i64 ((k0 + j : Nat) : Int)) (fun _ i => n - (intOf i).toNat)
    case atStart => exact ⟨0, Nat.zero_le _, rfl, rfl⟩
    case round =>
      obtain ⟨j, hj, rfl, rfl⟩ := hrel
      by_cases hlt : j < n
      · have c1 := hx j hlt
        rw [markL_get k0 n j hlt, Int.natCast_add] at c1
        clear hx
        go_wp2
        go_round
        case rel => exact ⟨j + 1, by omega, by go_num, by go_num⟩
        case measure => simp [intOf]; omega
      · obtain rfl : j = n := by omega
        clear hx
        go_wp2
        go_ret
        exact ⟨rfl, rfl⟩

/-! The results' wrappers. -/

set_option maxHeartbeats 800000 in
theorem eqBytesResult_any (c1 c2 : Int) (v1 v2 : Value) (xs ys : List Int) (w : World) (h1 : Row w .u8 v1 xs) (h2 : Row w .u8 v2 ys) :
    Calls Try.prog 16 #[.agg #[.int .i64 c1, v1], .agg #[.int .i64 c2, v2]] w fun e w' => e = .returned (.bool (c1 == c2 && decide (xs = ys))) ∧ Below w.heap.size w w' := by
  by_cases hc : c1 = c2
  · subst hc
    cases hd : decide (xs = ys)
    all_goals
      go_enter Try.func16, Try.ntmps16
      go_wp2_with fail
      refine (eqByteS_any v1 v2 xs ys _ (h1.below (below2 _ _ _)) (h2.below (below2 _ _ _))).mono ?_
      rintro e w1 ⟨rfl, nd, rfl⟩
      go_wp2
      go_ret
      exact ⟨ret_bool (by simp), below_drewN (below2 _ _ _) _⟩
  · have q1 : (c1 == c2) = false := by simpa using hc
    have q2 : (c1 != c2) = true := by simpa using hc
    go_enter Try.func16, Try.ntmps16
    go_wp2
    go_ret
    exact ⟨ret_bool (by simp [hc]), below2 _ _ _⟩

set_option maxHeartbeats 800000 in
theorem markBytesResult_any (c : Int) (B : Nat) (v : Value) (n : Nat) (xs : List Int) (k0 : Nat) (w : World) (hk0 : k0 ≤ 1152921504606846976) (hn : n ≤ 1152921504606846976)
    (hown : w.ownsRow B 5 1 v n (xs.map (Value.int .u8))) :
    Calls Try.prog 19 #[.agg #[.int .i64 c, v], .int .i64 k0] w fun e w' => e = .returned (.int .i64 ((k0 + n : Nat) : Int)) ∧
      w'.ownsRow B 5 1 v n ((markL k0 n).map (Value.int .u8)) ∧ w.grownBy w' v.ownBlock := by
  have HO := Lib.hid hown
  clear hown
  go_enter Try.func19, Try.ntmps19
  go_wp2_with fail
  refine (markByteS_any B v n xs k0 _ hk0 hn (HO.out.alloc _)).mono ?_
  rintro e w1 ⟨rfl, ho, hg⟩
  have HO2 := Lib.hid ho
  have HG := Lib.hid hg
  clear ho hg
  go_wp2
  go_ret
  exact ⟨rfl, HO2.out, grown_trans_row (World.grownBy_alloc _ _ _) HG.out⟩

set_option maxHeartbeats 800000 in
theorem heldBytesResult_any (c : Int) (v : Value) (n k0 : Nat) (w : World) (hk0 : k0 ≤ 1152921504606846976) (hn : n ≤ 1152921504606846976) (h : Row w .u8 v (markL k0 n)) :
    Calls Try.prog 20 #[.agg #[.int .i64 c, v], .int .i64 k0] w fun e w' => e = .returned (.int .i64 ((k0 + n : Nat) : Int)) ∧ Below w.heap.size w w' := by
  go_enter Try.func20, Try.ntmps20
  go_wp2_with fail
  refine (heldByteS_any v n k0 _ hk0 hn (h.below (below1 _ _))).mono ?_
  rintro e w1 ⟨rfl, rfl⟩
  go_wp2
  go_ret
  exact ⟨rfl, below1 _ _⟩

theorem markBytes1 (c : Int) (B : Nat) (v : Value) (n : Nat) (xs : List Int) (w : World) (hn : n ≤ 1152921504606846976) (hown : w.ownsRow B 5 1 v n (xs.map (Value.int .u8))) :
    Calls Try.prog 19 #[.agg #[.int .i64 c, v], .int .i64 1] w fun e w' => e = .returned (.int .i64 (1 + (n : Int))) ∧
      w'.ownsRow B 5 1 v n ((markL 1 n).map (Value.int .u8)) ∧ w.grownBy w' v.ownBlock :=
  (markBytesResult_any c B v n xs 1 w (by decide) hn hown).mono fun e w' ⟨he, h⟩ => ⟨by rw [he, Int.natCast_add]; rfl, h⟩
theorem heldBytes1 (c : Int) (v : Value) (n : Nat) (w : World) (hn : n ≤ 1152921504606846976) (h : Row w .u8 v (markL 1 n)) :
    Calls Try.prog 20 #[.agg #[.int .i64 c, v], .int .i64 1] w fun e w' => e = .returned (.int .i64 (1 + (n : Int))) ∧ Below w.heap.size w w' :=
  (heldBytesResult_any c v n 1 w (by decide) hn h).mono fun e w' ⟨he, h⟩ => ⟨by rw [he, Int.natCast_add]; rfl, h⟩
theorem eqBytesTrue (c : Int) (v1 v2 : Value) (xs : List Int) (w : World) (h1 : Row w .u8 v1 xs) (h2 : Row w .u8 v2 xs) :
    Calls Try.prog 16 #[.agg #[.int .i64 c, v1], .agg #[.int .i64 c, v2]] w fun e w' => e = .returned (.bool true) ∧ Below w.heap.size w w' :=
  (eqBytesResult_any c c v1 v2 xs xs w h1 h2).mono fun e w' ⟨he, h⟩ => ⟨by rw [he]; simp, h⟩
end Go.Proofs.Ytlhflkpbccbofaa
