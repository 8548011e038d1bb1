/- Contracts of the laws' helpers on slices of bytes. -/
import Derived.Test.YtlhflkpbccbofaaEqByteS
namespace Go.Proofs.Ytlhflkpbccbofaa
open Go.ChangeShapes Go.WideShapes Go.ChangeAt Go.RowKit
set_option linter.unusedVariables false


/-- the marks k, k+1, .. of n bytes -/
def markL (k n : Nat) : List Int := (List.range n).map fun i => ((k + i : Nat) : Int) % 256
theorem markL_length (k n : Nat) : (markL k n).length = n := by simp [markL]
theorem markL_get (k n i : Nat) (h : i < n) : (markL k n).getD i 0 = ((k + i : Nat) : Int) % 256 := by
  simp [markL, List.getD_eq_getElem?_getD, h]
theorem markL_succ (k n : Nat) : markL k (n + 1) = markL k n ++ [((k + n : Nat) : Int) % 256] := by
  simp [markL, List.range_succ]
theorem mark_step (k j : Nat) (xs : List Int) (hj : j < xs.length) (f : Int → Value) :
    ((markL k j ++ xs.drop j).map f).set j (f (((k + j : Nat) : Int) % 256)) = (markL k (j + 1) ++ xs.drop (j + 1)).map f := by
  rw [markL_succ, List.drop_eq_getElem_cons hj, List.map_append, List.set_append_right _ _ (by simp [markL_length])]
  simp only [List.map_cons, List.length_map, markL_length, Nat.sub_self, List.set_cons_zero, List.map_append, List.append_assoc, List.cons_append, List.nil_append]

set_option maxHeartbeats 800000 in
theorem markByteS_row (b cap B : Nat) (xs : List Int) (k0 : Nat) (w : World) (hk0 : k0 ≤ 1152921504606846976) (hn : xs.length ≤ 1152921504606846976)
    (hown : w.ownsRow B 5 1 (.slice (some ⟨b, 0, none⟩) xs.length cap) xs.length (xs.map (Value.int .u8))) :
    Calls Try.prog 18 #[.slice (some ⟨b, 0, none⟩) xs.length cap, .int .i64 k0] w fun e w' => e = .returned (.int .i64 ((k0 + xs.length : Nat) : Int)) ∧
      w'.ownsRow B 5 1 (.slice (some ⟨b, 0, none⟩) xs.length cap) xs.length ((markL k0 xs.length).map (Value.int .u8)) ∧ w.grownBy w' (some b) := by
  go_enter Try.func18, Try.ntmps18
  go_wp2
  go_loopw [1, 5] (fun q i wr => ∃ j : Nat, j ≤ xs.length ∧ i = .int .i64 j ∧ q = .int .i64 ((k0 + j : Nat) : Int) ∧ wr.ownsRow B 5 1 (.slice (some ⟨b, 0, none⟩) xs.length cap) xs.length ((markL k0 j ++ xs.drop j).map (Value.int .u8)) ∧ w.grownBy wr (some b)) (fun _ i _ => xs.length - (intOf i).toNat)
  case atStart => exact ⟨0, Nat.zero_le _, rfl, rfl, by simpa [markL] using hown, World.grownBy.refl _ _⟩
  case round =>
    obtain ⟨j, hj, rfl, rfl, ho, hg⟩ := hrel
    by_cases hlt : j < xs.length
    · have c1 := ho.cellAt j (by omega)
      have c2 : ((markL k0 j ++ xs.drop j).map (Value.int .u8))[j]? = some (.int .u8 (xs.getD j 0)) := by
        rw [List.map_append, List.getElem?_append_right (by simp [markL_length])]
        simp [markL_length, hlt, List.getElem?_drop]
      rw [c2] at c1
      have c3 := ho.frozenAt j
      clear c2
      go_wp2
      go_roundw
      case rel =>
        have h1 := ho.stored j (.int .u8 (((k0 + j : Nat) : Int) % 256))
        rw [mark_step k0 j xs hlt (Value.int .u8)] at h1
        refine ⟨j + 1, by omega, by go_num, by go_num, ?_, ?_⟩
        · rw [Int.natCast_add] at h1
          exact h1.1
        · rw [Int.natCast_add] at h1
          exact grown_trans_row hg h1.2
      case measure => simp [intOf]; omega
    · obtain rfl : j = xs.length := by omega
      go_wp2
      go_ret
      refine ⟨rfl, ?_, hg⟩
      rw [List.drop_length, List.append_nil] at ho
      exact ho

set_option maxHeartbeats 800000 in
theorem markByteS_nil (k : Int) (w : World) :
    Calls Try.prog 18 #[.slice none 0 0, .int .i64 k] w fun e w' => e = .returned (.int .i64 k) ∧ w' = w := by
  go_enter Try.func18, Try.ntmps18
  go_wp2
  go_loop [1, 5] (fun q i => i = .int .i64 0 ∧ q = .int .i64 k) (fun _ i => 0)
  case atStart => exact ⟨rfl, rfl⟩
  case round =>
    obtain ⟨rfl, rfl⟩ := hrel
    go_wp2
    go_ret
    exact ⟨rfl, rfl⟩

/-- marking an owned row, nil or not -/
theorem markByteS_any (B : Nat) (v : Value) (n : Nat) (xs : List Int) (k0 : Nat) (w : World) (hk0 : k0 ≤ 1152921504606846976) (hn : n ≤ 1152921504606846976)
    (hown : w.ownsRow B 5 1 v n (xs.map (Value.int .u8))) :
    Calls Try.prog 18 #[v, .int .i64 k0] w fun e w' => e = .returned (.int .i64 ((k0 + n : Nat) : Int)) ∧
      w'.ownsRow B 5 1 v n ((markL k0 n).map (Value.int .u8)) ∧ w.grownBy w' v.ownBlock := by
  have hl : xs.length = n := by have := hown.1; simpa using this
  subst hl
  rcases hown.2 with ⟨hv, h0⟩ | ⟨g, cap, cur, hv, _⟩
  · have : xs = [] := List.length_eq_zero_iff.1 h0
    subst this
    subst hv
    refine (markByteS_nil k0 w).mono fun e w' ⟨he, hw⟩ => ?_
    subst hw
    exact ⟨he, by simpa [markL] using hown, World.grownBy.refl _ _⟩
  · subst hv
    exact markByteS_row g cap B xs k0 w hk0 hn hown
end Go.Proofs.Ytlhflkpbccbofaa
