/- Contracts of the laws' helpers on slices of bytes. -/
import Derived.Test.YtmgemchpclmknaaDoorBase
namespace Go.Proofs.YtmgemchpclmknaaDoor
open Go.ChangeShapes Go.WideShapes Go.ChangeAt Go.RowKit
set_option linter.unusedVariables false

set_option maxHeartbeats 800000 in
theorem eqByteS_len (a1 a2 : Option Addr) (n1 n2 c1 c2 : Nat) (w : World) (h1 : n1 ≤ 9223372036854775807) (h2 : n2 ≤ 9223372036854775807) (hne : n1 ≠ n2) :
    Calls Tryd.prog 46 #[.slice a1 n1 c1, .slice a2 n2 c2] w fun e w' => e = .returned (.bool false) ∧ ∃ n, w' = w.drewN n := by
  have hb : ((n1 : Int) != (n2 : Int)) = true := by rw [bne_iff_ne]; omega
  have hb2 : ((n1 : Int) == (n2 : Int)) = false := by rw [beq_eq_false_iff_ne]; omega
  clear hne
  go_enter Tryd.func46, Tryd.ntmps46
  go_wp2
  go_ret
  exact ⟨rfl, 0, rfl⟩
set_option maxHeartbeats 800000 in
theorem eqByteS_nil (a1 a2 : Option Addr) (c1 c2 : Nat) (w : World) :
    Calls Tryd.prog 46 #[.slice a1 0 c1, .slice a2 0 c2] w fun e w' => e = .returned (.bool true) ∧ ∃ n, w' = w.drewN n := by
  go_enter Tryd.func46, Tryd.ntmps46
  go_wp2
  go_loop [5] (fun i => i = .int .i64 0) (fun i => 0)
  case atStart => rfl
  case round =>
    subst hrel
    go_wp2
    go_ret
    exact ⟨rfl, 0, rfl⟩

set_option maxHeartbeats 1600000 in
theorem eqByteS_any (v1 v2 : Value) (xs ys : List Int) (w : World) (h1 : Row w .u8 v1 xs) (h2 : Row w .u8 v2 ys) :
    Calls Tryd.prog 46 #[v1, v2] w fun e w' => e = .returned (.bool (decide (xs = ys))) ∧ ∃ n, w' = w.drewN n := by
  rcases h1 with ⟨rfl, rfl⟩ | ⟨b1, o1, c1, rfl, hc1, hm1, hb1, hx⟩
  · rcases h2 with ⟨rfl, rfl⟩ | ⟨b2, o2, c2, rfl, hc2, hm2, hb2, hy⟩
    · exact (eqByteS_nil _ _ _ _ w).mono fun e w' ⟨he, hw⟩ => ⟨he, hw⟩
    · cases ys with
      | nil => exact (eqByteS_nil _ _ _ _ w).mono fun e w' ⟨he, hw⟩ => ⟨he, hw⟩
      | cons y ys =>
        refine (eqByteS_len _ _ _ _ _ _ w (by omega) (by unfold maxLen at hm2; omega) (by simp)).mono fun e w' ⟨he, hw⟩ => ⟨?_, hw⟩
        rw [he, decide_eq_false (by simp)]
  · rcases h2 with ⟨rfl, rfl⟩ | ⟨b2, o2, c2, rfl, hc2, hm2, hb2, hy⟩
    · cases xs with
      | nil => exact (eqByteS_nil _ _ _ _ w).mono fun e w' ⟨he, hw⟩ => ⟨he, hw⟩
      | cons y ys =>
        refine (eqByteS_len _ _ _ _ _ _ w (by unfold maxLen at hm1; omega) (by omega) (by simp)).mono fun e w' ⟨he, hw⟩ => ⟨?_, hw⟩
        rw [he, decide_eq_false (by simp)]
    · by_cases hl : xs.length = ys.length
      · have hmm : xs.length ≤ 9223372036854775807 := by unfold maxLen at hm1; omega
        have HL := Lib.hid hl
        clear hl
        rw [← HL.out]
        go_enter Tryd.func46, Tryd.ntmps46
        go_wp2
        go_loopw [5] (fun i wr => ∃ k : Nat, k ≤ xs.length ∧ i = .int .i64 k ∧ xs.take k = ys.take k ∧ ∃ n, wr = w.drewN n) (fun i _ => xs.length - (intOf i).toNat)
        case atStart => exact ⟨0, Nat.zero_le _, rfl, rfl, 0, rfl⟩
        case round =>
          obtain ⟨k, hk, rfl, ht, nd, rfl⟩ := hrel
          have HT := Lib.hid ht
          clear ht
          by_cases hlt : k < xs.length
          · have d1 := hx k hlt
            have d2 := hy k (by have := HL.out; omega)
            clear hx hy
            have k1 : (k : Int) < (xs.length : Int) := by omega
            have hne := ne_at HL.out k hlt
            have hsu := fun h => take_eq_succ HL.out k hlt h HT.out
            generalize xs.getD k 0 = x at d1 hne hsu
            generalize ys.getD k 0 = y at d2 hne hsu
            have HNE := Lib.hid hne
            have HSU := Lib.hid hsu
            clear hne hsu
            by_cases he : x = y
            · have q1 : (x == y) = true := by simpa using he
              have q2 : (x != y) = false := by simpa using he
              have HE := Lib.hid q1
              subst he
              clear q1 q2
              go_wp2_with fail
              go_quiet (fail)
              go_wp2
              go_roundw
              case rel => exact ⟨k + 1, by omega, by go_num, HSU.out HE.out, _, rfl⟩
              case measure => simp [intOf]; omega
            · have q1 : (x == y) = false := by simpa using he
              have q2 : (x != y) = true := by simpa using he
              have HE := Lib.hid q1
              go_wp2_with fail
              go_quiet (fail)
              go_wp2
              go_ret
              exact ⟨ret_bool (HNE.out HE.out).symm, _, World.drewN_drewN _ _ _⟩
          · obtain rfl : k = xs.length := by omega
            go_wp2
            go_ret
            have := HT.out
            rw [List.take_length, HL.out, List.take_length] at this
            exact ⟨ret_bool (by simpa using this), _, rfl⟩
      · refine (eqByteS_len _ _ _ _ _ _ w (by unfold maxLen at hm1; omega) (by unfold maxLen at hm2; omega) hl).mono fun e w' ⟨he, hw⟩ => ⟨?_, hw⟩
        rw [he, decide_eq_false (fun h => hl (by rw [h]))]

/-- the marks k, k+1, .. of n bytes -/
def markL (k n : Nat) : List Int := (List.range n).map fun i => ((k + i : Nat) : Int) % 256
theorem markL_length (k n : Nat) : (markL k n).length = n := by simp [markL]
theorem markL_get (k n i : Nat) (h : i < n) : (markL k n).getD i 0 = ((k + i : Nat) : Int) % 256 := by
  simp [markL, List.getD_eq_getElem?_getD, h]
theorem markL_succ (k n : Nat) : markL k (n + 1) = markL k n ++ [((k + n : Nat) : Int) % 256] := by
  simp [markL, List.range_succ]
theorem mark_step (k j : Nat) (xs : List Int) (hj : j < xs.length) (f : Int → Value) :
    ((markL k j ++ xs.drop j).map f).set j (f (((k + j : Nat) : Int) % 256)) = (markL k (j + 1) ++ xs.drop (j + 1)).map f := by
  rw [markL_succ, List.drop_eq_getElem_cons hj, List.map_append, List.set_append_right _ _ (by simp [markL_length])]
  simp only [List.map_cons, List.length_map, markL_length, Nat.sub_self, List.set_cons_zero, List.map_append, List.append_assoc, List.cons_append, List.nil_append]

set_option maxHeartbeats 800000 in
theorem markByteS_row (b cap B : Nat) (xs : List Int) (k0 : Nat) (w : World) (hk0 : k0 ≤ 1152921504606846976) (hn : xs.length ≤ 1152921504606846976)
    (hown : w.ownsRow B 5 1 (.slice (some ⟨b, 0, none⟩) xs.length cap) xs.length (xs.map (Value.int .u8))) :
    Calls Tryd.prog 84 #[.slice (some ⟨b, 0, none⟩) xs.length cap, .int .i64 k0] w fun e w' => e = .returned (.int .i64 ((k0 + xs.length : Nat) : Int)) ∧
      w'.ownsRow B 5 1 (.slice (some ⟨b, 0, none⟩) xs.length cap) xs.length ((markL k0 xs.length).map (Value.int .u8)) ∧ w.grownBy w' (some b) := by
  go_enter Tryd.func84, Tryd.ntmps84
  go_wp2
  go_loopw [1, 5] (fun q i wr => ∃ j : Nat, j ≤ xs.length ∧ i = .int .i64 j ∧ q = .int .i64 ((k0 + j : Nat) : Int) ∧ wr.ownsRow B 5 1 (.slice (some ⟨b, 0, none⟩) xs.length cap) xs.length ((markL k0 j ++ xs.drop j).map (Value.int .u8)) ∧ w.grownBy wr (some b)) (fun _ i _ => xs.length - (intOf i).toNat)
  case atStart => exact ⟨0, Nat.zero_le _, rfl, rfl, by simpa [markL] using hown, World.grownBy.refl _ _⟩
  case round =>
    obtain ⟨j, hj, rfl, rfl, ho, hg⟩ := hrel
    by_cases hlt : j < xs.length
    · have c1 := ho.cellAt j (by omega)
      have c2 : ((markL k0 j ++ xs.drop j).map (Value.int .u8))[j]? = some (.int .u8 (xs.getD j 0)) := by
        rw [List.map_append, List.getElem?_append_right (by simp [markL_length])]
        simp [markL_length, hlt, List.getElem?_drop]
      rw [c2] at c1
      have c3 := ho.frozenAt j
      clear c2
      go_wp2
      go_roundw
      case rel =>
        have h1 := ho.stored j (.int .u8 (((k0 + j : Nat) : Int) % 256))
        rw [mark_step k0 j xs hlt (Value.int .u8)] at h1
        refine ⟨j + 1, by omega, by go_num, by go_num, ?_, ?_⟩
        · rw [Int.natCast_add] at h1
          exact h1.1
        · rw [Int.natCast_add] at h1
          exact grown_trans_row hg h1.2
      case measure => simp [intOf]; omega
    · obtain rfl : j = xs.length := by omega
      go_wp2
      go_ret
      refine ⟨rfl, ?_, hg⟩
      rw [List.drop_length, List.append_nil] at ho
      exact ho

set_option maxHeartbeats 800000 in
theorem markByteS_nil (k : Int) (w : World) :
    Calls Tryd.prog 84 #[.slice none 0 0, .int .i64 k] w fun e w' => e = .returned (.int .i64 k) ∧ w' = w := by
  go_enter Tryd.func84, Tryd.ntmps84
  go_wp2
  go_loop [1, 5] (fun q i => i = .int .i64 0 ∧ q = .int .i64 k) (fun _ i => 0)
  case atStart => exact ⟨rfl, rfl⟩
  case round =>
    obtain ⟨rfl, rfl⟩ := hrel
    go_wp2
    go_ret
    exact ⟨rfl, rfl⟩

/-- marking an owned row, nil or not -/
theorem markByteS_any (B : Nat) (v : Value) (n : Nat) (xs : List Int) (k0 : Nat) (w : World) (hk0 : k0 ≤ 1152921504606846976) (hn : n ≤ 1152921504606846976)
    (hown : w.ownsRow B 5 1 v n (xs.map (Value.int .u8))) :
    Calls Tryd.prog 84 #[v, .int .i64 k0] w fun e w' => e = .returned (.int .i64 ((k0 + n : Nat) : Int)) ∧
      w'.ownsRow B 5 1 v n ((markL k0 n).map (Value.int .u8)) ∧ w.grownBy w' v.ownBlock := by
  have hl : xs.length = n := by have := hown.1; simpa using this
  subst hl
  rcases hown.2 with ⟨hv, h0⟩ | ⟨g, cap, cur, hv, _⟩
  · have : xs = [] := List.length_eq_zero_iff.1 h0
    subst this
    subst hv
    refine (markByteS_nil k0 w).mono fun e w' ⟨he, hw⟩ => ?_
    subst hw
    exact ⟨he, by simpa [markL] using hown, World.grownBy.refl _ _⟩
  · subst hv
    exact markByteS_row g cap B xs k0 w hk0 hn hown

set_option maxHeartbeats 800000 in
theorem heldByteS_any (v : Value) (n k0 : Nat) (w : World) (hk0 : k0 ≤ 1152921504606846976) (hn : n ≤ 1152921504606846976) (h : Row w .u8 v (markL k0 n)) :
    Calls Tryd.prog 85 #[v, .int .i64 k0] w fun e w' => e = .returned (.int .i64 ((k0 + n : Nat) : Int)) ∧ w' = w := by
  rcases h with ⟨rfl, h0⟩ | ⟨b, o, cap, rfl, hc, hm, hb, hx⟩
  · have : n = 0 := by have := markL_length k0 n; rw [h0] at this; simpa using this.symm
    subst this
    go_enter Tryd.func85, Tryd.ntmps85
    go_wp2
    go_loop [1, 5] (fun q i => i = .int .i64 0 ∧ q = .int .i64 k0) (fun _ i => 0)
    case atStart => exact ⟨rfl, rfl⟩
    case round =>
      obtain ⟨rfl, rfl⟩ := hrel
      go_wp2
      go_ret
      exact ⟨rfl, rfl⟩
  · rw [markL_length] at *
    go_enter Tryd.func85, Tryd.ntmps85
    go_wp2
    go_loop [1, 5] (fun q i => ∃ j : Nat, j ≤ n ∧ i = .int .i64 j ∧ q = .int .i64 ((k0 + j : Nat) : Int)) (fun _ i => n - (intOf i).toNat)
    case atStart => exact ⟨0, Nat.zero_le _, rfl, rfl⟩
    case round =>
      obtain ⟨j, hj, rfl, rfl⟩ := hrel
      by_cases hlt : j < n
      · have c1 := hx j hlt
        rw [markL_get k0 n j hlt, Int.natCast_add] at c1
        clear hx
        go_wp2
        go_round
        case rel => exact ⟨j + 1, by omega, by go_num, by go_num⟩
        case measure => simp [intOf]; omega
      · obtain rfl : j = n := by omega
        clear hx
        go_wp2
        go_ret
        exact ⟨rfl, rfl⟩

/-! The results' wrappers. -/

set_option maxHeartbeats 800000 in
theorem eqBytesResult_any (c1 c2 : Int) (v1 v2 : Value) (xs ys : List Int) (w : World) (h1 : Row w .u8 v1 xs) (h2 : Row w .u8 v2 ys) :
    Calls Tryd.prog 47 #[.agg #[.int .i64 c1, v1], .agg #[.int .i64 c2, v2]] w fun e w' => e = .returned (.bool (c1 == c2 && decide (xs = ys))) ∧ Below w.heap.size w w' := by
  by_cases hc : c1 = c2
  · subst hc
    cases hd : decide (xs = ys)
    all_goals
      go_enter Tryd.func47, Tryd.ntmps47
      go_wp2_with fail
      refine (eqByteS_any v1 v2 xs ys _ (h1.below (below2 _ _ _)) (h2.below (below2 _ _ _))).mono ?_
      rintro e w1 ⟨rfl, nd, rfl⟩
      go_wp2
      go_ret
      exact ⟨ret_bool (by simp), below_drewN (below2 _ _ _) _⟩
  · have q1 : (c1 == c2) = false := by simpa using hc
    have q2 : (c1 != c2) = true := by simpa using hc
    go_enter Tryd.func47, Tryd.ntmps47
    go_wp2
    go_ret
    exact ⟨ret_bool (by simp [hc]), below2 _ _ _⟩

set_option maxHeartbeats 800000 in
theorem markBytesResult_any (c : Int) (B : Nat) (v : Value) (n : Nat) (xs : List Int) (k0 : Nat) (w : World) (hk0 : k0 ≤ 1152921504606846976) (hn : n ≤ 1152921504606846976)
    (hown : w.ownsRow B 5 1 v n (xs.map (Value.int .u8))) :
    Calls Tryd.prog 48 #[.agg #[.int .i64 c, v], .int .i64 k0] w fun e w' => e = .returned (.int .i64 ((k0 + n : Nat) : Int)) ∧
      w'.ownsRow B 5 1 v n ((markL k0 n).map (Value.int .u8)) ∧ w.grownBy w' v.ownBlock := by
  have HO := Lib.hid hown
  clear hown
  go_enter Tryd.func48, Tryd.ntmps48
  go_wp2_with fail
  refine (markByteS_any B v n xs k0 _ hk0 hn (HO.out.alloc _)).mono ?_
  rintro e w1 ⟨rfl, ho, hg⟩
  have HO2 := Lib.hid ho
  have HG := Lib.hid hg
  clear ho hg
  go_wp2
  go_ret
  exact ⟨rfl, HO2.out, grown_trans_row (World.grownBy_alloc _ _ _) HG.out⟩

set_option maxHeartbeats 800000 in
theorem heldBytesResult_any (c : Int) (v : Value) (n k0 : Nat) (w : World) (hk0 : k0 ≤ 1152921504606846976) (hn : n ≤ 1152921504606846976) (h : Row w .u8 v (markL k0 n)) :
    Calls Tryd.prog 49 #[.agg #[.int .i64 c, v], .int .i64 k0] w fun e w' => e = .returned (.int .i64 ((k0 + n : Nat) : Int)) ∧ Below w.heap.size w w' := by
  go_enter Tryd.func49, Tryd.ntmps49
  go_wp2_with fail
  refine (heldByteS_any v n k0 _ hk0 hn (h.below (below1 _ _))).mono ?_
  rintro e w1 ⟨rfl, rfl⟩
  go_wp2
  go_ret
  exact ⟨rfl, below1 _ _⟩

theorem markBytes1 (c : Int) (B : Nat) (v : Value) (n : Nat) (xs : List Int) (w : World) (hn : n ≤ 1152921504606846976) (hown : w.ownsRow B 5 1 v n (xs.map (Value.int .u8))) :
    Calls Tryd.prog 48 #[.agg #[.int .i64 c, v], .int .i64 1] w fun e w' => e = .returned (.int .i64 (1 + (n : Int))) ∧
      w'.ownsRow B 5 1 v n ((markL 1 n).map (Value.int .u8)) ∧ w.grownBy w' v.ownBlock :=
  (markBytesResult_any c B v n xs 1 w (by decide) hn hown).mono fun e w' ⟨he, h⟩ => ⟨by rw [he, Int.natCast_add]; rfl, h⟩
theorem heldBytes1 (c : Int) (v : Value) (n : Nat) (w : World) (hn : n ≤ 1152921504606846976) (h : Row w .u8 v (markL 1 n)) :
    Calls Tryd.prog 49 #[.agg #[.int .i64 c, v], .int .i64 1] w fun e w' => e = .returned (.int .i64 (1 + (n : Int))) ∧ Below w.heap.size w w' :=
  (heldBytesResult_any c v n 1 w (by decide) hn h).mono fun e w' ⟨he, h⟩ => ⟨by rw [he, Int.natCast_add]; rfl, h⟩
theorem eqBytesTrue (c : Int) (v1 v2 : Value) (xs : List Int) (w : World) (h1 : Row w .u8 v1 xs) (h2 : Row w .u8 v2 xs) :
    Calls Tryd.prog 47 #[.agg #[.int .i64 c, v1], .agg #[.int .i64 c, v2]] w fun e w' => e = .returned (.bool true) ∧ Below w.heap.size w w' :=
  (eqBytesResult_any c c v1 v2 xs xs w h1 h2).mono fun e w' ⟨he, h⟩ => ⟨by rw [he]; simp, h⟩
end Go.Proofs.YtmgemchpclmknaaDoor
