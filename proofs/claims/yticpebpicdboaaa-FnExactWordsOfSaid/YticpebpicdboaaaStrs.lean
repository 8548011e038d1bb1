/- Contracts of the laws' helpers on slices of texts. -/
import Derived.Test.YticpebpicdboaaaCut
import Derived.Test.YticpebpicdboaaaRowS
import Derived.Test.YticpebpicdboaaaMark
import Derived.Deep.RegionHeld3
namespace Go.Proofs.Yticpebpicdboaaa
open Go.ChangeShapes Go.WideShapes Go.ChangeAt Go.RowKit
set_option linter.unusedVariables false

set_option maxHeartbeats 800000 in
theorem eqStringS_nil (a1 a2 : Option Addr) (c1 c2 : Nat) (w : World) :
    Calls Try.prog 18 #[.slice a1 0 c1, .slice a2 0 c2] w fun e w' => e = .returned (.bool true) ∧ ∃ n, w' = w.drewN n := by
  go_enter Try.func18, Try.ntmps18
  go_wp2
  go_loop [5] (fun i => i = .int .i64 0) (fun i => 0)
  case atStart => rfl
  case round =>
    subst hrel
    go_wp2
    go_ret
    exact ⟨rfl, 0, rfl⟩

set_option maxHeartbeats 1600000 in
theorem eqStringS_true (v1 v2 : Value) (ts : List ByteArray) (w : World) (h1 : RowS w v1 ts) (h2 : RowS w v2 ts) :
    Calls Try.prog 18 #[v1, v2] w fun e w' => e = .returned (.bool true) ∧ ∃ n, w' = w.drewN n := by
  rcases h1 with ⟨rfl, rfl⟩ | ⟨b1, o1, c1, rfl, hc1, hm1, hb1, hx⟩
  · rcases h2 with ⟨rfl, _⟩ | ⟨b2, o2, c2, rfl, hc2, hm2, hb2, hy⟩
    · exact eqStringS_nil _ _ _ _ w
    · exact eqStringS_nil _ _ _ _ w
  · rcases h2 with ⟨rfl, h0⟩ | ⟨b2, o2, c2, rfl, hc2, hm2, hb2, hy⟩
    · subst h0
      exact eqStringS_nil _ _ _ _ w
    · have hmm : ts.length ≤ 9223372036854775807 := by unfold maxLen at hm1; omega
      go_enter Try.func18, Try.ntmps18
      go_wp2
      go_loopw [5] (fun i wr => ∃ k : Nat, k ≤ ts.length ∧ i = .int .i64 k ∧ ∃ n, wr = w.drewN n) (fun i _ => ts.length - (intOf i).toNat)
      case atStart => exact ⟨0, Nat.zero_le _, rfl, 0, rfl⟩
      case round =>
        obtain ⟨k, hk, rfl, nd, rfl⟩ := hrel
        by_cases hlt : k < ts.length
        · have d1 := hx k hlt
          have d2 := hy k hlt
          clear hx hy
          have k1 : (k : Int) < (ts.length : Int) := by omega
          generalize ts.getD k ByteArray.empty = t at d1 d2
          have q1 : (t.toList == t.toList) = true := by simp
          have q2 : (t.toList != t.toList) = false := by simp
          go_wp2_with fail
          go_quiet (fail)
          go_wp2
          go_roundw
          case rel => exact ⟨k + 1, by omega, by go_num, _, rfl⟩
          case measure => simp [intOf]; omega
        · obtain rfl : k = ts.length := by omega
          go_wp2
          go_ret
          exact ⟨rfl, _, rfl⟩

/-- the marks k, k+1, .. of n texts -/
def markTs (k n : Nat) : List ByteArray := (List.range n).map fun i => markT (k + i)
theorem markTs_length (k n : Nat) : (markTs k n).length = n := by simp [markTs]
theorem markTs_get (k n i : Nat) (h : i < n) : (markTs k n).getD i ByteArray.empty = markT (k + i) := by
  simp [markTs, List.getD_eq_getElem?_getD, h]
theorem markTs_succ (k n : Nat) : markTs k (n + 1) = markTs k n ++ [markT (k + n)] := by
  simp [markTs, List.range_succ]
theorem markTs_step (k j : Nat) (xs : List ByteArray) (hj : j < xs.length) :
    ((markTs k j ++ xs.drop j).map Value.string).set j (Value.string (markT (k + j))) = (markTs k (j + 1) ++ xs.drop (j + 1)).map Value.string := by
  rw [markTs_succ, List.drop_eq_getElem_cons hj, List.map_append, List.set_append_right _ _ (by simp [markTs_length])]
  simp only [List.map_cons, List.length_map, markTs_length, Nat.sub_self, List.set_cons_zero, List.map_append, List.append_assoc, List.cons_append, List.nil_append]
theorem grown_of_below {w w1 : World} {r : Option Nat} (h : Below w.heap.size w w1) : w.grownBy w1 r := ⟨h.os, h.tape, h.output, h.size, fun i hi _ => h.block i hi⟩

set_option maxRecDepth 100000 in
set_option maxHeartbeats 1600000 in
theorem markStringS_row (b cap B : Nat) (xs : List ByteArray) (k0 : Nat) (w : World) (h0 : 0 < k0) (hk0 : k0 ≤ 1000000000) (hn : xs.length ≤ 1000000000)
    (hown : w.ownsRow B 9 1 (.slice (some ⟨b, 0, none⟩) xs.length cap) xs.length (xs.map Value.string)) :
    Calls Try.prog 19 #[.slice (some ⟨b, 0, none⟩) xs.length cap, .int .i64 k0] w fun e w' => e = .returned (.int .i64 ((k0 + xs.length : Nat) : Int)) ∧
      w'.ownsRow B 9 1 (.slice (some ⟨b, 0, none⟩) xs.length cap) xs.length ((markTs k0 xs.length).map Value.string) ∧ w.grownBy w' (some b) := by
  go_enter Try.func19, Try.ntmps19
  go_wp2
  go_loopw [1, 5] (fun q i wr => ∃ j : Nat, j ≤ xs.length ∧ i = .int .i64 j ∧ q = .int .i64 ((k0 + j : Nat) : Int) ∧ wr.ownsRow B 9 1 (.slice (some ⟨b, 0, none⟩) xs.length cap) xs.length ((markTs k0 j ++ xs.drop j).map Value.string) ∧ w.grownBy wr (some b)) (fun _ i _ => xs.length - (intOf i).toNat)
  case atStart => exact ⟨0, Nat.zero_le _, rfl, rfl, by simpa [markTs] using hown, World.grownBy.refl _ _⟩
  case round =>
    obtain ⟨j, hj, rfl, rfl, ho, hg⟩ := hrel
    by_cases hlt : j < xs.length
    · have KM := Lib.hid (markText_at k0 j (by omega) (by omega))
      have HO := Lib.hid ho
      have HG := Lib.hid hg
      clear ho hg hown
      obtain ⟨kk, hkk⟩ : ∃ kk, k0 + j = kk := ⟨_, rfl⟩
      rw [← Int.natCast_add, hkk] at KM
      have q0 : kk ≤ 2000000000 := by omega
      have HKK := Lib.hid hkk
      rw [hkk]
      clear hkk
      go_wp2_with fail
      refine (KM.out _).mono ?_
      rintro e w1 ⟨rfl, hb1⟩
      have ho := owns_below HO.out hb1
      have c1 := ho.cellAt j (by omega)
      have c2 : ((markTs k0 j ++ xs.drop j).map Value.string)[j]? = some (.string (xs.getD j ByteArray.empty)) := by
        rw [List.map_append, List.getElem?_append_right (by simp [markTs_length])]
        simp [markTs_length, hlt, List.getElem?_drop]
      rw [c2] at c1
      have c3 := ho.frozenAt j
      have h1 := ho.stored j (.string (markT (k0 + j)))
      rw [markTs_step k0 j xs hlt] at h1
      have H1 := Lib.hid h1
      have HG1 := Lib.hid (grown_trans_row HG.out (grown_of_below hb1))
      clear c2 ho h1 hb1
      go_wp2
      go_roundw
      case rel =>
        have h1 := H1.out
        rw [HKK.out] at h1
        exact ⟨j + 1, by omega, by go_num, by rw [← HKK.out]; first | rfl | (congr 1; omega), h1.1, grown_trans_row HG1.out h1.2⟩
      case measure => simp [intOf]; omega
    · obtain rfl : j = xs.length := by omega
      go_wp2
      go_ret
      refine ⟨rfl, ?_, hg⟩
      rw [List.drop_length, List.append_nil] at ho
      exact ho

set_option maxHeartbeats 800000 in
theorem markStringS_nil (k : Int) (w : World) :
    Calls Try.prog 19 #[.slice none 0 0, .int .i64 k] w fun e w' => e = .returned (.int .i64 k) ∧ w' = w := by
  go_enter Try.func19, Try.ntmps19
  go_wp2
  go_loop [1, 5] (fun q i => i = .int .i64 0 ∧ q = .int .i64 k) (fun _ i => 0)
  case atStart => exact ⟨rfl, rfl⟩
  case round =>
    obtain ⟨rfl, rfl⟩ := hrel
    go_wp2
    go_ret
    exact ⟨rfl, rfl⟩
theorem markStringS_any (B : Nat) (v : Value) (n : Nat) (xs : List ByteArray) (k0 : Nat) (w : World) (h0 : 0 < k0) (hk0 : k0 ≤ 1000000000) (hn : n ≤ 1000000000)
    (hown : w.ownsRow B 9 1 v n (xs.map Value.string)) :
    Calls Try.prog 19 #[v, .int .i64 k0] w fun e w' => e = .returned (.int .i64 ((k0 + n : Nat) : Int)) ∧
      w'.ownsRow B 9 1 v n ((markTs k0 n).map Value.string) ∧ w.grownBy w' v.ownBlock := by
  have hl : xs.length = n := by have := hown.1; simpa using this
  subst hl
  rcases hown.2 with ⟨hv, h0'⟩ | ⟨g, cap, cur, hv, _⟩
  · have : xs = [] := List.length_eq_zero_iff.1 h0'
    subst this
    subst hv
    refine (markStringS_nil k0 w).mono fun e w' ⟨he, hw⟩ => ?_
    subst hw
    exact ⟨he, by simpa [markTs] using hown, World.grownBy.refl _ _⟩
  · subst hv
    exact markStringS_row g cap B xs k0 w h0 hk0 hn hown

theorem heldS1 {w0 W W' : World} {p1 : Addr} {v1 : Value} (hb : Below W.heap.size W W') (h : Below w0.heap.size w0 W ∧ W.cell? p1 = some v1) : Below w0.heap.size w0 W' ∧ W'.cell? p1 = some v1 :=
  ⟨below_then h.1 hb, (hb.cell (World.block_lt_of_cell? W _ h.2)).trans h.2⟩
set_option maxRecDepth 100000 in
set_option maxHeartbeats 1600000 in
theorem heldStringS_any (v : Value) (n k0 : Nat) (w : World) (h0 : 0 < k0) (hk0 : k0 ≤ 1000000000) (hn : n ≤ 1000000000) (h : RowS w v (markTs k0 n)) :
    Calls Try.prog 20 #[v, .int .i64 k0] w fun e w' => e = .returned (.int .i64 ((k0 + n : Nat) : Int)) ∧ Below w.heap.size w w' := by
  rcases h with ⟨rfl, h0'⟩ | ⟨b, o, cap, rfl, hc, hm, hb, hx⟩
  · have : n = 0 := by have := markTs_length k0 n; rw [h0'] at this; simpa using this.symm
    subst this
    go_enter Try.func20, Try.ntmps20
    go_wp2
    go_loop [1, 5] (fun q i => i = .int .i64 0 ∧ q = .int .i64 k0) (fun _ i => 0)
    case atStart => exact ⟨rfl, rfl⟩
    case round =>
      obtain ⟨rfl, rfl⟩ := hrel
      go_wp2
      go_ret
      exact ⟨rfl, Below.refl _ _⟩
  · rw [markTs_length] at *
    have HX := Lib.hid hx
    clear hx
    go_enter Try.func20, Try.ntmps20
    go_wp2
    go_loopw [1, 5] (fun q i wr => ∃ j : Nat, j ≤ n ∧ i = .int .i64 j ∧ q = .int .i64 ((k0 + j : Nat) : Int) ∧ Below w.heap.size w wr) (fun _ i _ => n - (intOf i).toNat)
    case atStart => exact ⟨0, Nat.zero_le _, rfl, rfl, Below.refl _ _⟩
    case round =>
      obtain ⟨j, hj, rfl, rfl, hbw⟩ := hrel
      by_cases hlt : j < n
      · have c1 := (hbw.cell (p := ⟨b, o + j, none⟩) hb).trans (HX.out j hlt)
        rw [markTs_get k0 n j hlt] at c1
        have q0 : (j : Int) < (n : Int) := by omega
        obtain ⟨kk, hkk⟩ : ∃ kk, k0 + j = kk := ⟨_, rfl⟩
        have KM := Lib.hid (markText_any kk (by omega) (by omega))
        rw [hkk] at c1 ⊢
        have q1 : kk ≤ 2000000000 := by omega
        have e1 : ((markT kk).toList == (markT kk).toList) = true := by simp
        have e2 : ((markT kk).toList != (markT kk).toList) = false := by simp
        have HKK := Lib.hid hkk
        have HB := Lib.hid hbw
        clear hkk hbw
        go_wp2_with fail
        have hS0 : Below wr.heap.size wr wr.drew ∧ wr.drew.cell? ⟨b, o + j, none⟩ = some (.string (markT kk)) := ⟨(Below.refl _ _).drew, c1⟩
        go_region_held3 (fun W => Below wr.heap.size wr W ∧ W.cell? ⟨b, o + j, none⟩ = some (.string (markT kk))) (first | assumption | exact heldS1 hbr (by assumption))
          (first | (go_at_call 25; refine (KM.out _).mono ?_; rintro e w' ⟨rfl, hbr⟩))
        go_wp2
        go_roundw
        case rel => exact ⟨j + 1, by omega, by go_num, by rw [← HKK.out]; first | rfl | (congr 1; omega), below_then HB.out (below_of_drew hbr)⟩
        case measure => simp [intOf]; omega
      · obtain rfl : j = n := by omega
        go_wp2
        go_ret
        exact ⟨rfl, hbw⟩
end Go.Proofs.Yticpebpicdboaaa
