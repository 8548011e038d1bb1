/- markText. -/
import Derived.Test.YticpebpicdboaaaTree
namespace Go.Proofs.Yticpebpicdboaaa
open Go.ChangeShapes Go.WideShapes Go.ChangeAt Go.RowKit
set_option linter.unusedVariables false

/-- k's digits ahead of out -/
def digM (k : Nat) (out : ByteArray) : ByteArray := if h : k = 0 then out else digM (k / 10) (strOfNums [48 + (k : Int) % 10] ++ out)
termination_by k
decreasing_by omega
theorem digM_zero (out : ByteArray) : digM 0 out = out := by rw [digM]; rfl
theorem digM_pos {k : Nat} (h : 0 < k) (out : ByteArray) : digM k out = digM (k / 10) (strOfNums [48 + (k : Int) % 10] ++ out) := by rw [digM, dif_neg (by omega)]
/-- the text of a mark -/
def markT (k : Nat) : ByteArray := { data := #[109] } ++ digM k ByteArray.empty

set_option maxRecDepth 100000 in
set_option maxHeartbeats 1600000 in
theorem markText_any (k : Nat) (h0 : 0 < k) (h1 : k ≤ 1000000000000000000) (w : World) :
    Calls Try.prog 25 #[.int .i64 k] w fun e w' => e = .returned (.string (markT k)) ∧ Below w.heap.size w w' := by
  obtain ⟨D, hD⟩ : ∃ D, digM k ByteArray.empty = D := ⟨_, rfl⟩
  unfold markT
  rw [hD]
  have HD := Lib.hid hD
  clear hD
  have k1 : (0 : Int) < (k : Int) := by omega
  go_enter Try.func25, Try.ntmps25
  go_wp2
  go_loopw [0, 3] (fun v s wr => ∃ (j : Nat) (out : ByteArray), out.size + j ≤ k ∧ v = .int .i64 j ∧ s = .string out ∧ digM j out = D ∧ Below w.heap.size w wr) (fun v _ _ => (intOf v).toNat)
  case atStart => exact ⟨k, ByteArray.empty, by simp, rfl, rfl, HD.out, Below.refl _ _⟩
  case round =>
    obtain ⟨j, out, hj, rfl, rfl, hd, hb⟩ := hrel
    by_cases hj0 : 0 < j
    · have HD2 := Lib.hid ((digM_pos hj0 out).symm.trans hd)
      have HB := Lib.hid hb
      have r0 : (0 : Int) ≤ (j : Int) % 10 := by omega
      have r1 : (j : Int) % 10 < 10 := by omega
      have r2 : (0 : Int) ≤ (j : Int) / 10 := by omega
      have r3 : (j : Int) / 10 ≤ (j : Int) := by omega
      have hcv := fun (c : Int) => conv_row (P := Try.prog) (wr.alloc (.cells #[.int .u8 c] 5)) Try.underlying29 Try.underlying5 Try.underlying9 (a := some ⟨wr.heap.size, 0, none⟩) (n := 1) (c := 1) (xs := [c])
        (.inr ⟨wr.heap.size, 0, 1, rfl, by simp, by unfold maxLen; omega, by simp, fun i hi => match i, hi with | 0, _ => by simp⟩)
      have hsz : (strOfNums [48 + (j : Int) % 10]).size ≤ 1 := by rw [strOfNums_size]; simp
      clear hd hb
      go_wp2
      go_roundw
      case rel => exact ⟨j / 10, _, by rw [ByteArray.size_append]; omega, by go_num, rfl, HD2.out, HB.out.trans (((Below.refl _ _).alloc (Nat.le_refl _) _).mono HB.out.size)⟩
      case measure => simp [intOf]; omega
    · obtain rfl : j = 0 := by omega
      rw [digM_zero] at hd
      subst hd
      go_wp2
      go_ret
      exact ⟨rfl, hb⟩
theorem markText_succ (k : Nat) (h1 : k + 1 ≤ 1000000000000000000) (w : World) :
    Calls Try.prog 25 #[.int .i64 ((k : Int) + 1)] w fun e w' => e = .returned (.string (markT (k + 1))) ∧ Below w.heap.size w w' := by
  have h := markText_any (k + 1) (by omega) h1 w
  rwa [Int.natCast_add, Int.natCast_one] at h
theorem markText_at (k i : Nat) (h0 : 0 < k + i) (h1 : k + i ≤ 1000000000000000000) (w : World) :
    Calls Try.prog 25 #[.int .i64 ((k : Int) + (i : Int))] w fun e w' => e = .returned (.string (markT (k + i))) ∧ Below w.heap.size w w' := by
  have h := markText_any (k + i) h0 h1 w
  rwa [Int.natCast_add] at h
end Go.Proofs.Yticpebpicdboaaa
