/- slices.Clone at bytes. -/
import Derived.Test.YtlhflkpbccbofaaL1Copy
namespace Go.Proofs.Ytlhflkpbccbofaa
open Go.ChangeShapes Go.WideShapes Go.ChangeAt Go.RowKit
set_option linter.unusedVariables false

theorem eqNilBT (w : World) : (binOp .eql 22 (.slice none 0 0) (.slice none 0 0)).run Try.prog w = .ok (.bool true) w := by kernel_rfl
theorem eqNilBF (x : Addr) (n c : Nat) (w : World) : (binOp .eql 22 (.slice (some x) n c) (.slice none 0 0)).run Try.prog w = .ok (.bool false) w := by kernel_rfl
set_option maxRecDepth 100000 in
set_option maxHeartbeats 1600000 in
theorem cloneB_any (a : Option Addr) (n c : Nat) (xs : List Int) (w : World) (hn : n ≤ 1048576) (hnil : a = none → c = 0) (h : InRow w a n c xs) :
    Calls Try.prog 38 #[.slice a n c] w (OwnsRes w 5 .u8 xs) := by
  obtain ⟨i0, hi, hz0, hz1, hz2⟩ := info_parts cpInfo
  have HL := Lib.hid h.len
  have HIN := Lib.hid (in_below h (below1 w (.cells #[] 5)))
  have hl0 : (w.alloc (.cells #[] 5)).ownsRow w.heap.size 5 1 (.slice (some ⟨w.heap.size, 0, none⟩) 0 0) 0 [] := by
    simpa using lit_owns w 5 .u8 [] 0 rfl (by decide)
  unfold OwnsRes
  cases a with
  | none =>
    obtain rfl : n = 0 := by
      rcases h.row with e | ⟨b5, o5, e5, _⟩
      · exact e
      · cases e5
    obtain rfl : c = 0 := hnil rfl
    obtain rfl : xs = [] := List.length_eq_zero_iff.1 HL.out
    have hq := eqNilBT
    clear hnil h HL HIN hl0
    go_enter Try.func38, Try.ntmps38
    go_wp2
    go_ret
    exact ⟨_, _, _, rfl, by simpa using World.ownsRow_nil _ _ _ _, Below.refl _ _⟩
  | some ad =>
    have hq := eqNilBF
    clear hnil h
    go_enter Try.func38, Try.ntmps38
    go_wp2_with (at_builtin; refine wpList_append_own _ rfl _ _ 22 rfl w.heap.size 5 i0 (.int .u8 0) 1 1 Try.underlying22 hi hz0 hz1 hz2 rfl (by decide) _ 0 [] rfl hl0 ad n c (xs.map (Value.int .u8)) rfl ?c6 HIN.out.flat (oneI xs) ?c3 ?c4 ?c5 ?_)
    case c6 => rw [List.length_map, HL.out]; omega
    case c3 => unfold maxLen; omega
    case c4 => omega
    case c5 => simp
    intro v' w1 hown hgrow _
    obtain ⟨a', c', rfl⟩ := owns_slice hown
    have HOWN := Lib.hid hown
    have HB := Lib.hid ((below1 w (.cells #[] 5)).grown hgrow (by simp) (fun j hj => by simp [Value.ownBlock] at hj; omega))
    clear hown hgrow hl0
    go_wp2
    go_ret
    exact ⟨_, _, _, rfl, by simpa using HOWN.out, HB.out⟩
end Go.Proofs.Ytlhflkpbccbofaa
