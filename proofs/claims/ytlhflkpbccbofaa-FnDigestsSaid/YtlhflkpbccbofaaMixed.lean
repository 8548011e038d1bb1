/- The program's mixed and turn. -/
import Derived.Test.YtlhflkpbccbofaaRot
import Derived.Deep.RegionHeld3
namespace Go.Proofs.Ytlhflkpbccbofaa
open Go.ChangeShapes Go.WideShapes Go.ChangeAt Go.RowKit
set_option linter.unusedVariables false

/-- five words as a value -/
abbrev aggS (s : St5) : Value := .agg #[.int .u32 s.a, .int .u32 s.b, .int .u32 s.c, .int .u32 s.d, .int .u32 s.e]
set_option maxRecDepth 100000 in
set_option maxHeartbeats 1600000 in
theorem mixed_any (t : Nat) (ht : t < 80) (s : St5) (hs : s.In) (w : World) :
    Calls Try.prog 47 #[aggS s, .int .i64 t] w fun e w' => e = .returned (.int .u32 ((mixF t s.b s.c s.d + mixK t) % 4294967296)) ∧ Below w.heap.size w w' := by
  obtain ⟨a, b, c, d, e⟩ := s
  obtain ⟨ha, ⟨b0, b1⟩, ⟨c0, c1⟩, ⟨d0, d1⟩, he⟩ := hs
  unfold mixF mixK aggS
  dsimp only at b0 b1 c0 c1 d0 d1 ⊢
  clear ha he
  by_cases h1 : t < 20
  · rw [if_pos h1, if_pos h1]
    go_enter Try.func47, Try.ntmps47
    go_wp2
    go_quiet (fail)
    go_wp2
    go_ret
    exact ⟨rfl, below_drewN (below1 _ _) _⟩
  by_cases h2 : t < 40
  · rw [if_neg h1, if_neg h1, if_pos h2, if_pos h2]
    go_enter Try.func47, Try.ntmps47
    go_wp2
    go_quiet (fail)
    go_wp2
    go_ret
    exact ⟨rfl, below_drewN (below1 _ _) _⟩
  by_cases h3 : t < 60
  · rw [if_neg h1, if_neg h1, if_neg h2, if_neg h2, if_pos h3, if_pos h3]
    go_enter Try.func47, Try.ntmps47
    go_wp2
    go_quiet (fail)
    go_wp2
    go_ret
    exact ⟨rfl, below_drewN (below1 _ _) _⟩
  · rw [if_neg h1, if_neg h1, if_neg h2, if_neg h2, if_neg h3, if_neg h3]
    go_enter Try.func47, Try.ntmps47
    go_wp2
    go_quiet (fail)
    go_wp2
    go_ret
    exact ⟨rfl, below_drewN (below1 _ _) _⟩
end Go.Proofs.Ytlhflkpbccbofaa
