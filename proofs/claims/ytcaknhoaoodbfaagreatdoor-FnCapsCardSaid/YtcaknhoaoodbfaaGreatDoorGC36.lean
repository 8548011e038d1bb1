/- Words turned and mixed: the model's l9Turn, l9Mix. -/
import Derived.Test.YtcaknhoaoodbfaaGreatDoorGC13
import Derived.IntWalk
import Derived.Test.YtcaknhoaoodbfaaGreatDoorGC34
import Derived.Deep.RegionHeld3
namespace Go.Proofs.YtcaknhoaoodbfaaGreatDoor
open Go.ChangeShapes Go.WideShapes Go.ChangeAt Go.RowKit
set_option linter.unusedVariables false

theorem ret_u32s {a b : Int} (h : a = b) : Ending.returned (.int .u32 a) = .returned (.int .u32 b) := by rw [h]
theorem l9Turn_any (x : Int) (k : Nat) (hk : k = 1 ∨ k = 5 ∨ k = 30) (h : In32 x) (w : World) :
    Calls Tryz.prog 215 #[.int .u32 x, .int .u32 k] w fun e w' => e = .returned (.int .u32 (rotI x k)) ∧ w' = w := by
  obtain ⟨h0, h1⟩ := h
  unfold rotI
  rcases hk with rfl | rfl | rfl
  all_goals
    go_enter Tryz.func215, Tryz.ntmps215
    go_wp2
    go_ret
    exact ⟨ret_u32s (by simp), rfl⟩
theorem l9Mix_any (t : Nat) (ht : t < 80) (b c d : Int) (hb : In32 b) (hc : In32 c) (hd : In32 d) (w : World) :
    Calls Tryz.prog 216 #[.int .i64 t, .int .u32 b, .int .u32 c, .int .u32 d] w fun e w' => e = .returned (.tuple #[.int .u32 (mixF t b c d), .int .u32 (mixK t)]) ∧ w' = w := by
  obtain ⟨b0, b1⟩ := hb
  obtain ⟨c0, c1⟩ := hc
  obtain ⟨d0, d1⟩ := hd
  unfold mixF mixK
  by_cases h1 : t < 20
  · rw [if_pos h1, if_pos h1]
    go_enter Tryz.func216, Tryz.ntmps216
    go_wp2
    go_ret2
    exact ⟨rfl, rfl⟩
  by_cases h2 : t < 40
  · rw [if_neg h1, if_neg h1, if_pos h2, if_pos h2]
    go_enter Tryz.func216, Tryz.ntmps216
    go_wp2
    go_ret2
    exact ⟨rfl, rfl⟩
  by_cases h3 : t < 60
  · rw [if_neg h1, if_neg h1, if_neg h2, if_neg h2, if_pos h3, if_pos h3]
    go_enter Tryz.func216, Tryz.ntmps216
    go_wp2
    go_ret2
    exact ⟨rfl, rfl⟩
  · rw [if_neg h1, if_neg h1, if_neg h2, if_neg h2, if_neg h3, if_neg h3]
    go_enter Tryz.func216, Tryz.ntmps216
    go_wp2
    go_ret2
    exact ⟨rfl, rfl⟩
end Go.Proofs.YtcaknhoaoodbfaaGreatDoor

/- The program's mixed and turn. -/
namespace Go.Proofs.YtcaknhoaoodbfaaGreatDoor
open Go.ChangeShapes Go.WideShapes Go.ChangeAt Go.RowKit
set_option linter.unusedVariables false

/-- five words as a value -/
abbrev aggS (s : St5) : Value := .agg #[.int .u32 s.a, .int .u32 s.b, .int .u32 s.c, .int .u32 s.d, .int .u32 s.e]
set_option maxRecDepth 100000 in
set_option maxHeartbeats 1600000 in
theorem mixed_any (t : Nat) (ht : t < 80) (s : St5) (hs : s.In) (w : World) :
    Calls Tryz.prog 231 #[aggS s, .int .i64 t] w fun e w' => e = .returned (.int .u32 ((mixF t s.b s.c s.d + mixK t) % 4294967296)) ∧ Below w.heap.size w w' := by
  obtain ⟨a, b, c, d, e⟩ := s
  obtain ⟨ha, ⟨b0, b1⟩, ⟨c0, c1⟩, ⟨d0, d1⟩, he⟩ := hs
  unfold mixF mixK aggS
  dsimp only at b0 b1 c0 c1 d0 d1 ⊢
  clear ha he
  by_cases h1 : t < 20
  · rw [if_pos h1, if_pos h1]
    go_enter Tryz.func231, Tryz.ntmps231
    go_wp2
    go_quiet (fail)
    go_wp2
    go_ret
    exact ⟨rfl, below_drewN (below1 _ _) _⟩
  by_cases h2 : t < 40
  · rw [if_neg h1, if_neg h1, if_pos h2, if_pos h2]
    go_enter Tryz.func231, Tryz.ntmps231
    go_wp2
    go_quiet (fail)
    go_wp2
    go_ret
    exact ⟨rfl, below_drewN (below1 _ _) _⟩
  by_cases h3 : t < 60
  · rw [if_neg h1, if_neg h1, if_neg h2, if_neg h2, if_pos h3, if_pos h3]
    go_enter Tryz.func231, Tryz.ntmps231
    go_wp2
    go_quiet (fail)
    go_wp2
    go_ret
    exact ⟨rfl, below_drewN (below1 _ _) _⟩
  · rw [if_neg h1, if_neg h1, if_neg h2, if_neg h2, if_neg h3, if_neg h3]
    go_enter Tryz.func231, Tryz.ntmps231
    go_wp2
    go_quiet (fail)
    go_wp2
    go_ret
    exact ⟨rfl, below_drewN (below1 _ _) _⟩
end Go.Proofs.YtcaknhoaoodbfaaGreatDoor
