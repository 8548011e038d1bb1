/- Presences: what they are, in plain words. -/
import Derived.Test.YtppgdbejbhhjlaaGreatDoorGF0
namespace Go.Proofs.YtppgdbejbhhjlaaGreatDoor
open Go.ChangeShapes Go.WideShapes Go.ChangeAt Go.RowKit
set_option linter.unusedVariables false

structure Pr where
  kind : Int
  sender : ByteArray
  goal : ByteArray
  shown : Int
  status : ByteArray
  prio : Int
  more : List It
/-- the seven cells of a presence in block b -/
structure PrAt (w : World) (b : Nat) (p : Pr) (a : Option Addr) (n c : Nat) : Prop where
  lt : b < w.heap.size
  c0 : w.cell? ⟨b, 0, none⟩ = some (.int .i64 p.kind)
  c1 : w.cell? ⟨b, 1, none⟩ = some (.string p.sender)
  c2 : w.cell? ⟨b, 2, none⟩ = some (.string p.goal)
  c3 : w.cell? ⟨b, 3, none⟩ = some (.int .i64 p.shown)
  c4 : w.cell? ⟨b, 4, none⟩ = some (.string p.status)
  c5 : w.cell? ⟨b, 5, none⟩ = some (.int .i64 p.prio)
  c6 : w.cell? ⟨b, 6, none⟩ = some (.slice a n c)
theorem PrAt.below {w w' : World} {b : Nat} {p : Pr} {a : Option Addr} {n c : Nat} (h : PrAt w b p a n c) (hb : Below w.heap.size w w') : PrAt w' b p a n c :=
  ⟨Nat.lt_of_lt_of_le h.lt hb.size, (hb.cell (by exact h.lt)).trans h.c0, (hb.cell (by exact h.lt)).trans h.c1, (hb.cell (by exact h.lt)).trans h.c2, (hb.cell (by exact h.lt)).trans h.c3, (hb.cell (by exact h.lt)).trans h.c4, (hb.cell (by exact h.lt)).trans h.c5, (hb.cell (by exact h.lt)).trans h.c6⟩
theorem PrAt.new (w : World) (t : TypeId) (p : Pr) (a : Option Addr) (n c : Nat) : PrAt (w.alloc (.cells #[.int .i64 p.kind, .string p.sender, .string p.goal, .int .i64 p.shown, .string p.status, .int .i64 p.prio, .slice a n c] t)) w.heap.size p a n c :=
  ⟨by simp, by simp, by simp, by simp, by simp, by simp, by simp, by simp⟩
/-- texts of no more than this many bytes -/
structure SmallPr (p : Pr) : Prop where
  texts : p.sender.size ≤ 1048576 ∧ p.goal.size ≤ 1048576 ∧ p.status.size ≤ 1048576
  more : SmallIts p.more
/-- texts of sizes that a machine can hold -/
structure PrSize (p : Pr) : Prop where
  s1 : p.sender.size ≤ 9223372036854775807
  s2 : p.goal.size ≤ 9223372036854775807
  s4 : p.status.size ≤ 9223372036854775807
end Go.Proofs.YtppgdbejbhhjlaaGreatDoor

/- The model's l1In. -/
namespace Go.Proofs.YtppgdbejbhhjlaaGreatDoor
open Go.ChangeShapes Go.WideShapes Go.ChangeAt Go.RowKit
set_option linter.unusedVariables false

def inB (v l h : Int) : Bool := decide (l ≤ v ∧ v ≤ h)

set_option maxHeartbeats 400000 in
theorem l1In_any (v l h : Int) (w : World) :
    Calls Tryz.prog 78 #[.int .i64 v, .int .i64 l, .int .i64 h] w fun e w' => e = .returned (.bool (inB v l h)) ∧ w' = w := by
  by_cases h1 : l ≤ v
  · by_cases h2 : v ≤ h
    · go_enter Tryz.func78, Tryz.ntmps78
      go_wp2
      go_ret
      exact ⟨ret_bool (by simp [inB, h1, h2]), rfl⟩
    · go_enter Tryz.func78, Tryz.ntmps78
      go_wp2
      go_ret
      exact ⟨ret_bool (by simp [inB, h1, h2]), rfl⟩
  · go_enter Tryz.func78, Tryz.ntmps78
    go_wp2
    go_ret
    exact ⟨ret_bool (by simp [inB]; omega), rfl⟩
end Go.Proofs.YtppgdbejbhhjlaaGreatDoor
