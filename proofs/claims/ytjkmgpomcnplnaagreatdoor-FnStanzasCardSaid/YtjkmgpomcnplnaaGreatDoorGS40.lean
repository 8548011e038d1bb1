/- A code and a presence: how they lie in a block, how they are handed back. -/
import Derived.Test.YtjkmgpomcnplnaaGreatDoorGS8
import Derived.Test.YtjkmgpomcnplnaaGreatDoorGS0
import Derived.Test.YtjkmgpomcnplnaaGreatDoorGS29
namespace Go.Proofs.YtjkmgpomcnplnaaGreatDoor
open Go.ChangeShapes Go.WideShapes Go.ChangeAt Go.RowKit
set_option linter.unusedSimpArgs false
set_option linter.unusedVariables false
structure PrrAt (w : World) (b : Nat) (cd : Int) (p : Pr) (a : Option Addr) (n c : Nat) : Prop where
  lt : b < w.heap.size
  c0 : w.cell? ⟨b, 0, none⟩ = some (.int .i64 cd)
  c1 : w.cell? ⟨b, 1, none⟩ = some (.int .i64 p.kind)
  c2 : w.cell? ⟨b, 2, none⟩ = some (.string p.sender)
  c3 : w.cell? ⟨b, 3, none⟩ = some (.string p.goal)
  c4 : w.cell? ⟨b, 4, none⟩ = some (.int .i64 p.shown)
  c5 : w.cell? ⟨b, 5, none⟩ = some (.string p.status)
  c6 : w.cell? ⟨b, 6, none⟩ = some (.int .i64 p.prio)
  c7 : w.cell? ⟨b, 7, none⟩ = some (.slice a n c)
theorem PrrAt.below {w w' : World} {b : Nat} {cd : Int} {p : Pr} {a : Option Addr} {n c : Nat} (h : PrrAt w b cd p a n c) (hb : Below w.heap.size w w') : PrrAt w' b cd p a n c :=
  ⟨Nat.lt_of_lt_of_le h.lt hb.size, (hb.cell (by exact h.lt)).trans h.c0, (hb.cell (by exact h.lt)).trans h.c1, (hb.cell (by exact h.lt)).trans h.c2, (hb.cell (by exact h.lt)).trans h.c3, (hb.cell (by exact h.lt)).trans h.c4, (hb.cell (by exact h.lt)).trans h.c5, (hb.cell (by exact h.lt)).trans h.c6, (hb.cell (by exact h.lt)).trans h.c7⟩
theorem PrrAt.only {P : Nat → Prop} {w w' : World} {b : Nat} {cd : Int} {p : Pr} {a : Option Addr} {n c : Nat} (h : PrrAt w b cd p a n c) (ho : Only P w w') (hn : ¬ P b) : PrrAt w' b cd p a n c :=
  ⟨Nat.lt_of_lt_of_le h.lt ho.size, (ho.cell (by exact h.lt) hn).trans h.c0, (ho.cell (by exact h.lt) hn).trans h.c1, (ho.cell (by exact h.lt) hn).trans h.c2, (ho.cell (by exact h.lt) hn).trans h.c3, (ho.cell (by exact h.lt) hn).trans h.c4, (ho.cell (by exact h.lt) hn).trans h.c5, (ho.cell (by exact h.lt) hn).trans h.c6, (ho.cell (by exact h.lt) hn).trans h.c7⟩
theorem PrrAt.new (w : World) (t : TypeId) (cd : Int) (p : Pr) (a : Option Addr) (n c : Nat) : PrrAt (w.alloc (.cells #[.int .i64 cd, .int .i64 p.kind, .string p.sender, .string p.goal, .int .i64 p.shown, .string p.status, .int .i64 p.prio, .slice a n c] t)) w.heap.size cd p a n c :=
  ⟨by simp, by simp, by simp, by simp, by simp, by simp, by simp, by simp, by simp⟩
def PrrOwn (w : World) (cd : Int) (p : Pr) (e : Ending) (w' : World) : Prop :=
  ∃ (a : Option Addr) (n c : Nat), e = .returned (.agg #[.int .i64 cd, .int .i64 p.kind, .string p.sender, .string p.goal, .int .i64 p.shown, .string p.status, .int .i64 p.prio, .slice a n c]) ∧ OwnIts w' w.heap.size w'.heap.size a n c p.more ∧ Below w.heap.size w w'
theorem OwnIts.nil (w : World) (lo hi : Nat) : OwnIts w lo hi none 0 0 [] := ⟨rfl, by decide, fun i hi => by omega, .inl rfl⟩
theorem below8 {B b : Nat} {w W : World} (h : Below B w W) (hb : B ≤ b) (x0 x1 x2 x3 x4 x5 x6 x7 : Value) :
    Below B w ((((((((W.setCell ⟨b, 0, none⟩ x0).setCell ⟨b, 1, none⟩ x1).setCell ⟨b, 2, none⟩ x2).setCell ⟨b, 3, none⟩ x3).setCell ⟨b, 4, none⟩ x4).setCell ⟨b, 5, none⟩ x5).setCell ⟨b, 6, none⟩ x6).setCell ⟨b, 7, none⟩ x7) :=
  (((((((h.setCell (by exact hb) _).setCell (by exact hb) _).setCell (by exact hb) _).setCell (by exact hb) _).setCell (by exact hb) _).setCell (by exact hb) _).setCell (by exact hb) _).setCell (by exact hb) _
theorem own8 {W : World} {b lo hi : Nat} {a : Option Addr} {n c : Nat} {l : List It} (h : OwnIts W lo hi a n c l) (hb : b < lo) (x0 x1 x2 x3 x4 x5 x6 x7 : Value) :
    OwnIts ((((((((W.setCell ⟨b, 0, none⟩ x0).setCell ⟨b, 1, none⟩ x1).setCell ⟨b, 2, none⟩ x2).setCell ⟨b, 3, none⟩ x3).setCell ⟨b, 4, none⟩ x4).setCell ⟨b, 5, none⟩ x5).setCell ⟨b, 6, none⟩ x6).setCell ⟨b, 7, none⟩ x7) lo hi a n c l := by
  have st : ∀ (W : World) (i : Nat) (v : Value), OwnIts W lo hi a n c l → OwnIts (W.setCell ⟨b, i, none⟩ v) lo hi a n c l := fun W i v h =>
    h.only (Only.set (P := fun i => i = b) W ⟨b, i, none⟩ v rfl) fun i hlo hhi he => by omega
  exact st _ _ _ (st _ _ _ (st _ _ _ (st _ _ _ (st _ _ _ (st _ _ _ (st _ _ _ (st _ _ _ h)))))))
theorem prr_code (w w' : World) (cd : Int) (hb : Below w.heap.size w w') : PrrOwn w cd dPr (.returned (.agg #[.int .i64 cd, .int .i64 0, .string ⟨#[]⟩, .string ⟨#[]⟩, .int .i64 0, .string ⟨#[]⟩, .int .i64 0, .slice none 0 0])) w' :=
  ⟨none, 0, 0, rfl, OwnIts.nil _ _ _, hb⟩
end Go.Proofs.YtjkmgpomcnplnaaGreatDoor
