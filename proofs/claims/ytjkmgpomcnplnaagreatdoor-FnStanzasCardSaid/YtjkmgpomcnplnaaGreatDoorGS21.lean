/- Two presences' boxes on their way into two results. -/
import Derived.Test.YtjkmgpomcnplnaaGreatDoorGS12
import Derived.Test.YtjkmgpomcnplnaaGreatDoorGS7
namespace Go.Proofs.YtjkmgpomcnplnaaGreatDoor
open Go.ChangeShapes Go.WideShapes Go.ChangeAt Go.RowKit
set_option linter.unusedVariables false
set_option linter.unusedSimpArgs false
def TopTwo (w : World) (en : Ending) (w' : World) : Prop := ∃ (y z : Pr) (x x2 : Option Addr) (m q m2 q2 : Nat),
  en = .returned (.tuple #[.agg #[.int .i64 y.kind, .string y.sender, .string y.goal, .int .i64 y.shown, .string y.status, .int .i64 y.prio, .slice x m q], .agg #[.int .i64 z.kind, .string z.sender, .string z.goal, .int .i64 z.shown, .string z.status, .int .i64 z.prio, .slice x2 m2 q2]]) ∧
  OwnIts w' w.heap.size w'.heap.size x m q y.more ∧ OwnIts w' w.heap.size w'.heap.size x2 m2 q2 z.more ∧ Below w.heap.size w w'
theorem X7.offFill {w : World} {x y : Nat} {v0 v1 v2 v3 v4 v5 v6 : Value} (h : X7 w x v0 v1 v2 v3 v4 v5 v6) (hne : y ≠ x) (u0 u1 u2 u3 u4 u5 u6 : Value) : X7 (((((((w.setCell ⟨y, 0, none⟩ u0).setCell ⟨y, 1, none⟩ u1).setCell ⟨y, 2, none⟩ u2).setCell ⟨y, 3, none⟩ u3).setCell ⟨y, 4, none⟩ u4).setCell ⟨y, 5, none⟩ u5).setCell ⟨y, 6, none⟩ u6) x v0 v1 v2 v3 v4 v5 v6 :=
  ((((((h.off (p := ⟨y, 0, none⟩) hne u0).off (p := ⟨y, 1, none⟩) hne u1).off (p := ⟨y, 2, none⟩) hne u2).off (p := ⟨y, 3, none⟩) hne u3).off (p := ⟨y, 4, none⟩) hne u4).off (p := ⟨y, 5, none⟩) hne u5).off (p := ⟨y, 6, none⟩) hne u6
structure E2 (w V W : World) (B b : Nat) (a : Option Addr) (n c : Nat) (xs : List Int) (k xa xb : Nat) (p0 p1 p2 p3 p4 p5 p6 q0 q1 q2 q3 q4 q5 q6 : Value) : Prop where
  h1 : w.heap.size + 2 ≤ b
  h2 : b < xa
  h3 : xa < xb
  ra : X7 W w.heap.size (.int .i64 0) (.string ⟨#[]⟩) (.string ⟨#[]⟩) (.int .i64 0) (.string ⟨#[]⟩) (.int .i64 0) (.slice none 0 0)
  rb : X7 W (w.heap.size + 1) (.int .i64 0) (.string ⟨#[]⟩) (.string ⟨#[]⟩) (.int .i64 0) (.string ⟨#[]⟩) (.int .i64 0) (.slice none 0 0)
  ba : X7 W xa p0 p1 p2 p3 p4 p5 p6
  bb : X7 W xb q0 q1 q2 q3 q4 q5 q6
  src : Src W b a n c xs k
  bel : Below w.heap.size w W
  h4 : b < B ∧ V.heap.size ≤ xb
  on : Only (fun i => i < B ∨ V.heap.size ≤ i) V W
theorem E2.call {w V W W' : World} {B b : Nat} {a : Option Addr} {n c : Nat} {xs : List Int} {k k' xa xb : Nat} {p0 p1 p2 p3 p4 p5 p6 q0 q1 q2 q3 q4 q5 q6 : Value} (h : E2 w V W B b a n c xs k xa xb p0 p1 p2 p3 p4 p5 p6 q0 q1 q2 q3 q4 q5 q6) (hs : Src W' b a n c xs k') (hg : W.grownBy W' (some b)) : E2 w V W' B b a n c xs k' xa xb p0 p1 p2 p3 p4 p5 p6 q0 q1 q2 q3 q4 q5 q6 := by
  have h1 := h.h1
  have h2 := h.h2
  have h3 := h.h3
  exact ⟨h1, h2, h3, h.ra.grown hg (by intro e; injection e with e; omega), h.rb.grown hg (by intro e; injection e with e; omega), h.ba.grown hg (by intro e; injection e with e; omega), h.bb.grown hg (by intro e; injection e with e; omega), hs, below_step h.bel hg (by omega), h.h4, h.on.trans ((Only.grown hg).mono fun i e => .inl (by have := h.h4.1; have e2 := Option.some.inj e; omega))⟩
theorem E2.row {w V W W' : World} {B b : Nat} {a : Option Addr} {n c : Nat} {xs : List Int} {k xa xb g : Nat} {p0 p1 p2 p3 p4 p5 p6 q0 q1 q2 q3 q4 q5 q6 : Value} (h : E2 w V W B b a n c xs k xa xb p0 p1 p2 p3 p4 p5 p6 q0 q1 q2 q3 q4 q5 q6) (hg : W.grownBy W' (some g)) (hb : xb < g) : E2 w V W' B b a n c xs k xa xb p0 p1 p2 p3 p4 p5 p6 q0 q1 q2 q3 q4 q5 q6 := by
  have h1 := h.h1
  have h2 := h.h2
  have h3 := h.h3
  exact ⟨h1, h2, h3, h.ra.grown hg (by intro e; injection e with e; omega), h.rb.grown hg (by intro e; injection e with e; omega), h.ba.grown hg (by intro e; injection e with e; omega), h.bb.grown hg (by intro e; injection e with e; omega), h.src.grown hg (fun j e => by cases e; omega), below_step h.bel hg (by omega), h.h4, h.on.trans ((Only.grown hg).mono fun i e => .inr (by have := h.h4.2; have e2 := Option.some.inj e; omega))⟩
theorem E2.below {w V W W' : World} {B b : Nat} {a : Option Addr} {n c : Nat} {xs : List Int} {k xa xb : Nat} {p0 p1 p2 p3 p4 p5 p6 q0 q1 q2 q3 q4 q5 q6 : Value} (h : E2 w V W B b a n c xs k xa xb p0 p1 p2 p3 p4 p5 p6 q0 q1 q2 q3 q4 q5 q6) (hb : Below W.heap.size W W') : E2 w V W' B b a n c xs k xa xb p0 p1 p2 p3 p4 p5 p6 q0 q1 q2 q3 q4 q5 q6 := h.call (h.src.below hb) (grown_of_below hb _)
theorem E2.set {w V W : World} {B b : Nat} {a : Option Addr} {n c : Nat} {xs : List Int} {k xa xb : Nat} {p0 p1 p2 p3 p4 p5 p6 q0 q1 q2 q3 q4 q5 q6 u0 u1 u2 u3 u4 u5 u6 : Value} (h : E2 w V W B b a n c xs k xa xb p0 p1 p2 p3 p4 p5 p6 q0 q1 q2 q3 q4 q5 q6) (i : Nat) (v : Value) (hi : i < 7)
    (hu : (if i = 0 then v else q0) = u0 ∧ (if i = 1 then v else q1) = u1 ∧ (if i = 2 then v else q2) = u2 ∧ (if i = 3 then v else q3) = u3 ∧ (if i = 4 then v else q4) = u4 ∧ (if i = 5 then v else q5) = u5 ∧ (if i = 6 then v else q6) = u6) : E2 w V (W.setCell ⟨xb, i, none⟩ v) B b a n c xs k xa xb p0 p1 p2 p3 p4 p5 p6 u0 u1 u2 u3 u4 u5 u6 := by
  obtain ⟨rfl, rfl, rfl, rfl, rfl, rfl, rfl⟩ := hu
  have h1 := h.h1
  have h2 := h.h2
  have h3 := h.h3
  exact ⟨h1, h2, h3, h.ra.off (by show xb ≠ _; omega) _, h.rb.off (by show xb ≠ _; omega) _, h.ba.off (by show xb ≠ _; omega) _, h.bb.set i v hi, h.src.grown (grown_set W ⟨xb, i, none⟩ v) (fun j e => by cases e; show b < xb; omega), h.bel.setCell (p := ⟨xb, i, none⟩) (by show _ ≤ xb; omega) v, h.h4, h.on.trans (Only.set W ⟨xb, i, none⟩ v (.inr h.h4.2))⟩
end Go.Proofs.YtjkmgpomcnplnaaGreatDoor
