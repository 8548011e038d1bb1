/- lwOne. -/
import Derived.Test.YtjkmgpomcnplnaaGreatDoorGS29
namespace Go.Proofs.YtjkmgpomcnplnaaGreatDoor
open Go.ChangeShapes Go.WideShapes Go.ChangeAt Go.RowKit
set_option linter.unusedSimpArgs false
set_option linter.unusedVariables false
structure B8 (w : World) (b : Nat) (v0 v1 v2 v3 v4 v5 v6 v7 : Value) : Prop where
  lt : b < w.heap.size
  c0 : w.cell? ⟨b, 0, none⟩ = some v0
  c1 : w.cell? ⟨b, 1, none⟩ = some v1
  c2 : w.cell? ⟨b, 2, none⟩ = some v2
  c3 : w.cell? ⟨b, 3, none⟩ = some v3
  c4 : w.cell? ⟨b, 4, none⟩ = some v4
  c5 : w.cell? ⟨b, 5, none⟩ = some v5
  c6 : w.cell? ⟨b, 6, none⟩ = some v6
  c7 : w.cell? ⟨b, 7, none⟩ = some v7
theorem B8.new (w : World) (T : TypeId) (v0 v1 v2 v3 v4 v5 v6 v7 : Value) : B8 (w.alloc (.cells #[v0, v1, v2, v3, v4, v5, v6, v7] T)) w.heap.size v0 v1 v2 v3 v4 v5 v6 v7 := ⟨by simp, by simp, by simp, by simp, by simp, by simp, by simp, by simp, by simp⟩
theorem B8.below {w w' : World} {b : Nat} {v0 v1 v2 v3 v4 v5 v6 v7 : Value} (h : B8 w b v0 v1 v2 v3 v4 v5 v6 v7) (hb : Below w.heap.size w w') : B8 w' b v0 v1 v2 v3 v4 v5 v6 v7 :=
  ⟨Nat.lt_of_lt_of_le h.lt hb.size, (hb.cell (by exact h.lt)).trans h.c0, (hb.cell (by exact h.lt)).trans h.c1, (hb.cell (by exact h.lt)).trans h.c2, (hb.cell (by exact h.lt)).trans h.c3, (hb.cell (by exact h.lt)).trans h.c4, (hb.cell (by exact h.lt)).trans h.c5, (hb.cell (by exact h.lt)).trans h.c6, (hb.cell (by exact h.lt)).trans h.c7⟩
set_option maxRecDepth 100000 in
set_option maxHeartbeats 3200000 in
theorem lwOne_true (cd : Int) (p : Pr) (a1 a2 : Option Addr) (n1 n2 c1 c2 : Nat) (w : World) (h1 : ItsAt w a1 n1 c1 p.more) (h2 : ItsAt w a2 n2 c2 p.more) :
    Calls Tryz.prog 15 #[.agg #[.int .i64 cd, .int .i64 p.kind, .string p.sender, .string p.goal, .int .i64 p.shown, .string p.status, .int .i64 p.prio, .slice a1 n1 c1], .agg #[.int .i64 cd, .int .i64 p.kind, .string p.sender, .string p.goal, .int .i64 p.shown, .string p.status, .int .i64 p.prio, .slice a2 n2 c2]] w fun e w' => e = .returned (.bool true) ∧ Below w.heap.size w w' := by
  have K1 := Lib.hid (fun W (hb : Below w.heap.size w W) => implSamePresences_any p p a1 a2 n1 n2 c1 c2 W true (by simp) (h1.below hb) (h2.below hb))
  have K2 := Lib.hid (fun W (hb : Below w.heap.size w W) => specSamePresences_any p p a1 a2 n1 n2 c1 c2 W true (by simp) (h1.below hb) (h2.below hb))
  have hB := below2 w (.cells #[.int .i64 cd, .int .i64 p.kind, .string p.sender, .string p.goal, .int .i64 p.shown, .string p.status, .int .i64 p.prio, .slice a1 n1 c1] 33) (.cells #[.int .i64 cd, .int .i64 p.kind, .string p.sender, .string p.goal, .int .i64 p.shown, .string p.status, .int .i64 p.prio, .slice a2 n2 c2] 33)
  have P1 := Lib.hid ((B8.new w 33 (.int .i64 cd) (.int .i64 p.kind) (.string p.sender) (.string p.goal) (.int .i64 p.shown) (.string p.status) (.int .i64 p.prio) (.slice a1 n1 c1)).below (below1 _ (.cells #[.int .i64 cd, .int .i64 p.kind, .string p.sender, .string p.goal, .int .i64 p.shown, .string p.status, .int .i64 p.prio, .slice a2 n2 c2] 33)))
  have ez : (w.alloc (.cells #[.int .i64 cd, .int .i64 p.kind, .string p.sender, .string p.goal, .int .i64 p.shown, .string p.status, .int .i64 p.prio, .slice a1 n1 c1] 33)).heap.size = w.heap.size + 1 := by simp
  have P2 := B8.new (w.alloc (.cells #[.int .i64 cd, .int .i64 p.kind, .string p.sender, .string p.goal, .int .i64 p.shown, .string p.status, .int .i64 p.prio, .slice a1 n1 c1] 33)) 33 (.int .i64 cd) (.int .i64 p.kind) (.string p.sender) (.string p.goal) (.int .i64 p.shown) (.string p.status) (.int .i64 p.prio) (.slice a2 n2 c2)
  rw [ez] at P2
  have P2 := Lib.hid P2
  clear h1 h2 ez
  go_enter Tryz.func15, Tryz.ntmps15
  go_wp2_with fail
  refine (K1.out _ hB).mono ?_
  rintro e w1 ⟨rfl, hb⟩
  have Q1 := P1.out.below hb
  have Q2 := P2.out.below hb
  have HB := Lib.hid (below_then hB hb)
  have u0 := Q1.c0
  have v0 := Q2.c0
  have u1 := Q1.c1
  have v1 := Q2.c1
  have u2 := Q1.c2
  have v2 := Q2.c2
  have u3 := Q1.c3
  have v3 := Q2.c3
  have u4 := Q1.c4
  have v4 := Q2.c4
  have u5 := Q1.c5
  have v5 := Q2.c5
  have u6 := Q1.c6
  have v6 := Q2.c6
  have u7 := Q1.c7
  have v7 := Q2.c7
  clear hb hB P1 P2 K1 Q1 Q2
  go_wp2_with fail
  refine (K2.out _ HB.out).mono ?_
  rintro e w2 ⟨rfl, hb⟩
  have HB2 := Lib.hid (below_then HB.out hb)
  clear hb
  go_wp2
  go_ret
  exact ⟨rfl, HB2.out⟩
set_option maxHeartbeats 1600000 in
theorem lwTree_true (cd : Int) (a1 a2 : Option Addr) (n1 n2 c1 c2 : Nat) (l : List It) (w : World) (h1 : ItsAt w a1 n1 c1 l) (h2 : ItsAt w a2 n2 c2 l) :
    Calls Tryz.prog 13 #[.agg #[.int .i64 cd, .slice a1 n1 c1], .agg #[.int .i64 cd, .slice a2 n2 c2]] w fun e w' => e = .returned (.bool true) ∧ Below w.heap.size w w' := by
  have H1 := Lib.hid h1
  have H2 := Lib.hid h2
  clear h1 h2
  go_enter Tryz.func13, Tryz.ntmps13
  go_wp2_with fail
  refine (implSameTrees_any a1 a2 n1 n2 c1 c2 l l _ true (by simp) (H1.out.below (below2 _ _ _)) (H2.out.below (below2 _ _ _))).mono ?_
  rintro e w1 ⟨rfl, hb⟩
  have V1 := (((Var2.new w 29 cd (.slice a1 n1 c1)).alloc (.cells #[.int .i64 cd, .slice a2 n2 c2] 29)).below hb).c1
  have V2 := ((Var2.new (w.alloc (.cells #[.int .i64 cd, .slice a1 n1 c1] 29)) 29 cd (.slice a2 n2 c2)).below hb).c1
  have ez : (w.alloc (.cells #[.int .i64 cd, .slice a1 n1 c1] 29)).heap.size = w.heap.size + 1 := by simp
  rw [ez] at V2
  have HB := Lib.hid (below_then (below2 w _ _) hb)
  clear hb ez
  go_wp2_with fail
  refine (specSameTrees_any a1 a2 n1 n2 c1 c2 l l _ true (by simp) (H1.out.below HB.out) (H2.out.below HB.out)).mono ?_
  rintro e w2 ⟨rfl, nd, rfl⟩
  go_wp2
  go_ret
  exact ⟨rfl, below_drewN HB.out _⟩
end Go.Proofs.YtjkmgpomcnplnaaGreatDoor
