/- The walk of FnExactPresenceFault. -/
import Derived.Test.YtpafknmfacgccaaDoorPres2
import Derived.Test.YtpafknmfacgccaaDoorPPres
import Derived.Test.YtpafknmfacgccaaDoorPrSz
import Derived.Test.YtpafknmfacgccaaDoorPrTo
import Derived.Test.YtpafknmfacgccaaDoorPrEq
import Derived.Test.YtpafknmfacgccaaDoorPrHeld
namespace Go.Proofs.YtpafknmfacgccaaDoor
open Go.ChangeShapes Go.WideShapes Go.ChangeAt Go.RowKit
set_option linter.unusedVariables false

theorem PrSize.of_small {p : Pr} (h : SmallPr p) : PrSize p := ⟨by have := h.texts; omega, by have := h.texts; omega, by have := h.texts; omega⟩
set_option maxRecDepth 100000 in
set_option maxHeartbeats 6400000 in
theorem fnExactPresenceFault_walk (p : Pr) (a : Option Addr) (n c : Nat) (w : World) (hp : PrSize p) (h : ItsAt w a n c p.more) (hT : Tabs w) :
    Calls Tryd.prog 6 #[.agg #[.int .i64 p.kind, .string p.sender, .string p.goal, .int .i64 p.shown, .string p.status, .int .i64 p.prio, .slice a n c]] w fun e w' => e = .returned (.bool true) ∧ Below w.heap.size w w' := by
  have Z1 := Lib.hid (fun left (W : World) (h0 : 0 ≤ left) (h1 : left ≤ 1048576) (hb : Below w.heap.size w W) => szPresence_any p a n c left W h0 h1 hp (h.below hb))
  have KP := Lib.hid (fun W (hs : SmallPr p) (hb : Below w.heap.size w W) => toPresence_own p a n c W hs (h.below hb))
  have KS := Lib.hid (fun (x : Option Addr) (m q : Nat) W (hs : SmallPr p) hx => specPresenceFault_any p x m q W hs hx)
  have KI := Lib.hid (fun (x : Option Addr) (m q : Nat) W (hb : Below w.heap.size w W) hx => implPresenceFault_any p x m q W (tabs_kept hT hb) hp hx)
  have EP := Lib.hid (fun (x y : Option Addr) (m k q r : Nat) W hx hy => eqPresence_true p x y m k q r W hx hy)
  have P0 := Lib.hid (PrAt.new w 38 p a n c)
  unfold PrOwn at KP
  generalize presCode p = cd at KS KI
  clear hp h hT
  obtain ⟨pk, pf, pt, ps, pu, pp, pm⟩ := p
  dsimp only at Z1 KP KS KI EP P0 ⊢
  go_enter Tryd.func6, Tryd.ntmps6
  go_wp2_with fail
  refine (Z1.out _ _ (by omega) (by omega) (below1 _ _)).mono ?_
  rintro e w1 ⟨r1, hr1, rfl, hb1⟩
  have P1 := Lib.hid (P0.out.below hb1)
  have B1 := Lib.hid (below_then (below1 _ _) hb1)
  clear hb1 P0 Z1
  have hlt : w.heap.size < w1.heap.size := P1.out.lt
  have d0 := P1.out.c0
  have d1 := P1.out.c1
  have d2 := P1.out.c2
  have d3 := P1.out.c3
  have d4 := P1.out.c4
  have d5 := P1.out.c5
  have d6 := P1.out.c6
  rcases hr1 with rfl | ⟨hr0, hr1, hsm⟩
  · go_wp2
    go_ret
    exact ⟨rfl, B1.out⟩
  have HS1 := Lib.hid hsm
  have KP := Lib.hid (fun W hb => KP.out W HS1.out hb)
  have KS := Lib.hid (fun x m q W hx => KS.out x m q W HS1.out hx)
  clear hsm
  go_wp2_with fail
  refine (KP.out _ B1.out).mono ?_
  rintro e w2 ⟨x2, m2, q2, rfl, h2, hb2⟩
  have P2 := Lib.hid (P1.out.below hb2)
  have B2 := Lib.hid (below_then B1.out hb2)
  have X2 := Lib.hid h2.its
  clear h2 hb2 P1 B1 d0 d1 d2 d3 d4 d5 d6
  go_wp2_with fail
  refine (KS.out _ _ _ _ X2.out).mono ?_
  rintro e w3 ⟨rfl, hb3⟩
  have P3 := Lib.hid (P2.out.below hb3)
  have B3 := Lib.hid (below_then B2.out hb3)
  have hlt : w.heap.size < w3.heap.size := P3.out.lt
  clear hb3 P2 B2 X2 KS
  have d0 := P3.out.c0
  have d1 := P3.out.c1
  have d2 := P3.out.c2
  have d3 := P3.out.c3
  have d4 := P3.out.c4
  have d5 := P3.out.c5
  have d6 := P3.out.c6
  go_wp2_with fail
  refine (KP.out _ B3.out).mono ?_
  rintro e w4 ⟨x4, m4, q4, rfl, h4, hb4⟩
  have P4 := Lib.hid ((P3.out.below hb4).below (below1 w4 (.cells #[.int .i64 pk, .string pf, .string pt, .int .i64 ps, .string pu, .int .i64 pp, .slice x4 m4 q4] 43)))
  have B4 := Lib.hid (below_then (below_then B3.out hb4) (below1 w4 (.cells #[.int .i64 pk, .string pf, .string pt, .int .i64 ps, .string pu, .int .i64 pp, .slice x4 m4 q4] 43)))
  have X4 := Lib.hid (h4.its.below (below1 w4 (.cells #[.int .i64 pk, .string pf, .string pt, .int .i64 ps, .string pu, .int .i64 pp, .slice x4 m4 q4] 43)))
  have V4 := Lib.hid (PrAt.new w4 43 ⟨pk, pf, pt, ps, pu, pp, pm⟩ x4 m4 q4)
  have hlt : w.heap.size < w4.heap.size := Nat.lt_of_lt_of_le P3.out.lt hb4.size
  dsimp only at V4
  clear h4 hb4 P3 B3 d0 d1 d2 d3 d4 d5 d6
  have g0 := V4.out.c0
  have g1 := V4.out.c1
  have g2 := V4.out.c2
  have g3 := V4.out.c3
  have g4 := V4.out.c4
  have g5 := V4.out.c5
  have g6 := V4.out.c6
  go_wp2_with fail
  refine (KI.out _ _ _ _ B4.out X4.out).mono ?_
  rintro e w6 ⟨rfl, hb6⟩
  have P6 := Lib.hid (P4.out.below hb6)
  have B6 := Lib.hid (below_then B4.out hb6)
  have X6 := Lib.hid (X4.out.below hb6)
  have V6 := Lib.hid (V4.out.below hb6)
  have q1 : (cd != cd) = false := by simp
  have hl6 : w.heap.size < w6.heap.size := P6.out.lt
  have hl7 : w4.heap.size < w6.heap.size := V6.out.lt
  clear hb6 P4 B4 X4 V4 KI g0 g1 g2 g3 g4 g5 g6
  have d0 := P6.out.c0
  have d1 := P6.out.c1
  have d2 := P6.out.c2
  have d3 := P6.out.c3
  have d4 := P6.out.c4
  have d5 := P6.out.c5
  have d6 := P6.out.c6
  have g0 := V6.out.c0
  have g1 := V6.out.c1
  have g2 := V6.out.c2
  have g3 := V6.out.c3
  have g4 := V6.out.c4
  have g5 := V6.out.c5
  have g6 := V6.out.c6
  go_wp2_with fail
  have hS0 : Below w6.heap.size w6 w6.drew ∧ w6.drew.cell? ⟨w.heap.size, 0, none⟩ = some (.int .i64 pk) ∧ w6.drew.cell? ⟨w.heap.size, 1, none⟩ = some (.string pf) ∧ w6.drew.cell? ⟨w.heap.size, 2, none⟩ = some (.string pt) ∧ w6.drew.cell? ⟨w.heap.size, 3, none⟩ = some (.int .i64 ps) ∧ w6.drew.cell? ⟨w.heap.size, 4, none⟩ = some (.string pu) ∧ w6.drew.cell? ⟨w.heap.size, 5, none⟩ = some (.int .i64 pp) ∧ w6.drew.cell? ⟨w.heap.size, 6, none⟩ = some (.slice a n c) ∧ w6.drew.cell? ⟨w4.heap.size, 0, none⟩ = some (.int .i64 pk) ∧ w6.drew.cell? ⟨w4.heap.size, 1, none⟩ = some (.string pf) ∧ w6.drew.cell? ⟨w4.heap.size, 2, none⟩ = some (.string pt) ∧ w6.drew.cell? ⟨w4.heap.size, 3, none⟩ = some (.int .i64 ps) ∧ w6.drew.cell? ⟨w4.heap.size, 4, none⟩ = some (.string pu) ∧ w6.drew.cell? ⟨w4.heap.size, 5, none⟩ = some (.int .i64 pp) ∧ w6.drew.cell? ⟨w4.heap.size, 6, none⟩ = some (.slice x4 m4 q4) := ⟨(Below.refl _ _).drew, d0, d1, d2, d3, d4, d5, d6, g0, g1, g2, g3, g4, g5, g6⟩
  first | (go_region_held3 (fun W => Below w6.heap.size w6 W ∧ W.cell? ⟨w.heap.size, 0, none⟩ = some (.int .i64 pk) ∧ W.cell? ⟨w.heap.size, 1, none⟩ = some (.string pf) ∧ W.cell? ⟨w.heap.size, 2, none⟩ = some (.string pt) ∧ W.cell? ⟨w.heap.size, 3, none⟩ = some (.int .i64 ps) ∧ W.cell? ⟨w.heap.size, 4, none⟩ = some (.string pu) ∧ W.cell? ⟨w.heap.size, 5, none⟩ = some (.int .i64 pp) ∧ W.cell? ⟨w.heap.size, 6, none⟩ = some (.slice a n c) ∧ W.cell? ⟨w4.heap.size, 0, none⟩ = some (.int .i64 pk) ∧ W.cell? ⟨w4.heap.size, 1, none⟩ = some (.string pf) ∧ W.cell? ⟨w4.heap.size, 2, none⟩ = some (.string pt) ∧ W.cell? ⟨w4.heap.size, 3, none⟩ = some (.int .i64 ps) ∧ W.cell? ⟨w4.heap.size, 4, none⟩ = some (.string pu) ∧ W.cell? ⟨w4.heap.size, 5, none⟩ = some (.int .i64 pp) ∧ W.cell? ⟨w4.heap.size, 6, none⟩ = some (.slice x4 m4 q4)) (first | assumption | exact held14 hbr (by assumption))
    (first
      | (go_at_call 18; refine (KP.out _ ?_).mono ?_; exact below_then B6.out (And.left (by assumption)); rintro e wx ⟨x1, m1, q1, rfl, hx, hbr⟩)
      | (go_at_call 20; refine (EP.out _ _ _ _ _ _ _ (X6.out.below (And.left (by assumption))) hx.its).mono ?_; rintro e wz ⟨rfl, hbr⟩))) | fail
  have hB8 : Below w6.heap.size w6 wz := And.left (by assumption)
  go_wp2
  go_ret
  exact ⟨rfl, below_then B6.out hB8⟩
end Go.Proofs.YtpafknmfacgccaaDoor
