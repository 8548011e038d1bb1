/- The walk of FnExactSamePresences. -/
import Derived.Test.YtpafknmfacgccaaPPresSame
import Derived.Test.YtpafknmfacgccaaPrSz
import Derived.Test.YtpafknmfacgccaaPrTo
import Derived.Test.YtpafknmfacgccaaPrEq
import Derived.Test.YtpafknmfacgccaaPrHeld
namespace Go.Proofs.Ytpafknmfacgccaa
open Go.ChangeShapes Go.WideShapes Go.ChangeAt Go.RowKit
set_option linter.unusedVariables false

set_option maxRecDepth 100000 in
set_option maxHeartbeats 6400000 in
theorem fnExactSamePresences_walk (p : Pr) (a : Option Addr) (n c : Nat) (p' : Pr) (a' : Option Addr) (n' c' : Nat) (w : World) (hp : PrSize p) (h : ItsAt w a n c p.more) (hp' : PrSize p') (h' : ItsAt w a' n' c' p'.more) :
    Calls Try.prog 5 #[.agg #[.int .i64 p.kind, .string p.sender, .string p.goal, .int .i64 p.shown, .string p.status, .int .i64 p.prio, .slice a n c], .agg #[.int .i64 p'.kind, .string p'.sender, .string p'.goal, .int .i64 p'.shown, .string p'.status, .int .i64 p'.prio, .slice a' n' c']] w fun e w' => e = .returned (.bool true) ∧ Below w.heap.size w w' := by
  obtain ⟨bb, hbb⟩ : ∃ bb : Bool, bb = true ↔ p = p' := by
    by_cases e : p = p'
    · exact ⟨true, iff_of_true rfl e⟩
    · exact ⟨false, iff_of_false (by decide) e⟩
  have Z1 := Lib.hid (fun left (W : World) (h0 : 0 ≤ left) (h1 : left ≤ 1048576) (hb : Below w.heap.size w W) => szPresence_any p a n c left W h0 h1 hp (h.below hb))
  have Z2 := Lib.hid (fun left (W : World) (h0 : 0 ≤ left) (h1 : left ≤ 1048576) (hb : Below w.heap.size w W) => szPresence_any p' a' n' c' left W h0 h1 hp' (h'.below hb))
  have KP := Lib.hid (fun W (hs : SmallPr p) (hb : Below w.heap.size w W) => toPresence_own p a n c W hs (h.below hb))
  have KQ := Lib.hid (fun W (hs : SmallPr p') (hb : Below w.heap.size w W) => toPresence_own p' a' n' c' W hs (h'.below hb))
  have KS := Lib.hid (fun (x y : Option Addr) (m k q r : Nat) W hx hy => specSamePresences_any p p' x y m k q r W bb hbb hx hy)
  have KI := Lib.hid (fun (x y : Option Addr) (m k q r : Nat) W hx hy => implSamePresences_any p p' x y m k q r W bb hbb hx hy)
  have EP := Lib.hid (fun (x y : Option Addr) (m k q r : Nat) W hx hy => eqPresence_true p x y m k q r W hx hy)
  have EQ := Lib.hid (fun (x y : Option Addr) (m k q r : Nat) W hx hy => eqPresence_true p' x y m k q r W hx hy)
  have P0 := Lib.hid ((PrAt.new w 35 p a n c).below (below1 _ (.cells #[.int .i64 p'.kind, .string p'.sender, .string p'.goal, .int .i64 p'.shown, .string p'.status, .int .i64 p'.prio, .slice a' n' c'] 35)))
  have Q0 := Lib.hid (PrAt.new (w.alloc (.cells #[.int .i64 p.kind, .string p.sender, .string p.goal, .int .i64 p.shown, .string p.status, .int .i64 p.prio, .slice a n c] 35)) 35 p' a' n' c')
  unfold PrOwn at KP KQ
  clear hp h hp' h' hbb
  obtain ⟨pk, pf, pt, ps, pu, pp, pm⟩ := p
  obtain ⟨qk, qf, qt, qs, qu, qp, qm⟩ := p'
  dsimp only at Z1 Z2 KP KQ KS KI EP EQ P0 Q0 ⊢
  rw [show ∀ o, (w.alloc o).heap.size = w.heap.size + 1 from fun o => by simp] at Q0
  go_enter Try.func5, Try.ntmps5
  go_wp2_with fail
  refine (Z1.out _ _ (by omega) (by omega) (below2 _ _ _)).mono ?_
  rintro e w1 ⟨r1, hr1, rfl, hb1⟩
  have P1 := Lib.hid (P0.out.below hb1)
  have Q1 := Lib.hid (Q0.out.below hb1)
  have B1 := Lib.hid (below_then (below2 _ _ _) hb1)
  clear hb1 P0 Q0
  have hlt : w.heap.size < w1.heap.size := P1.out.lt
  have hlt' : w.heap.size + 1 < w1.heap.size := Q1.out.lt
  have d0 := P1.out.c0
  have d1 := P1.out.c1
  have d2 := P1.out.c2
  have d3 := P1.out.c3
  have d4 := P1.out.c4
  have d5 := P1.out.c5
  have d6 := P1.out.c6
  have f0 := Q1.out.c0
  have f1 := Q1.out.c1
  have f2 := Q1.out.c2
  have f3 := Q1.out.c3
  have f4 := Q1.out.c4
  have f5 := Q1.out.c5
  have f6 := Q1.out.c6
  rcases hr1 with rfl | ⟨hr0, hr1, hsm⟩
  · go_wp2
    go_ret
    exact ⟨rfl, B1.out⟩
  have HS1 := Lib.hid hsm
  clear hsm
  go_wp2_with fail
  refine (Z2.out _ _ hr0 hr1 B1.out).mono ?_
  rintro e w2 ⟨r2, hr2, rfl, hb2⟩
  have P2 := Lib.hid (P1.out.below hb2)
  have Q2 := Lib.hid (Q1.out.below hb2)
  have B2 := Lib.hid (below_then B1.out hb2)
  have hlt : w.heap.size < w2.heap.size := P2.out.lt
  have hlt' : w.heap.size + 1 < w2.heap.size := Q2.out.lt
  clear hb2 P1 Q1 B1 d0 d1 d2 d3 d4 d5 d6 f0 f1 f2 f3 f4 f5 f6
  have d0 := P2.out.c0
  have d1 := P2.out.c1
  have d2 := P2.out.c2
  have d3 := P2.out.c3
  have d4 := P2.out.c4
  have d5 := P2.out.c5
  have d6 := P2.out.c6
  have f0 := Q2.out.c0
  have f1 := Q2.out.c1
  have f2 := Q2.out.c2
  have f3 := Q2.out.c3
  have f4 := Q2.out.c4
  have f5 := Q2.out.c5
  have f6 := Q2.out.c6
  rcases hr2 with rfl | ⟨hr2, hr3, hsm⟩
  · go_wp2
    go_ret
    exact ⟨rfl, B2.out⟩
  have HS2 := Lib.hid hsm
  have KP := Lib.hid (fun W hb => KP.out W HS1.out hb)
  have KQ := Lib.hid (fun W hb => KQ.out W HS2.out hb)
  clear hsm Z1 Z2
  go_wp2_with fail
  have hS0 : Below w2.heap.size w2 w2.drew ∧ w2.drew.cell? ⟨w.heap.size, 0, none⟩ = some (.int .i64 pk) ∧ w2.drew.cell? ⟨w.heap.size, 1, none⟩ = some (.string pf) ∧ w2.drew.cell? ⟨w.heap.size, 2, none⟩ = some (.string pt) ∧ w2.drew.cell? ⟨w.heap.size, 3, none⟩ = some (.int .i64 ps) ∧ w2.drew.cell? ⟨w.heap.size, 4, none⟩ = some (.string pu) ∧ w2.drew.cell? ⟨w.heap.size, 5, none⟩ = some (.int .i64 pp) ∧ w2.drew.cell? ⟨w.heap.size, 6, none⟩ = some (.slice a n c) ∧ w2.drew.cell? ⟨w.heap.size + 1, 0, none⟩ = some (.int .i64 qk) ∧ w2.drew.cell? ⟨w.heap.size + 1, 1, none⟩ = some (.string qf) ∧ w2.drew.cell? ⟨w.heap.size + 1, 2, none⟩ = some (.string qt) ∧ w2.drew.cell? ⟨w.heap.size + 1, 3, none⟩ = some (.int .i64 qs) ∧ w2.drew.cell? ⟨w.heap.size + 1, 4, none⟩ = some (.string qu) ∧ w2.drew.cell? ⟨w.heap.size + 1, 5, none⟩ = some (.int .i64 qp) ∧ w2.drew.cell? ⟨w.heap.size + 1, 6, none⟩ = some (.slice a' n' c') := ⟨(Below.refl _ _).drew, d0, d1, d2, d3, d4, d5, d6, f0, f1, f2, f3, f4, f5, f6⟩
  first | (go_region_held3 (fun W => Below w2.heap.size w2 W ∧ W.cell? ⟨w.heap.size, 0, none⟩ = some (.int .i64 pk) ∧ W.cell? ⟨w.heap.size, 1, none⟩ = some (.string pf) ∧ W.cell? ⟨w.heap.size, 2, none⟩ = some (.string pt) ∧ W.cell? ⟨w.heap.size, 3, none⟩ = some (.int .i64 ps) ∧ W.cell? ⟨w.heap.size, 4, none⟩ = some (.string pu) ∧ W.cell? ⟨w.heap.size, 5, none⟩ = some (.int .i64 pp) ∧ W.cell? ⟨w.heap.size, 6, none⟩ = some (.slice a n c) ∧ W.cell? ⟨w.heap.size + 1, 0, none⟩ = some (.int .i64 qk) ∧ W.cell? ⟨w.heap.size + 1, 1, none⟩ = some (.string qf) ∧ W.cell? ⟨w.heap.size + 1, 2, none⟩ = some (.string qt) ∧ W.cell? ⟨w.heap.size + 1, 3, none⟩ = some (.int .i64 qs) ∧ W.cell? ⟨w.heap.size + 1, 4, none⟩ = some (.string qu) ∧ W.cell? ⟨w.heap.size + 1, 5, none⟩ = some (.int .i64 qp) ∧ W.cell? ⟨w.heap.size + 1, 6, none⟩ = some (.slice a' n' c')) (first | assumption | exact held14 hbr (by assumption))
    (first
      | (go_at_call 17; ((with_reducible refine (KP.out _ ?_).mono ?_)); exact below_then B2.out (And.left (by assumption)); rintro e wx ⟨x1, m1, q1, rfl, hx, hbr⟩)
      | (go_at_call 17; ((with_reducible refine (KQ.out _ ?_).mono ?_)); exact below_then B2.out (And.left (by assumption)); rintro e wy ⟨x2, m2, q2, rfl, hy, hbr⟩; have hx := hx.below hbr)
      | (go_at_call 16; refine (KS.out _ _ _ _ _ _ _ hx.its hy.its).mono ?_; rintro e wz ⟨rfl, hbr⟩))) | fail
  have hB3 : Below w2.heap.size w2 wz := And.left (by assumption)
  have P3 := Lib.hid (P2.out.below hB3)
  have Q3 := Lib.hid (Q2.out.below hB3)
  have B3 := Lib.hid (below_then B2.out hB3)
  have hlt : w.heap.size < wz.heap.size := P3.out.lt
  have hlt' : w.heap.size + 1 < wz.heap.size := Q3.out.lt
  clear hB3 hS0 d0 d1 d2 d3 d4 d5 d6 f0 f1 f2 f3 f4 f5 f6 KS hx hy P2 Q2
  have d0 := P3.out.c0
  have d1 := P3.out.c1
  have d2 := P3.out.c2
  have d3 := P3.out.c3
  have d4 := P3.out.c4
  have d5 := P3.out.c5
  have d6 := P3.out.c6
  have f0 := Q3.out.c0
  have f1 := Q3.out.c1
  have f2 := Q3.out.c2
  have f3 := Q3.out.c3
  have f4 := Q3.out.c4
  have f5 := Q3.out.c5
  have f6 := Q3.out.c6
  go_wp2_with fail
  refine (KP.out _ B3.out).mono ?_
  rintro e w4 ⟨x4, m4, q4, rfl, h4, hb4⟩
  have P4 := Lib.hid ((P3.out.below hb4).below (below1 w4 (.cells #[.int .i64 pk, .string pf, .string pt, .int .i64 ps, .string pu, .int .i64 pp, .slice x4 m4 q4] 39)))
  have Q4 := Lib.hid ((Q3.out.below hb4).below (below1 w4 (.cells #[.int .i64 pk, .string pf, .string pt, .int .i64 ps, .string pu, .int .i64 pp, .slice x4 m4 q4] 39)))
  have B4 := Lib.hid (below_then (below_then B3.out hb4) (below1 w4 (.cells #[.int .i64 pk, .string pf, .string pt, .int .i64 ps, .string pu, .int .i64 pp, .slice x4 m4 q4] 39)))
  have X4 := Lib.hid (h4.its.below (below1 w4 (.cells #[.int .i64 pk, .string pf, .string pt, .int .i64 ps, .string pu, .int .i64 pp, .slice x4 m4 q4] 39)))
  have V4 := Lib.hid (PrAt.new w4 39 ⟨pk, pf, pt, ps, pu, pp, pm⟩ x4 m4 q4)
  have hlt : w.heap.size < w4.heap.size := Nat.lt_of_lt_of_le P3.out.lt hb4.size
  have hlt' : w.heap.size + 1 < w4.heap.size := Nat.lt_of_lt_of_le Q3.out.lt hb4.size
  have hlt2 : w.heap.size < w4.heap.size + 1 := by omega
  have hlt2' : w.heap.size + 1 < w4.heap.size + 1 := by omega
  dsimp only at V4
  clear h4 hb4 P3 Q3 B3 d0 d1 d2 d3 d4 d5 d6 f0 f1 f2 f3 f4 f5 f6
  have f0 := Q4.out.c0
  have f1 := Q4.out.c1
  have f2 := Q4.out.c2
  have f3 := Q4.out.c3
  have f4 := Q4.out.c4
  have f5 := Q4.out.c5
  have f6 := Q4.out.c6
  go_wp2_with fail
  refine (KQ.out _ B4.out).mono ?_
  rintro e w5 ⟨x5, m5, q5, rfl, h5, hb5⟩
  have P5 := Lib.hid ((P4.out.below hb5).below (below1 w5 (.cells #[.int .i64 qk, .string qf, .string qt, .int .i64 qs, .string qu, .int .i64 qp, .slice x5 m5 q5] 39)))
  have Q5 := Lib.hid ((Q4.out.below hb5).below (below1 w5 (.cells #[.int .i64 qk, .string qf, .string qt, .int .i64 qs, .string qu, .int .i64 qp, .slice x5 m5 q5] 39)))
  have B5 := Lib.hid (below_then (below_then B4.out hb5) (below1 w5 (.cells #[.int .i64 qk, .string qf, .string qt, .int .i64 qs, .string qu, .int .i64 qp, .slice x5 m5 q5] 39)))
  have X5 := Lib.hid ((X4.out.below hb5).below (below1 w5 (.cells #[.int .i64 qk, .string qf, .string qt, .int .i64 qs, .string qu, .int .i64 qp, .slice x5 m5 q5] 39)))
  have Y5 := Lib.hid (h5.its.below (below1 w5 (.cells #[.int .i64 qk, .string qf, .string qt, .int .i64 qs, .string qu, .int .i64 qp, .slice x5 m5 q5] 39)))
  have V5 := Lib.hid ((V4.out.below hb5).below (below1 w5 (.cells #[.int .i64 qk, .string qf, .string qt, .int .i64 qs, .string qu, .int .i64 qp, .slice x5 m5 q5] 39)))
  have U5 := Lib.hid (PrAt.new w5 39 ⟨qk, qf, qt, qs, qu, qp, qm⟩ x5 m5 q5)
  have hl4 : w4.heap.size < w5.heap.size := (V4.out.below hb5).lt
  have hl4' : w4.heap.size < w5.heap.size + 1 := by omega
  have hlw : w.heap.size < w5.heap.size := by omega
  have hlw' : w.heap.size + 1 < w5.heap.size := by omega
  dsimp only at U5
  clear h5 hb5 P4 Q4 B4 X4 V4 f0 f1 f2 f3 f4 f5 f6
  have g0 := V5.out.c0
  have g1 := V5.out.c1
  have g2 := V5.out.c2
  have g3 := V5.out.c3
  have g4 := V5.out.c4
  have g5 := V5.out.c5
  have g6 := V5.out.c6
  have k0 := U5.out.c0
  have k1 := U5.out.c1
  have k2 := U5.out.c2
  have k3 := U5.out.c3
  have k4 := U5.out.c4
  have k5 := U5.out.c5
  have k6 := U5.out.c6
  go_wp2_with fail
  refine (KI.out _ _ _ _ _ _ _ X5.out Y5.out).mono ?_
  rintro e w6 ⟨rfl, hb6⟩
  have P6 := Lib.hid (P5.out.below hb6)
  have Q6 := Lib.hid (Q5.out.below hb6)
  have B6 := Lib.hid (below_then B5.out hb6)
  have X6 := Lib.hid (X5.out.below hb6)
  have Y6 := Lib.hid (Y5.out.below hb6)
  have V6 := Lib.hid (V5.out.below hb6)
  have U6 := Lib.hid (U5.out.below hb6)
  have q1 : (bb != bb) = false := by simp
  have hl6 : w.heap.size < w6.heap.size := P6.out.lt
  have hl6' : w.heap.size + 1 < w6.heap.size := Q6.out.lt
  have hl7 : w4.heap.size < w6.heap.size := V6.out.lt
  have hl7' : w5.heap.size < w6.heap.size := U6.out.lt
  clear hb6 P5 Q5 B5 X5 Y5 V5 U5 KI hl4 hl4' hlw hlw' hlt hlt' hlt2 hlt2' g0 g1 g2 g3 g4 g5 g6 k0 k1 k2 k3 k4 k5 k6
  have d0 := P6.out.c0
  have d1 := P6.out.c1
  have d2 := P6.out.c2
  have d3 := P6.out.c3
  have d4 := P6.out.c4
  have d5 := P6.out.c5
  have d6 := P6.out.c6
  have g0 := V6.out.c0
  have g1 := V6.out.c1
  have g2 := V6.out.c2
  have g3 := V6.out.c3
  have g4 := V6.out.c4
  have g5 := V6.out.c5
  have g6 := V6.out.c6
  cases bb
  all_goals
    go_wp2_with fail
    have hS0 : Below w6.heap.size w6 w6.drew ∧ w6.drew.cell? ⟨w.heap.size, 0, none⟩ = some (.int .i64 pk) ∧ w6.drew.cell? ⟨w.heap.size, 1, none⟩ = some (.string pf) ∧ w6.drew.cell? ⟨w.heap.size, 2, none⟩ = some (.string pt) ∧ w6.drew.cell? ⟨w.heap.size, 3, none⟩ = some (.int .i64 ps) ∧ w6.drew.cell? ⟨w.heap.size, 4, none⟩ = some (.string pu) ∧ w6.drew.cell? ⟨w.heap.size, 5, none⟩ = some (.int .i64 pp) ∧ w6.drew.cell? ⟨w.heap.size, 6, none⟩ = some (.slice a n c) ∧ w6.drew.cell? ⟨w4.heap.size, 0, none⟩ = some (.int .i64 pk) ∧ w6.drew.cell? ⟨w4.heap.size, 1, none⟩ = some (.string pf) ∧ w6.drew.cell? ⟨w4.heap.size, 2, none⟩ = some (.string pt) ∧ w6.drew.cell? ⟨w4.heap.size, 3, none⟩ = some (.int .i64 ps) ∧ w6.drew.cell? ⟨w4.heap.size, 4, none⟩ = some (.string pu) ∧ w6.drew.cell? ⟨w4.heap.size, 5, none⟩ = some (.int .i64 pp) ∧ w6.drew.cell? ⟨w4.heap.size, 6, none⟩ = some (.slice x4 m4 q4) := ⟨(Below.refl _ _).drew, d0, d1, d2, d3, d4, d5, d6, g0, g1, g2, g3, g4, g5, g6⟩
    first | (go_region_held3 (fun W => Below w6.heap.size w6 W ∧ W.cell? ⟨w.heap.size, 0, none⟩ = some (.int .i64 pk) ∧ W.cell? ⟨w.heap.size, 1, none⟩ = some (.string pf) ∧ W.cell? ⟨w.heap.size, 2, none⟩ = some (.string pt) ∧ W.cell? ⟨w.heap.size, 3, none⟩ = some (.int .i64 ps) ∧ W.cell? ⟨w.heap.size, 4, none⟩ = some (.string pu) ∧ W.cell? ⟨w.heap.size, 5, none⟩ = some (.int .i64 pp) ∧ W.cell? ⟨w.heap.size, 6, none⟩ = some (.slice a n c) ∧ W.cell? ⟨w4.heap.size, 0, none⟩ = some (.int .i64 pk) ∧ W.cell? ⟨w4.heap.size, 1, none⟩ = some (.string pf) ∧ W.cell? ⟨w4.heap.size, 2, none⟩ = some (.string pt) ∧ W.cell? ⟨w4.heap.size, 3, none⟩ = some (.int .i64 ps) ∧ W.cell? ⟨w4.heap.size, 4, none⟩ = some (.string pu) ∧ W.cell? ⟨w4.heap.size, 5, none⟩ = some (.int .i64 pp) ∧ W.cell? ⟨w4.heap.size, 6, none⟩ = some (.slice x4 m4 q4)) (first | assumption | exact held14 hbr (by assumption))
      (first
        | (go_at_call 17; refine (KP.out _ ?_).mono ?_; exact below_then B6.out (And.left (by assumption)); rintro e wx ⟨x1, m1, q1, rfl, hx, hbr⟩)
        | (go_at_call 19; refine (EP.out _ _ _ _ _ _ _ (X6.out.below (And.left (by assumption))) hx.its).mono ?_; rintro e wz ⟨rfl, hbr⟩))) | fail
    have hB7 : Below w6.heap.size w6 wz := And.left (by assumption)
    have B7 := Lib.hid (below_then B6.out hB7)
    have Y7 := Lib.hid (Y6.out.below hB7)
    have Q7 := Lib.hid (Q6.out.below hB7)
    have U7 := Lib.hid (U6.out.below hB7)
    clear hB7 hS0 hx d0 d1 d2 d3 d4 d5 d6 g0 g1 g2 g3 g4 g5 g6 P6 V6 X6
    have f0 := Q7.out.c0
    have f1 := Q7.out.c1
    have f2 := Q7.out.c2
    have f3 := Q7.out.c3
    have f4 := Q7.out.c4
    have f5 := Q7.out.c5
    have f6 := Q7.out.c6
    have k0 := U7.out.c0
    have k1 := U7.out.c1
    have k2 := U7.out.c2
    have k3 := U7.out.c3
    have k4 := U7.out.c4
    have k5 := U7.out.c5
    have k6 := U7.out.c6
    go_wp2_with fail
    have hS1 : Below wz.heap.size wz wz.drew ∧ wz.drew.cell? ⟨w.heap.size + 1, 0, none⟩ = some (.int .i64 qk) ∧ wz.drew.cell? ⟨w.heap.size + 1, 1, none⟩ = some (.string qf) ∧ wz.drew.cell? ⟨w.heap.size + 1, 2, none⟩ = some (.string qt) ∧ wz.drew.cell? ⟨w.heap.size + 1, 3, none⟩ = some (.int .i64 qs) ∧ wz.drew.cell? ⟨w.heap.size + 1, 4, none⟩ = some (.string qu) ∧ wz.drew.cell? ⟨w.heap.size + 1, 5, none⟩ = some (.int .i64 qp) ∧ wz.drew.cell? ⟨w.heap.size + 1, 6, none⟩ = some (.slice a' n' c') ∧ wz.drew.cell? ⟨w5.heap.size, 0, none⟩ = some (.int .i64 qk) ∧ wz.drew.cell? ⟨w5.heap.size, 1, none⟩ = some (.string qf) ∧ wz.drew.cell? ⟨w5.heap.size, 2, none⟩ = some (.string qt) ∧ wz.drew.cell? ⟨w5.heap.size, 3, none⟩ = some (.int .i64 qs) ∧ wz.drew.cell? ⟨w5.heap.size, 4, none⟩ = some (.string qu) ∧ wz.drew.cell? ⟨w5.heap.size, 5, none⟩ = some (.int .i64 qp) ∧ wz.drew.cell? ⟨w5.heap.size, 6, none⟩ = some (.slice x5 m5 q5) := ⟨(Below.refl _ _).drew, f0, f1, f2, f3, f4, f5, f6, k0, k1, k2, k3, k4, k5, k6⟩
    first | (go_region_held3 (fun W => Below wz.heap.size wz W ∧ W.cell? ⟨w.heap.size + 1, 0, none⟩ = some (.int .i64 qk) ∧ W.cell? ⟨w.heap.size + 1, 1, none⟩ = some (.string qf) ∧ W.cell? ⟨w.heap.size + 1, 2, none⟩ = some (.string qt) ∧ W.cell? ⟨w.heap.size + 1, 3, none⟩ = some (.int .i64 qs) ∧ W.cell? ⟨w.heap.size + 1, 4, none⟩ = some (.string qu) ∧ W.cell? ⟨w.heap.size + 1, 5, none⟩ = some (.int .i64 qp) ∧ W.cell? ⟨w.heap.size + 1, 6, none⟩ = some (.slice a' n' c') ∧ W.cell? ⟨w5.heap.size, 0, none⟩ = some (.int .i64 qk) ∧ W.cell? ⟨w5.heap.size, 1, none⟩ = some (.string qf) ∧ W.cell? ⟨w5.heap.size, 2, none⟩ = some (.string qt) ∧ W.cell? ⟨w5.heap.size, 3, none⟩ = some (.int .i64 qs) ∧ W.cell? ⟨w5.heap.size, 4, none⟩ = some (.string qu) ∧ W.cell? ⟨w5.heap.size, 5, none⟩ = some (.int .i64 qp) ∧ W.cell? ⟨w5.heap.size, 6, none⟩ = some (.slice x5 m5 q5)) (first | assumption | exact held14 hbr (by assumption))
      (first
        | (go_at_call 17; refine (KQ.out _ ?_).mono ?_; exact below_then B7.out (And.left (by assumption)); rintro e wx2 ⟨x1, m1, q1, rfl, hx, hbr⟩)
        | (go_at_call 19; refine (EQ.out _ _ _ _ _ _ _ (Y7.out.below (And.left (by assumption))) hx.its).mono ?_; rintro e wz2 ⟨rfl, hbr⟩))) | fail
    have hB8 : Below wz.heap.size wz wz2 := And.left (by assumption)
    go_wp2
    go_ret
    exact ⟨rfl, below_then B7.out hB8⟩
end Go.Proofs.Ytpafknmfacgccaa
