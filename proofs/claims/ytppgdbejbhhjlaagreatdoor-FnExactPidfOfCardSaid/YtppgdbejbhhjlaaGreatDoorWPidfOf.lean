/- The walk of FnExactPidfOf. -/
import Derived.Test.YtppgdbejbhhjlaaGreatDoorGF29
import Derived.Test.YtppgdbejbhhjlaaGreatDoorGF41
import Derived.Test.YtppgdbejbhhjlaaGreatDoorGF42
import Derived.Test.YtppgdbejbhhjlaaGreatDoorGF43
import Derived.Test.YtppgdbejbhhjlaaGreatDoorGF44
import Derived.Test.YtppgdbejbhhjlaaGreatDoorGF45
namespace Go.Proofs.YtppgdbejbhhjlaaGreatDoor
open Go.ChangeShapes Go.WideShapes Go.ChangeAt Go.RowKit
set_option linter.unusedVariables false

theorem pidfT_few (p : Pr) (_ : ∀ i, (p.more.getD i dIt).attrs.length ≤ 1048576) : ∀ i, ((pidfT p).getD i dIt).attrs.length ≤ 1048576 := by
  intro i
  rcases Nat.lt_or_ge i (pidfT p).length with h | h
  · rw [List.getD_eq_getElem?_getD, List.getElem?_eq_getElem h]
    have := pidf_few p _ (List.getElem_mem h)
    exact Nat.le_trans this (by decide)
  · rw [List.getD_eq_getElem?_getD, List.getElem?_eq_none h]
    decide
set_option maxRecDepth 100000 in
set_option maxHeartbeats 6400000 in
theorem fnExactPidfOf_walk (p : Pr) (a : Option Addr) (n c : Nat) (w : World) (hp : PrSize p) (h : ItsAt w a n c p.more) (hT : Tabs w) (hPw : Pows w) :
    Calls Tryz.prog 7 #[.agg #[.int .i64 p.kind, .string p.sender, .string p.goal, .int .i64 p.shown, .string p.status, .int .i64 p.prio, .slice a n c]] w fun e w' => e = .returned (.bool true) ∧ Below w.heap.size w w' := by
  have Z1 := Lib.hid (fun left (W : World) (h0 : 0 ≤ left) (h1 : left ≤ 1048576) (hb : Below w.heap.size w W) => szPresence_any p a n c left W h0 h1 hp (h.below hb))
  have KP := Lib.hid (fun W (hs : SmallPr p) (hb : Below w.heap.size w W) => toPresence_own p a n c W hs (h.below hb))
  have KS := Lib.hid (fun (x : Option Addr) (m q lo hi : Nat) W (hs : SmallPr p) hx => specPidfOf_any p x m q lo hi W hs hx)
  have KI := Lib.hid (fun (x : Option Addr) (m q lo hi : Nat) W (hb : Below w.heap.size w W) (hs : SmallPr p) hx => implPidfOf_any p x m q lo hi W (tabs_kept hT hb) (hPw.below hb) hs hx)
  have EP := Lib.hid (fun (x y : Option Addr) (m k q r : Nat) W hx hy => eqPresence_true p x y m k q r W hx hy)
  have KF := Lib.hid (fun (hs : ∀ i, (p.more.getD i dIt).attrs.length ≤ 1048576) => pidfT_few p hs)
  have P0 := Lib.hid (PrAt.new w 58 p a n c)
  have HLN := Lib.hid h.len
  unfold PrOwn at KP
  unfold TreeOwn at KS KI
  generalize projCode p = cd at KS KI
  generalize pidfT p = L at KS KI KF
  clear hp h hT hPw
  obtain ⟨pk, pf, pt, ps, pu, pp, pm⟩ := p
  dsimp only at Z1 KP KS KI EP P0 KF HLN ⊢
  go_enter Tryz.func7, Tryz.ntmps7
  go_wp2_with fail
  refine (Z1.out _ _ (by omega) (by omega) (below1 _ _)).mono ?_
  rintro e w1 ⟨r1, hr1, rfl, hb1⟩
  have P1 := Lib.hid (P0.out.below hb1)
  have B1 := Lib.hid (below_then (below1 _ _) hb1)
  clear hb1 P0 Z1
  have hlt : w.heap.size < w1.heap.size := P1.out.lt
  have d0 := P1.out.c0
  have d1 := P1.out.c1
  have d2 := P1.out.c2
  have d3 := P1.out.c3
  have d4 := P1.out.c4
  have d5 := P1.out.c5
  have d6 := P1.out.c6
  rcases hr1 with rfl | ⟨hr0, hr1, hsm⟩
  · go_wp2
    go_ret
    exact ⟨rfl, B1.out⟩
  have HS1 := Lib.hid hsm
  have hfm : ∀ i, (pm.getD i dIt).attrs.length ≤ 1048576 := fun i => by
    rcases Nat.lt_or_ge i pm.length with h | h
    · exact (hsm.more.2 i h).2.1
    · rw [List.getD_eq_getElem?_getD, List.getElem?_eq_none h]; decide
  have HFM := Lib.hid hfm
  have HFL := Lib.hid (KF.out hfm)
  have HN := Lib.hid (show n ≤ 1048576 by have := hsm.more.1; have := HLN.out; simp only at *; omega)
  have KP := Lib.hid (fun W hb => KP.out W HS1.out hb)
  have KS := Lib.hid (fun x m q lo hi W hx => KS.out x m q lo hi W HS1.out hx)
  have KI := Lib.hid (fun x m q lo hi W hb hx => KI.out x m q lo hi W hb HS1.out hx)
  clear hsm hfm KF
  go_wp2_with fail
  refine (KP.out _ B1.out).mono ?_
  rintro e w2 ⟨x2, m2, q2, rfl, h2, hb2⟩
  have P2 := Lib.hid (P1.out.below hb2)
  have B2 := Lib.hid (below_then B1.out hb2)
  have X2 := Lib.hid h2
  clear h2 hb2 P1 B1 d0 d1 d2 d3 d4 d5 d6
  go_wp2_with fail
  refine (KS.out _ _ _ _ _ _ X2.out).mono ?_
  rintro e w3 ⟨x3, m3, q3, rfl, h3, hb3⟩
  have P3 := Lib.hid ((P2.out.below hb3).below (below1 w3 (.cells #[.int .i64 cd, .slice x3 m3 q3] 29)))
  have B3 := Lib.hid (below_then (below_then B2.out hb3) (below1 w3 (.cells #[.int .i64 cd, .slice x3 m3 q3] 29)))
  have S3 := Lib.hid (h3.its.below (below1 w3 (.cells #[.int .i64 cd, .slice x3 m3 q3] 29)))
  have VB := Lib.hid (Var2.new w3 29 cd (.slice x3 m3 q3))
  have hlt : w.heap.size < w3.heap.size := (P2.out.below hb3).lt
  have PB := P3
  clear h3 hb3 P2 B2 X2 KS
  have d0 := P3.out.c0
  have d1 := P3.out.c1
  have d2 := P3.out.c2
  have d3 := P3.out.c3
  have d4 := P3.out.c4
  have d5 := P3.out.c5
  have d6 := P3.out.c6
  go_wp2_with fail
  refine (KP.out _ B3.out).mono ?_
  rintro e w4 ⟨x4, m4, q4, rfl, h4, hb4⟩
  have hs4 : w3.heap.size + 1 ≤ w4.heap.size := by have := hb4.size; simpa using this
  have P4 := Lib.hid ((P3.out.below hb4).below (below1 w4 (.cells #[.int .i64 pk, .string pf, .string pt, .int .i64 ps, .string pu, .int .i64 pp, .slice x4 m4 q4] 26)))
  have D4 := Lib.hid (below_then hb4 (below1 w4 (.cells #[.int .i64 pk, .string pf, .string pt, .int .i64 ps, .string pu, .int .i64 pp, .slice x4 m4 q4] 26)))
  have B4 := Lib.hid (below_then B3.out (below_then hb4 (below1 w4 (.cells #[.int .i64 pk, .string pf, .string pt, .int .i64 ps, .string pu, .int .i64 pp, .slice x4 m4 q4] 26))))
  have X4 := Lib.hid ((h4.below (below1 w4 (.cells #[.int .i64 pk, .string pf, .string pt, .int .i64 ps, .string pu, .int .i64 pp, .slice x4 m4 q4] 26))).mono (lo' := w3.heap.size + 1) (by simp) (Nat.le_refl _))
  have V4 := Lib.hid (PrAt.new w4 26 ⟨pk, pf, pt, ps, pu, pp, pm⟩ x4 m4 q4)
  have hlt : w.heap.size < w4.heap.size := Nat.lt_of_lt_of_le P3.out.lt hb4.size
  dsimp only at V4
  clear h4 hb4 P3 d0 d1 d2 d3 d4 d5 d6
  have g0 := V4.out.c0
  have g1 := V4.out.c1
  have g2 := V4.out.c2
  have g3 := V4.out.c3
  have g4 := V4.out.c4
  have g5 := V4.out.c5
  have g6 := V4.out.c6
  go_wp2_with fail
  refine (KI.out _ _ _ _ _ _ B4.out X4.out).mono ?_
  rintro e w5 ⟨x5, m5, q5, rfl, h5, hb5⟩
  have hs5 : w4.heap.size + 1 ≤ w5.heap.size := by have := hb5.size; simpa using this
  have P5 := Lib.hid ((P4.out.below hb5).below (below1 w5 (.cells #[.int .i64 cd, .slice x5 m5 q5] 29)))
  have D5 := Lib.hid (below_then D4.out (below_then hb5 (below1 w5 (.cells #[.int .i64 cd, .slice x5 m5 q5] 29))))
  have B5 := Lib.hid (below_then B4.out (below_then hb5 (below1 w5 (.cells #[.int .i64 cd, .slice x5 m5 q5] 29))))
  have X5 := Lib.hid ((X4.out.below hb5).below (below1 w5 (.cells #[.int .i64 cd, .slice x5 m5 q5] 29)))
  have V5 := Lib.hid ((V4.out.below hb5).below (below1 w5 (.cells #[.int .i64 cd, .slice x5 m5 q5] 29)))
  have G5 := Lib.hid ((h5.below (below1 w5 (.cells #[.int .i64 cd, .slice x5 m5 q5] 29))).mono (lo' := w4.heap.size + 1) (by simp) (Nat.le_refl _))
  have VG := Lib.hid (Var2.new w5 29 cd (.slice x5 m5 q5))
  clear h5 hb5 P4 D4 B4 X4 V4 g0 g1 g2 g3 g4 g5 g6
  have V1 := VB.out.below D5.out
  have zz0 := V1.lt
  have zz1 := V1.c0
  have zz2 := V1.c1
  clear V1
  go_wp2_with fail
  refine (eqTreeResult_true cd x5 x3 m5 m3 q5 q3 L _ G5.out.its (S3.out.below D5.out)).mono ?_
  rintro e w6 ⟨rfl, hb6⟩
  have P6 := Lib.hid (P5.out.below hb6)
  have D6 := Lib.hid (below_then D5.out hb6)
  have B6 := Lib.hid (below_then B5.out hb6)
  have X6 := Lib.hid (X5.out.below hb6)
  have V6 := Lib.hid (V5.out.below hb6)
  have G6 := Lib.hid (G5.out.below hb6)
  have VG6 := Lib.hid (VG.out.below hb6)
  have hl6 : w.heap.size < w6.heap.size := P6.out.lt
  have hl7 : w4.heap.size < w6.heap.size := V6.out.lt
  clear hb6 P5 D5 B5 X5 V5 G5 VG zz0 zz1 zz2
  have d0 := P6.out.c0
  have d1 := P6.out.c1
  have d2 := P6.out.c2
  have d3 := P6.out.c3
  have d4 := P6.out.c4
  have d5 := P6.out.c5
  have d6 := P6.out.c6
  have g0 := V6.out.c0
  have g1 := V6.out.c1
  have g2 := V6.out.c2
  have g3 := V6.out.c3
  have g4 := V6.out.c4
  have g5 := V6.out.c5
  have g6 := V6.out.c6
  go_wp2_with fail
  have hS0 : Below w6.heap.size w6 w6.drew ∧ w6.drew.cell? ⟨w.heap.size, 0, none⟩ = some (.int .i64 pk) ∧ w6.drew.cell? ⟨w.heap.size, 1, none⟩ = some (.string pf) ∧ w6.drew.cell? ⟨w.heap.size, 2, none⟩ = some (.string pt) ∧ w6.drew.cell? ⟨w.heap.size, 3, none⟩ = some (.int .i64 ps) ∧ w6.drew.cell? ⟨w.heap.size, 4, none⟩ = some (.string pu) ∧ w6.drew.cell? ⟨w.heap.size, 5, none⟩ = some (.int .i64 pp) ∧ w6.drew.cell? ⟨w.heap.size, 6, none⟩ = some (.slice a n c) ∧ w6.drew.cell? ⟨w4.heap.size, 0, none⟩ = some (.int .i64 pk) ∧ w6.drew.cell? ⟨w4.heap.size, 1, none⟩ = some (.string pf) ∧ w6.drew.cell? ⟨w4.heap.size, 2, none⟩ = some (.string pt) ∧ w6.drew.cell? ⟨w4.heap.size, 3, none⟩ = some (.int .i64 ps) ∧ w6.drew.cell? ⟨w4.heap.size, 4, none⟩ = some (.string pu) ∧ w6.drew.cell? ⟨w4.heap.size, 5, none⟩ = some (.int .i64 pp) ∧ w6.drew.cell? ⟨w4.heap.size, 6, none⟩ = some (.slice x4 m4 q4) := ⟨(Below.refl _ _).drew, d0, d1, d2, d3, d4, d5, d6, g0, g1, g2, g3, g4, g5, g6⟩
  first | (go_region_held3 (fun W => Below w6.heap.size w6 W ∧ W.cell? ⟨w.heap.size, 0, none⟩ = some (.int .i64 pk) ∧ W.cell? ⟨w.heap.size, 1, none⟩ = some (.string pf) ∧ W.cell? ⟨w.heap.size, 2, none⟩ = some (.string pt) ∧ W.cell? ⟨w.heap.size, 3, none⟩ = some (.int .i64 ps) ∧ W.cell? ⟨w.heap.size, 4, none⟩ = some (.string pu) ∧ W.cell? ⟨w.heap.size, 5, none⟩ = some (.int .i64 pp) ∧ W.cell? ⟨w.heap.size, 6, none⟩ = some (.slice a n c) ∧ W.cell? ⟨w4.heap.size, 0, none⟩ = some (.int .i64 pk) ∧ W.cell? ⟨w4.heap.size, 1, none⟩ = some (.string pf) ∧ W.cell? ⟨w4.heap.size, 2, none⟩ = some (.string pt) ∧ W.cell? ⟨w4.heap.size, 3, none⟩ = some (.int .i64 ps) ∧ W.cell? ⟨w4.heap.size, 4, none⟩ = some (.string pu) ∧ W.cell? ⟨w4.heap.size, 5, none⟩ = some (.int .i64 pp) ∧ W.cell? ⟨w4.heap.size, 6, none⟩ = some (.slice x4 m4 q4)) (first | assumption | exact held14 hbr (by assumption))
    (first
      | (go_at_call 55; refine (KP.out _ ?_).mono ?_; exact below_then B6.out (And.left (by assumption)); rintro e wx ⟨x1, m1, q1, rfl, hx, hbr⟩)
      | (go_at_call 56; refine (EP.out _ _ _ _ _ _ _ (X6.out.its.below (And.left (by assumption))) hx.its).mono ?_; rintro e wz ⟨rfl, hbr⟩))) | fail
  have hb7 : Below w6.heap.size w6 wz := And.left (by assumption)
  have P7 := Lib.hid (P6.out.below hb7)
  have D7 := Lib.hid (below_then D6.out hb7)
  have B7 := Lib.hid (below_then B6.out hb7)
  have X7 := Lib.hid (X6.out.below hb7)
  have V7 := Lib.hid (V6.out.below hb7)
  have G7 := Lib.hid (G6.out.below hb7)
  have VG7 := Lib.hid (VG6.out.below hb7)
  clear hb7 hS0 hx hbr d0 d1 d2 d3 d4 d5 d6 g0 g1 g2 g3 g4 g5 g6 P6 D6 B6 X6 V6 G6 VG6 hl6 hl7
  have hl7 : w4.heap.size < wz.heap.size := V7.out.lt
  have g0 := V7.out.c0
  have g1 := V7.out.c1
  have g2 := V7.out.c2
  have g3 := V7.out.c3
  have g4 := V7.out.c4
  have g5 := V7.out.c5
  have g6 := V7.out.c6
  go_wp2_with fail
  refine (markPresence_any pk pf pt ps pu pp _ _ x4 m4 q4 1 pm wz (by decide) (by have h1 := kAt_many 1 pm HFM.out m4; have h2 := X7.out.max; omega) (fun i hi => HFM.out i) X7.out).mono ?_
  rintro e w8 ⟨rfl, _, ho8⟩
  have D8 := Lib.hid (Only.under D7.out (Nat.le_refl _) ho8 (fun i hi => by simp; omega))
  have B8 := Lib.hid (below_then B3.out D8.out)
  have G8 := Lib.hid (G7.out.only ho8 (fun i h1 h2 h3 => by omega))
  have VG8 := Lib.hid (VG7.out.only ho8 (fun hi => by omega))
  have hk0 : (0 : Int) ≤ ((kAt 1 pm m4 : Nat) : Int) := by omega
  generalize ((kAt 1 pm m4 : Nat) : Int) = kk at *
  clear ho8 D7 B7 X7 V7 G7 VG7 P7 g0 g1 g2 g3 g4 g5 g6 hl7
  have V1 := VB.out.below D8.out
  have zz0 := V1.lt
  have zz1 := V1.c0
  have zz2 := V1.c1
  have zz3 := VG8.out.lt
  have zz4 := VG8.out.c0
  have zz5 := VG8.out.c1
  clear V1
  go_wp2_with fail
  refine (eqTreeResult_true cd x5 x3 m5 m3 q5 q3 L _ G8.out.its (S3.out.below D8.out)).mono ?_
  rintro e w9 ⟨rfl, hb9⟩
  have D9 := Lib.hid (below_then D8.out hb9)
  have G9 := Lib.hid (G8.out.below hb9)
  have VG9 := Lib.hid (VG8.out.below hb9)
  clear hb9 D8 B8 G8 VG8 zz0 zz1 zz2 zz3 zz4 zz5
  have zz3 := VG9.out.lt
  have zz4 := VG9.out.c0
  have zz5 := VG9.out.c1
  go_wp2_with fail
  refine (markTreeResult_any cd _ _ x5 m5 q5 1 L w9 (by decide) (by have h1 := kAt_many 1 L HFL.out m5; have h2 := G9.out.max; omega) (fun i hi => HFL.out i) G9.out).mono ?_
  rintro e w10 ⟨rfl, hm10, ho10⟩
  have D10 := Lib.hid (Only.under D9.out (Nat.le_refl _) ho10 (fun i hi => by simp; omega))
  have VG10 := Lib.hid (VG9.out.only ho10 (fun hi => by omega))
  have M10 := Lib.hid hm10
  clear hm10 ho10 D9 VG9 zz3 zz4 zz5
  have zz3 := VG10.out.lt
  have zz4 := VG10.out.c0
  have zz5 := VG10.out.c1
  go_wp2_with fail
  refine (heldTreeResult_any cd x5 m5 q5 1 L w10 (by decide) (by have h1 := kAt_many 1 L HFL.out m5; have h2 := G9.out.max; omega) (fun i hi => HFL.out i) G9.out.len M10.out.its).mono ?_
  rintro e w11 ⟨rfl, hb11⟩
  have hm0 : (0 : Int) ≤ ((kAt 1 L m5 : Nat) : Int) := by omega
  have D11 := Lib.hid (below_then D10.out hb11)
  have VG11 := Lib.hid (VG10.out.below hb11)
  have KH := Lib.hid (fun (W : World) (hh : Below w11.heap.size w11 W) => heldTreeResult_any cd x5 m5 q5 1 L W (by decide) (by have h1 := kAt_many 1 L HFL.out m5; have h2 := G9.out.max; omega) (fun i hi => HFL.out i) G9.out.len ((M10.out.below hb11).its.below hh))
  have B11 := Lib.hid (below_then B3.out D11.out)
  have P11 := Lib.hid (PB.out.below D11.out)
  generalize ((kAt 1 L m5 : Nat) : Int) = mm at *
  clear hb11 zz3 zz4 zz5 D10 VG10 M10 G9
  have hl11 : w.heap.size < w11.heap.size := P11.out.lt
  have d0 := P11.out.c0
  have d1 := P11.out.c1
  have d2 := P11.out.c2
  have d3 := P11.out.c3
  have d4 := P11.out.c4
  have d5 := P11.out.c5
  have d6 := P11.out.c6
  go_wp2_with fail
  refine (KP.out _ B11.out).mono ?_
  rintro e w12 ⟨x12, m12, q12, rfl, h12, hb12⟩
  have X12 := Lib.hid h12
  have F12 := Lib.hid hb12
  clear h12 hb12 d0 d1 d2 d3 d4 d5 d6
  go_wp2_with fail
  refine (KI.out _ _ _ _ _ _ (below_then B11.out F12.out) X12.out).mono ?_
  rintro e w13 ⟨x13, m13, q13, rfl, h13, hb13⟩
  have F13 := Lib.hid (below_then (below_then F12.out hb13) (below1 w13 (.cells #[.int .i64 cd, .slice x13 m13 q13] 29)))
  have I13 := Lib.hid (h13.its.below (below1 w13 (.cells #[.int .i64 cd, .slice x13 m13 q13] 29)))
  have hs13 : w11.heap.size ≤ w13.heap.size := by have h1 := F12.out.size; have h2 := hb13.size; omega
  have V1 := VB.out.below (below_then D11.out F13.out)
  have zz0 := V1.lt
  have zz1 := V1.c0
  have zz2 := V1.c1
  clear h13 hb13 V1
  go_wp2_with fail
  refine (eqTreeResult_true cd x13 x3 m13 m3 q13 q3 L _ I13.out (S3.out.below (below_then D11.out F13.out))).mono ?_
  rintro e w14 ⟨rfl, hb14⟩
  have F14 := Lib.hid (below_then F13.out hb14)
  have VG14 := Lib.hid (VG11.out.below F14.out)
  clear hb14 zz0 zz1 zz2 I13 X12
  have zz3 := VG14.out.lt
  have zz4 := VG14.out.c0
  have zz5 := VG14.out.c1
  go_wp2_with fail
  refine (KH.out _ F14.out).mono ?_
  rintro e w15 ⟨rfl, hb15⟩
  have hE : (mm != mm) = false := by simp
  go_wp2
  go_ret
  exact ⟨rfl, below_then (below_then B11.out F14.out) hb15⟩
end Go.Proofs.YtppgdbejbhhjlaaGreatDoor
