/- The walk of FnExactCapsString. -/
import Derived.Test.YtmmicoiiklcakaaDoorGK13
import Derived.Test.YtmmicoiiklcakaaDoorGK24
import Derived.Test.YtmmicoiiklcakaaDoorGK25
import Derived.Test.YtmmicoiiklcakaaDoorGK12
import Derived.Test.YtmmicoiiklcakaaDoorGK9
namespace Go.Proofs.YtmmicoiiklcakaaDoor
open Go.ChangeShapes Go.WideShapes Go.ChangeAt Go.RowKit
set_option linter.unusedVariables false

set_option maxRecDepth 100000 in
set_option maxHeartbeats 6400000 in
theorem fnExactCapsString_walk (d : Dis) (a1 : Option Addr) (n1 c1 : Nat) (a2 : Option Addr) (n2 c2 : Nat) (w : World) (hs1 : IdsSize d.ids) (hs2 : StsSize d.feats) (h : DisAt w a1 n1 c1 a2 n2 c2 d) (hT : Tabs w) :
    Calls Tryd.prog 3 #[.agg #[.slice a1 n1 c1, .slice a2 n2 c2]] w fun e w' => e = .returned (.bool true) ∧ Below w.heap.size w w' := by
  have Z1 := Lib.hid (fun left (W : World) (h0 : 0 ≤ left) (h1 : left ≤ 1048576) (hb : Below w.heap.size w W) => szDisco_any a1 a2 n1 c1 n2 c2 d left W h0 h1 hs1 hs2 (h.below hb))
  have KP := Lib.hid (fun W (hs : SmallDis d) (hb : Below w.heap.size w W) => toDisco_any a1 a2 n1 c1 n2 c2 d W hs (h.below hb))
  have KS := Lib.hid (fun x1 x2 m1 q1 m2 q2 W (hs : SmallDis d) hx => specCapsString_any x1 x2 m1 q1 m2 q2 d W hs hx)
  have KI := Lib.hid (fun x1 x2 m1 q1 m2 q2 W (hs : SmallDis d) (hb : Below w.heap.size w W) hx hcap => implCapsString_any x1 x2 m1 q1 m2 q2 d W hs hcap (tabs_kept hT hb) hx)
  have EP := Lib.hid (fun x1 x2 y1 y2 m1 q1 m2 q2 k1 r1 k2 r2 W hx hy => eqDisco_true x1 x2 y1 y2 m1 q1 m2 q2 k1 r1 k2 r2 d W hx hy)
  unfold DisResC at KP
  unfold TxtRes at KS KI
  generalize capsCode d = cd at KS KI
  generalize capsText d = tx at KS KI
  clear hs1 hs2 h hT
  go_enter Tryd.func3, Tryd.ntmps3
  go_wp2_with fail
  refine (Z1.out _ _ (by omega) (by omega) (below1 _ _)).mono ?_
  rintro e w1 ⟨r1, hr1, rfl, hb1⟩
  have B1 := Lib.hid (below_then (below1 _ _) hb1)
  obtain ⟨hc1, hf1⟩ := bcell hb1
  have hlt : w.heap.size < w1.heap.size := by have := hb1.size; (try simp at this); omega
  have d0 : w1.cell? ⟨w.heap.size, 0, none⟩ = some (.slice a1 n1 c1) := by rw [hc1 _ _ (by simp)]; simp
  have d1 : w1.cell? ⟨w.heap.size, 1, none⟩ = some (.slice a2 n2 c2) := by rw [hc1 _ _ (by simp)]; simp
  clear hb1 hc1 hf1 Z1
  rcases hr1 with rfl | ⟨hr0, hr1, hsm⟩
  · go_wp2
    go_ret
    exact ⟨rfl, B1.out⟩
  have HS1 := Lib.hid hsm
  have KP := Lib.hid (fun W hb => KP.out W HS1.out hb)
  have KS := Lib.hid (fun x1 x2 m1 q1 m2 q2 W hx => KS.out x1 x2 m1 q1 m2 q2 W HS1.out hx)
  have KI := Lib.hid (fun x1 x2 m1 q1 m2 q2 W hb hx hcap => KI.out x1 x2 m1 q1 m2 q2 W HS1.out hb hx hcap)
  clear hsm
  go_wp2_with fail
  refine (KP.out _ B1.out).mono ?_
  rintro e w2 ⟨y1, k1, p1, y2, k2, p2, rfl, h2, hcap2, hb2⟩
  have B2 := Lib.hid (below_then B1.out hb2)
  have X2 := Lib.hid h2
  have d0 : w2.cell? ⟨w.heap.size, 0, none⟩ = some (.slice a1 n1 c1) := (hb2.cell (p := ⟨w.heap.size, 0, none⟩) hlt).trans d0
  have d1 : w2.cell? ⟨w.heap.size, 1, none⟩ = some (.slice a2 n2 c2) := (hb2.cell (p := ⟨w.heap.size, 1, none⟩) hlt).trans d1
  have hlt : w.heap.size < w2.heap.size := Nat.lt_of_lt_of_le hlt hb2.size
  clear h2 hb2 hcap2
  have D2 := Lib.hid (And.intro d0 (And.intro d1 hlt))
  clear d0 d1 B1 hlt
  go_wp2_with fail
  refine (KS.out _ _ _ _ _ _ _ X2.out).mono ?_
  rintro e w3 ⟨rfl, hb3⟩
  have hb33 : Below w2.heap.size w2 (w3.alloc (.cells #[.int .i64 cd, .string tx] 28)) := hb3.alloc hb3.size _
  have V3 := Var2.new w3 28 cd (.string tx)
  have hz3 : w.heap.size < w3.heap.size := Nat.lt_of_lt_of_le D2.out.2.2 hb3.size
  have d0 : (w3.alloc (.cells #[.int .i64 cd, .string tx] 28)).cell? ⟨w.heap.size, 0, none⟩ = some (.slice a1 n1 c1) := (hb33.cell (p := ⟨w.heap.size, 0, none⟩) D2.out.2.2).trans D2.out.1
  have d1 : (w3.alloc (.cells #[.int .i64 cd, .string tx] 28)).cell? ⟨w.heap.size, 1, none⟩ = some (.slice a2 n2 c2) := (hb33.cell (p := ⟨w.heap.size, 1, none⟩) D2.out.2.2).trans D2.out.2.1
  have B3 := Lib.hid (below_then B2.out hb33)
  have D3 := Lib.hid (And.intro d0 d1)
  have E0 : w3.cell? ⟨w.heap.size, 0, none⟩ = some (.slice a1 n1 c1) := (hb3.cell (p := ⟨w.heap.size, 0, none⟩) D2.out.2.2).trans D2.out.1
  have E1 : w3.cell? ⟨w.heap.size, 1, none⟩ = some (.slice a2 n2 c2) := (hb3.cell (p := ⟨w.heap.size, 1, none⟩) D2.out.2.2).trans D2.out.2.1
  clear hb3 hb33 B2 X2 KS D2 d0 d1
  go_wp2_with fail
  refine (KP.out _ B3.out).mono ?_
  rintro e w4 ⟨x1, m1, q1, x2, m2, q2, rfl, h4, hcap4, hb4⟩
  clear E0 E1
  have hz4 : w3.heap.size < w4.heap.size := by have := hb4.size; (try simp at this); omega
  have B44 : Below (w3.alloc (.cells #[.int .i64 cd, .string tx] 28)).heap.size (w3.alloc (.cells #[.int .i64 cd, .string tx] 28)) (w4.alloc (.cells #[.slice x1 m1 q1, .slice x2 m2 q2] 32)) := hb4.alloc hb4.size _
  have V4 := Lib.hid (V3.below B44)
  have Y4 := Lib.hid (h4.below (below1 w4 (.cells #[.slice x1 m1 q1, .slice x2 m2 q2] 32)))
  have B4 := Lib.hid (below_then B3.out B44)
  have hs3 : w.heap.size < (w3.alloc (.cells #[.int .i64 cd, .string tx] 28)).heap.size := by (try simp); omega
  have d0 : (w4.alloc (.cells #[.slice x1 m1 q1, .slice x2 m2 q2] 32)).cell? ⟨w.heap.size, 0, none⟩ = some (.slice a1 n1 c1) := (B44.cell (p := ⟨w.heap.size, 0, none⟩) hs3).trans D3.out.1
  have d1 : (w4.alloc (.cells #[.slice x1 m1 q1, .slice x2 m2 q2] 32)).cell? ⟨w.heap.size, 1, none⟩ = some (.slice a2 n2 c2) := (B44.cell (p := ⟨w.heap.size, 1, none⟩) hs3).trans D3.out.2
  have D4 := Lib.hid (And.intro d0 d1)
  have HC4 := Lib.hid hcap4
  clear h4 hb4 hcap4 B44 B3 D3 d0 d1 hs3 V3
  go_wp2_with fail
  refine (KI.out _ _ _ _ _ _ _ B4.out Y4.out HC4.out).mono ?_
  rintro e w6 ⟨rfl, hb6⟩
  have B6 := Lib.hid (below_then B4.out hb6)
  have Y6 := Lib.hid (Y4.out.below hb6)
  have g0 : w6.cell? ⟨w4.heap.size, 0, none⟩ = some (.slice x1 m1 q1) := by rw [hb6.cell (p := ⟨w4.heap.size, 0, none⟩) (by simp)]; simp
  have g1 : w6.cell? ⟨w4.heap.size, 1, none⟩ = some (.slice x2 m2 q2) := by rw [hb6.cell (p := ⟨w4.heap.size, 1, none⟩) (by simp)]; simp
  have hl4 : w.heap.size < w4.heap.size + 1 := by omega
  have d0 : w6.cell? ⟨w.heap.size, 0, none⟩ = some (.slice a1 n1 c1) := (hb6.cell (p := ⟨w.heap.size, 0, none⟩) (by simpa using hl4)).trans D4.out.1
  have d1 : w6.cell? ⟨w.heap.size, 1, none⟩ = some (.slice a2 n2 c2) := (hb6.cell (p := ⟨w.heap.size, 1, none⟩) (by simpa using hl4)).trans D4.out.2
  have hl6 : w4.heap.size < w6.heap.size := by have := hb6.size; (try simp at this); omega
  have V6 := V4.out.below hb6
  have v0 := V6.c0
  have v1 := V6.c1
  have hlv := V6.lt
  have E6 := Lib.hid (And.intro d0 (And.intro d1 (And.intro g0 g1)))
  clear hb6 B4 Y4 V4 KI D4 V6 d0 d1 g0 g1
  go_wp2_with fail
  refine (eqTxt cd tx _).mono ?_
  rintro e w7 ⟨rfl, hb7⟩
  have hb77 := below_then (below1 w6 (.cells #[.int .i64 cd, .string tx] 28)) hb7
  have B7 := Lib.hid (below_then B6.out hb77)
  have Y7 := Lib.hid (Y6.out.below hb77)
  have d0 : w7.cell? ⟨w.heap.size, 0, none⟩ = some (.slice a1 n1 c1) := (hb77.cell (p := ⟨w.heap.size, 0, none⟩) (by show w.heap.size < w6.heap.size; omega)).trans E6.out.1
  have d1 : w7.cell? ⟨w.heap.size, 1, none⟩ = some (.slice a2 n2 c2) := (hb77.cell (p := ⟨w.heap.size, 1, none⟩) (by show w.heap.size < w6.heap.size; omega)).trans E6.out.2.1
  have g0 : w7.cell? ⟨w4.heap.size, 0, none⟩ = some (.slice x1 m1 q1) := (hb77.cell (p := ⟨w4.heap.size, 0, none⟩) (by show w4.heap.size < w6.heap.size; omega)).trans E6.out.2.2.1
  have g1 : w7.cell? ⟨w4.heap.size, 1, none⟩ = some (.slice x2 m2 q2) := (hb77.cell (p := ⟨w4.heap.size, 1, none⟩) (by show w4.heap.size < w6.heap.size; omega)).trans E6.out.2.2.2
  have hl7 : w4.heap.size < w7.heap.size := Nat.lt_of_lt_of_le hl6 hb77.size
  clear hb7 hb77 B6 Y6 E6 v0 v1
  go_wp2_with fail
  have hS0 : Below w7.heap.size w7 w7.drew ∧ w7.drew.cell? ⟨w.heap.size, 0, none⟩ = some (.slice a1 n1 c1) ∧ w7.drew.cell? ⟨w.heap.size, 1, none⟩ = some (.slice a2 n2 c2) ∧ w7.drew.cell? ⟨w4.heap.size, 0, none⟩ = some (.slice x1 m1 q1) ∧ w7.drew.cell? ⟨w4.heap.size, 1, none⟩ = some (.slice x2 m2 q2) := ⟨(Below.refl _ _).drew, d0, d1, g0, g1⟩
  first | (go_region_held3 (fun W => Below w7.heap.size w7 W ∧ W.cell? ⟨w.heap.size, 0, none⟩ = some (.slice a1 n1 c1) ∧ W.cell? ⟨w.heap.size, 1, none⟩ = some (.slice a2 n2 c2) ∧ W.cell? ⟨w4.heap.size, 0, none⟩ = some (.slice x1 m1 q1) ∧ W.cell? ⟨w4.heap.size, 1, none⟩ = some (.slice x2 m2 q2)) (first | assumption | exact held4d hbr (by assumption))
    (first
      | (go_at_call 6; refine (KP.out _ ?_).mono ?_; exact below_then B7.out (And.left (by assumption)); rintro e wx ⟨z1, j1, l1, z2, j2, l2, rfl, hx, hxc, hbr⟩)
      | (go_at_call 9; refine (EP.out _ _ _ _ _ _ _ _ _ _ _ _ _ (Y7.out.below (And.left (by assumption))) hx).mono ?_; rintro e wz ⟨rfl, hbr⟩))) | fail
  have hB8 : Below w7.heap.size w7 wz := And.left (by assumption)
  go_wp2
  go_ret
  exact ⟨rfl, below_then B7.out hB8⟩
end Go.Proofs.YtmmicoiiklcakaaDoor
