/- The walk of FnExactCapsOf. -/
import Derived.Test.YtmmicoiiklcakaaGreatDoorGC30
import Derived.Test.YtmmicoiiklcakaaGreatDoorGC44
import Derived.Test.YtmmicoiiklcakaaGreatDoorGC45
import Derived.Test.YtmmicoiiklcakaaGreatDoorGC12
import Derived.Test.YtmmicoiiklcakaaGreatDoorGC46
import Derived.Test.YtmmicoiiklcakaaGreatDoorGC10
import Derived.Test.YtmmicoiiklcakaaGreatDoorGC3
import Derived.Deep.Slices
import Derived.ChangeSame
namespace Go.Proofs.YtmmicoiiklcakaaGreatDoor
open Go.ChangeShapes Go.WideShapes Go.ChangeAt Go.RowKit
set_option linter.unusedVariables false

set_option maxRecDepth 100000 in
set_option maxHeartbeats 6400000 in
theorem fnExactCapsOf_walk (d : Dis) (a1 : Option Addr) (n1 c1 : Nat) (a2 : Option Addr) (n2 c2 : Nat) (w : World) (hs1 : IdsSize d.ids) (hs2 : StsSize d.feats) (h : DisAt w a1 n1 c1 a2 n2 c2 d) (hT : Tabs w) :
    Calls Tryz.prog 9 #[.agg #[.slice a1 n1 c1, .slice a2 n2 c2]] w fun e w' => e = .returned (.bool true) ∧ Below w.heap.size w w' := by
  have Z1 := Lib.hid (fun left (W : World) (h0 : 0 ≤ left) (h1 : left ≤ 1048576) (hb : Below w.heap.size w W) => szDisco_any a1 a2 n1 c1 n2 c2 d left W h0 h1 hs1 hs2 (h.below hb))
  have KP := Lib.hid (fun W (hs : SmallDis d) (hb : Below w.heap.size w W) => toDisco_any a1 a2 n1 c1 n2 c2 d W hs (h.below hb))
  have KS := Lib.hid (fun x1 x2 m1 q1 m2 q2 W (hs : SmallDis d) hx => specCapsOf_any x1 x2 m1 q1 m2 q2 d W hs hx)
  have KI := Lib.hid (fun x1 x2 m1 q1 m2 q2 W (hs : SmallDis d) (hb : Below w.heap.size w W) hx hcap => implCapsOf_any x1 x2 m1 q1 m2 q2 d W hs hcap (tabs_kept hT hb) hx)
  have EP := Lib.hid (fun x1 x2 y1 y2 m1 q1 m2 q2 k1 r1 k2 r2 W hx hy => eqDisco_true x1 x2 y1 y2 m1 q1 m2 q2 k1 r1 k2 r2 d W hx hy)
  unfold DisResC at KP
  unfold TxtRes at KS KI
  generalize capsCode d = cd at KS KI
  generalize capsName d = tx at KS KI
  clear hs1 hs2 h hT
  go_enter Tryz.func9, Tryz.ntmps9
  go_wp2_with fail
  refine (Z1.out _ _ (by omega) (by omega) (below1 _ _)).mono ?_
  rintro e w1 ⟨r1, hr1, rfl, hb1⟩
  have B1 := Lib.hid (below_then (below1 _ _) hb1)
  obtain ⟨hc1, hf1⟩ := bcell hb1
  have hlt : w.heap.size < w1.heap.size := by have := hb1.size; (try simp at this); omega
  have d0 : w1.cell? ⟨w.heap.size, 0, none⟩ = some (.slice a1 n1 c1) := by rw [hc1 _ _ (by simp)]; simp
  have d1 : w1.cell? ⟨w.heap.size, 1, none⟩ = some (.slice a2 n2 c2) := by rw [hc1 _ _ (by simp)]; simp
  clear hb1 hc1 hf1 Z1
  rcases hr1 with rfl | ⟨hr0, hr1, hsm⟩
  · go_wp2
    go_ret
    exact ⟨rfl, B1.out⟩
  have HS1 := Lib.hid hsm
  have KP := Lib.hid (fun W hb => KP.out W HS1.out hb)
  have KS := Lib.hid (fun x1 x2 m1 q1 m2 q2 W hx => KS.out x1 x2 m1 q1 m2 q2 W HS1.out hx)
  have KI := Lib.hid (fun x1 x2 m1 q1 m2 q2 W hb hx hcap => KI.out x1 x2 m1 q1 m2 q2 W HS1.out hb hx hcap)
  clear hsm
  go_wp2_with fail
  refine (KP.out _ B1.out).mono ?_
  rintro e w2 ⟨y1, k1, p1, y2, k2, p2, rfl, h2, hcap2, hb2⟩
  have B2 := Lib.hid (below_then B1.out hb2)
  have X2 := Lib.hid h2
  have d0 : w2.cell? ⟨w.heap.size, 0, none⟩ = some (.slice a1 n1 c1) := (hb2.cell (p := ⟨w.heap.size, 0, none⟩) hlt).trans d0
  have d1 : w2.cell? ⟨w.heap.size, 1, none⟩ = some (.slice a2 n2 c2) := (hb2.cell (p := ⟨w.heap.size, 1, none⟩) hlt).trans d1
  have hlt : w.heap.size < w2.heap.size := Nat.lt_of_lt_of_le hlt hb2.size
  clear h2 hb2 hcap2
  have D2 := Lib.hid (And.intro d0 (And.intro d1 hlt))
  clear d0 d1 B1 hlt
  go_wp2_with fail
  refine (KS.out _ _ _ _ _ _ _ X2.out).mono ?_
  rintro e w3 ⟨rfl, hb3⟩
  have hb33 : Below w2.heap.size w2 (w3.alloc (.cells #[.int .i64 cd, .string tx] 42)) := hb3.alloc hb3.size _
  have V3 := Var2.new w3 42 cd (.string tx)
  have hz3 : w.heap.size < w3.heap.size := Nat.lt_of_lt_of_le D2.out.2.2 hb3.size
  have d0 : (w3.alloc (.cells #[.int .i64 cd, .string tx] 42)).cell? ⟨w.heap.size, 0, none⟩ = some (.slice a1 n1 c1) := (hb33.cell (p := ⟨w.heap.size, 0, none⟩) D2.out.2.2).trans D2.out.1
  have d1 : (w3.alloc (.cells #[.int .i64 cd, .string tx] 42)).cell? ⟨w.heap.size, 1, none⟩ = some (.slice a2 n2 c2) := (hb33.cell (p := ⟨w.heap.size, 1, none⟩) D2.out.2.2).trans D2.out.2.1
  have B3 := Lib.hid (below_then B2.out hb33)
  have D3 := Lib.hid (And.intro d0 d1)
  have E0 : w3.cell? ⟨w.heap.size, 0, none⟩ = some (.slice a1 n1 c1) := (hb3.cell (p := ⟨w.heap.size, 0, none⟩) D2.out.2.2).trans D2.out.1
  have E1 : w3.cell? ⟨w.heap.size, 1, none⟩ = some (.slice a2 n2 c2) := (hb3.cell (p := ⟨w.heap.size, 1, none⟩) D2.out.2.2).trans D2.out.2.1
  clear hb3 hb33 B2 X2 KS D2 d0 d1
  go_wp2_with fail
  refine (KP.out _ B3.out).mono ?_
  rintro e w4 ⟨x1, m1, q1, x2, m2, q2, rfl, h4, hcap4, hb4⟩
  clear E0 E1
  have hz4 : w3.heap.size < w4.heap.size := by have := hb4.size; (try simp at this); omega
  have B44 : Below (w3.alloc (.cells #[.int .i64 cd, .string tx] 42)).heap.size (w3.alloc (.cells #[.int .i64 cd, .string tx] 42)) (w4.alloc (.cells #[.slice x1 m1 q1, .slice x2 m2 q2] 50)) := hb4.alloc hb4.size _
  have V4 := Lib.hid (V3.below B44)
  have Y4 := Lib.hid (h4.below (below1 w4 (.cells #[.slice x1 m1 q1, .slice x2 m2 q2] 50)))
  have B4 := Lib.hid (below_then B3.out B44)
  have hs3 : w.heap.size < (w3.alloc (.cells #[.int .i64 cd, .string tx] 42)).heap.size := by (try simp); omega
  have d0 : (w4.alloc (.cells #[.slice x1 m1 q1, .slice x2 m2 q2] 50)).cell? ⟨w.heap.size, 0, none⟩ = some (.slice a1 n1 c1) := (B44.cell (p := ⟨w.heap.size, 0, none⟩) hs3).trans D3.out.1
  have d1 : (w4.alloc (.cells #[.slice x1 m1 q1, .slice x2 m2 q2] 50)).cell? ⟨w.heap.size, 1, none⟩ = some (.slice a2 n2 c2) := (B44.cell (p := ⟨w.heap.size, 1, none⟩) hs3).trans D3.out.2
  have D4 := Lib.hid (And.intro d0 d1)
  have HC4 := Lib.hid hcap4
  clear h4 hb4 hcap4 B44 B3 D3 d0 d1 hs3 V3
  go_wp2_with fail
  refine (KI.out _ _ _ _ _ _ _ B4.out Y4.out HC4.out).mono ?_
  rintro e w6 ⟨rfl, hb6⟩
  have B6 := Lib.hid (below_then B4.out hb6)
  have Y6 := Lib.hid (Y4.out.below hb6)
  have g0 : w6.cell? ⟨w4.heap.size, 0, none⟩ = some (.slice x1 m1 q1) := by rw [hb6.cell (p := ⟨w4.heap.size, 0, none⟩) (by simp)]; simp
  have g1 : w6.cell? ⟨w4.heap.size, 1, none⟩ = some (.slice x2 m2 q2) := by rw [hb6.cell (p := ⟨w4.heap.size, 1, none⟩) (by simp)]; simp
  have hl4 : w.heap.size < w4.heap.size + 1 := by omega
  have d0 : w6.cell? ⟨w.heap.size, 0, none⟩ = some (.slice a1 n1 c1) := (hb6.cell (p := ⟨w.heap.size, 0, none⟩) (by simpa using hl4)).trans D4.out.1
  have d1 : w6.cell? ⟨w.heap.size, 1, none⟩ = some (.slice a2 n2 c2) := (hb6.cell (p := ⟨w.heap.size, 1, none⟩) (by simpa using hl4)).trans D4.out.2
  have hl6 : w4.heap.size < w6.heap.size := by have := hb6.size; (try simp at this); omega
  have V6 := V4.out.below hb6
  have v0 := V6.c0
  have v1 := V6.c1
  have hlv := V6.lt
  have E6 := Lib.hid (And.intro d0 (And.intro d1 (And.intro g0 g1)))
  clear hb6 B4 Y4 V4 KI D4 V6 d0 d1 g0 g1
  go_wp2_with fail
  refine (eqTxt cd tx _).mono ?_
  rintro e w7 ⟨rfl, hb7⟩
  have hb77 := below_then (below1 w6 (.cells #[.int .i64 cd, .string tx] 42)) hb7
  have B7 := Lib.hid (below_then B6.out hb77)
  have Y7 := Lib.hid (Y6.out.below hb77)
  have d0 : w7.cell? ⟨w.heap.size, 0, none⟩ = some (.slice a1 n1 c1) := (hb77.cell (p := ⟨w.heap.size, 0, none⟩) (by show w.heap.size < w6.heap.size; omega)).trans E6.out.1
  have d1 : w7.cell? ⟨w.heap.size, 1, none⟩ = some (.slice a2 n2 c2) := (hb77.cell (p := ⟨w.heap.size, 1, none⟩) (by show w.heap.size < w6.heap.size; omega)).trans E6.out.2.1
  have g0 : w7.cell? ⟨w4.heap.size, 0, none⟩ = some (.slice x1 m1 q1) := (hb77.cell (p := ⟨w4.heap.size, 0, none⟩) (by show w4.heap.size < w6.heap.size; omega)).trans E6.out.2.2.1
  have g1 : w7.cell? ⟨w4.heap.size, 1, none⟩ = some (.slice x2 m2 q2) := (hb77.cell (p := ⟨w4.heap.size, 1, none⟩) (by show w4.heap.size < w6.heap.size; omega)).trans E6.out.2.2.2
  have hl7 : w4.heap.size < w7.heap.size := Nat.lt_of_lt_of_le hl6 hb77.size
  clear hb7 hb77 B6 Y6 E6 v0 v1
  go_wp2_with fail
  have hS0 : Below w7.heap.size w7 w7.drew ∧ w7.drew.cell? ⟨w.heap.size, 0, none⟩ = some (.slice a1 n1 c1) ∧ w7.drew.cell? ⟨w.heap.size, 1, none⟩ = some (.slice a2 n2 c2) ∧ w7.drew.cell? ⟨w4.heap.size, 0, none⟩ = some (.slice x1 m1 q1) ∧ w7.drew.cell? ⟨w4.heap.size, 1, none⟩ = some (.slice x2 m2 q2) := ⟨(Below.refl _ _).drew, d0, d1, g0, g1⟩
  first | (go_region_held3 (fun W => Below w7.heap.size w7 W ∧ W.cell? ⟨w.heap.size, 0, none⟩ = some (.slice a1 n1 c1) ∧ W.cell? ⟨w.heap.size, 1, none⟩ = some (.slice a2 n2 c2) ∧ W.cell? ⟨w4.heap.size, 0, none⟩ = some (.slice x1 m1 q1) ∧ W.cell? ⟨w4.heap.size, 1, none⟩ = some (.slice x2 m2 q2)) (first | assumption | exact held4d hbr (by assumption))
    (first
      | (go_at_call 67; refine (KP.out _ ?_).mono ?_; exact below_then B7.out (And.left (by assumption)); rintro e wx ⟨z1, j1, l1, z2, j2, l2, rfl, hx, hxc, hbr⟩)
      | (go_at_call 69; refine (EP.out _ _ _ _ _ _ _ _ _ _ _ _ _ (Y7.out.below (And.left (by assumption))) hx).mono ?_; rintro e wz ⟨rfl, hbr⟩))) | fail
  have hB8 : Below w7.heap.size w7 wz := And.left (by assumption)
  go_wp2
  go_ret
  exact ⟨rfl, below_then B7.out hB8⟩
end Go.Proofs.YtmmicoiiklcakaaGreatDoor

/- An identity that came in. -/
namespace Go.Proofs.YtmmicoiiklcakaaGreatDoor
open Go.ChangeShapes Go.WideShapes Go.ChangeAt Go.RowKit Go.Deep
set_option linter.unusedVariables false

theorem cellsSt : Tryz.prog.cellsOf 9 = 1 := by kernel_rfl
theorem cellsIdent : Tryz.prog.cellsOf 250 = 4 := by kernel_rfl
section
variable {H : Type} {enc : TypeId × Value → H} {w : World} {base : Nat} {spare : Nat → Bool} {held : Bool}

set_option maxRecDepth 100000 in
/-- the cells of an identity that came in -/
theorem id_open {n : Nat} {cs : List Value} {x : DataW H × List MemPlace} (hl : cs.length = 4) (h : DataW.trod enc Tryz.prog w base spare held n 250 cs = some x) :
    ∃ p : Ident, cs = [.string p.cat, .string p.kind, .string p.lang, .string p.name] ∧ IdSize p := by
  obtain ⟨xs, m, _, _, _, hxl, hf⟩ := DataW.trod_struct Tryz.underlying250 h
  match cs, hl with
  | [c0, c1, c2, c3], _ =>
    match xs, hxl with
    | [y0, y1, y2, y3], _ =>
      obtain ⟨fd0, hfd, hty, hof⟩ : ∃ f, (Tryz.prog.fieldsOf 250)[0]? = some f ∧ f.type = 9 ∧ f.offset = 0 := ⟨_, rfl, rfl, rfl⟩
      have f0 := hf 0 _ hfd
      rw [hty, hof] at f0
      clear hfd hty hof
      obtain ⟨fd1, hfd, hty, hof⟩ : ∃ f, (Tryz.prog.fieldsOf 250)[1]? = some f ∧ f.type = 9 ∧ f.offset = 1 := ⟨_, rfl, rfl, rfl⟩
      have f1 := hf 1 _ hfd
      rw [hty, hof] at f1
      clear hfd hty hof
      obtain ⟨fd2, hfd, hty, hof⟩ : ∃ f, (Tryz.prog.fieldsOf 250)[2]? = some f ∧ f.type = 9 ∧ f.offset = 2 := ⟨_, rfl, rfl, rfl⟩
      have f2 := hf 2 _ hfd
      rw [hty, hof] at f2
      clear hfd hty hof
      obtain ⟨fd3, hfd, hty, hof⟩ : ∃ f, (Tryz.prog.fieldsOf 250)[3]? = some f ∧ f.type = 9 ∧ f.offset = 3 := ⟨_, rfl, rfl, rfl⟩
      have f3 := hf 3 _ hfd
      rw [hty, hof] at f3
      clear hfd hty hof
      simp only [cellsSt, List.drop_zero, List.take_succ_cons, List.take_zero, List.drop_succ_cons, List.getElem?_cons_zero, List.getElem?_cons_succ] at f0 f1 f2 f3
      obtain ⟨d0, hd0, _, z0⟩ := DataW.trod_string Tryz.underlying9 f0
      obtain rfl : c0 = .string d0 := by simpa using hd0
      obtain ⟨d1, hd1, _, z1⟩ := DataW.trod_string Tryz.underlying9 f1
      obtain rfl : c1 = .string d1 := by simpa using hd1
      obtain ⟨d2, hd2, _, z2⟩ := DataW.trod_string Tryz.underlying9 f2
      obtain rfl : c2 = .string d2 := by simpa using hd2
      obtain ⟨d3, hd3, _, z3⟩ := DataW.trod_string Tryz.underlying9 f3
      obtain rfl : c3 = .string d3 := by simpa using hd3
      unfold maxLen at z0 z1 z2 z3
      exact ⟨⟨d0, d1, d2, d3⟩, rfl, by show d0.size ≤ _; omega, by show d1.size ≤ _; omega, by show d2.size ≤ _; omega, by show d3.size ≤ _; omega⟩
end
end Go.Proofs.YtmmicoiiklcakaaGreatDoor

/- A disco that came in. -/
namespace Go.Proofs.YtmmicoiiklcakaaGreatDoor
open Go.ChangeShapes Go.WideShapes Go.ChangeAt Go.RowKit Go.Deep
set_option linter.unusedVariables false

instance : Inhabited Ident := ⟨dId⟩
theorem cellsIds : Tryz.prog.cellsOf 69 = 1 := by kernel_rfl
theorem cellsSts : Tryz.prog.cellsOf 48 = 1 := by kernel_rfl
theorem cellsDis : Tryz.prog.cellsOf 71 = 2 := by kernel_rfl
section
variable {H : Type} {enc : TypeId × Value → H} {w : World} {base : Nat} {spare : Nat → Bool} {held : Bool}

set_option maxRecDepth 100000 in
theorem id_at {n : Nat} {cs : List Value} {x : DataW H × List MemPlace} {b o : Nat} (hc : w.cells? base ⟨b, o, none⟩ 4 = some cs) (h : DataW.trod enc Tryz.prog w base spare held n 250 cs = some x) :
    ∃ y : Ident, IdSize y ∧ IdAt w b o y := by
  obtain ⟨_, hl, hcell⟩ := World.cells?_some hc
  obtain ⟨y, rfl, hs⟩ := id_open hl h
  have g0 : w.cell? ⟨b, o, none⟩ = some (.string y.cat) := by simpa [Addr.add] using hcell 0 (by omega)
  have g1 : w.cell? ⟨b, o + 1, none⟩ = some (.string y.kind) := by simpa [Addr.add] using hcell 1 (by omega)
  have g2 : w.cell? ⟨b, o + 2, none⟩ = some (.string y.lang) := by simpa [Addr.add] using hcell 2 (by omega)
  have g3 : w.cell? ⟨b, o + 3, none⟩ = some (.string y.name) := by simpa [Addr.add] using hcell 3 (by omega)
  exact ⟨y, hs, World.block_lt_of_cell? w _ g0, g0, g1, g2, g3⟩

set_option maxRecDepth 100000 in
theorem ids_open {n : Nat} {v : Value} {x : DataW H × List MemPlace} (h : DataW.trod enc Tryz.prog w base spare held n 69 [v] = some x) :
    ∃ a n c l, v = .slice a n c ∧ IdsSize l ∧ IdsAt w a n c l := by
  rcases open_slice Tryz.underlying69 h with ⟨hcs, _⟩ | ⟨a', k, c, m, n', D, Pl, hcs, hb, hl, hm, hmm, hx, hi⟩
  · obtain rfl : v = .slice none 0 0 := by simpa using hcs
    exact ⟨none, 0, 0, [], rfl, fun i => by simp [IdSize, dId], rfl, by omega, .inl rfl⟩
  · obtain rfl : v = .slice (some a') k c := by simpa using hcs
    unfold maxLen at hm
    have hlm : k ≤ m := by rw [hmm]; split <;> omega
    by_cases h0 : k = 0
    · subst h0
      exact ⟨_, _, _, [], rfl, fun i => by simp [IdSize, dId], rfl, by omega, .inl rfl⟩
    · obtain ⟨b, o, s⟩ := a'
      obtain ⟨cs0, h1, _⟩ := hi 0 (by omega)
      rw [cellsIdent] at h1
      obtain ⟨_, _, hcell⟩ := World.cells?_some h1
      have hc := hcell 0 (by omega)
      rw [show ((Addr.mk b o s).add (0 * 4)).add 0 = ⟨b, o, s⟩ by simp [Addr.add]] at hc
      have hs : s = none := by
        have hl0 := (World.cells?_some h1).2.1
        rw [List.getElem?_eq_getElem (by omega)] at hc
        simpa using World.cell?_spot hc
      subst hs
      obtain ⟨f, hf⟩ := choose_lt (n := k) (p := fun i (y : Ident) => IdSize y ∧ IdAt w b (o + i * 4) y) fun i hi2 => by
        obtain ⟨cs', h1, h2⟩ := hi i (by omega)
        rw [cellsIdent, Addr.add_lit] at h1
        exact id_at h1 h2
      have hg : ∀ i, i < k → ((List.range k).map f).getD i dId = f i := fun i hi => by simp [List.getD_eq_getElem?_getD, hi]
      refine ⟨_, _, _, (List.range k).map f, rfl, fun i => ?_, by simp, by omega, .inr ⟨b, o, rfl, fun i hi2 => by rw [hg i hi2]; exact (hf i hi2).2⟩⟩
      by_cases hi2 : i < k
      · rw [hg i hi2]; exact (hf i hi2).1
      · rw [List.getD_eq_getElem?_getD, List.getElem?_eq_none (by simp; omega)]; simp [IdSize, dId]

set_option maxRecDepth 100000 in
theorem sts_open {n : Nat} {v : Value} {x : DataW H × List MemPlace} (h : DataW.trod enc Tryz.prog w base spare held n 48 [v] = some x) :
    ∃ a n c l, v = .slice a n c ∧ StsSize l ∧ StsAt w a n c l := by
  rcases open_slice Tryz.underlying48 h with ⟨hcs, _⟩ | ⟨a', k, c, m, n', D, Pl, hcs, hb, hl, hm, hmm, hx, hi⟩
  · obtain rfl : v = .slice none 0 0 := by simpa using hcs
    exact ⟨none, 0, 0, [], rfl, fun i => by simp, rfl, by omega, .inl rfl⟩
  · obtain rfl : v = .slice (some a') k c := by simpa using hcs
    unfold maxLen at hm
    have hlm : k ≤ m := by rw [hmm]; split <;> omega
    obtain ⟨f, hf⟩ := choose_lt (n := k) (p := fun i (y : ByteArray) => y.size ≤ 9223372036854775807 ∧ w.cell? (a'.add i) = some (.string y)) fun i hi2 => by
      obtain ⟨cs', h1, h2⟩ := hi i (by omega)
      rw [cellsSt, Nat.mul_one] at h1
      obtain ⟨_, hl1, hcell⟩ := World.cells?_some h1
      obtain ⟨t, ht, _, z⟩ := DataW.trod_string Tryz.underlying9 h2
      unfold maxLen at z
      subst ht
      exact ⟨t, by omega, by simpa [Addr.add] using hcell 0 (by omega)⟩
    have hg : ∀ i, i < k → ((List.range k).map f).getD i ByteArray.empty = f i := fun i hi => by simp [List.getD_eq_getElem?_getD, hi]
    refine ⟨_, _, _, (List.range k).map f, rfl, fun i => ?_, by simp, by omega, ?_⟩
    · by_cases hi2 : i < k
      · rw [hg i hi2]; exact (hf i hi2).1
      · rw [List.getD_eq_getElem?_getD, List.getElem?_eq_none (by simp; omega)]; simp
    · by_cases h0 : k = 0
      · exact .inl h0
      · obtain ⟨b, o, s⟩ := a'
        have hc := (hf 0 (by omega)).2
        have hs : s = none := by simpa [Addr.add] using World.cell?_spot hc
        subst hs
        refine .inr ⟨b, o, rfl, by simpa [Addr.add] using World.block_lt_of_cell? w _ hc, fun i hi2 => ?_⟩
        have := (hf i hi2).2
        rw [Addr.add_lit] at this
        rw [hg i hi2]
        exact this

set_option maxRecDepth 100000 in
/-- the cells of a disco that came in -/
theorem dis_open {n : Nat} {cs : List Value} {x : DataW H × List MemPlace} (hl : cs.length = 2) (h : DataW.trod enc Tryz.prog w base spare held n 71 cs = some x) :
    ∃ (d : Dis) (a1 : Option Addr) (n1 c1 : Nat) (a2 : Option Addr) (n2 c2 : Nat), cs = [.slice a1 n1 c1, .slice a2 n2 c2] ∧ IdsSize d.ids ∧ StsSize d.feats ∧ DisAt w a1 n1 c1 a2 n2 c2 d := by
  obtain ⟨xs, m, _, _, _, hxl, hf⟩ := DataW.trod_struct Tryz.underlying71 h
  match cs, hl with
  | [c0, c1], _ =>
    match xs, hxl with
    | [y0, y1], _ =>
      obtain ⟨fd0, hfd, hty, hof⟩ : ∃ f, (Tryz.prog.fieldsOf 71)[0]? = some f ∧ f.type = 69 ∧ f.offset = 0 := ⟨_, rfl, rfl, rfl⟩
      have f0 := hf 0 _ hfd
      rw [hty, hof] at f0
      clear hfd hty hof
      obtain ⟨fd1, hfd, hty, hof⟩ : ∃ f, (Tryz.prog.fieldsOf 71)[1]? = some f ∧ f.type = 48 ∧ f.offset = 1 := ⟨_, rfl, rfl, rfl⟩
      have f1 := hf 1 _ hfd
      rw [hty, hof] at f1
      clear hfd hty hof
      simp only [cellsIds, cellsSts, List.drop_zero, List.take_succ_cons, List.take_zero, List.drop_succ_cons, List.getElem?_cons_zero, List.getElem?_cons_succ] at f0 f1
      obtain ⟨a1, n1, k1, l1, rfl, hz1, h1⟩ := ids_open f0
      obtain ⟨a2, n2, k2, l2, rfl, hz2, h2⟩ := sts_open f1
      exact ⟨⟨l1, l2⟩, _, _, _, _, _, _, rfl, hz1, hz2, h1, h2⟩
end
end Go.Proofs.YtmmicoiiklcakaaGreatDoor
