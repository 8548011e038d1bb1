/- The program's hasTwice at identities and at texts, slices.Index, Contains and Clone at identities, withoutNames. -/
import Derived.Test.YtcaknhoaoodbfaaGreatDoorGC9
import Derived.Maps.AppendAt
import Derived.Deep.RegionHeld3
import Derived.BigQuiet
namespace Go.Proofs.YtcaknhoaoodbfaaGreatDoor
open Go.ChangeShapes Go.WideShapes Go.ChangeAt Go.RowKit
set_option linter.unusedVariables false

def eqId (x y : Ident) : Bool := x.cat.toList == y.cat.toList && (x.kind.toList == y.kind.toList && (x.lang.toList == y.lang.toList && x.name.toList == y.name.toList))
theorem eqlId (x y : Ident) (w : World) : (binOp .eql 54 (.agg #[.string x.cat, .string x.kind, .string x.lang, .string x.name]) (.agg #[.string y.cat, .string y.kind, .string y.lang, .string y.name])).run Tryz.prog w = .ok (.bool (eqId x y)) w := by
  have u4 := Tryz.underlying9
  have hS : Tryz.prog.underlying 54 = some (.struct (Tryz.prog.fieldsOf 54)) := by kernel_rfl
  rw [run_eql_struct, show (10000 : Nat) = 9999 + 1 from rfl, run_equalIn_agg w 9999 _ _ _ hS (by kernel_rfl)]
  simp only [Program.fieldsOf, Tryz.underlying54]
  unfold eqId
  cases h0 : (x.cat.toList == y.cat.toList) <;> cases h1 : (x.kind.toList == y.kind.toList) <;> cases h2 : (x.lang.toList == y.lang.toList) <;> cases h3 : (x.name.toList == y.name.toList) <;> go_simp

/-- the place of one, or none -/
def IdxRes (n : Nat) (f : Nat → Bool) (w : World) (e : Ending) (w' : World) : Prop :=
  ∃ r : Int, e = .returned (.int .i64 r) ∧ ((r = -1 ∧ ∀ i, i < n → f i = false) ∨ (0 ≤ r ∧ ∃ i, i < n ∧ f i = true)) ∧ Below w.heap.size w w'

set_option maxRecDepth 100000 in
set_option maxHeartbeats 1600000 in
theorem indexId_any (a : Option Addr) (n c : Nat) (l : List Ident) (x : Ident) (w : World) (h : IdsAt w a n c l) :
    Calls Tryz.prog 219 #[.slice a n c, .agg #[.string x.cat, .string x.kind, .string x.lang, .string x.name]] w (IdxRes n (fun i => eqId x (l.getD i dId)) w) := by
  have hm := h.max
  have HR := Lib.hid h.row
  have X0 := Lib.hid (IdAt.new w 54 x)
  have hq := eqlId
  unfold IdxRes
  clear h
  go_enter Tryz.func219, Tryz.ntmps219
  go_wp2
  go_loopw [8] (fun i wr => ∃ k : Nat, k ≤ n ∧ i = .int .i64 k ∧ (∀ i, i < k → eqId x (l.getD i dId) = false) ∧ ∃ m, wr = (w.alloc (.cells #[.string x.cat, .string x.kind, .string x.lang, .string x.name] 54)).drewN m) (fun i _ => n - (intOf i).toNat)
  case atStart => exact ⟨0, Nat.zero_le _, rfl, fun i hi => by omega, 0, rfl⟩
  case round =>
    obtain ⟨k, hk, rfl, hdone, nd, rfl⟩ := hrel
    have HD := Lib.hid hdone
    clear hdone
    by_cases hlt : k < n
    · rcases HR.out with e0 | ⟨b, o, rfl, hrow⟩
      · omega
      have hi := hrow k hlt
      have hbl := hi.lt
      have d0 := hi.c0
      have d1 := hi.c1
      have d2 := hi.c2
      have d3 := hi.c3
      clear hi hrow
      have HN : Hid (∀ y, l.getD k dId = y → eqId x y = false → ∀ i, i < k + 1 → eqId x (l.getD i dId) = false) := Lib.hid (fun y hy hf j hj => by
        rcases Nat.lt_or_ge j k with h1 | h1
        · exact HD.out j h1
        · obtain rfl : j = k := by omega
          rw [hy]
          exact hf)
      generalize hy : l.getD k dId = y at d0 d1 d2 d3
      have HY := Lib.hid hy
      clear hy
      obtain ⟨ys, yt, yu, yv⟩ := y
      obtain ⟨xs, xt, xu, xv⟩ := x
      dsimp only at d0 d1 d2 d3 HY HN ⊢
      have q1 : (k : Int) < (n : Int) := by omega
      have q2 : b < w.heap.size + 1 := by omega
      have hq0 := hq ⟨xs, xt, xu, xv⟩ ⟨ys, yt, yu, yv⟩
      dsimp only at hq0
      cases hc : eqId ⟨xs, xt, xu, xv⟩ ⟨ys, yt, yu, yv⟩
      · rw [hc] at hq0
        have HN2 := Lib.hid (HN.out _ HY.out hc)
        clear hq hc
        go_wp2_with fail
        go_quiet (fail)
        go_wp2
        go_roundw
        case rel => exact ⟨k + 1, by omega, by go_num, HN2.out, _, rfl⟩
        case measure => simp [intOf]; omega
      · rw [hc] at hq0
        have HC := Lib.hid hc
        clear hq hc
        go_wp2_with fail
        go_quiet (fail)
        go_wp2
        go_ret
        exact ⟨_, rfl, .inr ⟨by omega, k, hlt, by rw [HY.out]; exact HC.out⟩, below_drewN (below_drewN (below1 _ _) _) _⟩
    · obtain rfl : k = n := by omega
      go_wp2
      go_ret
      exact ⟨_, rfl, .inl ⟨rfl, HD.out⟩, below_drewN (below1 _ _) _⟩

set_option maxHeartbeats 800000 in
theorem containsId_any (a : Option Addr) (n c : Nat) (l : List Ident) (x : Ident) (w : World) (bb : Bool) (h1 : ∀ i, i < n → eqId x (l.getD i dId) = true → bb = true) (h0 : (∀ i, i < n → eqId x (l.getD i dId) = false) → bb = false) (h : IdsAt w a n c l) :
    Calls Tryz.prog 177 #[.slice a n c, .agg #[.string x.cat, .string x.kind, .string x.lang, .string x.name]] w fun en w' => en = .returned (.bool bb) ∧ Below w.heap.size w w' := by
  have K := Lib.hid (fun W (hb : Below w.heap.size w W) => indexId_any a n c l x W (h.below hb))
  have H1 := Lib.hid h1
  have H0 := Lib.hid h0
  unfold IdxRes at K
  clear h h0 h1
  obtain ⟨xs, xt, xu, xv⟩ := x
  dsimp only at K ⊢
  go_enter Tryz.func177, Tryz.ntmps177
  go_wp2_with fail
  refine (K.out _ (below1 _ _)).mono ?_
  rintro e w1 ⟨r, rfl, hr, hb1⟩
  have B1 := Lib.hid (below_then (below1 _ _) hb1)
  clear hb1
  rcases hr with ⟨rfl, hr⟩ | ⟨hr0, i, hi, hr⟩
  · have hb := H0.out hr
    subst hb
    clear hr
    go_wp2
    go_ret
    exact ⟨rfl, B1.out⟩
  · have hb := H1.out i hi hr
    subst hb
    clear hr
    go_wp2
    go_ret
    exact ⟨rfl, B1.out⟩

theorem IdsAt.take {w : World} {a : Option Addr} {n c : Nat} {l : List Ident} (h : IdsAt w a n c l) {k : Nat} (hk : k ≤ n) : IdsAt w a k c (l.take k) := by
  refine ⟨by rw [List.length_take, h.len]; omega, by have := h.max; omega, ?_⟩
  rcases h.row with e | ⟨b, o, ha, hr⟩
  · exact .inl (by omega)
  · refine .inr ⟨b, o, ha, fun i hi => ?_⟩
    have := hr i (by omega)
    rwa [show (l.take k).getD i dId = l.getD i dId by rw [List.getD_eq_getElem?_getD, List.getElem?_take, if_pos hi, ← List.getD_eq_getElem?_getD]]
theorem take_getD {l : List Ident} {k i : Nat} (hi : i < k) : (l.take k).getD i dId = l.getD i dId := by
  rw [List.getD_eq_getElem?_getD, List.getElem?_take, if_pos hi, ← List.getD_eq_getElem?_getD]

theorem held4T {w0 W W' : World} {p1 p2 p3 p4 : Addr} {v1 v2 v3 v4 : Value} (hb : Below W.heap.size W W')
    (h : Below w0.heap.size w0 W ∧ W.cell? p1 = some v1 ∧ W.cell? p2 = some v2 ∧ W.cell? p3 = some v3 ∧ W.cell? p4 = some v4) :
    Below w0.heap.size w0 W' ∧ W'.cell? p1 = some v1 ∧ W'.cell? p2 = some v2 ∧ W'.cell? p3 = some v3 ∧ W'.cell? p4 = some v4 :=
  ⟨below_then h.1 hb, (hb.cell (World.block_lt_of_cell? W _ h.2.1)).trans h.2.1, (hb.cell (World.block_lt_of_cell? W _ h.2.2.1)).trans h.2.2.1, (hb.cell (World.block_lt_of_cell? W _ h.2.2.2.1)).trans h.2.2.2.1, (hb.cell (World.block_lt_of_cell? W _ h.2.2.2.2)).trans h.2.2.2.2⟩

set_option maxRecDepth 100000 in
set_option maxHeartbeats 3200000 in
theorem hasTwiceI_any (a : Option Addr) (n c : Nat) (l : List Ident) (w : World) (bb : Bool) (hn : n ≤ c) (hcm : c ≤ maxLen) (h1 : ∀ i k, i < n → k < i → eqId (l.getD i dId) (l.getD k dId) = true → bb = true) (h0 : (∀ i, i < n → ∀ k, k < i → eqId (l.getD i dId) (l.getD k dId) = false) → bb = false) (h : IdsAt w a n c l) :
    Calls Tryz.prog 105 #[.slice a n c] w fun en w' => en = .returned (.bool bb) ∧ Below w.heap.size w w' := by
  have hm := h.max
  have HR := Lib.hid h.row
  have HA := Lib.hid h
  have H1 := Lib.hid h1
  have H0 := Lib.hid h0
  unfold maxLen at hcm
  clear h h0 h1
  go_enter Tryz.func105, Tryz.ntmps105
  go_wp2
  go_loopw [7] (fun i wr => ∃ k : Nat, k ≤ n ∧ i = .int .i64 k ∧ (∀ i, i < k → ∀ j, j < i → eqId (l.getD i dId) (l.getD j dId) = false) ∧ Below w.heap.size w wr) (fun i _ => n - (intOf i).toNat)
  case atStart => exact ⟨0, Nat.zero_le _, rfl, fun i hi => by omega, Below.refl _ _⟩
  case round =>
    obtain ⟨k, hk, rfl, hdone, hb⟩ := hrel
    have HD := Lib.hid hdone
    have HB := Lib.hid hb
    clear hdone hb
    by_cases hlt : k < n
    · rcases HR.out with e0 | ⟨b, o, rfl, hrow⟩
      · omega
      have hi := (hrow k hlt).below HB.out
      have d0 := hi.c0
      have d1 := hi.c1
      have d2 := hi.c2
      have d3 := hi.c3
      clear hi hrow
      obtain ⟨q, hq⟩ : ∃ q : Bool, (∀ j, j < k → eqId (l.getD k dId) ((l.take k).getD j dId) = true → q = true) ∧ ((∀ j, j < k → eqId (l.getD k dId) ((l.take k).getD j dId) = false) → q = false) := by
        refine ⟨(List.range k).any fun j => eqId (l.getD k dId) ((l.take k).getD j dId), fun j hj he => ?_, fun he => ?_⟩
        · rw [List.any_eq_true]
          exact ⟨j, List.mem_range.2 hj, he⟩
        · rw [List.any_eq_false]
          intro j hj
          rw [he j (List.mem_range.1 hj)]
          decide
      have HQ : Hid (∃ q' : Bool, q' = q ∧ ((q' = true → ∃ j, j < k ∧ eqId (l.getD k dId) (l.getD j dId) = true) ∧ (q' = false → ∀ j, j < k → eqId (l.getD k dId) (l.getD j dId) = false))) := Lib.hid (by
        refine ⟨q, rfl, fun e => ?_, fun e j hj => ?_⟩
        · by_cases hex : ∃ j, j < k ∧ eqId (l.getD k dId) (l.getD j dId) = true
          · exact hex
          · have := hq.2 (fun j hj => by
              rw [take_getD hj]
              cases hh : eqId (l.getD k dId) (l.getD j dId)
              · rfl
              · exact absurd ⟨j, hj, hh⟩ hex)
            rw [e] at this
            cases this
        · cases hh : eqId (l.getD k dId) (l.getD j dId)
          · rfl
          · have := hq.1 j hj (by rw [take_getD hj]; exact hh)
            rw [e] at this
            cases this)
      have K := Lib.hid (fun W (hb : Below w.heap.size w W) => containsId_any (some ⟨b, o, none⟩) k c (l.take k) (l.getD k dId) W q hq.1 hq.2 ((HA.out.take hk).below hb))
      clear hq
      generalize hx : l.getD k dId = x at d0 d1 d2 d3 K
      have HX := Lib.hid hx
      clear hx
      obtain ⟨xs, xt, xu, xv⟩ := x
      dsimp only at d0 d1 d2 d3 K
      have q1 : (k : Int) < (n : Int) := by omega
      have q2 : (k : Int) ≤ (c : Int) := by omega
      go_wp2_with fail
      have B1 := Lib.hid (HB.out.alloc HB.out.size (.cells #[.string xs, .string xt, .string xu, .string xv] 54))
      have X1 := Lib.hid (IdAt.new wr 54 ⟨xs, xt, xu, xv⟩)
      generalize hV : wr.alloc (.cells #[.string xs, .string xt, .string xu, .string xv] 54) = V at B1 X1 ⊢
      have x0 := X1.out.c0
      have x1 := X1.out.c1
      have x2 := X1.out.c2
      have x3 := X1.out.c3
      have xl := X1.out.lt
      simp only [Nat.zero_add] at x1 x2 x3
      have hS0 : Below w.heap.size w V.drew ∧ V.drew.cell? ⟨wr.heap.size, 0, none⟩ = some (.string xs) ∧ V.drew.cell? ⟨wr.heap.size, 1, none⟩ = some (.string xt) ∧ V.drew.cell? ⟨wr.heap.size, 2, none⟩ = some (.string xu) ∧ V.drew.cell? ⟨wr.heap.size, 3, none⟩ = some (.string xv) := ⟨B1.out.drew, x0, x1, x2, x3⟩
      clear hV d0 d1 d2 d3
      (go_region_held3 (fun W => Below w.heap.size w W ∧ W.cell? ⟨wr.heap.size, 0, none⟩ = some (.string xs) ∧ W.cell? ⟨wr.heap.size, 1, none⟩ = some (.string xt) ∧ W.cell? ⟨wr.heap.size, 2, none⟩ = some (.string xu) ∧ W.cell? ⟨wr.heap.size, 3, none⟩ = some (.string xv)) (first | assumption | exact held4T hbr (by assumption)) (first | (go_at_call 177; (with_reducible refine (K.out _ (And.left (by assumption))).mono ?_); rintro e w' ⟨rfl, hbr⟩)))
      have hBf : Below w.heap.size w w' := And.left (by assumption)
      have HBF := Lib.hid hBf
      clear hBf hS0 x0 x1 x2 x3 xl
      obtain ⟨q', rfl, hqt, hqf⟩ := HQ.out
      have HQT := Lib.hid hqt
      have HQF := Lib.hid hqf
      clear hqt hqf HQ K
      cases q'
      · have HDN := Lib.hid (HQF.out (by simp))
        go_wp2
        go_roundw
        case rel =>
          refine ⟨k + 1, by omega, by go_num, fun i hi j hj => ?_, HBF.out⟩
          rcases Nat.lt_or_ge i k with h1 | h1
          · exact HD.out i h1 j hj
          · obtain rfl : i = k := by omega
            exact HDN.out j hj
        case measure => simp [intOf]; omega
      · obtain ⟨j, hj, he⟩ := HQT.out (by simp)
        have hbb := H1.out k j hlt hj he
        subst hbb
        clear he
        go_wp2
        go_ret
        exact ⟨rfl, HBF.out⟩
    · obtain rfl : k = n := by omega
      have hb := H0.out HD.out
      subst hb
      go_wp2
      go_ret
      exact ⟨rfl, HB.out⟩
end Go.Proofs.YtcaknhoaoodbfaaGreatDoor
