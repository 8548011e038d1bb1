/- impl.isField, impl.isFilledField, impl.hasFields. -/
import Derived.Test.YtmmicoiiklcakaaDoorGK4
import Derived.Test.YtmmicoiiklcakaaDoorGK18
import Derived.Lib.IndexAny
import Derived.Maps.AppendAt
import Derived.Deep.RegionHeld3
import Derived.BigQuiet
namespace Go.Proofs.YtmmicoiiklcakaaDoor
open Go.ChangeShapes Go.WideShapes Go.ChangeAt Go.RowKit Go.Shelf
set_option linter.unusedVariables false

theorem hasB_index (s : ByteArray) (c : UInt8) : decide (0 ≤ Lib.indexByte s.data.toList c) = hasB (c.toNat : Int) s := by
  rw [← Lib.contains_iff_indexByte, List.contains_eq_any_beq]
  unfold hasB
  congr 1
  funext x
  rw [Bool.eq_iff_iff, beq_iff_eq, beq_iff_eq]
  constructor
  · rintro rfl; rfl
  · intro h
    exact (UInt8.toNat_inj.1 (by omega)).symm
theorem implContains_any (s : ByteArray) (c : UInt8) (cc : Int) (hc : (c.toNat : Int) = cc) (w : World) :
    Calls Tryd.prog 43 #[.string s, .string ⟨#[c]⟩] w fun e w' => e = .returned (.bool (hasB cc s)) ∧ w' = w := by
  refine (Tryd.strings_Contains_one s c w).mono ?_
  rintro e w' ⟨rfl, rfl⟩
  exact ⟨ret_bool (by rw [hasB_index, hc]), rfl⟩

set_option maxHeartbeats 800000 in
theorem isField_any (s : ByteArray) (w : World) (hs : s.size ≤ maxLen) (hT : Tabs w) :
    Calls Tryd.prog 42 #[.string s] w fun en w' => en = .returned (.bool (fldB s)) ∧ Below w.heap.size w w' := by
  have KT := Lib.hid (implTextFault_any s hs w hT)
  have K6 := Lib.hid (fun W => implContains_any s 60 60 rfl W)
  unfold fldB
  generalize textFault s.data.toList = tf at KT ⊢
  generalize hasB 60 s = b6 at K6 ⊢
  obtain ⟨q, hq⟩ : ∃ q, (tf == 0) = q := ⟨_, rfl⟩
  rw [hq]
  clear hs hT
  cases q
  · go_enter Tryd.func42, Tryd.ntmps42
    go_wp2_with fail
    refine KT.out.mono ?_
    rintro en w1 ⟨rfl, hb1⟩
    have B1 := Lib.hid hb1
    clear hb1
    go_wp2
    go_ret
    exact ⟨ret_bool (by simp), B1.out⟩
  · go_enter Tryd.func42, Tryd.ntmps42
    go_wp2_with fail
    refine KT.out.mono ?_
    rintro en w1 ⟨rfl, hb1⟩
    have B1 := Lib.hid hb1
    clear hb1
    go_wp2_with fail
    refine (K6.out _).mono ?_
    rintro en w2 ⟨rfl, rfl⟩
    go_wp2
    go_ret
    exact ⟨ret_bool (by simp), B1.out⟩

set_option maxHeartbeats 800000 in
theorem isFilledField_any (s : ByteArray) (w : World) (hs : s.size ≤ maxLen) (hT : Tabs w) :
    Calls Tryd.prog 29 #[.string s] w fun en w' => en = .returned (.bool (fillB s)) ∧ Below w.heap.size w w' := by
  have KT := Lib.hid (isField_any s w hs hT)
  unfold fillB
  generalize fldB s = b6 at KT ⊢
  obtain ⟨em, hem⟩ : ∃ em, s.toList.isEmpty = em := ⟨_, rfl⟩
  rw [hem]
  clear hs hT
  cases em
  · go_enter Tryd.func29, Tryd.ntmps29
    go_wp2_with fail
    refine KT.out.mono ?_
    rintro en w1 ⟨rfl, hb1⟩
    have B1 := Lib.hid hb1
    clear hb1
    go_wp2
    go_ret
    exact ⟨ret_bool (by simp), B1.out⟩
  · go_enter Tryd.func29, Tryd.ntmps29
    go_wp2
    go_ret
    exact ⟨ret_bool (by simp), Below.refl _ _⟩

set_option maxRecDepth 100000 in
set_option maxHeartbeats 3200000 in
theorem hasFields_any (x : Ident) (w : World) (hs : SmallId x) (hT : Tabs w) :
    Calls Tryd.prog 28 #[.agg #[.string x.cat, .string x.kind, .string x.lang, .string x.name]] w fun en w' => en = .returned (.bool (identB x)) ∧ Below w.heap.size w w' := by
  have K1 := Lib.hid (fun W (hb : Below w.heap.size w W) => isFilledField_any x.cat W (by have := hs.1; unfold maxLen; omega) (tabs_kept hT hb))
  have K2 := Lib.hid (fun W (hb : Below w.heap.size w W) => isFilledField_any x.kind W (by have := hs.2.1; unfold maxLen; omega) (tabs_kept hT hb))
  have K3 := Lib.hid (fun W (hb : Below w.heap.size w W) => isField_any x.lang W (by have := hs.2.2.1; unfold maxLen; omega) (tabs_kept hT hb))
  have K4 := Lib.hid (fun W (hb : Below w.heap.size w W) => isField_any x.name W (by have := hs.2.2.2; unfold maxLen; omega) (tabs_kept hT hb))
  have K5 := Lib.hid (fun W => implContains_any (x.cat ++ x.kind ++ x.lang) 47 47 rfl W)
  rw [← identB_eq]
  unfold identB'
  obtain ⟨h1, h2, h3, h4⟩ := hs
  obtain ⟨s, t, u, v⟩ := x
  dsimp only at K1 K2 K3 K4 K5 h1 h2 h3 h4 ⊢
  generalize fillB s = b1 at K1 ⊢
  generalize fillB t = b2 at K2 ⊢
  generalize fldB u = b3 at K3 ⊢
  generalize fldB v = b4 at K4 ⊢
  generalize hasB 47 (s ++ t ++ u) = b5 at K5 ⊢
  clear hT
  have X := IdAt.new w 46 ⟨s, t, u, v⟩
  have X0 := Lib.hid X
  clear X
  go_enter Tryd.func28, Tryd.ntmps28
  go_wp2_with fail
  refine (K1.out _ (below1 _ _)).mono ?_
  rintro en w1 ⟨rfl, hb1⟩
  have B1 := Lib.hid (below_then (below1 _ _) hb1)
  have X1 := X0.out.below hb1
  have d1 := X1.c1
  have X1 := Lib.hid X1
  clear hb1
  cases b1
  · go_wp2
    go_ret
    exact ⟨ret_bool (by simp), B1.out⟩
  go_wp2_with fail
  refine (K2.out _ B1.out).mono ?_
  rintro en w2 ⟨rfl, hb2⟩
  have B2 := Lib.hid (below_then B1.out hb2)
  have X2 := X1.out.below hb2
  have d2 := X2.c2
  have X2 := Lib.hid X2
  clear hb2
  cases b2
  · go_wp2
    go_ret
    exact ⟨ret_bool (by simp), B2.out⟩
  go_wp2_with fail
  refine (K3.out _ B2.out).mono ?_
  rintro en w3 ⟨rfl, hb3⟩
  have B3 := Lib.hid (below_then B2.out hb3)
  have X3 := X2.out.below hb3
  have d3 := X3.c3
  have X3 := Lib.hid X3
  clear hb3
  cases b3
  · go_wp2
    go_ret
    exact ⟨ret_bool (by simp), B3.out⟩
  go_wp2_with fail
  refine (K4.out _ B3.out).mono ?_
  rintro en w4 ⟨rfl, hb4⟩
  have B4 := Lib.hid (below_then B3.out hb4)
  have X4 := X3.out.below hb4
  have e0 := X4.c0
  have e1 := X4.c1
  have e2 := X4.c2
  have X4 := Lib.hid X4
  clear hb4
  cases b4
  · go_wp2
    go_ret
    exact ⟨ret_bool (by simp), B4.out⟩
  go_wp2_with fail
  refine (K5.out _).mono ?_
  rintro en w5 ⟨rfl, rfl⟩
  go_wp2
  go_ret
  exact ⟨ret_bool (by simp), B4.out⟩
end Go.Proofs.YtmmicoiiklcakaaDoor

/- The program's hasTwice at identities and at texts, slices.Index, Contains and Clone at identities, withoutNames. -/
namespace Go.Proofs.YtmmicoiiklcakaaDoor
open Go.ChangeShapes Go.WideShapes Go.ChangeAt Go.RowKit
set_option linter.unusedVariables false

def eqId (x y : Ident) : Bool := x.cat.toList == y.cat.toList && (x.kind.toList == y.kind.toList && (x.lang.toList == y.lang.toList && x.name.toList == y.name.toList))
theorem eqlId (x y : Ident) (w : World) : (binOp .eql 46 (.agg #[.string x.cat, .string x.kind, .string x.lang, .string x.name]) (.agg #[.string y.cat, .string y.kind, .string y.lang, .string y.name])).run Tryd.prog w = .ok (.bool (eqId x y)) w := by
  have u4 := Tryd.underlying9
  have hS : Tryd.prog.underlying 46 = some (.struct (Tryd.prog.fieldsOf 46)) := by kernel_rfl
  rw [run_eql_struct, show (10000 : Nat) = 9999 + 1 from rfl, run_equalIn_agg w 9999 _ _ _ hS (by kernel_rfl)]
  simp only [Program.fieldsOf, Tryd.underlying46]
  unfold eqId
  cases h0 : (x.cat.toList == y.cat.toList) <;> cases h1 : (x.kind.toList == y.kind.toList) <;> cases h2 : (x.lang.toList == y.lang.toList) <;> cases h3 : (x.name.toList == y.name.toList) <;> go_simp

/-- the place of one, or none -/
def IdxRes (n : Nat) (f : Nat → Bool) (w : World) (e : Ending) (w' : World) : Prop :=
  ∃ r : Int, e = .returned (.int .i64 r) ∧ ((r = -1 ∧ ∀ i, i < n → f i = false) ∨ (0 ≤ r ∧ ∃ i, i < n ∧ f i = true)) ∧ Below w.heap.size w w'

set_option maxRecDepth 100000 in
set_option maxHeartbeats 1600000 in
theorem indexId_any (a : Option Addr) (n c : Nat) (l : List Ident) (x : Ident) (w : World) (h : IdsAt w a n c l) :
    Calls Tryd.prog 54 #[.slice a n c, .agg #[.string x.cat, .string x.kind, .string x.lang, .string x.name]] w (IdxRes n (fun i => eqId x (l.getD i dId)) w) := by
  have hm := h.max
  have HR := Lib.hid h.row
  have X0 := Lib.hid (IdAt.new w 46 x)
  have hq := eqlId
  unfold IdxRes
  clear h
  go_enter Tryd.func54, Tryd.ntmps54
  go_wp2
  go_loopw [8] (fun i wr => ∃ k : Nat, k ≤ n ∧ i = .int .i64 k ∧ (∀ i, i < k → eqId x (l.getD i dId) = false) ∧ ∃ m, wr = (w.alloc (.cells #[.string x.cat, .string x.kind, .string x.lang, .string x.name] 46)).drewN m) (fun i _ => n - (intOf i).toNat)
  case atStart => exact ⟨0, Nat.zero_le _, rfl, fun i hi => by omega, 0, rfl⟩
  case round =>
    obtain ⟨k, hk, rfl, hdone, nd, rfl⟩ := hrel
    have HD := Lib.hid hdone
    clear hdone
    by_cases hlt : k < n
    · rcases HR.out with e0 | ⟨b, o, rfl, hrow⟩
      · omega
      have hi := hrow k hlt
      have hbl := hi.lt
      have d0 := hi.c0
      have d1 := hi.c1
      have d2 := hi.c2
      have d3 := hi.c3
      clear hi hrow
      have HN : Hid (∀ y, l.getD k dId = y → eqId x y = false → ∀ i, i < k + 1 → eqId x (l.getD i dId) = false) := Lib.hid (fun y hy hf j hj => by
        rcases Nat.lt_or_ge j k with h1 | h1
        · exact HD.out j h1
        · obtain rfl : j = k := by omega
          rw [hy]
          exact hf)
      generalize hy : l.getD k dId = y at d0 d1 d2 d3
      have HY := Lib.hid hy
      clear hy
      obtain ⟨ys, yt, yu, yv⟩ := y
      obtain ⟨xs, xt, xu, xv⟩ := x
      dsimp only at d0 d1 d2 d3 HY HN ⊢
      have q1 : (k : Int) < (n : Int) := by omega
      have q2 : b < w.heap.size + 1 := by omega
      have hq0 := hq ⟨xs, xt, xu, xv⟩ ⟨ys, yt, yu, yv⟩
      dsimp only at hq0
      cases hc : eqId ⟨xs, xt, xu, xv⟩ ⟨ys, yt, yu, yv⟩
      · rw [hc] at hq0
        have HN2 := Lib.hid (HN.out _ HY.out hc)
        clear hq hc
        go_wp2_with fail
        go_quiet (fail)
        go_wp2
        go_roundw
        case rel => exact ⟨k + 1, by omega, by go_num, HN2.out, _, rfl⟩
        case measure => simp [intOf]; omega
      · rw [hc] at hq0
        have HC := Lib.hid hc
        clear hq hc
        go_wp2_with fail
        go_quiet (fail)
        go_wp2
        go_ret
        exact ⟨_, rfl, .inr ⟨by omega, k, hlt, by rw [HY.out]; exact HC.out⟩, below_drewN (below_drewN (below1 _ _) _) _⟩
    · obtain rfl : k = n := by omega
      go_wp2
      go_ret
      exact ⟨_, rfl, .inl ⟨rfl, HD.out⟩, below_drewN (below1 _ _) _⟩

set_option maxHeartbeats 800000 in
theorem containsId_any (a : Option Addr) (n c : Nat) (l : List Ident) (x : Ident) (w : World) (bb : Bool) (h1 : ∀ i, i < n → eqId x (l.getD i dId) = true → bb = true) (h0 : (∀ i, i < n → eqId x (l.getD i dId) = false) → bb = false) (h : IdsAt w a n c l) :
    Calls Tryd.prog 44 #[.slice a n c, .agg #[.string x.cat, .string x.kind, .string x.lang, .string x.name]] w fun en w' => en = .returned (.bool bb) ∧ Below w.heap.size w w' := by
  have K := Lib.hid (fun W (hb : Below w.heap.size w W) => indexId_any a n c l x W (h.below hb))
  have H1 := Lib.hid h1
  have H0 := Lib.hid h0
  unfold IdxRes at K
  clear h h0 h1
  obtain ⟨xs, xt, xu, xv⟩ := x
  dsimp only at K ⊢
  go_enter Tryd.func44, Tryd.ntmps44
  go_wp2_with fail
  refine (K.out _ (below1 _ _)).mono ?_
  rintro e w1 ⟨r, rfl, hr, hb1⟩
  have B1 := Lib.hid (below_then (below1 _ _) hb1)
  clear hb1
  rcases hr with ⟨rfl, hr⟩ | ⟨hr0, i, hi, hr⟩
  · have hb := H0.out hr
    subst hb
    clear hr
    go_wp2
    go_ret
    exact ⟨rfl, B1.out⟩
  · have hb := H1.out i hi hr
    subst hb
    clear hr
    go_wp2
    go_ret
    exact ⟨rfl, B1.out⟩

theorem IdsAt.take {w : World} {a : Option Addr} {n c : Nat} {l : List Ident} (h : IdsAt w a n c l) {k : Nat} (hk : k ≤ n) : IdsAt w a k c (l.take k) := by
  refine ⟨by rw [List.length_take, h.len]; omega, by have := h.max; omega, ?_⟩
  rcases h.row with e | ⟨b, o, ha, hr⟩
  · exact .inl (by omega)
  · refine .inr ⟨b, o, ha, fun i hi => ?_⟩
    have := hr i (by omega)
    rwa [show (l.take k).getD i dId = l.getD i dId by rw [List.getD_eq_getElem?_getD, List.getElem?_take, if_pos hi, ← List.getD_eq_getElem?_getD]]
theorem take_getD {l : List Ident} {k i : Nat} (hi : i < k) : (l.take k).getD i dId = l.getD i dId := by
  rw [List.getD_eq_getElem?_getD, List.getElem?_take, if_pos hi, ← List.getD_eq_getElem?_getD]

theorem held4T {w0 W W' : World} {p1 p2 p3 p4 : Addr} {v1 v2 v3 v4 : Value} (hb : Below W.heap.size W W')
    (h : Below w0.heap.size w0 W ∧ W.cell? p1 = some v1 ∧ W.cell? p2 = some v2 ∧ W.cell? p3 = some v3 ∧ W.cell? p4 = some v4) :
    Below w0.heap.size w0 W' ∧ W'.cell? p1 = some v1 ∧ W'.cell? p2 = some v2 ∧ W'.cell? p3 = some v3 ∧ W'.cell? p4 = some v4 :=
  ⟨below_then h.1 hb, (hb.cell (World.block_lt_of_cell? W _ h.2.1)).trans h.2.1, (hb.cell (World.block_lt_of_cell? W _ h.2.2.1)).trans h.2.2.1, (hb.cell (World.block_lt_of_cell? W _ h.2.2.2.1)).trans h.2.2.2.1, (hb.cell (World.block_lt_of_cell? W _ h.2.2.2.2)).trans h.2.2.2.2⟩

set_option maxRecDepth 100000 in
set_option maxHeartbeats 3200000 in
theorem hasTwiceI_any (a : Option Addr) (n c : Nat) (l : List Ident) (w : World) (bb : Bool) (hn : n ≤ c) (hcm : c ≤ maxLen) (h1 : ∀ i k, i < n → k < i → eqId (l.getD i dId) (l.getD k dId) = true → bb = true) (h0 : (∀ i, i < n → ∀ k, k < i → eqId (l.getD i dId) (l.getD k dId) = false) → bb = false) (h : IdsAt w a n c l) :
    Calls Tryd.prog 30 #[.slice a n c] w fun en w' => en = .returned (.bool bb) ∧ Below w.heap.size w w' := by
  have hm := h.max
  have HR := Lib.hid h.row
  have HA := Lib.hid h
  have H1 := Lib.hid h1
  have H0 := Lib.hid h0
  unfold maxLen at hcm
  clear h h0 h1
  go_enter Tryd.func30, Tryd.ntmps30
  go_wp2
  go_loopw [7] (fun i wr => ∃ k : Nat, k ≤ n ∧ i = .int .i64 k ∧ (∀ i, i < k → ∀ j, j < i → eqId (l.getD i dId) (l.getD j dId) = false) ∧ Below w.heap.size w wr) (fun i _ => n - (intOf i).toNat)
  case atStart => exact ⟨0, Nat.zero_le _, rfl, fun i hi => by omega, Below.refl _ _⟩
  case round =>
    obtain ⟨k, hk, rfl, hdone, hb⟩ := hrel
    have HD := Lib.hid hdone
    have HB := Lib.hid hb
    clear hdone hb
    by_cases hlt : k < n
    · rcases HR.out with e0 | ⟨b, o, rfl, hrow⟩
      · omega
      have hi := (hrow k hlt).below HB.out
      have d0 := hi.c0
      have d1 := hi.c1
      have d2 := hi.c2
      have d3 := hi.c3
      clear hi hrow
      obtain ⟨q, hq⟩ : ∃ q : Bool, (∀ j, j < k → eqId (l.getD k dId) ((l.take k).getD j dId) = true → q = true) ∧ ((∀ j, j < k → eqId (l.getD k dId) ((l.take k).getD j dId) = false) → q = false) := by
        refine ⟨(List.range k).any fun j => eqId (l.getD k dId) ((l.take k).getD j dId), fun j hj he => ?_, fun he => ?_⟩
        · rw [List.any_eq_true]
          exact ⟨j, List.mem_range.2 hj, he⟩
        · rw [List.any_eq_false]
          intro j hj
          rw [he j (List.mem_range.1 hj)]
          decide
      have HQ : Hid (∃ q' : Bool, q' = q ∧ ((q' = true → ∃ j, j < k ∧ eqId (l.getD k dId) (l.getD j dId) = true) ∧ (q' = false → ∀ j, j < k → eqId (l.getD k dId) (l.getD j dId) = false))) := Lib.hid (by
        refine ⟨q, rfl, fun e => ?_, fun e j hj => ?_⟩
        · by_cases hex : ∃ j, j < k ∧ eqId (l.getD k dId) (l.getD j dId) = true
          · exact hex
          · have := hq.2 (fun j hj => by
              rw [take_getD hj]
              cases hh : eqId (l.getD k dId) (l.getD j dId)
              · rfl
              · exact absurd ⟨j, hj, hh⟩ hex)
            rw [e] at this
            cases this
        · cases hh : eqId (l.getD k dId) (l.getD j dId)
          · rfl
          · have := hq.1 j hj (by rw [take_getD hj]; exact hh)
            rw [e] at this
            cases this)
      have K := Lib.hid (fun W (hb : Below w.heap.size w W) => containsId_any (some ⟨b, o, none⟩) k c (l.take k) (l.getD k dId) W q hq.1 hq.2 ((HA.out.take hk).below hb))
      clear hq
      generalize hx : l.getD k dId = x at d0 d1 d2 d3 K
      have HX := Lib.hid hx
      clear hx
      obtain ⟨xs, xt, xu, xv⟩ := x
      dsimp only at d0 d1 d2 d3 K
      have q1 : (k : Int) < (n : Int) := by omega
      have q2 : (k : Int) ≤ (c : Int) := by omega
      go_wp2_with fail
      have B1 := Lib.hid (HB.out.alloc HB.out.size (.cells #[.string xs, .string xt, .string xu, .string xv] 46))
      have X1 := Lib.hid (IdAt.new wr 46 ⟨xs, xt, xu, xv⟩)
      generalize hV : wr.alloc (.cells #[.string xs, .string xt, .string xu, .string xv] 46) = V at B1 X1 ⊢
      have x0 := X1.out.c0
      have x1 := X1.out.c1
      have x2 := X1.out.c2
      have x3 := X1.out.c3
      have xl := X1.out.lt
      simp only [Nat.zero_add] at x1 x2 x3
      have hS0 : Below w.heap.size w V.drew ∧ V.drew.cell? ⟨wr.heap.size, 0, none⟩ = some (.string xs) ∧ V.drew.cell? ⟨wr.heap.size, 1, none⟩ = some (.string xt) ∧ V.drew.cell? ⟨wr.heap.size, 2, none⟩ = some (.string xu) ∧ V.drew.cell? ⟨wr.heap.size, 3, none⟩ = some (.string xv) := ⟨B1.out.drew, x0, x1, x2, x3⟩
      clear hV d0 d1 d2 d3
      (go_region_held3 (fun W => Below w.heap.size w W ∧ W.cell? ⟨wr.heap.size, 0, none⟩ = some (.string xs) ∧ W.cell? ⟨wr.heap.size, 1, none⟩ = some (.string xt) ∧ W.cell? ⟨wr.heap.size, 2, none⟩ = some (.string xu) ∧ W.cell? ⟨wr.heap.size, 3, none⟩ = some (.string xv)) (first | assumption | exact held4T hbr (by assumption)) (first | (go_at_call 44; (with_reducible refine (K.out _ (And.left (by assumption))).mono ?_); rintro e w' ⟨rfl, hbr⟩)))
      have hBf : Below w.heap.size w w' := And.left (by assumption)
      have HBF := Lib.hid hBf
      clear hBf hS0 x0 x1 x2 x3 xl
      obtain ⟨q', rfl, hqt, hqf⟩ := HQ.out
      have HQT := Lib.hid hqt
      have HQF := Lib.hid hqf
      clear hqt hqf HQ K
      cases q'
      · have HDN := Lib.hid (HQF.out (by simp))
        go_wp2
        go_roundw
        case rel =>
          refine ⟨k + 1, by omega, by go_num, fun i hi j hj => ?_, HBF.out⟩
          rcases Nat.lt_or_ge i k with h1 | h1
          · exact HD.out i h1 j hj
          · obtain rfl : i = k := by omega
            exact HDN.out j hj
        case measure => simp [intOf]; omega
      · obtain ⟨j, hj, he⟩ := HQT.out (by simp)
        have hbb := H1.out k j hlt hj he
        subst hbb
        clear he
        go_wp2
        go_ret
        exact ⟨rfl, HBF.out⟩
    · obtain rfl : k = n := by omega
      have hb := H0.out HD.out
      subst hb
      go_wp2
      go_ret
      exact ⟨rfl, HB.out⟩
end Go.Proofs.YtmmicoiiklcakaaDoor
