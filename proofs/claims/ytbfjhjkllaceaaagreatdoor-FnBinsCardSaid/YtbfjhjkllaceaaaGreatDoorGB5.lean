/- Texts laid together, part 5. -/
import Derived.Test.YtbfjhjkllaceaaaGreatDoorGB4
import Derived.Deep.AppendLies
import Derived.Maps.AppendAt
import Derived.Deep.RegionHeld3

/- The model's reader of frames: item. -/
namespace Go.Proofs.YtbfjhjkllaceaaaGreatDoor
open Go.ChangeShapes Go.WideShapes Go.ChangeAt Go.RowKit
set_option linter.unusedVariables false

/-- attributes are read, so many -/
def rdA (ts : List ByteArray) : Nat → Int → Rd → List At → Rd × List At
  | 0, _, r, es => (r, es)
  | f + 1, n, r, es => if 0 < n ∧ r.bad = false then rdA ts f (n - 1) (txtR ts (txtR ts r)) (es ++ [⟨txtV ts r, txtV ts (txtR ts r)⟩]) else (r, es)
theorem rdA_stop {ts : List ByteArray} {f : Nat} {n : Int} {r : Rd} {es : List At} (h : ¬ (0 < n ∧ r.bad = false)) : rdA ts f n r es = (r, es) := by
  cases f with
  | zero => rfl
  | succ f => unfold rdA; rw [if_neg h]
theorem rdA_go {ts : List ByteArray} {f : Nat} {n : Int} {r : Rd} {es : List At} (h : 0 < n ∧ r.bad = false) : rdA ts (f + 1) n r es = rdA ts f (n - 1) (txtR ts (txtR ts r)) (es ++ [⟨txtV ts r, txtV ts (txtR ts r)⟩]) := by
  conv => lhs; unfold rdA
  rw [if_pos h]
/-- how much is left to do -/
def left (r : Rd) : Nat := if r.bad then 0 else r.xs.length + 1
theorem numR_len (r : Rd) : (numR r).xs.length ≤ r.xs.length := by
  unfold numR
  split
  · exact Nat.le_refl _
  · simp
theorem numR_left (r : Rd) : left (numR r) ≤ left r ∧ (r.bad = false → left (numR r) < left r) := by
  unfold numR left
  by_cases h : vreadK r.xs = 0 ∨ r.bad = true
  · rw [if_pos h]
    simp only [if_true]
    refine ⟨Nat.zero_le _, fun hb => ?_⟩
    rw [hb]
    simp
  · rw [if_neg h]
    have hb : r.bad = false := by
      cases hb : r.bad
      · rfl
      · exact absurd (.inr hb) h
    have hk : vreadK r.xs ≠ 0 := fun e => h (.inl e)
    have hl := (vreadK_le r.xs).1
    rw [hb]
    simp only [Bool.false_eq_true, if_false, List.length_drop]
    omega
theorem txtR_left (ts : List ByteArray) (r : Rd) : left (txtR ts r) ≤ left r ∧ (r.bad = false → left (txtR ts r) < left r) := by
  unfold txtR
  split
  · exact numR_left r
  · have h := numR_left r
    refine ⟨by unfold left; simp, fun hb => ?_⟩
    unfold left
    rw [hb]
    simp
theorem txtR_len (ts : List ByteArray) (r : Rd) : (txtR ts r).xs.length ≤ r.xs.length := by
  unfold txtR
  split
  · exact numR_len r
  · exact numR_len r
theorem left_len (r : Rd) : left r ≤ r.xs.length + 1 := by unfold left; split <;> omega
/-- what an item is read es, and what is ahead then -/
def itV (ts : List ByteArray) (r : Rd) : It :=
  if numV (numR r) = 0 then ⟨numV r, txtV ts (numR (numR r)), ByteArray.empty, ByteArray.empty, []⟩
  else ⟨numV r, ByteArray.empty, txtV ts (numR (numR r)), txtV ts (txtR ts (numR (numR r))),
    (rdA ts (r.xs.length + 1) (numV (txtR ts (txtR ts (numR (numR r))))) (numR (txtR ts (txtR ts (numR (numR r))))) []).2⟩
def itR (ts : List ByteArray) (r : Rd) : Rd :=
  if numV (numR r) = 0 then txtR ts (numR (numR r))
  else
    let q := (rdA ts (r.xs.length + 1) (numV (txtR ts (txtR ts (numR (numR r))))) (numR (txtR ts (txtR ts (numR (numR r))))) []).1
    if numV (numR r) ≠ 1 ∨ (txtV ts (txtR ts (numR (numR r)))).toList.isEmpty = true then ⟨q.xs, true⟩ else q

/-- a reader on its way through an item: wE is the world at its start -/
structure ItSt (w0 wE w : World) (b : Nat) (r : Rd) (ts : List ByteArray) : Prop where
  rd : RdAt w0 w b r ts
  gr : wE.grownBy w (some b)
  lst : w.cell? ⟨b, 1, none⟩ = wE.cell? ⟨b, 1, none⟩
theorem ItSt.below {w0 wE w w' : World} {b : Nat} {r : Rd} {ts : List ByteArray} (h : ItSt w0 wE w b r ts) (hb : Below w.heap.size w w') : ItSt w0 wE w' b r ts :=
  ⟨h.rd.keep hb, grown_trans' h.gr (grown_below hb), (hb.cell (by exact h.rd.lt)).trans h.lst⟩
theorem ItSt.far {w0 wE w w' : World} {b : Nat} {r rE : Rd} {ts : List ByteArray} {row : Option Nat} (h : ItSt w0 wE w b r ts) (hE : RdAt w0 wE b rE ts) (hg : w.grownBy w' row) (hp : ∀ g, row = some g → wE.heap.size ≤ g) : ItSt w0 wE w' b r ts := by
  have hlt := h.rd.lt
  have hne : some b ≠ row := fun e => by have := hp b e.symm; have := hE.lt; omega
  obtain ⟨a, n, c, h1, h2, h3⟩ := h.rd.c0
  obtain ⟨a', n', c', g1, g2, g3⟩ := h.rd.c1
  obtain ⟨aE, nE, cE, e1, e2, e3⟩ := hE.c1
  have heq : Value.slice a' n' c' = .slice aE nE cE := by
    have := h.lst
    rw [g1, e1] at this
    exact Option.some.inj this
  have hrow : (Value.slice a' n' c').ownBlock = Option.none ∨ (Value.slice a' n' c').ownBlock ≠ row := by
    cases hv : (Value.slice a' n' c').ownBlock with
    | none => exact .inl rfl
    | some g =>
      refine .inr fun e => ?_
      rw [heq] at hv
      have := (e2.lt g hv).2
      have := hp g e.symm
      omega
  refine ⟨⟨Nat.lt_of_lt_of_le hlt hg.size, h.rd.ge, h.rd.below.grown hg h.rd.below.size (fun k hk => Nat.le_trans hE.below.size (hp k hk)), h.rd.byte, ⟨a, n, c, hg.cell h1 hne, h2, h3⟩, ⟨a', n', c', hg.cell g1 hne, g2.kept hg hrow, g3⟩, hg.cell h.rd.c2 hne,
    (hg.frozen_far ⟨b, 0, none⟩ hlt hne).trans h.rd.f0, (hg.frozen_far ⟨b, 1, none⟩ hlt hne).trans h.rd.f1, (hg.frozen_far ⟨b, 2, none⟩ hlt hne).trans h.rd.f2⟩, grown_mix h.gr hg hp, (hg.cell g1 hne).trans ((g1.symm).trans h.lst)⟩
theorem ItSt.set {w0 wE w : World} {b : Nat} {r rE : Rd} {ts : List ByteArray} (h : ItSt w0 wE w b r ts) (hE : RdAt w0 wE b rE ts) (p : Addr) (v : Value) (hp : wE.heap.size ≤ p.block) : ItSt w0 wE (w.setCell p v) b r ts :=
  h.far hE (grown_set w p v) (fun g hg => by cases hg; exact hp)
/-- five cells that hold an item's values -/
structure X5 (w : World) (x : Nat) (v0 v1 v2 v3 v4 : Value) : Prop where
  lt : x < w.heap.size
  c0 : w.cell? ⟨x, 0, none⟩ = some v0
  c1 : w.cell? ⟨x, 1, none⟩ = some v1
  c2 : w.cell? ⟨x, 2, none⟩ = some v2
  c3 : w.cell? ⟨x, 3, none⟩ = some v3
  c4 : w.cell? ⟨x, 4, none⟩ = some v4
  fz : ∀ i, i < 5 → w.frozen? ⟨x, i, none⟩ = false
theorem X5.grown {w w' : World} {x : Nat} {v0 v1 v2 v3 v4 : Value} {row : Option Nat} (h : X5 w x v0 v1 v2 v3 v4) (hg : w.grownBy w' row) (hne : some x ≠ row) : X5 w' x v0 v1 v2 v3 v4 :=
  ⟨Nat.lt_of_lt_of_le h.lt hg.size, hg.cell h.c0 hne, hg.cell h.c1 hne, hg.cell h.c2 hne, hg.cell h.c3 hne, hg.cell h.c4 hne, fun i hi => (hg.frozen_far ⟨x, i, none⟩ h.lt hne).trans (h.fz i hi)⟩
theorem X5.new (w : World) (T : TypeId) (v0 v1 v2 v3 v4 : Value) : X5 (w.alloc (.cells #[v0, v1, v2, v3, v4] T)) w.heap.size v0 v1 v2 v3 v4 :=
  ⟨by simp, by simp, by simp, by simp, by simp, by simp, fun i _ => by simp⟩
theorem X5.set {w : World} {x : Nat} {v0 v1 v2 v3 v4 : Value} (h : X5 w x v0 v1 v2 v3 v4) (i : Nat) (v : Value) (hi : i < 5) : X5 (w.setCell ⟨x, i, none⟩ v) x (if i = 0 then v else v0) (if i = 1 then v else v1) (if i = 2 then v else v2) (if i = 3 then v else v3) (if i = 4 then v else v4) := by
  have key : ∀ (j : Nat) (u : Value), w.cell? ⟨x, j, none⟩ = some u → (w.setCell ⟨x, i, none⟩ v).cell? ⟨x, j, none⟩ = some (if i = j then v else u) := by
    intro j u hu
    by_cases e : i = j
    · subst e
      rw [if_pos rfl]
      exact set_at hu
    · rw [if_neg e]
      exact set_oth e hu
  exact ⟨by simpa using h.lt, key 0 _ h.c0, key 1 _ h.c1, key 2 _ h.c2, key 3 _ h.c3, key 4 _ h.c4, fun k hk => by rw [World.frozen?_setCell]; exact h.fz k hk⟩
theorem X5.fill {w : World} {x : Nat} {v0 v1 v2 v3 v4 : Value} (h : X5 w x v0 v1 v2 v3 v4) (u0 u1 u2 u3 u4 : Value) : X5 (((((w.setCell ⟨x, 0, none⟩ u0).setCell ⟨x, 1, none⟩ u1).setCell ⟨x, 2, none⟩ u2).setCell ⟨x, 3, none⟩ u3).setCell ⟨x, 4, none⟩ u4) x u0 u1 u2 u3 u4 := by
  have := ((((h.set 0 u0 (by decide)).set 1 u1 (by decide)).set 2 u2 (by decide)).set 3 u3 (by decide)).set 4 u4 (by decide)
  simpa using this
theorem ItSt.fill {w0 wE w : World} {b : Nat} {r rE : Rd} {ts : List ByteArray} (h : ItSt w0 wE w b r ts) (hE : RdAt w0 wE b rE ts) (x : Nat) (hx : wE.heap.size ≤ x) (u0 u1 u2 u3 u4 : Value) : ItSt w0 wE (((((w.setCell ⟨x, 0, none⟩ u0).setCell ⟨x, 1, none⟩ u1).setCell ⟨x, 2, none⟩ u2).setCell ⟨x, 3, none⟩ u3).setCell ⟨x, 4, none⟩ u4) b r ts :=
  ((((h.set hE _ _ hx).set hE _ _ hx).set hE _ _ hx).set hE _ _ hx).set hE _ _ hx
theorem grown_all {w w' : World} {r : Option Nat} (h : w.grownBy w' none) : w.grownBy w' r := ⟨h.os, h.tape, h.output, h.size, fun i hi _ => h.block i hi (by simp)⟩

theorem flatA_snoc (l : List At) (x : At) : flatA (l ++ [x]) = flatA l ++ [.string x.name, .string x.value] := by
  apply List.ext_getElem?
  intro j
  have hl : (l ++ [x]).length = l.length + 1 := by simp
  have hx : (l ++ [x]).getD l.length dAt = x := by rw [List.getD_eq_getElem?_getD, List.getElem?_append_right (Nat.le_refl _)]; simp
  by_cases h : j < l.length * 2
  · rw [flatA_get _ _ (by omega), List.getElem?_append_left (by rw [flatA_length]; exact h), flatA_get _ _ h]
    have e : (l ++ [x]).getD (j / 2) dAt = l.getD (j / 2) dAt := by rw [List.getD_eq_getElem?_getD, List.getElem?_append_left (by omega), ← List.getD_eq_getElem?_getD]
    rw [e]
  · rw [List.getElem?_append_right (by rw [flatA_length]; omega), flatA_length]
    by_cases h0 : j = l.length * 2
    · subst h0
      rw [flatA_name _ _ (by omega), hx]
      simp
    · by_cases h1 : j = l.length * 2 + 1
      · subst h1
        rw [flatA_value _ _ (by omega), hx]
        simp
      · rw [List.getElem?_eq_none (by rw [flatA_length]; omega), List.getElem?_eq_none (by simp; omega)]
theorem owns_fill {w : World} {base : Nat} {e : TypeId} {size : Nat} {v : Value} {n : Nat} {xs : List Value} (h : w.ownsRow base e size v n xs) (x : Nat) (hne : v.ownBlock ≠ some x) (u0 u1 u2 u3 u4 : Value) : (((((w.setCell ⟨x, 0, none⟩ u0).setCell ⟨x, 1, none⟩ u1).setCell ⟨x, 2, none⟩ u2).setCell ⟨x, 3, none⟩ u3).setCell ⟨x, 4, none⟩ u4).ownsRow base e size v n xs :=
  row_kept (row_kept (row_kept (row_kept (row_kept h (grown_set _ _ _) hne) (grown_set _ _ _) hne) (grown_set _ _ _) hne) (grown_set _ _ _) hne) (grown_set _ _ _) hne
theorem ItSt.setBad {w0 wE w : World} {b : Nat} {r : Rd} {ts : List ByteArray} (h : ItSt w0 wE w b r ts) : ItSt w0 wE (w.setCell ⟨b, 2, none⟩ (.bool true)) b ⟨r.xs, true⟩ ts :=
  ⟨h.rd.setBad true, grown_trans' h.gr (grown_set _ _ _), (cell_oth _ _ _ _ _ (by decide)).trans h.lst⟩
theorem sizes_snoc {es : List At} {x y : ByteArray} (h : ∀ i, (es.getD i dAt).name.size ≤ 60 ∧ (es.getD i dAt).value.size ≤ 60) (hx : x.size ≤ 60) (hy : y.size ≤ 60) : ∀ i, ((es ++ [(⟨x, y⟩ : At)]).getD i dAt).name.size ≤ 60 ∧ ((es ++ [(⟨x, y⟩ : At)]).getD i dAt).value.size ≤ 60 := by
  intro i
  by_cases hi : i < es.length
  · have e : (es ++ [(⟨x, y⟩ : At)]).getD i dAt = es.getD i dAt := by rw [List.getD_eq_getElem?_getD, List.getElem?_append_left hi, ← List.getD_eq_getElem?_getD]
    rw [e]
    exact h i
  · by_cases h2 : i = es.length
    · subst h2
      have e : (es ++ [(⟨x, y⟩ : At)]).getD es.length dAt = ⟨x, y⟩ := by rw [List.getD_eq_getElem?_getD, List.getElem?_append_right (Nat.le_refl _)]; simp
      rw [e]
      exact ⟨hx, hy⟩
    · have e : (es ++ [(⟨x, y⟩ : At)]).getD i dAt = dAt := by rw [List.getD_eq_getElem?_getD, List.getElem?_eq_none (by simp; omega)]; rfl
      rw [e]
      simp [dAt]
def msr (w : World) (b : Nat) : Nat := match w.cell? ⟨b, 2, none⟩ with | some (.bool false) => lenAt w b + 1 | _ => 0
theorem msr_is {w0 w : World} {b : Nat} {r : Rd} {ts : List ByteArray} (h : RdAt w0 w b r ts) : msr w b = left r := by
  obtain ⟨a, n, c, h1, h2, h3⟩ := h.c0
  unfold msr left
  rw [h.c2]
  cases r.bad
  · simp [lenAt_is h1, h2]
  · rfl
theorem attCells (W : World) (x y : ByteArray) (j : Nat) (u : Value) (hj : [Value.string x, Value.string y][j]? = some u) : ((W.alloc (.cells #[.string x, .string y] 73))).cell? (Addr.add ⟨W.heap.size, 0, none⟩ j) = some u := by
  match j, hj with
  | 0, hj => simp at hj; subst hj; simp [Addr.add]
  | 1, hj => simp at hj; subst hj; simp [Addr.add]
/-- an item was read -/
def ItGot (w0 w : World) (b : Nat) (x : It) (r : Rd) (ts : List ByteArray) (e : Ending) (w' : World) : Prop :=
  ∃ a n c, e = .returned (.agg #[.int .i64 x.depth, .string x.text, .string x.space, .string x.name, .slice a n c]) ∧ OwnAts w' w.heap.size w'.heap.size a n c x.attrs ∧ (a = none → c = 0) ∧ ItSt w0 w w' b r ts

set_option maxRecDepth 100000 in
set_option maxHeartbeats 6400000 in
theorem item_any (w0 : World) (b : Nat) (r : Rd) (ts : List ByteArray) (w : World) (h : RdAt w0 w b r ts) (hl : r.xs.length ≤ 3000) (hts : ∀ t ∈ ts, t.size ≤ 60) :
    Calls Tryz.prog 44 #[.pointer (some ⟨b, 0, none⟩)] w (ItGot w0 w b (itV ts r) (itR ts r) ts) := by
  obtain ⟨i0, hi, hz0, hi1, hz2⟩ := info_parts attrInfo
  have KN : Hid (∀ (q : Rd) (W : World) (hh : ItSt w0 w W b q ts), Calls Tryz.prog 43 #[.pointer (some ⟨b, 0, none⟩)] W fun e w' => e = .returned (.int .i64 (numV q)) ∧ ItSt w0 w w' b (numR q) ts ∧ W.grownBy w' (some b)) :=
    Lib.hid (fun q W hh => (number_any w0 b q ts W hh.rd).mono fun e w' ⟨a, bb, c, d⟩ => ⟨a, ⟨bb, grown_trans' hh.gr c, d.trans hh.lst⟩, c⟩)
  have KT : Hid (∀ (q : Rd) (W : World) (hh : ItSt w0 w W b q ts), Calls Tryz.prog 74 #[.pointer (some ⟨b, 0, none⟩)] W fun e w' => e = .returned (.string (txtV ts q)) ∧ ItSt w0 w w' b (txtR ts q) ts ∧ W.grownBy w' (some b)) :=
    Lib.hid (fun q W hh => (text_any w0 b q ts W hh.rd).mono fun e w' ⟨a, bb, c, d⟩ => ⟨a, ⟨bb, grown_trans' hh.gr c, d.trans hh.lst⟩, c⟩)
  unfold ItGot
  have HE := Lib.hid h
  have hlt := h.lt
  have H0 : Hid (ItSt w0 w w b r ts) := Lib.hid ⟨h, World.grownBy.refl _ _, rfl⟩
  have hbd := numV_bd (numR r)
  have hxne : some w.heap.size ≠ some b := by simp; omega
  clear h
  by_cases hk : numV (numR r) = 0
  · have eV : itV ts r = ⟨numV r, txtV ts (numR (numR r)), ByteArray.empty, ByteArray.empty, []⟩ := by unfold itV; rw [if_pos hk]
    have eR : itR ts r = txtR ts (numR (numR r)) := by unfold itR; rw [if_pos hk]
    rw [eV, eR]
    have hk0 : (numV (numR r) == 0) = true := by rw [hk]; rfl
    have K1 := Lib.hid (KN.out r)
    have K2 := Lib.hid (KN.out (numR r))
    have K3 := Lib.hid (KT.out (numR (numR r)))
    generalize numV r = d at *
    generalize numV (numR r) = kd at *
    generalize txtV ts (numR (numR r)) = tx at *
    generalize txtR ts (numR (numR r)) = r3 at *
    generalize numR (numR r) = r2 at *
    generalize numR r = r1 at *
    clear eV eR
    go_enter Tryz.func44, Tryz.ntmps44
    go_wp2_with fail
    refine (K1.out _ (H0.out.below (below1 w _))).mono ?_
    rintro e w1 ⟨rfl, s1, g1⟩
    have S1 := Lib.hid s1
    have R1 := Lib.hid ((X5.new w 68 _ _ _ _ _).grown g1 hxne)
    have hz1 : w.heap.size + 1 ≤ w1.heap.size := by have := g1.size; simpa using this
    have hx1 : some w1.heap.size ≠ some b := by have := s1.rd.lt; simp; omega
    clear s1 g1
    go_wp2_with fail
    refine (K2.out _ (S1.out.below (below1 w1 _))).mono ?_
    rintro e w2 ⟨rfl, s2, g2⟩
    have S2 := Lib.hid s2
    have R2 := Lib.hid ((R1.out.grown (World.grownBy_alloc _ _ (some b)) hxne).grown g2 hxne)
    have X2 := Lib.hid ((X5.new w1 68 _ _ _ _ _).grown g2 hx1)
    have hz2' : w1.heap.size + 1 ≤ w2.heap.size := by have := g2.size; simpa using this
    clear s2 g2
    go_wp2_with fail
    refine (K3.out _ S2.out).mono ?_
    rintro e w3 ⟨rfl, s3, g3⟩
    have S3 := Lib.hid s3
    have R3 := Lib.hid (R2.out.grown g3 hxne)
    have X3 := Lib.hid (X2.out.grown g3 hx1)
    clear s3 g3
    have x0 := X3.out.c0
    have x1 := X3.out.c1
    have x2 := X3.out.c2
    have x3 := X3.out.c3
    have x4 := X3.out.c4
    have xf := X3.out.fz 1 (by decide)
    have y0 := R3.out.c0
    have y1 := R3.out.c1
    have y2 := R3.out.c2
    have y3 := R3.out.c3
    have y4 := R3.out.c4
    have yf0 := R3.out.fz 0 (by decide)
    have yf1 := R3.out.fz 1 (by decide)
    have yf2 := R3.out.fz 2 (by decide)
    have yf3 := R3.out.fz 3 (by decide)
    have yf4 := R3.out.fz 4 (by decide)
    have hne12 : w1.heap.size ≠ w.heap.size := by omega
    have Z := (R3.out.grown (grown_set w3 ⟨w1.heap.size, 1, none⟩ (.string tx)) (by simp; omega)).fill (.int .i64 d) (.string tx) (.string ⟨#[]⟩) (.string ⟨#[]⟩) (.slice none 0 0)
    have z0 := Z.c0
    have z1 := Z.c1
    have z2 := Z.c2
    have z3 := Z.c3
    have z4 := Z.c4
    go_wp2
    exact bodyPost_ret (v := .agg #[.int .i64 d, .string tx, .string ⟨#[]⟩, .string ⟨#[]⟩, .slice none 0 0]) (by simp [results, Tryz.results44, go_sem, z0, z1, z2, z3, z4]) rfl
      ⟨none, 0, 0, rfl, ⟨⟨rfl, by omega, fun i => by simp [dAt], .inl rfl⟩, .inl rfl⟩, fun _ => rfl, (S3.out.set HE.out _ _ (by simp; omega)).fill HE.out _ (Nat.le_refl _) _ _ _ _ _⟩
  · have hk0 : (numV (numR r) == 0) = false := by rw [beq_eq_false_iff_ne]; exact hk
    have eV : itV ts r = ⟨numV r, ByteArray.empty, txtV ts (numR (numR r)), txtV ts (txtR ts (numR (numR r))), (rdA ts (r.xs.length + 1) (numV (txtR ts (txtR ts (numR (numR r))))) (numR (txtR ts (txtR ts (numR (numR r))))) []).2⟩ := by unfold itV; rw [if_neg hk]
    have eR : itR ts r = if numV (numR r) ≠ 1 ∨ (txtV ts (txtR ts (numR (numR r)))).toList.isEmpty = true then ⟨(rdA ts (r.xs.length + 1) (numV (txtR ts (txtR ts (numR (numR r))))) (numR (txtR ts (txtR ts (numR (numR r))))) []).1.xs, true⟩ else (rdA ts (r.xs.length + 1) (numV (txtR ts (txtR ts (numR (numR r))))) (numR (txtR ts (txtR ts (numR (numR r))))) []).1 := by unfold itR; rw [if_neg hk]
    rw [eV, eR]
    have K1 := Lib.hid (KN.out r)
    have K2 := Lib.hid (KN.out (numR r))
    have K3 := Lib.hid (KT.out (numR (numR r)))
    have K4 := Lib.hid (KT.out (txtR ts (numR (numR r))))
    have K5 := Lib.hid (KN.out (txtR ts (txtR ts (numR (numR r)))))
    have hbn := numV_bd (txtR ts (txtR ts (numR (numR r))))
    have hleft : left (numR (txtR ts (txtR ts (numR (numR r))))) < r.xs.length + 2 := by
      have h1 := left_len (numR (txtR ts (txtR ts (numR (numR r)))))
      have h2 := numR_len (txtR ts (txtR ts (numR (numR r))))
      have h3 := txtR_len ts (txtR ts (numR (numR r)))
      have h4 := txtR_len ts (numR (numR r))
      have h5 := numR_len (numR r)
      have h6 := numR_len r
      omega
    have hlen5 : (numR (txtR ts (txtR ts (numR (numR r))))).xs.length ≤ r.xs.length := by
      have h2 := numR_len (txtR ts (txtR ts (numR (numR r))))
      have h3 := txtR_len ts (txtR ts (numR (numR r)))
      have h4 := txtR_len ts (numR (numR r))
      have h5 := numR_len (numR r)
      have h6 := numR_len r
      omega
    have htx : ∀ q, (txtV ts q).size ≤ 60 := by
      intro q
      unfold txtV
      split
      · rename_i hq
        have := (numV_bd q).1
        exact hts _ (by
          rw [List.getD_eq_getElem?_getD, List.getElem?_eq_getElem (show (numV q).toNat < ts.length by omega)]
          exact List.getElem_mem _)
      · simp
    generalize numV r = d at *
    generalize numV (numR r) = kd at *
    generalize txtV ts (numR (numR r)) = sp at *
    generalize txtV ts (txtR ts (numR (numR r))) = nm at *
    generalize numV (txtR ts (txtR ts (numR (numR r)))) = na at *
    generalize numR (txtR ts (txtR ts (numR (numR r)))) = r5 at *
    generalize txtR ts (txtR ts (numR (numR r))) = r4 at *
    generalize txtR ts (numR (numR r)) = r3 at *
    generalize numR (numR r) = r2 at *
    generalize numR r = r1 at *
    generalize hF : rdA ts (r.xs.length + 1) na r5 [] = F
    have HF := Lib.hid hF
    generalize hG : (if kd ≠ 1 ∨ nm.toList.isEmpty = true then (⟨F.1.xs, true⟩ : Rd) else F.1) = G
    have HG := Lib.hid hG
    generalize hE2 : F.2 = E
    have HE2 := Lib.hid hE2
    clear eV eR hF hG hE2
    have HTX := Lib.hid htx
    generalize r.xs.length = L at *
    clear htx
    go_enter Tryz.func44, Tryz.ntmps44
    go_wp2_with fail
    refine (K1.out _ (H0.out.below (below1 w _))).mono ?_
    rintro e w1 ⟨rfl, s1, g1⟩
    have S1 := Lib.hid s1
    have R1 := Lib.hid ((X5.new w 68 _ _ _ _ _).grown g1 hxne)
    have hz1 : w.heap.size + 1 ≤ w1.heap.size := by have := g1.size; simpa using this
    have hx1 : some w1.heap.size ≠ some b := by have := s1.rd.lt; simp; omega
    clear s1 g1
    go_wp2_with fail
    refine (K2.out _ (S1.out.below (below1 w1 _))).mono ?_
    rintro e w2 ⟨rfl, s2, g2⟩
    have S2 := Lib.hid s2
    have R2 := Lib.hid ((R1.out.grown (World.grownBy_alloc _ _ (some b)) hxne).grown g2 hxne)
    have X2 := Lib.hid ((X5.new w1 68 _ _ _ _ _).grown g2 hx1)
    have hz2' : w1.heap.size + 1 ≤ w2.heap.size := by have := g2.size; simpa using this
    clear s2 g2
    go_wp2_with fail
    refine (K3.out _ S2.out).mono ?_
    rintro e w3 ⟨rfl, s3, g3⟩
    have S3 := Lib.hid (s3.set HE.out ⟨w1.heap.size, 2, none⟩ (.string sp) (by simp; omega))
    have R3 := Lib.hid ((R2.out.grown g3 hxne).grown (grown_set w3 ⟨w1.heap.size, 2, none⟩ (.string sp)) (by simp; omega))
    have X3 := Lib.hid ((X2.out.grown g3 hx1).set 2 (.string sp) (by decide))
    have xs2 := (X2.out.grown g3 hx1).c2
    have xf2 := (X2.out.grown g3 hx1).fz 2 (by decide)
    have xl2 := (X2.out.grown g3 hx1).lt
    have hz3 : w2.heap.size ≤ w3.heap.size := g3.size
    clear s3 g3
    go_wp2_with fail
    refine (K4.out _ S3.out).mono ?_
    rintro e w4 ⟨rfl, s4, g4⟩
    have S4 := Lib.hid (s4.set HE.out ⟨w1.heap.size, 3, none⟩ (.string nm) (by simp; omega))
    have R4 := Lib.hid ((R3.out.grown g4 hxne).grown (grown_set w4 ⟨w1.heap.size, 3, none⟩ (.string nm)) (by simp; omega))
    have X4 := Lib.hid ((X3.out.grown g4 hx1).set 3 (.string nm) (by decide))
    have xs3 := (X3.out.grown g4 hx1).c3
    have xf3 := (X3.out.grown g4 hx1).fz 3 (by decide)
    have xl3 := (X3.out.grown g4 hx1).lt
    have hz4 : w3.heap.size ≤ w4.heap.size := by have := g4.size; simpa using this
    clear s4 g4 xs2 xf2 xl2
    go_wp2_with fail
    refine (K5.out _ S4.out).mono ?_
    rintro e w5 ⟨rfl, s5, g5⟩
    have S5 := Lib.hid s5
    have R5 := Lib.hid (R4.out.grown g5 hxne)
    have X5' := Lib.hid (X4.out.grown g5 hx1)
    have X5' : Hid (X5 w5 w1.heap.size (.int .i64 d) (.string ⟨#[]⟩) (.string sp) (.string nm) (.slice none 0 0)) := Lib.hid (by simpa using X5'.out)
    have hz5 : w4.heap.size ≤ w5.heap.size := by have := g5.size; simpa using this
    clear s5 g5 xs3 xf3 xl3
    have hbnd : b < w.heap.size := hlt
    go_wp2
    go_loopw [5] (fun v wr => ∃ (f : Nat) (n : Int) (q : Rd) (es : List At) (a : Option Addr) (m c : Nat), v = .int .i64 n ∧ (0 ≤ n ∧ n ≤ 9223372036854775807) ∧ left q ≤ f ∧ Hid (rdA ts f n q es = F) ∧ ItSt w0 w wr b q ts ∧
        X5 wr w.heap.size (.int .i64 0) (.string ⟨#[]⟩) (.string ⟨#[]⟩) (.string ⟨#[]⟩) (.slice none 0 0) ∧ X5 wr w1.heap.size (.int .i64 d) (.string ⟨#[]⟩) (.string sp) (.string nm) (.slice a m c) ∧
        wr.ownsRow w.heap.size 73 2 (.slice a m c) m (flatA es) ∧ (a = none → c = 0) ∧ (∀ g, (Value.slice a m c).ownBlock = some g → g ≠ w.heap.size ∧ g ≠ w1.heap.size) ∧ m + left q ≤ L + 1 ∧ (∀ i, (es.getD i dAt).name.size ≤ 60 ∧ (es.getD i dAt).value.size ≤ 60)) (fun _ wr => msr wr b)
    case atStart => exact ⟨L + 1, na, r5, [], none, 0, 0, rfl, hbn, by omega, HF, S5.out, R5.out, X5'.out, World.ownsRow_nil _ _ _ _, fun _ => rfl, fun g hg => by simp [Value.ownBlock] at hg, by omega, fun i => by simp [dAt]⟩
    case round =>
      obtain ⟨f, n, q, es, a, m, c, rfl, hn, hf, HQ, hS, hR, hX, hown, hnil, hap, hm, hsz⟩ := hrel
      have SS := Lib.hid hS
      have RR := Lib.hid hR
      have XX := Lib.hid hX
      have OO := Lib.hid hown
      have AP := Lib.hid hap
      have NIL := Lib.hid hnil
      have SZ := Lib.hid hsz
      have q2 := hS.rd.c2
      have hlt' := hS.rd.lt
      have HM := Lib.hid (msr_is hS.rd)
      clear hS hR hX hown hap hnil hsz
      by_cases hgo : 0 < n ∧ q.bad = false
      · obtain ⟨hn1, hbad⟩ := hgo
        rw [hbad] at q2
        have hl1 : 1 ≤ left q := by unfold left; rw [hbad]; simp
        obtain ⟨f', rfl⟩ : ∃ f', f = f' + 1 := ⟨f - 1, by omega⟩
        have hF := HQ.out
        rw [rdA_go ⟨hn1, hbad⟩] at hF
        have hle1 := (txtR_left ts q).2 hbad
        have hle2 := (txtR_left ts (txtR ts q)).1
        have M1 := Lib.hid (KT.out q)
        have M2 := Lib.hid (KT.out (txtR ts q))
        have t1 := HTX.out q
        have t2 := HTX.out (txtR ts q)
        generalize txtV ts q = n1 at *
        generalize txtV ts (txtR ts q) = v1 at *
        generalize txtR ts (txtR ts q) = qq at *
        generalize txtR ts q = q1 at *
        have HF2 := Lib.hid hF
        clear hF
        go_wp2_with fail
        refine (M1.out _ SS.out).mono ?_
        rintro e w6 ⟨rfl, s6, g6⟩
        have S6 := Lib.hid s6
        have R6 := Lib.hid (RR.out.grown g6 hxne)
        have X6 := Lib.hid (XX.out.grown g6 hx1)
        have O6 := Lib.hid (row_kept OO.out g6 (fun e => by have := (OO.out.lt b e).1; omega))
        clear s6 g6 q2
        go_wp2_with fail
        refine (M2.out _ S6.out).mono ?_
        rintro e w7 ⟨rfl, s7, g7⟩
        have S7 := Lib.hid s7
        have R7 := Lib.hid (R6.out.grown g7 hxne)
        have X7 := Lib.hid (X6.out.grown g7 hx1)
        have O7 := Lib.hid (row_kept O6.out g7 (fun e => by have := (O6.out.lt b e).1; omega))
        have p4 := X7.out.c4
        have hzw : w1.heap.size < w7.heap.size := X7.out.lt
        clear s7 g7
        go_wp2_with (at_builtin; refine wpList_append_own_at _ rfl _ _ 66 rfl w.heap.size 73 i0 (.agg #[.string ByteArray.empty, .string ByteArray.empty]) 2 32 Tryz.underlying66 hi hz0 hi1 hz2 rfl (by decide) _ m _ rfl (O7.out.alloc _) ⟨w7.heap.size, 0, none⟩ 1 1 [.string n1, .string v1] rfl rfl ?c1 ?c2 ?c3 ?c4 ?c5 ?_)
        case c1 => exact attCells w7 n1 v1
        case c2 => intro v hv; simp at hv; rcases hv with rfl | rfl <;> rfl
        case c3 => unfold maxLen; omega
        case c4 => omega
        case c5 => have := S7.out.gr.size; simp; omega
        intro v' w8 hown' hgrow hvn hat
        obtain ⟨a8, c8, rfl⟩ := owns_slice hown'
        have hown8 : w8.ownsRow w.heap.size 73 2 (.slice a8 (m + 1) c8) (m + 1) (flatA (es ++ [⟨n1, v1⟩])) := by rw [flatA_snoc]; exact hown'
        have hap8 : ∀ g, (Value.slice a8 (m + 1) c8).ownBlock = some g → g ≠ w.heap.size ∧ g ≠ w1.heap.size := by
          intro g hg
          rcases hat with e | e
          · exact AP.out g (e ▸ hg)
          · rw [e] at hg
            simp at hg
            omega
        have hnil8 : a8 = none → c8 = 0 := by
          intro e
          subst e
          rcases hown'.2 with ⟨hv, h0⟩ | ⟨g, cap, cur, hv, _⟩
          · omega
          · cases hv
        have ne1 : some w.heap.size ≠ (Value.slice a m c).ownBlock := fun e => (AP.out _ e.symm).1 rfl
        have ne2 : some w1.heap.size ≠ (Value.slice a m c).ownBlock := fun e => (AP.out _ e.symm).2 rfl
        have S8 := (S7.out.below (below1 w7 (.cells #[.string n1, .string v1] 73))).far HE.out hgrow (fun g hg => (O7.out.lt g hg).1)
        have R8 := (R7.out.grown (World.grownBy_alloc w7 (.cells #[.string n1, .string v1] 73) none) (by simp)).grown hgrow ne1
        have X8 := (X7.out.grown (World.grownBy_alloc w7 (.cells #[.string n1, .string v1] 73) none) (by simp)).grown hgrow ne2
        have p48 := X8.c4
        have pf8 := X8.fz 4 (by decide)
        have pl8 := X8.lt
        have hw1 : w.heap.size ≤ w1.heap.size := by omega
        have S9 := Lib.hid (S8.set HE.out ⟨w1.heap.size, 4, none⟩ (.slice a8 (m + 1) c8) hw1)
        have R9 := Lib.hid (R8.grown (grown_set w8 ⟨w1.heap.size, 4, none⟩ (.slice a8 (m + 1) c8)) (by simp; omega))
        have X9 : Hid (X5 (w8.setCell ⟨w1.heap.size, 4, none⟩ (.slice a8 (m + 1) c8)) w1.heap.size (.int .i64 d) (.string ⟨#[]⟩) (.string sp) (.string nm) (.slice a8 (m + 1) c8)) := Lib.hid (by simpa using X8.set 4 (.slice a8 (m + 1) c8) (by decide))
        have O9 := Lib.hid (row_kept hown8 (grown_set w8 ⟨w1.heap.size, 4, none⟩ (.slice a8 (m + 1) c8)) (fun e => (hap8 _ e).2 rfl))
        have AP9 := Lib.hid hap8
        have NIL9 := Lib.hid hnil8
        have SZ9 := Lib.hid (sizes_snoc SZ.out t1 t2)
        have HM9 := Lib.hid (msr_is S9.out.rd)
        clear hown' hgrow hvn hat hown8 hap8 hnil8 S8 R8 X8 p4
        go_wp2
        go_roundw
        case rel => exact ⟨f', n - 1, qq, es ++ [⟨n1, v1⟩], a8, m + 1, c8, by go_num, by omega, by omega, HF2, S9.out, R9.out, X9.out, O9.out, NIL9.out, AP9.out, by omega, SZ9.out⟩
        case measure => rw [HM9.out, HM.out]; omega
      · have hF := HQ.out
        rw [rdA_stop hgo] at hF
        have hS2 := SS.out
        have hcs : n ≤ 0 ∨ (0 < n ∧ q.bad = true) := by
          by_cases h1 : 0 < n
          · refine .inr ⟨h1, ?_⟩
            cases hb : q.bad
            · exact absurd ⟨h1, hb⟩ hgo
            · rfl
          · exact .inl (by omega)
        clear hgo
        rcases hcs with hn0 | ⟨hn1, hbt⟩
        · obtain rfl : n = 0 := by omega
          have hE1 : E = es := by rw [← HE2.out, ← hF]
          have hG1 : (if kd ≠ 1 ∨ nm.toList.isEmpty = true then (⟨q.xs, true⟩ : Rd) else q) = G := by rw [← HG.out, ← hF]
          have HG1 := Lib.hid hG1
          subst hE1
          clear hG1
          have q3 := hS2.rd.f2
          have q4 := hS2.rd.lt
          have xn3 := XX.out.c3
          have hm2 : m ≤ 3001 := by omega
          clear hF
          by_cases hk1 : kd = 1
          · have hk1' : (kd != 1) = false := by rw [hk1]; rfl
            cases hne0 : nm.toList.isEmpty
            · have x0 := (XX.out).c0
              have x1 := (XX.out).c1
              have x2 := (XX.out).c2
              have x3 := (XX.out).c3
              have x4 := (XX.out).c4
              have y0 := (RR.out).c0
              have y1 := (RR.out).c1
              have y2 := (RR.out).c2
              have y3 := (RR.out).c3
              have y4 := (RR.out).c4
              have yf0 := (RR.out).fz 0 (by decide)
              have yf1 := (RR.out).fz 1 (by decide)
              have yf2 := (RR.out).fz 2 (by decide)
              have yf3 := (RR.out).fz 3 (by decide)
              have yf4 := (RR.out).fz 4 (by decide)
              have Z := (RR.out).fill (.int .i64 d) (.string ⟨#[]⟩) (.string sp) (.string nm) (.slice a m c)
              have z0 := Z.c0
              have z1 := Z.c1
              have z2 := Z.c2
              have z3 := Z.c3
              have z4 := Z.c4
              go_wp2
              exact bodyPost_ret (v := .agg #[.int .i64 d, .string ⟨#[]⟩, .string sp, .string nm, .slice a m c]) (by simp [results, Tryz.results44, go_sem, z0, z1, z2, z3, z4]) rfl
                ⟨a, m, c, rfl, ownAts_of (owns_fill (OO.out) w.heap.size (fun e => (AP.out _ e).1 rfl) _ _ _ _ _) (by omega) (fun i => by have := SZ.out i; omega), NIL.out, by rw [← HG1.out, if_neg (fun h => by rcases h with h | h; exact h hk1; rw [hne0] at h; cases h)]; exact SS.out.fill HE.out _ (Nat.le_refl _) _ _ _ _ _⟩
            · have x0 := (XX.out.grown (grown_set wr ⟨b, 2, none⟩ (.bool true)) hx1).c0
              have x1 := (XX.out.grown (grown_set wr ⟨b, 2, none⟩ (.bool true)) hx1).c1
              have x2 := (XX.out.grown (grown_set wr ⟨b, 2, none⟩ (.bool true)) hx1).c2
              have x3 := (XX.out.grown (grown_set wr ⟨b, 2, none⟩ (.bool true)) hx1).c3
              have x4 := (XX.out.grown (grown_set wr ⟨b, 2, none⟩ (.bool true)) hx1).c4
              have y0 := (RR.out.grown (grown_set wr ⟨b, 2, none⟩ (.bool true)) hxne).c0
              have y1 := (RR.out.grown (grown_set wr ⟨b, 2, none⟩ (.bool true)) hxne).c1
              have y2 := (RR.out.grown (grown_set wr ⟨b, 2, none⟩ (.bool true)) hxne).c2
              have y3 := (RR.out.grown (grown_set wr ⟨b, 2, none⟩ (.bool true)) hxne).c3
              have y4 := (RR.out.grown (grown_set wr ⟨b, 2, none⟩ (.bool true)) hxne).c4
              have yf0 := (RR.out.grown (grown_set wr ⟨b, 2, none⟩ (.bool true)) hxne).fz 0 (by decide)
              have yf1 := (RR.out.grown (grown_set wr ⟨b, 2, none⟩ (.bool true)) hxne).fz 1 (by decide)
              have yf2 := (RR.out.grown (grown_set wr ⟨b, 2, none⟩ (.bool true)) hxne).fz 2 (by decide)
              have yf3 := (RR.out.grown (grown_set wr ⟨b, 2, none⟩ (.bool true)) hxne).fz 3 (by decide)
              have yf4 := (RR.out.grown (grown_set wr ⟨b, 2, none⟩ (.bool true)) hxne).fz 4 (by decide)
              have Z := (RR.out.grown (grown_set wr ⟨b, 2, none⟩ (.bool true)) hxne).fill (.int .i64 d) (.string ⟨#[]⟩) (.string sp) (.string nm) (.slice a m c)
              have z0 := Z.c0
              have z1 := Z.c1
              have z2 := Z.c2
              have z3 := Z.c3
              have z4 := Z.c4
              go_wp2
              exact bodyPost_ret (v := .agg #[.int .i64 d, .string ⟨#[]⟩, .string sp, .string nm, .slice a m c]) (by simp [results, Tryz.results44, go_sem, z0, z1, z2, z3, z4]) rfl
                ⟨a, m, c, rfl, ownAts_of (owns_fill (row_kept OO.out (grown_set wr ⟨b, 2, none⟩ (.bool true)) (fun e => by have := (OO.out.lt b e).1; omega)) w.heap.size (fun e => (AP.out _ e).1 rfl) _ _ _ _ _) (by omega) (fun i => by have := SZ.out i; omega), NIL.out, by rw [← HG1.out, if_pos (Or.inr hne0)]; exact SS.out.setBad.fill HE.out _ (Nat.le_refl _) _ _ _ _ _⟩
          · have hk1' : (kd != 1) = true := by rw [bne_iff_ne]; exact hk1
            have x0 := (XX.out.grown (grown_set wr ⟨b, 2, none⟩ (.bool true)) hx1).c0
            have x1 := (XX.out.grown (grown_set wr ⟨b, 2, none⟩ (.bool true)) hx1).c1
            have x2 := (XX.out.grown (grown_set wr ⟨b, 2, none⟩ (.bool true)) hx1).c2
            have x3 := (XX.out.grown (grown_set wr ⟨b, 2, none⟩ (.bool true)) hx1).c3
            have x4 := (XX.out.grown (grown_set wr ⟨b, 2, none⟩ (.bool true)) hx1).c4
            have y0 := (RR.out.grown (grown_set wr ⟨b, 2, none⟩ (.bool true)) hxne).c0
            have y1 := (RR.out.grown (grown_set wr ⟨b, 2, none⟩ (.bool true)) hxne).c1
            have y2 := (RR.out.grown (grown_set wr ⟨b, 2, none⟩ (.bool true)) hxne).c2
            have y3 := (RR.out.grown (grown_set wr ⟨b, 2, none⟩ (.bool true)) hxne).c3
            have y4 := (RR.out.grown (grown_set wr ⟨b, 2, none⟩ (.bool true)) hxne).c4
            have yf0 := (RR.out.grown (grown_set wr ⟨b, 2, none⟩ (.bool true)) hxne).fz 0 (by decide)
            have yf1 := (RR.out.grown (grown_set wr ⟨b, 2, none⟩ (.bool true)) hxne).fz 1 (by decide)
            have yf2 := (RR.out.grown (grown_set wr ⟨b, 2, none⟩ (.bool true)) hxne).fz 2 (by decide)
            have yf3 := (RR.out.grown (grown_set wr ⟨b, 2, none⟩ (.bool true)) hxne).fz 3 (by decide)
            have yf4 := (RR.out.grown (grown_set wr ⟨b, 2, none⟩ (.bool true)) hxne).fz 4 (by decide)
            have Z := (RR.out.grown (grown_set wr ⟨b, 2, none⟩ (.bool true)) hxne).fill (.int .i64 d) (.string ⟨#[]⟩) (.string sp) (.string nm) (.slice a m c)
            have z0 := Z.c0
            have z1 := Z.c1
            have z2 := Z.c2
            have z3 := Z.c3
            have z4 := Z.c4
            go_wp2
            exact bodyPost_ret (v := .agg #[.int .i64 d, .string ⟨#[]⟩, .string sp, .string nm, .slice a m c]) (by simp [results, Tryz.results44, go_sem, z0, z1, z2, z3, z4]) rfl
              ⟨a, m, c, rfl, ownAts_of (owns_fill (row_kept OO.out (grown_set wr ⟨b, 2, none⟩ (.bool true)) (fun e => by have := (OO.out.lt b e).1; omega)) w.heap.size (fun e => (AP.out _ e).1 rfl) _ _ _ _ _) (by omega) (fun i => by have := SZ.out i; omega), NIL.out, by rw [← HG1.out, if_pos (Or.inl hk1)]; exact SS.out.setBad.fill HE.out _ (Nat.le_refl _) _ _ _ _ _⟩
        · rw [hbt] at q2
          have hE1 : E = es := by rw [← HE2.out, ← hF]
          have hG1 : (if kd ≠ 1 ∨ nm.toList.isEmpty = true then (⟨q.xs, true⟩ : Rd) else q) = G := by rw [← HG.out, ← hF]
          have HG1 := Lib.hid hG1
          subst hE1
          clear hG1
          have q3 := hS2.rd.f2
          have q4 := hS2.rd.lt
          have xn3 := XX.out.c3
          have hm2 : m ≤ 3001 := by omega
          clear hF
          by_cases hk1 : kd = 1
          · have hk1' : (kd != 1) = false := by rw [hk1]; rfl
            cases hne0 : nm.toList.isEmpty
            · have x0 := (XX.out).c0
              have x1 := (XX.out).c1
              have x2 := (XX.out).c2
              have x3 := (XX.out).c3
              have x4 := (XX.out).c4
              have y0 := (RR.out).c0
              have y1 := (RR.out).c1
              have y2 := (RR.out).c2
              have y3 := (RR.out).c3
              have y4 := (RR.out).c4
              have yf0 := (RR.out).fz 0 (by decide)
              have yf1 := (RR.out).fz 1 (by decide)
              have yf2 := (RR.out).fz 2 (by decide)
              have yf3 := (RR.out).fz 3 (by decide)
              have yf4 := (RR.out).fz 4 (by decide)
              have Z := (RR.out).fill (.int .i64 d) (.string ⟨#[]⟩) (.string sp) (.string nm) (.slice a m c)
              have z0 := Z.c0
              have z1 := Z.c1
              have z2 := Z.c2
              have z3 := Z.c3
              have z4 := Z.c4
              go_wp2
              exact bodyPost_ret (v := .agg #[.int .i64 d, .string ⟨#[]⟩, .string sp, .string nm, .slice a m c]) (by simp [results, Tryz.results44, go_sem, z0, z1, z2, z3, z4]) rfl
                ⟨a, m, c, rfl, ownAts_of (owns_fill (OO.out) w.heap.size (fun e => (AP.out _ e).1 rfl) _ _ _ _ _) (by omega) (fun i => by have := SZ.out i; omega), NIL.out, by rw [← HG1.out, if_neg (fun h => by rcases h with h | h; exact h hk1; rw [hne0] at h; cases h)]; exact SS.out.fill HE.out _ (Nat.le_refl _) _ _ _ _ _⟩
            · have x0 := (XX.out.grown (grown_set wr ⟨b, 2, none⟩ (.bool true)) hx1).c0
              have x1 := (XX.out.grown (grown_set wr ⟨b, 2, none⟩ (.bool true)) hx1).c1
              have x2 := (XX.out.grown (grown_set wr ⟨b, 2, none⟩ (.bool true)) hx1).c2
              have x3 := (XX.out.grown (grown_set wr ⟨b, 2, none⟩ (.bool true)) hx1).c3
              have x4 := (XX.out.grown (grown_set wr ⟨b, 2, none⟩ (.bool true)) hx1).c4
              have y0 := (RR.out.grown (grown_set wr ⟨b, 2, none⟩ (.bool true)) hxne).c0
              have y1 := (RR.out.grown (grown_set wr ⟨b, 2, none⟩ (.bool true)) hxne).c1
              have y2 := (RR.out.grown (grown_set wr ⟨b, 2, none⟩ (.bool true)) hxne).c2
              have y3 := (RR.out.grown (grown_set wr ⟨b, 2, none⟩ (.bool true)) hxne).c3
              have y4 := (RR.out.grown (grown_set wr ⟨b, 2, none⟩ (.bool true)) hxne).c4
              have yf0 := (RR.out.grown (grown_set wr ⟨b, 2, none⟩ (.bool true)) hxne).fz 0 (by decide)
              have yf1 := (RR.out.grown (grown_set wr ⟨b, 2, none⟩ (.bool true)) hxne).fz 1 (by decide)
              have yf2 := (RR.out.grown (grown_set wr ⟨b, 2, none⟩ (.bool true)) hxne).fz 2 (by decide)
              have yf3 := (RR.out.grown (grown_set wr ⟨b, 2, none⟩ (.bool true)) hxne).fz 3 (by decide)
              have yf4 := (RR.out.grown (grown_set wr ⟨b, 2, none⟩ (.bool true)) hxne).fz 4 (by decide)
              have Z := (RR.out.grown (grown_set wr ⟨b, 2, none⟩ (.bool true)) hxne).fill (.int .i64 d) (.string ⟨#[]⟩) (.string sp) (.string nm) (.slice a m c)
              have z0 := Z.c0
              have z1 := Z.c1
              have z2 := Z.c2
              have z3 := Z.c3
              have z4 := Z.c4
              go_wp2
              exact bodyPost_ret (v := .agg #[.int .i64 d, .string ⟨#[]⟩, .string sp, .string nm, .slice a m c]) (by simp [results, Tryz.results44, go_sem, z0, z1, z2, z3, z4]) rfl
                ⟨a, m, c, rfl, ownAts_of (owns_fill (row_kept OO.out (grown_set wr ⟨b, 2, none⟩ (.bool true)) (fun e => by have := (OO.out.lt b e).1; omega)) w.heap.size (fun e => (AP.out _ e).1 rfl) _ _ _ _ _) (by omega) (fun i => by have := SZ.out i; omega), NIL.out, by rw [← HG1.out, if_pos (Or.inr hne0)]; exact SS.out.setBad.fill HE.out _ (Nat.le_refl _) _ _ _ _ _⟩
          · have hk1' : (kd != 1) = true := by rw [bne_iff_ne]; exact hk1
            have x0 := (XX.out.grown (grown_set wr ⟨b, 2, none⟩ (.bool true)) hx1).c0
            have x1 := (XX.out.grown (grown_set wr ⟨b, 2, none⟩ (.bool true)) hx1).c1
            have x2 := (XX.out.grown (grown_set wr ⟨b, 2, none⟩ (.bool true)) hx1).c2
            have x3 := (XX.out.grown (grown_set wr ⟨b, 2, none⟩ (.bool true)) hx1).c3
            have x4 := (XX.out.grown (grown_set wr ⟨b, 2, none⟩ (.bool true)) hx1).c4
            have y0 := (RR.out.grown (grown_set wr ⟨b, 2, none⟩ (.bool true)) hxne).c0
            have y1 := (RR.out.grown (grown_set wr ⟨b, 2, none⟩ (.bool true)) hxne).c1
            have y2 := (RR.out.grown (grown_set wr ⟨b, 2, none⟩ (.bool true)) hxne).c2
            have y3 := (RR.out.grown (grown_set wr ⟨b, 2, none⟩ (.bool true)) hxne).c3
            have y4 := (RR.out.grown (grown_set wr ⟨b, 2, none⟩ (.bool true)) hxne).c4
            have yf0 := (RR.out.grown (grown_set wr ⟨b, 2, none⟩ (.bool true)) hxne).fz 0 (by decide)
            have yf1 := (RR.out.grown (grown_set wr ⟨b, 2, none⟩ (.bool true)) hxne).fz 1 (by decide)
            have yf2 := (RR.out.grown (grown_set wr ⟨b, 2, none⟩ (.bool true)) hxne).fz 2 (by decide)
            have yf3 := (RR.out.grown (grown_set wr ⟨b, 2, none⟩ (.bool true)) hxne).fz 3 (by decide)
            have yf4 := (RR.out.grown (grown_set wr ⟨b, 2, none⟩ (.bool true)) hxne).fz 4 (by decide)
            have Z := (RR.out.grown (grown_set wr ⟨b, 2, none⟩ (.bool true)) hxne).fill (.int .i64 d) (.string ⟨#[]⟩) (.string sp) (.string nm) (.slice a m c)
            have z0 := Z.c0
            have z1 := Z.c1
            have z2 := Z.c2
            have z3 := Z.c3
            have z4 := Z.c4
            go_wp2
            exact bodyPost_ret (v := .agg #[.int .i64 d, .string ⟨#[]⟩, .string sp, .string nm, .slice a m c]) (by simp [results, Tryz.results44, go_sem, z0, z1, z2, z3, z4]) rfl
              ⟨a, m, c, rfl, ownAts_of (owns_fill (row_kept OO.out (grown_set wr ⟨b, 2, none⟩ (.bool true)) (fun e => by have := (OO.out.lt b e).1; omega)) w.heap.size (fun e => (AP.out _ e).1 rfl) _ _ _ _ _) (by omega) (fun i => by have := SZ.out i; omega), NIL.out, by rw [← HG1.out, if_pos (Or.inl hk1)]; exact SS.out.setBad.fill HE.out _ (Nat.le_refl _) _ _ _ _ _⟩
end Go.Proofs.YtbfjhjkllaceaaaGreatDoor

/- The laws' draws of attributes. -/
namespace Go.Proofs.YtbfjhjkllaceaaaGreatDoor
open Go.ChangeShapes Go.WideShapes Go.ChangeAt Go.RowKit
set_option linter.unusedVariables false

/-- texts of no more than 60 bytes -/
def ShortAts (es : List At) : Prop := ∀ i, (es.getD i dAt).name.size ≤ 60 ∧ (es.getD i dAt).value.size ≤ 60
/-- some attributes are drawn -/
def AttsDrawn (w : World) (b : Nat) (a : Option Addr) (n c : Nat) (xs : List Int) (k : Nat) (en : Ending) (w' : World) : Prop :=
  ∃ (x : Option Addr) (m q : Nat) (es : List At) (k' : Nat), en = .returned (.slice x m q) ∧ w'.ownsRow w.heap.size 73 2 (.slice x m q) m (flatA es) ∧ m ≤ 5 ∧ es.length = m ∧ ShortAts es ∧ (x = none → q = 0) ∧ k' ≤ k + 40 ∧ Src w' b a n c xs k' ∧ w.grownBy w' (some b)
/-- k words in block nb -/
def WordsAt (w : World) (nb k : Nat) (f : Nat → ByteArray) : Prop := ∀ r, r < k → w.cell? ⟨nb, r, none⟩ = some (.string (f r))
theorem WordsAt.grown {w w' : World} {nb k : Nat} {f : Nat → ByteArray} {row : Option Nat} (h : WordsAt w nb k f) (hg : w.grownBy w' row) (hne : some nb ≠ row) : WordsAt w' nb k f := fun r hr => hg.cell (h r hr) hne
theorem words_at {w w1 : World} {arr : Array Value} {e : TypeId} (hb : Below (w.alloc (.cells arr e)).heap.size (w.alloc (.cells arr e)) w1) (m k : Nat) (hall : (List.range k).all (fun r => isWord m arr[r]?) = true) :
    ∃ f : Nat → ByteArray, WordsAt w1 w.heap.size k f ∧ ∀ r, r < k → (f r).size ≤ m := by
  have h := words_of hb m k hall
  refine ⟨fun r => if hr : r < k then (h r hr).choose else ByteArray.empty, fun r hr => ?_, fun r hr => ?_⟩
  · simp only [hr, dif_pos]
    exact (h r hr).choose_spec.1
  · simp only [hr, dif_pos]
    exact (h r hr).choose_spec.2
theorem lit_atts (w : World) : (w.alloc (.cells #[] 73)).ownsRow w.heap.size 73 2 (.slice (some ⟨w.heap.size, 0, none⟩) 0 0) 0 (flatA []) := by
  have := World.ownsRow_lit (base := w.heap.size) (e := 73) (size := 2) w #[] 0 (Nat.le_refl _) (by unfold maxLen; omega) rfl
  exact this
theorem row_grown {w w' : World} {base : Nat} {e : TypeId} {size : Nat} {v : Value} {n : Nat} {xs : List Value} {b : Nat} (h : w.ownsRow base e size v n xs) (hg : w.grownBy w' (some b)) (hb : b < base) : w'.ownsRow base e size v n xs :=
  row_kept h hg (fun e => by have := (h.lt _ e).1; omega)

set_option maxRecDepth 100000 in
set_option maxHeartbeats 3200000 in
theorem l4DrawAttrs_any (b : Nat) (a : Option Addr) (n c : Nat) (xs : List Int) (k : Nat) (hk : k + 100 < 1000000) (w : World) (h : Src w b a n c xs k) :
    Calls Tryz.prog 81 #[.pointer (some ⟨b, 0, none⟩)] w (AttsDrawn w b a n c xs k) := by
  obtain ⟨i0, hi, hz0, hi1, hz2⟩ := info_parts attrInfo
  unfold AttsDrawn
  have hblt := h.lt
  have HS0 := Lib.hid h
  have KC := Lib.hid (fun (k : Nat) (hk : k < 1000000) (W : World) (h : Src W b a n c xs k) => l1Chance_any b a n c xs k 4 (by decide) (by decide) hk W h)
  have KD := Lib.hid (fun (k : Nat) (hk : k + 6 < 1000000) (W : World) (h : Src W b a n c xs k) => l1DrawText_any b a n c xs k 5 (by decide) (by omega) W h)
  unfold TextDrawn at KD
  simp only [show ((5 : Nat) : Int) = 5 from rfl] at KD
  have HR0 := Lib.hid (lit_atts w)
  clear h
  go_enter Tryz.func81, Tryz.ntmps81
  go_wp2
  generalize hW : (w.alloc (.cells #[] 73)).alloc _ = W1
  obtain ⟨f, hf, hfs⟩ : ∃ f, WordsAt W1 (w.heap.size + 1) 5 f ∧ ∀ r, r < 5 → (f r).size ≤ 60 := by
    rw [← hW]
    have h := words_at (w := w.alloc (.cells #[] 73)) (arr := #[.string ⟨#[97]⟩, .string ⟨#[98]⟩, .string ⟨#[105, 100]⟩, .string ⟨#[116, 111]⟩, .string ⟨#[120, 109, 108, 58, 108, 97, 110, 103]⟩]) (e := 9) (Below.refl _ _) 60 5 (by decide +kernel)
    have e : (w.alloc (.cells #[] 73)).heap.size = w.heap.size + 1 := by simp
    rw [e] at h
    exact h
  have hb1 : Below w.heap.size w W1 := by rw [← hW]; exact below2 w _ _
  have hz1 : w.heap.size + 2 = W1.heap.size := by rw [← hW]; simp
  have HR1 : Hid (W1.ownsRow w.heap.size 73 2 (.slice (some ⟨w.heap.size, 0, none⟩) 0 0) 0 (flatA [])) := Lib.hid (by rw [← hW]; exact owns_below HR0.out (below1 _ _))
  have HS1 := Lib.hid (HS0.out.below hb1)
  have HB1 := Lib.hid hb1
  have HF := Lib.hid hf
  have HFS := Lib.hid hfs
  clear hW hf hfs hb1
  go_loopw [3, 10] (fun v i wr => ∃ (j m q : Nat) (x : Option Addr) (es : List At) (k' : Nat), i = .int .i64 j ∧ j ≤ 5 ∧ v = .slice x m q ∧ m ≤ j ∧ Hid (es.length = m) ∧ ShortAts es ∧ (x = none → q = 0) ∧ k' ≤ k + 8 * j ∧ wr.ownsRow w.heap.size 73 2 (.slice x m q) m (flatA es) ∧ (∀ g, (Value.slice x m q).ownBlock = some g → g ≠ w.heap.size + 1) ∧ Src wr b a n c xs k' ∧ w.grownBy wr (some b) ∧ WordsAt wr (w.heap.size + 1) 5 f ∧ w.heap.size + 2 ≤ wr.heap.size) (fun _ i _ => 5 - (intOf i).toNat)
  case atStart => exact ⟨0, 0, 0, _, [], k, rfl, by omega, rfl, Nat.le_refl _, Lib.hid rfl, fun i => by simp [dAt], fun e => (by cases e), by omega, HR1.out, fun g hg => by simp [Value.ownBlock] at hg; omega, HS1.out, grown_of_below HB1.out _, HF.out, by omega⟩
  case round =>
    obtain ⟨j, m, q, x, es, k', rfl, hj, rfl, hm, HL, hsh, hnil, hk', hrow, hap, hs, hg, hwd, hsz⟩ := hrel
    have HSH := Lib.hid hsh
    have HNIL := Lib.hid hnil
    have HROW := Lib.hid hrow
    have HAP := Lib.hid hap
    have HS := Lib.hid hs
    have HG := Lib.hid hg
    have HWD := Lib.hid hwd
    clear hsh hnil hrow hap hs hg hwd
    by_cases hlt : j < 5
    · have KC1 := Lib.hid (KC.out k' (by omega) wr HS.out)
      have k7 : (j : Int) < 5 := by omega
      go_wp2_with fail
      refine KC1.out.mono ?_
      rintro e w2 ⟨⟨t, rfl⟩, hs2, hg2⟩
      have HS2 := Lib.hid hs2
      have HG2 := Lib.hid (grown_trans_row HG.out hg2)
      have HWD2 := Lib.hid (HWD.out.grown hg2 (by simp; omega))
      have HR2 := Lib.hid (row_grown HROW.out hg2 hblt)
      have hsz2 : w.heap.size + 2 ≤ w2.heap.size := Nat.le_trans hsz hg2.size
      clear hs2 hg2
      cases t
      · go_wp2
        go_roundw
        case rel => exact ⟨j + 1, m, q, x, es, k' + 1, by go_num, by omega, rfl, by omega, HL, HSH.out, HNIL.out, by omega, HR2.out, HAP.out, HS2.out, HG2.out, HWD2.out, hsz2⟩
        case measure => simp [intOf]; omega
      · have d1 := HWD2.out j hlt
        have hnm := HFS.out j hlt
        generalize f j = nm at d1 hnm
        go_wp2
        have HSD := Lib.hid (HS2.out.below (Below.refl w2.heap.size w2).drew)
        have HRD := Lib.hid (ownsDrew HR2.out)
        have hS0 : w2.drew.cell? ⟨w.heap.size + 1, j, none⟩ = some (.string nm) := d1
        have hne : some (w.heap.size + 1) ≠ some b := by simp; omega
        first | (go_region_held3 (fun W => W.cell? ⟨w.heap.size + 1, j, none⟩ = some (.string nm)) (first | assumption | exact ((below1 _ _).cell (World.block_lt_of_cell? _ _ (by assumption))).trans (by assumption))
          (first
            | (go_at_call 59; (with_reducible refine (KD.out _ (by omega) _ HSD.out).mono ?_); rintro e w5 ⟨s, k5, rfl, hs5, hk5, hsr5, hg5⟩; have hS5 := hg5.cell hS0 hne; have HR5 := Lib.hid (row_grown HRD.out hg5 hblt))
            | (refine step_own_at (by rfl) _ _ 66 rfl 73 i0 (.agg #[.string ByteArray.empty, .string ByteArray.empty]) 2 32 Tryz.underlying66 hi hz0 hi1 hz2 rfl (by decide) w.heap.size _ m _ (by rfl) (HR5.out.alloc _) ⟨w5.heap.size, 0, none⟩ 1 1 [.string nm, .string s] (by rfl) rfl (attCells w5 nm s) (by intro v hv; simp at hv; rcases hv with rfl | rfl <;> rfl) (by unfold maxLen; omega) (by omega) (by have h1 : w2.heap.size ≤ w5.heap.size := hg5.size; simp; omega) ?_; intro v' w7 hown' hgr hat; obtain ⟨a8, c8, rfl⟩ := owns_slice hown'; have hS7 := hgr.cell (((below1 w5 _).cell (World.block_lt_of_cell? _ _ hS5)).trans hS5) (fun e => HAP.out _ e.symm rfl)))) | fail "NOHELD"
        have hown8 : w7.ownsRow w.heap.size 73 2 (.slice a8 (m + 1) c8) (m + 1) (flatA (es ++ [⟨nm, s⟩])) := by rw [flatA_snoc]; exact hown'
        have hnil8 : a8 = none → c8 = 0 := by
          intro e
          subst e
          rcases hown'.2 with ⟨hv, h0⟩ | ⟨g, cap, cur, hv, _⟩
          · omega
          · cases hv
        have hws5 : w2.heap.size ≤ w5.heap.size := hg5.size
        have hap8 : ∀ g, (Value.slice a8 (m + 1) c8).ownBlock = some g → g ≠ w.heap.size + 1 := by
          intro g hg
          rcases hat with e | e
          · exact HAP.out g (e ▸ hg)
          · rw [e] at hg
            simp at hg
            omega
        have HG7 := Lib.hid (step_appended (grown_trans_row HG2.out (grownDrew hg5)) (Nat.le_refl _) HR5.out hgr)
        have HS7 := Lib.hid ((hsr5.below (below1 w5 (.cells #[.string nm, .string s] 73))).grown hgr (fun g e => by have := (HR5.out.lt g e).1; omega))
        have HWD5 := HWD2.out.grown (grownDrew hg5) hne
        have HWD7 := Lib.hid ((HWD5.grown (World.grownBy_alloc w5 (.cells #[.string nm, .string s] 73) none) (by simp)).grown hgr (fun e => HAP.out _ e.symm rfl))
        have HR8 := Lib.hid hown8
        have HNIL8 := Lib.hid hnil8
        have HAP8 := Lib.hid hap8
        have HL8 : Hid ((es ++ [(⟨nm, s⟩ : At)]).length = m + 1) := Lib.hid (by rw [List.length_append, HL.out]; rfl)
        have HSH8 : Hid (ShortAts (es ++ [(⟨nm, s⟩ : At)])) := Lib.hid (sizes_snoc HSH.out hnm (by omega))
        have hsz7 : w.heap.size + 2 ≤ w7.heap.size := by have := hgr.size; simp at this; omega
        clear hown' hgr hat hown8 hnil8 hap8 HWD5 hsr5 hg5 hS0 hS5 hS7 d1
        go_wp2
        go_roundw
        case rel => exact ⟨j + 1, m + 1, c8, a8, _, k5, by go_num, by omega, rfl, by omega, HL8, HSH8.out, HNIL8.out, by omega, HR8.out, HAP8.out, HS7.out, HG7.out, HWD7.out, hsz7⟩
        case measure => simp [intOf]; omega
    · obtain rfl : j = 5 := by omega
      go_wp2
      go_ret
      exact ⟨x, m, q, es, k', rfl, HROW.out, hm, HL.out, HSH.out, HNIL.out, by omega, HS.out, HG.out⟩
end Go.Proofs.YtbfjhjkllaceaaaGreatDoor
