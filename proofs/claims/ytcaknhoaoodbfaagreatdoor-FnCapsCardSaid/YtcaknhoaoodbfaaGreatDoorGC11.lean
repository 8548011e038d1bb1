/- What is known of a disco's slices (cut out of XToD). -/
import Derived.Test.YtcaknhoaoodbfaaGreatDoorGC9
import Derived.Lib.FrozenHead2
import Derived.Laws.AppendOwnNone
import Derived.Maps.AppendAt
import Derived.Test.YtcaknhoaoodbfaaGreatDoorGC10
import Derived.Test.YtcaknhoaoodbfaaGreatDoorGC0
import Derived.Deep.RegionLaw
import Derived.Deep.RegionHeld3
namespace Go.Proofs.YtcaknhoaoodbfaaGreatDoor
open Go.ChangeShapes Go.WideShapes Go.ChangeAt Go.RowKit
set_option linter.unusedVariables false

theorem identInfo : (Tryz.prog.info? 54).map (fun i => (i.zero, i.size, i.bytes)) = some (some (.agg #[.string ByteArray.empty, .string ByteArray.empty, .string ByteArray.empty, .string ByteArray.empty]), 4, 64) := by kernel_rfl
theorem strInfoD : (Tryz.prog.info? 9).map (fun i => (i.zero, i.size, i.bytes)) = some (some (.string ByteArray.empty), 1, 16) := by kernel_rfl
/-- a block of two cells -/
structure TwoC (W : World) (b : Nat) (u v : Value) : Prop where
  lt : b < W.heap.size
  c0 : W.cell? ⟨b, 0, none⟩ = some u
  c1 : W.cell? ⟨b, 1, none⟩ = some v
  fz : ∀ i, W.frozen? ⟨b, i, none⟩ = false
theorem TwoC.new (w : World) (b : Nat) (T : TypeId) (u v : Value) (hb : b = w.heap.size) : TwoC (w.alloc (.cells #[u, v] T)) b u v := by
  subst hb
  have h : (w.alloc (.cells #[u, v] T)).heap[w.heap.size]? = some (.cells #[u, v] T (0, 0)) := heap_alloc_new w _
  exact ⟨by simp, by rw [Lib.cell_of_heap h]; rfl, by rw [Lib.cell_of_heap h]; rfl, fun i => Lib.frozen_of_heap h i⟩
theorem TwoC.below {W W' : World} {b : Nat} {u v : Value} (h : TwoC W b u v) (hb : Below W.heap.size W W') : TwoC W' b u v :=
  ⟨Nat.lt_of_lt_of_le h.lt hb.size, (hb.cell (by exact h.lt)).trans h.c0, (hb.cell (by exact h.lt)).trans h.c1, fun i => (hb.frozen (by exact h.lt)).trans (h.fz i)⟩
theorem TwoC.other {W : World} {b : Nat} {u v : Value} (h : TwoC W b u v) (p : Addr) (x : Value) (hp : p.block ≠ b) : TwoC (W.setCell p x) b u v :=
  ⟨by simpa using h.lt, (World.cell?_setCell_other _ _ _ _ (fun e => hp (by rw [e]))).trans h.c0, (World.cell?_setCell_other _ _ _ _ (fun e => hp (by rw [e]))).trans h.c1, fun i => by simpa using h.fz i⟩
theorem TwoC.set0 {W : World} {b : Nat} {u v : Value} (h : TwoC W b u v) (x : Value) : TwoC (W.setCell ⟨b, 0, none⟩ x) b x v :=
  ⟨by simpa using h.lt, World.cell?_setCell_same _ _ _ (by rw [h.c0]), (World.cell?_setCell_other _ _ _ _ (fun e => by simp at e)).trans h.c1, fun i => by simpa using h.fz i⟩
/-- what is known of a slice's spare room -/
def CapOk (a : Option Addr) (n c : Nat) : Prop := n ≤ c ∧ c ≤ maxLen ∧ (a = none → c = 0)
def IdsResC (w : World) (l : List Ident) (e : Ending) (w' : World) : Prop := ∃ a n c, e = .returned (.slice a n c) ∧ IdsAt w' a n c l ∧ CapOk a n c ∧ (∀ y, a = some y → w.heap.size ≤ y.block) ∧ Below w.heap.size w w'
def StsResC (w : World) (l : List ByteArray) (e : Ending) (w' : World) : Prop := ∃ a n c, e = .returned (.slice a n c) ∧ StsAt w' a n c l ∧ CapOk a n c ∧ (∀ y, a = some y → w.heap.size ≤ y.block) ∧ Below w.heap.size w w'
def DisResC (w : World) (d : Dis) (e : Ending) (w' : World) : Prop := ∃ a1 n1 c1 a2 n2 c2, e = .returned (.agg #[.slice a1 n1 c1, .slice a2 n2 c2]) ∧ DisAt w' a1 n1 c1 a2 n2 c2 d ∧ (CapOk a1 n1 c1 ∧ CapOk a2 n2 c2) ∧ Below w.heap.size w w'
theorem ids_step {w : World} {B j n : Nat} {l : List Ident} {s t u v : ByteArray} (hr : Room w B (n * 4)) (hj : j < n) (hx : l.getD j dId = ⟨s, t, u, v⟩)
    (hd : ∀ i, i < j → IdAt w B (i * 4) (l.getD i dId)) :
    ∀ i, i < j + 1 → IdAt ((((w.setCell ⟨B, j * 4, none⟩ (.string s)).setCell ⟨B, j * 4 + 1, none⟩ (.string t)).setCell ⟨B, j * 4 + 2, none⟩ (.string u)).setCell ⟨B, j * 4 + 3, none⟩ (.string v)) B (i * 4) (l.getD i dId) := by
  intro i hi
  rcases Nat.lt_or_ge i j with h | h
  · exact ((((hd i h).set (by omega)).set (by omega)).set (by omega)).set (by omega)
  · obtain rfl : i = j := by omega
    rw [hx]
    have r1 := hr.set ⟨B, i * 4, none⟩ (.string s)
    have r2 := r1.set ⟨B, i * 4 + 1, none⟩ (.string t)
    have r3 := r2.set ⟨B, i * 4 + 2, none⟩ (.string u)
    refine ⟨(r3.set _ _).1, ?_, ?_, ?_, ?_⟩
    · rw [set_off (by omega), set_off (by omega), set_off (by omega)]
      exact hr.put (by omega) _
    · rw [set_off (by omega), set_off (by omega)]
      exact r1.put (by omega) _
    · rw [set_off (by omega)]
      exact r2.put (by omega) _
    · exact r3.put (by omega) _
end Go.Proofs.YtcaknhoaoodbfaaGreatDoor

/- slices.Clone at identities, withoutNames. -/
namespace Go.Proofs.YtcaknhoaoodbfaaGreatDoor
open Go.ChangeShapes Go.WideShapes Go.ChangeAt Go.RowKit
set_option linter.unusedVariables false

def idCells (x : Ident) : List Value := [.string x.cat, .string x.kind, .string x.lang, .string x.name]
def idFlat (l : List Ident) : List Value := l.flatMap idCells
theorem idFlat_length (l : List Ident) : (idFlat l).length = l.length * 4 := by
  induction l with
  | nil => rfl
  | cons x l ih => simp only [idFlat, List.flatMap_cons, List.length_append] at ih ⊢; rw [ih]; simp [idCells]; omega
theorem idFlat_get : ∀ (l : List Ident) (i r : Nat), r < 4 → (idFlat l)[i * 4 + r]? = (l[i]?).bind fun x => (idCells x)[r]?
  | [], i, r, h => by simp [idFlat]
  | x :: l, 0, r, h => by
    have hl : (idCells x).length = 4 := rfl
    simp only [idFlat, List.flatMap_cons, Nat.zero_mul, Nat.zero_add]
    rw [List.getElem?_append_left (by omega)]
    rfl
  | x :: l, i + 1, r, h => by
    have hl : (idCells x).length = 4 := rfl
    simp only [idFlat, List.flatMap_cons]
    rw [List.getElem?_append_right (by omega), hl, show (i + 1) * 4 + r - 4 = i * 4 + r by omega]
    have := idFlat_get l i r h
    simp only [idFlat] at this
    rw [this]
    rfl
theorem idFlat_one (l : List Ident) : ∀ u ∈ idFlat l, u.oneCell' = true := by
  intro u hu
  obtain ⟨x, _, hx⟩ := List.mem_flatMap.1 hu
  simp [idCells] at hx
  rcases hx with rfl | rfl | rfl | rfl <;> rfl
theorem idFlat_cells {w : World} {b o : Nat} {l : List Ident} (h : ∀ i, i < l.length → IdAt w b (o + i * 4) (l.getD i dId)) : ∀ j u, (idFlat l)[j]? = some u → w.cell? (Addr.add ⟨b, o, none⟩ j) = some u := by
  intro j u hj
  have hlt : j < l.length * 4 := by
    rw [← idFlat_length]
    rcases Nat.lt_or_ge j (idFlat l).length with h1 | h1
    · exact h1
    · rw [List.getElem?_eq_none h1] at hj; cases hj
  obtain ⟨i, r, hr, rfl⟩ : ∃ i r, r < 4 ∧ j = i * 4 + r := ⟨j / 4, j % 4, Nat.mod_lt _ (by decide), by omega⟩
  rw [idFlat_get l i r hr] at hj
  have hi : i < l.length := by omega
  have hat := h i hi
  rw [List.getElem?_eq_getElem hi] at hj
  rw [List.getD_eq_getElem?_getD, List.getElem?_eq_getElem hi] at hat
  simp only [Option.bind_some, Option.getD_some] at hj hat
  rw [Addr.add_lit]
  match r, hr with
  | 0, _ => simp [idCells] at hj; subst hj; exact hat.c0
  | 1, _ => simp [idCells] at hj; subst hj; rw [← Nat.add_assoc]; exact hat.c1
  | 2, _ => simp [idCells] at hj; subst hj; rw [← Nat.add_assoc]; exact hat.c2
  | 3, _ => simp [idCells] at hj; subst hj; rw [← Nat.add_assoc]; exact hat.c3
/-- a row of identities of one's own -/
def OwnsIds (w : World) (l : List Ident) (e : Ending) (w' : World) : Prop := ∃ a n c, e = .returned (.slice a n c) ∧ w'.ownsRow w.heap.size 54 4 (.slice a n c) n (idFlat l) ∧ Below w.heap.size w w'
theorem ids_owned {w : World} {B n c : Nat} {a : Option Addr} {l : List Ident} (hl : l.length = n) (hn : n ≤ 1048576) (h : w.ownsRow B 54 4 (.slice a n c) n (idFlat l)) : IdsAt w a n c l := by
  refine ⟨hl, by omega, ?_⟩
  rcases h.2 with ⟨hv, h0⟩ | ⟨g, cap, cur, hv, hg, hh, hnc, hm, hs, ht⟩
  · exact .inl h0
  · simp only [Value.slice.injEq] at hv
    obtain ⟨rfl, _, rfl⟩ := hv
    refine .inr ⟨g, 0, rfl, fun i hi => ?_⟩
    have k : ∀ r, r < 4 → w.cell? ⟨g, i * 4 + r, none⟩ = (idCells (l.getD i dId))[r]? := fun r hr => by
      rw [h.cellAt (i * 4 + r) (by omega), idFlat_get l i r hr, List.getD_eq_getElem?_getD, List.getElem?_eq_getElem (by omega)]
      rfl
    rw [Nat.zero_add]
    exact ⟨(h.lt g rfl).2, k 0 (by decide), k 1 (by decide), k 2 (by decide), k 3 (by decide)⟩

theorem eqNilIT (w : World) : (binOp .eql 47 (.slice none 0 0) (.slice none 0 0)).run Tryz.prog w = .ok (.bool true) w := by kernel_rfl
theorem eqNilIF (x : Addr) (n c : Nat) (w : World) : (binOp .eql 47 (.slice (some x) n c) (.slice none 0 0)).run Tryz.prog w = .ok (.bool false) w := by kernel_rfl
set_option maxRecDepth 100000 in
set_option maxHeartbeats 1600000 in
theorem cloneI_any (a : Option Addr) (n c : Nat) (l : List Ident) (w : World) (hn : n ≤ 1048576) (hnil : a = none → c = 0) (h : IdsAt w a n c l) :
    Calls Tryz.prog 178 #[.slice a n c] w (OwnsIds w l) := by
  obtain ⟨i0, hi, hz0, hz1, hz2⟩ := info_parts identInfo
  have HL := Lib.hid h.len
  have HIN := Lib.hid (h.below (below1 w (.cells #[] 54)))
  have hl0 : (w.alloc (.cells #[] 54)).ownsRow w.heap.size 54 4 (.slice (some ⟨w.heap.size, 0, none⟩) 0 0) 0 [] := by
    have := World.ownsRow_lit (base := w.heap.size) (e := 54) (size := 4) w #[] 0 (Nat.le_refl _) (by unfold maxLen; omega) rfl
    simpa using this
  unfold OwnsIds
  cases a with
  | none =>
    obtain rfl : n = 0 := by
      rcases h.row with e | ⟨b5, o5, e5, _⟩
      · exact e
      · cases e5
    obtain rfl : c = 0 := hnil rfl
    obtain rfl : l = [] := List.length_eq_zero_iff.1 HL.out
    have hq := eqNilIT
    clear hnil h HL HIN hl0
    go_enter Tryz.func178, Tryz.ntmps178
    go_wp2
    go_ret
    exact ⟨_, _, _, rfl, by simpa [idFlat] using World.ownsRow_nil _ _ _ _, Below.refl _ _⟩
  | some ad =>
    have hq := eqNilIF
    have hflat : ∀ j u, (idFlat l)[j]? = some u → (w.alloc (.cells #[] 54)).cell? (ad.add j) = some u := by
      intro j u hj
      rcases HIN.out.row with e | ⟨b, o, e, hr⟩
      · have : (idFlat l).length = 0 := by rw [idFlat_length, HL.out, e]
        rw [List.getElem?_eq_none (by omega)] at hj
        cases hj
      · simp only [Option.some.injEq] at e
        subst e
        exact idFlat_cells (fun i hi => hr i (by have := HL.out; omega)) j u hj
    clear hnil h
    go_enter Tryz.func178, Tryz.ntmps178
    go_wp2_with (at_builtin; refine wpList_append_own _ rfl _ _ 47 rfl w.heap.size 54 i0 _ 4 64 Tryz.underlying47 hi hz0 hz1 hz2 rfl (by decide) _ 0 [] rfl hl0 ad n c (idFlat l) rfl ?c6 hflat (idFlat_one l) ?c3 ?c4 ?c5 ?_)
    case c6 => rw [idFlat_length, HL.out]
    case c3 => unfold maxLen; omega
    case c4 => omega
    case c5 => simp
    intro v' w1 hown hgrow _
    obtain ⟨a', c', rfl⟩ := owns_slice hown
    have HOWN := Lib.hid hown
    have HB := Lib.hid ((below1 w (.cells #[] 54)).grown hgrow (by simp) (fun j hj => by simp [Value.ownBlock] at hj; omega))
    clear hown hgrow hl0 hflat
    go_wp2
    go_ret
    exact ⟨_, _, _, rfl, by simpa using HOWN.out, HB.out⟩
end Go.Proofs.YtcaknhoaoodbfaaGreatDoor

/- The state of the laws' draw of a disco. -/
namespace Go.Proofs.YtcaknhoaoodbfaaGreatDoor
open Go.ChangeShapes Go.WideShapes Go.ChangeAt Go.RowKit
set_option linter.unusedVariables false

/-- a box of two cells -/
structure X2 (w : World) (x : Nat) (v0 v1 : Value) : Prop where
  lt : x < w.heap.size
  c0 : w.cell? ⟨x, 0, none⟩ = some v0
  c1 : w.cell? ⟨x, 1, none⟩ = some v1
  fz : ∀ i, i < 2 → w.frozen? ⟨x, i, none⟩ = false
theorem X2.grown {w w' : World} {x : Nat} {v0 v1 : Value} {row : Option Nat} (h : X2 w x v0 v1) (hg : w.grownBy w' row) (hne : some x ≠ row) : X2 w' x v0 v1 :=
  ⟨Nat.lt_of_lt_of_le h.lt hg.size, hg.cell h.c0 hne, hg.cell h.c1 hne, fun i hi => (hg.frozen_far ⟨x, i, none⟩ h.lt hne).trans (h.fz i hi)⟩
theorem X2.new (w : World) (T : TypeId) (v0 v1 : Value) : X2 (w.alloc (.cells #[v0, v1] T)) w.heap.size v0 v1 := ⟨by simp, by simp, by simp, fun i _ => by simp⟩
theorem X2.set0 {w : World} {x : Nat} {v0 v1 : Value} (h : X2 w x v0 v1) (v : Value) : X2 (w.setCell ⟨x, 0, none⟩ v) x v v1 :=
  ⟨by simpa using h.lt, set_at4 h.c0, (World.cell?_setCell_other _ _ _ _ (by simp)).trans h.c1, fun k hk => by rw [World.frozen?_setCell]; exact h.fz k hk⟩
theorem X2.set1 {w : World} {x : Nat} {v0 v1 : Value} (h : X2 w x v0 v1) (v : Value) : X2 (w.setCell ⟨x, 1, none⟩ v) x v0 v :=
  ⟨by simpa using h.lt, (World.cell?_setCell_other _ _ _ _ (by simp)).trans h.c0, set_at4 h.c1, fun k hk => by rw [World.frozen?_setCell]; exact h.fz k hk⟩
theorem X2.off {w : World} {x : Nat} {v0 v1 : Value} (h : X2 w x v0 v1) {p : Addr} (hp : p.block ≠ x) (v : Value) : X2 (w.setCell p v) x v0 v1 :=
  ⟨by simpa using h.lt, (World.cell?_setCell_other _ _ _ _ (fun e => hp (by rw [e]))).trans h.c0, (World.cell?_setCell_other _ _ _ _ (fun e => hp (by rw [e]))).trans h.c1, fun k hk => by rw [World.frozen?_setCell]; exact h.fz k hk⟩
def Sm60 (x : Ident) : Prop := x.cat.size ≤ 60 ∧ x.kind.size ≤ 60 ∧ x.lang.size ≤ 60 ∧ x.name.size ≤ 60
theorem sm60_d : Sm60 dId := ⟨Nat.zero_le _, Nat.zero_le _, Nat.zero_le _, Nat.zero_le _⟩
theorem getD_snoc {α : Type} (l : List α) (x d : α) (P : α → Prop) (h : ∀ i, P (l.getD i d)) (hx : P x) : ∀ i, P ((l ++ [x]).getD i d) := by
  intro i
  by_cases hi : i < l.length
  · have e : (l ++ [x]).getD i d = l.getD i d := by rw [List.getD_eq_getElem?_getD, List.getElem?_append_left hi, ← List.getD_eq_getElem?_getD]
    rw [e]
    exact h i
  · by_cases h2 : i = l.length
    · subst h2
      have e : (l ++ [x]).getD l.length d = x := by rw [List.getD_eq_getElem?_getD, List.getElem?_append_right (Nat.le_refl _)]; simp
      rw [e]
      exact hx
    · have e : (l ++ [x]).getD i d = d := by rw [List.getD_eq_getElem?_getD, List.getElem?_eq_none (by simp; omega)]; rfl
      rw [e]
      have := h (l.length + 1 + i)
      rw [List.getD_eq_getElem?_getD, List.getElem?_eq_none (by omega)] at this
      exact this
theorem idFlat_snoc (l : List Ident) (x : Ident) : idFlat (l ++ [x]) = idFlat l ++ [.string x.cat, .string x.kind, .string x.lang, .string x.name] := by
  simp [idFlat, idCells]
/-- a disco that is being drawn: its box, its two rows, the source -/
structure DSt (w W : World) (b : Nat) (a : Option Addr) (n c : Nat) (xs : List Int) (k : Nat) (a1 : Option Addr) (n1 c1 : Nat) (l : List Ident) (a2 : Option Addr) (n2 c2 : Nat) (ts : List ByteArray) : Prop where
  hb : b < w.heap.size
  hz : w.heap.size + 2 ≤ W.heap.size
  res : X2 W w.heap.size (.slice none 0 0) (.slice none 0 0)
  box : X2 W (w.heap.size + 1) (.slice a1 n1 c1) (.slice a2 n2 c2)
  o1 : W.ownsRow (w.heap.size + 2) 54 4 (.slice a1 n1 c1) n1 (idFlat l)
  o2 : W.ownsRow (w.heap.size + 2) 9 1 (.slice a2 n2 c2) n2 (ts.map Value.string)
  src : Src W b a n c xs k
  gr : w.grownBy W (some b)
  l1 : l.length = n1
  l2 : ts.length = n2
  s1 : ∀ i, Sm60 (l.getD i dId)
  s2 : ∀ i, (ts.getD i ByteArray.empty).size ≤ 60
theorem owns_far {W : World} {B e size n q : Nat} {v : Value} {xs : List Value} {r : Nat} (h : W.ownsRow B e size v n xs) (hr : r < B) : v.ownBlock ≠ some r := fun e => by have := (h.lt _ e).1; omega
theorem owns_alt {W : World} {B : Nat} {e : TypeId} {size n : Nat} {v : Value} {xs : List Value} (h : W.ownsRow B e size v n xs) (row : Option Nat) (hr : ∀ g, v.ownBlock = some g → row ≠ some g) : v.ownBlock = none ∨ v.ownBlock ≠ row := by
  cases hv : v.ownBlock with
  | none => exact .inl rfl
  | some g => exact .inr fun e => hr g hv e.symm
/-- rows of two types lie apart -/
theorem types_apart {W : World} {B B' : Nat} {e e' : TypeId} {size size' n n' : Nat} {v v' : Value} {xs xs' : List Value} (he : e ≠ e') (h : W.ownsRow B e size v n xs) (h' : W.ownsRow B' e' size' v' n' xs') : v.ownBlock = none ∨ v.ownBlock ≠ v'.ownBlock := by
  rcases h.2 with ⟨hv, _⟩ | ⟨g, cap, cur, hv, _, hh, _⟩
  · rw [hv]; exact .inl rfl
  · rcases h'.2 with ⟨hv', _⟩ | ⟨g', cap', cur', hv', _, hh', _⟩
    · rw [hv, hv']; exact .inr (by simp [Value.ownBlock])
    · refine .inr fun eq => ?_
      rw [hv, hv'] at eq
      simp [Value.ownBlock] at eq
      subst eq
      rw [hh] at hh'
      simp at hh'
      exact he hh'.2
theorem DSt.call {w W W' : World} {b : Nat} {a : Option Addr} {n c : Nat} {xs : List Int} {k k' : Nat} {a1 : Option Addr} {n1 c1 : Nat} {l : List Ident} {a2 : Option Addr} {n2 c2 : Nat} {ts : List ByteArray}
    (h : DSt w W b a n c xs k a1 n1 c1 l a2 n2 c2 ts) (hs : Src W' b a n c xs k') (hg : W.grownBy W' (some b)) : DSt w W' b a n c xs k' a1 n1 c1 l a2 n2 c2 ts := by
  have hb := h.hb
  exact ⟨hb, Nat.le_trans h.hz hg.size, h.res.grown hg (by intro e; injection e; omega), h.box.grown hg (by intro e; injection e; omega), h.o1.kept hg (owns_alt h.o1 _ fun g hg e => by have := (h.o1.lt _ hg).1; injection e; omega), h.o2.kept hg (owns_alt h.o2 _ fun g hg e => by have := (h.o2.lt _ hg).1; injection e; omega), hs, grown_trans_row h.gr hg, h.l1, h.l2, h.s1, h.s2⟩
theorem DSt.below {w W W' : World} {b : Nat} {a : Option Addr} {n c : Nat} {xs : List Int} {k : Nat} {a1 : Option Addr} {n1 c1 : Nat} {l : List Ident} {a2 : Option Addr} {n2 c2 : Nat} {ts : List ByteArray}
    (h : DSt w W b a n c xs k a1 n1 c1 l a2 n2 c2 ts) (hb : Below W.heap.size W W') : DSt w W' b a n c xs k a1 n1 c1 l a2 n2 c2 ts :=
  h.call (h.src.below hb) (grown_of_below hb _)
/-- what turned is one of the state's own rows, or new -/
theorem DSt.own {w W W' : World} {b : Nat} {a : Option Addr} {n c : Nat} {xs : List Int} {k : Nat} {a1 : Option Addr} {n1 c1 : Nat} {l : List Ident} {a2 : Option Addr} {n2 c2 : Nat} {ts : List ByteArray}
    (h : DSt w W b a n c xs k a1 n1 c1 l a2 n2 c2 ts) {row : Option Nat} (hg : W.grownBy W' row) (hr : ∀ g, row = some g → w.heap.size + 2 ≤ g) :
    X2 W' w.heap.size (.slice none 0 0) (.slice none 0 0) ∧ X2 W' (w.heap.size + 1) (.slice a1 n1 c1) (.slice a2 n2 c2) ∧ Src W' b a n c xs k ∧ w.grownBy W' (some b) ∧ w.heap.size + 2 ≤ W'.heap.size := by
  have hb := h.hb
  refine ⟨h.res.grown hg (fun e => by have := hr _ e.symm; omega), h.box.grown hg (fun e => by have := hr _ e.symm; omega), h.src.grown hg (fun j e => by have := hr _ e; omega), ?_, Nat.le_trans h.hz hg.size⟩
  have h1 := h.gr
  have hz := h.hz
  exact ⟨hg.os.trans h1.os, hg.tape.trans h1.tape, hg.output.trans h1.output, Nat.le_trans h1.size hg.size, fun i hi hne => (hg.block i (Nat.lt_of_lt_of_le hi h1.size) (fun e => by have := hr _ e.symm; omega)).trans (h1.block i hi hne)⟩
theorem src_off {W : World} {b : Nat} {a : Option Addr} {n c : Nat} {xs : List Int} {k : Nat} (h : Src W b a n c xs k) {p : Addr} (hp : b < p.block) (v : Value) : Src (W.setCell p v) b a n c xs k :=
  h.grown (grown_set4 W p v) (fun j e => by cases e; exact hp)
theorem grown_off {w W : World} {b : Nat} (h : w.grownBy W (some b)) {p : Addr} (hp : w.heap.size ≤ p.block) (v : Value) : w.grownBy (W.setCell p v) (some b) :=
  ⟨h.os, h.tape, h.output, by have := h.size; simpa [World.setCell] using this, fun k hk hne => (Below.heap_setCell W p v k (by omega)).trans (h.block k hk hne)⟩
/-- the identities turn -/
theorem DSt.setI {w W W' : World} {b : Nat} {a : Option Addr} {n c : Nat} {xs : List Int} {k : Nat} {a1 : Option Addr} {n1 c1 : Nat} {l : List Ident} {a2 : Option Addr} {n2 c2 : Nat} {ts : List ByteArray}
    (h : DSt w W b a n c xs k a1 n1 c1 l a2 n2 c2 ts) {a' : Option Addr} {n' c' : Nat} {l' : List Ident} (hg : W.grownBy W' (Value.slice a1 n1 c1).ownBlock) (ho : W'.ownsRow (w.heap.size + 2) 54 4 (.slice a' n' c') n' (idFlat l')) (hl : l'.length = n') (hs : ∀ i, Sm60 (l'.getD i dId)) :
    DSt w (W'.setCell ⟨w.heap.size + 1, 0, none⟩ (.slice a' n' c')) b a n c xs k a' n' c' l' a2 n2 c2 ts := by
  have hb := h.hb
  obtain ⟨g1, g2, g3, g4, g5⟩ := h.own hg (fun g e => (h.o1.lt g e).1)
  have k2 := h.o2.kept hg (types_apart (by decide) h.o2 h.o1)
  exact ⟨hb, by simpa using g5, g1.off (by show w.heap.size + 1 ≠ _; omega) _, g2.set0 _, ownsRow_setCell_below ho (by show w.heap.size + 1 < _; omega) _, ownsRow_setCell_below k2 (by show w.heap.size + 1 < _; omega) _, src_off g3 (by show b < w.heap.size + 1; omega) _, grown_off g4 (by show _ ≤ w.heap.size + 1; omega) _, hl, h.l2, hs, h.s2⟩
/-- the features turn -/
theorem DSt.setT {w W W' : World} {b : Nat} {a : Option Addr} {n c : Nat} {xs : List Int} {k : Nat} {a1 : Option Addr} {n1 c1 : Nat} {l : List Ident} {a2 : Option Addr} {n2 c2 : Nat} {ts : List ByteArray}
    (h : DSt w W b a n c xs k a1 n1 c1 l a2 n2 c2 ts) {a' : Option Addr} {n' c' : Nat} {ts' : List ByteArray} {row : Option Nat} (hrow : row = none ∨ row = (Value.slice a2 n2 c2).ownBlock) (hg : W.grownBy W' row) (ho : W'.ownsRow (w.heap.size + 2) 9 1 (.slice a' n' c') n' (ts'.map Value.string)) (hl : ts'.length = n') (hs : ∀ i, (ts'.getD i ByteArray.empty).size ≤ 60) :
    DSt w (W'.setCell ⟨w.heap.size + 1, 1, none⟩ (.slice a' n' c')) b a n c xs k a1 n1 c1 l a' n' c' ts' := by
  have hb := h.hb
  obtain ⟨g1, g2, g3, g4, g5⟩ := h.own hg (fun g e => by
    rcases hrow with e1 | e1
    · rw [e1] at e; cases e
    · rw [e1] at e; exact (h.o2.lt g e).1)
  have k1 : W'.ownsRow (w.heap.size + 2) 54 4 (.slice a1 n1 c1) n1 (idFlat l) := h.o1.kept hg (by
    rcases hrow with e1 | e1
    · rw [e1]; exact owns_alt h.o1 _ fun g _ e => by cases e
    · rw [e1]; exact types_apart (by decide) h.o1 h.o2)
  exact ⟨hb, by simpa using g5, g1.off (by show w.heap.size + 1 ≠ _; omega) _, g2.set1 _, ownsRow_setCell_below k1 (by show w.heap.size + 1 < _; omega) _, ownsRow_setCell_below ho (by show w.heap.size + 1 < _; omega) _, src_off g3 (by show b < w.heap.size + 1; omega) _, grown_off g4 (by show _ ≤ w.heap.size + 1; omega) _, h.l1, hl, h.s1, hs⟩
/-- a disco is drawn -/
def DisDrawn (w : World) (b : Nat) (a : Option Addr) (n c : Nat) (xs : List Int) (k : Nat) (en : Ending) (w' : World) : Prop :=
  ∃ (a1 : Option Addr) (n1 c1 : Nat) (l : List Ident) (a2 : Option Addr) (n2 c2 : Nat) (ts : List ByteArray) (k' : Nat), en = .returned (.agg #[.slice a1 n1 c1, .slice a2 n2 c2]) ∧ w'.ownsRow w.heap.size 54 4 (.slice a1 n1 c1) n1 (idFlat l) ∧ w'.ownsRow w.heap.size 9 1 (.slice a2 n2 c2) n2 (ts.map Value.string) ∧ l.length = n1 ∧ ts.length = n2 ∧ (∀ i, Sm60 (l.getD i dId)) ∧ (∀ i, (ts.getD i ByteArray.empty).size ≤ 60) ∧ n1 ≤ 5 ∧ n2 ≤ 11 ∧ k' ≤ k + 100 ∧ Src w' b a n c xs k' ∧ w.grownBy w' (some b)
theorem DSt.done {w W : World} {b : Nat} {a : Option Addr} {n c : Nat} {xs : List Int} {k : Nat} {a1 : Option Addr} {n1 c1 : Nat} {l : List Ident} {a2 : Option Addr} {n2 c2 : Nat} {ts : List ByteArray}
    (h : DSt w W b a n c xs k a1 n1 c1 l a2 n2 c2 ts) {k0 : Nat} (h1 : n1 ≤ 5) (h2 : n2 ≤ 11) (hk : k ≤ k0 + 100) :
    DisDrawn w b a n c xs k0 (.returned (.agg #[.slice a1 n1 c1, .slice a2 n2 c2])) ((W.setCell ⟨w.heap.size, 0, none⟩ (.slice a1 n1 c1)).setCell ⟨w.heap.size, 1, none⟩ (.slice a2 n2 c2)) := by
  have hb := h.hb
  have key : ∀ {e : TypeId} {size m : Nat} {v : Value} {ys : List Value}, W.ownsRow (w.heap.size + 2) e size v m ys → ((W.setCell ⟨w.heap.size, 0, none⟩ (.slice a1 n1 c1)).setCell ⟨w.heap.size, 1, none⟩ (.slice a2 n2 c2)).ownsRow w.heap.size e size v m ys := fun ho =>
    owns_mono (ownsRow_setCell_below (ownsRow_setCell_below ho (by show w.heap.size < _; omega) _) (by show w.heap.size < _; omega) _) (by omega)
  exact ⟨a1, n1, c1, l, a2, n2, c2, ts, k, rfl, key h.o1, key h.o2, h.l1, h.l2, h.s1, h.s2, h1, h2, hk, src_off (src_off h.src hb _) hb _, grown_off (grown_off h.gr (Nat.le_refl _) _) (Nat.le_refl _) _⟩
end Go.Proofs.YtcaknhoaoodbfaaGreatDoor

/- An append to a row of the call's own, as one step of a region that draws its order. -/
namespace Go.Proofs.YtcaknhoaoodbfaaGreatDoor
open Go.ChangeShapes Go.WideShapes Go.ChangeAt Go.RowKit
set_option linter.unusedVariables false

theorem step_own {P : Program} {ops : Array Oper} {o : Oper} {a : Act} {w : World} {K : Act → World → Prop} {Q : Exit → Act → World → Prop} {E : Prop} (hw : Region.wanted o (yielded ops a.tmps) = true) (s x : Operand) (t : TypeId)
    (ho : o.op = .call { callee := .builtin .append, args := #[s, x], argTypes := #[t, t] })
    (e : TypeId) (i : TypeInfo) (z : Value) (size bytes : Nat) (ht : P.underlying t = some (.slice e)) (hi : P.info? e = some i) (hz : i.zero = some z) (hsize : i.size = size) (hby : i.bytes = bytes) (hzc : z.cells.size = size) (hpos : 0 < size)
    (base : Nat) (v : Value) (n : Nat) (xs : List Value) (hs : a.eval s = v) (hown : w.ownsRow base e size v n xs)
    (ad : Addr) (m c : Nat) (ys : List Value) (hx : a.eval x = .slice (some ad) m c) (hn : ys.length = m * size) (hcells : ∀ j u, ys[j]? = some u → w.cell? (ad.add j) = some u) (h1c : ∀ u ∈ ys, u.oneCell' = true)
    (b1 : n + m ≤ maxLen) (b2 : (n + m) * bytes ≤ 140737488355328) (hbase : base ≤ w.heap.size)
    (h : ∀ v' w', w'.ownsRow base e size v' (n + m) (xs ++ ys) → w.grownBy w' v.ownBlock → K (a.put o.dst v') w') :
    if Region.wanted o (yielded ops a.tmps) = true then Oper.wp P o a w K Q else E := by
  rw [if_pos hw]
  refine wp_append_own w s x t ho base e i _ size bytes ht hi hz hsize hby hzc hpos v n xs (by rw [hs]) hown ad m c ys hx hn hcells h1c b1 b2 hbase ?_
  intro v' w' hown' hgrow hnil
  exact h v' w' hown' hgrow
theorem step_own_at {P : Program} {ops : Array Oper} {o : Oper} {a : Act} {w : World} {K : Act → World → Prop} {Q : Exit → Act → World → Prop} {E : Prop} (hw : Region.wanted o (yielded ops a.tmps) = true) (s x : Operand) (t : TypeId)
    (ho : o.op = .call { callee := .builtin .append, args := #[s, x], argTypes := #[t, t] })
    (e : TypeId) (i : TypeInfo) (z : Value) (size bytes : Nat) (ht : P.underlying t = some (.slice e)) (hi : P.info? e = some i) (hz : i.zero = some z) (hsize : i.size = size) (hby : i.bytes = bytes) (hzc : z.cells.size = size) (hpos : 0 < size)
    (base : Nat) (v : Value) (n : Nat) (xs : List Value) (hs : a.eval s = v) (hown : w.ownsRow base e size v n xs)
    (ad : Addr) (m c : Nat) (ys : List Value) (hx : a.eval x = .slice (some ad) m c) (hn : ys.length = m * size) (hcells : ∀ j u, ys[j]? = some u → w.cell? (ad.add j) = some u) (h1c : ∀ u ∈ ys, u.oneCell' = true)
    (b1 : n + m ≤ maxLen) (b2 : (n + m) * bytes ≤ 140737488355328) (hbase : base ≤ w.heap.size)
    (h : ∀ v' w', w'.ownsRow base e size v' (n + m) (xs ++ ys) → w.grownBy w' v.ownBlock → (v'.ownBlock = v.ownBlock ∨ v'.ownBlock = some w.heap.size) → K (a.put o.dst v') w') :
    if Region.wanted o (yielded ops a.tmps) = true then Oper.wp P o a w K Q else E := by
  rw [if_pos hw]
  obtain ⟨v', w', hr, h2, h3, h4, h5⟩ := run_append_own_at (P := P) w base t o.type e i z size bytes ht hi hz hsize hby hzc hpos v n xs hown ad m c ys hn hcells h1c b1 b2 hbase
  unfold Oper.wp execOp
  simp only [ho, resolve, invoke, builtin, Sem.run_bind, Sem.run_pure, Result.andThen_ok, List.map_toArray, List.map_cons, List.map_nil, hs, hx, hr]
  exact h v' w' h2 h3 h5
end Go.Proofs.YtcaknhoaoodbfaaGreatDoor
