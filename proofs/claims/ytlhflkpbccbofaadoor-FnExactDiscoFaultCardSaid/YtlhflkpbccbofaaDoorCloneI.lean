/- slices.Clone at identities, withoutNames. -/
import Derived.Test.YtlhflkpbccbofaaDoorToD
import Derived.Laws.AppendOwnNone
import Derived.Maps.AppendAt
namespace Go.Proofs.YtlhflkpbccbofaaDoor
open Go.ChangeShapes Go.WideShapes Go.ChangeAt Go.RowKit
set_option linter.unusedVariables false

def idCells (x : Ident) : List Value := [.string x.cat, .string x.kind, .string x.lang, .string x.name]
def idFlat (l : List Ident) : List Value := l.flatMap idCells
theorem idFlat_length (l : List Ident) : (idFlat l).length = l.length * 4 := by
  induction l with
  | nil => rfl
  | cons x l ih => simp only [idFlat, List.flatMap_cons, List.length_append] at ih ⊢; rw [ih]; simp [idCells]; omega
theorem idFlat_get : ∀ (l : List Ident) (i r : Nat), r < 4 → (idFlat l)[i * 4 + r]? = (l[i]?).bind fun x => (idCells x)[r]?
  | [], i, r, h => by simp [idFlat]
  | x :: l, 0, r, h => by
    have hl : (idCells x).length = 4 := rfl
    simp only [idFlat, List.flatMap_cons, Nat.zero_mul, Nat.zero_add]
    rw [List.getElem?_append_left (by omega)]
    rfl
  | x :: l, i + 1, r, h => by
    have hl : (idCells x).length = 4 := rfl
    simp only [idFlat, List.flatMap_cons]
    rw [List.getElem?_append_right (by omega), hl, show (i + 1) * 4 + r - 4 = i * 4 + r by omega]
    have := idFlat_get l i r h
    simp only [idFlat] at this
    rw [this]
    rfl
theorem idFlat_one (l : List Ident) : ∀ u ∈ idFlat l, u.oneCell' = true := by
  intro u hu
  obtain ⟨x, _, hx⟩ := List.mem_flatMap.1 hu
  simp [idCells] at hx
  rcases hx with rfl | rfl | rfl | rfl <;> rfl
theorem idFlat_cells {w : World} {b o : Nat} {l : List Ident} (h : ∀ i, i < l.length → IdAt w b (o + i * 4) (l.getD i dId)) : ∀ j u, (idFlat l)[j]? = some u → w.cell? (Addr.add ⟨b, o, none⟩ j) = some u := by
  intro j u hj
  have hlt : j < l.length * 4 := by
    rw [← idFlat_length]
    rcases Nat.lt_or_ge j (idFlat l).length with h1 | h1
    · exact h1
    · rw [List.getElem?_eq_none h1] at hj; cases hj
  obtain ⟨i, r, hr, rfl⟩ : ∃ i r, r < 4 ∧ j = i * 4 + r := ⟨j / 4, j % 4, Nat.mod_lt _ (by decide), by omega⟩
  rw [idFlat_get l i r hr] at hj
  have hi : i < l.length := by omega
  have hat := h i hi
  rw [List.getElem?_eq_getElem hi] at hj
  rw [List.getD_eq_getElem?_getD, List.getElem?_eq_getElem hi] at hat
  simp only [Option.bind_some, Option.getD_some] at hj hat
  rw [Addr.add_lit]
  match r, hr with
  | 0, _ => simp [idCells] at hj; subst hj; exact hat.c0
  | 1, _ => simp [idCells] at hj; subst hj; rw [← Nat.add_assoc]; exact hat.c1
  | 2, _ => simp [idCells] at hj; subst hj; rw [← Nat.add_assoc]; exact hat.c2
  | 3, _ => simp [idCells] at hj; subst hj; rw [← Nat.add_assoc]; exact hat.c3
/-- a row of identities of one's own -/
def OwnsIds (w : World) (l : List Ident) (e : Ending) (w' : World) : Prop := ∃ a n c, e = .returned (.slice a n c) ∧ w'.ownsRow w.heap.size 40 4 (.slice a n c) n (idFlat l) ∧ Below w.heap.size w w'
theorem ids_owned {w : World} {B n c : Nat} {a : Option Addr} {l : List Ident} (hl : l.length = n) (hn : n ≤ 1048576) (h : w.ownsRow B 40 4 (.slice a n c) n (idFlat l)) : IdsAt w a n c l := by
  refine ⟨hl, by omega, ?_⟩
  rcases h.2 with ⟨hv, h0⟩ | ⟨g, cap, cur, hv, hg, hh, hnc, hm, hs, ht⟩
  · exact .inl h0
  · simp only [Value.slice.injEq] at hv
    obtain ⟨rfl, _, rfl⟩ := hv
    refine .inr ⟨g, 0, rfl, fun i hi => ?_⟩
    have k : ∀ r, r < 4 → w.cell? ⟨g, i * 4 + r, none⟩ = (idCells (l.getD i dId))[r]? := fun r hr => by
      rw [h.cellAt (i * 4 + r) (by omega), idFlat_get l i r hr, List.getD_eq_getElem?_getD, List.getElem?_eq_getElem (by omega)]
      rfl
    rw [Nat.zero_add]
    exact ⟨(h.lt g rfl).2, k 0 (by decide), k 1 (by decide), k 2 (by decide), k 3 (by decide)⟩

theorem eqNilIT (w : World) : (binOp .eql 28 (.slice none 0 0) (.slice none 0 0)).run Tryd.prog w = .ok (.bool true) w := by kernel_rfl
theorem eqNilIF (x : Addr) (n c : Nat) (w : World) : (binOp .eql 28 (.slice (some x) n c) (.slice none 0 0)).run Tryd.prog w = .ok (.bool false) w := by kernel_rfl
set_option maxRecDepth 100000 in
set_option maxHeartbeats 1600000 in
theorem cloneI_any (a : Option Addr) (n c : Nat) (l : List Ident) (w : World) (hn : n ≤ 1048576) (hnil : a = none → c = 0) (h : IdsAt w a n c l) :
    Calls Tryd.prog 41 #[.slice a n c] w (OwnsIds w l) := by
  obtain ⟨i0, hi, hz0, hz1, hz2⟩ := info_parts identInfo
  have HL := Lib.hid h.len
  have HIN := Lib.hid (h.below (below1 w (.cells #[] 40)))
  have hl0 : (w.alloc (.cells #[] 40)).ownsRow w.heap.size 40 4 (.slice (some ⟨w.heap.size, 0, none⟩) 0 0) 0 [] := by
    have := World.ownsRow_lit (base := w.heap.size) (e := 40) (size := 4) w #[] 0 (Nat.le_refl _) (by unfold maxLen; omega) rfl
    simpa using this
  unfold OwnsIds
  cases a with
  | none =>
    obtain rfl : n = 0 := by
      rcases h.row with e | ⟨b5, o5, e5, _⟩
      · exact e
      · cases e5
    obtain rfl : c = 0 := hnil rfl
    obtain rfl : l = [] := List.length_eq_zero_iff.1 HL.out
    have hq := eqNilIT
    clear hnil h HL HIN hl0
    go_enter Tryd.func41, Tryd.ntmps41
    go_wp2
    go_ret
    exact ⟨_, _, _, rfl, by simpa [idFlat] using World.ownsRow_nil _ _ _ _, Below.refl _ _⟩
  | some ad =>
    have hq := eqNilIF
    have hflat : ∀ j u, (idFlat l)[j]? = some u → (w.alloc (.cells #[] 40)).cell? (ad.add j) = some u := by
      intro j u hj
      rcases HIN.out.row with e | ⟨b, o, e, hr⟩
      · have : (idFlat l).length = 0 := by rw [idFlat_length, HL.out, e]
        rw [List.getElem?_eq_none (by omega)] at hj
        cases hj
      · simp only [Option.some.injEq] at e
        subst e
        exact idFlat_cells (fun i hi => hr i (by have := HL.out; omega)) j u hj
    clear hnil h
    go_enter Tryd.func41, Tryd.ntmps41
    go_wp2_with (at_builtin; refine wpList_append_own _ rfl _ _ 28 rfl w.heap.size 40 i0 _ 4 64 Tryd.underlying28 hi hz0 hz1 hz2 rfl (by decide) _ 0 [] rfl hl0 ad n c (idFlat l) rfl ?c6 hflat (idFlat_one l) ?c3 ?c4 ?c5 ?_)
    case c6 => rw [idFlat_length, HL.out]
    case c3 => unfold maxLen; omega
    case c4 => omega
    case c5 => simp
    intro v' w1 hown hgrow _
    obtain ⟨a', c', rfl⟩ := owns_slice hown
    have HOWN := Lib.hid hown
    have HB := Lib.hid ((below1 w (.cells #[] 40)).grown hgrow (by simp) (fun j hj => by simp [Value.ownBlock] at hj; omega))
    clear hown hgrow hl0 hflat
    go_wp2
    go_ret
    exact ⟨_, _, _, rfl, by simpa using HOWN.out, HB.out⟩
end Go.Proofs.YtlhflkpbccbofaaDoor
