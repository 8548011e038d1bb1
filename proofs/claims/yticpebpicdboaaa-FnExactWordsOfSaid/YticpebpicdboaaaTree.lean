/- What a tree's items are, and how they lie in memory. -/
import Derived.Test.YticpebpicdboaaaBase
namespace Go.Proofs.Yticpebpicdboaaa
open Go.ChangeShapes Go.WideShapes Go.ChangeAt Go.RowKit
set_option linter.unusedVariables false

structure At where
  name : ByteArray
  value : ByteArray
structure It where
  depth : Int
  text : ByteArray
  space : ByteArray
  name : ByteArray
  attrs : List At
def dAt : At := ⟨ByteArray.empty, ByteArray.empty⟩
def dIt : It := ⟨0, ByteArray.empty, ByteArray.empty, ByteArray.empty, []⟩
theorem At.eq {x y : At} (h1 : x.name = y.name) (h2 : x.value = y.value) : x = y := by cases x; cases y; simp_all
theorem It.eq {x y : It} (h0 : x.depth = y.depth) (h1 : x.text = y.text) (h2 : x.space = y.space) (h3 : x.name = y.name) (h4 : x.attrs = y.attrs) : x = y := by cases x; cases y; simp_all

/-- a slice of attributes that reads as l -/
structure AtsAt (w : World) (a : Option Addr) (n c : Nat) (l : List At) : Prop where
  len : l.length = n
  max : n ≤ 9223372036854775807
  size : ∀ i, (l.getD i dAt).name.size ≤ 9223372036854775807 ∧ (l.getD i dAt).value.size ≤ 9223372036854775807
  row : n = 0 ∨ ∃ b o, a = some ⟨b, o, none⟩ ∧ b < w.heap.size ∧ ∀ i, i < n → w.cell? ⟨b, o + i * 2, none⟩ = some (.string (l.getD i dAt).name) ∧ w.cell? ⟨b, o + i * 2 + 1, none⟩ = some (.string (l.getD i dAt).value)
theorem AtsAt.below {w w' : World} {a : Option Addr} {n c : Nat} {l : List At} (h : AtsAt w a n c l) (hb : Below w.heap.size w w') : AtsAt w' a n c l := by
  refine ⟨h.len, h.max, h.size, ?_⟩
  rcases h.row with e | ⟨b, o, ha, hr, hc⟩
  · exact .inl e
  · exact .inr ⟨b, o, ha, Nat.lt_of_lt_of_le hr hb.size, fun i hi => ⟨(hb.cell (p := ⟨b, o + i * 2, none⟩) hr).trans (hc i hi).1, (hb.cell (p := ⟨b, o + i * 2 + 1, none⟩) hr).trans (hc i hi).2⟩⟩

/-- five cells that read as an item -/
structure ItAt (w : World) (b o : Nat) (x : It) : Prop where
  lt : b < w.heap.size
  wf : -9223372036854775808 ≤ x.depth ∧ x.depth ≤ 9223372036854775807
  size : x.text.size ≤ 9223372036854775807 ∧ x.space.size ≤ 9223372036854775807 ∧ x.name.size ≤ 9223372036854775807
  c0 : w.cell? ⟨b, o, none⟩ = some (.int .i64 x.depth)
  c1 : w.cell? ⟨b, o + 1, none⟩ = some (.string x.text)
  c2 : w.cell? ⟨b, o + 2, none⟩ = some (.string x.space)
  c3 : w.cell? ⟨b, o + 3, none⟩ = some (.string x.name)
  c4 : ∃ a n c, w.cell? ⟨b, o + 4, none⟩ = some (.slice a n c) ∧ AtsAt w a n c x.attrs
theorem ItAt.below {w w' : World} {b o : Nat} {x : It} (h : ItAt w b o x) (hb : Below w.heap.size w w') : ItAt w' b o x := by
  obtain ⟨a, n, c, h4, hat⟩ := h.c4
  exact ⟨Nat.lt_of_lt_of_le h.lt hb.size, h.wf, h.size, (hb.cell (by exact h.lt)).trans h.c0, (hb.cell (by exact h.lt)).trans h.c1, (hb.cell (by exact h.lt)).trans h.c2, (hb.cell (by exact h.lt)).trans h.c3, a, n, c, (hb.cell (by exact h.lt)).trans h4, hat.below hb⟩

/-- a slice of items that reads as l -/
structure ItsAt (w : World) (a : Option Addr) (n c : Nat) (l : List It) : Prop where
  len : l.length = n
  max : n ≤ 9223372036854775807
  row : n = 0 ∨ ∃ b o, a = some ⟨b, o, none⟩ ∧ ∀ i, i < n → ItAt w b (o + i * 5) (l.getD i dIt)
theorem ItsAt.below {w w' : World} {a : Option Addr} {n c : Nat} {l : List It} (h : ItsAt w a n c l) (hb : Below w.heap.size w w') : ItsAt w' a n c l := by
  refine ⟨h.len, h.max, ?_⟩
  rcases h.row with e | ⟨b, o, ha, hc⟩
  · exact .inl e
  · exact .inr ⟨b, o, ha, fun i hi => (hc i hi).below hb⟩

/-- what was measured is small -/
def SmallAt (x : At) : Prop := x.name.size ≤ 1048576 ∧ x.value.size ≤ 1048576
def SmallAts (l : List At) : Prop := l.length ≤ 1048576 ∧ ∀ i, i < l.length → SmallAt (l.getD i dAt)
def SmallIt (x : It) : Prop := (x.text.size ≤ 1048576 ∧ x.space.size ≤ 1048576 ∧ x.name.size ≤ 1048576) ∧ SmallAts x.attrs
def SmallIts (l : List It) : Prop := l.length ≤ 1048576 ∧ ∀ i, i < l.length → SmallIt (l.getD i dIt)
/-- some number is handed back, and only memory is made -/
def SzRes (P : Int → Prop) (w : World) (e : Ending) (w' : World) : Prop := ∃ r : Int, P r ∧ e = .returned (.int .i64 r) ∧ Below w.heap.size w w'
theorem SzRes.mk {P : Int → Prop} {w w' : World} {r : Int} (h : P r) (hb : Below w.heap.size w w') : SzRes P w (.returned (.int .i64 r)) w' := ⟨r, h, rfl, hb⟩
/-- some number is left, or fewer than none -/
def Left (left : Int) (P : Prop) (r : Int) : Prop := r = -1 ∨ (0 ≤ r ∧ r ≤ left ∧ P)
theorem Left.no {left : Int} {P : Prop} : Left left P (-1) := .inl rfl
theorem Left.yes {left r : Int} {P : Prop} (h1 : 0 ≤ r) (h2 : r ≤ left) (h : P) : Left left P r := .inr ⟨h1, h2, h⟩
theorem drew_more {w wr : World} (h : ∃ n, wr = w.drewN n) (m : Nat) : ∃ n, wr.drewN m = w.drewN n := by
  obtain ⟨n, rfl⟩ := h
  exact ⟨_, World.drewN_drewN _ _ _⟩
theorem find_at {α : Type} (l : List α) (d : α) (p : α → Bool) (k : Nat) (hk : k < l.length) (h0 : ∀ j, j < k → p (l.getD j d) = false) (h1 : p (l.getD k d) = true) : l.find? p = some (l.getD k d) := by
  induction l generalizing k with
  | nil => simp at hk
  | cons x r ih =>
    cases k with
    | zero =>
      have hx : p x = true := by simpa using h1
      simp [hx]
    | succ k =>
      have hx : p x = false := by simpa using h0 0 (by omega)
      rw [List.find?_cons, hx]
      simpa using ih k (by simpa using hk) (fun j hj => by simpa using h0 (j + 1) (by omega)) (by simpa using h1)
theorem find_no {α : Type} (l : List α) (d : α) (p : α → Bool) (h0 : ∀ j, j < l.length → p (l.getD j d) = false) : l.find? p = none := by
  rw [List.find?_eq_none]
  intro x hx
  obtain ⟨i, hi, rfl⟩ := List.getElem_of_mem hx
  have := h0 i hi
  rw [List.getD_eq_getElem?_getD, List.getElem?_eq_getElem hi] at this
  simpa using this
theorem ret_n {a b : Nat} (h : a = b) : Ending.returned (.int .i64 (a : Int)) = .returned (.int .i64 (b : Int)) := by rw [h]
end Go.Proofs.Yticpebpicdboaaa
