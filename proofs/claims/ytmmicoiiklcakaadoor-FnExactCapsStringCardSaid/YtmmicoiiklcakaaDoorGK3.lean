/- Plain words of chapter 9. -/
import Derived.Test.YtmmicoiiklcakaaDoorGK2
import Derived.Lib.IndexMore
import Derived.Test.YtmmicoiiklcakaaDoorGK0
namespace Go.Proofs.YtmmicoiiklcakaaDoor
set_option linter.unusedVariables false

structure Ident where
  cat : ByteArray
  kind : ByteArray
  lang : ByteArray
  name : ByteArray
def dId : Ident := ⟨ByteArray.empty, ByteArray.empty, ByteArray.empty, ByteArray.empty⟩
instance : Inhabited Ident := ⟨dId⟩
def hasB (c : Int) (s : ByteArray) : Bool := s.data.toList.any fun x => (x.toNat : Int) == c
/-- a field that has no fault, and no mark -/
def fldB (s : ByteArray) : Bool := (textFault s.data.toList == 0) && !hasB 60 s
def fillB (s : ByteArray) : Bool := !s.toList.isEmpty && fldB s
/-- the model's field -/
def fieldB (s : ByteArray) (e sl : Bool) : Bool := fldB s && (e || !s.toList.isEmpty) && (sl || !hasB 47 s)
def identB (x : Ident) : Bool := fieldB x.cat false false && fieldB x.kind false false && fieldB x.lang true false && fieldB x.name true true
def slash : ByteArray := { data := #[47] }
def identT (x : Ident) : ByteArray := x.cat ++ slash ++ x.kind ++ slash ++ x.lang ++ slash ++ x.name
def idCode (x : Ident) : Int := if identB x = true then 0 else 5
def idText (x : Ident) : ByteArray := if identB x = true then identT x else ByteArray.empty
/-- the program's way of asking -/
def identB' (x : Ident) : Bool := fillB x.cat && fillB x.kind && fldB x.lang && fldB x.name && !hasB 47 (x.cat ++ x.kind ++ x.lang)
theorem hasB_append (c : Int) (s t : ByteArray) : hasB c (s ++ t) = (hasB c s || hasB c t) := by
  unfold hasB
  rw [show (s ++ t).data.toList = s.data.toList ++ t.data.toList by simp [ByteArray.data_append], List.any_append]
theorem identB_eq (x : Ident) : identB' x = identB x := by
  unfold identB' identB fieldB fillB
  rw [hasB_append, hasB_append]
  cases x.cat.toList.isEmpty <;> cases x.kind.toList.isEmpty <;> cases fldB x.cat <;> cases fldB x.kind <;> cases fldB x.lang <;> cases fldB x.name <;> cases hasB 47 x.cat <;> cases hasB 47 x.kind <;> cases hasB 47 x.lang <;> rfl
theorem hasB_at {c : Int} {s : ByteArray} {k : Nat} (hk : k < s.size) (h : ((s[k].toNat : Int) == c) = true) : hasB c s = true := by
  unfold hasB
  rw [List.any_eq_true]
  exact ⟨s[k], by rw [show s[k] = s.data.toList[k]'(by simpa using hk) from rfl]; exact List.getElem_mem _, h⟩
theorem hasB_not {c : Int} {s : ByteArray} (h : ∀ k (hk : k < s.size), ((s[k].toNat : Int) == c) = false) : hasB c s = false := by
  unfold hasB
  rw [List.any_eq_false]
  intro x hx
  obtain ⟨i, hi, rfl⟩ := List.getElem_of_mem hx
  have := h i (by simpa using hi)
  rw [show s[i]'(by simpa using hi) = s.data.toList[i] from rfl] at this
  simpa using this
/-- two with the same Category, Kind and Lang -/
def sameId (x y : Ident) : Bool := x.cat.toList == y.cat.toList && x.kind.toList == y.kind.toList && x.lang.toList == y.lang.toList
def twiceI (l : List Ident) : Bool := (List.range l.length).any fun i => (List.range i).any fun k => sameId (l.getD i dId) (l.getD k dId)
def sameT (s t : ByteArray) : Bool := s.toList == t.toList
def twiceS (l : List ByteArray) : Bool := (List.range l.length).any fun i => (List.range i).any fun k => sameT (l.getD i ByteArray.empty) (l.getD k ByteArray.empty)
theorem twice_at {n : Nat} {f : Nat → Nat → Bool} {i k : Nat} (hi : i < n) (hk : k < i) (h : f i k = true) : ((List.range n).any fun i => (List.range i).any fun k => f i k) = true := by
  rw [List.any_eq_true]
  refine ⟨i, List.mem_range.2 hi, ?_⟩
  rw [List.any_eq_true]
  exact ⟨k, List.mem_range.2 hk, h⟩
theorem twice_not {n : Nat} {f : Nat → Nat → Bool} (h : ∀ i, i < n → ∀ k, k < i → f i k = false) : ((List.range n).any fun i => (List.range i).any fun k => f i k) = false := by
  rw [List.any_eq_false]
  intro i hi
  rw [Bool.not_eq_true, List.any_eq_false]
  intro k hk
  rw [h i (List.mem_range.1 hi) k (List.mem_range.1 hk)]
  decide
structure Dis where
  ids : List Ident
  feats : List ByteArray
def manyD (d : Dis) : Bool := decide (6 < d.ids.length) || decide (10 < d.feats.length)
def wrongD (d : Dis) : Bool := !((List.range d.ids.length).all fun i => identB (d.ids.getD i dId)) || !((List.range d.feats.length).all fun i => fieldB (d.feats.getD i ByteArray.empty) false true)
def disCode (d : Dis) : Int := if manyD d = true then 2 else if wrongD d = true then 5 else if (twiceI d.ids || twiceS d.feats) = true then 6 else 0
theorem wrong_id {d : Dis} {i : Nat} (hi : i < d.ids.length) (h : identB (d.ids.getD i dId) = false) : wrongD d = true := by
  unfold wrongD
  rw [Bool.or_eq_true]
  left
  rw [Bool.not_eq_true', List.all_eq_false]
  exact ⟨i, List.mem_range.2 hi, by rw [h]; decide⟩
theorem wrong_ft {d : Dis} {i : Nat} (hi : i < d.feats.length) (h : fieldB (d.feats.getD i ByteArray.empty) false true = false) : wrongD d = true := by
  unfold wrongD
  rw [Bool.or_eq_true]
  right
  rw [Bool.not_eq_true', List.all_eq_false]
  exact ⟨i, List.mem_range.2 hi, by rw [h]; decide⟩
theorem right_d {d : Dis} (h1 : ∀ i, i < d.ids.length → identB (d.ids.getD i dId) = true) (h2 : ∀ i, i < d.feats.length → fieldB (d.feats.getD i ByteArray.empty) false true = true) : wrongD d = false := by
  unfold wrongD
  rw [Bool.or_eq_false_iff, Bool.not_eq_false', Bool.not_eq_false', List.all_eq_true, List.all_eq_true]
  exact ⟨fun i hi => h1 i (List.mem_range.1 hi), fun i hi => h2 i (List.mem_range.1 hi)⟩
theorem fill_field (s : ByteArray) : fillB s = fieldB s false true := by
  unfold fillB fieldB
  cases s.toList.isEmpty <;> cases fldB s <;> rfl
def capsL (d : Dis) : List UInt8 := linesT (sortT (d.ids.map identT)) ++ linesT (sortT d.feats)
def capsCode (d : Dis) : Int := disCode d
def capsText (d : Dis) : ByteArray := if disCode d = 0 then ⟨(capsL d).toArray⟩ else ByteArray.empty
end Go.Proofs.YtmmicoiiklcakaaDoor

/- What a tree's items are, and how they lie in memory. -/
namespace Go.Proofs.YtmmicoiiklcakaaDoor
open Go.ChangeShapes Go.WideShapes Go.ChangeAt Go.RowKit
set_option linter.unusedVariables false

structure At where
  name : ByteArray
  value : ByteArray
structure It where
  depth : Int
  text : ByteArray
  space : ByteArray
  name : ByteArray
  attrs : List At
def dAt : At := ⟨ByteArray.empty, ByteArray.empty⟩
def dIt : It := ⟨0, ByteArray.empty, ByteArray.empty, ByteArray.empty, []⟩
theorem At.eq {x y : At} (h1 : x.name = y.name) (h2 : x.value = y.value) : x = y := by cases x; cases y; simp_all
theorem It.eq {x y : It} (h0 : x.depth = y.depth) (h1 : x.text = y.text) (h2 : x.space = y.space) (h3 : x.name = y.name) (h4 : x.attrs = y.attrs) : x = y := by cases x; cases y; simp_all

/-- a slice of attributes that reads as l -/
structure AtsAt (w : World) (a : Option Addr) (n c : Nat) (l : List At) : Prop where
  len : l.length = n
  max : n ≤ 9223372036854775807
  size : ∀ i, (l.getD i dAt).name.size ≤ 9223372036854775807 ∧ (l.getD i dAt).value.size ≤ 9223372036854775807
  row : n = 0 ∨ ∃ b o, a = some ⟨b, o, none⟩ ∧ b < w.heap.size ∧ ∀ i, i < n → w.cell? ⟨b, o + i * 2, none⟩ = some (.string (l.getD i dAt).name) ∧ w.cell? ⟨b, o + i * 2 + 1, none⟩ = some (.string (l.getD i dAt).value)
theorem AtsAt.below {w w' : World} {a : Option Addr} {n c : Nat} {l : List At} (h : AtsAt w a n c l) (hb : Below w.heap.size w w') : AtsAt w' a n c l := by
  refine ⟨h.len, h.max, h.size, ?_⟩
  rcases h.row with e | ⟨b, o, ha, hr, hc⟩
  · exact .inl e
  · exact .inr ⟨b, o, ha, Nat.lt_of_lt_of_le hr hb.size, fun i hi => ⟨(hb.cell (p := ⟨b, o + i * 2, none⟩) hr).trans (hc i hi).1, (hb.cell (p := ⟨b, o + i * 2 + 1, none⟩) hr).trans (hc i hi).2⟩⟩

/-- five cells that read as an item -/
structure ItAt (w : World) (b o : Nat) (x : It) : Prop where
  lt : b < w.heap.size
  wf : -9223372036854775808 ≤ x.depth ∧ x.depth ≤ 9223372036854775807
  size : x.text.size ≤ 9223372036854775807 ∧ x.space.size ≤ 9223372036854775807 ∧ x.name.size ≤ 9223372036854775807
  c0 : w.cell? ⟨b, o, none⟩ = some (.int .i64 x.depth)
  c1 : w.cell? ⟨b, o + 1, none⟩ = some (.string x.text)
  c2 : w.cell? ⟨b, o + 2, none⟩ = some (.string x.space)
  c3 : w.cell? ⟨b, o + 3, none⟩ = some (.string x.name)
  c4 : ∃ a n c, w.cell? ⟨b, o + 4, none⟩ = some (.slice a n c) ∧ AtsAt w a n c x.attrs
theorem ItAt.below {w w' : World} {b o : Nat} {x : It} (h : ItAt w b o x) (hb : Below w.heap.size w w') : ItAt w' b o x := by
  obtain ⟨a, n, c, h4, hat⟩ := h.c4
  exact ⟨Nat.lt_of_lt_of_le h.lt hb.size, h.wf, h.size, (hb.cell (by exact h.lt)).trans h.c0, (hb.cell (by exact h.lt)).trans h.c1, (hb.cell (by exact h.lt)).trans h.c2, (hb.cell (by exact h.lt)).trans h.c3, a, n, c, (hb.cell (by exact h.lt)).trans h4, hat.below hb⟩

/-- a slice of items that reads as l -/
structure ItsAt (w : World) (a : Option Addr) (n c : Nat) (l : List It) : Prop where
  len : l.length = n
  max : n ≤ 9223372036854775807
  row : n = 0 ∨ ∃ b o, a = some ⟨b, o, none⟩ ∧ ∀ i, i < n → ItAt w b (o + i * 5) (l.getD i dIt)
theorem ItsAt.below {w w' : World} {a : Option Addr} {n c : Nat} {l : List It} (h : ItsAt w a n c l) (hb : Below w.heap.size w w') : ItsAt w' a n c l := by
  refine ⟨h.len, h.max, ?_⟩
  rcases h.row with e | ⟨b, o, ha, hc⟩
  · exact .inl e
  · exact .inr ⟨b, o, ha, fun i hi => (hc i hi).below hb⟩

/-- what was measured is small -/
def SmallAt (x : At) : Prop := x.name.size ≤ 1048576 ∧ x.value.size ≤ 1048576
def SmallAts (l : List At) : Prop := l.length ≤ 1048576 ∧ ∀ i, i < l.length → SmallAt (l.getD i dAt)
def SmallIt (x : It) : Prop := (x.text.size ≤ 1048576 ∧ x.space.size ≤ 1048576 ∧ x.name.size ≤ 1048576) ∧ SmallAts x.attrs
def SmallIts (l : List It) : Prop := l.length ≤ 1048576 ∧ ∀ i, i < l.length → SmallIt (l.getD i dIt)
/-- some number is handed back, and only memory is made -/
def SzRes (P : Int → Prop) (w : World) (e : Ending) (w' : World) : Prop := ∃ r : Int, P r ∧ e = .returned (.int .i64 r) ∧ Below w.heap.size w w'
theorem SzRes.mk {P : Int → Prop} {w w' : World} {r : Int} (h : P r) (hb : Below w.heap.size w w') : SzRes P w (.returned (.int .i64 r)) w' := ⟨r, h, rfl, hb⟩
/-- some number is left, or fewer than none -/
def Left (left : Int) (P : Prop) (r : Int) : Prop := r = -1 ∨ (0 ≤ r ∧ r ≤ left ∧ P)
theorem Left.no {left : Int} {P : Prop} : Left left P (-1) := .inl rfl
theorem Left.yes {left r : Int} {P : Prop} (h1 : 0 ≤ r) (h2 : r ≤ left) (h : P) : Left left P r := .inr ⟨h1, h2, h⟩
theorem drew_more {w wr : World} (h : ∃ n, wr = w.drewN n) (m : Nat) : ∃ n, wr.drewN m = w.drewN n := by
  obtain ⟨n, rfl⟩ := h
  exact ⟨_, World.drewN_drewN _ _ _⟩
theorem find_at {α : Type} (l : List α) (d : α) (p : α → Bool) (k : Nat) (hk : k < l.length) (h0 : ∀ j, j < k → p (l.getD j d) = false) (h1 : p (l.getD k d) = true) : l.find? p = some (l.getD k d) := by
  induction l generalizing k with
  | nil => simp at hk
  | cons x r ih =>
    cases k with
    | zero =>
      have hx : p x = true := by simpa using h1
      simp [hx]
    | succ k =>
      have hx : p x = false := by simpa using h0 0 (by omega)
      rw [List.find?_cons, hx]
      simpa using ih k (by simpa using hk) (fun j hj => by simpa using h0 (j + 1) (by omega)) (by simpa using h1)
theorem find_no {α : Type} (l : List α) (d : α) (p : α → Bool) (h0 : ∀ j, j < l.length → p (l.getD j d) = false) : l.find? p = none := by
  rw [List.find?_eq_none]
  intro x hx
  obtain ⟨i, hi, rfl⟩ := List.getElem_of_mem hx
  have := h0 i hi
  rw [List.getD_eq_getElem?_getD, List.getElem?_eq_getElem hi] at this
  simpa using this
theorem ret_n {a b : Nat} (h : a = b) : Ending.returned (.int .i64 (a : Int)) = .returned (.int .i64 (b : Int)) := by rw [h]
end Go.Proofs.YtmmicoiiklcakaaDoor
