/- Plain words of chapter 9. -/
import Derived.Test.YtlhflkpbccbofaaDoorUtf
import Derived.Test.YtlhflkpbccbofaaDoorSortP
import Derived.Lib.IndexMore
namespace Go.Proofs.YtlhflkpbccbofaaDoor
set_option linter.unusedVariables false

structure Ident where
  cat : ByteArray
  kind : ByteArray
  lang : ByteArray
  name : ByteArray
def dId : Ident := ⟨ByteArray.empty, ByteArray.empty, ByteArray.empty, ByteArray.empty⟩
instance : Inhabited Ident := ⟨dId⟩
def hasB (c : Int) (s : ByteArray) : Bool := s.data.toList.any fun x => (x.toNat : Int) == c
/-- a field that has no fault, and no mark -/
def fldB (s : ByteArray) : Bool := (textFault s.data.toList == 0) && !hasB 60 s
def fillB (s : ByteArray) : Bool := !s.toList.isEmpty && fldB s
/-- the model's field -/
def fieldB (s : ByteArray) (e sl : Bool) : Bool := fldB s && (e || !s.toList.isEmpty) && (sl || !hasB 47 s)
def identB (x : Ident) : Bool := fieldB x.cat false false && fieldB x.kind false false && fieldB x.lang true false && fieldB x.name true true
def slash : ByteArray := { data := #[47] }
def identT (x : Ident) : ByteArray := x.cat ++ slash ++ x.kind ++ slash ++ x.lang ++ slash ++ x.name
def idCode (x : Ident) : Int := if identB x = true then 0 else 5
def idText (x : Ident) : ByteArray := if identB x = true then identT x else ByteArray.empty
/-- the program's way of asking -/
def identB' (x : Ident) : Bool := fillB x.cat && fillB x.kind && fldB x.lang && fldB x.name && !hasB 47 (x.cat ++ x.kind ++ x.lang)
theorem hasB_append (c : Int) (s t : ByteArray) : hasB c (s ++ t) = (hasB c s || hasB c t) := by
  unfold hasB
  rw [show (s ++ t).data.toList = s.data.toList ++ t.data.toList by simp [ByteArray.data_append], List.any_append]
theorem identB_eq (x : Ident) : identB' x = identB x := by
  unfold identB' identB fieldB fillB
  rw [hasB_append, hasB_append]
  cases x.cat.toList.isEmpty <;> cases x.kind.toList.isEmpty <;> cases fldB x.cat <;> cases fldB x.kind <;> cases fldB x.lang <;> cases fldB x.name <;> cases hasB 47 x.cat <;> cases hasB 47 x.kind <;> cases hasB 47 x.lang <;> rfl
theorem hasB_at {c : Int} {s : ByteArray} {k : Nat} (hk : k < s.size) (h : ((s[k].toNat : Int) == c) = true) : hasB c s = true := by
  unfold hasB
  rw [List.any_eq_true]
  exact ⟨s[k], by rw [show s[k] = s.data.toList[k]'(by simpa using hk) from rfl]; exact List.getElem_mem _, h⟩
theorem hasB_not {c : Int} {s : ByteArray} (h : ∀ k (hk : k < s.size), ((s[k].toNat : Int) == c) = false) : hasB c s = false := by
  unfold hasB
  rw [List.any_eq_false]
  intro x hx
  obtain ⟨i, hi, rfl⟩ := List.getElem_of_mem hx
  have := h i (by simpa using hi)
  rw [show s[i]'(by simpa using hi) = s.data.toList[i] from rfl] at this
  simpa using this
/-- two with the same Category, Kind and Lang -/
def sameId (x y : Ident) : Bool := x.cat.toList == y.cat.toList && x.kind.toList == y.kind.toList && x.lang.toList == y.lang.toList
def twiceI (l : List Ident) : Bool := (List.range l.length).any fun i => (List.range i).any fun k => sameId (l.getD i dId) (l.getD k dId)
def sameT (s t : ByteArray) : Bool := s.toList == t.toList
def twiceS (l : List ByteArray) : Bool := (List.range l.length).any fun i => (List.range i).any fun k => sameT (l.getD i ByteArray.empty) (l.getD k ByteArray.empty)
theorem twice_at {n : Nat} {f : Nat → Nat → Bool} {i k : Nat} (hi : i < n) (hk : k < i) (h : f i k = true) : ((List.range n).any fun i => (List.range i).any fun k => f i k) = true := by
  rw [List.any_eq_true]
  refine ⟨i, List.mem_range.2 hi, ?_⟩
  rw [List.any_eq_true]
  exact ⟨k, List.mem_range.2 hk, h⟩
theorem twice_not {n : Nat} {f : Nat → Nat → Bool} (h : ∀ i, i < n → ∀ k, k < i → f i k = false) : ((List.range n).any fun i => (List.range i).any fun k => f i k) = false := by
  rw [List.any_eq_false]
  intro i hi
  rw [Bool.not_eq_true, List.any_eq_false]
  intro k hk
  rw [h i (List.mem_range.1 hi) k (List.mem_range.1 hk)]
  decide
structure Dis where
  ids : List Ident
  feats : List ByteArray
def manyD (d : Dis) : Bool := decide (6 < d.ids.length) || decide (10 < d.feats.length)
def wrongD (d : Dis) : Bool := !((List.range d.ids.length).all fun i => identB (d.ids.getD i dId)) || !((List.range d.feats.length).all fun i => fieldB (d.feats.getD i ByteArray.empty) false true)
def disCode (d : Dis) : Int := if manyD d = true then 2 else if wrongD d = true then 5 else if (twiceI d.ids || twiceS d.feats) = true then 6 else 0
theorem wrong_id {d : Dis} {i : Nat} (hi : i < d.ids.length) (h : identB (d.ids.getD i dId) = false) : wrongD d = true := by
  unfold wrongD
  rw [Bool.or_eq_true]
  left
  rw [Bool.not_eq_true', List.all_eq_false]
  exact ⟨i, List.mem_range.2 hi, by rw [h]; decide⟩
theorem wrong_ft {d : Dis} {i : Nat} (hi : i < d.feats.length) (h : fieldB (d.feats.getD i ByteArray.empty) false true = false) : wrongD d = true := by
  unfold wrongD
  rw [Bool.or_eq_true]
  right
  rw [Bool.not_eq_true', List.all_eq_false]
  exact ⟨i, List.mem_range.2 hi, by rw [h]; decide⟩
theorem right_d {d : Dis} (h1 : ∀ i, i < d.ids.length → identB (d.ids.getD i dId) = true) (h2 : ∀ i, i < d.feats.length → fieldB (d.feats.getD i ByteArray.empty) false true = true) : wrongD d = false := by
  unfold wrongD
  rw [Bool.or_eq_false_iff, Bool.not_eq_false', Bool.not_eq_false', List.all_eq_true, List.all_eq_true]
  exact ⟨fun i hi => h1 i (List.mem_range.1 hi), fun i hi => h2 i (List.mem_range.1 hi)⟩
theorem fill_field (s : ByteArray) : fillB s = fieldB s false true := by
  unfold fillB fieldB
  cases s.toList.isEmpty <;> cases fldB s <;> rfl
def capsL (d : Dis) : List UInt8 := linesT (sortT (d.ids.map identT)) ++ linesT (sortT d.feats)
def capsCode (d : Dis) : Int := disCode d
def capsText (d : Dis) : ByteArray := if disCode d = 0 then ⟨(capsL d).toArray⟩ else ByteArray.empty
end Go.Proofs.YtlhflkpbccbofaaDoor
