/- Rooms: cells of one's own. -/
import Derived.Test.YtmmicoiiklcakaaDoorGK0
import Derived.Test.YtmmicoiiklcakaaDoorGK3
namespace Go.Proofs.YtmmicoiiklcakaaDoor
open Go.ChangeShapes Go.WideShapes Go.ChangeAt Go.RowKit
set_option linter.unusedVariables false

theorem below3 (w : World) (o1 o2 o3 : Obj) : Below w.heap.size w (((w.alloc o1).alloc o2).alloc o3) := (((Below.refl _ _).alloc (Nat.le_refl _) _).alloc (by simp) _).alloc (by simp; omega) _


theorem below_made {w w1 : World} (h : w.grownBy w1 none) : Below w.heap.size w w1 := ⟨h.os, h.tape, h.output, h.size, fun i hi => h.block i hi (by simp)⟩


/-- m cells in block b, not frozen -/
def Room (w : World) (b m : Nat) : Prop := b < w.heap.size ∧ ∀ i, i < m → (∃ v, w.cell? ⟨b, i, none⟩ = some v) ∧ w.frozen? ⟨b, i, none⟩ = false
theorem Room.below {w w' : World} {b m : Nat} (h : Room w b m) (hb : Below w.heap.size w w') : Room w' b m :=
  ⟨Nat.lt_of_lt_of_le h.1 hb.size, fun i hi => ⟨(h.2 i hi).1.imp fun v hv => (hb.cell (p := ⟨b, i, none⟩) h.1).trans hv, (hb.frozen (p := ⟨b, i, none⟩) h.1).trans (h.2 i hi).2⟩⟩
theorem room_made {w : World} {base : Nat} {e : TypeId} {size n g cap : Nat} {xs : List Value} (h : w.ownsRow base e size (.slice (some ⟨g, 0, none⟩) n cap) n xs) : Room w g (n * size) := by
  refine ⟨(h.lt g rfl).2, fun i hi => ⟨?_, h.frozenAt i⟩⟩
  rw [h.cellAt i hi]
  have := h.1
  exact ⟨xs[i]'(by omega), List.getElem?_eq_getElem (by omega)⟩

theorem Room.set {w : World} {b m : Nat} (h : Room w b m) (p : Addr) (v : Value) : Room (w.setCell p v) b m :=
  ⟨by simpa using h.1, fun i hi => ⟨by obtain ⟨v', hv⟩ := (h.2 i hi).1; exact cell?_setCell_some hv, by rw [World.frozen?_setCell]; exact (h.2 i hi).2⟩⟩
theorem Room.put {w : World} {b m i : Nat} (h : Room w b m) (hi : i < m) (v : Value) : (w.setCell ⟨b, i, none⟩ v).cell? ⟨b, i, none⟩ = some v := by
  obtain ⟨u, hu⟩ := (h.2 i hi).1
  exact World.cell?_setCell_same _ _ _ hu
theorem set_off {w : World} {b i j : Nat} {v : Value} (h : i ≠ j) : (w.setCell ⟨b, i, none⟩ v).cell? ⟨b, j, none⟩ = w.cell? ⟨b, j, none⟩ := World.cell?_setCell_other _ _ _ _ (fun e => absurd (congrArg Addr.off e) h)
end Go.Proofs.YtmmicoiiklcakaaDoor

/- How identities, texts and a disco lie in memory. -/
namespace Go.Proofs.YtmmicoiiklcakaaDoor
open Go.ChangeShapes Go.WideShapes Go.ChangeAt Go.RowKit
set_option linter.unusedVariables false

theorem Ident.eq {x y : Ident} (h0 : x.cat = y.cat) (h1 : x.kind = y.kind) (h2 : x.lang = y.lang) (h3 : x.name = y.name) : x = y := by cases x; cases y; simp_all
/-- four cells that read as an identity -/
structure IdAt (w : World) (b o : Nat) (x : Ident) : Prop where
  lt : b < w.heap.size
  c0 : w.cell? ⟨b, o, none⟩ = some (.string x.cat)
  c1 : w.cell? ⟨b, o + 1, none⟩ = some (.string x.kind)
  c2 : w.cell? ⟨b, o + 2, none⟩ = some (.string x.lang)
  c3 : w.cell? ⟨b, o + 3, none⟩ = some (.string x.name)
theorem IdAt.below {w w' : World} {b o : Nat} {x : Ident} (h : IdAt w b o x) (hb : Below w.heap.size w w') : IdAt w' b o x :=
  ⟨Nat.lt_of_lt_of_le h.lt hb.size, (hb.cell (by exact h.lt)).trans h.c0, (hb.cell (by exact h.lt)).trans h.c1, (hb.cell (by exact h.lt)).trans h.c2, (hb.cell (by exact h.lt)).trans h.c3⟩
theorem IdAt.new (w : World) (T : TypeId) (x : Ident) : IdAt (w.alloc (.cells #[.string x.cat, .string x.kind, .string x.lang, .string x.name] T)) w.heap.size 0 x := ⟨by simp, by simp, by simp, by simp, by simp⟩
theorem IdAt.only {P : Nat → Prop} {w w' : World} {b o : Nat} {x : Ident} (h : IdAt w b o x) (hb : ∀ i, i < w.heap.size → ¬ P i → w'.heap[i]? = w.heap[i]?) (hs : w.heap.size ≤ w'.heap.size) (hp : ¬ P b) : IdAt w' b o x := by
  have e := hb b h.lt hp
  have c : ∀ o, w'.cell? ⟨b, o, none⟩ = w.cell? ⟨b, o, none⟩ := fun o => World.cell?_of_block (w := w) e
  exact ⟨Nat.lt_of_lt_of_le h.lt hs, (c _).trans h.c0, (c _).trans h.c1, (c _).trans h.c2, (c _).trans h.c3⟩
theorem IdAt.set {w : World} {B o i : Nat} {x : Ident} {v : Value} (h : IdAt w B o x) (hi : i < o ∨ o + 4 ≤ i) : IdAt (w.setCell ⟨B, i, none⟩ v) B o x := by
  refine ⟨by simpa using h.lt, ?_, ?_, ?_, ?_⟩
  · rw [set_off (by omega)]; exact h.c0
  · rw [set_off (by omega)]; exact h.c1
  · rw [set_off (by omega)]; exact h.c2
  · rw [set_off (by omega)]; exact h.c3
/-- a slice of identities that reads as l -/
structure IdsAt (w : World) (a : Option Addr) (n c : Nat) (l : List Ident) : Prop where
  len : l.length = n
  max : n ≤ 9223372036854775807
  row : n = 0 ∨ ∃ b o, a = some ⟨b, o, none⟩ ∧ ∀ i, i < n → IdAt w b (o + i * 4) (l.getD i dId)
theorem IdsAt.below {w w' : World} {a : Option Addr} {n c : Nat} {l : List Ident} (h : IdsAt w a n c l) (hb : Below w.heap.size w w') : IdsAt w' a n c l := by
  refine ⟨h.len, h.max, ?_⟩
  rcases h.row with e | ⟨b, o, ha, hc⟩
  · exact .inl e
  · exact .inr ⟨b, o, ha, fun i hi => (hc i hi).below hb⟩
/-- a slice of texts that reads as ts -/
structure StsAt (w : World) (a : Option Addr) (n c : Nat) (ts : List ByteArray) : Prop where
  len : ts.length = n
  max : n ≤ 9223372036854775807
  row : n = 0 ∨ ∃ b o, a = some ⟨b, o, none⟩ ∧ b < w.heap.size ∧ ∀ i, i < n → w.cell? ⟨b, o + i, none⟩ = some (.string (ts.getD i ByteArray.empty))
theorem StsAt.below {w w' : World} {a : Option Addr} {n c : Nat} {ts : List ByteArray} (h : StsAt w a n c ts) (hb : Below w.heap.size w w') : StsAt w' a n c ts := by
  refine ⟨h.len, h.max, ?_⟩
  rcases h.row with e | ⟨b, o, ha, hr, hc⟩
  · exact .inl e
  · exact .inr ⟨b, o, ha, Nat.lt_of_lt_of_le hr hb.size, fun i hi => (hb.cell (p := ⟨b, o + i, none⟩) hr).trans (hc i hi)⟩
/-- sizes as they are of what came in, and as they are of what was measured -/
def IdSize (x : Ident) : Prop := x.cat.size ≤ 9223372036854775807 ∧ x.kind.size ≤ 9223372036854775807 ∧ x.lang.size ≤ 9223372036854775807 ∧ x.name.size ≤ 9223372036854775807
def IdsSize (l : List Ident) : Prop := ∀ i, IdSize (l.getD i dId)
def StsSize (l : List ByteArray) : Prop := ∀ i, (l.getD i ByteArray.empty).size ≤ 9223372036854775807
def SmallId (x : Ident) : Prop := x.cat.size ≤ 1048576 ∧ x.kind.size ≤ 1048576 ∧ x.lang.size ≤ 1048576 ∧ x.name.size ≤ 1048576
def SmallIds (l : List Ident) : Prop := l.length ≤ 1048576 ∧ ∀ i, i < l.length → SmallId (l.getD i dId)
def SmallSts (l : List ByteArray) : Prop := l.length ≤ 1048576 ∧ ∀ i, i < l.length → (l.getD i ByteArray.empty).size ≤ 1048576
def SmallDis (d : Dis) : Prop := SmallIds d.ids ∧ SmallSts d.feats
/-- the two slices of a disco -/
structure DisAt (w : World) (a1 : Option Addr) (n1 c1 : Nat) (a2 : Option Addr) (n2 c2 : Nat) (d : Dis) : Prop where
  ids : IdsAt w a1 n1 c1 d.ids
  feats : StsAt w a2 n2 c2 d.feats
theorem DisAt.below {w w' : World} {a1 a2 : Option Addr} {n1 c1 n2 c2 : Nat} {d : Dis} (h : DisAt w a1 n1 c1 a2 n2 c2 d) (hb : Below w.heap.size w w') : DisAt w' a1 n1 c1 a2 n2 c2 d := ⟨h.ids.below hb, h.feats.below hb⟩
/-- new slices are handed back -/
def IdsRes (w : World) (l : List Ident) (e : Ending) (w' : World) : Prop := ∃ a n c, e = .returned (.slice a n c) ∧ IdsAt w' a n c l ∧ (∀ y, a = some y → w.heap.size ≤ y.block) ∧ Below w.heap.size w w'
def StsRes (w : World) (l : List ByteArray) (e : Ending) (w' : World) : Prop := ∃ a n c, e = .returned (.slice a n c) ∧ StsAt w' a n c l ∧ (∀ y, a = some y → w.heap.size ≤ y.block) ∧ Below w.heap.size w w'
def DisRes (w : World) (d : Dis) (e : Ending) (w' : World) : Prop := ∃ a1 n1 c1 a2 n2 c2, e = .returned (.agg #[.slice a1 n1 c1, .slice a2 n2 c2]) ∧ DisAt w' a1 n1 c1 a2 n2 c2 d ∧ Below w.heap.size w w'
theorem IdAt.set2 {w : World} {B o : Nat} {p : Addr} {x : Ident} {v : Value} (h : IdAt w B o x) (hp : p.block ≠ B) : IdAt (w.setCell p v) B o x := by
  have c : ∀ o, (w.setCell p v).cell? ⟨B, o, none⟩ = w.cell? ⟨B, o, none⟩ := fun o => World.cell?_setCell_other _ _ _ _ (fun e => hp (by rw [e]))
  exact ⟨by simpa using h.lt, (c _).trans h.c0, (c _).trans h.c1, (c _).trans h.c2, (c _).trans h.c3⟩
theorem IdsAt.set {w : World} {a : Option Addr} {n c : Nat} {l : List Ident} {p : Addr} {v : Value} (h : IdsAt w a n c l) (hs : ∀ y, a = some y → p.block ≠ y.block) : IdsAt (w.setCell p v) a n c l := by
  refine ⟨h.len, h.max, ?_⟩
  rcases h.row with e | ⟨b, o, ha, hc⟩
  · exact .inl e
  · exact .inr ⟨b, o, ha, fun i hi => (hc i hi).set2 (hs _ ha)⟩
theorem StsAt.set {w : World} {a : Option Addr} {n c : Nat} {l : List ByteArray} {p : Addr} {v : Value} (h : StsAt w a n c l) (hs : ∀ y, a = some y → p.block ≠ y.block) : StsAt (w.setCell p v) a n c l := by
  refine ⟨h.len, h.max, ?_⟩
  rcases h.row with e | ⟨b, o, ha, hr, hc⟩
  · exact .inl e
  · refine .inr ⟨b, o, ha, by simpa using hr, fun i hi => ?_⟩
    rw [World.cell?_setCell_other _ _ _ _ (fun e => hs _ ha (by rw [e]))]
    exact hc i hi
end Go.Proofs.YtmmicoiiklcakaaDoor
