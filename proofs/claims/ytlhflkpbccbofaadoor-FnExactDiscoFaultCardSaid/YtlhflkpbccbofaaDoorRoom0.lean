/- Rooms: cells of one's own. -/
import Derived.Test.YtlhflkpbccbofaaDoorBase
namespace Go.Proofs.YtlhflkpbccbofaaDoor
open Go.ChangeShapes Go.WideShapes Go.ChangeAt Go.RowKit
set_option linter.unusedVariables false

theorem below3 (w : World) (o1 o2 o3 : Obj) : Below w.heap.size w (((w.alloc o1).alloc o2).alloc o3) := (((Below.refl _ _).alloc (Nat.le_refl _) _).alloc (by simp) _).alloc (by simp; omega) _


theorem below_made {w w1 : World} (h : w.grownBy w1 none) : Below w.heap.size w w1 := ⟨h.os, h.tape, h.output, h.size, fun i hi => h.block i hi (by simp)⟩


/-- m cells in block b, not frozen -/
def Room (w : World) (b m : Nat) : Prop := b < w.heap.size ∧ ∀ i, i < m → (∃ v, w.cell? ⟨b, i, none⟩ = some v) ∧ w.frozen? ⟨b, i, none⟩ = false
theorem Room.below {w w' : World} {b m : Nat} (h : Room w b m) (hb : Below w.heap.size w w') : Room w' b m :=
  ⟨Nat.lt_of_lt_of_le h.1 hb.size, fun i hi => ⟨(h.2 i hi).1.imp fun v hv => (hb.cell (p := ⟨b, i, none⟩) h.1).trans hv, (hb.frozen (p := ⟨b, i, none⟩) h.1).trans (h.2 i hi).2⟩⟩
theorem room_made {w : World} {base : Nat} {e : TypeId} {size n g cap : Nat} {xs : List Value} (h : w.ownsRow base e size (.slice (some ⟨g, 0, none⟩) n cap) n xs) : Room w g (n * size) := by
  refine ⟨(h.lt g rfl).2, fun i hi => ⟨?_, h.frozenAt i⟩⟩
  rw [h.cellAt i hi]
  have := h.1
  exact ⟨xs[i]'(by omega), List.getElem?_eq_getElem (by omega)⟩

theorem Room.set {w : World} {b m : Nat} (h : Room w b m) (p : Addr) (v : Value) : Room (w.setCell p v) b m :=
  ⟨by simpa using h.1, fun i hi => ⟨by obtain ⟨v', hv⟩ := (h.2 i hi).1; exact cell?_setCell_some hv, by rw [World.frozen?_setCell]; exact (h.2 i hi).2⟩⟩
theorem Room.put {w : World} {b m i : Nat} (h : Room w b m) (hi : i < m) (v : Value) : (w.setCell ⟨b, i, none⟩ v).cell? ⟨b, i, none⟩ = some v := by
  obtain ⟨u, hu⟩ := (h.2 i hi).1
  exact World.cell?_setCell_same _ _ _ hu
theorem set_off {w : World} {b i j : Nat} {v : Value} (h : i ≠ j) : (w.setCell ⟨b, i, none⟩ v).cell? ⟨b, j, none⟩ = w.cell? ⟨b, j, none⟩ := World.cell?_setCell_other _ _ _ _ (fun e => absurd (congrArg Addr.off e) h)
end Go.Proofs.YtlhflkpbccbofaaDoor
