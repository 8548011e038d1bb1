/- What is written in some blocks alone. -/
import Derived.Test.YtmmicoiiklcakaaGreatDoorGC0
import Derived.Test.YtmmicoiiklcakaaGreatDoorGC3
namespace Go.Proofs.YtmmicoiiklcakaaGreatDoor
open Go.ChangeShapes Go.WideShapes Go.ChangeAt Go.RowKit
set_option linter.unusedVariables false

/-- blocks for which P does not hold are as they were; new ones may have been made -/
structure Only (P : Nat → Prop) (w w' : World) : Prop where
  os : w'.os = w.os
  tape : w'.tape = w.tape
  output : w'.output = w.output
  size : w.heap.size ≤ w'.heap.size
  block : ∀ i, i < w.heap.size → ¬ P i → w'.heap[i]? = w.heap[i]?
theorem Only.refl {P : Nat → Prop} (w : World) : Only P w w := ⟨rfl, rfl, rfl, Nat.le_refl _, fun _ _ _ => rfl⟩
theorem Only.trans {P : Nat → Prop} {a b c : World} (h : Only P a b) (k : Only P b c) : Only P a c :=
  ⟨k.os.trans h.os, k.tape.trans h.tape, k.output.trans h.output, Nat.le_trans h.size k.size, fun i hi hp => (k.block i (Nat.lt_of_lt_of_le hi h.size) hp).trans (h.block i hi hp)⟩
theorem Only.mono {P Q : Nat → Prop} {a b : World} (h : Only P a b) (hpq : ∀ i, P i → Q i) : Only Q a b :=
  ⟨h.os, h.tape, h.output, h.size, fun i hi hq => h.block i hi fun hp => hq (hpq i hp)⟩
theorem Only.below {P : Nat → Prop} {a b : World} (h : Below a.heap.size a b) : Only P a b := ⟨h.os, h.tape, h.output, h.size, fun i hi _ => h.block i hi⟩
theorem Only.set {P : Nat → Prop} (w : World) (p : Addr) (v : Value) (h : P p.block) : Only P w (w.setCell p v) :=
  ⟨rfl, rfl, rfl, by simp, fun i hi hp => Below.heap_setCell w p v i fun e => hp (e ▸ h)⟩
theorem Only.cell {P : Nat → Prop} {a b : World} (h : Only P a b) {p : Addr} (hp : p.block < a.heap.size) (hn : ¬ P p.block) : b.cell? p = a.cell? p := by
  unfold World.cell?
  rw [h.block _ hp hn]
theorem Only.frozen {P : Nat → Prop} {a b : World} (h : Only P a b) {p : Addr} (hp : p.block < a.heap.size) (hn : ¬ P p.block) : b.frozen? p = a.frozen? p := by
  unfold World.frozen?
  rw [h.block _ hp hn]
/-- below a bound that all written blocks lie behind, nothing has changed -/
theorem Only.under {P : Nat → Prop} {B : Nat} {w0 a b : World} (h0 : Below B w0 a) (hB : B ≤ w0.heap.size) (h : Only P a b) (hP : ∀ i, P i → B ≤ i) : Below B w0 b :=
  ⟨h.os.trans h0.os, h.tape.trans h0.tape, h.output.trans h0.output, Nat.le_trans h0.size h.size, fun i hi => (h.block i (Nat.lt_of_lt_of_le hi (Nat.le_trans hB h0.size)) fun hp => by have := hP i hp; omega).trans (h0.block i hi)⟩
theorem Room.only {P : Nat → Prop} {w w' : World} {b m : Nat} (h : Room w b m) (ho : Only P w w') (hn : ¬ P b) : Room w' b m :=
  ⟨Nat.lt_of_lt_of_le h.1 ho.size, fun i hi => ⟨(h.2 i hi).1.imp fun v hv => (ho.cell (p := ⟨b, i, none⟩) h.1 hn).trans hv, (ho.frozen (p := ⟨b, i, none⟩) h.1 hn).trans (h.2 i hi).2⟩⟩
end Go.Proofs.YtmmicoiiklcakaaGreatDoor
