/- The program's heap of texts: how it lies in memory; isAheadOf, swap, firstOf. -/
import Derived.Test.YtcaknhoaoodbfaaGreatDoorGC9
import Derived.Test.YtcaknhoaoodbfaaGreatDoorGC13
import Derived.BigRegion
import Derived.Laws.Cover1
namespace Go.Proofs.YtcaknhoaoodbfaaGreatDoor
open Go.ChangeShapes Go.WideShapes Go.ChangeAt Go.RowKit
set_option linter.unusedVariables false

theorem isAhead_any (s t : ByteArray) (w : World) :
    Calls Tryz.prog 159 #[.string s, .string t] w fun e w' => e = .returned (.bool (Op.bytesLess s.toList t.toList)) ∧ w' = w := by
  go_enter Tryz.func159, Tryz.ntmps159
  go_wp2
  go_ret
  exact ⟨rfl, rfl⟩

/-- a row of texts in block g, that may be written -/
structure RowC (w : World) (g : Nat) (L : List ByteArray) : Prop where
  lt : g < w.heap.size
  cell : ∀ i, i < L.length → w.cell? ⟨g, i, none⟩ = some (.string (ix L i))
  free : ∀ i, i < L.length → w.frozen? ⟨g, i, none⟩ = false
/-- the heap's two cells in block hb -/
structure HeapC (w : World) (hb : Nat) (v : Value) : Prop where
  lt : hb < w.heap.size
  c0 : w.cell? ⟨hb, 0, none⟩ = some v
  c1 : w.cell? ⟨hb, 1, none⟩ = some (.func (.func 159) #[] #[])
  free : w.frozen? ⟨hb, 0, none⟩ = false
theorem RowC.only {P : Nat → Prop} {w w' : World} {g : Nat} {L : List ByteArray} (h : RowC w g L) (ho : Only P w w') (hn : ¬ P g) : RowC w' g L :=
  ⟨Nat.lt_of_lt_of_le h.lt ho.size, fun i hi => (ho.cell (p := ⟨g, i, none⟩) h.lt hn).trans (h.cell i hi), fun i hi => (ho.frozen (p := ⟨g, i, none⟩) h.lt hn).trans (h.free i hi)⟩
theorem HeapC.only {P : Nat → Prop} {w w' : World} {hb : Nat} {v : Value} (h : HeapC w hb v) (ho : Only P w w') (hn : ¬ P hb) : HeapC w' hb v :=
  ⟨Nat.lt_of_lt_of_le h.lt ho.size, (ho.cell (p := ⟨hb, 0, none⟩) h.lt hn).trans h.c0, (ho.cell (p := ⟨hb, 1, none⟩) h.lt hn).trans h.c1, (ho.frozen (p := ⟨hb, 0, none⟩) h.lt hn).trans h.free⟩
theorem only_drewN {P : Nat → Prop} {a w : World} (h : Only P a w) (n : Nat) : Only P a (w.drewN n) := ⟨h.os, h.tape, h.output, h.size, h.block⟩
theorem only_drew {P : Nat → Prop} {a w : World} (h : Only P a w) : Only P a w.drew := ⟨h.os, h.tape, h.output, h.size, h.block⟩
theorem RowC.set {w : World} {g : Nat} {L : List ByteArray} (h : RowC w g L) (i : Nat) (hi : i < L.length) (t : ByteArray) : RowC (w.setCell ⟨g, i, none⟩ (.string t)) g (L.set i t) := by
  refine ⟨by simpa using h.lt, fun j hj => ?_, fun j hj => ?_⟩
  · rw [List.length_set] at hj
    rw [ix_set _ _ _ _ hi]
    by_cases e : j = i
    · subst e
      rw [if_pos rfl]
      exact World.cell?_setCell_same _ _ _ (h.cell j hj)
    · rw [if_neg e, set_off (fun e2 => e e2.symm)]
      exact h.cell j hj
  · rw [List.length_set] at hj
    rw [World.frozen?_setCell]
    exact h.free j hj
theorem RowC.drewN {w : World} {g : Nat} {L : List ByteArray} (h : RowC w g L) (n : Nat) : RowC (w.drewN n) g L := ⟨h.lt, h.cell, h.free⟩
theorem HeapC.drewN {w : World} {hb : Nat} {v : Value} (h : HeapC w hb v) (m : Nat) : HeapC (w.drewN m) hb v := ⟨h.lt, h.c0, h.c1, h.free⟩
theorem HeapC.setOther {w : World} {hb : Nat} {v u : Value} {p : Addr} (h : HeapC w hb v) (hp : p.block ≠ hb) : HeapC (w.setCell p u) hb v :=
  h.only (P := fun k => k = p.block) (Only.set w p u rfl) (fun e => hp e.symm)

/-- two places are changed for one another -/
def SwapRes (w : World) (g : Nat) (L : List ByteArray) (i j : Nat) (e : Ending) (w' : World) : Prop :=
  e = .returned (.int .i64 j) ∧ ∃ m, w' = ((w.drewN m).setCell ⟨g, i, none⟩ (.string (ix L j))).setCell ⟨g, j, none⟩ (.string (ix L i))
set_option maxRecDepth 100000 in
set_option maxHeartbeats 6400000 in
theorem swap_any (hb g n c : Nat) (L : List ByteArray) (i j : Nat) (w : World) (hn : L.length = n) (hc : n ≤ 1000) (hi : i < n) (hj : j < n) (hij : i ≠ j) (hH : HeapC w hb (.slice (some ⟨g, 0, none⟩) n c)) (hR : RowC w g L) :
    Calls Tryz.prog 207 #[.pointer (some ⟨hb, 0, none⟩), .int .i64 i, .int .i64 j] w (SwapRes w g L i j) := by
  have c0 := hH.c0
  have d1 := hR.cell i (by omega)
  have d2 := hR.cell j (by omega)
  have f1 := hR.free i (by omega)
  have f2 := hR.free j (by omega)
  have hg := hR.lt
  have hlt := hH.lt
  unfold SwapRes
  generalize ix L i = s at d1 ⊢
  generalize ix L j = t at d2 ⊢
  have q1 : (i : Int) < (n : Int) := by omega
  have q2 : (j : Int) < (n : Int) := by omega
  clear hH hR hn
  go_enter Tryz.func207, Tryz.ntmps207
  go_wp2
  go_region
  all_goals
    go_wp2
    go_ret
    exact ⟨rfl, _, rfl⟩

end Go.Proofs.YtcaknhoaoodbfaaGreatDoor
