/- Words turned: math/bits.RotateLeft32. -/
import Derived.Test.YtcaknhoaoodbfaaGreatDoorGC13
import Derived.IntWalk
import Derived.Lib.Builder
import Derived.Laws.Rows
import Derived.Laws.Tables
import Derived.Laws.CopyOwn
namespace Go.Proofs.YtcaknhoaoodbfaaGreatDoor
open Go.ChangeShapes Go.WideShapes Go.ChangeAt Go.RowKit
set_option linter.unusedVariables false

theorem ret_u32 {a b : Int} (h : a = b) : Ending.returned (.int .u32 a) = .returned (.int .u32 b) := by rw [h]
theorem rot_any (x : Int) (k : Nat) (hk : k = 1 ∨ k = 5 ∨ k = 30) (h : In32 x) (w : World) :
    Calls Tryz.prog 230 #[.int .u32 x, .int .i64 k] w fun e w' => e = .returned (.int .u32 (rotI x k)) ∧ w' = w := by
  obtain ⟨h0, h1⟩ := h
  have q1 : bits .and .u64 1 31 = 1 := by decide +kernel
  have q5 : bits .and .u64 5 31 = 5 := by decide +kernel
  have q30 : bits .and .u64 30 31 = 30 := by decide +kernel
  unfold rotI
  rcases hk with rfl | rfl | rfl
  all_goals
    go_enter Tryz.func230, Tryz.ntmps230
    go_wp2
    go_ret
    exact ⟨ret_u32 (by simp), rfl⟩
end Go.Proofs.YtcaknhoaoodbfaaGreatDoor

/- Rows of words that are known whole. -/
namespace Go.Proofs.YtcaknhoaoodbfaaGreatDoor
open Go.ChangeShapes Go.WideShapes Go.ChangeAt Go.RowKit
set_option linter.unusedVariables false

def u32s (xs : List Int) : Array Value := (xs.map (Value.int .u32)).toArray
theorem u32s_size (xs : List Int) : (u32s xs).size = xs.length := by simp [u32s]
/-- block g is these words -/
def ArrU (w : World) (g : Nat) (T : TypeId) (xs : List Int) : Prop := w.heap[g]? = some (.cells (u32s xs) T (0, 0))
theorem ArrU.lt {w : World} {g : Nat} {T : TypeId} {xs : List Int} (h : ArrU w g T xs) : g < w.heap.size := (Array.getElem?_eq_some_iff.1 h).1
theorem ArrU.cell {w : World} {g : Nat} {T : TypeId} {xs : List Int} (h : ArrU w g T xs) {i : Nat} (hi : i < xs.length) : w.cell? ⟨g, i, none⟩ = some (.int .u32 (xs.getD i 0)) := by
  rw [Lib.cell_of_heap h]
  simp [u32s, hi, List.getD_eq_getElem?_getD]
theorem ArrU.free {w : World} {g : Nat} {T : TypeId} {xs : List Int} (h : ArrU w g T xs) (i : Nat) : w.frozen? ⟨g, i, none⟩ = false := Lib.frozen_of_heap h i
theorem ArrU.set {w : World} {g : Nat} {T : TypeId} {xs : List Int} (h : ArrU w g T xs) (i : Nat) (v : Int) : ArrU (w.setCell ⟨g, i, none⟩ (.int .u32 v)) g T (xs.set i v) := by
  unfold ArrU at h ⊢
  simp [World.setCell, Array.getElem?_modify, h, u32s, List.map_set]
theorem ArrU.below {w w' : World} {g : Nat} {T : TypeId} {xs : List Int} (h : ArrU w g T xs) (hb : Below w.heap.size w w') : ArrU w' g T xs := (hb.block g h.lt).trans h
theorem ArrU.drew {w : World} {g : Nat} {T : TypeId} {xs : List Int} (h : ArrU w g T xs) : ArrU w.drew g T xs := h
theorem ArrU.new (w : World) (T : TypeId) (xs : List Int) : ArrU (w.alloc (.cells (u32s xs) T)) w.heap.size T xs := by
  exact heap_alloc_new w _
theorem ArrU.other {w : World} {g : Nat} {T : TypeId} {xs : List Int} (h : ArrU w g T xs) (p : Addr) (v : Value) (hn : p.block ≠ g) : ArrU (w.setCell p v) g T xs := by
  unfold ArrU at h ⊢
  rw [Below.heap_setCell w p v g (fun e => hn e.symm)]
  exact h
theorem map_set_range (n i : Nat) (f : Nat → Int) (v : Int) : ((List.range n).map f).set i v = (List.range n).map fun j => if j = i then v else f j := by
  apply List.ext_getElem?
  intro j
  rw [List.getElem?_set]
  by_cases e : i = j
  · subst e
    by_cases h : i < n
    · simp [h]
    · simp [h]
  · rw [if_neg e]
    by_cases h : j < n
    · simp [h]
      intro e2
      exact absurd e2.symm e
    · simp [h]
theorem range_getD (n : Nat) (f : Nat → Int) (i : Nat) (h : i < n) : ((List.range n).map f).getD i 0 = f i := by simp [List.getD_eq_getElem?_getD, h]
theorem sched_map (bs : List Int) (n : Nat) : sched bs n = (List.range n).map (wd bs) := by
  apply List.ext_getElem
  · simp [sched_length]
  · intro i h1 h2
    have h := sched_getD bs n i (by rwa [sched_length] at h1)
    rw [List.getD_eq_getElem?_getD, List.getElem?_eq_getElem h1] at h
    simpa using h
theorem or_bytes (x b : Int) (h0 : 0 ≤ x) (h1 : x ≤ 4294967295) (b0 : 0 ≤ b) (b1 : b ≤ 255) : bits .or .u32 (x * 256 % 4294967296) b = (x * 256 + b) % 4294967296 := by
  rw [bits_join .u32 32 (by decide) (fun n hn hn2 => by rw [IntKind.wrap_u32']; omega) 8 (x * 256 % 4294967296) b (by omega) (by omega) (by omega) b0 (by omega) (by omega)]
  omega
end Go.Proofs.YtcaknhoaoodbfaaGreatDoor
