/- The laws' draws of bent trees. -/
import Derived.Test.YtcaknhoaoodbfaaGreatDoorGP7
namespace Go.Proofs.YtcaknhoaoodbfaaGreatDoor
open Go.ChangeShapes Go.WideShapes Go.ChangeAt Go.RowKit
set_option linter.unusedVariables false
theorem zero_cells : (Value.agg #[.int .i64 0, .string ByteArray.empty, .string ByteArray.empty, .string ByteArray.empty, .slice none 0 0]).cells = #[.int .i64 0, .string ByteArray.empty, .string ByteArray.empty, .string ByteArray.empty, .slice none 0 0] := by rfl
theorem zeros_at (k : Nat) : ∀ i q, i < k → q < 5 → (Builtin.zeroCells (Value.agg #[.int .i64 0, .string ByteArray.empty, .string ByteArray.empty, .string ByteArray.empty, .slice none 0 0]).cells k).toList[i * 5 + q]? = some (if q = 0 then .int .i64 0 else if q = 1 then .string ByteArray.empty else if q = 2 then .string ByteArray.empty else if q = 3 then .string ByteArray.empty else .slice none 0 0) := by
  intro i q hi hq
  rw [zero_cells]
  unfold Builtin.zeroCells
  have hsz : (#[.int .i64 0, .string ByteArray.empty, .string ByteArray.empty, .string ByteArray.empty, .slice none 0 0] : Array Value).size = 5 := rfl
  rw [Array.getElem?_toList, Array.getElem?_map, hsz, Array.getElem?_range, if_pos (by omega)]
  simp only [Option.map_some]
  rw [show (i * 5 + q) % 5 = q by omega]
  rcases q with _ | _ | _ | _ | _ | q
  · rfl
  · rfl
  · rfl
  · rfl
  · rfl
  · omega
theorem zeros_one (k : Nat) : ∀ u ∈ (Builtin.zeroCells (Value.agg #[.int .i64 0, .string ByteArray.empty, .string ByteArray.empty, .string ByteArray.empty, .slice none 0 0]).cells k).toList, u.oneCell' = true := by
  intro u hu
  obtain ⟨j, hj, rfl⟩ := List.getElem_of_mem hu
  have hl : (Builtin.zeroCells (Value.agg #[.int .i64 0, .string ByteArray.empty, .string ByteArray.empty, .string ByteArray.empty, .slice none 0 0]).cells k).toList.length = k * 5 := by rw [Array.length_toList, size_zeroCells, zero_cells]; rfl
  have h := zeros_at k (j / 5) (j % 5) (by omega) (by omega)
  rw [show j / 5 * 5 + j % 5 = j by omega, List.getElem?_eq_getElem hj] at h
  rw [Option.some.inj h]
  repeat' split
  all_goals rfl
def lenOfV : Value → Nat
  | .slice _ n _ => n
  | _ => 0
theorem bent_end {w w3 W : World} {b x : Nat} (h : w.grownBy w3 (some b)) (hx : w.heap.size ≤ x) (hg : w3.grownBy W (some x)) : w.grownBy W (some b) := grown_mix h hg (fun g e => by cases e; exact hx)
end Go.Proofs.YtcaknhoaoodbfaaGreatDoor
