/- A slice of bytes that came in. -/
import Derived.Test.YticpebpicdboaaaDoorBase
namespace Go.Proofs.YticpebpicdboaaaDoor
open Go.ChangeShapes Go.WideShapes Go.ChangeAt Go.RowKit
set_option linter.unusedVariables false

/-- the bytes xs are what the slice that came in holds -/
structure InRow (W : World) (a : Option Addr) (n c : Nat) (xs : List Int) : Prop where
  max : n ≤ maxLen
  len : xs.length = n
  byte : ∀ i, 0 ≤ xs.getD i 0 ∧ xs.getD i 0 ≤ 255
  row : n = 0 ∨ ∃ rb ro, a = some ⟨rb, ro, none⟩ ∧ rb < W.heap.size ∧ ∀ i, i < n → W.cell? ⟨rb, ro + i, none⟩ = some (.int .u8 (xs.getD i 0))
theorem InRow.nil (W : World) : InRow W none 0 0 [] := ⟨by decide, rfl, fun i => by simp, .inl rfl⟩
theorem InRow.cells {W : World} {x : Addr} {n : Nat} {zs : List Int} (hn : n ≤ zs.length) (hcell : ∀ i, i < zs.length → W.cell? (x.add i) = some (.int .u8 (zs.getD i 0))) :
    n = 0 ∨ ∃ rb ro, some x = some ⟨rb, ro, none⟩ ∧ rb < W.heap.size ∧ ∀ i, i < n → W.cell? ⟨rb, ro + i, none⟩ = some (.int .u8 (zs.getD i 0)) := by
  by_cases h0 : n = 0
  · exact .inl h0
  · obtain ⟨b, o, s⟩ := x
    have hc := hcell 0 (by omega)
    have hs : s = none := by simpa [Addr.add] using World.cell?_spot hc
    subst hs
    refine .inr ⟨b, o, rfl, by simpa [Addr.add] using World.block_lt_of_cell? W _ hc, fun i hi => ?_⟩
    have := hcell i (by omega)
    rwa [Addr.add_lit] at this
theorem InRow.ofCells {W : World} {x : Addr} {n c : Nat} {zs : List Int} (hl : n ≤ c) (hm : c ≤ maxLen) (hz : zs.length = c) (hcell : ∀ i, i < zs.length → W.cell? (x.add i) = some (.int .u8 (zs.getD i 0)))
    (hwz : ∀ y ∈ zs, (Lit.int .u8 y).wf = true) : InRow W (some x) n c (zs.take n) := by
  have hb : ∀ i, 0 ≤ zs.getD i 0 ∧ zs.getD i 0 ≤ 255 := by
    intro i
    rw [List.getD_eq_getElem?_getD]
    by_cases hi : i < zs.length
    · rw [List.getElem?_eq_getElem hi]
      have := hwz _ (List.getElem_mem hi)
      simp only [Lit.wf, Bool.and_eq_true, decide_eq_true_eq] at this
      exact this
    · rw [List.getElem?_eq_none (by omega)]
      simp
  have hg : ∀ i, i < n → (zs.take n).getD i 0 = zs.getD i 0 := fun i hi => by
    simp only [List.getD_eq_getElem?_getD, List.getElem?_take, hi, if_true]
  refine ⟨Nat.le_trans hl hm, by rw [List.length_take]; omega, fun i => ?_, ?_⟩
  · by_cases hi : i < n
    · rw [hg i hi]
      exact hb i
    · rw [List.getD_eq_getElem?_getD, List.getElem?_eq_none (by rw [List.length_take]; omega)]
      simp
  · rcases InRow.cells (x := x) (n := n) (by omega) hcell with h | ⟨rb, ro, h1, h2, h3⟩
    · exact .inl h
    · exact .inr ⟨rb, ro, h1, h2, fun i hi => by rw [hg i hi]; exact h3 i hi⟩
/-- a row of the call's own, handed on -/
theorem inRow_owned {W : World} {B : Nat} {a : Option Addr} {n c : Nat} {xs : List Int} (h : W.ownsRow B 5 1 (.slice a n c) n (xs.map (Value.int .u8))) (hb : ∀ i, 0 ≤ xs.getD i 0 ∧ xs.getD i 0 ≤ 255) : InRow W a n c xs := by
  have hl := owns_length h
  rcases Row.of_owns h with ⟨hv, rfl⟩ | ⟨b, o, cap, hv, h1, h2, h3, h4⟩
  · simp only [Value.slice.injEq] at hv
    obtain ⟨rfl, rfl, rfl⟩ := hv
    exact ⟨by decide, rfl, hb, .inl rfl⟩
  · simp only [Value.slice.injEq] at hv
    obtain ⟨rfl, rfl, rfl⟩ := hv
    exact ⟨Nat.le_trans h1 h2, rfl, hb, .inr ⟨b, o, rfl, h3, h4⟩⟩
end Go.Proofs.YticpebpicdboaaaDoor
