/- The program's words of kinds and of shows, in rows. -/
import Derived.Test.YtpafknmfacgccaaDoorKindsP
namespace Go.Proofs.YtpafknmfacgccaaDoor
open Go.ChangeShapes Go.WideShapes Go.ChangeAt Go.RowKit
set_option linter.unusedVariables false

theorem pKinds_any (w : World) : Calls Tryd.prog 50 #[] w fun e w' =>
    e = .returned (.slice (some ⟨w.heap.size, 0, none⟩) 7 7) ∧ w.heap.size < w'.heap.size ∧ Below w.heap.size w w' ∧ w'.cell? ⟨w.heap.size, 0, none⟩ = some (.string ⟨#[]⟩) ∧ w'.cell? ⟨w.heap.size, 1, none⟩ = some (.string ⟨#[117, 110, 97, 118, 97, 105, 108, 97, 98, 108, 101]⟩) ∧ w'.cell? ⟨w.heap.size, 2, none⟩ = some (.string ⟨#[115, 117, 98, 115, 99, 114, 105, 98, 101]⟩) ∧ w'.cell? ⟨w.heap.size, 3, none⟩ = some (.string ⟨#[115, 117, 98, 115, 99, 114, 105, 98, 101, 100]⟩) ∧ w'.cell? ⟨w.heap.size, 4, none⟩ = some (.string ⟨#[117, 110, 115, 117, 98, 115, 99, 114, 105, 98, 101]⟩) ∧ w'.cell? ⟨w.heap.size, 5, none⟩ = some (.string ⟨#[117, 110, 115, 117, 98, 115, 99, 114, 105, 98, 101, 100]⟩) ∧ w'.cell? ⟨w.heap.size, 6, none⟩ = some (.string ⟨#[112, 114, 111, 98, 101]⟩) := by
  go_enter Tryd.func50, Tryd.ntmps50
  go_wp2
  go_ret
  refine ⟨rfl, by simp, below1 _ _, ?_, ?_, ?_, ?_, ?_, ?_, ?_⟩ <;> simp
theorem pShows_any (w : World) : Calls Tryd.prog 51 #[] w fun e w' =>
    e = .returned (.slice (some ⟨w.heap.size, 0, none⟩) 5 5) ∧ w.heap.size < w'.heap.size ∧ Below w.heap.size w w' ∧ w'.cell? ⟨w.heap.size, 0, none⟩ = some (.string ⟨#[]⟩) ∧ w'.cell? ⟨w.heap.size, 1, none⟩ = some (.string ⟨#[97, 119, 97, 121]⟩) ∧ w'.cell? ⟨w.heap.size, 2, none⟩ = some (.string ⟨#[99, 104, 97, 116]⟩) ∧ w'.cell? ⟨w.heap.size, 3, none⟩ = some (.string ⟨#[100, 110, 100]⟩) ∧ w'.cell? ⟨w.heap.size, 4, none⟩ = some (.string ⟨#[120, 97]⟩) := by
  go_enter Tryd.func51, Tryd.ntmps51
  go_wp2
  go_ret
  refine ⟨rfl, by simp, below1 _ _, ?_, ?_, ?_, ?_, ?_⟩ <;> simp
theorem pKinds_row (w : World) : Calls Tryd.prog 50 #[] w fun e w' => e = .returned (.slice (some ⟨w.heap.size, 0, none⟩) 7 7) ∧ RowS w' (.slice (some ⟨w.heap.size, 0, none⟩) 7 7) kindWs ∧ Below w.heap.size w w' :=
  (pKinds_any w).mono fun e w' ⟨he, hz, hb, c0, c1, c2, c3, c4, c5, c6⟩ => ⟨he, kinds_row hz c0 c1 c2 c3 c4 c5 c6, hb⟩
theorem pShows_row (w : World) : Calls Tryd.prog 51 #[] w fun e w' => e = .returned (.slice (some ⟨w.heap.size, 0, none⟩) 5 5) ∧ RowS w' (.slice (some ⟨w.heap.size, 0, none⟩) 5 5) showWs ∧ Below w.heap.size w w' :=
  (pShows_any w).mono fun e w' ⟨he, hz, hb, c0, c1, c2, c3, c4⟩ => ⟨he, shows_row hz c0 c1 c2 c3 c4, hb⟩
end Go.Proofs.YtpafknmfacgccaaDoor
