/- The words of kinds and of shows, in plain words. -/
import Derived.Test.YtppgdbejbhhjlaaDoorGP2
import Derived.Test.YtppgdbejbhhjlaaDoorGP19
namespace Go.Proofs.YtppgdbejbhhjlaaDoor
open Go.ChangeShapes Go.WideShapes Go.ChangeAt Go.RowKit
set_option linter.unusedVariables false

def kindWs : List ByteArray := [⟨#[]⟩, ⟨#[117, 110, 97, 118, 97, 105, 108, 97, 98, 108, 101]⟩, ⟨#[115, 117, 98, 115, 99, 114, 105, 98, 101]⟩, ⟨#[115, 117, 98, 115, 99, 114, 105, 98, 101, 100]⟩, ⟨#[117, 110, 115, 117, 98, 115, 99, 114, 105, 98, 101]⟩, ⟨#[117, 110, 115, 117, 98, 115, 99, 114, 105, 98, 101, 100]⟩, ⟨#[112, 114, 111, 98, 101]⟩]
def kindW (k : Int) : ByteArray := kindWs.getD k.toNat ByteArray.empty
def showWs : List ByteArray := [⟨#[]⟩, ⟨#[97, 119, 97, 121]⟩, ⟨#[99, 104, 97, 116]⟩, ⟨#[100, 110, 100]⟩, ⟨#[120, 97]⟩]
def showW (k : Int) : ByteArray := showWs.getD k.toNat ByteArray.empty
theorem kinds_row {w w' : World} (hz : w.heap.size < w'.heap.size) (c0 : w'.cell? ⟨w.heap.size, 0, none⟩ = some (.string (kindWs.getD 0 ByteArray.empty))) (c1 : w'.cell? ⟨w.heap.size, 1, none⟩ = some (.string (kindWs.getD 1 ByteArray.empty))) (c2 : w'.cell? ⟨w.heap.size, 2, none⟩ = some (.string (kindWs.getD 2 ByteArray.empty))) (c3 : w'.cell? ⟨w.heap.size, 3, none⟩ = some (.string (kindWs.getD 3 ByteArray.empty)))
    (c4 : w'.cell? ⟨w.heap.size, 4, none⟩ = some (.string (kindWs.getD 4 ByteArray.empty))) (c5 : w'.cell? ⟨w.heap.size, 5, none⟩ = some (.string (kindWs.getD 5 ByteArray.empty))) (c6 : w'.cell? ⟨w.heap.size, 6, none⟩ = some (.string (kindWs.getD 6 ByteArray.empty))) : RowS w' (.slice (some ⟨w.heap.size, 0, none⟩) 7 7) kindWs := by
  refine .inr ⟨w.heap.size, 0, 7, rfl, by decide, by decide, hz, fun i hi => ?_⟩
  have h7 : i < 7 := hi
  rw [Nat.zero_add]
  match i, h7 with
  | 0, _ => exact c0
  | 1, _ => exact c1
  | 2, _ => exact c2
  | 3, _ => exact c3
  | 4, _ => exact c4
  | 5, _ => exact c5
  | 6, _ => exact c6
theorem shows_row {w w' : World} (hz : w.heap.size < w'.heap.size) (c0 : w'.cell? ⟨w.heap.size, 0, none⟩ = some (.string (showWs.getD 0 ByteArray.empty))) (c1 : w'.cell? ⟨w.heap.size, 1, none⟩ = some (.string (showWs.getD 1 ByteArray.empty))) (c2 : w'.cell? ⟨w.heap.size, 2, none⟩ = some (.string (showWs.getD 2 ByteArray.empty))) (c3 : w'.cell? ⟨w.heap.size, 3, none⟩ = some (.string (showWs.getD 3 ByteArray.empty)))
    (c4 : w'.cell? ⟨w.heap.size, 4, none⟩ = some (.string (showWs.getD 4 ByteArray.empty))) : RowS w' (.slice (some ⟨w.heap.size, 0, none⟩) 5 5) showWs := by
  refine .inr ⟨w.heap.size, 0, 5, rfl, by decide, by decide, hz, fun i hi => ?_⟩
  have h5 : i < 5 := hi
  rw [Nat.zero_add]
  match i, h5 with
  | 0, _ => exact c0
  | 1, _ => exact c1
  | 2, _ => exact c2
  | 3, _ => exact c3
  | 4, _ => exact c4
/-- the code and the text of a word -/
def kindC (k : Int) : Int := if inB k 0 6 then 0 else 3
def kindT (k : Int) : ByteArray := if inB k 0 6 then kindW k else ByteArray.empty

/-- the code and the text of a word -/
def showC (k : Int) : Int := if inB k 0 4 then 0 else 3
def showT (k : Int) : ByteArray := if inB k 0 4 then showW k else ByteArray.empty

end Go.Proofs.YtppgdbejbhhjlaaDoor

/- The program's words of kinds and of shows, in rows. -/
namespace Go.Proofs.YtppgdbejbhhjlaaDoor
open Go.ChangeShapes Go.WideShapes Go.ChangeAt Go.RowKit
set_option linter.unusedVariables false

theorem pKinds_any (w : World) : Calls Tryd.prog 65 #[] w fun e w' =>
    e = .returned (.slice (some ⟨w.heap.size, 0, none⟩) 7 7) ∧ w.heap.size < w'.heap.size ∧ Below w.heap.size w w' ∧ w'.cell? ⟨w.heap.size, 0, none⟩ = some (.string ⟨#[]⟩) ∧ w'.cell? ⟨w.heap.size, 1, none⟩ = some (.string ⟨#[117, 110, 97, 118, 97, 105, 108, 97, 98, 108, 101]⟩) ∧ w'.cell? ⟨w.heap.size, 2, none⟩ = some (.string ⟨#[115, 117, 98, 115, 99, 114, 105, 98, 101]⟩) ∧ w'.cell? ⟨w.heap.size, 3, none⟩ = some (.string ⟨#[115, 117, 98, 115, 99, 114, 105, 98, 101, 100]⟩) ∧ w'.cell? ⟨w.heap.size, 4, none⟩ = some (.string ⟨#[117, 110, 115, 117, 98, 115, 99, 114, 105, 98, 101]⟩) ∧ w'.cell? ⟨w.heap.size, 5, none⟩ = some (.string ⟨#[117, 110, 115, 117, 98, 115, 99, 114, 105, 98, 101, 100]⟩) ∧ w'.cell? ⟨w.heap.size, 6, none⟩ = some (.string ⟨#[112, 114, 111, 98, 101]⟩) := by
  go_enter Tryd.func65, Tryd.ntmps65
  go_wp2
  go_ret
  refine ⟨rfl, by simp, below1 _ _, ?_, ?_, ?_, ?_, ?_, ?_, ?_⟩ <;> simp
theorem pShows_any (w : World) : Calls Tryd.prog 66 #[] w fun e w' =>
    e = .returned (.slice (some ⟨w.heap.size, 0, none⟩) 5 5) ∧ w.heap.size < w'.heap.size ∧ Below w.heap.size w w' ∧ w'.cell? ⟨w.heap.size, 0, none⟩ = some (.string ⟨#[]⟩) ∧ w'.cell? ⟨w.heap.size, 1, none⟩ = some (.string ⟨#[97, 119, 97, 121]⟩) ∧ w'.cell? ⟨w.heap.size, 2, none⟩ = some (.string ⟨#[99, 104, 97, 116]⟩) ∧ w'.cell? ⟨w.heap.size, 3, none⟩ = some (.string ⟨#[100, 110, 100]⟩) ∧ w'.cell? ⟨w.heap.size, 4, none⟩ = some (.string ⟨#[120, 97]⟩) := by
  go_enter Tryd.func66, Tryd.ntmps66
  go_wp2
  go_ret
  refine ⟨rfl, by simp, below1 _ _, ?_, ?_, ?_, ?_, ?_⟩ <;> simp
theorem pKinds_row (w : World) : Calls Tryd.prog 65 #[] w fun e w' => e = .returned (.slice (some ⟨w.heap.size, 0, none⟩) 7 7) ∧ RowS w' (.slice (some ⟨w.heap.size, 0, none⟩) 7 7) kindWs ∧ Below w.heap.size w w' :=
  (pKinds_any w).mono fun e w' ⟨he, hz, hb, c0, c1, c2, c3, c4, c5, c6⟩ => ⟨he, kinds_row hz c0 c1 c2 c3 c4 c5 c6, hb⟩
theorem pShows_row (w : World) : Calls Tryd.prog 66 #[] w fun e w' => e = .returned (.slice (some ⟨w.heap.size, 0, none⟩) 5 5) ∧ RowS w' (.slice (some ⟨w.heap.size, 0, none⟩) 5 5) showWs ∧ Below w.heap.size w w' :=
  (pShows_any w).mono fun e w' ⟨he, hz, hb, c0, c1, c2, c3, c4⟩ => ⟨he, shows_row hz c0 c1 c2 c3 c4, hb⟩
end Go.Proofs.YtppgdbejbhhjlaaDoor
