/-
  DERIVED. GIVEN WITH THE SEED: THE CARDS: each row of YtbfjhjkllaceaaaGreatDoorRows.lean that lists a variable, with what it lists TIED to the program's text (the seventh form; the later family's looks); each row that meets fmt, with fmt's text TOLD by the authors' own Lean function (tested against real Go, not proved from fmt's source: count such statements apart). THE CARD IS WHAT COUNTS. Prove the row's statement (the work); the ties are given (YtbfjhjkllaceaaaGreatDoorTie.lean); close each card by the builder's one call (the guide's Derived/Test/ToyasCard.lean, 'card_holds'). Laid BY PROGRAM, IN A SANDBOX (cutbox-door.mjs). By AI agents, Wed Nov 11 2026. No macro, syntax, notation, axiom, sorry.
-/
import Derived.Test.YtbfjhjkllaceaaaGreatDoorRows
import GoSem.ClaimSeven
namespace Go.Proofs.YtbfjhjkllaceaaaGreatDoor
namespace Rows

/-- THE TIED CARD OF 'laws.FnBins'. -/
def fnBinsCard : Claim7 := { stood := { row := fnBinsRow, standIns := [], harness := (true, "a4d6ec85ecdfb7e6698860c5114ca865ee5a57f88be77a8d679d2550ae32c8d0"), looks := true }, kinds := [], alts := [], laidByText := true, laidKinds := [.data, .sentinel, .pinned], laidTests := true, laidLooks := .later }
def FnBinsCardSaid : Prop := Claim7.holds Tryz.pinned (.plain (OpenSpec.ofChange fnBinsSpec)) fnBinsCard

/-- THE TIED CARD OF 'laws.FnExactUnpackTree'. -/
def fnExactUnpackTreeCard : Claim7 := { stood := { row := fnExactUnpackTreeRow, standIns := [], harness := (true, "a4d6ec85ecdfb7e6698860c5114ca865ee5a57f88be77a8d679d2550ae32c8d0"), looks := true }, kinds := [], alts := [], laidByText := true, laidKinds := [.data, .sentinel, .pinned], laidTests := true, laidLooks := .later }
def FnExactUnpackTreeCardSaid : Prop := Claim7.holds Tryz.pinned (.plain (OpenSpec.ofChange fnExactUnpackTreeSpec)) fnExactUnpackTreeCard

/-- THE SECOND FORM's CARD OF 'laws.FnBins'. -/
def fnBinsUptoCard : Claim7 := { stood := { row := fnBinsUptoRow, standIns := [], harness := (true, "a4d6ec85ecdfb7e6698860c5114ca865ee5a57f88be77a8d679d2550ae32c8d0"), looks := true }, kinds := [], alts := [], laidByText := true, laidKinds := [.data, .sentinel, .pinned], laidTests := true, laidLooks := .later }
def FnBinsUptoCardSaid : Prop := Claim7.holds Tryz.pinned (.plain (OpenSpec.upto fnBinsSpec)) fnBinsUptoCard

/-- THE SECOND FORM's CARD OF 'laws.FnExactUnpackTree'. -/
def fnExactUnpackTreeUptoCard : Claim7 := { stood := { row := fnExactUnpackTreeUptoRow, standIns := [], harness := (true, "a4d6ec85ecdfb7e6698860c5114ca865ee5a57f88be77a8d679d2550ae32c8d0"), looks := true }, kinds := [], alts := [], laidByText := true, laidKinds := [.data, .sentinel, .pinned], laidTests := true, laidLooks := .later }
def FnExactUnpackTreeUptoCardSaid : Prop := Claim7.holds Tryz.pinned (.plain (OpenSpec.upto fnExactUnpackTreeSpec)) fnExactUnpackTreeUptoCard
end Rows
end Go.Proofs.YtbfjhjkllaceaaaGreatDoor
