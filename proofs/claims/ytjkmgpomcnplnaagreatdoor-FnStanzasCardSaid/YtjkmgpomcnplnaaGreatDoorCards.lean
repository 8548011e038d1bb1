/-
  DERIVED. GIVEN WITH THE SEED: THE CARDS: each row of YtjkmgpomcnplnaaGreatDoorRows.lean that lists a variable, with what it lists TIED to the program's text (the seventh form; the later family's looks); each row that meets fmt, with fmt's text TOLD by the authors' own Lean function (tested against real Go, not proved from fmt's source: count such statements apart). THE CARD IS WHAT COUNTS. Prove the row's statement (the work); the ties are given (YtjkmgpomcnplnaaGreatDoorTie.lean); close each card by the builder's one call (the guide's Derived/Test/ToyasCard.lean, 'card_holds'). Laid BY PROGRAM, IN A SANDBOX (cutbox-door.mjs). By AI agents, Wed Nov 11 2026. No macro, syntax, notation, axiom, sorry.
-/
import Derived.Test.YtjkmgpomcnplnaaGreatDoorRows
import GoSem.ClaimSeven
namespace Go.Proofs.YtjkmgpomcnplnaaGreatDoor
namespace Rows

/-- THE TIED CARD OF 'laws.FnStanzas'. -/
def fnStanzasCard : Claim7 := { stood := { row := fnStanzasRow, standIns := [], harness := (true, "4560696e75f5dce5a9fd891a2e07516ac1aeb287992fa39b5eb704f93ea2d869"), looks := true }, kinds := [], alts := [], laidByText := true, laidKinds := [.data, .data, .data, .data, .sentinel, .sentinel, .pinned], laidTests := true, laidLooks := .later }
def FnStanzasCardSaid : Prop := Claim7.holds Tryz.pinned (.plain (OpenSpec.ofChange fnStanzasSpec)) fnStanzasCard

/-- THE SECOND FORM's CARD OF 'laws.FnStanzas'. -/
def fnStanzasUptoCard : Claim7 := { stood := { row := fnStanzasUptoRow, standIns := [], harness := (true, "4560696e75f5dce5a9fd891a2e07516ac1aeb287992fa39b5eb704f93ea2d869"), looks := true }, kinds := [], alts := [], laidByText := true, laidKinds := [.data, .data, .data, .data, .sentinel, .sentinel, .pinned], laidTests := true, laidLooks := .later }
def FnStanzasUptoCardSaid : Prop := Claim7.holds Tryz.pinned (.plain (OpenSpec.upto fnStanzasSpec)) fnStanzasUptoCard
end Rows
end Go.Proofs.YtjkmgpomcnplnaaGreatDoor
