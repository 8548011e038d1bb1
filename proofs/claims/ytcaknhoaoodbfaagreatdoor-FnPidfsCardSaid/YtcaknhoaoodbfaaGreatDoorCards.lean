/-
  DERIVED. GIVEN WITH THE SEED: THE CARDS: each row of YtcaknhoaoodbfaaGreatDoorRows.lean that lists a variable, with what it lists TIED to the program's text (the seventh form; the later family's looks); each row that meets fmt, with fmt's text TOLD by the authors' own Lean function (tested against real Go, not proved from fmt's source: count such statements apart). THE CARD IS WHAT COUNTS. Prove the row's statement (the work); the ties are given (YtcaknhoaoodbfaaGreatDoorTie.lean); close each card by the builder's one call (the guide's Derived/Test/ToyasCard.lean, 'card_holds'). Laid BY PROGRAM, IN A SANDBOX (cutbox-door.mjs). By AI agents, Wed Nov 11 2026. No macro, syntax, notation, axiom, sorry.
-/
import Derived.Test.YtcaknhoaoodbfaaGreatDoorRows
import GoSem.ClaimSeven
namespace Go.Proofs.YtcaknhoaoodbfaaGreatDoor
namespace Rows

/-- THE TIED CARD OF 'laws.FnStanzas'. -/
def fnStanzasCard : Claim7 := { stood := { row := fnStanzasRow, standIns := [], harness := (true, "d2691b896afb8e33fd5ab7e39fa97ebb874ccbee03e05811d21965ad8f578ded"), looks := true }, kinds := [], alts := [], laidByText := true, laidKinds := [.data, .data, .data, .data, .sentinel, .sentinel, .pinned], laidTests := true, laidLooks := .later }
def FnStanzasCardSaid : Prop := Claim7.holds Tryz.pinned (.plain (OpenSpec.ofChange fnStanzasSpec)) fnStanzasCard

/-- THE TIED CARD OF 'laws.FnPidfs'. -/
def fnPidfsCard : Claim7 := { stood := { row := fnPidfsRow, standIns := [], harness := (true, "d2691b896afb8e33fd5ab7e39fa97ebb874ccbee03e05811d21965ad8f578ded"), looks := true }, kinds := [], alts := [], laidByText := true, laidKinds := [.data, .data, .data, .data, .pinned], laidTests := true, laidLooks := .later }
def FnPidfsCardSaid : Prop := Claim7.holds Tryz.pinned (.plain (OpenSpec.ofChange fnPidfsSpec)) fnPidfsCard

/-- THE TIED CARD OF 'laws.FnCaps'. -/
def fnCapsCard : Claim7 := { stood := { row := fnCapsRow, standIns := [], harness := (true, "d2691b896afb8e33fd5ab7e39fa97ebb874ccbee03e05811d21965ad8f578ded"), looks := true }, kinds := [], alts := [], laidByText := true, laidKinds := [.data, .pinned], laidTests := true, laidLooks := .later }
def FnCapsCardSaid : Prop := Claim7.holds Tryz.pinned (.plain (OpenSpec.ofChange fnCapsSpec)) fnCapsCard

/-- THE SECOND FORM's CARD OF 'laws.FnStanzas'. -/
def fnStanzasUptoCard : Claim7 := { stood := { row := fnStanzasUptoRow, standIns := [], harness := (true, "d2691b896afb8e33fd5ab7e39fa97ebb874ccbee03e05811d21965ad8f578ded"), looks := true }, kinds := [], alts := [], laidByText := true, laidKinds := [.data, .data, .data, .data, .sentinel, .sentinel, .pinned], laidTests := true, laidLooks := .later }
def FnStanzasUptoCardSaid : Prop := Claim7.holds Tryz.pinned (.plain (OpenSpec.upto fnStanzasSpec)) fnStanzasUptoCard

/-- THE SECOND FORM's CARD OF 'laws.FnPidfs'. -/
def fnPidfsUptoCard : Claim7 := { stood := { row := fnPidfsUptoRow, standIns := [], harness := (true, "d2691b896afb8e33fd5ab7e39fa97ebb874ccbee03e05811d21965ad8f578ded"), looks := true }, kinds := [], alts := [], laidByText := true, laidKinds := [.data, .data, .data, .data, .pinned], laidTests := true, laidLooks := .later }
def FnPidfsUptoCardSaid : Prop := Claim7.holds Tryz.pinned (.plain (OpenSpec.upto fnPidfsSpec)) fnPidfsUptoCard

/-- THE SECOND FORM's CARD OF 'laws.FnCaps'. -/
def fnCapsUptoCard : Claim7 := { stood := { row := fnCapsUptoRow, standIns := [], harness := (true, "d2691b896afb8e33fd5ab7e39fa97ebb874ccbee03e05811d21965ad8f578ded"), looks := true }, kinds := [], alts := [], laidByText := true, laidKinds := [.data, .pinned], laidTests := true, laidLooks := .later }
def FnCapsUptoCardSaid : Prop := Claim7.holds Tryz.pinned (.plain (OpenSpec.upto fnCapsSpec)) fnCapsUptoCard
end Rows
end Go.Proofs.YtcaknhoaoodbfaaGreatDoor
