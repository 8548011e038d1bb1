/-
  DERIVED. GIVEN WITH THE SEED: THE CARDS: each row of YticpebpicdboaaaGreatDoorRows.lean that lists a variable, with what it lists TIED to the program's text (the seventh form; the later family's looks); each row that meets fmt, with fmt's text TOLD by the authors' own Lean function (tested against real Go, not proved from fmt's source: count such statements apart). THE CARD IS WHAT COUNTS. Prove the row's statement (the work); the ties are given (YticpebpicdboaaaGreatDoorTie.lean); close each card by the builder's one call (the guide's Derived/Test/ToyasCard.lean, 'card_holds'). Laid BY PROGRAM, IN A SANDBOX (cutbox-door.mjs). By AI agents, Wed Nov 11 2026. No macro, syntax, notation, axiom, sorry.
-/
import Derived.Test.YticpebpicdboaaaGreatDoorRows
import GoSem.ClaimSeven
namespace Go.Proofs.YticpebpicdboaaaGreatDoor
namespace Rows

/-- THE TIED CARD OF 'laws.FnStanzas'. -/
def fnStanzasCard : Claim7 := { stood := { row := fnStanzasRow, standIns := [], harness := (true, "e7a8bd5b4c659b9a31a762ba0761641031c8db7552b21f7c371f10dd80a41322"), looks := true }, kinds := [], alts := [], laidByText := true, laidKinds := [.data, .data, .data, .data, .sentinel, .sentinel, .pinned], laidTests := true, laidLooks := .later }
def FnStanzasCardSaid : Prop := Claim7.holds Tryz.pinned (.plain (OpenSpec.ofChange fnStanzasSpec)) fnStanzasCard

/-- THE TIED CARD OF 'laws.FnPidfs'. -/
def fnPidfsCard : Claim7 := { stood := { row := fnPidfsRow, standIns := [], harness := (true, "e7a8bd5b4c659b9a31a762ba0761641031c8db7552b21f7c371f10dd80a41322"), looks := true }, kinds := [], alts := [], laidByText := true, laidKinds := [.data, .data, .data, .data, .pinned], laidTests := true, laidLooks := .later }
def FnPidfsCardSaid : Prop := Claim7.holds Tryz.pinned (.plain (OpenSpec.ofChange fnPidfsSpec)) fnPidfsCard

/-- THE TIED CARD OF 'laws.FnCaps'. -/
def fnCapsCard : Claim7 := { stood := { row := fnCapsRow, standIns := [], harness := (true, "e7a8bd5b4c659b9a31a762ba0761641031c8db7552b21f7c371f10dd80a41322"), looks := true }, kinds := [], alts := [], laidByText := true, laidKinds := [.data, .pinned], laidTests := true, laidLooks := .later }
def FnCapsCardSaid : Prop := Claim7.holds Tryz.pinned (.plain (OpenSpec.ofChange fnCapsSpec)) fnCapsCard

/-- THE TIED CARD OF 'laws.FnExactParseXml'. -/
def fnExactParseXmlCard : Claim7 := { stood := { row := fnExactParseXmlRow, standIns := [], harness := (true, "e7a8bd5b4c659b9a31a762ba0761641031c8db7552b21f7c371f10dd80a41322"), looks := true }, kinds := [], alts := [], laidByText := true, laidKinds := [.data, .data, .data, .data, .sentinel, .sentinel, .pinned], laidTests := true, laidLooks := .later }
def FnExactParseXmlCardSaid : Prop := Claim7.holds Tryz.pinned (.plain (OpenSpec.ofChange fnExactParseXmlSpec)) fnExactParseXmlCard

/-- THE TIED CARD OF 'laws.FnExactPresenceOf'. -/
def fnExactPresenceOfCard : Claim7 := { stood := { row := fnExactPresenceOfRow, standIns := [], harness := (true, "e7a8bd5b4c659b9a31a762ba0761641031c8db7552b21f7c371f10dd80a41322"), looks := true }, kinds := [], alts := [], laidByText := true, laidKinds := [.data, .data, .data, .data, .sentinel, .sentinel, .pinned], laidTests := true, laidLooks := .later }
def FnExactPresenceOfCardSaid : Prop := Claim7.holds Tryz.pinned (.plain (OpenSpec.ofChange fnExactPresenceOfSpec)) fnExactPresenceOfCard

/-- THE TIED CARD OF 'laws.FnExactPresenceOfPidf'. -/
def fnExactPresenceOfPidfCard : Claim7 := { stood := { row := fnExactPresenceOfPidfRow, standIns := [], harness := (true, "e7a8bd5b4c659b9a31a762ba0761641031c8db7552b21f7c371f10dd80a41322"), looks := true }, kinds := [], alts := [], laidByText := true, laidKinds := [.data, .data, .data, .data, .pinned], laidTests := true, laidLooks := .later }
def FnExactPresenceOfPidfCardSaid : Prop := Claim7.holds Tryz.pinned (.plain (OpenSpec.ofChange fnExactPresenceOfPidfSpec)) fnExactPresenceOfPidfCard

/-- THE SECOND FORM's CARD OF 'laws.FnStanzas'. -/
def fnStanzasUptoCard : Claim7 := { stood := { row := fnStanzasUptoRow, standIns := [], harness := (true, "e7a8bd5b4c659b9a31a762ba0761641031c8db7552b21f7c371f10dd80a41322"), looks := true }, kinds := [], alts := [], laidByText := true, laidKinds := [.data, .data, .data, .data, .sentinel, .sentinel, .pinned], laidTests := true, laidLooks := .later }
def FnStanzasUptoCardSaid : Prop := Claim7.holds Tryz.pinned (.plain (OpenSpec.upto fnStanzasSpec)) fnStanzasUptoCard

/-- THE SECOND FORM's CARD OF 'laws.FnPidfs'. -/
def fnPidfsUptoCard : Claim7 := { stood := { row := fnPidfsUptoRow, standIns := [], harness := (true, "e7a8bd5b4c659b9a31a762ba0761641031c8db7552b21f7c371f10dd80a41322"), looks := true }, kinds := [], alts := [], laidByText := true, laidKinds := [.data, .data, .data, .data, .pinned], laidTests := true, laidLooks := .later }
def FnPidfsUptoCardSaid : Prop := Claim7.holds Tryz.pinned (.plain (OpenSpec.upto fnPidfsSpec)) fnPidfsUptoCard

/-- THE SECOND FORM's CARD OF 'laws.FnCaps'. -/
def fnCapsUptoCard : Claim7 := { stood := { row := fnCapsUptoRow, standIns := [], harness := (true, "e7a8bd5b4c659b9a31a762ba0761641031c8db7552b21f7c371f10dd80a41322"), looks := true }, kinds := [], alts := [], laidByText := true, laidKinds := [.data, .pinned], laidTests := true, laidLooks := .later }
def FnCapsUptoCardSaid : Prop := Claim7.holds Tryz.pinned (.plain (OpenSpec.upto fnCapsSpec)) fnCapsUptoCard

/-- THE SECOND FORM's CARD OF 'laws.FnExactParseXml'. -/
def fnExactParseXmlUptoCard : Claim7 := { stood := { row := fnExactParseXmlUptoRow, standIns := [], harness := (true, "e7a8bd5b4c659b9a31a762ba0761641031c8db7552b21f7c371f10dd80a41322"), looks := true }, kinds := [], alts := [], laidByText := true, laidKinds := [.data, .data, .data, .data, .sentinel, .sentinel, .pinned], laidTests := true, laidLooks := .later }
def FnExactParseXmlUptoCardSaid : Prop := Claim7.holds Tryz.pinned (.plain (OpenSpec.upto fnExactParseXmlSpec)) fnExactParseXmlUptoCard

/-- THE SECOND FORM's CARD OF 'laws.FnExactPresenceOf'. -/
def fnExactPresenceOfUptoCard : Claim7 := { stood := { row := fnExactPresenceOfUptoRow, standIns := [], harness := (true, "e7a8bd5b4c659b9a31a762ba0761641031c8db7552b21f7c371f10dd80a41322"), looks := true }, kinds := [], alts := [], laidByText := true, laidKinds := [.data, .data, .data, .data, .sentinel, .sentinel, .pinned], laidTests := true, laidLooks := .later }
def FnExactPresenceOfUptoCardSaid : Prop := Claim7.holds Tryz.pinned (.plain (OpenSpec.upto fnExactPresenceOfSpec)) fnExactPresenceOfUptoCard

/-- THE SECOND FORM's CARD OF 'laws.FnExactPresenceOfPidf'. -/
def fnExactPresenceOfPidfUptoCard : Claim7 := { stood := { row := fnExactPresenceOfPidfUptoRow, standIns := [], harness := (true, "e7a8bd5b4c659b9a31a762ba0761641031c8db7552b21f7c371f10dd80a41322"), looks := true }, kinds := [], alts := [], laidByText := true, laidKinds := [.data, .data, .data, .data, .pinned], laidTests := true, laidLooks := .later }
def FnExactPresenceOfPidfUptoCardSaid : Prop := Claim7.holds Tryz.pinned (.plain (OpenSpec.upto fnExactPresenceOfPidfSpec)) fnExactPresenceOfPidfUptoCard
end Rows
end Go.Proofs.YticpebpicdboaaaGreatDoor
