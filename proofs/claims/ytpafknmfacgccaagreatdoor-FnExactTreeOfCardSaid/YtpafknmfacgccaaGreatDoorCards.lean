/-
  DERIVED. GIVEN WITH THE SEED: THE CARDS: each row of YtpafknmfacgccaaGreatDoorRows.lean that lists a variable, with what it lists TIED to the program's text (the seventh form; the later family's looks); each row that meets fmt, with fmt's text TOLD by the authors' own Lean function (tested against real Go, not proved from fmt's source: count such statements apart). THE CARD IS WHAT COUNTS. Prove the row's statement (the work); the ties are given (YtpafknmfacgccaaGreatDoorTie.lean); close each card by the builder's one call (the guide's Derived/Test/ToyasCard.lean, 'card_holds'). Laid BY PROGRAM, IN A SANDBOX (cutbox-door.mjs). By AI agents, Wed Nov 11 2026. No macro, syntax, notation, axiom, sorry.
-/
import Derived.Test.YtpafknmfacgccaaGreatDoorRows
import GoSem.ClaimSeven
namespace Go.Proofs.YtpafknmfacgccaaGreatDoor
namespace Rows

/-- THE TIED CARD OF 'laws.FnStanzas'. -/
def fnStanzasCard : Claim7 := { stood := { row := fnStanzasRow, standIns := [], harness := (true, "4e9915661d7ace50f499fc8dc3c4d4ec632ac4af02bab1667149830ca617d692"), looks := true }, kinds := [], alts := [], laidByText := true, laidKinds := [.data, .data, .data, .data, .sentinel, .sentinel, .pinned], laidTests := true, laidLooks := .later }
def FnStanzasCardSaid : Prop := Claim7.holds Tryz.pinned (.plain (OpenSpec.ofChange fnStanzasSpec)) fnStanzasCard

/-- THE TIED CARD OF 'laws.FnExactTreeOf'. -/
def fnExactTreeOfCard : Claim7 := { stood := { row := fnExactTreeOfRow, standIns := [], harness := (true, "4e9915661d7ace50f499fc8dc3c4d4ec632ac4af02bab1667149830ca617d692"), looks := true }, kinds := [], alts := [], laidByText := true, laidKinds := [.data, .data, .data, .data, .pinned], laidTests := true, laidLooks := .later }
def FnExactTreeOfCardSaid : Prop := Claim7.holds Tryz.pinned (.plain (OpenSpec.ofChange fnExactTreeOfSpec)) fnExactTreeOfCard

/-- THE TIED CARD OF 'laws.FnExactPresenceOf'. -/
def fnExactPresenceOfCard : Claim7 := { stood := { row := fnExactPresenceOfRow, standIns := [], harness := (true, "4e9915661d7ace50f499fc8dc3c4d4ec632ac4af02bab1667149830ca617d692"), looks := true }, kinds := [], alts := [], laidByText := true, laidKinds := [.data, .data, .data, .data, .sentinel, .sentinel, .pinned], laidTests := true, laidLooks := .later }
def FnExactPresenceOfCardSaid : Prop := Claim7.holds Tryz.pinned (.plain (OpenSpec.ofChange fnExactPresenceOfSpec)) fnExactPresenceOfCard

/-- THE SECOND FORM's CARD OF 'laws.FnStanzas'. -/
def fnStanzasUptoCard : Claim7 := { stood := { row := fnStanzasUptoRow, standIns := [], harness := (true, "4e9915661d7ace50f499fc8dc3c4d4ec632ac4af02bab1667149830ca617d692"), looks := true }, kinds := [], alts := [], laidByText := true, laidKinds := [.data, .data, .data, .data, .sentinel, .sentinel, .pinned], laidTests := true, laidLooks := .later }
def FnStanzasUptoCardSaid : Prop := Claim7.holds Tryz.pinned (.plain (OpenSpec.upto fnStanzasSpec)) fnStanzasUptoCard

/-- THE SECOND FORM's CARD OF 'laws.FnExactTreeOf'. -/
def fnExactTreeOfUptoCard : Claim7 := { stood := { row := fnExactTreeOfUptoRow, standIns := [], harness := (true, "4e9915661d7ace50f499fc8dc3c4d4ec632ac4af02bab1667149830ca617d692"), looks := true }, kinds := [], alts := [], laidByText := true, laidKinds := [.data, .data, .data, .data, .pinned], laidTests := true, laidLooks := .later }
def FnExactTreeOfUptoCardSaid : Prop := Claim7.holds Tryz.pinned (.plain (OpenSpec.upto fnExactTreeOfSpec)) fnExactTreeOfUptoCard

/-- THE SECOND FORM's CARD OF 'laws.FnExactPresenceOf'. -/
def fnExactPresenceOfUptoCard : Claim7 := { stood := { row := fnExactPresenceOfUptoRow, standIns := [], harness := (true, "4e9915661d7ace50f499fc8dc3c4d4ec632ac4af02bab1667149830ca617d692"), looks := true }, kinds := [], alts := [], laidByText := true, laidKinds := [.data, .data, .data, .data, .sentinel, .sentinel, .pinned], laidTests := true, laidLooks := .later }
def FnExactPresenceOfUptoCardSaid : Prop := Claim7.holds Tryz.pinned (.plain (OpenSpec.upto fnExactPresenceOfSpec)) fnExactPresenceOfUptoCard
end Rows
end Go.Proofs.YtpafknmfacgccaaGreatDoor
