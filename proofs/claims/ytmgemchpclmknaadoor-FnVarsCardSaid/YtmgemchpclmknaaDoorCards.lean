/-
  DERIVED. GIVEN WITH THE SEED: THE CARDS: each row of YtmgemchpclmknaaDoorRows.lean that lists a variable, with what it lists TIED to the program's text (the seventh form; the later family's looks); each row that meets fmt, with fmt's text TOLD by the authors' own Lean function (tested against real Go, not proved from fmt's source: count such statements apart). THE CARD IS WHAT COUNTS. Prove the row's statement (the work); the ties are given (YtmgemchpclmknaaDoorTie.lean); close each card by the builder's one call (the guide's Derived/Test/ToyasCard.lean, 'card_holds'). Laid BY PROGRAM, IN A SANDBOX (cutbox-door.mjs). By AI agents, Wed Nov 11 2026. No macro, syntax, notation, axiom, sorry.
-/
import Derived.Test.YtmgemchpclmknaaDoorRows
import GoSem.ClaimSeven
namespace Go.Proofs.YtmgemchpclmknaaDoor
namespace Rows

/-- THE TIED CARD OF 'laws.FnPoints'. -/
def fnPointsCard : Claim7 := { stood := { row := fnPointsRow, standIns := [], harness := (true, "d932d0fb1be0dbb0618c46b618699df2b0da92ac6aca78200fa729357d84cb2a"), looks := true }, kinds := [], alts := [], laidByText := true, laidKinds := [.data, .pinned], laidTests := true, laidLooks := .later }
def FnPointsCardSaid : Prop := Claim7.holds Tryd.pinned (.plain (OpenSpec.ofChange fnPointsSpec)) fnPointsCard

/-- THE TIED CARD OF 'laws.FnVars'. -/
def fnVarsCard : Claim7 := { stood := { row := fnVarsRow, standIns := [], harness := (true, "d932d0fb1be0dbb0618c46b618699df2b0da92ac6aca78200fa729357d84cb2a"), looks := true }, kinds := [], alts := [], laidByText := true, laidKinds := [.data, .sentinel, .pinned], laidTests := true, laidLooks := .later }
def FnVarsCardSaid : Prop := Claim7.holds Tryd.pinned (.plain (OpenSpec.ofChange fnVarsSpec)) fnVarsCard

/-- THE TIED CARD OF 'laws.FnExactPointsOf'. -/
def fnExactPointsOfCard : Claim7 := { stood := { row := fnExactPointsOfRow, standIns := [], harness := (true, "d932d0fb1be0dbb0618c46b618699df2b0da92ac6aca78200fa729357d84cb2a"), looks := true }, kinds := [], alts := [], laidByText := true, laidKinds := [.data, .pinned], laidTests := true, laidLooks := .later }
def FnExactPointsOfCardSaid : Prop := Claim7.holds Tryd.pinned (.plain (OpenSpec.ofChange fnExactPointsOfSpec)) fnExactPointsOfCard

/-- THE TIED CARD OF 'laws.FnExactTextFault'. -/
def fnExactTextFaultCard : Claim7 := { stood := { row := fnExactTextFaultRow, standIns := [], harness := (true, "d932d0fb1be0dbb0618c46b618699df2b0da92ac6aca78200fa729357d84cb2a"), looks := true }, kinds := [], alts := [], laidByText := true, laidKinds := [.data, .pinned], laidTests := true, laidLooks := .later }
def FnExactTextFaultCardSaid : Prop := Claim7.holds Tryd.pinned (.plain (OpenSpec.ofChange fnExactTextFaultSpec)) fnExactTextFaultCard

/-- THE TIED CARD OF 'laws.FnExactReadVar'. -/
def fnExactReadVarCard : Claim7 := { stood := { row := fnExactReadVarRow, standIns := [], harness := (true, "d932d0fb1be0dbb0618c46b618699df2b0da92ac6aca78200fa729357d84cb2a"), looks := true }, kinds := [], alts := [], laidByText := true, laidKinds := [.sentinel], laidTests := true, laidLooks := .later }
def FnExactReadVarCardSaid : Prop := Claim7.holds Tryd.pinned (.plain (OpenSpec.ofChange fnExactReadVarSpec)) fnExactReadVarCard

/-- THE TIED CARD OF 'laws.FnExactPutString'. -/
def fnExactPutStringCard : Claim7 := { stood := { row := fnExactPutStringRow, standIns := [], harness := (true, "d932d0fb1be0dbb0618c46b618699df2b0da92ac6aca78200fa729357d84cb2a"), looks := true }, kinds := [], alts := [], laidByText := true, laidKinds := [.data, .pinned], laidTests := true, laidLooks := .later }
def FnExactPutStringCardSaid : Prop := Claim7.holds Tryd.pinned (.plain (OpenSpec.ofChange fnExactPutStringSpec)) fnExactPutStringCard

/-- THE TIED CARD OF 'laws.FnExactReadString'. -/
def fnExactReadStringCard : Claim7 := { stood := { row := fnExactReadStringRow, standIns := [], harness := (true, "d932d0fb1be0dbb0618c46b618699df2b0da92ac6aca78200fa729357d84cb2a"), looks := true }, kinds := [], alts := [], laidByText := true, laidKinds := [.data, .sentinel, .pinned], laidTests := true, laidLooks := .later }
def FnExactReadStringCardSaid : Prop := Claim7.holds Tryd.pinned (.plain (OpenSpec.ofChange fnExactReadStringSpec)) fnExactReadStringCard

/-- THE SECOND FORM's CARD OF 'laws.FnPoints'. -/
def fnPointsUptoCard : Claim7 := { stood := { row := fnPointsUptoRow, standIns := [], harness := (true, "d932d0fb1be0dbb0618c46b618699df2b0da92ac6aca78200fa729357d84cb2a"), looks := true }, kinds := [], alts := [], laidByText := true, laidKinds := [.data, .pinned], laidTests := true, laidLooks := .later }
def FnPointsUptoCardSaid : Prop := Claim7.holds Tryd.pinned (.plain (OpenSpec.upto fnPointsSpec)) fnPointsUptoCard

/-- THE SECOND FORM's CARD OF 'laws.FnVars'. -/
def fnVarsUptoCard : Claim7 := { stood := { row := fnVarsUptoRow, standIns := [], harness := (true, "d932d0fb1be0dbb0618c46b618699df2b0da92ac6aca78200fa729357d84cb2a"), looks := true }, kinds := [], alts := [], laidByText := true, laidKinds := [.data, .sentinel, .pinned], laidTests := true, laidLooks := .later }
def FnVarsUptoCardSaid : Prop := Claim7.holds Tryd.pinned (.plain (OpenSpec.upto fnVarsSpec)) fnVarsUptoCard

/-- THE SECOND FORM's CARD OF 'laws.FnExactPointsOf'. -/
def fnExactPointsOfUptoCard : Claim7 := { stood := { row := fnExactPointsOfUptoRow, standIns := [], harness := (true, "d932d0fb1be0dbb0618c46b618699df2b0da92ac6aca78200fa729357d84cb2a"), looks := true }, kinds := [], alts := [], laidByText := true, laidKinds := [.data, .pinned], laidTests := true, laidLooks := .later }
def FnExactPointsOfUptoCardSaid : Prop := Claim7.holds Tryd.pinned (.plain (OpenSpec.upto fnExactPointsOfSpec)) fnExactPointsOfUptoCard

/-- THE SECOND FORM's CARD OF 'laws.FnExactTextFault'. -/
def fnExactTextFaultUptoCard : Claim7 := { stood := { row := fnExactTextFaultUptoRow, standIns := [], harness := (true, "d932d0fb1be0dbb0618c46b618699df2b0da92ac6aca78200fa729357d84cb2a"), looks := true }, kinds := [], alts := [], laidByText := true, laidKinds := [.data, .pinned], laidTests := true, laidLooks := .later }
def FnExactTextFaultUptoCardSaid : Prop := Claim7.holds Tryd.pinned (.plain (OpenSpec.upto fnExactTextFaultSpec)) fnExactTextFaultUptoCard

/-- THE SECOND FORM's CARD OF 'laws.FnExactReadVar'. -/
def fnExactReadVarUptoCard : Claim7 := { stood := { row := fnExactReadVarUptoRow, standIns := [], harness := (true, "d932d0fb1be0dbb0618c46b618699df2b0da92ac6aca78200fa729357d84cb2a"), looks := true }, kinds := [], alts := [], laidByText := true, laidKinds := [.sentinel], laidTests := true, laidLooks := .later }
def FnExactReadVarUptoCardSaid : Prop := Claim7.holds Tryd.pinned (.plain (OpenSpec.upto fnExactReadVarSpec)) fnExactReadVarUptoCard

/-- THE SECOND FORM's CARD OF 'laws.FnExactPutString'. -/
def fnExactPutStringUptoCard : Claim7 := { stood := { row := fnExactPutStringUptoRow, standIns := [], harness := (true, "d932d0fb1be0dbb0618c46b618699df2b0da92ac6aca78200fa729357d84cb2a"), looks := true }, kinds := [], alts := [], laidByText := true, laidKinds := [.data, .pinned], laidTests := true, laidLooks := .later }
def FnExactPutStringUptoCardSaid : Prop := Claim7.holds Tryd.pinned (.plain (OpenSpec.upto fnExactPutStringSpec)) fnExactPutStringUptoCard

/-- THE SECOND FORM's CARD OF 'laws.FnExactReadString'. -/
def fnExactReadStringUptoCard : Claim7 := { stood := { row := fnExactReadStringUptoRow, standIns := [], harness := (true, "d932d0fb1be0dbb0618c46b618699df2b0da92ac6aca78200fa729357d84cb2a"), looks := true }, kinds := [], alts := [], laidByText := true, laidKinds := [.data, .sentinel, .pinned], laidTests := true, laidLooks := .later }
def FnExactReadStringUptoCardSaid : Prop := Claim7.holds Tryd.pinned (.plain (OpenSpec.upto fnExactReadStringSpec)) fnExactReadStringUptoCard
end Rows
end Go.Proofs.YtmgemchpclmknaaDoor
