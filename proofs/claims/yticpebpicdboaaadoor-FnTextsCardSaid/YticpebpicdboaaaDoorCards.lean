/-
  DERIVED. GIVEN WITH THE SEED: THE CARDS: each row of YticpebpicdboaaaDoorRows.lean that lists a variable, with what it lists TIED to the program's text (the seventh form; the later family's looks); each row that meets fmt, with fmt's text TOLD by the authors' own Lean function (tested against real Go, not proved from fmt's source: count such statements apart). THE CARD IS WHAT COUNTS. Prove the row's statement (the work); the ties are given (YticpebpicdboaaaDoorTie.lean); close each card by the builder's one call (the guide's Derived/Test/ToyasCard.lean, 'card_holds'). Laid BY PROGRAM, IN A SANDBOX (cutbox-door.mjs). By AI agents, Wed Nov 11 2026. No macro, syntax, notation, axiom, sorry.
-/
import Derived.Test.YticpebpicdboaaaDoorRows
import GoSem.ClaimSeven
namespace Go.Proofs.YticpebpicdboaaaDoor
namespace Rows

/-- THE TIED CARD OF 'laws.FnTexts'. -/
def fnTextsCard : Claim7 := { stood := { row := fnTextsRow, standIns := [], harness := (true, "da48fe51fa3eadb996e7273dd0059a5fac5e9f338ebe8e066d8bcebdfa39f521"), looks := false }, kinds := [], alts := [], laidByText := true, laidKinds := [.data, .pinned], laidTests := true, laidLooks := .later }
def FnTextsCardSaid : Prop := Claim7.holds Tryd.pinned (.plain (OpenSpec.ofChange fnTextsSpec)) fnTextsCard

/-- THE TIED CARD OF 'laws.FnExactRestOf'. -/
def fnExactRestOfCard : Claim7 := { stood := { row := fnExactRestOfRow, standIns := [], harness := (true, "da48fe51fa3eadb996e7273dd0059a5fac5e9f338ebe8e066d8bcebdfa39f521"), looks := false }, kinds := [], alts := [], laidByText := true, laidKinds := [.data, .pinned], laidTests := true, laidLooks := .later }
def FnExactRestOfCardSaid : Prop := Claim7.holds Tryd.pinned (.plain (OpenSpec.ofChange fnExactRestOfSpec)) fnExactRestOfCard

/-- THE SECOND FORM's CARD OF 'laws.FnTexts'. -/
def fnTextsUptoCard : Claim7 := { stood := { row := fnTextsUptoRow, standIns := [], harness := (true, "da48fe51fa3eadb996e7273dd0059a5fac5e9f338ebe8e066d8bcebdfa39f521"), looks := false }, kinds := [], alts := [], laidByText := true, laidKinds := [.data, .pinned], laidTests := true, laidLooks := .later }
def FnTextsUptoCardSaid : Prop := Claim7.holds Tryd.pinned (.plain (OpenSpec.upto fnTextsSpec)) fnTextsUptoCard

/-- THE SECOND FORM's CARD OF 'laws.FnExactRestOf'. -/
def fnExactRestOfUptoCard : Claim7 := { stood := { row := fnExactRestOfUptoRow, standIns := [], harness := (true, "da48fe51fa3eadb996e7273dd0059a5fac5e9f338ebe8e066d8bcebdfa39f521"), looks := false }, kinds := [], alts := [], laidByText := true, laidKinds := [.data, .pinned], laidTests := true, laidLooks := .later }
def FnExactRestOfUptoCardSaid : Prop := Claim7.holds Tryd.pinned (.plain (OpenSpec.upto fnExactRestOfSpec)) fnExactRestOfUptoCard
end Rows
end Go.Proofs.YticpebpicdboaaaDoor
