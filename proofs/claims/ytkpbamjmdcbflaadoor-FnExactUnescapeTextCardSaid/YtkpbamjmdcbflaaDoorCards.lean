/-
  DERIVED. GIVEN WITH THE SEED: THE CARDS: each row of YtkpbamjmdcbflaaDoorRows.lean that lists a variable, with what it lists TIED to the program's text (the seventh form; the later family's looks); each row that meets fmt, with fmt's text TOLD by the authors' own Lean function (tested against real Go, not proved from fmt's source: count such statements apart). THE CARD IS WHAT COUNTS. Prove the row's statement (the work); the ties are given (YtkpbamjmdcbflaaDoorTie.lean); close each card by the builder's one call (the guide's Derived/Test/ToyasCard.lean, 'card_holds'). Laid BY PROGRAM, IN A SANDBOX (cutbox-door.mjs). By AI agents, Wed Nov 11 2026. No macro, syntax, notation, axiom, sorry.
-/
import Derived.Test.YtkpbamjmdcbflaaDoorRows
import GoSem.ClaimSeven
namespace Go.Proofs.YtkpbamjmdcbflaaDoor
namespace Rows

/-- THE TIED CARD OF 'laws.FnExactUnescapeText'. -/
def fnExactUnescapeTextCard : Claim7 := { stood := { row := fnExactUnescapeTextRow, standIns := [], harness := (true, "0c75c8137185d97d31ea3091c3d9e60384949897a430301ab37ac17e2af6fbb9"), looks := true }, kinds := [], alts := [], laidByText := true, laidKinds := [.data, .data, .data, .data, .sentinel, .sentinel, .pinned], laidTests := true, laidLooks := .later }
def FnExactUnescapeTextCardSaid : Prop := Claim7.holds Tryd.pinned (.plain (OpenSpec.ofChange fnExactUnescapeTextSpec)) fnExactUnescapeTextCard

/-- THE SECOND FORM's CARD OF 'laws.FnExactUnescapeText'. -/
def fnExactUnescapeTextUptoCard : Claim7 := { stood := { row := fnExactUnescapeTextUptoRow, standIns := [], harness := (true, "0c75c8137185d97d31ea3091c3d9e60384949897a430301ab37ac17e2af6fbb9"), looks := true }, kinds := [], alts := [], laidByText := true, laidKinds := [.data, .data, .data, .data, .sentinel, .sentinel, .pinned], laidTests := true, laidLooks := .later }
def FnExactUnescapeTextUptoCardSaid : Prop := Claim7.holds Tryd.pinned (.plain (OpenSpec.upto fnExactUnescapeTextSpec)) fnExactUnescapeTextUptoCard
end Rows
end Go.Proofs.YtkpbamjmdcbflaaDoor
