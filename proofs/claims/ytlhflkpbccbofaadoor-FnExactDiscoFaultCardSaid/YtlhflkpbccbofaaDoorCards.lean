/-
  DERIVED. GIVEN WITH THE SEED: THE CARDS: each row of YtlhflkpbccbofaaDoorRows.lean that lists a variable, with what it lists TIED to the program's text (the seventh form; the later family's looks); each row that meets fmt, with fmt's text TOLD by the authors' own Lean function (tested against real Go, not proved from fmt's source: count such statements apart). THE CARD IS WHAT COUNTS. Prove the row's statement (the work); the ties are given (YtlhflkpbccbofaaDoorTie.lean); close each card by the builder's one call (the guide's Derived/Test/ToyasCard.lean, 'card_holds'). Laid BY PROGRAM, IN A SANDBOX (cutbox-door.mjs). By AI agents, Wed Nov 11 2026. No macro, syntax, notation, axiom, sorry.
-/
import Derived.Test.YtlhflkpbccbofaaDoorRows
import GoSem.ClaimSeven
namespace Go.Proofs.YtlhflkpbccbofaaDoor
namespace Rows

/-- THE TIED CARD OF 'laws.FnExactDiscoFault'. -/
def fnExactDiscoFaultCard : Claim7 := { stood := { row := fnExactDiscoFaultRow, standIns := [], harness := (true, "b433f9718837403eb439f4b112aac4533b5043421703edd7e79efda5392913cf"), looks := false }, kinds := [], alts := [], laidByText := true, laidKinds := [.data, .pinned], laidTests := true, laidLooks := .later }
def FnExactDiscoFaultCardSaid : Prop := Claim7.holds Tryd.pinned (.plain (OpenSpec.ofChange fnExactDiscoFaultSpec)) fnExactDiscoFaultCard

/-- THE TIED CARD OF 'laws.FnExactIdentityText'. -/
def fnExactIdentityTextCard : Claim7 := { stood := { row := fnExactIdentityTextRow, standIns := [], harness := (true, "b433f9718837403eb439f4b112aac4533b5043421703edd7e79efda5392913cf"), looks := false }, kinds := [], alts := [], laidByText := true, laidKinds := [.data, .pinned], laidTests := true, laidLooks := .later }
def FnExactIdentityTextCardSaid : Prop := Claim7.holds Tryd.pinned (.plain (OpenSpec.ofChange fnExactIdentityTextSpec)) fnExactIdentityTextCard

/-- THE TIED CARD OF 'laws.FnExactCapsString'. -/
def fnExactCapsStringCard : Claim7 := { stood := { row := fnExactCapsStringRow, standIns := [], harness := (true, "b433f9718837403eb439f4b112aac4533b5043421703edd7e79efda5392913cf"), looks := false }, kinds := [], alts := [], laidByText := true, laidKinds := [.data, .pinned], laidTests := true, laidLooks := .later }
def FnExactCapsStringCardSaid : Prop := Claim7.holds Tryd.pinned (.plain (OpenSpec.ofChange fnExactCapsStringSpec)) fnExactCapsStringCard

/-- THE SECOND FORM's CARD OF 'laws.FnExactDiscoFault'. -/
def fnExactDiscoFaultUptoCard : Claim7 := { stood := { row := fnExactDiscoFaultUptoRow, standIns := [], harness := (true, "b433f9718837403eb439f4b112aac4533b5043421703edd7e79efda5392913cf"), looks := false }, kinds := [], alts := [], laidByText := true, laidKinds := [.data, .pinned], laidTests := true, laidLooks := .later }
def FnExactDiscoFaultUptoCardSaid : Prop := Claim7.holds Tryd.pinned (.plain (OpenSpec.upto fnExactDiscoFaultSpec)) fnExactDiscoFaultUptoCard

/-- THE SECOND FORM's CARD OF 'laws.FnExactIdentityText'. -/
def fnExactIdentityTextUptoCard : Claim7 := { stood := { row := fnExactIdentityTextUptoRow, standIns := [], harness := (true, "b433f9718837403eb439f4b112aac4533b5043421703edd7e79efda5392913cf"), looks := false }, kinds := [], alts := [], laidByText := true, laidKinds := [.data, .pinned], laidTests := true, laidLooks := .later }
def FnExactIdentityTextUptoCardSaid : Prop := Claim7.holds Tryd.pinned (.plain (OpenSpec.upto fnExactIdentityTextSpec)) fnExactIdentityTextUptoCard

/-- THE SECOND FORM's CARD OF 'laws.FnExactCapsString'. -/
def fnExactCapsStringUptoCard : Claim7 := { stood := { row := fnExactCapsStringUptoRow, standIns := [], harness := (true, "b433f9718837403eb439f4b112aac4533b5043421703edd7e79efda5392913cf"), looks := false }, kinds := [], alts := [], laidByText := true, laidKinds := [.data, .pinned], laidTests := true, laidLooks := .later }
def FnExactCapsStringUptoCardSaid : Prop := Claim7.holds Tryd.pinned (.plain (OpenSpec.upto fnExactCapsStringSpec)) fnExactCapsStringUptoCard
end Rows
end Go.Proofs.YtlhflkpbccbofaaDoor
