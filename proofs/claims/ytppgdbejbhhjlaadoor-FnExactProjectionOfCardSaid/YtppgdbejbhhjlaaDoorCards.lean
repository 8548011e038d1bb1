/-
  DERIVED. GIVEN WITH THE SEED: THE CARDS: each row of YtppgdbejbhhjlaaDoorRows.lean that lists a variable, with what it lists TIED to the program's text (the seventh form; the later family's looks); each row that meets fmt, with fmt's text TOLD by the authors' own Lean function (tested against real Go, not proved from fmt's source: count such statements apart). THE CARD IS WHAT COUNTS. Prove the row's statement (the work); the ties are given (YtppgdbejbhhjlaaDoorTie.lean); close each card by the builder's one call (the guide's Derived/Test/ToyasCard.lean, 'card_holds'). Laid BY PROGRAM, IN A SANDBOX (cutbox-door.mjs). By AI agents, Wed Nov 11 2026. No macro, syntax, notation, axiom, sorry.
-/
import Derived.Test.YtppgdbejbhhjlaaDoorRows
import GoSem.ClaimSeven
namespace Go.Proofs.YtppgdbejbhhjlaaDoor
namespace Rows

/-- THE TIED CARD OF 'laws.FnShares'. -/
def fnSharesCard : Claim7 := { stood := { row := fnSharesRow, standIns := [], harness := (true, "55b7a821bc7cc1542a730e0de1ba4d14f3e3f878e8d2c13098920ff7f816ace2"), looks := true }, kinds := [], alts := [], laidByText := true, laidKinds := [.data, .data, .data], laidTests := true, laidLooks := .later }
def FnSharesCardSaid : Prop := Claim7.holds Tryd.pinned (.plain (OpenSpec.ofChange fnSharesSpec)) fnSharesCard

/-- THE TIED CARD OF 'laws.FnExactShareText'. -/
def fnExactShareTextCard : Claim7 := { stood := { row := fnExactShareTextRow, standIns := [], harness := (true, "55b7a821bc7cc1542a730e0de1ba4d14f3e3f878e8d2c13098920ff7f816ace2"), looks := true }, kinds := [], alts := [], laidByText := true, laidKinds := [.data, .data, .data], laidTests := true, laidLooks := .later }
def FnExactShareTextCardSaid : Prop := Claim7.holds Tryd.pinned (.plain (OpenSpec.ofChange fnExactShareTextSpec)) fnExactShareTextCard

/-- THE TIED CARD OF 'laws.FnExactProjectionOf'. -/
def fnExactProjectionOfCard : Claim7 := { stood := { row := fnExactProjectionOfRow, standIns := [], harness := (true, "55b7a821bc7cc1542a730e0de1ba4d14f3e3f878e8d2c13098920ff7f816ace2"), looks := true }, kinds := [], alts := [], laidByText := true, laidKinds := [.data, .pinned], laidTests := true, laidLooks := .later }
def FnExactProjectionOfCardSaid : Prop := Claim7.holds Tryd.pinned (.plain (OpenSpec.ofChange fnExactProjectionOfSpec)) fnExactProjectionOfCard

/-- THE SECOND FORM's CARD OF 'laws.FnShares'. -/
def fnSharesUptoCard : Claim7 := { stood := { row := fnSharesUptoRow, standIns := [], harness := (true, "55b7a821bc7cc1542a730e0de1ba4d14f3e3f878e8d2c13098920ff7f816ace2"), looks := true }, kinds := [], alts := [], laidByText := true, laidKinds := [.data, .data, .data], laidTests := true, laidLooks := .later }
def FnSharesUptoCardSaid : Prop := Claim7.holds Tryd.pinned (.plain (OpenSpec.upto fnSharesSpec)) fnSharesUptoCard

/-- THE SECOND FORM's CARD OF 'laws.FnExactShareText'. -/
def fnExactShareTextUptoCard : Claim7 := { stood := { row := fnExactShareTextUptoRow, standIns := [], harness := (true, "55b7a821bc7cc1542a730e0de1ba4d14f3e3f878e8d2c13098920ff7f816ace2"), looks := true }, kinds := [], alts := [], laidByText := true, laidKinds := [.data, .data, .data], laidTests := true, laidLooks := .later }
def FnExactShareTextUptoCardSaid : Prop := Claim7.holds Tryd.pinned (.plain (OpenSpec.upto fnExactShareTextSpec)) fnExactShareTextUptoCard

/-- THE SECOND FORM's CARD OF 'laws.FnExactProjectionOf'. -/
def fnExactProjectionOfUptoCard : Claim7 := { stood := { row := fnExactProjectionOfUptoRow, standIns := [], harness := (true, "55b7a821bc7cc1542a730e0de1ba4d14f3e3f878e8d2c13098920ff7f816ace2"), looks := true }, kinds := [], alts := [], laidByText := true, laidKinds := [.data, .pinned], laidTests := true, laidLooks := .later }
def FnExactProjectionOfUptoCardSaid : Prop := Claim7.holds Tryd.pinned (.plain (OpenSpec.upto fnExactProjectionOfSpec)) fnExactProjectionOfUptoCard
end Rows
end Go.Proofs.YtppgdbejbhhjlaaDoor
