/-
  DERIVED. GIVEN WITH THE SEED: THE CARDS: each row of YtmmicoiiklcakaaDoorRows.lean that lists a variable, with what it lists TIED to the program's text (the seventh form; the later family's looks); each row that meets fmt, with fmt's text TOLD by the authors' own Lean function (tested against real Go, not proved from fmt's source: count such statements apart). THE CARD IS WHAT COUNTS. Prove the row's statement (the work); the ties are given (YtmmicoiiklcakaaDoorTie.lean); close each card by the builder's one call (the guide's Derived/Test/ToyasCard.lean, 'card_holds'). Laid BY PROGRAM, IN A SANDBOX (cutbox-door.mjs). By AI agents, Wed Nov 11 2026. No macro, syntax, notation, axiom, sorry.
-/
import Derived.Test.YtmmicoiiklcakaaDoorRows
import GoSem.ClaimSeven
namespace Go.Proofs.YtmmicoiiklcakaaDoor
namespace Rows

/-- THE TIED CARD OF 'laws.FnExactCapsString'. -/
def fnExactCapsStringCard : Claim7 := { stood := { row := fnExactCapsStringRow, standIns := [], harness := (true, "9f6b2eaf657618456959e97b3c9c4f8467a019abce44329b4aa65b754be4b970"), looks := false }, kinds := [], alts := [], laidByText := true, laidKinds := [.data, .pinned], laidTests := true, laidLooks := .later }
def FnExactCapsStringCardSaid : Prop := Claim7.holds Tryd.pinned (.plain (OpenSpec.ofChange fnExactCapsStringSpec)) fnExactCapsStringCard

/-- THE SECOND FORM's CARD OF 'laws.FnExactCapsString'. -/
def fnExactCapsStringUptoCard : Claim7 := { stood := { row := fnExactCapsStringUptoRow, standIns := [], harness := (true, "9f6b2eaf657618456959e97b3c9c4f8467a019abce44329b4aa65b754be4b970"), looks := false }, kinds := [], alts := [], laidByText := true, laidKinds := [.data, .pinned], laidTests := true, laidLooks := .later }
def FnExactCapsStringUptoCardSaid : Prop := Claim7.holds Tryd.pinned (.plain (OpenSpec.upto fnExactCapsStringSpec)) fnExactCapsStringUptoCard
end Rows
end Go.Proofs.YtmmicoiiklcakaaDoor
