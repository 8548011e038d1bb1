/-
  NARROWER THAN 'FOR EVERY INPUT', by the rows' own cells (each row's printed sentence says how): FnBins: ifaces, laid · FnExactUnpackTree: ifaces, laid.
  DERIVED. THE GIVEN ROWS OF THIS SEAT. 2 by the template 'for every input the law returns true; each argument reads behind the call as it read before'; 0 by the template 'total and deterministic' (their statements: YtbfjhjkllaceaaaGreatDoorTotals.lean).
  GIVEN WITH THE SEED: the statements are not yours to turn. If you find one false, say at which input.
  Laid BY PROGRAM, IN A SANDBOX (cutbox-rows.mjs): the forced cells as the released guide's own fill.sh prints them over the translation c965c3a82e6d44ab… (all of the seat's roots in one cut). By AI agents, Wed Nov 11 2026. No macro, syntax, notation, axiom, sorry.
-/
import Derived.Test.YtbfjhjkllaceaaaGreatDoorChecked
import GoSem.PinnedTables
import GoSem.Claim
import GoSem.ClaimJoined
import GoSem.ClaimMapViews
import Derived.JoinedTies
import Derived.KernelRfl
namespace Go.Proofs.YtbfjhjkllaceaaaGreatDoor
/- THE CELL 'sum', in the pinned program and in every row, IS THE sha256 OF THE DUMP (.gsa) THAT YtbfjhjkllaceaaaGreatDoorProg.lean LOADS. Nothing in Lean hashes anything: it is a label: what it is worth is what the hold of that sum in a sandbox is worth. -/
noncomputable def Tryz.pinned : Pinned := { name := "ytbfjhjkllaceaaagreatdoor", sum := "c965c3a82e6d44aba97149ab54d157efe8dc4a47333b9c62e73e67c84f4903c5", checked := Tryz.checked }
namespace Rows
def none {H : Type} : Left H := { results := [], args := [] }

/- WHAT THE LISTED PACKAGE-LEVEL VARIABLES READ AS WHEN THE CALL BEGINS. Each datum BY PROGRAM (the guide's laid-datum.mjs) off the statement by which the dump's own 'gosem.cut.vars' lays the variable. In a bare row this is a premise. The card (YtbfjhjkllaceaaaGreatDoorCards.lean) ties it to the program's text. -/
def laid_unicode_utf8_acceptRanges {H : Type} : DataW H := .agg [.agg [.lit (.int .u8 128), .lit (.int .u8 191)], .agg [.lit (.int .u8 160), .lit (.int .u8 191)], .agg [.lit (.int .u8 128), .lit (.int .u8 159)], .agg [.lit (.int .u8 144), .lit (.int .u8 191)], .agg [.lit (.int .u8 128), .lit (.int .u8 143)], .agg [.lit (.int .u8 0), .lit (.int .u8 0)], .agg [.lit (.int .u8 0), .lit (.int .u8 0)], .agg [.lit (.int .u8 0), .lit (.int .u8 0)], .agg [.lit (.int .u8 0), .lit (.int .u8 0)], .agg [.lit (.int .u8 0), .lit (.int .u8 0)], .agg [.lit (.int .u8 0), .lit (.int .u8 0)], .agg [.lit (.int .u8 0), .lit (.int .u8 0)], .agg [.lit (.int .u8 0), .lit (.int .u8 0)], .agg [.lit (.int .u8 0), .lit (.int .u8 0)], .agg [.lit (.int .u8 0), .lit (.int .u8 0)], .agg [.lit (.int .u8 0), .lit (.int .u8 0)]]
def laid_loop_example_g00795_impl_errNoForm {H : Type} : DataW H := .iface "*errors.errorString" (.ptr (.agg [.lit (.string [116, 104, 101, 32, 98, 121, 116, 101, 115, 32, 98, 101, 103, 105, 110, 32, 119, 105, 116, 104, 32, 110, 111, 32, 115, 117, 99, 104, 32, 102, 111, 114, 109])]))
/-- One of Go's own tables, pinned by name: the form's constant. -/
def laid_unicode_utf8_first : DataW Unit := Go.Pinned.utf8First

/-- 'laws.FnBins': WHATEVER THE INPUT: true; the input reads as it did. -/
def fnBinsSpec : ChangeSpec := { name := "fnBins", vars := ["loop.example/g00795/impl.errNoForm"], fn := fun _ => fun
  | [d, g1] => { results := [.lit (.bool true)], args := [d], vars := [g1] }
  | _ => none }
def fnBinsRow : OpenClaim := { program := "ytbfjhjkllaceaaagreatdoor", sum := "c965c3a82e6d44aba97149ab54d157efe8dc4a47333b9c62e73e67c84f4903c5", func := "loop.example/g00795/laws.FnBins", spec := "fnBins", inPlace := ["internal/reflectlite.TypeOf"], unfollowed := true, recurses := true, named := ["loop.example/g00795/impl.errNoForm", "unicode/utf8.first", "unicode/utf8.acceptRanges"], ifaces := true, apart := false, laid := [("unicode/utf8.acceptRanges", laid_unicode_utf8_acceptRanges), ("loop.example/g00795/impl.errNoForm", laid_loop_example_g00795_impl_errNoForm), ("unicode/utf8.first", laid_unicode_utf8_first)] }
def FnBinsSaid : Prop := fnBinsRow.holds Tryz.pinned (OpenSpec.ofChange fnBinsSpec)

/-- ITS FALSE NEIGHBOUR: 'it returns false'. Refute it at one input. -/
def fnBinsWrong : ChangeSpec := { name := "fnBins", vars := ["loop.example/g00795/impl.errNoForm"], fn := fun _ => fun
  | [d, g1] => { results := [.lit (.bool false)], args := [d], vars := [g1] }
  | _ => none }
def FnBinsWrongFalsely : Prop := fnBinsRow.holds Tryz.pinned (OpenSpec.ofChange fnBinsWrong)

/-- 'laws.FnExactUnpackTree': WHATEVER THE INPUT: true; the input reads as it did. -/
def fnExactUnpackTreeSpec : ChangeSpec := { name := "fnExactUnpackTree", vars := ["loop.example/g00795/impl.errNoForm"], fn := fun _ => fun
  | [d, g1] => { results := [.lit (.bool true)], args := [d], vars := [g1] }
  | _ => none }
def fnExactUnpackTreeRow : OpenClaim := { program := "ytbfjhjkllaceaaagreatdoor", sum := "c965c3a82e6d44aba97149ab54d157efe8dc4a47333b9c62e73e67c84f4903c5", func := "loop.example/g00795/laws.FnExactUnpackTree", spec := "fnExactUnpackTree", inPlace := ["internal/reflectlite.TypeOf"], unfollowed := true, recurses := true, named := ["loop.example/g00795/impl.errNoForm", "unicode/utf8.first", "unicode/utf8.acceptRanges"], ifaces := true, apart := false, laid := [("unicode/utf8.acceptRanges", laid_unicode_utf8_acceptRanges), ("loop.example/g00795/impl.errNoForm", laid_loop_example_g00795_impl_errNoForm), ("unicode/utf8.first", laid_unicode_utf8_first)] }
def FnExactUnpackTreeSaid : Prop := fnExactUnpackTreeRow.holds Tryz.pinned (OpenSpec.ofChange fnExactUnpackTreeSpec)

/-- ITS FALSE NEIGHBOUR: 'it returns false'. Refute it at one input. -/
def fnExactUnpackTreeWrong : ChangeSpec := { name := "fnExactUnpackTree", vars := ["loop.example/g00795/impl.errNoForm"], fn := fun _ => fun
  | [d, g1] => { results := [.lit (.bool false)], args := [d], vars := [g1] }
  | _ => none }
def FnExactUnpackTreeWrongFalsely : Prop := fnExactUnpackTreeRow.holds Tryz.pinned (OpenSpec.ofChange fnExactUnpackTreeWrong)

/- THE SECOND FORM. 'bulk': how many values and letters a reading holds, each counted each time it is reached (what is shared counts as often as it is met; a slice's spare places count too). A statement '..UptoSaid' is the law's where the arguments, and the package variables that the reading takes, are together of bulk at most 1048576: NARROWER than '..Said'. Prove '..Said' where nothing that the law and all that it calls make is longer than what came in: it says more and counts as full. Else prove '..UptoSaid'. A law counts once. -/
mutual
def uptoBulk {H : Type} : DataW H → Nat
  | .lit (.string bytes) => bytes.length + 1
  | .lit _ => 1
  | .nil => 1
  | .ptr d => uptoBulk d + 1
  | .slice elems spare => uptoBulkAll elems + uptoBulkAll spare + 1
  | .agg parts => uptoBulkAll parts + 1
  | .iface _ d => uptoBulk d + 1
  | .map entries => uptoBulkEntries entries + 1
  | .held _ => 1
def uptoBulkAll {H : Type} : List (DataW H) → Nat
  | [] => 0
  | d :: r => uptoBulk d + uptoBulkAll r
def uptoBulkEntries {H : Type} : List (Lit × DataW H) → Nat
  | [] => 0
  | x :: r => uptoBulkEntry x + uptoBulkEntries r
def uptoBulkEntry {H : Type} : Lit × DataW H → Nat
  | (.string bytes, d) => bytes.length + uptoBulk d + 1
  | (_, d) => uptoBulk d + 1
 end
def uptoSmall : (H : Type) → List (DataW H) → Bool := fun _ ds => decide (uptoBulkAll ds ≤ 1048576)
def OpenSpec.upto (s : _root_.Go.ChangeSpec) : _root_.Go.OpenSpec := { _root_.Go.OpenSpec.ofChange s with cond := some uptoSmall }

/-- 'laws.FnBins', WHERE WHAT IT READS IS OF BULK AT MOST 1048576: true; the input reads as it did. -/
def fnBinsUptoRow : OpenClaim := { program := "ytbfjhjkllaceaaagreatdoor", sum := "c965c3a82e6d44aba97149ab54d157efe8dc4a47333b9c62e73e67c84f4903c5", func := "loop.example/g00795/laws.FnBins", spec := "fnBins", inPlace := ["internal/reflectlite.TypeOf"], unfollowed := true, recurses := true, named := ["loop.example/g00795/impl.errNoForm", "unicode/utf8.first", "unicode/utf8.acceptRanges"], ifaces := true, apart := false, laid := [("unicode/utf8.acceptRanges", laid_unicode_utf8_acceptRanges), ("loop.example/g00795/impl.errNoForm", laid_loop_example_g00795_impl_errNoForm), ("unicode/utf8.first", laid_unicode_utf8_first)], narrowed := true }
def FnBinsUptoSaid : Prop := fnBinsUptoRow.holds Tryz.pinned (OpenSpec.upto fnBinsSpec)

/-- 'laws.FnExactUnpackTree', WHERE WHAT IT READS IS OF BULK AT MOST 1048576: true; the input reads as it did. -/
def fnExactUnpackTreeUptoRow : OpenClaim := { program := "ytbfjhjkllaceaaagreatdoor", sum := "c965c3a82e6d44aba97149ab54d157efe8dc4a47333b9c62e73e67c84f4903c5", func := "loop.example/g00795/laws.FnExactUnpackTree", spec := "fnExactUnpackTree", inPlace := ["internal/reflectlite.TypeOf"], unfollowed := true, recurses := true, named := ["loop.example/g00795/impl.errNoForm", "unicode/utf8.first", "unicode/utf8.acceptRanges"], ifaces := true, apart := false, laid := [("unicode/utf8.acceptRanges", laid_unicode_utf8_acceptRanges), ("loop.example/g00795/impl.errNoForm", laid_loop_example_g00795_impl_errNoForm), ("unicode/utf8.first", laid_unicode_utf8_first)], narrowed := true }
def FnExactUnpackTreeUptoSaid : Prop := fnExactUnpackTreeUptoRow.holds Tryz.pinned (OpenSpec.upto fnExactUnpackTreeSpec)

end Rows
end Go.Proofs.YtbfjhjkllaceaaaGreatDoor
