/-
  NARROWER THAN 'FOR EVERY INPUT', by the rows' own cells (each row's printed sentence says how): FnPoints: laid · FnVars: ifaces, laid · FnExactPointsOf: laid · FnExactTextFault: laid · FnExactReadVar: ifaces, laid · FnExactPutString: laid · FnExactReadString: ifaces, laid.
  DERIVED. THE GIVEN ROWS OF THIS SEAT. 7 by the template 'for every input the law returns true; each argument reads behind the call as it read before'; 0 by the template 'total and deterministic' (their statements: YtmgemchpclmknaaDoorTotals.lean).
  GIVEN WITH THE SEED: the statements are not yours to turn. If you find one false, say at which input.
  Laid BY PROGRAM, IN A SANDBOX (cutbox-rows.mjs): the forced cells as the released guide's own fill.sh prints them over the translation 4001fe4e0d33cc88… (all of the seat's roots in one cut). By AI agents, Wed Nov 11 2026. No macro, syntax, notation, axiom, sorry.
-/
import Derived.Test.YtmgemchpclmknaaDoorChecked
import GoSem.PinnedTables
import GoSem.Claim
import GoSem.ClaimJoined
import GoSem.ClaimMapViews
import Derived.JoinedTies
import Derived.KernelRfl
namespace Go.Proofs.YtmgemchpclmknaaDoor
/- THE CELL 'sum', in the pinned program and in every row, IS THE sha256 OF THE DUMP (.gsa) THAT YtmgemchpclmknaaDoorProg.lean LOADS. Nothing in Lean hashes anything: it is a label: what it is worth is what the hold of that sum in a sandbox is worth. -/
noncomputable def Tryd.pinned : Pinned := { name := "ytmgemchpclmknaadoor", sum := "4001fe4e0d33cc88955241b5cc1f648d2e5324d6a6cb40acf386037d01acfa76", checked := Tryd.checked }
namespace Rows
def none {H : Type} : Left H := { results := [], args := [] }

/- WHAT THE LISTED PACKAGE-LEVEL VARIABLES READ AS WHEN THE CALL BEGINS. Each datum BY PROGRAM (the guide's laid-datum.mjs) off the statement by which the dump's own 'gosem.cut.vars' lays the variable. In a bare row this is a premise. The card (YtmgemchpclmknaaDoorCards.lean) ties it to the program's text. -/
def laid_unicode_utf8_acceptRanges {H : Type} : DataW H := .agg [.agg [.lit (.int .u8 128), .lit (.int .u8 191)], .agg [.lit (.int .u8 160), .lit (.int .u8 191)], .agg [.lit (.int .u8 128), .lit (.int .u8 159)], .agg [.lit (.int .u8 144), .lit (.int .u8 191)], .agg [.lit (.int .u8 128), .lit (.int .u8 143)], .agg [.lit (.int .u8 0), .lit (.int .u8 0)], .agg [.lit (.int .u8 0), .lit (.int .u8 0)], .agg [.lit (.int .u8 0), .lit (.int .u8 0)], .agg [.lit (.int .u8 0), .lit (.int .u8 0)], .agg [.lit (.int .u8 0), .lit (.int .u8 0)], .agg [.lit (.int .u8 0), .lit (.int .u8 0)], .agg [.lit (.int .u8 0), .lit (.int .u8 0)], .agg [.lit (.int .u8 0), .lit (.int .u8 0)], .agg [.lit (.int .u8 0), .lit (.int .u8 0)], .agg [.lit (.int .u8 0), .lit (.int .u8 0)], .agg [.lit (.int .u8 0), .lit (.int .u8 0)]]
/-- One of Go's own tables, pinned by name: the form's constant. -/
def laid_unicode_utf8_first : DataW Unit := Go.Pinned.utf8First
def laid_loop_example_g00795_impl_errNoForm {H : Type} : DataW H := .iface "*errors.errorString" (.ptr (.agg [.lit (.string [116, 104, 101, 32, 98, 121, 116, 101, 115, 32, 98, 101, 103, 105, 110, 32, 119, 105, 116, 104, 32, 110, 111, 32, 115, 117, 99, 104, 32, 102, 111, 114, 109])]))

/-- 'laws.FnPoints': WHATEVER THE INPUT: true; the input reads as it did. -/
def fnPointsSpec : ChangeSpec := { name := "fnPoints", fn := fun _ => fun
  | [d] => { results := [.lit (.bool true)], args := [d] }
  | _ => none }
def fnPointsRow : OpenClaim := { program := "ytmgemchpclmknaadoor", sum := "4001fe4e0d33cc88955241b5cc1f648d2e5324d6a6cb40acf386037d01acfa76", func := "loop.example/g00795/laws.FnPoints", spec := "fnPoints", unfollowed := true, recurses := true, named := ["unicode/utf8.first", "unicode/utf8.acceptRanges"], apart := false, laid := [("unicode/utf8.acceptRanges", laid_unicode_utf8_acceptRanges), ("unicode/utf8.first", laid_unicode_utf8_first)] }
def FnPointsSaid : Prop := fnPointsRow.holds Tryd.pinned (OpenSpec.ofChange fnPointsSpec)

/-- ITS FALSE NEIGHBOUR: 'it returns false'. Refute it at one input. -/
def fnPointsWrong : ChangeSpec := { name := "fnPoints", fn := fun _ => fun
  | [d] => { results := [.lit (.bool false)], args := [d] }
  | _ => none }
def FnPointsWrongFalsely : Prop := fnPointsRow.holds Tryd.pinned (OpenSpec.ofChange fnPointsWrong)

/-- 'laws.FnVars': WHATEVER THE INPUT: true; the input reads as it did. -/
def fnVarsSpec : ChangeSpec := { name := "fnVars", vars := ["loop.example/g00795/impl.errNoForm"], fn := fun _ => fun
  | [d, g1] => { results := [.lit (.bool true)], args := [d], vars := [g1] }
  | _ => none }
def fnVarsRow : OpenClaim := { program := "ytmgemchpclmknaadoor", sum := "4001fe4e0d33cc88955241b5cc1f648d2e5324d6a6cb40acf386037d01acfa76", func := "loop.example/g00795/laws.FnVars", spec := "fnVars", inPlace := ["internal/reflectlite.TypeOf"], unfollowed := true, recurses := true, named := ["loop.example/g00795/impl.errNoForm", "unicode/utf8.first", "unicode/utf8.acceptRanges"], ifaces := true, apart := false, laid := [("unicode/utf8.acceptRanges", laid_unicode_utf8_acceptRanges), ("loop.example/g00795/impl.errNoForm", laid_loop_example_g00795_impl_errNoForm), ("unicode/utf8.first", laid_unicode_utf8_first)] }
def FnVarsSaid : Prop := fnVarsRow.holds Tryd.pinned (OpenSpec.ofChange fnVarsSpec)

/-- ITS FALSE NEIGHBOUR: 'it returns false'. Refute it at one input. -/
def fnVarsWrong : ChangeSpec := { name := "fnVars", vars := ["loop.example/g00795/impl.errNoForm"], fn := fun _ => fun
  | [d, g1] => { results := [.lit (.bool false)], args := [d], vars := [g1] }
  | _ => none }
def FnVarsWrongFalsely : Prop := fnVarsRow.holds Tryd.pinned (OpenSpec.ofChange fnVarsWrong)

/-- 'laws.FnExactPointsOf': WHATEVER THE INPUT: true; the input reads as it did. -/
def fnExactPointsOfSpec : ChangeSpec := { name := "fnExactPointsOf", fn := fun _ => fun
  | [d] => { results := [.lit (.bool true)], args := [d] }
  | _ => none }
def fnExactPointsOfRow : OpenClaim := { program := "ytmgemchpclmknaadoor", sum := "4001fe4e0d33cc88955241b5cc1f648d2e5324d6a6cb40acf386037d01acfa76", func := "loop.example/g00795/laws.FnExactPointsOf", spec := "fnExactPointsOf", unfollowed := true, recurses := true, named := ["unicode/utf8.first", "unicode/utf8.acceptRanges"], apart := false, laid := [("unicode/utf8.acceptRanges", laid_unicode_utf8_acceptRanges), ("unicode/utf8.first", laid_unicode_utf8_first)] }
def FnExactPointsOfSaid : Prop := fnExactPointsOfRow.holds Tryd.pinned (OpenSpec.ofChange fnExactPointsOfSpec)

/-- ITS FALSE NEIGHBOUR: 'it returns false'. Refute it at one input. -/
def fnExactPointsOfWrong : ChangeSpec := { name := "fnExactPointsOf", fn := fun _ => fun
  | [d] => { results := [.lit (.bool false)], args := [d] }
  | _ => none }
def FnExactPointsOfWrongFalsely : Prop := fnExactPointsOfRow.holds Tryd.pinned (OpenSpec.ofChange fnExactPointsOfWrong)

/-- 'laws.FnExactTextFault': WHATEVER THE INPUT: true; the input reads as it did. -/
def fnExactTextFaultSpec : ChangeSpec := { name := "fnExactTextFault", fn := fun _ => fun
  | [d] => { results := [.lit (.bool true)], args := [d] }
  | _ => none }
def fnExactTextFaultRow : OpenClaim := { program := "ytmgemchpclmknaadoor", sum := "4001fe4e0d33cc88955241b5cc1f648d2e5324d6a6cb40acf386037d01acfa76", func := "loop.example/g00795/laws.FnExactTextFault", spec := "fnExactTextFault", unfollowed := true, recurses := true, named := ["unicode/utf8.first", "unicode/utf8.acceptRanges"], apart := false, laid := [("unicode/utf8.acceptRanges", laid_unicode_utf8_acceptRanges), ("unicode/utf8.first", laid_unicode_utf8_first)] }
def FnExactTextFaultSaid : Prop := fnExactTextFaultRow.holds Tryd.pinned (OpenSpec.ofChange fnExactTextFaultSpec)

/-- ITS FALSE NEIGHBOUR: 'it returns false'. Refute it at one input. -/
def fnExactTextFaultWrong : ChangeSpec := { name := "fnExactTextFault", fn := fun _ => fun
  | [d] => { results := [.lit (.bool false)], args := [d] }
  | _ => none }
def FnExactTextFaultWrongFalsely : Prop := fnExactTextFaultRow.holds Tryd.pinned (OpenSpec.ofChange fnExactTextFaultWrong)

/-- 'laws.FnExactReadVar': WHATEVER THE INPUT: true; the input reads as it did. -/
def fnExactReadVarSpec : ChangeSpec := { name := "fnExactReadVar", vars := ["loop.example/g00795/impl.errNoForm"], fn := fun _ => fun
  | [d, g1] => { results := [.lit (.bool true)], args := [d], vars := [g1] }
  | _ => none }
def fnExactReadVarRow : OpenClaim := { program := "ytmgemchpclmknaadoor", sum := "4001fe4e0d33cc88955241b5cc1f648d2e5324d6a6cb40acf386037d01acfa76", func := "loop.example/g00795/laws.FnExactReadVar", spec := "fnExactReadVar", inPlace := ["internal/reflectlite.TypeOf"], unfollowed := true, recurses := true, named := ["loop.example/g00795/impl.errNoForm"], ifaces := true, apart := false, laid := [("loop.example/g00795/impl.errNoForm", laid_loop_example_g00795_impl_errNoForm)] }
def FnExactReadVarSaid : Prop := fnExactReadVarRow.holds Tryd.pinned (OpenSpec.ofChange fnExactReadVarSpec)

/-- ITS FALSE NEIGHBOUR: 'it returns false'. Refute it at one input. -/
def fnExactReadVarWrong : ChangeSpec := { name := "fnExactReadVar", vars := ["loop.example/g00795/impl.errNoForm"], fn := fun _ => fun
  | [d, g1] => { results := [.lit (.bool false)], args := [d], vars := [g1] }
  | _ => none }
def FnExactReadVarWrongFalsely : Prop := fnExactReadVarRow.holds Tryd.pinned (OpenSpec.ofChange fnExactReadVarWrong)

/-- 'laws.FnExactPutString': WHATEVER THE INPUT: true; the input reads as it did. -/
def fnExactPutStringSpec : ChangeSpec := { name := "fnExactPutString", fn := fun _ => fun
  | [d] => { results := [.lit (.bool true)], args := [d] }
  | _ => none }
def fnExactPutStringRow : OpenClaim := { program := "ytmgemchpclmknaadoor", sum := "4001fe4e0d33cc88955241b5cc1f648d2e5324d6a6cb40acf386037d01acfa76", func := "loop.example/g00795/laws.FnExactPutString", spec := "fnExactPutString", unfollowed := true, recurses := true, named := ["unicode/utf8.first", "unicode/utf8.acceptRanges"], apart := false, laid := [("unicode/utf8.acceptRanges", laid_unicode_utf8_acceptRanges), ("unicode/utf8.first", laid_unicode_utf8_first)] }
def FnExactPutStringSaid : Prop := fnExactPutStringRow.holds Tryd.pinned (OpenSpec.ofChange fnExactPutStringSpec)

/-- ITS FALSE NEIGHBOUR: 'it returns false'. Refute it at one input. -/
def fnExactPutStringWrong : ChangeSpec := { name := "fnExactPutString", fn := fun _ => fun
  | [d] => { results := [.lit (.bool false)], args := [d] }
  | _ => none }
def FnExactPutStringWrongFalsely : Prop := fnExactPutStringRow.holds Tryd.pinned (OpenSpec.ofChange fnExactPutStringWrong)

/-- 'laws.FnExactReadString': WHATEVER THE INPUT: true; the input reads as it did. -/
def fnExactReadStringSpec : ChangeSpec := { name := "fnExactReadString", vars := ["loop.example/g00795/impl.errNoForm"], fn := fun _ => fun
  | [d, g1] => { results := [.lit (.bool true)], args := [d], vars := [g1] }
  | _ => none }
def fnExactReadStringRow : OpenClaim := { program := "ytmgemchpclmknaadoor", sum := "4001fe4e0d33cc88955241b5cc1f648d2e5324d6a6cb40acf386037d01acfa76", func := "loop.example/g00795/laws.FnExactReadString", spec := "fnExactReadString", inPlace := ["internal/reflectlite.TypeOf"], unfollowed := true, recurses := true, named := ["loop.example/g00795/impl.errNoForm", "unicode/utf8.first", "unicode/utf8.acceptRanges"], ifaces := true, apart := false, laid := [("unicode/utf8.acceptRanges", laid_unicode_utf8_acceptRanges), ("loop.example/g00795/impl.errNoForm", laid_loop_example_g00795_impl_errNoForm), ("unicode/utf8.first", laid_unicode_utf8_first)] }
def FnExactReadStringSaid : Prop := fnExactReadStringRow.holds Tryd.pinned (OpenSpec.ofChange fnExactReadStringSpec)

/-- ITS FALSE NEIGHBOUR: 'it returns false'. Refute it at one input. -/
def fnExactReadStringWrong : ChangeSpec := { name := "fnExactReadString", vars := ["loop.example/g00795/impl.errNoForm"], fn := fun _ => fun
  | [d, g1] => { results := [.lit (.bool false)], args := [d], vars := [g1] }
  | _ => none }
def FnExactReadStringWrongFalsely : Prop := fnExactReadStringRow.holds Tryd.pinned (OpenSpec.ofChange fnExactReadStringWrong)

/- THE SECOND FORM. 'bulk': how many values and letters a reading holds, each counted each time it is reached (what is shared counts as often as it is met; a slice's spare places count too). A statement '..UptoSaid' is the law's where the arguments, and the package variables that the reading takes, are together of bulk at most 1048576: NARROWER than '..Said'. Prove '..Said' where nothing that the law and all that it calls make is longer than what came in: it says more and counts as full. Else prove '..UptoSaid'. A law counts once. -/
mutual
def uptoBulk {H : Type} : DataW H → Nat
  | .lit (.string bytes) => bytes.length + 1
  | .lit _ => 1
  | .nil => 1
  | .ptr d => uptoBulk d + 1
  | .slice elems spare => uptoBulkAll elems + uptoBulkAll spare + 1
  | .agg parts => uptoBulkAll parts + 1
  | .iface _ d => uptoBulk d + 1
  | .map entries => uptoBulkEntries entries + 1
  | .held _ => 1
def uptoBulkAll {H : Type} : List (DataW H) → Nat
  | [] => 0
  | d :: r => uptoBulk d + uptoBulkAll r
def uptoBulkEntries {H : Type} : List (Lit × DataW H) → Nat
  | [] => 0
  | x :: r => uptoBulkEntry x + uptoBulkEntries r
def uptoBulkEntry {H : Type} : Lit × DataW H → Nat
  | (.string bytes, d) => bytes.length + uptoBulk d + 1
  | (_, d) => uptoBulk d + 1
 end
def uptoSmall : (H : Type) → List (DataW H) → Bool := fun _ ds => decide (uptoBulkAll ds ≤ 1048576)
def OpenSpec.upto (s : _root_.Go.ChangeSpec) : _root_.Go.OpenSpec := { _root_.Go.OpenSpec.ofChange s with cond := some uptoSmall }

/-- 'laws.FnPoints', WHERE WHAT IT READS IS OF BULK AT MOST 1048576: true; the input reads as it did. -/
def fnPointsUptoRow : OpenClaim := { program := "ytmgemchpclmknaadoor", sum := "4001fe4e0d33cc88955241b5cc1f648d2e5324d6a6cb40acf386037d01acfa76", func := "loop.example/g00795/laws.FnPoints", spec := "fnPoints", unfollowed := true, recurses := true, named := ["unicode/utf8.first", "unicode/utf8.acceptRanges"], apart := false, laid := [("unicode/utf8.acceptRanges", laid_unicode_utf8_acceptRanges), ("unicode/utf8.first", laid_unicode_utf8_first)], narrowed := true }
def FnPointsUptoSaid : Prop := fnPointsUptoRow.holds Tryd.pinned (OpenSpec.upto fnPointsSpec)

/-- 'laws.FnVars', WHERE WHAT IT READS IS OF BULK AT MOST 1048576: true; the input reads as it did. -/
def fnVarsUptoRow : OpenClaim := { program := "ytmgemchpclmknaadoor", sum := "4001fe4e0d33cc88955241b5cc1f648d2e5324d6a6cb40acf386037d01acfa76", func := "loop.example/g00795/laws.FnVars", spec := "fnVars", inPlace := ["internal/reflectlite.TypeOf"], unfollowed := true, recurses := true, named := ["loop.example/g00795/impl.errNoForm", "unicode/utf8.first", "unicode/utf8.acceptRanges"], ifaces := true, apart := false, laid := [("unicode/utf8.acceptRanges", laid_unicode_utf8_acceptRanges), ("loop.example/g00795/impl.errNoForm", laid_loop_example_g00795_impl_errNoForm), ("unicode/utf8.first", laid_unicode_utf8_first)], narrowed := true }
def FnVarsUptoSaid : Prop := fnVarsUptoRow.holds Tryd.pinned (OpenSpec.upto fnVarsSpec)

/-- 'laws.FnExactPointsOf', WHERE WHAT IT READS IS OF BULK AT MOST 1048576: true; the input reads as it did. -/
def fnExactPointsOfUptoRow : OpenClaim := { program := "ytmgemchpclmknaadoor", sum := "4001fe4e0d33cc88955241b5cc1f648d2e5324d6a6cb40acf386037d01acfa76", func := "loop.example/g00795/laws.FnExactPointsOf", spec := "fnExactPointsOf", unfollowed := true, recurses := true, named := ["unicode/utf8.first", "unicode/utf8.acceptRanges"], apart := false, laid := [("unicode/utf8.acceptRanges", laid_unicode_utf8_acceptRanges), ("unicode/utf8.first", laid_unicode_utf8_first)], narrowed := true }
def FnExactPointsOfUptoSaid : Prop := fnExactPointsOfUptoRow.holds Tryd.pinned (OpenSpec.upto fnExactPointsOfSpec)

/-- 'laws.FnExactTextFault', WHERE WHAT IT READS IS OF BULK AT MOST 1048576: true; the input reads as it did. -/
def fnExactTextFaultUptoRow : OpenClaim := { program := "ytmgemchpclmknaadoor", sum := "4001fe4e0d33cc88955241b5cc1f648d2e5324d6a6cb40acf386037d01acfa76", func := "loop.example/g00795/laws.FnExactTextFault", spec := "fnExactTextFault", unfollowed := true, recurses := true, named := ["unicode/utf8.first", "unicode/utf8.acceptRanges"], apart := false, laid := [("unicode/utf8.acceptRanges", laid_unicode_utf8_acceptRanges), ("unicode/utf8.first", laid_unicode_utf8_first)], narrowed := true }
def FnExactTextFaultUptoSaid : Prop := fnExactTextFaultUptoRow.holds Tryd.pinned (OpenSpec.upto fnExactTextFaultSpec)

/-- 'laws.FnExactReadVar', WHERE WHAT IT READS IS OF BULK AT MOST 1048576: true; the input reads as it did. -/
def fnExactReadVarUptoRow : OpenClaim := { program := "ytmgemchpclmknaadoor", sum := "4001fe4e0d33cc88955241b5cc1f648d2e5324d6a6cb40acf386037d01acfa76", func := "loop.example/g00795/laws.FnExactReadVar", spec := "fnExactReadVar", inPlace := ["internal/reflectlite.TypeOf"], unfollowed := true, recurses := true, named := ["loop.example/g00795/impl.errNoForm"], ifaces := true, apart := false, laid := [("loop.example/g00795/impl.errNoForm", laid_loop_example_g00795_impl_errNoForm)], narrowed := true }
def FnExactReadVarUptoSaid : Prop := fnExactReadVarUptoRow.holds Tryd.pinned (OpenSpec.upto fnExactReadVarSpec)

/-- 'laws.FnExactPutString', WHERE WHAT IT READS IS OF BULK AT MOST 1048576: true; the input reads as it did. -/
def fnExactPutStringUptoRow : OpenClaim := { program := "ytmgemchpclmknaadoor", sum := "4001fe4e0d33cc88955241b5cc1f648d2e5324d6a6cb40acf386037d01acfa76", func := "loop.example/g00795/laws.FnExactPutString", spec := "fnExactPutString", unfollowed := true, recurses := true, named := ["unicode/utf8.first", "unicode/utf8.acceptRanges"], apart := false, laid := [("unicode/utf8.acceptRanges", laid_unicode_utf8_acceptRanges), ("unicode/utf8.first", laid_unicode_utf8_first)], narrowed := true }
def FnExactPutStringUptoSaid : Prop := fnExactPutStringUptoRow.holds Tryd.pinned (OpenSpec.upto fnExactPutStringSpec)

/-- 'laws.FnExactReadString', WHERE WHAT IT READS IS OF BULK AT MOST 1048576: true; the input reads as it did. -/
def fnExactReadStringUptoRow : OpenClaim := { program := "ytmgemchpclmknaadoor", sum := "4001fe4e0d33cc88955241b5cc1f648d2e5324d6a6cb40acf386037d01acfa76", func := "loop.example/g00795/laws.FnExactReadString", spec := "fnExactReadString", inPlace := ["internal/reflectlite.TypeOf"], unfollowed := true, recurses := true, named := ["loop.example/g00795/impl.errNoForm", "unicode/utf8.first", "unicode/utf8.acceptRanges"], ifaces := true, apart := false, laid := [("unicode/utf8.acceptRanges", laid_unicode_utf8_acceptRanges), ("loop.example/g00795/impl.errNoForm", laid_loop_example_g00795_impl_errNoForm), ("unicode/utf8.first", laid_unicode_utf8_first)], narrowed := true }
def FnExactReadStringUptoSaid : Prop := fnExactReadStringUptoRow.holds Tryd.pinned (OpenSpec.upto fnExactReadStringSpec)

end Rows
end Go.Proofs.YtmgemchpclmknaaDoor
