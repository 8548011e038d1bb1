/-
  No cell of these rows narrows 'for every input' (looked for: loops, veiled, ifaces, maps, wideKeys, modest, calm, conditions, laid).
  DERIVED. THE GIVEN ROWS OF THIS SEAT. 9 by the template 'for every input the law returns true; each argument reads behind the call as it read before'; 0 by the template 'total and deterministic' (their statements: YtgfjpngcmgfdcaaTotals.lean).
  GIVEN WITH THE SEED: the statements are not yours to turn. If you find one false, say at which input.
  Laid BY PROGRAM, IN A SANDBOX (cutbox-rows.mjs): the forced cells as the released guide's own fill.sh prints them over the translation 24d399cc2db5c3ac… (all of the seat's roots in one cut). By AI agents, Wed Nov 11 2026. No macro, syntax, notation, axiom, sorry.
-/
import Derived.Test.YtgfjpngcmgfdcaaChecked
import GoSem.Claim
import GoSem.ClaimJoined
import GoSem.ClaimMapViews
import Derived.JoinedTies
import Derived.KernelRfl
namespace Go.Proofs.Ytgfjpngcmgfdcaa
/- THE CELL 'sum', in the pinned program and in every row, IS THE sha256 OF THE DUMP (.gsa) THAT YtgfjpngcmgfdcaaProg.lean LOADS. Nothing in Lean hashes anything: it is a label: what it is worth is what the hold of that sum in a sandbox is worth. -/
noncomputable def Try.pinned : Pinned := { name := "ytgfjpngcmgfdcaa", sum := "24d399cc2db5c3ac3da7dd7e11879378849b61c348106717c2370cdc447324cb", checked := Try.checked }
namespace Rows
def none {H : Type} : Left H := { results := [], args := [] }

/-- 'laws.FnExactIsKey': WHATEVER THE INPUT: true; the input reads as it did. -/
def fnExactIsKeySpec : ChangeSpec := { name := "fnExactIsKey", fn := fun _ => fun
  | [d] => { results := [.lit (.bool true)], args := [d] }
  | _ => none }
def fnExactIsKeyRow : OpenClaim := { program := "ytgfjpngcmgfdcaa", sum := "24d399cc2db5c3ac3da7dd7e11879378849b61c348106717c2370cdc447324cb", func := "loop.example/g00795/laws.FnExactIsKey", spec := "fnExactIsKey", apart := false }
def FnExactIsKeySaid : Prop := fnExactIsKeyRow.holds Try.pinned (OpenSpec.ofChange fnExactIsKeySpec)

/-- ITS FALSE NEIGHBOUR: 'it returns false'. Refute it at one input. -/
def fnExactIsKeyWrong : ChangeSpec := { name := "fnExactIsKey", fn := fun _ => fun
  | [d] => { results := [.lit (.bool false)], args := [d] }
  | _ => none }
def FnExactIsKeyWrongFalsely : Prop := fnExactIsKeyRow.holds Try.pinned (OpenSpec.ofChange fnExactIsKeyWrong)

/-- 'laws.FnExactItemFault': WHATEVER THE INPUT: true; the input reads as it did. -/
def fnExactItemFaultSpec : ChangeSpec := { name := "fnExactItemFault", fn := fun _ => fun
  | [d] => { results := [.lit (.bool true)], args := [d] }
  | _ => none }
def fnExactItemFaultRow : OpenClaim := { program := "ytgfjpngcmgfdcaa", sum := "24d399cc2db5c3ac3da7dd7e11879378849b61c348106717c2370cdc447324cb", func := "loop.example/g00795/laws.FnExactItemFault", spec := "fnExactItemFault", unfollowed := true, recurses := true, apart := false }
def FnExactItemFaultSaid : Prop := fnExactItemFaultRow.holds Try.pinned (OpenSpec.ofChange fnExactItemFaultSpec)

/-- ITS FALSE NEIGHBOUR: 'it returns false'. Refute it at one input. -/
def fnExactItemFaultWrong : ChangeSpec := { name := "fnExactItemFault", fn := fun _ => fun
  | [d] => { results := [.lit (.bool false)], args := [d] }
  | _ => none }
def FnExactItemFaultWrongFalsely : Prop := fnExactItemFaultRow.holds Try.pinned (OpenSpec.ofChange fnExactItemFaultWrong)

/-- 'laws.FnExactTreeFault': WHATEVER THE INPUT: true; the input reads as it did. -/
def fnExactTreeFaultSpec : ChangeSpec := { name := "fnExactTreeFault", fn := fun _ => fun
  | [d] => { results := [.lit (.bool true)], args := [d] }
  | _ => none }
def fnExactTreeFaultRow : OpenClaim := { program := "ytgfjpngcmgfdcaa", sum := "24d399cc2db5c3ac3da7dd7e11879378849b61c348106717c2370cdc447324cb", func := "loop.example/g00795/laws.FnExactTreeFault", spec := "fnExactTreeFault", unfollowed := true, recurses := true, apart := false }
def FnExactTreeFaultSaid : Prop := fnExactTreeFaultRow.holds Try.pinned (OpenSpec.ofChange fnExactTreeFaultSpec)

/-- ITS FALSE NEIGHBOUR: 'it returns false'. Refute it at one input. -/
def fnExactTreeFaultWrong : ChangeSpec := { name := "fnExactTreeFault", fn := fun _ => fun
  | [d] => { results := [.lit (.bool false)], args := [d] }
  | _ => none }
def FnExactTreeFaultWrongFalsely : Prop := fnExactTreeFaultRow.holds Try.pinned (OpenSpec.ofChange fnExactTreeFaultWrong)

/-- 'laws.FnExactKidsOf': WHATEVER THE INPUT: true; the input reads as it did. -/
def fnExactKidsOfSpec : ChangeSpec := { name := "fnExactKidsOf", fn := fun _ => fun
  | [d1, d2] => { results := [.lit (.bool true)], args := [d1, d2] }
  | _ => none }
def fnExactKidsOfRow : OpenClaim := { program := "ytgfjpngcmgfdcaa", sum := "24d399cc2db5c3ac3da7dd7e11879378849b61c348106717c2370cdc447324cb", func := "loop.example/g00795/laws.FnExactKidsOf", spec := "fnExactKidsOf", unfollowed := true, recurses := true, apart := false }
def FnExactKidsOfSaid : Prop := fnExactKidsOfRow.holds Try.pinned (OpenSpec.ofChange fnExactKidsOfSpec)

/-- ITS FALSE NEIGHBOUR: 'it returns false'. Refute it at one input. -/
def fnExactKidsOfWrong : ChangeSpec := { name := "fnExactKidsOf", fn := fun _ => fun
  | [d1, d2] => { results := [.lit (.bool false)], args := [d1, d2] }
  | _ => none }
def FnExactKidsOfWrongFalsely : Prop := fnExactKidsOfRow.holds Try.pinned (OpenSpec.ofChange fnExactKidsOfWrong)

/-- 'laws.FnExactTextIn': WHATEVER THE INPUT: true; the input reads as it did. -/
def fnExactTextInSpec : ChangeSpec := { name := "fnExactTextIn", fn := fun _ => fun
  | [d1, d2] => { results := [.lit (.bool true)], args := [d1, d2] }
  | _ => none }
def fnExactTextInRow : OpenClaim := { program := "ytgfjpngcmgfdcaa", sum := "24d399cc2db5c3ac3da7dd7e11879378849b61c348106717c2370cdc447324cb", func := "loop.example/g00795/laws.FnExactTextIn", spec := "fnExactTextIn", inPlace := ["internal/abi.NoEscape"], unfollowed := true, recurses := true, apart := false }
def FnExactTextInSaid : Prop := fnExactTextInRow.holds Try.pinned (OpenSpec.ofChange fnExactTextInSpec)

/-- ITS FALSE NEIGHBOUR: 'it returns false'. Refute it at one input. -/
def fnExactTextInWrong : ChangeSpec := { name := "fnExactTextIn", fn := fun _ => fun
  | [d1, d2] => { results := [.lit (.bool false)], args := [d1, d2] }
  | _ => none }
def FnExactTextInWrongFalsely : Prop := fnExactTextInRow.holds Try.pinned (OpenSpec.ofChange fnExactTextInWrong)

/-- 'laws.FnExactSubTree': WHATEVER THE INPUT: true; the input reads as it did. -/
def fnExactSubTreeSpec : ChangeSpec := { name := "fnExactSubTree", fn := fun _ => fun
  | [d1, d2] => { results := [.lit (.bool true)], args := [d1, d2] }
  | _ => none }
def fnExactSubTreeRow : OpenClaim := { program := "ytgfjpngcmgfdcaa", sum := "24d399cc2db5c3ac3da7dd7e11879378849b61c348106717c2370cdc447324cb", func := "loop.example/g00795/laws.FnExactSubTree", spec := "fnExactSubTree", unfollowed := true, recurses := true, apart := false }
def FnExactSubTreeSaid : Prop := fnExactSubTreeRow.holds Try.pinned (OpenSpec.ofChange fnExactSubTreeSpec)

/-- ITS FALSE NEIGHBOUR: 'it returns false'. Refute it at one input. -/
def fnExactSubTreeWrong : ChangeSpec := { name := "fnExactSubTree", fn := fun _ => fun
  | [d1, d2] => { results := [.lit (.bool false)], args := [d1, d2] }
  | _ => none }
def FnExactSubTreeWrongFalsely : Prop := fnExactSubTreeRow.holds Try.pinned (OpenSpec.ofChange fnExactSubTreeWrong)

/-- 'laws.FnExactJoinTree': WHATEVER THE INPUT: true; the input reads as it did. -/
def fnExactJoinTreeSpec : ChangeSpec := { name := "fnExactJoinTree", fn := fun _ => fun
  | [d1, d2] => { results := [.lit (.bool true)], args := [d1, d2] }
  | _ => none }
def fnExactJoinTreeRow : OpenClaim := { program := "ytgfjpngcmgfdcaa", sum := "24d399cc2db5c3ac3da7dd7e11879378849b61c348106717c2370cdc447324cb", func := "loop.example/g00795/laws.FnExactJoinTree", spec := "fnExactJoinTree", unfollowed := true, recurses := true, apart := false }
def FnExactJoinTreeSaid : Prop := fnExactJoinTreeRow.holds Try.pinned (OpenSpec.ofChange fnExactJoinTreeSpec)

/-- ITS FALSE NEIGHBOUR: 'it returns false'. Refute it at one input. -/
def fnExactJoinTreeWrong : ChangeSpec := { name := "fnExactJoinTree", fn := fun _ => fun
  | [d1, d2] => { results := [.lit (.bool false)], args := [d1, d2] }
  | _ => none }
def FnExactJoinTreeWrongFalsely : Prop := fnExactJoinTreeRow.holds Try.pinned (OpenSpec.ofChange fnExactJoinTreeWrong)

/-- 'laws.FnExactValueOf': WHATEVER THE INPUT: true; the input reads as it did. -/
def fnExactValueOfSpec : ChangeSpec := { name := "fnExactValueOf", fn := fun _ => fun
  | [d1, d2, d3] => { results := [.lit (.bool true)], args := [d1, d2, d3] }
  | _ => none }
def fnExactValueOfRow : OpenClaim := { program := "ytgfjpngcmgfdcaa", sum := "24d399cc2db5c3ac3da7dd7e11879378849b61c348106717c2370cdc447324cb", func := "loop.example/g00795/laws.FnExactValueOf", spec := "fnExactValueOf", unfollowed := true, recurses := true, apart := false }
def FnExactValueOfSaid : Prop := fnExactValueOfRow.holds Try.pinned (OpenSpec.ofChange fnExactValueOfSpec)

/-- ITS FALSE NEIGHBOUR: 'it returns false'. Refute it at one input. -/
def fnExactValueOfWrong : ChangeSpec := { name := "fnExactValueOf", fn := fun _ => fun
  | [d1, d2, d3] => { results := [.lit (.bool false)], args := [d1, d2, d3] }
  | _ => none }
def FnExactValueOfWrongFalsely : Prop := fnExactValueOfRow.holds Try.pinned (OpenSpec.ofChange fnExactValueOfWrong)

/-- 'laws.FnExactSameTrees': WHATEVER THE INPUT: true; the input reads as it did. -/
def fnExactSameTreesSpec : ChangeSpec := { name := "fnExactSameTrees", fn := fun _ => fun
  | [d1, d2] => { results := [.lit (.bool true)], args := [d1, d2] }
  | _ => none }
def fnExactSameTreesRow : OpenClaim := { program := "ytgfjpngcmgfdcaa", sum := "24d399cc2db5c3ac3da7dd7e11879378849b61c348106717c2370cdc447324cb", func := "loop.example/g00795/laws.FnExactSameTrees", spec := "fnExactSameTrees", unfollowed := true, recurses := true, apart := false }
def FnExactSameTreesSaid : Prop := fnExactSameTreesRow.holds Try.pinned (OpenSpec.ofChange fnExactSameTreesSpec)

/-- ITS FALSE NEIGHBOUR: 'it returns false'. Refute it at one input. -/
def fnExactSameTreesWrong : ChangeSpec := { name := "fnExactSameTrees", fn := fun _ => fun
  | [d1, d2] => { results := [.lit (.bool false)], args := [d1, d2] }
  | _ => none }
def FnExactSameTreesWrongFalsely : Prop := fnExactSameTreesRow.holds Try.pinned (OpenSpec.ofChange fnExactSameTreesWrong)

/- THE SECOND FORM. 'bulk': how many values and letters a reading holds, each counted each time it is reached (what is shared counts as often as it is met; a slice's spare places count too). A statement '..UptoSaid' is the law's where the arguments, and the package variables that the reading takes, are together of bulk at most 1048576: NARROWER than '..Said'. Prove '..Said' where nothing that the law and all that it calls make is longer than what came in: it says more and counts as full. Else prove '..UptoSaid'. A law counts once. -/
mutual
def uptoBulk {H : Type} : DataW H → Nat
  | .lit (.string bytes) => bytes.length + 1
  | .lit _ => 1
  | .nil => 1
  | .ptr d => uptoBulk d + 1
  | .slice elems spare => uptoBulkAll elems + uptoBulkAll spare + 1
  | .agg parts => uptoBulkAll parts + 1
  | .iface _ d => uptoBulk d + 1
  | .map entries => uptoBulkEntries entries + 1
  | .held _ => 1
def uptoBulkAll {H : Type} : List (DataW H) → Nat
  | [] => 0
  | d :: r => uptoBulk d + uptoBulkAll r
def uptoBulkEntries {H : Type} : List (Lit × DataW H) → Nat
  | [] => 0
  | x :: r => uptoBulkEntry x + uptoBulkEntries r
def uptoBulkEntry {H : Type} : Lit × DataW H → Nat
  | (.string bytes, d) => bytes.length + uptoBulk d + 1
  | (_, d) => uptoBulk d + 1
 end
def uptoSmall : (H : Type) → List (DataW H) → Bool := fun _ ds => decide (uptoBulkAll ds ≤ 1048576)
def OpenSpec.upto (s : _root_.Go.ChangeSpec) : _root_.Go.OpenSpec := { _root_.Go.OpenSpec.ofChange s with cond := some uptoSmall }

/-- 'laws.FnExactIsKey', WHERE WHAT IT READS IS OF BULK AT MOST 1048576: true; the input reads as it did. -/
def fnExactIsKeyUptoRow : OpenClaim := { program := "ytgfjpngcmgfdcaa", sum := "24d399cc2db5c3ac3da7dd7e11879378849b61c348106717c2370cdc447324cb", func := "loop.example/g00795/laws.FnExactIsKey", spec := "fnExactIsKey", apart := false, narrowed := true }
def FnExactIsKeyUptoSaid : Prop := fnExactIsKeyUptoRow.holds Try.pinned (OpenSpec.upto fnExactIsKeySpec)

/-- 'laws.FnExactItemFault', WHERE WHAT IT READS IS OF BULK AT MOST 1048576: true; the input reads as it did. -/
def fnExactItemFaultUptoRow : OpenClaim := { program := "ytgfjpngcmgfdcaa", sum := "24d399cc2db5c3ac3da7dd7e11879378849b61c348106717c2370cdc447324cb", func := "loop.example/g00795/laws.FnExactItemFault", spec := "fnExactItemFault", unfollowed := true, recurses := true, apart := false, narrowed := true }
def FnExactItemFaultUptoSaid : Prop := fnExactItemFaultUptoRow.holds Try.pinned (OpenSpec.upto fnExactItemFaultSpec)

/-- 'laws.FnExactTreeFault', WHERE WHAT IT READS IS OF BULK AT MOST 1048576: true; the input reads as it did. -/
def fnExactTreeFaultUptoRow : OpenClaim := { program := "ytgfjpngcmgfdcaa", sum := "24d399cc2db5c3ac3da7dd7e11879378849b61c348106717c2370cdc447324cb", func := "loop.example/g00795/laws.FnExactTreeFault", spec := "fnExactTreeFault", unfollowed := true, recurses := true, apart := false, narrowed := true }
def FnExactTreeFaultUptoSaid : Prop := fnExactTreeFaultUptoRow.holds Try.pinned (OpenSpec.upto fnExactTreeFaultSpec)

/-- 'laws.FnExactKidsOf', WHERE WHAT IT READS IS OF BULK AT MOST 1048576: true; the input reads as it did. -/
def fnExactKidsOfUptoRow : OpenClaim := { program := "ytgfjpngcmgfdcaa", sum := "24d399cc2db5c3ac3da7dd7e11879378849b61c348106717c2370cdc447324cb", func := "loop.example/g00795/laws.FnExactKidsOf", spec := "fnExactKidsOf", unfollowed := true, recurses := true, apart := false, narrowed := true }
def FnExactKidsOfUptoSaid : Prop := fnExactKidsOfUptoRow.holds Try.pinned (OpenSpec.upto fnExactKidsOfSpec)

/-- 'laws.FnExactTextIn', WHERE WHAT IT READS IS OF BULK AT MOST 1048576: true; the input reads as it did. -/
def fnExactTextInUptoRow : OpenClaim := { program := "ytgfjpngcmgfdcaa", sum := "24d399cc2db5c3ac3da7dd7e11879378849b61c348106717c2370cdc447324cb", func := "loop.example/g00795/laws.FnExactTextIn", spec := "fnExactTextIn", inPlace := ["internal/abi.NoEscape"], unfollowed := true, recurses := true, apart := false, narrowed := true }
def FnExactTextInUptoSaid : Prop := fnExactTextInUptoRow.holds Try.pinned (OpenSpec.upto fnExactTextInSpec)

/-- 'laws.FnExactSubTree', WHERE WHAT IT READS IS OF BULK AT MOST 1048576: true; the input reads as it did. -/
def fnExactSubTreeUptoRow : OpenClaim := { program := "ytgfjpngcmgfdcaa", sum := "24d399cc2db5c3ac3da7dd7e11879378849b61c348106717c2370cdc447324cb", func := "loop.example/g00795/laws.FnExactSubTree", spec := "fnExactSubTree", unfollowed := true, recurses := true, apart := false, narrowed := true }
def FnExactSubTreeUptoSaid : Prop := fnExactSubTreeUptoRow.holds Try.pinned (OpenSpec.upto fnExactSubTreeSpec)

/-- 'laws.FnExactJoinTree', WHERE WHAT IT READS IS OF BULK AT MOST 1048576: true; the input reads as it did. -/
def fnExactJoinTreeUptoRow : OpenClaim := { program := "ytgfjpngcmgfdcaa", sum := "24d399cc2db5c3ac3da7dd7e11879378849b61c348106717c2370cdc447324cb", func := "loop.example/g00795/laws.FnExactJoinTree", spec := "fnExactJoinTree", unfollowed := true, recurses := true, apart := false, narrowed := true }
def FnExactJoinTreeUptoSaid : Prop := fnExactJoinTreeUptoRow.holds Try.pinned (OpenSpec.upto fnExactJoinTreeSpec)

/-- 'laws.FnExactValueOf', WHERE WHAT IT READS IS OF BULK AT MOST 1048576: true; the input reads as it did. -/
def fnExactValueOfUptoRow : OpenClaim := { program := "ytgfjpngcmgfdcaa", sum := "24d399cc2db5c3ac3da7dd7e11879378849b61c348106717c2370cdc447324cb", func := "loop.example/g00795/laws.FnExactValueOf", spec := "fnExactValueOf", unfollowed := true, recurses := true, apart := false, narrowed := true }
def FnExactValueOfUptoSaid : Prop := fnExactValueOfUptoRow.holds Try.pinned (OpenSpec.upto fnExactValueOfSpec)

/-- 'laws.FnExactSameTrees', WHERE WHAT IT READS IS OF BULK AT MOST 1048576: true; the input reads as it did. -/
def fnExactSameTreesUptoRow : OpenClaim := { program := "ytgfjpngcmgfdcaa", sum := "24d399cc2db5c3ac3da7dd7e11879378849b61c348106717c2370cdc447324cb", func := "loop.example/g00795/laws.FnExactSameTrees", spec := "fnExactSameTrees", unfollowed := true, recurses := true, apart := false, narrowed := true }
def FnExactSameTreesUptoSaid : Prop := fnExactSameTreesUptoRow.holds Try.pinned (OpenSpec.upto fnExactSameTreesSpec)

end Rows
end Go.Proofs.Ytgfjpngcmgfdcaa
