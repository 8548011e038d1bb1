/-
  No cell of these rows narrows 'for every input' (looked for: loops, veiled, ifaces, maps, wideKeys, modest, calm, conditions, laid).
  DERIVED. THE GIVEN ROWS OF THIS SEAT. 4 by the template 'for every input the law returns true; each argument reads behind the call as it read before'; 0 by the template 'total and deterministic' (their statements: YtpafknmfacgccaaTotals.lean).
  GIVEN WITH THE SEED: the statements are not yours to turn. If you find one false, say at which input.
  Laid BY PROGRAM, IN A SANDBOX (cutbox-rows.mjs): the forced cells as the released guide's own fill.sh prints them over the translation 4953d9f475de1f04… (all of the seat's roots in one cut). By AI agents, Wed Nov 11 2026. No macro, syntax, notation, axiom, sorry.
-/
import Derived.Test.YtpafknmfacgccaaChecked
import GoSem.Claim
import GoSem.ClaimJoined
import GoSem.ClaimMapViews
import Derived.JoinedTies
import Derived.KernelRfl
namespace Go.Proofs.Ytpafknmfacgccaa
/- THE CELL 'sum', in the pinned program and in every row, IS THE sha256 OF THE DUMP (.gsa) THAT YtpafknmfacgccaaProg.lean LOADS. Nothing in Lean hashes anything: it is a label: what it is worth is what the hold of that sum in a sandbox is worth. -/
noncomputable def Try.pinned : Pinned := { name := "ytpafknmfacgccaa", sum := "4953d9f475de1f0409169a437b435e333aa53c77b1623f1fbb1997675265dce5", checked := Try.checked }
namespace Rows
def none {H : Type} : Left H := { results := [], args := [] }

/-- 'laws.FnExactKindWord': WHATEVER THE INPUT: true; the input reads as it did. -/
def fnExactKindWordSpec : ChangeSpec := { name := "fnExactKindWord", fn := fun _ => fun
  | [d] => { results := [.lit (.bool true)], args := [d] }
  | _ => none }
def fnExactKindWordRow : OpenClaim := { program := "ytpafknmfacgccaa", sum := "4953d9f475de1f0409169a437b435e333aa53c77b1623f1fbb1997675265dce5", func := "loop.example/g00795/laws.FnExactKindWord", spec := "fnExactKindWord", apart := false }
def FnExactKindWordSaid : Prop := fnExactKindWordRow.holds Try.pinned (OpenSpec.ofChange fnExactKindWordSpec)

/-- ITS FALSE NEIGHBOUR: 'it returns false'. Refute it at one input. -/
def fnExactKindWordWrong : ChangeSpec := { name := "fnExactKindWord", fn := fun _ => fun
  | [d] => { results := [.lit (.bool false)], args := [d] }
  | _ => none }
def FnExactKindWordWrongFalsely : Prop := fnExactKindWordRow.holds Try.pinned (OpenSpec.ofChange fnExactKindWordWrong)

/-- 'laws.FnExactMoreFault': WHATEVER THE INPUT: true; the input reads as it did. -/
def fnExactMoreFaultSpec : ChangeSpec := { name := "fnExactMoreFault", fn := fun _ => fun
  | [d] => { results := [.lit (.bool true)], args := [d] }
  | _ => none }
def fnExactMoreFaultRow : OpenClaim := { program := "ytpafknmfacgccaa", sum := "4953d9f475de1f0409169a437b435e333aa53c77b1623f1fbb1997675265dce5", func := "loop.example/g00795/laws.FnExactMoreFault", spec := "fnExactMoreFault", unfollowed := true, recurses := true, apart := false }
def FnExactMoreFaultSaid : Prop := fnExactMoreFaultRow.holds Try.pinned (OpenSpec.ofChange fnExactMoreFaultSpec)

/-- ITS FALSE NEIGHBOUR: 'it returns false'. Refute it at one input. -/
def fnExactMoreFaultWrong : ChangeSpec := { name := "fnExactMoreFault", fn := fun _ => fun
  | [d] => { results := [.lit (.bool false)], args := [d] }
  | _ => none }
def FnExactMoreFaultWrongFalsely : Prop := fnExactMoreFaultRow.holds Try.pinned (OpenSpec.ofChange fnExactMoreFaultWrong)

/-- 'laws.FnExactSamePresences': WHATEVER THE INPUT: true; the input reads as it did. -/
def fnExactSamePresencesSpec : ChangeSpec := { name := "fnExactSamePresences", fn := fun _ => fun
  | [d1, d2] => { results := [.lit (.bool true)], args := [d1, d2] }
  | _ => none }
def fnExactSamePresencesRow : OpenClaim := { program := "ytpafknmfacgccaa", sum := "4953d9f475de1f0409169a437b435e333aa53c77b1623f1fbb1997675265dce5", func := "loop.example/g00795/laws.FnExactSamePresences", spec := "fnExactSamePresences", unfollowed := true, recurses := true, apart := false }
def FnExactSamePresencesSaid : Prop := fnExactSamePresencesRow.holds Try.pinned (OpenSpec.ofChange fnExactSamePresencesSpec)

/-- ITS FALSE NEIGHBOUR: 'it returns false'. Refute it at one input. -/
def fnExactSamePresencesWrong : ChangeSpec := { name := "fnExactSamePresences", fn := fun _ => fun
  | [d1, d2] => { results := [.lit (.bool false)], args := [d1, d2] }
  | _ => none }
def FnExactSamePresencesWrongFalsely : Prop := fnExactSamePresencesRow.holds Try.pinned (OpenSpec.ofChange fnExactSamePresencesWrong)

/-- 'laws.FnExactShowWord': WHATEVER THE INPUT: true; the input reads as it did. -/
def fnExactShowWordSpec : ChangeSpec := { name := "fnExactShowWord", fn := fun _ => fun
  | [d] => { results := [.lit (.bool true)], args := [d] }
  | _ => none }
def fnExactShowWordRow : OpenClaim := { program := "ytpafknmfacgccaa", sum := "4953d9f475de1f0409169a437b435e333aa53c77b1623f1fbb1997675265dce5", func := "loop.example/g00795/laws.FnExactShowWord", spec := "fnExactShowWord", apart := false }
def FnExactShowWordSaid : Prop := fnExactShowWordRow.holds Try.pinned (OpenSpec.ofChange fnExactShowWordSpec)

/-- ITS FALSE NEIGHBOUR: 'it returns false'. Refute it at one input. -/
def fnExactShowWordWrong : ChangeSpec := { name := "fnExactShowWord", fn := fun _ => fun
  | [d] => { results := [.lit (.bool false)], args := [d] }
  | _ => none }
def FnExactShowWordWrongFalsely : Prop := fnExactShowWordRow.holds Try.pinned (OpenSpec.ofChange fnExactShowWordWrong)

/- THE SECOND FORM. 'bulk': how many values and letters a reading holds, each counted each time it is reached (what is shared counts as often as it is met; a slice's spare places count too). A statement '..UptoSaid' is the law's where the arguments, and the package variables that the reading takes, are together of bulk at most 1048576: NARROWER than '..Said'. Prove '..Said' where nothing that the law and all that it calls make is longer than what came in: it says more and counts as full. Else prove '..UptoSaid'. A law counts once. -/
mutual
def uptoBulk {H : Type} : DataW H → Nat
  | .lit (.string bytes) => bytes.length + 1
  | .lit _ => 1
  | .nil => 1
  | .ptr d => uptoBulk d + 1
  | .slice elems spare => uptoBulkAll elems + uptoBulkAll spare + 1
  | .agg parts => uptoBulkAll parts + 1
  | .iface _ d => uptoBulk d + 1
  | .map entries => uptoBulkEntries entries + 1
  | .held _ => 1
def uptoBulkAll {H : Type} : List (DataW H) → Nat
  | [] => 0
  | d :: r => uptoBulk d + uptoBulkAll r
def uptoBulkEntries {H : Type} : List (Lit × DataW H) → Nat
  | [] => 0
  | x :: r => uptoBulkEntry x + uptoBulkEntries r
def uptoBulkEntry {H : Type} : Lit × DataW H → Nat
  | (.string bytes, d) => bytes.length + uptoBulk d + 1
  | (_, d) => uptoBulk d + 1
 end
def uptoSmall : (H : Type) → List (DataW H) → Bool := fun _ ds => decide (uptoBulkAll ds ≤ 1048576)
def OpenSpec.upto (s : _root_.Go.ChangeSpec) : _root_.Go.OpenSpec := { _root_.Go.OpenSpec.ofChange s with cond := some uptoSmall }

/-- 'laws.FnExactKindWord', WHERE WHAT IT READS IS OF BULK AT MOST 1048576: true; the input reads as it did. -/
def fnExactKindWordUptoRow : OpenClaim := { program := "ytpafknmfacgccaa", sum := "4953d9f475de1f0409169a437b435e333aa53c77b1623f1fbb1997675265dce5", func := "loop.example/g00795/laws.FnExactKindWord", spec := "fnExactKindWord", apart := false, narrowed := true }
def FnExactKindWordUptoSaid : Prop := fnExactKindWordUptoRow.holds Try.pinned (OpenSpec.upto fnExactKindWordSpec)

/-- 'laws.FnExactMoreFault', WHERE WHAT IT READS IS OF BULK AT MOST 1048576: true; the input reads as it did. -/
def fnExactMoreFaultUptoRow : OpenClaim := { program := "ytpafknmfacgccaa", sum := "4953d9f475de1f0409169a437b435e333aa53c77b1623f1fbb1997675265dce5", func := "loop.example/g00795/laws.FnExactMoreFault", spec := "fnExactMoreFault", unfollowed := true, recurses := true, apart := false, narrowed := true }
def FnExactMoreFaultUptoSaid : Prop := fnExactMoreFaultUptoRow.holds Try.pinned (OpenSpec.upto fnExactMoreFaultSpec)

/-- 'laws.FnExactSamePresences', WHERE WHAT IT READS IS OF BULK AT MOST 1048576: true; the input reads as it did. -/
def fnExactSamePresencesUptoRow : OpenClaim := { program := "ytpafknmfacgccaa", sum := "4953d9f475de1f0409169a437b435e333aa53c77b1623f1fbb1997675265dce5", func := "loop.example/g00795/laws.FnExactSamePresences", spec := "fnExactSamePresences", unfollowed := true, recurses := true, apart := false, narrowed := true }
def FnExactSamePresencesUptoSaid : Prop := fnExactSamePresencesUptoRow.holds Try.pinned (OpenSpec.upto fnExactSamePresencesSpec)

/-- 'laws.FnExactShowWord', WHERE WHAT IT READS IS OF BULK AT MOST 1048576: true; the input reads as it did. -/
def fnExactShowWordUptoRow : OpenClaim := { program := "ytpafknmfacgccaa", sum := "4953d9f475de1f0409169a437b435e333aa53c77b1623f1fbb1997675265dce5", func := "loop.example/g00795/laws.FnExactShowWord", spec := "fnExactShowWord", apart := false, narrowed := true }
def FnExactShowWordUptoSaid : Prop := fnExactShowWordUptoRow.holds Try.pinned (OpenSpec.upto fnExactShowWordSpec)

end Rows
end Go.Proofs.Ytpafknmfacgccaa
