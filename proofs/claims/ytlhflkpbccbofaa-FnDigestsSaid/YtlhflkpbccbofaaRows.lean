/-
  No cell of these rows narrows 'for every input' (looked for: loops, veiled, ifaces, maps, wideKeys, modest, calm, conditions, laid).
  DERIVED. THE GIVEN ROWS OF THIS SEAT. 3 by the template 'for every input the law returns true; each argument reads behind the call as it read before'; 0 by the template 'total and deterministic' (their statements: YtlhflkpbccbofaaTotals.lean).
  GIVEN WITH THE SEED: the statements are not yours to turn. If you find one false, say at which input.
  Laid BY PROGRAM, IN A SANDBOX (cutbox-rows.mjs): the forced cells as the released guide's own fill.sh prints them over the translation 7bd55e4d6061da1f… (all of the seat's roots in one cut). By AI agents, Wed Nov 11 2026. No macro, syntax, notation, axiom, sorry.
-/
import Derived.Test.YtlhflkpbccbofaaChecked
import GoSem.Claim
import GoSem.ClaimJoined
import GoSem.ClaimMapViews
import Derived.JoinedTies
import Derived.KernelRfl
namespace Go.Proofs.Ytlhflkpbccbofaa
/- THE CELL 'sum', in the pinned program and in every row, IS THE sha256 OF THE DUMP (.gsa) THAT YtlhflkpbccbofaaProg.lean LOADS. Nothing in Lean hashes anything: it is a label: what it is worth is what the hold of that sum in a sandbox is worth. -/
noncomputable def Try.pinned : Pinned := { name := "ytlhflkpbccbofaa", sum := "7bd55e4d6061da1f0fff940d840b6ea47a1dfc1f3bea04dc4bde2f0d4d683e81", checked := Try.checked }
namespace Rows
def none {H : Type} : Left H := { results := [], args := [] }

/-- 'laws.FnDigests': WHATEVER THE INPUT: true; the input reads as it did. -/
def fnDigestsSpec : ChangeSpec := { name := "fnDigests", fn := fun _ => fun
  | [d] => { results := [.lit (.bool true)], args := [d] }
  | _ => none }
def fnDigestsRow : OpenClaim := { program := "ytlhflkpbccbofaa", sum := "7bd55e4d6061da1f0fff940d840b6ea47a1dfc1f3bea04dc4bde2f0d4d683e81", func := "loop.example/g00795/laws.FnDigests", spec := "fnDigests", inPlace := ["internal/abi.NoEscape"], unfollowed := true, recurses := true, apart := false }
def FnDigestsSaid : Prop := fnDigestsRow.holds Try.pinned (OpenSpec.ofChange fnDigestsSpec)

/-- ITS FALSE NEIGHBOUR: 'it returns false'. Refute it at one input. -/
def fnDigestsWrong : ChangeSpec := { name := "fnDigests", fn := fun _ => fun
  | [d] => { results := [.lit (.bool false)], args := [d] }
  | _ => none }
def FnDigestsWrongFalsely : Prop := fnDigestsRow.holds Try.pinned (OpenSpec.ofChange fnDigestsWrong)

/-- 'laws.FnExactSha1Of': WHATEVER THE INPUT: true; the input reads as it did. -/
def fnExactSha1OfSpec : ChangeSpec := { name := "fnExactSha1Of", fn := fun _ => fun
  | [d] => { results := [.lit (.bool true)], args := [d] }
  | _ => none }
def fnExactSha1OfRow : OpenClaim := { program := "ytlhflkpbccbofaa", sum := "7bd55e4d6061da1f0fff940d840b6ea47a1dfc1f3bea04dc4bde2f0d4d683e81", func := "loop.example/g00795/laws.FnExactSha1Of", spec := "fnExactSha1Of", unfollowed := true, recurses := true, apart := false }
def FnExactSha1OfSaid : Prop := fnExactSha1OfRow.holds Try.pinned (OpenSpec.ofChange fnExactSha1OfSpec)

/-- ITS FALSE NEIGHBOUR: 'it returns false'. Refute it at one input. -/
def fnExactSha1OfWrong : ChangeSpec := { name := "fnExactSha1Of", fn := fun _ => fun
  | [d] => { results := [.lit (.bool false)], args := [d] }
  | _ => none }
def FnExactSha1OfWrongFalsely : Prop := fnExactSha1OfRow.holds Try.pinned (OpenSpec.ofChange fnExactSha1OfWrong)

/-- 'laws.FnExactBase64Of': WHATEVER THE INPUT: true; the input reads as it did. -/
def fnExactBase64OfSpec : ChangeSpec := { name := "fnExactBase64Of", fn := fun _ => fun
  | [d] => { results := [.lit (.bool true)], args := [d] }
  | _ => none }
def fnExactBase64OfRow : OpenClaim := { program := "ytlhflkpbccbofaa", sum := "7bd55e4d6061da1f0fff940d840b6ea47a1dfc1f3bea04dc4bde2f0d4d683e81", func := "loop.example/g00795/laws.FnExactBase64Of", spec := "fnExactBase64Of", inPlace := ["internal/abi.NoEscape"], unfollowed := true, recurses := true, apart := false }
def FnExactBase64OfSaid : Prop := fnExactBase64OfRow.holds Try.pinned (OpenSpec.ofChange fnExactBase64OfSpec)

/-- ITS FALSE NEIGHBOUR: 'it returns false'. Refute it at one input. -/
def fnExactBase64OfWrong : ChangeSpec := { name := "fnExactBase64Of", fn := fun _ => fun
  | [d] => { results := [.lit (.bool false)], args := [d] }
  | _ => none }
def FnExactBase64OfWrongFalsely : Prop := fnExactBase64OfRow.holds Try.pinned (OpenSpec.ofChange fnExactBase64OfWrong)

/- THE SECOND FORM. 'bulk': how many values and letters a reading holds, each counted each time it is reached (what is shared counts as often as it is met; a slice's spare places count too). A statement '..UptoSaid' is the law's where the arguments, and the package variables that the reading takes, are together of bulk at most 1048576: NARROWER than '..Said'. Prove '..Said' where nothing that the law and all that it calls make is longer than what came in: it says more and counts as full. Else prove '..UptoSaid'. A law counts once. -/
mutual
def uptoBulk {H : Type} : DataW H → Nat
  | .lit (.string bytes) => bytes.length + 1
  | .lit _ => 1
  | .nil => 1
  | .ptr d => uptoBulk d + 1
  | .slice elems spare => uptoBulkAll elems + uptoBulkAll spare + 1
  | .agg parts => uptoBulkAll parts + 1
  | .iface _ d => uptoBulk d + 1
  | .map entries => uptoBulkEntries entries + 1
  | .held _ => 1
def uptoBulkAll {H : Type} : List (DataW H) → Nat
  | [] => 0
  | d :: r => uptoBulk d + uptoBulkAll r
def uptoBulkEntries {H : Type} : List (Lit × DataW H) → Nat
  | [] => 0
  | x :: r => uptoBulkEntry x + uptoBulkEntries r
def uptoBulkEntry {H : Type} : Lit × DataW H → Nat
  | (.string bytes, d) => bytes.length + uptoBulk d + 1
  | (_, d) => uptoBulk d + 1
 end
def uptoSmall : (H : Type) → List (DataW H) → Bool := fun _ ds => decide (uptoBulkAll ds ≤ 1048576)
def OpenSpec.upto (s : _root_.Go.ChangeSpec) : _root_.Go.OpenSpec := { _root_.Go.OpenSpec.ofChange s with cond := some uptoSmall }

/-- 'laws.FnDigests', WHERE WHAT IT READS IS OF BULK AT MOST 1048576: true; the input reads as it did. -/
def fnDigestsUptoRow : OpenClaim := { program := "ytlhflkpbccbofaa", sum := "7bd55e4d6061da1f0fff940d840b6ea47a1dfc1f3bea04dc4bde2f0d4d683e81", func := "loop.example/g00795/laws.FnDigests", spec := "fnDigests", inPlace := ["internal/abi.NoEscape"], unfollowed := true, recurses := true, apart := false, narrowed := true }
def FnDigestsUptoSaid : Prop := fnDigestsUptoRow.holds Try.pinned (OpenSpec.upto fnDigestsSpec)

/-- 'laws.FnExactSha1Of', WHERE WHAT IT READS IS OF BULK AT MOST 1048576: true; the input reads as it did. -/
def fnExactSha1OfUptoRow : OpenClaim := { program := "ytlhflkpbccbofaa", sum := "7bd55e4d6061da1f0fff940d840b6ea47a1dfc1f3bea04dc4bde2f0d4d683e81", func := "loop.example/g00795/laws.FnExactSha1Of", spec := "fnExactSha1Of", unfollowed := true, recurses := true, apart := false, narrowed := true }
def FnExactSha1OfUptoSaid : Prop := fnExactSha1OfUptoRow.holds Try.pinned (OpenSpec.upto fnExactSha1OfSpec)

/-- 'laws.FnExactBase64Of', WHERE WHAT IT READS IS OF BULK AT MOST 1048576: true; the input reads as it did. -/
def fnExactBase64OfUptoRow : OpenClaim := { program := "ytlhflkpbccbofaa", sum := "7bd55e4d6061da1f0fff940d840b6ea47a1dfc1f3bea04dc4bde2f0d4d683e81", func := "loop.example/g00795/laws.FnExactBase64Of", spec := "fnExactBase64Of", inPlace := ["internal/abi.NoEscape"], unfollowed := true, recurses := true, apart := false, narrowed := true }
def FnExactBase64OfUptoSaid : Prop := fnExactBase64OfUptoRow.holds Try.pinned (OpenSpec.upto fnExactBase64OfSpec)

end Rows
end Go.Proofs.Ytlhflkpbccbofaa
