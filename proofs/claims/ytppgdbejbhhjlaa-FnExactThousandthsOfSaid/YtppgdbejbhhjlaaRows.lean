/-
  No cell of these rows narrows 'for every input' (looked for: loops, veiled, ifaces, maps, wideKeys, modest, calm, conditions, laid).
  DERIVED. THE GIVEN ROWS OF THIS SEAT. 2 by the template 'for every input the law returns true; each argument reads behind the call as it read before'; 0 by the template 'total and deterministic' (their statements: YtppgdbejbhhjlaaTotals.lean).
  GIVEN WITH THE SEED: the statements are not yours to turn. If you find one false, say at which input.
  Laid BY PROGRAM, IN A SANDBOX (cutbox-rows.mjs): the forced cells as the released guide's own fill.sh prints them over the translation d8a2d9c3395bece3… (all of the seat's roots in one cut). By AI agents, Wed Nov 11 2026. No macro, syntax, notation, axiom, sorry.
-/
import Derived.Test.YtppgdbejbhhjlaaChecked
import GoSem.Claim
import GoSem.ClaimJoined
import GoSem.ClaimMapViews
import Derived.JoinedTies
import Derived.KernelRfl
namespace Go.Proofs.Ytppgdbejbhhjlaa
/- THE CELL 'sum', in the pinned program and in every row, IS THE sha256 OF THE DUMP (.gsa) THAT YtppgdbejbhhjlaaProg.lean LOADS. Nothing in Lean hashes anything: it is a label: what it is worth is what the hold of that sum in a sandbox is worth. -/
noncomputable def Try.pinned : Pinned := { name := "ytppgdbejbhhjlaa", sum := "d8a2d9c3395bece36c6b238375c382891a1bd79874e6090c7517a64810b490e3", checked := Try.checked }
namespace Rows
def none {H : Type} : Left H := { results := [], args := [] }

/-- 'laws.FnExactThousandthsOf': WHATEVER THE INPUT: true; the input reads as it did. -/
def fnExactThousandthsOfSpec : ChangeSpec := { name := "fnExactThousandthsOf", fn := fun _ => fun
  | [d] => { results := [.lit (.bool true)], args := [d] }
  | _ => none }
def fnExactThousandthsOfRow : OpenClaim := { program := "ytppgdbejbhhjlaa", sum := "d8a2d9c3395bece36c6b238375c382891a1bd79874e6090c7517a64810b490e3", func := "loop.example/g00795/laws.FnExactThousandthsOf", spec := "fnExactThousandthsOf", apart := false }
def FnExactThousandthsOfSaid : Prop := fnExactThousandthsOfRow.holds Try.pinned (OpenSpec.ofChange fnExactThousandthsOfSpec)

/-- ITS FALSE NEIGHBOUR: 'it returns false'. Refute it at one input. -/
def fnExactThousandthsOfWrong : ChangeSpec := { name := "fnExactThousandthsOf", fn := fun _ => fun
  | [d] => { results := [.lit (.bool false)], args := [d] }
  | _ => none }
def FnExactThousandthsOfWrongFalsely : Prop := fnExactThousandthsOfRow.holds Try.pinned (OpenSpec.ofChange fnExactThousandthsOfWrong)

/-- 'laws.FnExactPriorityOf': WHATEVER THE INPUT: true; the input reads as it did. -/
def fnExactPriorityOfSpec : ChangeSpec := { name := "fnExactPriorityOf", fn := fun _ => fun
  | [d] => { results := [.lit (.bool true)], args := [d] }
  | _ => none }
def fnExactPriorityOfRow : OpenClaim := { program := "ytppgdbejbhhjlaa", sum := "d8a2d9c3395bece36c6b238375c382891a1bd79874e6090c7517a64810b490e3", func := "loop.example/g00795/laws.FnExactPriorityOf", spec := "fnExactPriorityOf", apart := false }
def FnExactPriorityOfSaid : Prop := fnExactPriorityOfRow.holds Try.pinned (OpenSpec.ofChange fnExactPriorityOfSpec)

/-- ITS FALSE NEIGHBOUR: 'it returns false'. Refute it at one input. -/
def fnExactPriorityOfWrong : ChangeSpec := { name := "fnExactPriorityOf", fn := fun _ => fun
  | [d] => { results := [.lit (.bool false)], args := [d] }
  | _ => none }
def FnExactPriorityOfWrongFalsely : Prop := fnExactPriorityOfRow.holds Try.pinned (OpenSpec.ofChange fnExactPriorityOfWrong)

/- THE SECOND FORM. 'bulk': how many values and letters a reading holds, each counted each time it is reached (what is shared counts as often as it is met; a slice's spare places count too). A statement '..UptoSaid' is the law's where the arguments, and the package variables that the reading takes, are together of bulk at most 1048576: NARROWER than '..Said'. Prove '..Said' where nothing that the law and all that it calls make is longer than what came in: it says more and counts as full. Else prove '..UptoSaid'. A law counts once. -/
mutual
def uptoBulk {H : Type} : DataW H → Nat
  | .lit (.string bytes) => bytes.length + 1
  | .lit _ => 1
  | .nil => 1
  | .ptr d => uptoBulk d + 1
  | .slice elems spare => uptoBulkAll elems + uptoBulkAll spare + 1
  | .agg parts => uptoBulkAll parts + 1
  | .iface _ d => uptoBulk d + 1
  | .map entries => uptoBulkEntries entries + 1
  | .held _ => 1
def uptoBulkAll {H : Type} : List (DataW H) → Nat
  | [] => 0
  | d :: r => uptoBulk d + uptoBulkAll r
def uptoBulkEntries {H : Type} : List (Lit × DataW H) → Nat
  | [] => 0
  | x :: r => uptoBulkEntry x + uptoBulkEntries r
def uptoBulkEntry {H : Type} : Lit × DataW H → Nat
  | (.string bytes, d) => bytes.length + uptoBulk d + 1
  | (_, d) => uptoBulk d + 1
 end
def uptoSmall : (H : Type) → List (DataW H) → Bool := fun _ ds => decide (uptoBulkAll ds ≤ 1048576)
def OpenSpec.upto (s : _root_.Go.ChangeSpec) : _root_.Go.OpenSpec := { _root_.Go.OpenSpec.ofChange s with cond := some uptoSmall }

/-- 'laws.FnExactThousandthsOf', WHERE WHAT IT READS IS OF BULK AT MOST 1048576: true; the input reads as it did. -/
def fnExactThousandthsOfUptoRow : OpenClaim := { program := "ytppgdbejbhhjlaa", sum := "d8a2d9c3395bece36c6b238375c382891a1bd79874e6090c7517a64810b490e3", func := "loop.example/g00795/laws.FnExactThousandthsOf", spec := "fnExactThousandthsOf", apart := false, narrowed := true }
def FnExactThousandthsOfUptoSaid : Prop := fnExactThousandthsOfUptoRow.holds Try.pinned (OpenSpec.upto fnExactThousandthsOfSpec)

/-- 'laws.FnExactPriorityOf', WHERE WHAT IT READS IS OF BULK AT MOST 1048576: true; the input reads as it did. -/
def fnExactPriorityOfUptoRow : OpenClaim := { program := "ytppgdbejbhhjlaa", sum := "d8a2d9c3395bece36c6b238375c382891a1bd79874e6090c7517a64810b490e3", func := "loop.example/g00795/laws.FnExactPriorityOf", spec := "fnExactPriorityOf", apart := false, narrowed := true }
def FnExactPriorityOfUptoSaid : Prop := fnExactPriorityOfUptoRow.holds Try.pinned (OpenSpec.upto fnExactPriorityOfSpec)

end Rows
end Go.Proofs.Ytppgdbejbhhjlaa
