/-
  No cell of these rows narrows 'for every input' (looked for: loops, veiled, ifaces, maps, wideKeys, modest, calm, conditions, laid).
  DERIVED. THE GIVEN ROWS OF THIS SEAT. 8 by the template 'for every input the law returns true; each argument reads behind the call as it read before'; 0 by the template 'total and deterministic' (their statements: YtcigepkjnnknlaaTotals.lean).
  GIVEN WITH THE SEED: the statements are not yours to turn. If you find one false, say at which input.
  Laid BY PROGRAM, IN A SANDBOX (cutbox-rows.mjs): the forced cells as the released guide's own fill.sh prints them over the translation fc8f841f8bc930d7… (all of the seat's roots in one cut). By AI agents, Wed Nov 11 2026. No macro, syntax, notation, axiom, sorry.
-/
import Derived.Test.YtcigepkjnnknlaaChecked
import GoSem.Claim
import GoSem.ClaimJoined
import GoSem.ClaimMapViews
import Derived.JoinedTies
import Derived.KernelRfl
namespace Go.Proofs.Ytcigepkjnnknlaa
/- THE CELL 'sum', in the pinned program and in every row, IS THE sha256 OF THE DUMP (.gsa) THAT YtcigepkjnnknlaaProg.lean LOADS. Nothing in Lean hashes anything: it is a label: what it is worth is what the hold of that sum in a sandbox is worth. -/
noncomputable def Try.pinned : Pinned := { name := "ytcigepkjnnknlaa", sum := "fc8f841f8bc930d71550357cbf07dfb8bf2d3e9c0f4d6c9b15b35c07a976fa73", checked := Try.checked }
namespace Rows
def none {H : Type} : Left H := { results := [], args := [] }

/-- 'laws.FnOwnSum': WHATEVER THE INPUT: true; the input reads as it did. -/
def fnOwnSumSpec : ChangeSpec := { name := "fnOwnSum", fn := fun _ => fun
  | [d] => { results := [.lit (.bool true)], args := [d] }
  | _ => none }
def fnOwnSumRow : OpenClaim := { program := "ytcigepkjnnknlaa", sum := "fc8f841f8bc930d71550357cbf07dfb8bf2d3e9c0f4d6c9b15b35c07a976fa73", func := "loop.example/returningdigits/laws.FnOwnSum", spec := "fnOwnSum", unfollowed := true, recurses := true, apart := false }
def FnOwnSumSaid : Prop := fnOwnSumRow.holds Try.pinned (OpenSpec.ofChange fnOwnSumSpec)

/-- ITS FALSE NEIGHBOUR: 'it returns false'. Refute it at one input. -/
def fnOwnSumWrong : ChangeSpec := { name := "fnOwnSum", fn := fun _ => fun
  | [d] => { results := [.lit (.bool false)], args := [d] }
  | _ => none }
def FnOwnSumWrongFalsely : Prop := fnOwnSumRow.holds Try.pinned (OpenSpec.ofChange fnOwnSumWrong)

/-- 'laws.FnOwnOk': WHATEVER THE INPUT: true; the input reads as it did. -/
def fnOwnOkSpec : ChangeSpec := { name := "fnOwnOk", fn := fun _ => fun
  | [d] => { results := [.lit (.bool true)], args := [d] }
  | _ => none }
def fnOwnOkRow : OpenClaim := { program := "ytcigepkjnnknlaa", sum := "fc8f841f8bc930d71550357cbf07dfb8bf2d3e9c0f4d6c9b15b35c07a976fa73", func := "loop.example/returningdigits/laws.FnOwnOk", spec := "fnOwnOk", unfollowed := true, recurses := true, apart := false }
def FnOwnOkSaid : Prop := fnOwnOkRow.holds Try.pinned (OpenSpec.ofChange fnOwnOkSpec)

/-- ITS FALSE NEIGHBOUR: 'it returns false'. Refute it at one input. -/
def fnOwnOkWrong : ChangeSpec := { name := "fnOwnOk", fn := fun _ => fun
  | [d] => { results := [.lit (.bool false)], args := [d] }
  | _ => none }
def FnOwnOkWrongFalsely : Prop := fnOwnOkRow.holds Try.pinned (OpenSpec.ofChange fnOwnOkWrong)

/-- 'laws.FnOwnUpTo': WHATEVER THE INPUT: true; the input reads as it did. -/
def fnOwnUpToSpec : ChangeSpec := { name := "fnOwnUpTo", fn := fun _ => fun
  | [d] => { results := [.lit (.bool true)], args := [d] }
  | _ => none }
def fnOwnUpToRow : OpenClaim := { program := "ytcigepkjnnknlaa", sum := "fc8f841f8bc930d71550357cbf07dfb8bf2d3e9c0f4d6c9b15b35c07a976fa73", func := "loop.example/returningdigits/laws.FnOwnUpTo", spec := "fnOwnUpTo", unfollowed := true, recurses := true, apart := false }
def FnOwnUpToSaid : Prop := fnOwnUpToRow.holds Try.pinned (OpenSpec.ofChange fnOwnUpToSpec)

/-- ITS FALSE NEIGHBOUR: 'it returns false'. Refute it at one input. -/
def fnOwnUpToWrong : ChangeSpec := { name := "fnOwnUpTo", fn := fun _ => fun
  | [d] => { results := [.lit (.bool false)], args := [d] }
  | _ => none }
def FnOwnUpToWrongFalsely : Prop := fnOwnUpToRow.holds Try.pinned (OpenSpec.ofChange fnOwnUpToWrong)

/-- 'laws.FnOwnSteps': WHATEVER THE INPUT: true; the input reads as it did. -/
def fnOwnStepsSpec : ChangeSpec := { name := "fnOwnSteps", fn := fun _ => fun
  | [d] => { results := [.lit (.bool true)], args := [d] }
  | _ => none }
def fnOwnStepsRow : OpenClaim := { program := "ytcigepkjnnknlaa", sum := "fc8f841f8bc930d71550357cbf07dfb8bf2d3e9c0f4d6c9b15b35c07a976fa73", func := "loop.example/returningdigits/laws.FnOwnSteps", spec := "fnOwnSteps", unfollowed := true, recurses := true, apart := false }
def FnOwnStepsSaid : Prop := fnOwnStepsRow.holds Try.pinned (OpenSpec.ofChange fnOwnStepsSpec)

/-- ITS FALSE NEIGHBOUR: 'it returns false'. Refute it at one input. -/
def fnOwnStepsWrong : ChangeSpec := { name := "fnOwnSteps", fn := fun _ => fun
  | [d] => { results := [.lit (.bool false)], args := [d] }
  | _ => none }
def FnOwnStepsWrongFalsely : Prop := fnOwnStepsRow.holds Try.pinned (OpenSpec.ofChange fnOwnStepsWrong)

/-- 'laws.FnExactOwnSum': WHATEVER THE INPUT: true; the input reads as it did. -/
def fnExactOwnSumSpec : ChangeSpec := { name := "fnExactOwnSum", fn := fun _ => fun
  | [d1, d2, d3] => { results := [.lit (.bool true)], args := [d1, d2, d3] }
  | _ => none }
def fnExactOwnSumRow : OpenClaim := { program := "ytcigepkjnnknlaa", sum := "fc8f841f8bc930d71550357cbf07dfb8bf2d3e9c0f4d6c9b15b35c07a976fa73", func := "loop.example/returningdigits/laws.FnExactOwnSum", spec := "fnExactOwnSum", unfollowed := true, recurses := true, apart := false }
def FnExactOwnSumSaid : Prop := fnExactOwnSumRow.holds Try.pinned (OpenSpec.ofChange fnExactOwnSumSpec)

/-- ITS FALSE NEIGHBOUR: 'it returns false'. Refute it at one input. -/
def fnExactOwnSumWrong : ChangeSpec := { name := "fnExactOwnSum", fn := fun _ => fun
  | [d1, d2, d3] => { results := [.lit (.bool false)], args := [d1, d2, d3] }
  | _ => none }
def FnExactOwnSumWrongFalsely : Prop := fnExactOwnSumRow.holds Try.pinned (OpenSpec.ofChange fnExactOwnSumWrong)

/-- 'laws.FnExactOwnOk': WHATEVER THE INPUT: true; the input reads as it did. -/
def fnExactOwnOkSpec : ChangeSpec := { name := "fnExactOwnOk", fn := fun _ => fun
  | [d1, d2, d3] => { results := [.lit (.bool true)], args := [d1, d2, d3] }
  | _ => none }
def fnExactOwnOkRow : OpenClaim := { program := "ytcigepkjnnknlaa", sum := "fc8f841f8bc930d71550357cbf07dfb8bf2d3e9c0f4d6c9b15b35c07a976fa73", func := "loop.example/returningdigits/laws.FnExactOwnOk", spec := "fnExactOwnOk", unfollowed := true, recurses := true, apart := false }
def FnExactOwnOkSaid : Prop := fnExactOwnOkRow.holds Try.pinned (OpenSpec.ofChange fnExactOwnOkSpec)

/-- ITS FALSE NEIGHBOUR: 'it returns false'. Refute it at one input. -/
def fnExactOwnOkWrong : ChangeSpec := { name := "fnExactOwnOk", fn := fun _ => fun
  | [d1, d2, d3] => { results := [.lit (.bool false)], args := [d1, d2, d3] }
  | _ => none }
def FnExactOwnOkWrongFalsely : Prop := fnExactOwnOkRow.holds Try.pinned (OpenSpec.ofChange fnExactOwnOkWrong)

/-- 'laws.FnExactOwnUpTo': WHATEVER THE INPUT: true; the input reads as it did. -/
def fnExactOwnUpToSpec : ChangeSpec := { name := "fnExactOwnUpTo", fn := fun _ => fun
  | [d1, d2, d3] => { results := [.lit (.bool true)], args := [d1, d2, d3] }
  | _ => none }
def fnExactOwnUpToRow : OpenClaim := { program := "ytcigepkjnnknlaa", sum := "fc8f841f8bc930d71550357cbf07dfb8bf2d3e9c0f4d6c9b15b35c07a976fa73", func := "loop.example/returningdigits/laws.FnExactOwnUpTo", spec := "fnExactOwnUpTo", unfollowed := true, recurses := true, apart := false }
def FnExactOwnUpToSaid : Prop := fnExactOwnUpToRow.holds Try.pinned (OpenSpec.ofChange fnExactOwnUpToSpec)

/-- ITS FALSE NEIGHBOUR: 'it returns false'. Refute it at one input. -/
def fnExactOwnUpToWrong : ChangeSpec := { name := "fnExactOwnUpTo", fn := fun _ => fun
  | [d1, d2, d3] => { results := [.lit (.bool false)], args := [d1, d2, d3] }
  | _ => none }
def FnExactOwnUpToWrongFalsely : Prop := fnExactOwnUpToRow.holds Try.pinned (OpenSpec.ofChange fnExactOwnUpToWrong)

/-- 'laws.FnExactOwnSteps': WHATEVER THE INPUT: true; the input reads as it did. -/
def fnExactOwnStepsSpec : ChangeSpec := { name := "fnExactOwnSteps", fn := fun _ => fun
  | [d1, d2, d3] => { results := [.lit (.bool true)], args := [d1, d2, d3] }
  | _ => none }
def fnExactOwnStepsRow : OpenClaim := { program := "ytcigepkjnnknlaa", sum := "fc8f841f8bc930d71550357cbf07dfb8bf2d3e9c0f4d6c9b15b35c07a976fa73", func := "loop.example/returningdigits/laws.FnExactOwnSteps", spec := "fnExactOwnSteps", unfollowed := true, recurses := true, apart := false }
def FnExactOwnStepsSaid : Prop := fnExactOwnStepsRow.holds Try.pinned (OpenSpec.ofChange fnExactOwnStepsSpec)

/-- ITS FALSE NEIGHBOUR: 'it returns false'. Refute it at one input. -/
def fnExactOwnStepsWrong : ChangeSpec := { name := "fnExactOwnSteps", fn := fun _ => fun
  | [d1, d2, d3] => { results := [.lit (.bool false)], args := [d1, d2, d3] }
  | _ => none }
def FnExactOwnStepsWrongFalsely : Prop := fnExactOwnStepsRow.holds Try.pinned (OpenSpec.ofChange fnExactOwnStepsWrong)

/- THE SECOND FORM. 'bulk': how many values and letters a reading holds, each counted each time it is reached (what is shared counts as often as it is met; a slice's spare places count too). A statement '..UptoSaid' is the law's where the arguments, and the package variables that the reading takes, are together of bulk at most 1048576: NARROWER than '..Said'. Prove '..Said' where nothing that the law and all that it calls make is longer than what came in: it says more and counts as full. Else prove '..UptoSaid'. A law counts once. -/
mutual
def uptoBulk {H : Type} : DataW H → Nat
  | .lit (.string bytes) => bytes.length + 1
  | .lit _ => 1
  | .nil => 1
  | .ptr d => uptoBulk d + 1
  | .slice elems spare => uptoBulkAll elems + uptoBulkAll spare + 1
  | .agg parts => uptoBulkAll parts + 1
  | .iface _ d => uptoBulk d + 1
  | .map entries => uptoBulkEntries entries + 1
  | .held _ => 1
def uptoBulkAll {H : Type} : List (DataW H) → Nat
  | [] => 0
  | d :: r => uptoBulk d + uptoBulkAll r
def uptoBulkEntries {H : Type} : List (Lit × DataW H) → Nat
  | [] => 0
  | x :: r => uptoBulkEntry x + uptoBulkEntries r
def uptoBulkEntry {H : Type} : Lit × DataW H → Nat
  | (.string bytes, d) => bytes.length + uptoBulk d + 1
  | (_, d) => uptoBulk d + 1
 end
def uptoSmall : (H : Type) → List (DataW H) → Bool := fun _ ds => decide (uptoBulkAll ds ≤ 1048576)
def OpenSpec.upto (s : _root_.Go.ChangeSpec) : _root_.Go.OpenSpec := { _root_.Go.OpenSpec.ofChange s with cond := some uptoSmall }

/-- 'laws.FnOwnSum', WHERE WHAT IT READS IS OF BULK AT MOST 1048576: true; the input reads as it did. -/
def fnOwnSumUptoRow : OpenClaim := { program := "ytcigepkjnnknlaa", sum := "fc8f841f8bc930d71550357cbf07dfb8bf2d3e9c0f4d6c9b15b35c07a976fa73", func := "loop.example/returningdigits/laws.FnOwnSum", spec := "fnOwnSum", unfollowed := true, recurses := true, apart := false, narrowed := true }
def FnOwnSumUptoSaid : Prop := fnOwnSumUptoRow.holds Try.pinned (OpenSpec.upto fnOwnSumSpec)

/-- 'laws.FnOwnOk', WHERE WHAT IT READS IS OF BULK AT MOST 1048576: true; the input reads as it did. -/
def fnOwnOkUptoRow : OpenClaim := { program := "ytcigepkjnnknlaa", sum := "fc8f841f8bc930d71550357cbf07dfb8bf2d3e9c0f4d6c9b15b35c07a976fa73", func := "loop.example/returningdigits/laws.FnOwnOk", spec := "fnOwnOk", unfollowed := true, recurses := true, apart := false, narrowed := true }
def FnOwnOkUptoSaid : Prop := fnOwnOkUptoRow.holds Try.pinned (OpenSpec.upto fnOwnOkSpec)

/-- 'laws.FnOwnUpTo', WHERE WHAT IT READS IS OF BULK AT MOST 1048576: true; the input reads as it did. -/
def fnOwnUpToUptoRow : OpenClaim := { program := "ytcigepkjnnknlaa", sum := "fc8f841f8bc930d71550357cbf07dfb8bf2d3e9c0f4d6c9b15b35c07a976fa73", func := "loop.example/returningdigits/laws.FnOwnUpTo", spec := "fnOwnUpTo", unfollowed := true, recurses := true, apart := false, narrowed := true }
def FnOwnUpToUptoSaid : Prop := fnOwnUpToUptoRow.holds Try.pinned (OpenSpec.upto fnOwnUpToSpec)

/-- 'laws.FnOwnSteps', WHERE WHAT IT READS IS OF BULK AT MOST 1048576: true; the input reads as it did. -/
def fnOwnStepsUptoRow : OpenClaim := { program := "ytcigepkjnnknlaa", sum := "fc8f841f8bc930d71550357cbf07dfb8bf2d3e9c0f4d6c9b15b35c07a976fa73", func := "loop.example/returningdigits/laws.FnOwnSteps", spec := "fnOwnSteps", unfollowed := true, recurses := true, apart := false, narrowed := true }
def FnOwnStepsUptoSaid : Prop := fnOwnStepsUptoRow.holds Try.pinned (OpenSpec.upto fnOwnStepsSpec)

/-- 'laws.FnExactOwnSum', WHERE WHAT IT READS IS OF BULK AT MOST 1048576: true; the input reads as it did. -/
def fnExactOwnSumUptoRow : OpenClaim := { program := "ytcigepkjnnknlaa", sum := "fc8f841f8bc930d71550357cbf07dfb8bf2d3e9c0f4d6c9b15b35c07a976fa73", func := "loop.example/returningdigits/laws.FnExactOwnSum", spec := "fnExactOwnSum", unfollowed := true, recurses := true, apart := false, narrowed := true }
def FnExactOwnSumUptoSaid : Prop := fnExactOwnSumUptoRow.holds Try.pinned (OpenSpec.upto fnExactOwnSumSpec)

/-- 'laws.FnExactOwnOk', WHERE WHAT IT READS IS OF BULK AT MOST 1048576: true; the input reads as it did. -/
def fnExactOwnOkUptoRow : OpenClaim := { program := "ytcigepkjnnknlaa", sum := "fc8f841f8bc930d71550357cbf07dfb8bf2d3e9c0f4d6c9b15b35c07a976fa73", func := "loop.example/returningdigits/laws.FnExactOwnOk", spec := "fnExactOwnOk", unfollowed := true, recurses := true, apart := false, narrowed := true }
def FnExactOwnOkUptoSaid : Prop := fnExactOwnOkUptoRow.holds Try.pinned (OpenSpec.upto fnExactOwnOkSpec)

/-- 'laws.FnExactOwnUpTo', WHERE WHAT IT READS IS OF BULK AT MOST 1048576: true; the input reads as it did. -/
def fnExactOwnUpToUptoRow : OpenClaim := { program := "ytcigepkjnnknlaa", sum := "fc8f841f8bc930d71550357cbf07dfb8bf2d3e9c0f4d6c9b15b35c07a976fa73", func := "loop.example/returningdigits/laws.FnExactOwnUpTo", spec := "fnExactOwnUpTo", unfollowed := true, recurses := true, apart := false, narrowed := true }
def FnExactOwnUpToUptoSaid : Prop := fnExactOwnUpToUptoRow.holds Try.pinned (OpenSpec.upto fnExactOwnUpToSpec)

/-- 'laws.FnExactOwnSteps', WHERE WHAT IT READS IS OF BULK AT MOST 1048576: true; the input reads as it did. -/
def fnExactOwnStepsUptoRow : OpenClaim := { program := "ytcigepkjnnknlaa", sum := "fc8f841f8bc930d71550357cbf07dfb8bf2d3e9c0f4d6c9b15b35c07a976fa73", func := "loop.example/returningdigits/laws.FnExactOwnSteps", spec := "fnExactOwnSteps", unfollowed := true, recurses := true, apart := false, narrowed := true }
def FnExactOwnStepsUptoSaid : Prop := fnExactOwnStepsUptoRow.holds Try.pinned (OpenSpec.upto fnExactOwnStepsSpec)

end Rows
end Go.Proofs.Ytcigepkjnnknlaa
