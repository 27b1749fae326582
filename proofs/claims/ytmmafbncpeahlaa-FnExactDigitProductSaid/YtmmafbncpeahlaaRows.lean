/-
  No cell of these rows narrows 'for every input' (looked for: loops, veiled, ifaces, maps, wideKeys, modest, calm, conditions, laid).
  DERIVED. THE GIVEN ROWS OF THIS SEAT. 8 by the template 'for every input the law returns true; each argument reads behind the call as it read before'; 0 by the template 'total and deterministic' (their statements: YtmmafbncpeahlaaTotals.lean).
  GIVEN WITH THE SEED: the statements are not yours to turn. If you find one false, say at which input.
  Laid BY PROGRAM, IN A SANDBOX (cutbox-rows.mjs): the forced cells as the released guide's own fill.sh prints them over the translation 743b94878ef44692… (all of the seat's roots in one cut). By AI agents, Wed Nov 11 2026. No macro, syntax, notation, axiom, sorry.
-/
import Derived.Test.YtmmafbncpeahlaaChecked
import GoSem.Claim
import GoSem.ClaimJoined
import GoSem.ClaimMapViews
import Derived.JoinedTies
import Derived.KernelRfl
namespace Go.Proofs.Ytmmafbncpeahlaa
/- THE CELL 'sum', in the pinned program and in every row, IS THE sha256 OF THE DUMP (.gsa) THAT YtmmafbncpeahlaaProg.lean LOADS. Nothing in Lean hashes anything: it is a label: what it is worth is what the hold of that sum in a sandbox is worth. -/
noncomputable def Try.pinned : Pinned := { name := "ytmmafbncpeahlaa", sum := "743b94878ef4469270c29d36497b65887ff64043aa9bc61aedf428c9c79494ce", checked := Try.checked }
namespace Rows
def none {H : Type} : Left H := { results := [], args := [] }

/-- 'laws.FnDigitProduct': WHATEVER THE INPUT: true; the input reads as it did. -/
def fnDigitProductSpec : ChangeSpec := { name := "fnDigitProduct", fn := fun _ => fun
  | [d] => { results := [.lit (.bool true)], args := [d] }
  | _ => none }
def fnDigitProductRow : OpenClaim := { program := "ytmmafbncpeahlaa", sum := "743b94878ef4469270c29d36497b65887ff64043aa9bc61aedf428c9c79494ce", func := "loop.example/returningdigits/laws.FnDigitProduct", spec := "fnDigitProduct", unfollowed := true, recurses := true, apart := false }
def FnDigitProductSaid : Prop := fnDigitProductRow.holds Try.pinned (OpenSpec.ofChange fnDigitProductSpec)

/-- ITS FALSE NEIGHBOUR: 'it returns false'. Refute it at one input. -/
def fnDigitProductWrong : ChangeSpec := { name := "fnDigitProduct", fn := fun _ => fun
  | [d] => { results := [.lit (.bool false)], args := [d] }
  | _ => none }
def FnDigitProductWrongFalsely : Prop := fnDigitProductRow.holds Try.pinned (OpenSpec.ofChange fnDigitProductWrong)

/-- 'laws.FnPersistsOf': WHATEVER THE INPUT: true; the input reads as it did. -/
def fnPersistsOfSpec : ChangeSpec := { name := "fnPersistsOf", fn := fun _ => fun
  | [d] => { results := [.lit (.bool true)], args := [d] }
  | _ => none }
def fnPersistsOfRow : OpenClaim := { program := "ytmmafbncpeahlaa", sum := "743b94878ef4469270c29d36497b65887ff64043aa9bc61aedf428c9c79494ce", func := "loop.example/returningdigits/laws.FnPersistsOf", spec := "fnPersistsOf", unfollowed := true, recurses := true, apart := false }
def FnPersistsOfSaid : Prop := fnPersistsOfRow.holds Try.pinned (OpenSpec.ofChange fnPersistsOfSpec)

/-- ITS FALSE NEIGHBOUR: 'it returns false'. Refute it at one input. -/
def fnPersistsOfWrong : ChangeSpec := { name := "fnPersistsOf", fn := fun _ => fun
  | [d] => { results := [.lit (.bool false)], args := [d] }
  | _ => none }
def FnPersistsOfWrongFalsely : Prop := fnPersistsOfRow.holds Try.pinned (OpenSpec.ofChange fnPersistsOfWrong)

/-- 'laws.FnLeastPersisting': WHATEVER THE INPUT: true; the input reads as it did. -/
def fnLeastPersistingSpec : ChangeSpec := { name := "fnLeastPersisting", fn := fun _ => fun
  | [d] => { results := [.lit (.bool true)], args := [d] }
  | _ => none }
def fnLeastPersistingRow : OpenClaim := { program := "ytmmafbncpeahlaa", sum := "743b94878ef4469270c29d36497b65887ff64043aa9bc61aedf428c9c79494ce", func := "loop.example/returningdigits/laws.FnLeastPersisting", spec := "fnLeastPersisting", unfollowed := true, recurses := true, apart := false }
def FnLeastPersistingSaid : Prop := fnLeastPersistingRow.holds Try.pinned (OpenSpec.ofChange fnLeastPersistingSpec)

/-- ITS FALSE NEIGHBOUR: 'it returns false'. Refute it at one input. -/
def fnLeastPersistingWrong : ChangeSpec := { name := "fnLeastPersisting", fn := fun _ => fun
  | [d] => { results := [.lit (.bool false)], args := [d] }
  | _ => none }
def FnLeastPersistingWrongFalsely : Prop := fnLeastPersistingRow.holds Try.pinned (OpenSpec.ofChange fnLeastPersistingWrong)

/-- 'laws.FnNoNought': WHATEVER THE INPUT: true; the input reads as it did. -/
def fnNoNoughtSpec : ChangeSpec := { name := "fnNoNought", fn := fun _ => fun
  | [d] => { results := [.lit (.bool true)], args := [d] }
  | _ => none }
def fnNoNoughtRow : OpenClaim := { program := "ytmmafbncpeahlaa", sum := "743b94878ef4469270c29d36497b65887ff64043aa9bc61aedf428c9c79494ce", func := "loop.example/returningdigits/laws.FnNoNought", spec := "fnNoNought", unfollowed := true, recurses := true, apart := false }
def FnNoNoughtSaid : Prop := fnNoNoughtRow.holds Try.pinned (OpenSpec.ofChange fnNoNoughtSpec)

/-- ITS FALSE NEIGHBOUR: 'it returns false'. Refute it at one input. -/
def fnNoNoughtWrong : ChangeSpec := { name := "fnNoNought", fn := fun _ => fun
  | [d] => { results := [.lit (.bool false)], args := [d] }
  | _ => none }
def FnNoNoughtWrongFalsely : Prop := fnNoNoughtRow.holds Try.pinned (OpenSpec.ofChange fnNoNoughtWrong)

/-- 'laws.FnExactDigitProduct': WHATEVER THE INPUT: true; the input reads as it did. -/
def fnExactDigitProductSpec : ChangeSpec := { name := "fnExactDigitProduct", fn := fun _ => fun
  | [d1, d2] => { results := [.lit (.bool true)], args := [d1, d2] }
  | _ => none }
def fnExactDigitProductRow : OpenClaim := { program := "ytmmafbncpeahlaa", sum := "743b94878ef4469270c29d36497b65887ff64043aa9bc61aedf428c9c79494ce", func := "loop.example/returningdigits/laws.FnExactDigitProduct", spec := "fnExactDigitProduct", unfollowed := true, recurses := true, apart := false }
def FnExactDigitProductSaid : Prop := fnExactDigitProductRow.holds Try.pinned (OpenSpec.ofChange fnExactDigitProductSpec)

/-- ITS FALSE NEIGHBOUR: 'it returns false'. Refute it at one input. -/
def fnExactDigitProductWrong : ChangeSpec := { name := "fnExactDigitProduct", fn := fun _ => fun
  | [d1, d2] => { results := [.lit (.bool false)], args := [d1, d2] }
  | _ => none }
def FnExactDigitProductWrongFalsely : Prop := fnExactDigitProductRow.holds Try.pinned (OpenSpec.ofChange fnExactDigitProductWrong)

/-- 'laws.FnExactPersistsOf': WHATEVER THE INPUT: true; the input reads as it did. -/
def fnExactPersistsOfSpec : ChangeSpec := { name := "fnExactPersistsOf", fn := fun _ => fun
  | [d1, d2] => { results := [.lit (.bool true)], args := [d1, d2] }
  | _ => none }
def fnExactPersistsOfRow : OpenClaim := { program := "ytmmafbncpeahlaa", sum := "743b94878ef4469270c29d36497b65887ff64043aa9bc61aedf428c9c79494ce", func := "loop.example/returningdigits/laws.FnExactPersistsOf", spec := "fnExactPersistsOf", unfollowed := true, recurses := true, apart := false }
def FnExactPersistsOfSaid : Prop := fnExactPersistsOfRow.holds Try.pinned (OpenSpec.ofChange fnExactPersistsOfSpec)

/-- ITS FALSE NEIGHBOUR: 'it returns false'. Refute it at one input. -/
def fnExactPersistsOfWrong : ChangeSpec := { name := "fnExactPersistsOf", fn := fun _ => fun
  | [d1, d2] => { results := [.lit (.bool false)], args := [d1, d2] }
  | _ => none }
def FnExactPersistsOfWrongFalsely : Prop := fnExactPersistsOfRow.holds Try.pinned (OpenSpec.ofChange fnExactPersistsOfWrong)

/-- 'laws.FnExactLeastPersisting': WHATEVER THE INPUT: true; the input reads as it did. -/
def fnExactLeastPersistingSpec : ChangeSpec := { name := "fnExactLeastPersisting", fn := fun _ => fun
  | [d1, d2] => { results := [.lit (.bool true)], args := [d1, d2] }
  | _ => none }
def fnExactLeastPersistingRow : OpenClaim := { program := "ytmmafbncpeahlaa", sum := "743b94878ef4469270c29d36497b65887ff64043aa9bc61aedf428c9c79494ce", func := "loop.example/returningdigits/laws.FnExactLeastPersisting", spec := "fnExactLeastPersisting", unfollowed := true, recurses := true, apart := false }
def FnExactLeastPersistingSaid : Prop := fnExactLeastPersistingRow.holds Try.pinned (OpenSpec.ofChange fnExactLeastPersistingSpec)

/-- ITS FALSE NEIGHBOUR: 'it returns false'. Refute it at one input. -/
def fnExactLeastPersistingWrong : ChangeSpec := { name := "fnExactLeastPersisting", fn := fun _ => fun
  | [d1, d2] => { results := [.lit (.bool false)], args := [d1, d2] }
  | _ => none }
def FnExactLeastPersistingWrongFalsely : Prop := fnExactLeastPersistingRow.holds Try.pinned (OpenSpec.ofChange fnExactLeastPersistingWrong)

/-- 'laws.FnExactNoNought': WHATEVER THE INPUT: true; the input reads as it did. -/
def fnExactNoNoughtSpec : ChangeSpec := { name := "fnExactNoNought", fn := fun _ => fun
  | [d1, d2] => { results := [.lit (.bool true)], args := [d1, d2] }
  | _ => none }
def fnExactNoNoughtRow : OpenClaim := { program := "ytmmafbncpeahlaa", sum := "743b94878ef4469270c29d36497b65887ff64043aa9bc61aedf428c9c79494ce", func := "loop.example/returningdigits/laws.FnExactNoNought", spec := "fnExactNoNought", unfollowed := true, recurses := true, apart := false }
def FnExactNoNoughtSaid : Prop := fnExactNoNoughtRow.holds Try.pinned (OpenSpec.ofChange fnExactNoNoughtSpec)

/-- ITS FALSE NEIGHBOUR: 'it returns false'. Refute it at one input. -/
def fnExactNoNoughtWrong : ChangeSpec := { name := "fnExactNoNought", fn := fun _ => fun
  | [d1, d2] => { results := [.lit (.bool false)], args := [d1, d2] }
  | _ => none }
def FnExactNoNoughtWrongFalsely : Prop := fnExactNoNoughtRow.holds Try.pinned (OpenSpec.ofChange fnExactNoNoughtWrong)

/- THE SECOND FORM. 'bulk': how many values and letters a reading holds, each counted each time it is reached (what is shared counts as often as it is met; a slice's spare places count too). A statement '..UptoSaid' is the law's where the arguments, and the package variables that the reading takes, are together of bulk at most 1048576: NARROWER than '..Said'. Prove '..Said' where nothing that the law and all that it calls make is longer than what came in: it says more and counts as full. Else prove '..UptoSaid'. A law counts once. -/
mutual
def uptoBulk {H : Type} : DataW H → Nat
  | .lit (.string bytes) => bytes.length + 1
  | .lit _ => 1
  | .nil => 1
  | .ptr d => uptoBulk d + 1
  | .slice elems spare => uptoBulkAll elems + uptoBulkAll spare + 1
  | .agg parts => uptoBulkAll parts + 1
  | .iface _ d => uptoBulk d + 1
  | .map entries => uptoBulkEntries entries + 1
  | .held _ => 1
def uptoBulkAll {H : Type} : List (DataW H) → Nat
  | [] => 0
  | d :: r => uptoBulk d + uptoBulkAll r
def uptoBulkEntries {H : Type} : List (Lit × DataW H) → Nat
  | [] => 0
  | x :: r => uptoBulkEntry x + uptoBulkEntries r
def uptoBulkEntry {H : Type} : Lit × DataW H → Nat
  | (.string bytes, d) => bytes.length + uptoBulk d + 1
  | (_, d) => uptoBulk d + 1
 end
def uptoSmall : (H : Type) → List (DataW H) → Bool := fun _ ds => decide (uptoBulkAll ds ≤ 1048576)
def OpenSpec.upto (s : _root_.Go.ChangeSpec) : _root_.Go.OpenSpec := { _root_.Go.OpenSpec.ofChange s with cond := some uptoSmall }

/-- 'laws.FnDigitProduct', WHERE WHAT IT READS IS OF BULK AT MOST 1048576: true; the input reads as it did. -/
def fnDigitProductUptoRow : OpenClaim := { program := "ytmmafbncpeahlaa", sum := "743b94878ef4469270c29d36497b65887ff64043aa9bc61aedf428c9c79494ce", func := "loop.example/returningdigits/laws.FnDigitProduct", spec := "fnDigitProduct", unfollowed := true, recurses := true, apart := false, narrowed := true }
def FnDigitProductUptoSaid : Prop := fnDigitProductUptoRow.holds Try.pinned (OpenSpec.upto fnDigitProductSpec)

/-- 'laws.FnPersistsOf', WHERE WHAT IT READS IS OF BULK AT MOST 1048576: true; the input reads as it did. -/
def fnPersistsOfUptoRow : OpenClaim := { program := "ytmmafbncpeahlaa", sum := "743b94878ef4469270c29d36497b65887ff64043aa9bc61aedf428c9c79494ce", func := "loop.example/returningdigits/laws.FnPersistsOf", spec := "fnPersistsOf", unfollowed := true, recurses := true, apart := false, narrowed := true }
def FnPersistsOfUptoSaid : Prop := fnPersistsOfUptoRow.holds Try.pinned (OpenSpec.upto fnPersistsOfSpec)

/-- 'laws.FnLeastPersisting', WHERE WHAT IT READS IS OF BULK AT MOST 1048576: true; the input reads as it did. -/
def fnLeastPersistingUptoRow : OpenClaim := { program := "ytmmafbncpeahlaa", sum := "743b94878ef4469270c29d36497b65887ff64043aa9bc61aedf428c9c79494ce", func := "loop.example/returningdigits/laws.FnLeastPersisting", spec := "fnLeastPersisting", unfollowed := true, recurses := true, apart := false, narrowed := true }
def FnLeastPersistingUptoSaid : Prop := fnLeastPersistingUptoRow.holds Try.pinned (OpenSpec.upto fnLeastPersistingSpec)

/-- 'laws.FnNoNought', WHERE WHAT IT READS IS OF BULK AT MOST 1048576: true; the input reads as it did. -/
def fnNoNoughtUptoRow : OpenClaim := { program := "ytmmafbncpeahlaa", sum := "743b94878ef4469270c29d36497b65887ff64043aa9bc61aedf428c9c79494ce", func := "loop.example/returningdigits/laws.FnNoNought", spec := "fnNoNought", unfollowed := true, recurses := true, apart := false, narrowed := true }
def FnNoNoughtUptoSaid : Prop := fnNoNoughtUptoRow.holds Try.pinned (OpenSpec.upto fnNoNoughtSpec)

/-- 'laws.FnExactDigitProduct', WHERE WHAT IT READS IS OF BULK AT MOST 1048576: true; the input reads as it did. -/
def fnExactDigitProductUptoRow : OpenClaim := { program := "ytmmafbncpeahlaa", sum := "743b94878ef4469270c29d36497b65887ff64043aa9bc61aedf428c9c79494ce", func := "loop.example/returningdigits/laws.FnExactDigitProduct", spec := "fnExactDigitProduct", unfollowed := true, recurses := true, apart := false, narrowed := true }
def FnExactDigitProductUptoSaid : Prop := fnExactDigitProductUptoRow.holds Try.pinned (OpenSpec.upto fnExactDigitProductSpec)

/-- 'laws.FnExactPersistsOf', WHERE WHAT IT READS IS OF BULK AT MOST 1048576: true; the input reads as it did. -/
def fnExactPersistsOfUptoRow : OpenClaim := { program := "ytmmafbncpeahlaa", sum := "743b94878ef4469270c29d36497b65887ff64043aa9bc61aedf428c9c79494ce", func := "loop.example/returningdigits/laws.FnExactPersistsOf", spec := "fnExactPersistsOf", unfollowed := true, recurses := true, apart := false, narrowed := true }
def FnExactPersistsOfUptoSaid : Prop := fnExactPersistsOfUptoRow.holds Try.pinned (OpenSpec.upto fnExactPersistsOfSpec)

/-- 'laws.FnExactLeastPersisting', WHERE WHAT IT READS IS OF BULK AT MOST 1048576: true; the input reads as it did. -/
def fnExactLeastPersistingUptoRow : OpenClaim := { program := "ytmmafbncpeahlaa", sum := "743b94878ef4469270c29d36497b65887ff64043aa9bc61aedf428c9c79494ce", func := "loop.example/returningdigits/laws.FnExactLeastPersisting", spec := "fnExactLeastPersisting", unfollowed := true, recurses := true, apart := false, narrowed := true }
def FnExactLeastPersistingUptoSaid : Prop := fnExactLeastPersistingUptoRow.holds Try.pinned (OpenSpec.upto fnExactLeastPersistingSpec)

/-- 'laws.FnExactNoNought', WHERE WHAT IT READS IS OF BULK AT MOST 1048576: true; the input reads as it did. -/
def fnExactNoNoughtUptoRow : OpenClaim := { program := "ytmmafbncpeahlaa", sum := "743b94878ef4469270c29d36497b65887ff64043aa9bc61aedf428c9c79494ce", func := "loop.example/returningdigits/laws.FnExactNoNought", spec := "fnExactNoNought", unfollowed := true, recurses := true, apart := false, narrowed := true }
def FnExactNoNoughtUptoSaid : Prop := fnExactNoNoughtUptoRow.holds Try.pinned (OpenSpec.upto fnExactNoNoughtSpec)

end Rows
end Go.Proofs.Ytmmafbncpeahlaa
