/-
  No cell of these rows narrows 'for every input' (looked for: loops, veiled, ifaces, maps, wideKeys, modest, calm, conditions, laid).
  DERIVED. THE GIVEN ROWS OF THIS SEAT. 12 by the template 'for every input the law returns true; each argument reads behind the call as it read before'; 0 by the template 'total and deterministic' (their statements: YtalcmadoledfnaaTotals.lean).
  GIVEN WITH THE SEED: the statements are not yours to turn. If you find one false, say at which input.
  Laid BY PROGRAM, IN A SANDBOX (cutbox-rows.mjs): the forced cells as the released guide's own fill.sh prints them over the translation 0d2939d7690275bb… (all of the seat's roots in one cut). By AI agents, Wed Nov 11 2026. No macro, syntax, notation, axiom, sorry.
-/
import Derived.Test.YtalcmadoledfnaaChecked
import GoSem.Claim
import GoSem.ClaimJoined
import GoSem.ClaimMapViews
import Derived.JoinedTies
import Derived.KernelRfl
namespace Go.Proofs.Ytalcmadoledfnaa
/- THE CELL 'sum', in the pinned program and in every row, IS THE sha256 OF THE DUMP (.gsa) THAT YtalcmadoledfnaaProg.lean LOADS. Nothing in Lean hashes anything: it is a label: what it is worth is what the hold of that sum in a sandbox is worth. -/
noncomputable def Try.pinned : Pinned := { name := "ytalcmadoledfnaa", sum := "0d2939d7690275bb2d4ed9fb9cd688d021092199820ea1426f183926b8f257c2", checked := Try.checked }
namespace Rows
def none {H : Type} : Left H := { results := [], args := [] }

/-- 'laws.FnBaseOk': WHATEVER THE INPUT: true; the input reads as it did. -/
def fnBaseOkSpec : ChangeSpec := { name := "fnBaseOk", fn := fun _ => fun
  | [d] => { results := [.lit (.bool true)], args := [d] }
  | _ => none }
def fnBaseOkRow : OpenClaim := { program := "ytalcmadoledfnaa", sum := "0d2939d7690275bb2d4ed9fb9cd688d021092199820ea1426f183926b8f257c2", func := "loop.example/returningdigits/laws.FnBaseOk", spec := "fnBaseOk", apart := false }
def FnBaseOkSaid : Prop := fnBaseOkRow.holds Try.pinned (OpenSpec.ofChange fnBaseOkSpec)

/-- ITS FALSE NEIGHBOUR: 'it returns false'. Refute it at one input. -/
def fnBaseOkWrong : ChangeSpec := { name := "fnBaseOk", fn := fun _ => fun
  | [d] => { results := [.lit (.bool false)], args := [d] }
  | _ => none }
def FnBaseOkWrongFalsely : Prop := fnBaseOkRow.holds Try.pinned (OpenSpec.ofChange fnBaseOkWrong)

/-- 'laws.FnDigitsOf': WHATEVER THE INPUT: true; the input reads as it did. -/
def fnDigitsOfSpec : ChangeSpec := { name := "fnDigitsOf", fn := fun _ => fun
  | [d] => { results := [.lit (.bool true)], args := [d] }
  | _ => none }
def fnDigitsOfRow : OpenClaim := { program := "ytalcmadoledfnaa", sum := "0d2939d7690275bb2d4ed9fb9cd688d021092199820ea1426f183926b8f257c2", func := "loop.example/returningdigits/laws.FnDigitsOf", spec := "fnDigitsOf", unfollowed := true, recurses := true, apart := false }
def FnDigitsOfSaid : Prop := fnDigitsOfRow.holds Try.pinned (OpenSpec.ofChange fnDigitsOfSpec)

/-- ITS FALSE NEIGHBOUR: 'it returns false'. Refute it at one input. -/
def fnDigitsOfWrong : ChangeSpec := { name := "fnDigitsOf", fn := fun _ => fun
  | [d] => { results := [.lit (.bool false)], args := [d] }
  | _ => none }
def FnDigitsOfWrongFalsely : Prop := fnDigitsOfRow.holds Try.pinned (OpenSpec.ofChange fnDigitsOfWrong)

/-- 'laws.FnWholeOf': WHATEVER THE INPUT: true; the input reads as it did. -/
def fnWholeOfSpec : ChangeSpec := { name := "fnWholeOf", fn := fun _ => fun
  | [d] => { results := [.lit (.bool true)], args := [d] }
  | _ => none }
def fnWholeOfRow : OpenClaim := { program := "ytalcmadoledfnaa", sum := "0d2939d7690275bb2d4ed9fb9cd688d021092199820ea1426f183926b8f257c2", func := "loop.example/returningdigits/laws.FnWholeOf", spec := "fnWholeOf", unfollowed := true, recurses := true, apart := false }
def FnWholeOfSaid : Prop := fnWholeOfRow.holds Try.pinned (OpenSpec.ofChange fnWholeOfSpec)

/-- ITS FALSE NEIGHBOUR: 'it returns false'. Refute it at one input. -/
def fnWholeOfWrong : ChangeSpec := { name := "fnWholeOf", fn := fun _ => fun
  | [d] => { results := [.lit (.bool false)], args := [d] }
  | _ => none }
def FnWholeOfWrongFalsely : Prop := fnWholeOfRow.holds Try.pinned (OpenSpec.ofChange fnWholeOfWrong)

/-- 'laws.FnLongOf': WHATEVER THE INPUT: true; the input reads as it did. -/
def fnLongOfSpec : ChangeSpec := { name := "fnLongOf", fn := fun _ => fun
  | [d] => { results := [.lit (.bool true)], args := [d] }
  | _ => none }
def fnLongOfRow : OpenClaim := { program := "ytalcmadoledfnaa", sum := "0d2939d7690275bb2d4ed9fb9cd688d021092199820ea1426f183926b8f257c2", func := "loop.example/returningdigits/laws.FnLongOf", spec := "fnLongOf", unfollowed := true, recurses := true, apart := false }
def FnLongOfSaid : Prop := fnLongOfRow.holds Try.pinned (OpenSpec.ofChange fnLongOfSpec)

/-- ITS FALSE NEIGHBOUR: 'it returns false'. Refute it at one input. -/
def fnLongOfWrong : ChangeSpec := { name := "fnLongOf", fn := fun _ => fun
  | [d] => { results := [.lit (.bool false)], args := [d] }
  | _ => none }
def FnLongOfWrongFalsely : Prop := fnLongOfRow.holds Try.pinned (OpenSpec.ofChange fnLongOfWrong)

/-- 'laws.FnBehindOf': WHATEVER THE INPUT: true; the input reads as it did. -/
def fnBehindOfSpec : ChangeSpec := { name := "fnBehindOf", fn := fun _ => fun
  | [d] => { results := [.lit (.bool true)], args := [d] }
  | _ => none }
def fnBehindOfRow : OpenClaim := { program := "ytalcmadoledfnaa", sum := "0d2939d7690275bb2d4ed9fb9cd688d021092199820ea1426f183926b8f257c2", func := "loop.example/returningdigits/laws.FnBehindOf", spec := "fnBehindOf", unfollowed := true, recurses := true, apart := false }
def FnBehindOfSaid : Prop := fnBehindOfRow.holds Try.pinned (OpenSpec.ofChange fnBehindOfSpec)

/-- ITS FALSE NEIGHBOUR: 'it returns false'. Refute it at one input. -/
def fnBehindOfWrong : ChangeSpec := { name := "fnBehindOf", fn := fun _ => fun
  | [d] => { results := [.lit (.bool false)], args := [d] }
  | _ => none }
def FnBehindOfWrongFalsely : Prop := fnBehindOfRow.holds Try.pinned (OpenSpec.ofChange fnBehindOfWrong)

/-- 'laws.FnSumOf': WHATEVER THE INPUT: true; the input reads as it did. -/
def fnSumOfSpec : ChangeSpec := { name := "fnSumOf", fn := fun _ => fun
  | [d] => { results := [.lit (.bool true)], args := [d] }
  | _ => none }
def fnSumOfRow : OpenClaim := { program := "ytalcmadoledfnaa", sum := "0d2939d7690275bb2d4ed9fb9cd688d021092199820ea1426f183926b8f257c2", func := "loop.example/returningdigits/laws.FnSumOf", spec := "fnSumOf", unfollowed := true, recurses := true, apart := false }
def FnSumOfSaid : Prop := fnSumOfRow.holds Try.pinned (OpenSpec.ofChange fnSumOfSpec)

/-- ITS FALSE NEIGHBOUR: 'it returns false'. Refute it at one input. -/
def fnSumOfWrong : ChangeSpec := { name := "fnSumOf", fn := fun _ => fun
  | [d] => { results := [.lit (.bool false)], args := [d] }
  | _ => none }
def FnSumOfWrongFalsely : Prop := fnSumOfRow.holds Try.pinned (OpenSpec.ofChange fnSumOfWrong)

/-- 'laws.FnExactBaseOk': WHATEVER THE INPUT: true; the input reads as it did. -/
def fnExactBaseOkSpec : ChangeSpec := { name := "fnExactBaseOk", fn := fun _ => fun
  | [d] => { results := [.lit (.bool true)], args := [d] }
  | _ => none }
def fnExactBaseOkRow : OpenClaim := { program := "ytalcmadoledfnaa", sum := "0d2939d7690275bb2d4ed9fb9cd688d021092199820ea1426f183926b8f257c2", func := "loop.example/returningdigits/laws.FnExactBaseOk", spec := "fnExactBaseOk", apart := false }
def FnExactBaseOkSaid : Prop := fnExactBaseOkRow.holds Try.pinned (OpenSpec.ofChange fnExactBaseOkSpec)

/-- ITS FALSE NEIGHBOUR: 'it returns false'. Refute it at one input. -/
def fnExactBaseOkWrong : ChangeSpec := { name := "fnExactBaseOk", fn := fun _ => fun
  | [d] => { results := [.lit (.bool false)], args := [d] }
  | _ => none }
def FnExactBaseOkWrongFalsely : Prop := fnExactBaseOkRow.holds Try.pinned (OpenSpec.ofChange fnExactBaseOkWrong)

/-- 'laws.FnExactDigitsOf': WHATEVER THE INPUT: true; the input reads as it did. -/
def fnExactDigitsOfSpec : ChangeSpec := { name := "fnExactDigitsOf", fn := fun _ => fun
  | [d1, d2] => { results := [.lit (.bool true)], args := [d1, d2] }
  | _ => none }
def fnExactDigitsOfRow : OpenClaim := { program := "ytalcmadoledfnaa", sum := "0d2939d7690275bb2d4ed9fb9cd688d021092199820ea1426f183926b8f257c2", func := "loop.example/returningdigits/laws.FnExactDigitsOf", spec := "fnExactDigitsOf", unfollowed := true, recurses := true, apart := false }
def FnExactDigitsOfSaid : Prop := fnExactDigitsOfRow.holds Try.pinned (OpenSpec.ofChange fnExactDigitsOfSpec)

/-- ITS FALSE NEIGHBOUR: 'it returns false'. Refute it at one input. -/
def fnExactDigitsOfWrong : ChangeSpec := { name := "fnExactDigitsOf", fn := fun _ => fun
  | [d1, d2] => { results := [.lit (.bool false)], args := [d1, d2] }
  | _ => none }
def FnExactDigitsOfWrongFalsely : Prop := fnExactDigitsOfRow.holds Try.pinned (OpenSpec.ofChange fnExactDigitsOfWrong)

/-- 'laws.FnExactWholeOf': WHATEVER THE INPUT: true; the input reads as it did. -/
def fnExactWholeOfSpec : ChangeSpec := { name := "fnExactWholeOf", fn := fun _ => fun
  | [d1, d2] => { results := [.lit (.bool true)], args := [d1, d2] }
  | _ => none }
def fnExactWholeOfRow : OpenClaim := { program := "ytalcmadoledfnaa", sum := "0d2939d7690275bb2d4ed9fb9cd688d021092199820ea1426f183926b8f257c2", func := "loop.example/returningdigits/laws.FnExactWholeOf", spec := "fnExactWholeOf", apart := false }
def FnExactWholeOfSaid : Prop := fnExactWholeOfRow.holds Try.pinned (OpenSpec.ofChange fnExactWholeOfSpec)

/-- ITS FALSE NEIGHBOUR: 'it returns false'. Refute it at one input. -/
def fnExactWholeOfWrong : ChangeSpec := { name := "fnExactWholeOf", fn := fun _ => fun
  | [d1, d2] => { results := [.lit (.bool false)], args := [d1, d2] }
  | _ => none }
def FnExactWholeOfWrongFalsely : Prop := fnExactWholeOfRow.holds Try.pinned (OpenSpec.ofChange fnExactWholeOfWrong)

/-- 'laws.FnExactLongOf': WHATEVER THE INPUT: true; the input reads as it did. -/
def fnExactLongOfSpec : ChangeSpec := { name := "fnExactLongOf", fn := fun _ => fun
  | [d1, d2] => { results := [.lit (.bool true)], args := [d1, d2] }
  | _ => none }
def fnExactLongOfRow : OpenClaim := { program := "ytalcmadoledfnaa", sum := "0d2939d7690275bb2d4ed9fb9cd688d021092199820ea1426f183926b8f257c2", func := "loop.example/returningdigits/laws.FnExactLongOf", spec := "fnExactLongOf", unfollowed := true, recurses := true, apart := false }
def FnExactLongOfSaid : Prop := fnExactLongOfRow.holds Try.pinned (OpenSpec.ofChange fnExactLongOfSpec)

/-- ITS FALSE NEIGHBOUR: 'it returns false'. Refute it at one input. -/
def fnExactLongOfWrong : ChangeSpec := { name := "fnExactLongOf", fn := fun _ => fun
  | [d1, d2] => { results := [.lit (.bool false)], args := [d1, d2] }
  | _ => none }
def FnExactLongOfWrongFalsely : Prop := fnExactLongOfRow.holds Try.pinned (OpenSpec.ofChange fnExactLongOfWrong)

/-- 'laws.FnExactBehindOf': WHATEVER THE INPUT: true; the input reads as it did. -/
def fnExactBehindOfSpec : ChangeSpec := { name := "fnExactBehindOf", fn := fun _ => fun
  | [d1, d2, d3] => { results := [.lit (.bool true)], args := [d1, d2, d3] }
  | _ => none }
def fnExactBehindOfRow : OpenClaim := { program := "ytalcmadoledfnaa", sum := "0d2939d7690275bb2d4ed9fb9cd688d021092199820ea1426f183926b8f257c2", func := "loop.example/returningdigits/laws.FnExactBehindOf", spec := "fnExactBehindOf", unfollowed := true, recurses := true, apart := false }
def FnExactBehindOfSaid : Prop := fnExactBehindOfRow.holds Try.pinned (OpenSpec.ofChange fnExactBehindOfSpec)

/-- ITS FALSE NEIGHBOUR: 'it returns false'. Refute it at one input. -/
def fnExactBehindOfWrong : ChangeSpec := { name := "fnExactBehindOf", fn := fun _ => fun
  | [d1, d2, d3] => { results := [.lit (.bool false)], args := [d1, d2, d3] }
  | _ => none }
def FnExactBehindOfWrongFalsely : Prop := fnExactBehindOfRow.holds Try.pinned (OpenSpec.ofChange fnExactBehindOfWrong)

/-- 'laws.FnExactSumOf': WHATEVER THE INPUT: true; the input reads as it did. -/
def fnExactSumOfSpec : ChangeSpec := { name := "fnExactSumOf", fn := fun _ => fun
  | [d1, d2] => { results := [.lit (.bool true)], args := [d1, d2] }
  | _ => none }
def fnExactSumOfRow : OpenClaim := { program := "ytalcmadoledfnaa", sum := "0d2939d7690275bb2d4ed9fb9cd688d021092199820ea1426f183926b8f257c2", func := "loop.example/returningdigits/laws.FnExactSumOf", spec := "fnExactSumOf", unfollowed := true, recurses := true, apart := false }
def FnExactSumOfSaid : Prop := fnExactSumOfRow.holds Try.pinned (OpenSpec.ofChange fnExactSumOfSpec)

/-- ITS FALSE NEIGHBOUR: 'it returns false'. Refute it at one input. -/
def fnExactSumOfWrong : ChangeSpec := { name := "fnExactSumOf", fn := fun _ => fun
  | [d1, d2] => { results := [.lit (.bool false)], args := [d1, d2] }
  | _ => none }
def FnExactSumOfWrongFalsely : Prop := fnExactSumOfRow.holds Try.pinned (OpenSpec.ofChange fnExactSumOfWrong)

/- THE SECOND FORM. 'bulk': how many values and letters a reading holds, each counted each time it is reached (what is shared counts as often as it is met; a slice's spare places count too). A statement '..UptoSaid' is the law's where the arguments, and the package variables that the reading takes, are together of bulk at most 1048576: NARROWER than '..Said'. Prove '..Said' where nothing that the law and all that it calls make is longer than what came in: it says more and counts as full. Else prove '..UptoSaid'. A law counts once. -/
mutual
def uptoBulk {H : Type} : DataW H → Nat
  | .lit (.string bytes) => bytes.length + 1
  | .lit _ => 1
  | .nil => 1
  | .ptr d => uptoBulk d + 1
  | .slice elems spare => uptoBulkAll elems + uptoBulkAll spare + 1
  | .agg parts => uptoBulkAll parts + 1
  | .iface _ d => uptoBulk d + 1
  | .map entries => uptoBulkEntries entries + 1
  | .held _ => 1
def uptoBulkAll {H : Type} : List (DataW H) → Nat
  | [] => 0
  | d :: r => uptoBulk d + uptoBulkAll r
def uptoBulkEntries {H : Type} : List (Lit × DataW H) → Nat
  | [] => 0
  | x :: r => uptoBulkEntry x + uptoBulkEntries r
def uptoBulkEntry {H : Type} : Lit × DataW H → Nat
  | (.string bytes, d) => bytes.length + uptoBulk d + 1
  | (_, d) => uptoBulk d + 1
 end
def uptoSmall : (H : Type) → List (DataW H) → Bool := fun _ ds => decide (uptoBulkAll ds ≤ 1048576)
def OpenSpec.upto (s : _root_.Go.ChangeSpec) : _root_.Go.OpenSpec := { _root_.Go.OpenSpec.ofChange s with cond := some uptoSmall }

/-- 'laws.FnBaseOk', WHERE WHAT IT READS IS OF BULK AT MOST 1048576: true; the input reads as it did. -/
def fnBaseOkUptoRow : OpenClaim := { program := "ytalcmadoledfnaa", sum := "0d2939d7690275bb2d4ed9fb9cd688d021092199820ea1426f183926b8f257c2", func := "loop.example/returningdigits/laws.FnBaseOk", spec := "fnBaseOk", apart := false, narrowed := true }
def FnBaseOkUptoSaid : Prop := fnBaseOkUptoRow.holds Try.pinned (OpenSpec.upto fnBaseOkSpec)

/-- 'laws.FnDigitsOf', WHERE WHAT IT READS IS OF BULK AT MOST 1048576: true; the input reads as it did. -/
def fnDigitsOfUptoRow : OpenClaim := { program := "ytalcmadoledfnaa", sum := "0d2939d7690275bb2d4ed9fb9cd688d021092199820ea1426f183926b8f257c2", func := "loop.example/returningdigits/laws.FnDigitsOf", spec := "fnDigitsOf", unfollowed := true, recurses := true, apart := false, narrowed := true }
def FnDigitsOfUptoSaid : Prop := fnDigitsOfUptoRow.holds Try.pinned (OpenSpec.upto fnDigitsOfSpec)

/-- 'laws.FnWholeOf', WHERE WHAT IT READS IS OF BULK AT MOST 1048576: true; the input reads as it did. -/
def fnWholeOfUptoRow : OpenClaim := { program := "ytalcmadoledfnaa", sum := "0d2939d7690275bb2d4ed9fb9cd688d021092199820ea1426f183926b8f257c2", func := "loop.example/returningdigits/laws.FnWholeOf", spec := "fnWholeOf", unfollowed := true, recurses := true, apart := false, narrowed := true }
def FnWholeOfUptoSaid : Prop := fnWholeOfUptoRow.holds Try.pinned (OpenSpec.upto fnWholeOfSpec)

/-- 'laws.FnLongOf', WHERE WHAT IT READS IS OF BULK AT MOST 1048576: true; the input reads as it did. -/
def fnLongOfUptoRow : OpenClaim := { program := "ytalcmadoledfnaa", sum := "0d2939d7690275bb2d4ed9fb9cd688d021092199820ea1426f183926b8f257c2", func := "loop.example/returningdigits/laws.FnLongOf", spec := "fnLongOf", unfollowed := true, recurses := true, apart := false, narrowed := true }
def FnLongOfUptoSaid : Prop := fnLongOfUptoRow.holds Try.pinned (OpenSpec.upto fnLongOfSpec)

/-- 'laws.FnBehindOf', WHERE WHAT IT READS IS OF BULK AT MOST 1048576: true; the input reads as it did. -/
def fnBehindOfUptoRow : OpenClaim := { program := "ytalcmadoledfnaa", sum := "0d2939d7690275bb2d4ed9fb9cd688d021092199820ea1426f183926b8f257c2", func := "loop.example/returningdigits/laws.FnBehindOf", spec := "fnBehindOf", unfollowed := true, recurses := true, apart := false, narrowed := true }
def FnBehindOfUptoSaid : Prop := fnBehindOfUptoRow.holds Try.pinned (OpenSpec.upto fnBehindOfSpec)

/-- 'laws.FnSumOf', WHERE WHAT IT READS IS OF BULK AT MOST 1048576: true; the input reads as it did. -/
def fnSumOfUptoRow : OpenClaim := { program := "ytalcmadoledfnaa", sum := "0d2939d7690275bb2d4ed9fb9cd688d021092199820ea1426f183926b8f257c2", func := "loop.example/returningdigits/laws.FnSumOf", spec := "fnSumOf", unfollowed := true, recurses := true, apart := false, narrowed := true }
def FnSumOfUptoSaid : Prop := fnSumOfUptoRow.holds Try.pinned (OpenSpec.upto fnSumOfSpec)

/-- 'laws.FnExactBaseOk', WHERE WHAT IT READS IS OF BULK AT MOST 1048576: true; the input reads as it did. -/
def fnExactBaseOkUptoRow : OpenClaim := { program := "ytalcmadoledfnaa", sum := "0d2939d7690275bb2d4ed9fb9cd688d021092199820ea1426f183926b8f257c2", func := "loop.example/returningdigits/laws.FnExactBaseOk", spec := "fnExactBaseOk", apart := false, narrowed := true }
def FnExactBaseOkUptoSaid : Prop := fnExactBaseOkUptoRow.holds Try.pinned (OpenSpec.upto fnExactBaseOkSpec)

/-- 'laws.FnExactDigitsOf', WHERE WHAT IT READS IS OF BULK AT MOST 1048576: true; the input reads as it did. -/
def fnExactDigitsOfUptoRow : OpenClaim := { program := "ytalcmadoledfnaa", sum := "0d2939d7690275bb2d4ed9fb9cd688d021092199820ea1426f183926b8f257c2", func := "loop.example/returningdigits/laws.FnExactDigitsOf", spec := "fnExactDigitsOf", unfollowed := true, recurses := true, apart := false, narrowed := true }
def FnExactDigitsOfUptoSaid : Prop := fnExactDigitsOfUptoRow.holds Try.pinned (OpenSpec.upto fnExactDigitsOfSpec)

/-- 'laws.FnExactWholeOf', WHERE WHAT IT READS IS OF BULK AT MOST 1048576: true; the input reads as it did. -/
def fnExactWholeOfUptoRow : OpenClaim := { program := "ytalcmadoledfnaa", sum := "0d2939d7690275bb2d4ed9fb9cd688d021092199820ea1426f183926b8f257c2", func := "loop.example/returningdigits/laws.FnExactWholeOf", spec := "fnExactWholeOf", apart := false, narrowed := true }
def FnExactWholeOfUptoSaid : Prop := fnExactWholeOfUptoRow.holds Try.pinned (OpenSpec.upto fnExactWholeOfSpec)

/-- 'laws.FnExactLongOf', WHERE WHAT IT READS IS OF BULK AT MOST 1048576: true; the input reads as it did. -/
def fnExactLongOfUptoRow : OpenClaim := { program := "ytalcmadoledfnaa", sum := "0d2939d7690275bb2d4ed9fb9cd688d021092199820ea1426f183926b8f257c2", func := "loop.example/returningdigits/laws.FnExactLongOf", spec := "fnExactLongOf", unfollowed := true, recurses := true, apart := false, narrowed := true }
def FnExactLongOfUptoSaid : Prop := fnExactLongOfUptoRow.holds Try.pinned (OpenSpec.upto fnExactLongOfSpec)

/-- 'laws.FnExactBehindOf', WHERE WHAT IT READS IS OF BULK AT MOST 1048576: true; the input reads as it did. -/
def fnExactBehindOfUptoRow : OpenClaim := { program := "ytalcmadoledfnaa", sum := "0d2939d7690275bb2d4ed9fb9cd688d021092199820ea1426f183926b8f257c2", func := "loop.example/returningdigits/laws.FnExactBehindOf", spec := "fnExactBehindOf", unfollowed := true, recurses := true, apart := false, narrowed := true }
def FnExactBehindOfUptoSaid : Prop := fnExactBehindOfUptoRow.holds Try.pinned (OpenSpec.upto fnExactBehindOfSpec)

/-- 'laws.FnExactSumOf', WHERE WHAT IT READS IS OF BULK AT MOST 1048576: true; the input reads as it did. -/
def fnExactSumOfUptoRow : OpenClaim := { program := "ytalcmadoledfnaa", sum := "0d2939d7690275bb2d4ed9fb9cd688d021092199820ea1426f183926b8f257c2", func := "loop.example/returningdigits/laws.FnExactSumOf", spec := "fnExactSumOf", unfollowed := true, recurses := true, apart := false, narrowed := true }
def FnExactSumOfUptoSaid : Prop := fnExactSumOfUptoRow.holds Try.pinned (OpenSpec.upto fnExactSumOfSpec)

end Rows
end Go.Proofs.Ytalcmadoledfnaa
