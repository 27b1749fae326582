/-
  No cell of these rows narrows 'for every input' (looked for: loops, veiled, ifaces, maps, wideKeys, modest, calm, conditions, laid).
  DERIVED. THE GIVEN ROWS OF THIS SEAT. 12 by the template 'for every input the law returns true; each argument reads behind the call as it read before'; 0 by the template 'total and deterministic' (their statements: YtaocefdannjlhaaTotals.lean).
  GIVEN WITH THE SEED: the statements are not yours to turn. If you find one false, say at which input.
  Laid BY PROGRAM, IN A SANDBOX (cutbox-rows.mjs): the forced cells as the released guide's own fill.sh prints them over the translation e656a24d85f2638f… (all of the seat's roots in one cut). By AI agents, Wed Nov 11 2026. No macro, syntax, notation, axiom, sorry.
-/
import Derived.Test.YtaocefdannjlhaaChecked
import GoSem.Claim
import GoSem.ClaimJoined
import GoSem.ClaimMapViews
import Derived.JoinedTies
import Derived.KernelRfl
namespace Go.Proofs.Ytaocefdannjlhaa
/- THE CELL 'sum', in the pinned program and in every row, IS THE sha256 OF THE DUMP (.gsa) THAT YtaocefdannjlhaaProg.lean LOADS. Nothing in Lean hashes anything: it is a label: what it is worth is what the hold of that sum in a sandbox is worth. -/
noncomputable def Try.pinned : Pinned := { name := "ytaocefdannjlhaa", sum := "e656a24d85f2638f8bfd90fea0f7b1f0ec6a83508df3336e2f307a3ebe2e14b0", checked := Try.checked }
namespace Rows
def none {H : Type} : Left H := { results := [], args := [] }

/-- 'laws.FnTurnedOf': WHATEVER THE INPUT: true; the input reads as it did. -/
def fnTurnedOfSpec : ChangeSpec := { name := "fnTurnedOf", fn := fun _ => fun
  | [d] => { results := [.lit (.bool true)], args := [d] }
  | _ => none }
def fnTurnedOfRow : OpenClaim := { program := "ytaocefdannjlhaa", sum := "e656a24d85f2638f8bfd90fea0f7b1f0ec6a83508df3336e2f307a3ebe2e14b0", func := "loop.example/returningdigits/laws.FnTurnedOf", spec := "fnTurnedOf", unfollowed := true, recurses := true, apart := false }
def FnTurnedOfSaid : Prop := fnTurnedOfRow.holds Try.pinned (OpenSpec.ofChange fnTurnedOfSpec)

/-- ITS FALSE NEIGHBOUR: 'it returns false'. Refute it at one input. -/
def fnTurnedOfWrong : ChangeSpec := { name := "fnTurnedOf", fn := fun _ => fun
  | [d] => { results := [.lit (.bool false)], args := [d] }
  | _ => none }
def FnTurnedOfWrongFalsely : Prop := fnTurnedOfRow.holds Try.pinned (OpenSpec.ofChange fnTurnedOfWrong)

/-- 'laws.FnPalindromeOk': WHATEVER THE INPUT: true; the input reads as it did. -/
def fnPalindromeOkSpec : ChangeSpec := { name := "fnPalindromeOk", fn := fun _ => fun
  | [d] => { results := [.lit (.bool true)], args := [d] }
  | _ => none }
def fnPalindromeOkRow : OpenClaim := { program := "ytaocefdannjlhaa", sum := "e656a24d85f2638f8bfd90fea0f7b1f0ec6a83508df3336e2f307a3ebe2e14b0", func := "loop.example/returningdigits/laws.FnPalindromeOk", spec := "fnPalindromeOk", unfollowed := true, recurses := true, apart := false }
def FnPalindromeOkSaid : Prop := fnPalindromeOkRow.holds Try.pinned (OpenSpec.ofChange fnPalindromeOkSpec)

/-- ITS FALSE NEIGHBOUR: 'it returns false'. Refute it at one input. -/
def fnPalindromeOkWrong : ChangeSpec := { name := "fnPalindromeOk", fn := fun _ => fun
  | [d] => { results := [.lit (.bool false)], args := [d] }
  | _ => none }
def FnPalindromeOkWrongFalsely : Prop := fnPalindromeOkRow.holds Try.pinned (OpenSpec.ofChange fnPalindromeOkWrong)

/-- 'laws.FnCountPalindromes': WHATEVER THE INPUT: true; the input reads as it did. -/
def fnCountPalindromesSpec : ChangeSpec := { name := "fnCountPalindromes", fn := fun _ => fun
  | [d] => { results := [.lit (.bool true)], args := [d] }
  | _ => none }
def fnCountPalindromesRow : OpenClaim := { program := "ytaocefdannjlhaa", sum := "e656a24d85f2638f8bfd90fea0f7b1f0ec6a83508df3336e2f307a3ebe2e14b0", func := "loop.example/returningdigits/laws.FnCountPalindromes", spec := "fnCountPalindromes", unfollowed := true, recurses := true, apart := false }
def FnCountPalindromesSaid : Prop := fnCountPalindromesRow.holds Try.pinned (OpenSpec.ofChange fnCountPalindromesSpec)

/-- ITS FALSE NEIGHBOUR: 'it returns false'. Refute it at one input. -/
def fnCountPalindromesWrong : ChangeSpec := { name := "fnCountPalindromes", fn := fun _ => fun
  | [d] => { results := [.lit (.bool false)], args := [d] }
  | _ => none }
def FnCountPalindromesWrongFalsely : Prop := fnCountPalindromesRow.holds Try.pinned (OpenSpec.ofChange fnCountPalindromesWrong)

/-- 'laws.FnNextPalindrome': WHATEVER THE INPUT: true; the input reads as it did. -/
def fnNextPalindromeSpec : ChangeSpec := { name := "fnNextPalindrome", fn := fun _ => fun
  | [d] => { results := [.lit (.bool true)], args := [d] }
  | _ => none }
def fnNextPalindromeRow : OpenClaim := { program := "ytaocefdannjlhaa", sum := "e656a24d85f2638f8bfd90fea0f7b1f0ec6a83508df3336e2f307a3ebe2e14b0", func := "loop.example/returningdigits/laws.FnNextPalindrome", spec := "fnNextPalindrome", unfollowed := true, recurses := true, apart := false }
def FnNextPalindromeSaid : Prop := fnNextPalindromeRow.holds Try.pinned (OpenSpec.ofChange fnNextPalindromeSpec)

/-- ITS FALSE NEIGHBOUR: 'it returns false'. Refute it at one input. -/
def fnNextPalindromeWrong : ChangeSpec := { name := "fnNextPalindrome", fn := fun _ => fun
  | [d] => { results := [.lit (.bool false)], args := [d] }
  | _ => none }
def FnNextPalindromeWrongFalsely : Prop := fnNextPalindromeRow.holds Try.pinned (OpenSpec.ofChange fnNextPalindromeWrong)

/-- 'laws.FnAddedTurned': WHATEVER THE INPUT: true; the input reads as it did. -/
def fnAddedTurnedSpec : ChangeSpec := { name := "fnAddedTurned", fn := fun _ => fun
  | [d] => { results := [.lit (.bool true)], args := [d] }
  | _ => none }
def fnAddedTurnedRow : OpenClaim := { program := "ytaocefdannjlhaa", sum := "e656a24d85f2638f8bfd90fea0f7b1f0ec6a83508df3336e2f307a3ebe2e14b0", func := "loop.example/returningdigits/laws.FnAddedTurned", spec := "fnAddedTurned", unfollowed := true, recurses := true, apart := false }
def FnAddedTurnedSaid : Prop := fnAddedTurnedRow.holds Try.pinned (OpenSpec.ofChange fnAddedTurnedSpec)

/-- ITS FALSE NEIGHBOUR: 'it returns false'. Refute it at one input. -/
def fnAddedTurnedWrong : ChangeSpec := { name := "fnAddedTurned", fn := fun _ => fun
  | [d] => { results := [.lit (.bool false)], args := [d] }
  | _ => none }
def FnAddedTurnedWrongFalsely : Prop := fnAddedTurnedRow.holds Try.pinned (OpenSpec.ofChange fnAddedTurnedWrong)

/-- 'laws.FnStepsToPalindrome': WHATEVER THE INPUT: true; the input reads as it did. -/
def fnStepsToPalindromeSpec : ChangeSpec := { name := "fnStepsToPalindrome", fn := fun _ => fun
  | [d] => { results := [.lit (.bool true)], args := [d] }
  | _ => none }
def fnStepsToPalindromeRow : OpenClaim := { program := "ytaocefdannjlhaa", sum := "e656a24d85f2638f8bfd90fea0f7b1f0ec6a83508df3336e2f307a3ebe2e14b0", func := "loop.example/returningdigits/laws.FnStepsToPalindrome", spec := "fnStepsToPalindrome", unfollowed := true, recurses := true, apart := false }
def FnStepsToPalindromeSaid : Prop := fnStepsToPalindromeRow.holds Try.pinned (OpenSpec.ofChange fnStepsToPalindromeSpec)

/-- ITS FALSE NEIGHBOUR: 'it returns false'. Refute it at one input. -/
def fnStepsToPalindromeWrong : ChangeSpec := { name := "fnStepsToPalindrome", fn := fun _ => fun
  | [d] => { results := [.lit (.bool false)], args := [d] }
  | _ => none }
def FnStepsToPalindromeWrongFalsely : Prop := fnStepsToPalindromeRow.holds Try.pinned (OpenSpec.ofChange fnStepsToPalindromeWrong)

/-- 'laws.FnExactTurnedOf': WHATEVER THE INPUT: true; the input reads as it did. -/
def fnExactTurnedOfSpec : ChangeSpec := { name := "fnExactTurnedOf", fn := fun _ => fun
  | [d1, d2] => { results := [.lit (.bool true)], args := [d1, d2] }
  | _ => none }
def fnExactTurnedOfRow : OpenClaim := { program := "ytaocefdannjlhaa", sum := "e656a24d85f2638f8bfd90fea0f7b1f0ec6a83508df3336e2f307a3ebe2e14b0", func := "loop.example/returningdigits/laws.FnExactTurnedOf", spec := "fnExactTurnedOf", unfollowed := true, recurses := true, apart := false }
def FnExactTurnedOfSaid : Prop := fnExactTurnedOfRow.holds Try.pinned (OpenSpec.ofChange fnExactTurnedOfSpec)

/-- ITS FALSE NEIGHBOUR: 'it returns false'. Refute it at one input. -/
def fnExactTurnedOfWrong : ChangeSpec := { name := "fnExactTurnedOf", fn := fun _ => fun
  | [d1, d2] => { results := [.lit (.bool false)], args := [d1, d2] }
  | _ => none }
def FnExactTurnedOfWrongFalsely : Prop := fnExactTurnedOfRow.holds Try.pinned (OpenSpec.ofChange fnExactTurnedOfWrong)

/-- 'laws.FnExactPalindromeOk': WHATEVER THE INPUT: true; the input reads as it did. -/
def fnExactPalindromeOkSpec : ChangeSpec := { name := "fnExactPalindromeOk", fn := fun _ => fun
  | [d1, d2] => { results := [.lit (.bool true)], args := [d1, d2] }
  | _ => none }
def fnExactPalindromeOkRow : OpenClaim := { program := "ytaocefdannjlhaa", sum := "e656a24d85f2638f8bfd90fea0f7b1f0ec6a83508df3336e2f307a3ebe2e14b0", func := "loop.example/returningdigits/laws.FnExactPalindromeOk", spec := "fnExactPalindromeOk", unfollowed := true, recurses := true, apart := false }
def FnExactPalindromeOkSaid : Prop := fnExactPalindromeOkRow.holds Try.pinned (OpenSpec.ofChange fnExactPalindromeOkSpec)

/-- ITS FALSE NEIGHBOUR: 'it returns false'. Refute it at one input. -/
def fnExactPalindromeOkWrong : ChangeSpec := { name := "fnExactPalindromeOk", fn := fun _ => fun
  | [d1, d2] => { results := [.lit (.bool false)], args := [d1, d2] }
  | _ => none }
def FnExactPalindromeOkWrongFalsely : Prop := fnExactPalindromeOkRow.holds Try.pinned (OpenSpec.ofChange fnExactPalindromeOkWrong)

/-- 'laws.FnExactCountPalindromes': WHATEVER THE INPUT: true; the input reads as it did. -/
def fnExactCountPalindromesSpec : ChangeSpec := { name := "fnExactCountPalindromes", fn := fun _ => fun
  | [d1, d2] => { results := [.lit (.bool true)], args := [d1, d2] }
  | _ => none }
def fnExactCountPalindromesRow : OpenClaim := { program := "ytaocefdannjlhaa", sum := "e656a24d85f2638f8bfd90fea0f7b1f0ec6a83508df3336e2f307a3ebe2e14b0", func := "loop.example/returningdigits/laws.FnExactCountPalindromes", spec := "fnExactCountPalindromes", apart := false }
def FnExactCountPalindromesSaid : Prop := fnExactCountPalindromesRow.holds Try.pinned (OpenSpec.ofChange fnExactCountPalindromesSpec)

/-- ITS FALSE NEIGHBOUR: 'it returns false'. Refute it at one input. -/
def fnExactCountPalindromesWrong : ChangeSpec := { name := "fnExactCountPalindromes", fn := fun _ => fun
  | [d1, d2] => { results := [.lit (.bool false)], args := [d1, d2] }
  | _ => none }
def FnExactCountPalindromesWrongFalsely : Prop := fnExactCountPalindromesRow.holds Try.pinned (OpenSpec.ofChange fnExactCountPalindromesWrong)

/-- 'laws.FnExactNextPalindrome': WHATEVER THE INPUT: true; the input reads as it did. -/
def fnExactNextPalindromeSpec : ChangeSpec := { name := "fnExactNextPalindrome", fn := fun _ => fun
  | [d1, d2] => { results := [.lit (.bool true)], args := [d1, d2] }
  | _ => none }
def fnExactNextPalindromeRow : OpenClaim := { program := "ytaocefdannjlhaa", sum := "e656a24d85f2638f8bfd90fea0f7b1f0ec6a83508df3336e2f307a3ebe2e14b0", func := "loop.example/returningdigits/laws.FnExactNextPalindrome", spec := "fnExactNextPalindrome", unfollowed := true, recurses := true, apart := false }
def FnExactNextPalindromeSaid : Prop := fnExactNextPalindromeRow.holds Try.pinned (OpenSpec.ofChange fnExactNextPalindromeSpec)

/-- ITS FALSE NEIGHBOUR: 'it returns false'. Refute it at one input. -/
def fnExactNextPalindromeWrong : ChangeSpec := { name := "fnExactNextPalindrome", fn := fun _ => fun
  | [d1, d2] => { results := [.lit (.bool false)], args := [d1, d2] }
  | _ => none }
def FnExactNextPalindromeWrongFalsely : Prop := fnExactNextPalindromeRow.holds Try.pinned (OpenSpec.ofChange fnExactNextPalindromeWrong)

/-- 'laws.FnExactAddedTurned': WHATEVER THE INPUT: true; the input reads as it did. -/
def fnExactAddedTurnedSpec : ChangeSpec := { name := "fnExactAddedTurned", fn := fun _ => fun
  | [d1, d2] => { results := [.lit (.bool true)], args := [d1, d2] }
  | _ => none }
def fnExactAddedTurnedRow : OpenClaim := { program := "ytaocefdannjlhaa", sum := "e656a24d85f2638f8bfd90fea0f7b1f0ec6a83508df3336e2f307a3ebe2e14b0", func := "loop.example/returningdigits/laws.FnExactAddedTurned", spec := "fnExactAddedTurned", unfollowed := true, recurses := true, apart := false }
def FnExactAddedTurnedSaid : Prop := fnExactAddedTurnedRow.holds Try.pinned (OpenSpec.ofChange fnExactAddedTurnedSpec)

/-- ITS FALSE NEIGHBOUR: 'it returns false'. Refute it at one input. -/
def fnExactAddedTurnedWrong : ChangeSpec := { name := "fnExactAddedTurned", fn := fun _ => fun
  | [d1, d2] => { results := [.lit (.bool false)], args := [d1, d2] }
  | _ => none }
def FnExactAddedTurnedWrongFalsely : Prop := fnExactAddedTurnedRow.holds Try.pinned (OpenSpec.ofChange fnExactAddedTurnedWrong)

/-- 'laws.FnExactStepsToPalindrome': WHATEVER THE INPUT: true; the input reads as it did. -/
def fnExactStepsToPalindromeSpec : ChangeSpec := { name := "fnExactStepsToPalindrome", fn := fun _ => fun
  | [d1, d2] => { results := [.lit (.bool true)], args := [d1, d2] }
  | _ => none }
def fnExactStepsToPalindromeRow : OpenClaim := { program := "ytaocefdannjlhaa", sum := "e656a24d85f2638f8bfd90fea0f7b1f0ec6a83508df3336e2f307a3ebe2e14b0", func := "loop.example/returningdigits/laws.FnExactStepsToPalindrome", spec := "fnExactStepsToPalindrome", unfollowed := true, recurses := true, apart := false }
def FnExactStepsToPalindromeSaid : Prop := fnExactStepsToPalindromeRow.holds Try.pinned (OpenSpec.ofChange fnExactStepsToPalindromeSpec)

/-- ITS FALSE NEIGHBOUR: 'it returns false'. Refute it at one input. -/
def fnExactStepsToPalindromeWrong : ChangeSpec := { name := "fnExactStepsToPalindrome", fn := fun _ => fun
  | [d1, d2] => { results := [.lit (.bool false)], args := [d1, d2] }
  | _ => none }
def FnExactStepsToPalindromeWrongFalsely : Prop := fnExactStepsToPalindromeRow.holds Try.pinned (OpenSpec.ofChange fnExactStepsToPalindromeWrong)

/- THE SECOND FORM. 'bulk': how many values and letters a reading holds, each counted each time it is reached (what is shared counts as often as it is met; a slice's spare places count too). A statement '..UptoSaid' is the law's where the arguments, and the package variables that the reading takes, are together of bulk at most 1048576: NARROWER than '..Said'. Prove '..Said' where nothing that the law and all that it calls make is longer than what came in: it says more and counts as full. Else prove '..UptoSaid'. A law counts once. -/
mutual
def uptoBulk {H : Type} : DataW H → Nat
  | .lit (.string bytes) => bytes.length + 1
  | .lit _ => 1
  | .nil => 1
  | .ptr d => uptoBulk d + 1
  | .slice elems spare => uptoBulkAll elems + uptoBulkAll spare + 1
  | .agg parts => uptoBulkAll parts + 1
  | .iface _ d => uptoBulk d + 1
  | .map entries => uptoBulkEntries entries + 1
  | .held _ => 1
def uptoBulkAll {H : Type} : List (DataW H) → Nat
  | [] => 0
  | d :: r => uptoBulk d + uptoBulkAll r
def uptoBulkEntries {H : Type} : List (Lit × DataW H) → Nat
  | [] => 0
  | x :: r => uptoBulkEntry x + uptoBulkEntries r
def uptoBulkEntry {H : Type} : Lit × DataW H → Nat
  | (.string bytes, d) => bytes.length + uptoBulk d + 1
  | (_, d) => uptoBulk d + 1
 end
def uptoSmall : (H : Type) → List (DataW H) → Bool := fun _ ds => decide (uptoBulkAll ds ≤ 1048576)
def OpenSpec.upto (s : _root_.Go.ChangeSpec) : _root_.Go.OpenSpec := { _root_.Go.OpenSpec.ofChange s with cond := some uptoSmall }

/-- 'laws.FnTurnedOf', WHERE WHAT IT READS IS OF BULK AT MOST 1048576: true; the input reads as it did. -/
def fnTurnedOfUptoRow : OpenClaim := { program := "ytaocefdannjlhaa", sum := "e656a24d85f2638f8bfd90fea0f7b1f0ec6a83508df3336e2f307a3ebe2e14b0", func := "loop.example/returningdigits/laws.FnTurnedOf", spec := "fnTurnedOf", unfollowed := true, recurses := true, apart := false, narrowed := true }
def FnTurnedOfUptoSaid : Prop := fnTurnedOfUptoRow.holds Try.pinned (OpenSpec.upto fnTurnedOfSpec)

/-- 'laws.FnPalindromeOk', WHERE WHAT IT READS IS OF BULK AT MOST 1048576: true; the input reads as it did. -/
def fnPalindromeOkUptoRow : OpenClaim := { program := "ytaocefdannjlhaa", sum := "e656a24d85f2638f8bfd90fea0f7b1f0ec6a83508df3336e2f307a3ebe2e14b0", func := "loop.example/returningdigits/laws.FnPalindromeOk", spec := "fnPalindromeOk", unfollowed := true, recurses := true, apart := false, narrowed := true }
def FnPalindromeOkUptoSaid : Prop := fnPalindromeOkUptoRow.holds Try.pinned (OpenSpec.upto fnPalindromeOkSpec)

/-- 'laws.FnCountPalindromes', WHERE WHAT IT READS IS OF BULK AT MOST 1048576: true; the input reads as it did. -/
def fnCountPalindromesUptoRow : OpenClaim := { program := "ytaocefdannjlhaa", sum := "e656a24d85f2638f8bfd90fea0f7b1f0ec6a83508df3336e2f307a3ebe2e14b0", func := "loop.example/returningdigits/laws.FnCountPalindromes", spec := "fnCountPalindromes", unfollowed := true, recurses := true, apart := false, narrowed := true }
def FnCountPalindromesUptoSaid : Prop := fnCountPalindromesUptoRow.holds Try.pinned (OpenSpec.upto fnCountPalindromesSpec)

/-- 'laws.FnNextPalindrome', WHERE WHAT IT READS IS OF BULK AT MOST 1048576: true; the input reads as it did. -/
def fnNextPalindromeUptoRow : OpenClaim := { program := "ytaocefdannjlhaa", sum := "e656a24d85f2638f8bfd90fea0f7b1f0ec6a83508df3336e2f307a3ebe2e14b0", func := "loop.example/returningdigits/laws.FnNextPalindrome", spec := "fnNextPalindrome", unfollowed := true, recurses := true, apart := false, narrowed := true }
def FnNextPalindromeUptoSaid : Prop := fnNextPalindromeUptoRow.holds Try.pinned (OpenSpec.upto fnNextPalindromeSpec)

/-- 'laws.FnAddedTurned', WHERE WHAT IT READS IS OF BULK AT MOST 1048576: true; the input reads as it did. -/
def fnAddedTurnedUptoRow : OpenClaim := { program := "ytaocefdannjlhaa", sum := "e656a24d85f2638f8bfd90fea0f7b1f0ec6a83508df3336e2f307a3ebe2e14b0", func := "loop.example/returningdigits/laws.FnAddedTurned", spec := "fnAddedTurned", unfollowed := true, recurses := true, apart := false, narrowed := true }
def FnAddedTurnedUptoSaid : Prop := fnAddedTurnedUptoRow.holds Try.pinned (OpenSpec.upto fnAddedTurnedSpec)

/-- 'laws.FnStepsToPalindrome', WHERE WHAT IT READS IS OF BULK AT MOST 1048576: true; the input reads as it did. -/
def fnStepsToPalindromeUptoRow : OpenClaim := { program := "ytaocefdannjlhaa", sum := "e656a24d85f2638f8bfd90fea0f7b1f0ec6a83508df3336e2f307a3ebe2e14b0", func := "loop.example/returningdigits/laws.FnStepsToPalindrome", spec := "fnStepsToPalindrome", unfollowed := true, recurses := true, apart := false, narrowed := true }
def FnStepsToPalindromeUptoSaid : Prop := fnStepsToPalindromeUptoRow.holds Try.pinned (OpenSpec.upto fnStepsToPalindromeSpec)

/-- 'laws.FnExactTurnedOf', WHERE WHAT IT READS IS OF BULK AT MOST 1048576: true; the input reads as it did. -/
def fnExactTurnedOfUptoRow : OpenClaim := { program := "ytaocefdannjlhaa", sum := "e656a24d85f2638f8bfd90fea0f7b1f0ec6a83508df3336e2f307a3ebe2e14b0", func := "loop.example/returningdigits/laws.FnExactTurnedOf", spec := "fnExactTurnedOf", unfollowed := true, recurses := true, apart := false, narrowed := true }
def FnExactTurnedOfUptoSaid : Prop := fnExactTurnedOfUptoRow.holds Try.pinned (OpenSpec.upto fnExactTurnedOfSpec)

/-- 'laws.FnExactPalindromeOk', WHERE WHAT IT READS IS OF BULK AT MOST 1048576: true; the input reads as it did. -/
def fnExactPalindromeOkUptoRow : OpenClaim := { program := "ytaocefdannjlhaa", sum := "e656a24d85f2638f8bfd90fea0f7b1f0ec6a83508df3336e2f307a3ebe2e14b0", func := "loop.example/returningdigits/laws.FnExactPalindromeOk", spec := "fnExactPalindromeOk", unfollowed := true, recurses := true, apart := false, narrowed := true }
def FnExactPalindromeOkUptoSaid : Prop := fnExactPalindromeOkUptoRow.holds Try.pinned (OpenSpec.upto fnExactPalindromeOkSpec)

/-- 'laws.FnExactCountPalindromes', WHERE WHAT IT READS IS OF BULK AT MOST 1048576: true; the input reads as it did. -/
def fnExactCountPalindromesUptoRow : OpenClaim := { program := "ytaocefdannjlhaa", sum := "e656a24d85f2638f8bfd90fea0f7b1f0ec6a83508df3336e2f307a3ebe2e14b0", func := "loop.example/returningdigits/laws.FnExactCountPalindromes", spec := "fnExactCountPalindromes", apart := false, narrowed := true }
def FnExactCountPalindromesUptoSaid : Prop := fnExactCountPalindromesUptoRow.holds Try.pinned (OpenSpec.upto fnExactCountPalindromesSpec)

/-- 'laws.FnExactNextPalindrome', WHERE WHAT IT READS IS OF BULK AT MOST 1048576: true; the input reads as it did. -/
def fnExactNextPalindromeUptoRow : OpenClaim := { program := "ytaocefdannjlhaa", sum := "e656a24d85f2638f8bfd90fea0f7b1f0ec6a83508df3336e2f307a3ebe2e14b0", func := "loop.example/returningdigits/laws.FnExactNextPalindrome", spec := "fnExactNextPalindrome", unfollowed := true, recurses := true, apart := false, narrowed := true }
def FnExactNextPalindromeUptoSaid : Prop := fnExactNextPalindromeUptoRow.holds Try.pinned (OpenSpec.upto fnExactNextPalindromeSpec)

/-- 'laws.FnExactAddedTurned', WHERE WHAT IT READS IS OF BULK AT MOST 1048576: true; the input reads as it did. -/
def fnExactAddedTurnedUptoRow : OpenClaim := { program := "ytaocefdannjlhaa", sum := "e656a24d85f2638f8bfd90fea0f7b1f0ec6a83508df3336e2f307a3ebe2e14b0", func := "loop.example/returningdigits/laws.FnExactAddedTurned", spec := "fnExactAddedTurned", unfollowed := true, recurses := true, apart := false, narrowed := true }
def FnExactAddedTurnedUptoSaid : Prop := fnExactAddedTurnedUptoRow.holds Try.pinned (OpenSpec.upto fnExactAddedTurnedSpec)

/-- 'laws.FnExactStepsToPalindrome', WHERE WHAT IT READS IS OF BULK AT MOST 1048576: true; the input reads as it did. -/
def fnExactStepsToPalindromeUptoRow : OpenClaim := { program := "ytaocefdannjlhaa", sum := "e656a24d85f2638f8bfd90fea0f7b1f0ec6a83508df3336e2f307a3ebe2e14b0", func := "loop.example/returningdigits/laws.FnExactStepsToPalindrome", spec := "fnExactStepsToPalindrome", unfollowed := true, recurses := true, apart := false, narrowed := true }
def FnExactStepsToPalindromeUptoSaid : Prop := fnExactStepsToPalindromeUptoRow.holds Try.pinned (OpenSpec.upto fnExactStepsToPalindromeSpec)

end Rows
end Go.Proofs.Ytaocefdannjlhaa
