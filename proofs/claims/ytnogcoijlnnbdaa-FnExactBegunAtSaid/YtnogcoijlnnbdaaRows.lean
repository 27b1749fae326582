/-
  No cell of these rows narrows 'for every input' (looked for: loops, veiled, ifaces, maps, wideKeys, modest, calm, conditions, laid).
  DERIVED. THE GIVEN ROWS OF THIS SEAT. 12 by the template 'for every input the law returns true; each argument reads behind the call as it read before'; 0 by the template 'total and deterministic' (their statements: YtnogcoijlnnbdaaTotals.lean).
  GIVEN WITH THE SEED: the statements are not yours to turn. If you find one false, say at which input.
  Laid BY PROGRAM, IN A SANDBOX (cutbox-rows.mjs): the forced cells as the released guide's own fill.sh prints them over the translation 36deaff4c363eee2… (all of the seat's roots in one cut). By AI agents, Wed Nov 11 2026. No macro, syntax, notation, axiom, sorry.
-/
import Derived.Test.YtnogcoijlnnbdaaChecked
import GoSem.Claim
import GoSem.ClaimJoined
import GoSem.ClaimMapViews
import Derived.JoinedTies
import Derived.KernelRfl
namespace Go.Proofs.Ytnogcoijlnnbdaa
/- THE CELL 'sum', in the pinned program and in every row, IS THE sha256 OF THE DUMP (.gsa) THAT YtnogcoijlnnbdaaProg.lean LOADS. Nothing in Lean hashes anything: it is a label: what it is worth is what the hold of that sum in a sandbox is worth. -/
noncomputable def Try.pinned : Pinned := { name := "ytnogcoijlnnbdaa", sum := "36deaff4c363eee2f52b10f06359f4f6cd2f870be2f4c52b18512a081f78ba9c", checked := Try.checked }
namespace Rows
def none {H : Type} : Left H := { results := [], args := [] }

/-- 'laws.FnUnderOk': WHATEVER THE INPUT: true; the input reads as it did. -/
def fnUnderOkSpec : ChangeSpec := { name := "fnUnderOk", fn := fun _ => fun
  | [d] => { results := [.lit (.bool true)], args := [d] }
  | _ => none }
def fnUnderOkRow : OpenClaim := { program := "ytnogcoijlnnbdaa", sum := "36deaff4c363eee2f52b10f06359f4f6cd2f870be2f4c52b18512a081f78ba9c", func := "loop.example/returningdigits/laws.FnUnderOk", spec := "fnUnderOk", apart := false }
def FnUnderOkSaid : Prop := fnUnderOkRow.holds Try.pinned (OpenSpec.ofChange fnUnderOkSpec)

/-- ITS FALSE NEIGHBOUR: 'it returns false'. Refute it at one input. -/
def fnUnderOkWrong : ChangeSpec := { name := "fnUnderOk", fn := fun _ => fun
  | [d] => { results := [.lit (.bool false)], args := [d] }
  | _ => none }
def FnUnderOkWrongFalsely : Prop := fnUnderOkRow.holds Try.pinned (OpenSpec.ofChange fnUnderOkWrong)

/-- 'laws.FnPeriodOf': WHATEVER THE INPUT: true; the input reads as it did. -/
def fnPeriodOfSpec : ChangeSpec := { name := "fnPeriodOf", fn := fun _ => fun
  | [d] => { results := [.lit (.bool true)], args := [d] }
  | _ => none }
def fnPeriodOfRow : OpenClaim := { program := "ytnogcoijlnnbdaa", sum := "36deaff4c363eee2f52b10f06359f4f6cd2f870be2f4c52b18512a081f78ba9c", func := "loop.example/returningdigits/laws.FnPeriodOf", spec := "fnPeriodOf", unfollowed := true, recurses := true, apart := false }
def FnPeriodOfSaid : Prop := fnPeriodOfRow.holds Try.pinned (OpenSpec.ofChange fnPeriodOfSpec)

/-- ITS FALSE NEIGHBOUR: 'it returns false'. Refute it at one input. -/
def fnPeriodOfWrong : ChangeSpec := { name := "fnPeriodOf", fn := fun _ => fun
  | [d] => { results := [.lit (.bool false)], args := [d] }
  | _ => none }
def FnPeriodOfWrongFalsely : Prop := fnPeriodOfRow.holds Try.pinned (OpenSpec.ofChange fnPeriodOfWrong)

/-- 'laws.FnRoundOf': WHATEVER THE INPUT: true; the input reads as it did. -/
def fnRoundOfSpec : ChangeSpec := { name := "fnRoundOf", fn := fun _ => fun
  | [d] => { results := [.lit (.bool true)], args := [d] }
  | _ => none }
def fnRoundOfRow : OpenClaim := { program := "ytnogcoijlnnbdaa", sum := "36deaff4c363eee2f52b10f06359f4f6cd2f870be2f4c52b18512a081f78ba9c", func := "loop.example/returningdigits/laws.FnRoundOf", spec := "fnRoundOf", unfollowed := true, recurses := true, apart := false }
def FnRoundOfSaid : Prop := fnRoundOfRow.holds Try.pinned (OpenSpec.ofChange fnRoundOfSpec)

/-- ITS FALSE NEIGHBOUR: 'it returns false'. Refute it at one input. -/
def fnRoundOfWrong : ChangeSpec := { name := "fnRoundOf", fn := fun _ => fun
  | [d] => { results := [.lit (.bool false)], args := [d] }
  | _ => none }
def FnRoundOfWrongFalsely : Prop := fnRoundOfRow.holds Try.pinned (OpenSpec.ofChange fnRoundOfWrong)

/-- 'laws.FnHalvesOk': WHATEVER THE INPUT: true; the input reads as it did. -/
def fnHalvesOkSpec : ChangeSpec := { name := "fnHalvesOk", fn := fun _ => fun
  | [d] => { results := [.lit (.bool true)], args := [d] }
  | _ => none }
def fnHalvesOkRow : OpenClaim := { program := "ytnogcoijlnnbdaa", sum := "36deaff4c363eee2f52b10f06359f4f6cd2f870be2f4c52b18512a081f78ba9c", func := "loop.example/returningdigits/laws.FnHalvesOk", spec := "fnHalvesOk", unfollowed := true, recurses := true, apart := false }
def FnHalvesOkSaid : Prop := fnHalvesOkRow.holds Try.pinned (OpenSpec.ofChange fnHalvesOkSpec)

/-- ITS FALSE NEIGHBOUR: 'it returns false'. Refute it at one input. -/
def fnHalvesOkWrong : ChangeSpec := { name := "fnHalvesOk", fn := fun _ => fun
  | [d] => { results := [.lit (.bool false)], args := [d] }
  | _ => none }
def FnHalvesOkWrongFalsely : Prop := fnHalvesOkRow.holds Try.pinned (OpenSpec.ofChange fnHalvesOkWrong)

/-- 'laws.FnFullOk': WHATEVER THE INPUT: true; the input reads as it did. -/
def fnFullOkSpec : ChangeSpec := { name := "fnFullOk", fn := fun _ => fun
  | [d] => { results := [.lit (.bool true)], args := [d] }
  | _ => none }
def fnFullOkRow : OpenClaim := { program := "ytnogcoijlnnbdaa", sum := "36deaff4c363eee2f52b10f06359f4f6cd2f870be2f4c52b18512a081f78ba9c", func := "loop.example/returningdigits/laws.FnFullOk", spec := "fnFullOk", unfollowed := true, recurses := true, apart := false }
def FnFullOkSaid : Prop := fnFullOkRow.holds Try.pinned (OpenSpec.ofChange fnFullOkSpec)

/-- ITS FALSE NEIGHBOUR: 'it returns false'. Refute it at one input. -/
def fnFullOkWrong : ChangeSpec := { name := "fnFullOk", fn := fun _ => fun
  | [d] => { results := [.lit (.bool false)], args := [d] }
  | _ => none }
def FnFullOkWrongFalsely : Prop := fnFullOkRow.holds Try.pinned (OpenSpec.ofChange fnFullOkWrong)

/-- 'laws.FnBegunAt': WHATEVER THE INPUT: true; the input reads as it did. -/
def fnBegunAtSpec : ChangeSpec := { name := "fnBegunAt", fn := fun _ => fun
  | [d] => { results := [.lit (.bool true)], args := [d] }
  | _ => none }
def fnBegunAtRow : OpenClaim := { program := "ytnogcoijlnnbdaa", sum := "36deaff4c363eee2f52b10f06359f4f6cd2f870be2f4c52b18512a081f78ba9c", func := "loop.example/returningdigits/laws.FnBegunAt", spec := "fnBegunAt", unfollowed := true, recurses := true, apart := false }
def FnBegunAtSaid : Prop := fnBegunAtRow.holds Try.pinned (OpenSpec.ofChange fnBegunAtSpec)

/-- ITS FALSE NEIGHBOUR: 'it returns false'. Refute it at one input. -/
def fnBegunAtWrong : ChangeSpec := { name := "fnBegunAt", fn := fun _ => fun
  | [d] => { results := [.lit (.bool false)], args := [d] }
  | _ => none }
def FnBegunAtWrongFalsely : Prop := fnBegunAtRow.holds Try.pinned (OpenSpec.ofChange fnBegunAtWrong)

/-- 'laws.FnExactUnderOk': WHATEVER THE INPUT: true; the input reads as it did. -/
def fnExactUnderOkSpec : ChangeSpec := { name := "fnExactUnderOk", fn := fun _ => fun
  | [d1, d2] => { results := [.lit (.bool true)], args := [d1, d2] }
  | _ => none }
def fnExactUnderOkRow : OpenClaim := { program := "ytnogcoijlnnbdaa", sum := "36deaff4c363eee2f52b10f06359f4f6cd2f870be2f4c52b18512a081f78ba9c", func := "loop.example/returningdigits/laws.FnExactUnderOk", spec := "fnExactUnderOk", apart := false }
def FnExactUnderOkSaid : Prop := fnExactUnderOkRow.holds Try.pinned (OpenSpec.ofChange fnExactUnderOkSpec)

/-- ITS FALSE NEIGHBOUR: 'it returns false'. Refute it at one input. -/
def fnExactUnderOkWrong : ChangeSpec := { name := "fnExactUnderOk", fn := fun _ => fun
  | [d1, d2] => { results := [.lit (.bool false)], args := [d1, d2] }
  | _ => none }
def FnExactUnderOkWrongFalsely : Prop := fnExactUnderOkRow.holds Try.pinned (OpenSpec.ofChange fnExactUnderOkWrong)

/-- 'laws.FnExactPeriodOf': WHATEVER THE INPUT: true; the input reads as it did. -/
def fnExactPeriodOfSpec : ChangeSpec := { name := "fnExactPeriodOf", fn := fun _ => fun
  | [d1, d2] => { results := [.lit (.bool true)], args := [d1, d2] }
  | _ => none }
def fnExactPeriodOfRow : OpenClaim := { program := "ytnogcoijlnnbdaa", sum := "36deaff4c363eee2f52b10f06359f4f6cd2f870be2f4c52b18512a081f78ba9c", func := "loop.example/returningdigits/laws.FnExactPeriodOf", spec := "fnExactPeriodOf", unfollowed := true, recurses := true, apart := false }
def FnExactPeriodOfSaid : Prop := fnExactPeriodOfRow.holds Try.pinned (OpenSpec.ofChange fnExactPeriodOfSpec)

/-- ITS FALSE NEIGHBOUR: 'it returns false'. Refute it at one input. -/
def fnExactPeriodOfWrong : ChangeSpec := { name := "fnExactPeriodOf", fn := fun _ => fun
  | [d1, d2] => { results := [.lit (.bool false)], args := [d1, d2] }
  | _ => none }
def FnExactPeriodOfWrongFalsely : Prop := fnExactPeriodOfRow.holds Try.pinned (OpenSpec.ofChange fnExactPeriodOfWrong)

/-- 'laws.FnExactRoundOf': WHATEVER THE INPUT: true; the input reads as it did. -/
def fnExactRoundOfSpec : ChangeSpec := { name := "fnExactRoundOf", fn := fun _ => fun
  | [d1, d2, d3] => { results := [.lit (.bool true)], args := [d1, d2, d3] }
  | _ => none }
def fnExactRoundOfRow : OpenClaim := { program := "ytnogcoijlnnbdaa", sum := "36deaff4c363eee2f52b10f06359f4f6cd2f870be2f4c52b18512a081f78ba9c", func := "loop.example/returningdigits/laws.FnExactRoundOf", spec := "fnExactRoundOf", unfollowed := true, recurses := true, apart := false }
def FnExactRoundOfSaid : Prop := fnExactRoundOfRow.holds Try.pinned (OpenSpec.ofChange fnExactRoundOfSpec)

/-- ITS FALSE NEIGHBOUR: 'it returns false'. Refute it at one input. -/
def fnExactRoundOfWrong : ChangeSpec := { name := "fnExactRoundOf", fn := fun _ => fun
  | [d1, d2, d3] => { results := [.lit (.bool false)], args := [d1, d2, d3] }
  | _ => none }
def FnExactRoundOfWrongFalsely : Prop := fnExactRoundOfRow.holds Try.pinned (OpenSpec.ofChange fnExactRoundOfWrong)

/-- 'laws.FnExactHalvesOk': WHATEVER THE INPUT: true; the input reads as it did. -/
def fnExactHalvesOkSpec : ChangeSpec := { name := "fnExactHalvesOk", fn := fun _ => fun
  | [d1, d2] => { results := [.lit (.bool true)], args := [d1, d2] }
  | _ => none }
def fnExactHalvesOkRow : OpenClaim := { program := "ytnogcoijlnnbdaa", sum := "36deaff4c363eee2f52b10f06359f4f6cd2f870be2f4c52b18512a081f78ba9c", func := "loop.example/returningdigits/laws.FnExactHalvesOk", spec := "fnExactHalvesOk", unfollowed := true, recurses := true, apart := false }
def FnExactHalvesOkSaid : Prop := fnExactHalvesOkRow.holds Try.pinned (OpenSpec.ofChange fnExactHalvesOkSpec)

/-- ITS FALSE NEIGHBOUR: 'it returns false'. Refute it at one input. -/
def fnExactHalvesOkWrong : ChangeSpec := { name := "fnExactHalvesOk", fn := fun _ => fun
  | [d1, d2] => { results := [.lit (.bool false)], args := [d1, d2] }
  | _ => none }
def FnExactHalvesOkWrongFalsely : Prop := fnExactHalvesOkRow.holds Try.pinned (OpenSpec.ofChange fnExactHalvesOkWrong)

/-- 'laws.FnExactFullOk': WHATEVER THE INPUT: true; the input reads as it did. -/
def fnExactFullOkSpec : ChangeSpec := { name := "fnExactFullOk", fn := fun _ => fun
  | [d1, d2] => { results := [.lit (.bool true)], args := [d1, d2] }
  | _ => none }
def fnExactFullOkRow : OpenClaim := { program := "ytnogcoijlnnbdaa", sum := "36deaff4c363eee2f52b10f06359f4f6cd2f870be2f4c52b18512a081f78ba9c", func := "loop.example/returningdigits/laws.FnExactFullOk", spec := "fnExactFullOk", unfollowed := true, recurses := true, apart := false }
def FnExactFullOkSaid : Prop := fnExactFullOkRow.holds Try.pinned (OpenSpec.ofChange fnExactFullOkSpec)

/-- ITS FALSE NEIGHBOUR: 'it returns false'. Refute it at one input. -/
def fnExactFullOkWrong : ChangeSpec := { name := "fnExactFullOk", fn := fun _ => fun
  | [d1, d2] => { results := [.lit (.bool false)], args := [d1, d2] }
  | _ => none }
def FnExactFullOkWrongFalsely : Prop := fnExactFullOkRow.holds Try.pinned (OpenSpec.ofChange fnExactFullOkWrong)

/-- 'laws.FnExactBegunAt': WHATEVER THE INPUT: true; the input reads as it did. -/
def fnExactBegunAtSpec : ChangeSpec := { name := "fnExactBegunAt", fn := fun _ => fun
  | [d1, d2, d3] => { results := [.lit (.bool true)], args := [d1, d2, d3] }
  | _ => none }
def fnExactBegunAtRow : OpenClaim := { program := "ytnogcoijlnnbdaa", sum := "36deaff4c363eee2f52b10f06359f4f6cd2f870be2f4c52b18512a081f78ba9c", func := "loop.example/returningdigits/laws.FnExactBegunAt", spec := "fnExactBegunAt", unfollowed := true, recurses := true, apart := false }
def FnExactBegunAtSaid : Prop := fnExactBegunAtRow.holds Try.pinned (OpenSpec.ofChange fnExactBegunAtSpec)

/-- ITS FALSE NEIGHBOUR: 'it returns false'. Refute it at one input. -/
def fnExactBegunAtWrong : ChangeSpec := { name := "fnExactBegunAt", fn := fun _ => fun
  | [d1, d2, d3] => { results := [.lit (.bool false)], args := [d1, d2, d3] }
  | _ => none }
def FnExactBegunAtWrongFalsely : Prop := fnExactBegunAtRow.holds Try.pinned (OpenSpec.ofChange fnExactBegunAtWrong)

/- THE SECOND FORM. 'bulk': how many values and letters a reading holds, each counted each time it is reached (what is shared counts as often as it is met; a slice's spare places count too). A statement '..UptoSaid' is the law's where the arguments, and the package variables that the reading takes, are together of bulk at most 1048576: NARROWER than '..Said'. Prove '..Said' where nothing that the law and all that it calls make is longer than what came in: it says more and counts as full. Else prove '..UptoSaid'. A law counts once. -/
mutual
def uptoBulk {H : Type} : DataW H → Nat
  | .lit (.string bytes) => bytes.length + 1
  | .lit _ => 1
  | .nil => 1
  | .ptr d => uptoBulk d + 1
  | .slice elems spare => uptoBulkAll elems + uptoBulkAll spare + 1
  | .agg parts => uptoBulkAll parts + 1
  | .iface _ d => uptoBulk d + 1
  | .map entries => uptoBulkEntries entries + 1
  | .held _ => 1
def uptoBulkAll {H : Type} : List (DataW H) → Nat
  | [] => 0
  | d :: r => uptoBulk d + uptoBulkAll r
def uptoBulkEntries {H : Type} : List (Lit × DataW H) → Nat
  | [] => 0
  | x :: r => uptoBulkEntry x + uptoBulkEntries r
def uptoBulkEntry {H : Type} : Lit × DataW H → Nat
  | (.string bytes, d) => bytes.length + uptoBulk d + 1
  | (_, d) => uptoBulk d + 1
 end
def uptoSmall : (H : Type) → List (DataW H) → Bool := fun _ ds => decide (uptoBulkAll ds ≤ 1048576)
def OpenSpec.upto (s : _root_.Go.ChangeSpec) : _root_.Go.OpenSpec := { _root_.Go.OpenSpec.ofChange s with cond := some uptoSmall }

/-- 'laws.FnUnderOk', WHERE WHAT IT READS IS OF BULK AT MOST 1048576: true; the input reads as it did. -/
def fnUnderOkUptoRow : OpenClaim := { program := "ytnogcoijlnnbdaa", sum := "36deaff4c363eee2f52b10f06359f4f6cd2f870be2f4c52b18512a081f78ba9c", func := "loop.example/returningdigits/laws.FnUnderOk", spec := "fnUnderOk", apart := false, narrowed := true }
def FnUnderOkUptoSaid : Prop := fnUnderOkUptoRow.holds Try.pinned (OpenSpec.upto fnUnderOkSpec)

/-- 'laws.FnPeriodOf', WHERE WHAT IT READS IS OF BULK AT MOST 1048576: true; the input reads as it did. -/
def fnPeriodOfUptoRow : OpenClaim := { program := "ytnogcoijlnnbdaa", sum := "36deaff4c363eee2f52b10f06359f4f6cd2f870be2f4c52b18512a081f78ba9c", func := "loop.example/returningdigits/laws.FnPeriodOf", spec := "fnPeriodOf", unfollowed := true, recurses := true, apart := false, narrowed := true }
def FnPeriodOfUptoSaid : Prop := fnPeriodOfUptoRow.holds Try.pinned (OpenSpec.upto fnPeriodOfSpec)

/-- 'laws.FnRoundOf', WHERE WHAT IT READS IS OF BULK AT MOST 1048576: true; the input reads as it did. -/
def fnRoundOfUptoRow : OpenClaim := { program := "ytnogcoijlnnbdaa", sum := "36deaff4c363eee2f52b10f06359f4f6cd2f870be2f4c52b18512a081f78ba9c", func := "loop.example/returningdigits/laws.FnRoundOf", spec := "fnRoundOf", unfollowed := true, recurses := true, apart := false, narrowed := true }
def FnRoundOfUptoSaid : Prop := fnRoundOfUptoRow.holds Try.pinned (OpenSpec.upto fnRoundOfSpec)

/-- 'laws.FnHalvesOk', WHERE WHAT IT READS IS OF BULK AT MOST 1048576: true; the input reads as it did. -/
def fnHalvesOkUptoRow : OpenClaim := { program := "ytnogcoijlnnbdaa", sum := "36deaff4c363eee2f52b10f06359f4f6cd2f870be2f4c52b18512a081f78ba9c", func := "loop.example/returningdigits/laws.FnHalvesOk", spec := "fnHalvesOk", unfollowed := true, recurses := true, apart := false, narrowed := true }
def FnHalvesOkUptoSaid : Prop := fnHalvesOkUptoRow.holds Try.pinned (OpenSpec.upto fnHalvesOkSpec)

/-- 'laws.FnFullOk', WHERE WHAT IT READS IS OF BULK AT MOST 1048576: true; the input reads as it did. -/
def fnFullOkUptoRow : OpenClaim := { program := "ytnogcoijlnnbdaa", sum := "36deaff4c363eee2f52b10f06359f4f6cd2f870be2f4c52b18512a081f78ba9c", func := "loop.example/returningdigits/laws.FnFullOk", spec := "fnFullOk", unfollowed := true, recurses := true, apart := false, narrowed := true }
def FnFullOkUptoSaid : Prop := fnFullOkUptoRow.holds Try.pinned (OpenSpec.upto fnFullOkSpec)

/-- 'laws.FnBegunAt', WHERE WHAT IT READS IS OF BULK AT MOST 1048576: true; the input reads as it did. -/
def fnBegunAtUptoRow : OpenClaim := { program := "ytnogcoijlnnbdaa", sum := "36deaff4c363eee2f52b10f06359f4f6cd2f870be2f4c52b18512a081f78ba9c", func := "loop.example/returningdigits/laws.FnBegunAt", spec := "fnBegunAt", unfollowed := true, recurses := true, apart := false, narrowed := true }
def FnBegunAtUptoSaid : Prop := fnBegunAtUptoRow.holds Try.pinned (OpenSpec.upto fnBegunAtSpec)

/-- 'laws.FnExactUnderOk', WHERE WHAT IT READS IS OF BULK AT MOST 1048576: true; the input reads as it did. -/
def fnExactUnderOkUptoRow : OpenClaim := { program := "ytnogcoijlnnbdaa", sum := "36deaff4c363eee2f52b10f06359f4f6cd2f870be2f4c52b18512a081f78ba9c", func := "loop.example/returningdigits/laws.FnExactUnderOk", spec := "fnExactUnderOk", apart := false, narrowed := true }
def FnExactUnderOkUptoSaid : Prop := fnExactUnderOkUptoRow.holds Try.pinned (OpenSpec.upto fnExactUnderOkSpec)

/-- 'laws.FnExactPeriodOf', WHERE WHAT IT READS IS OF BULK AT MOST 1048576: true; the input reads as it did. -/
def fnExactPeriodOfUptoRow : OpenClaim := { program := "ytnogcoijlnnbdaa", sum := "36deaff4c363eee2f52b10f06359f4f6cd2f870be2f4c52b18512a081f78ba9c", func := "loop.example/returningdigits/laws.FnExactPeriodOf", spec := "fnExactPeriodOf", unfollowed := true, recurses := true, apart := false, narrowed := true }
def FnExactPeriodOfUptoSaid : Prop := fnExactPeriodOfUptoRow.holds Try.pinned (OpenSpec.upto fnExactPeriodOfSpec)

/-- 'laws.FnExactRoundOf', WHERE WHAT IT READS IS OF BULK AT MOST 1048576: true; the input reads as it did. -/
def fnExactRoundOfUptoRow : OpenClaim := { program := "ytnogcoijlnnbdaa", sum := "36deaff4c363eee2f52b10f06359f4f6cd2f870be2f4c52b18512a081f78ba9c", func := "loop.example/returningdigits/laws.FnExactRoundOf", spec := "fnExactRoundOf", unfollowed := true, recurses := true, apart := false, narrowed := true }
def FnExactRoundOfUptoSaid : Prop := fnExactRoundOfUptoRow.holds Try.pinned (OpenSpec.upto fnExactRoundOfSpec)

/-- 'laws.FnExactHalvesOk', WHERE WHAT IT READS IS OF BULK AT MOST 1048576: true; the input reads as it did. -/
def fnExactHalvesOkUptoRow : OpenClaim := { program := "ytnogcoijlnnbdaa", sum := "36deaff4c363eee2f52b10f06359f4f6cd2f870be2f4c52b18512a081f78ba9c", func := "loop.example/returningdigits/laws.FnExactHalvesOk", spec := "fnExactHalvesOk", unfollowed := true, recurses := true, apart := false, narrowed := true }
def FnExactHalvesOkUptoSaid : Prop := fnExactHalvesOkUptoRow.holds Try.pinned (OpenSpec.upto fnExactHalvesOkSpec)

/-- 'laws.FnExactFullOk', WHERE WHAT IT READS IS OF BULK AT MOST 1048576: true; the input reads as it did. -/
def fnExactFullOkUptoRow : OpenClaim := { program := "ytnogcoijlnnbdaa", sum := "36deaff4c363eee2f52b10f06359f4f6cd2f870be2f4c52b18512a081f78ba9c", func := "loop.example/returningdigits/laws.FnExactFullOk", spec := "fnExactFullOk", unfollowed := true, recurses := true, apart := false, narrowed := true }
def FnExactFullOkUptoSaid : Prop := fnExactFullOkUptoRow.holds Try.pinned (OpenSpec.upto fnExactFullOkSpec)

/-- 'laws.FnExactBegunAt', WHERE WHAT IT READS IS OF BULK AT MOST 1048576: true; the input reads as it did. -/
def fnExactBegunAtUptoRow : OpenClaim := { program := "ytnogcoijlnnbdaa", sum := "36deaff4c363eee2f52b10f06359f4f6cd2f870be2f4c52b18512a081f78ba9c", func := "loop.example/returningdigits/laws.FnExactBegunAt", spec := "fnExactBegunAt", unfollowed := true, recurses := true, apart := false, narrowed := true }
def FnExactBegunAtUptoSaid : Prop := fnExactBegunAtUptoRow.holds Try.pinned (OpenSpec.upto fnExactBegunAtSpec)

end Rows
end Go.Proofs.Ytnogcoijlnnbdaa
