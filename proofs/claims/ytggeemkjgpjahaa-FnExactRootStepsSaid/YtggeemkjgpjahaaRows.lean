/-
  No cell of these rows narrows 'for every input' (looked for: loops, veiled, ifaces, maps, wideKeys, modest, calm, conditions, laid).
  DERIVED. THE GIVEN ROWS OF THIS SEAT. 8 by the template 'for every input the law returns true; each argument reads behind the call as it read before'; 0 by the template 'total and deterministic' (their statements: YtggeemkjgpjahaaTotals.lean).
  GIVEN WITH THE SEED: the statements are not yours to turn. If you find one false, say at which input.
  Laid BY PROGRAM, IN A SANDBOX (cutbox-rows.mjs): the forced cells as the released guide's own fill.sh prints them over the translation 919ccfcbc997ea04… (all of the seat's roots in one cut). By AI agents, Wed Nov 11 2026. No macro, syntax, notation, axiom, sorry.
-/
import Derived.Test.YtggeemkjgpjahaaChecked
import GoSem.Claim
import GoSem.ClaimJoined
import GoSem.ClaimMapViews
import Derived.JoinedTies
import Derived.KernelRfl
namespace Go.Proofs.Ytggeemkjgpjahaa
/- THE CELL 'sum', in the pinned program and in every row, IS THE sha256 OF THE DUMP (.gsa) THAT YtggeemkjgpjahaaProg.lean LOADS. Nothing in Lean hashes anything: it is a label: what it is worth is what the hold of that sum in a sandbox is worth. -/
noncomputable def Try.pinned : Pinned := { name := "ytggeemkjgpjahaa", sum := "919ccfcbc997ea04b36b901ddcb51a663dfdc812f40347370d2868903799a368", checked := Try.checked }
namespace Rows
def none {H : Type} : Left H := { results := [], args := [] }

/-- 'laws.FnRootOf': WHATEVER THE INPUT: true; the input reads as it did. -/
def fnRootOfSpec : ChangeSpec := { name := "fnRootOf", fn := fun _ => fun
  | [d1, d2] => { results := [.lit (.bool true)], args := [d1, d2] }
  | _ => none }
def fnRootOfRow : OpenClaim := { program := "ytggeemkjgpjahaa", sum := "919ccfcbc997ea04b36b901ddcb51a663dfdc812f40347370d2868903799a368", func := "loop.example/returningdigits/laws.FnRootOf", spec := "fnRootOf", unfollowed := true, recurses := true, apart := false }
def FnRootOfSaid : Prop := fnRootOfRow.holds Try.pinned (OpenSpec.ofChange fnRootOfSpec)

/-- ITS FALSE NEIGHBOUR: 'it returns false'. Refute it at one input. -/
def fnRootOfWrong : ChangeSpec := { name := "fnRootOf", fn := fun _ => fun
  | [d1, d2] => { results := [.lit (.bool false)], args := [d1, d2] }
  | _ => none }
def FnRootOfWrongFalsely : Prop := fnRootOfRow.holds Try.pinned (OpenSpec.ofChange fnRootOfWrong)

/-- 'laws.FnRootSteps': WHATEVER THE INPUT: true; the input reads as it did. -/
def fnRootStepsSpec : ChangeSpec := { name := "fnRootSteps", fn := fun _ => fun
  | [d] => { results := [.lit (.bool true)], args := [d] }
  | _ => none }
def fnRootStepsRow : OpenClaim := { program := "ytggeemkjgpjahaa", sum := "919ccfcbc997ea04b36b901ddcb51a663dfdc812f40347370d2868903799a368", func := "loop.example/returningdigits/laws.FnRootSteps", spec := "fnRootSteps", unfollowed := true, recurses := true, apart := false }
def FnRootStepsSaid : Prop := fnRootStepsRow.holds Try.pinned (OpenSpec.ofChange fnRootStepsSpec)

/-- ITS FALSE NEIGHBOUR: 'it returns false'. Refute it at one input. -/
def fnRootStepsWrong : ChangeSpec := { name := "fnRootSteps", fn := fun _ => fun
  | [d] => { results := [.lit (.bool false)], args := [d] }
  | _ => none }
def FnRootStepsWrongFalsely : Prop := fnRootStepsRow.holds Try.pinned (OpenSpec.ofChange fnRootStepsWrong)

/-- 'laws.FnTurnsOf': WHATEVER THE INPUT: true; the input reads as it did. -/
def fnTurnsOfSpec : ChangeSpec := { name := "fnTurnsOf", fn := fun _ => fun
  | [d] => { results := [.lit (.bool true)], args := [d] }
  | _ => none }
def fnTurnsOfRow : OpenClaim := { program := "ytggeemkjgpjahaa", sum := "919ccfcbc997ea04b36b901ddcb51a663dfdc812f40347370d2868903799a368", func := "loop.example/returningdigits/laws.FnTurnsOf", spec := "fnTurnsOf", unfollowed := true, recurses := true, apart := false }
def FnTurnsOfSaid : Prop := fnTurnsOfRow.holds Try.pinned (OpenSpec.ofChange fnTurnsOfSpec)

/-- ITS FALSE NEIGHBOUR: 'it returns false'. Refute it at one input. -/
def fnTurnsOfWrong : ChangeSpec := { name := "fnTurnsOf", fn := fun _ => fun
  | [d] => { results := [.lit (.bool false)], args := [d] }
  | _ => none }
def FnTurnsOfWrongFalsely : Prop := fnTurnsOfRow.holds Try.pinned (OpenSpec.ofChange fnTurnsOfWrong)

/-- 'laws.FnCouldBe': WHATEVER THE INPUT: true; the input reads as it did. -/
def fnCouldBeSpec : ChangeSpec := { name := "fnCouldBe", fn := fun _ => fun
  | [d] => { results := [.lit (.bool true)], args := [d] }
  | _ => none }
def fnCouldBeRow : OpenClaim := { program := "ytggeemkjgpjahaa", sum := "919ccfcbc997ea04b36b901ddcb51a663dfdc812f40347370d2868903799a368", func := "loop.example/returningdigits/laws.FnCouldBe", spec := "fnCouldBe", unfollowed := true, recurses := true, apart := false }
def FnCouldBeSaid : Prop := fnCouldBeRow.holds Try.pinned (OpenSpec.ofChange fnCouldBeSpec)

/-- ITS FALSE NEIGHBOUR: 'it returns false'. Refute it at one input. -/
def fnCouldBeWrong : ChangeSpec := { name := "fnCouldBe", fn := fun _ => fun
  | [d] => { results := [.lit (.bool false)], args := [d] }
  | _ => none }
def FnCouldBeWrongFalsely : Prop := fnCouldBeRow.holds Try.pinned (OpenSpec.ofChange fnCouldBeWrong)

/-- 'laws.FnExactRootOf': WHATEVER THE INPUT: true; the input reads as it did. -/
def fnExactRootOfSpec : ChangeSpec := { name := "fnExactRootOf", fn := fun _ => fun
  | [d1, d2] => { results := [.lit (.bool true)], args := [d1, d2] }
  | _ => none }
def fnExactRootOfRow : OpenClaim := { program := "ytggeemkjgpjahaa", sum := "919ccfcbc997ea04b36b901ddcb51a663dfdc812f40347370d2868903799a368", func := "loop.example/returningdigits/laws.FnExactRootOf", spec := "fnExactRootOf", unfollowed := true, recurses := true, apart := false }
def FnExactRootOfSaid : Prop := fnExactRootOfRow.holds Try.pinned (OpenSpec.ofChange fnExactRootOfSpec)

/-- ITS FALSE NEIGHBOUR: 'it returns false'. Refute it at one input. -/
def fnExactRootOfWrong : ChangeSpec := { name := "fnExactRootOf", fn := fun _ => fun
  | [d1, d2] => { results := [.lit (.bool false)], args := [d1, d2] }
  | _ => none }
def FnExactRootOfWrongFalsely : Prop := fnExactRootOfRow.holds Try.pinned (OpenSpec.ofChange fnExactRootOfWrong)

/-- 'laws.FnExactRootSteps': WHATEVER THE INPUT: true; the input reads as it did. -/
def fnExactRootStepsSpec : ChangeSpec := { name := "fnExactRootSteps", fn := fun _ => fun
  | [d1, d2] => { results := [.lit (.bool true)], args := [d1, d2] }
  | _ => none }
def fnExactRootStepsRow : OpenClaim := { program := "ytggeemkjgpjahaa", sum := "919ccfcbc997ea04b36b901ddcb51a663dfdc812f40347370d2868903799a368", func := "loop.example/returningdigits/laws.FnExactRootSteps", spec := "fnExactRootSteps", unfollowed := true, recurses := true, apart := false }
def FnExactRootStepsSaid : Prop := fnExactRootStepsRow.holds Try.pinned (OpenSpec.ofChange fnExactRootStepsSpec)

/-- ITS FALSE NEIGHBOUR: 'it returns false'. Refute it at one input. -/
def fnExactRootStepsWrong : ChangeSpec := { name := "fnExactRootSteps", fn := fun _ => fun
  | [d1, d2] => { results := [.lit (.bool false)], args := [d1, d2] }
  | _ => none }
def FnExactRootStepsWrongFalsely : Prop := fnExactRootStepsRow.holds Try.pinned (OpenSpec.ofChange fnExactRootStepsWrong)

/-- 'laws.FnExactTurnsOf': WHATEVER THE INPUT: true; the input reads as it did. -/
def fnExactTurnsOfSpec : ChangeSpec := { name := "fnExactTurnsOf", fn := fun _ => fun
  | [d1, d2] => { results := [.lit (.bool true)], args := [d1, d2] }
  | _ => none }
def fnExactTurnsOfRow : OpenClaim := { program := "ytggeemkjgpjahaa", sum := "919ccfcbc997ea04b36b901ddcb51a663dfdc812f40347370d2868903799a368", func := "loop.example/returningdigits/laws.FnExactTurnsOf", spec := "fnExactTurnsOf", unfollowed := true, recurses := true, apart := false }
def FnExactTurnsOfSaid : Prop := fnExactTurnsOfRow.holds Try.pinned (OpenSpec.ofChange fnExactTurnsOfSpec)

/-- ITS FALSE NEIGHBOUR: 'it returns false'. Refute it at one input. -/
def fnExactTurnsOfWrong : ChangeSpec := { name := "fnExactTurnsOf", fn := fun _ => fun
  | [d1, d2] => { results := [.lit (.bool false)], args := [d1, d2] }
  | _ => none }
def FnExactTurnsOfWrongFalsely : Prop := fnExactTurnsOfRow.holds Try.pinned (OpenSpec.ofChange fnExactTurnsOfWrong)

/-- 'laws.FnExactCouldBe': WHATEVER THE INPUT: true; the input reads as it did. -/
def fnExactCouldBeSpec : ChangeSpec := { name := "fnExactCouldBe", fn := fun _ => fun
  | [d1, d2, d3, d4] => { results := [.lit (.bool true)], args := [d1, d2, d3, d4] }
  | _ => none }
def fnExactCouldBeRow : OpenClaim := { program := "ytggeemkjgpjahaa", sum := "919ccfcbc997ea04b36b901ddcb51a663dfdc812f40347370d2868903799a368", func := "loop.example/returningdigits/laws.FnExactCouldBe", spec := "fnExactCouldBe", unfollowed := true, recurses := true, apart := false }
def FnExactCouldBeSaid : Prop := fnExactCouldBeRow.holds Try.pinned (OpenSpec.ofChange fnExactCouldBeSpec)

/-- ITS FALSE NEIGHBOUR: 'it returns false'. Refute it at one input. -/
def fnExactCouldBeWrong : ChangeSpec := { name := "fnExactCouldBe", fn := fun _ => fun
  | [d1, d2, d3, d4] => { results := [.lit (.bool false)], args := [d1, d2, d3, d4] }
  | _ => none }
def FnExactCouldBeWrongFalsely : Prop := fnExactCouldBeRow.holds Try.pinned (OpenSpec.ofChange fnExactCouldBeWrong)

/- THE SECOND FORM. 'bulk': how many values and letters a reading holds, each counted each time it is reached (what is shared counts as often as it is met; a slice's spare places count too). A statement '..UptoSaid' is the law's where the arguments, and the package variables that the reading takes, are together of bulk at most 1048576: NARROWER than '..Said'. Prove '..Said' where nothing that the law and all that it calls make is longer than what came in: it says more and counts as full. Else prove '..UptoSaid'. A law counts once. -/
mutual
def uptoBulk {H : Type} : DataW H → Nat
  | .lit (.string bytes) => bytes.length + 1
  | .lit _ => 1
  | .nil => 1
  | .ptr d => uptoBulk d + 1
  | .slice elems spare => uptoBulkAll elems + uptoBulkAll spare + 1
  | .agg parts => uptoBulkAll parts + 1
  | .iface _ d => uptoBulk d + 1
  | .map entries => uptoBulkEntries entries + 1
  | .held _ => 1
def uptoBulkAll {H : Type} : List (DataW H) → Nat
  | [] => 0
  | d :: r => uptoBulk d + uptoBulkAll r
def uptoBulkEntries {H : Type} : List (Lit × DataW H) → Nat
  | [] => 0
  | x :: r => uptoBulkEntry x + uptoBulkEntries r
def uptoBulkEntry {H : Type} : Lit × DataW H → Nat
  | (.string bytes, d) => bytes.length + uptoBulk d + 1
  | (_, d) => uptoBulk d + 1
 end
def uptoSmall : (H : Type) → List (DataW H) → Bool := fun _ ds => decide (uptoBulkAll ds ≤ 1048576)
def OpenSpec.upto (s : _root_.Go.ChangeSpec) : _root_.Go.OpenSpec := { _root_.Go.OpenSpec.ofChange s with cond := some uptoSmall }

/-- 'laws.FnRootOf', WHERE WHAT IT READS IS OF BULK AT MOST 1048576: true; the input reads as it did. -/
def fnRootOfUptoRow : OpenClaim := { program := "ytggeemkjgpjahaa", sum := "919ccfcbc997ea04b36b901ddcb51a663dfdc812f40347370d2868903799a368", func := "loop.example/returningdigits/laws.FnRootOf", spec := "fnRootOf", unfollowed := true, recurses := true, apart := false, narrowed := true }
def FnRootOfUptoSaid : Prop := fnRootOfUptoRow.holds Try.pinned (OpenSpec.upto fnRootOfSpec)

/-- 'laws.FnRootSteps', WHERE WHAT IT READS IS OF BULK AT MOST 1048576: true; the input reads as it did. -/
def fnRootStepsUptoRow : OpenClaim := { program := "ytggeemkjgpjahaa", sum := "919ccfcbc997ea04b36b901ddcb51a663dfdc812f40347370d2868903799a368", func := "loop.example/returningdigits/laws.FnRootSteps", spec := "fnRootSteps", unfollowed := true, recurses := true, apart := false, narrowed := true }
def FnRootStepsUptoSaid : Prop := fnRootStepsUptoRow.holds Try.pinned (OpenSpec.upto fnRootStepsSpec)

/-- 'laws.FnTurnsOf', WHERE WHAT IT READS IS OF BULK AT MOST 1048576: true; the input reads as it did. -/
def fnTurnsOfUptoRow : OpenClaim := { program := "ytggeemkjgpjahaa", sum := "919ccfcbc997ea04b36b901ddcb51a663dfdc812f40347370d2868903799a368", func := "loop.example/returningdigits/laws.FnTurnsOf", spec := "fnTurnsOf", unfollowed := true, recurses := true, apart := false, narrowed := true }
def FnTurnsOfUptoSaid : Prop := fnTurnsOfUptoRow.holds Try.pinned (OpenSpec.upto fnTurnsOfSpec)

/-- 'laws.FnCouldBe', WHERE WHAT IT READS IS OF BULK AT MOST 1048576: true; the input reads as it did. -/
def fnCouldBeUptoRow : OpenClaim := { program := "ytggeemkjgpjahaa", sum := "919ccfcbc997ea04b36b901ddcb51a663dfdc812f40347370d2868903799a368", func := "loop.example/returningdigits/laws.FnCouldBe", spec := "fnCouldBe", unfollowed := true, recurses := true, apart := false, narrowed := true }
def FnCouldBeUptoSaid : Prop := fnCouldBeUptoRow.holds Try.pinned (OpenSpec.upto fnCouldBeSpec)

/-- 'laws.FnExactRootOf', WHERE WHAT IT READS IS OF BULK AT MOST 1048576: true; the input reads as it did. -/
def fnExactRootOfUptoRow : OpenClaim := { program := "ytggeemkjgpjahaa", sum := "919ccfcbc997ea04b36b901ddcb51a663dfdc812f40347370d2868903799a368", func := "loop.example/returningdigits/laws.FnExactRootOf", spec := "fnExactRootOf", unfollowed := true, recurses := true, apart := false, narrowed := true }
def FnExactRootOfUptoSaid : Prop := fnExactRootOfUptoRow.holds Try.pinned (OpenSpec.upto fnExactRootOfSpec)

/-- 'laws.FnExactRootSteps', WHERE WHAT IT READS IS OF BULK AT MOST 1048576: true; the input reads as it did. -/
def fnExactRootStepsUptoRow : OpenClaim := { program := "ytggeemkjgpjahaa", sum := "919ccfcbc997ea04b36b901ddcb51a663dfdc812f40347370d2868903799a368", func := "loop.example/returningdigits/laws.FnExactRootSteps", spec := "fnExactRootSteps", unfollowed := true, recurses := true, apart := false, narrowed := true }
def FnExactRootStepsUptoSaid : Prop := fnExactRootStepsUptoRow.holds Try.pinned (OpenSpec.upto fnExactRootStepsSpec)

/-- 'laws.FnExactTurnsOf', WHERE WHAT IT READS IS OF BULK AT MOST 1048576: true; the input reads as it did. -/
def fnExactTurnsOfUptoRow : OpenClaim := { program := "ytggeemkjgpjahaa", sum := "919ccfcbc997ea04b36b901ddcb51a663dfdc812f40347370d2868903799a368", func := "loop.example/returningdigits/laws.FnExactTurnsOf", spec := "fnExactTurnsOf", unfollowed := true, recurses := true, apart := false, narrowed := true }
def FnExactTurnsOfUptoSaid : Prop := fnExactTurnsOfUptoRow.holds Try.pinned (OpenSpec.upto fnExactTurnsOfSpec)

/-- 'laws.FnExactCouldBe', WHERE WHAT IT READS IS OF BULK AT MOST 1048576: true; the input reads as it did. -/
def fnExactCouldBeUptoRow : OpenClaim := { program := "ytggeemkjgpjahaa", sum := "919ccfcbc997ea04b36b901ddcb51a663dfdc812f40347370d2868903799a368", func := "loop.example/returningdigits/laws.FnExactCouldBe", spec := "fnExactCouldBe", unfollowed := true, recurses := true, apart := false, narrowed := true }
def FnExactCouldBeUptoSaid : Prop := fnExactCouldBeUptoRow.holds Try.pinned (OpenSpec.upto fnExactCouldBeSpec)

end Rows
end Go.Proofs.Ytggeemkjgpjahaa
