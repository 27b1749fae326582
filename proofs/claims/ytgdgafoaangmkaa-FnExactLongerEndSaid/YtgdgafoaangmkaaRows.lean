/-
  No cell of these rows narrows 'for every input' (looked for: loops, veiled, ifaces, maps, wideKeys, modest, calm, conditions, laid).
  DERIVED. THE GIVEN ROWS OF THIS SEAT. 10 by the template 'for every input the law returns true; each argument reads behind the call as it read before'; 0 by the template 'total and deterministic' (their statements: YtgdgafoaangmkaaTotals.lean).
  GIVEN WITH THE SEED: the statements are not yours to turn. If you find one false, say at which input.
  Laid BY PROGRAM, IN A SANDBOX (cutbox-rows.mjs): the forced cells as the released guide's own fill.sh prints them over the translation d69bcb89925a965b… (all of the seat's roots in one cut). By AI agents, Wed Nov 11 2026. No macro, syntax, notation, axiom, sorry.
-/
import Derived.Test.YtgdgafoaangmkaaChecked
import GoSem.Claim
import GoSem.ClaimJoined
import GoSem.ClaimMapViews
import Derived.JoinedTies
import Derived.KernelRfl
namespace Go.Proofs.Ytgdgafoaangmkaa
/- THE CELL 'sum', in the pinned program and in every row, IS THE sha256 OF THE DUMP (.gsa) THAT YtgdgafoaangmkaaProg.lean LOADS. Nothing in Lean hashes anything: it is a label: what it is worth is what the hold of that sum in a sandbox is worth. -/
noncomputable def Try.pinned : Pinned := { name := "ytgdgafoaangmkaa", sum := "d69bcb89925a965be8f2e8f476427c88df089749e0176681237fcb3f6daa31bb", checked := Try.checked }
namespace Rows
def none {H : Type} : Left H := { results := [], args := [] }

/-- 'laws.FnEndOk': WHATEVER THE INPUT: true; the input reads as it did. -/
def fnEndOkSpec : ChangeSpec := { name := "fnEndOk", fn := fun _ => fun
  | [d] => { results := [.lit (.bool true)], args := [d] }
  | _ => none }
def fnEndOkRow : OpenClaim := { program := "ytgdgafoaangmkaa", sum := "d69bcb89925a965be8f2e8f476427c88df089749e0176681237fcb3f6daa31bb", func := "loop.example/returningdigits/laws.FnEndOk", spec := "fnEndOk", apart := false }
def FnEndOkSaid : Prop := fnEndOkRow.holds Try.pinned (OpenSpec.ofChange fnEndOkSpec)

/-- ITS FALSE NEIGHBOUR: 'it returns false'. Refute it at one input. -/
def fnEndOkWrong : ChangeSpec := { name := "fnEndOk", fn := fun _ => fun
  | [d] => { results := [.lit (.bool false)], args := [d] }
  | _ => none }
def FnEndOkWrongFalsely : Prop := fnEndOkRow.holds Try.pinned (OpenSpec.ofChange fnEndOkWrong)

/-- 'laws.FnEndsOf': WHATEVER THE INPUT: true; the input reads as it did. -/
def fnEndsOfSpec : ChangeSpec := { name := "fnEndsOf", fn := fun _ => fun
  | [d] => { results := [.lit (.bool true)], args := [d] }
  | _ => none }
def fnEndsOfRow : OpenClaim := { program := "ytgdgafoaangmkaa", sum := "d69bcb89925a965be8f2e8f476427c88df089749e0176681237fcb3f6daa31bb", func := "loop.example/returningdigits/laws.FnEndsOf", spec := "fnEndsOf", recurses := true, apart := false }
def FnEndsOfSaid : Prop := fnEndsOfRow.holds Try.pinned (OpenSpec.ofChange fnEndsOfSpec)

/-- ITS FALSE NEIGHBOUR: 'it returns false'. Refute it at one input. -/
def fnEndsOfWrong : ChangeSpec := { name := "fnEndsOf", fn := fun _ => fun
  | [d] => { results := [.lit (.bool false)], args := [d] }
  | _ => none }
def FnEndsOfWrongFalsely : Prop := fnEndsOfRow.holds Try.pinned (OpenSpec.ofChange fnEndsOfWrong)

/-- 'laws.FnOtherEnd': WHATEVER THE INPUT: true; the input reads as it did. -/
def fnOtherEndSpec : ChangeSpec := { name := "fnOtherEnd", fn := fun _ => fun
  | [d] => { results := [.lit (.bool true)], args := [d] }
  | _ => none }
def fnOtherEndRow : OpenClaim := { program := "ytgdgafoaangmkaa", sum := "d69bcb89925a965be8f2e8f476427c88df089749e0176681237fcb3f6daa31bb", func := "loop.example/returningdigits/laws.FnOtherEnd", spec := "fnOtherEnd", apart := false }
def FnOtherEndSaid : Prop := fnOtherEndRow.holds Try.pinned (OpenSpec.ofChange fnOtherEndSpec)

/-- ITS FALSE NEIGHBOUR: 'it returns false'. Refute it at one input. -/
def fnOtherEndWrong : ChangeSpec := { name := "fnOtherEnd", fn := fun _ => fun
  | [d] => { results := [.lit (.bool false)], args := [d] }
  | _ => none }
def FnOtherEndWrongFalsely : Prop := fnOtherEndRow.holds Try.pinned (OpenSpec.ofChange fnOtherEndWrong)

/-- 'laws.FnLongerEnd': WHATEVER THE INPUT: true; the input reads as it did. -/
def fnLongerEndSpec : ChangeSpec := { name := "fnLongerEnd", fn := fun _ => fun
  | [d] => { results := [.lit (.bool true)], args := [d] }
  | _ => none }
def fnLongerEndRow : OpenClaim := { program := "ytgdgafoaangmkaa", sum := "d69bcb89925a965be8f2e8f476427c88df089749e0176681237fcb3f6daa31bb", func := "loop.example/returningdigits/laws.FnLongerEnd", spec := "fnLongerEnd", recurses := true, apart := false }
def FnLongerEndSaid : Prop := fnLongerEndRow.holds Try.pinned (OpenSpec.ofChange fnLongerEndSpec)

/-- ITS FALSE NEIGHBOUR: 'it returns false'. Refute it at one input. -/
def fnLongerEndWrong : ChangeSpec := { name := "fnLongerEnd", fn := fun _ => fun
  | [d] => { results := [.lit (.bool false)], args := [d] }
  | _ => none }
def FnLongerEndWrongFalsely : Prop := fnLongerEndRow.holds Try.pinned (OpenSpec.ofChange fnLongerEndWrong)

/-- 'laws.FnPrimesOf': WHATEVER THE INPUT: true; the input reads as it did. -/
def fnPrimesOfSpec : ChangeSpec := { name := "fnPrimesOf", fn := fun _ => fun
  | [d] => { results := [.lit (.bool true)], args := [d] }
  | _ => none }
def fnPrimesOfRow : OpenClaim := { program := "ytgdgafoaangmkaa", sum := "d69bcb89925a965be8f2e8f476427c88df089749e0176681237fcb3f6daa31bb", func := "loop.example/returningdigits/laws.FnPrimesOf", spec := "fnPrimesOf", recurses := true, apart := false }
def FnPrimesOfSaid : Prop := fnPrimesOfRow.holds Try.pinned (OpenSpec.ofChange fnPrimesOfSpec)

/-- ITS FALSE NEIGHBOUR: 'it returns false'. Refute it at one input. -/
def fnPrimesOfWrong : ChangeSpec := { name := "fnPrimesOf", fn := fun _ => fun
  | [d] => { results := [.lit (.bool false)], args := [d] }
  | _ => none }
def FnPrimesOfWrongFalsely : Prop := fnPrimesOfRow.holds Try.pinned (OpenSpec.ofChange fnPrimesOfWrong)

/-- 'laws.FnExactEndOk': WHATEVER THE INPUT: true; the input reads as it did. -/
def fnExactEndOkSpec : ChangeSpec := { name := "fnExactEndOk", fn := fun _ => fun
  | [d1, d2, d3] => { results := [.lit (.bool true)], args := [d1, d2, d3] }
  | _ => none }
def fnExactEndOkRow : OpenClaim := { program := "ytgdgafoaangmkaa", sum := "d69bcb89925a965be8f2e8f476427c88df089749e0176681237fcb3f6daa31bb", func := "loop.example/returningdigits/laws.FnExactEndOk", spec := "fnExactEndOk", apart := false }
def FnExactEndOkSaid : Prop := fnExactEndOkRow.holds Try.pinned (OpenSpec.ofChange fnExactEndOkSpec)

/-- ITS FALSE NEIGHBOUR: 'it returns false'. Refute it at one input. -/
def fnExactEndOkWrong : ChangeSpec := { name := "fnExactEndOk", fn := fun _ => fun
  | [d1, d2, d3] => { results := [.lit (.bool false)], args := [d1, d2, d3] }
  | _ => none }
def FnExactEndOkWrongFalsely : Prop := fnExactEndOkRow.holds Try.pinned (OpenSpec.ofChange fnExactEndOkWrong)

/-- 'laws.FnExactEndsOf': WHATEVER THE INPUT: true; the input reads as it did. -/
def fnExactEndsOfSpec : ChangeSpec := { name := "fnExactEndsOf", fn := fun _ => fun
  | [d1, d2] => { results := [.lit (.bool true)], args := [d1, d2] }
  | _ => none }
def fnExactEndsOfRow : OpenClaim := { program := "ytgdgafoaangmkaa", sum := "d69bcb89925a965be8f2e8f476427c88df089749e0176681237fcb3f6daa31bb", func := "loop.example/returningdigits/laws.FnExactEndsOf", spec := "fnExactEndsOf", recurses := true, apart := false }
def FnExactEndsOfSaid : Prop := fnExactEndsOfRow.holds Try.pinned (OpenSpec.ofChange fnExactEndsOfSpec)

/-- ITS FALSE NEIGHBOUR: 'it returns false'. Refute it at one input. -/
def fnExactEndsOfWrong : ChangeSpec := { name := "fnExactEndsOf", fn := fun _ => fun
  | [d1, d2] => { results := [.lit (.bool false)], args := [d1, d2] }
  | _ => none }
def FnExactEndsOfWrongFalsely : Prop := fnExactEndsOfRow.holds Try.pinned (OpenSpec.ofChange fnExactEndsOfWrong)

/-- 'laws.FnExactOtherEnd': WHATEVER THE INPUT: true; the input reads as it did. -/
def fnExactOtherEndSpec : ChangeSpec := { name := "fnExactOtherEnd", fn := fun _ => fun
  | [d1, d2, d3] => { results := [.lit (.bool true)], args := [d1, d2, d3] }
  | _ => none }
def fnExactOtherEndRow : OpenClaim := { program := "ytgdgafoaangmkaa", sum := "d69bcb89925a965be8f2e8f476427c88df089749e0176681237fcb3f6daa31bb", func := "loop.example/returningdigits/laws.FnExactOtherEnd", spec := "fnExactOtherEnd", apart := false }
def FnExactOtherEndSaid : Prop := fnExactOtherEndRow.holds Try.pinned (OpenSpec.ofChange fnExactOtherEndSpec)

/-- ITS FALSE NEIGHBOUR: 'it returns false'. Refute it at one input. -/
def fnExactOtherEndWrong : ChangeSpec := { name := "fnExactOtherEnd", fn := fun _ => fun
  | [d1, d2, d3] => { results := [.lit (.bool false)], args := [d1, d2, d3] }
  | _ => none }
def FnExactOtherEndWrongFalsely : Prop := fnExactOtherEndRow.holds Try.pinned (OpenSpec.ofChange fnExactOtherEndWrong)

/-- 'laws.FnExactLongerEnd': WHATEVER THE INPUT: true; the input reads as it did. -/
def fnExactLongerEndSpec : ChangeSpec := { name := "fnExactLongerEnd", fn := fun _ => fun
  | [d1, d2, d3] => { results := [.lit (.bool true)], args := [d1, d2, d3] }
  | _ => none }
def fnExactLongerEndRow : OpenClaim := { program := "ytgdgafoaangmkaa", sum := "d69bcb89925a965be8f2e8f476427c88df089749e0176681237fcb3f6daa31bb", func := "loop.example/returningdigits/laws.FnExactLongerEnd", spec := "fnExactLongerEnd", apart := false }
def FnExactLongerEndSaid : Prop := fnExactLongerEndRow.holds Try.pinned (OpenSpec.ofChange fnExactLongerEndSpec)

/-- ITS FALSE NEIGHBOUR: 'it returns false'. Refute it at one input. -/
def fnExactLongerEndWrong : ChangeSpec := { name := "fnExactLongerEnd", fn := fun _ => fun
  | [d1, d2, d3] => { results := [.lit (.bool false)], args := [d1, d2, d3] }
  | _ => none }
def FnExactLongerEndWrongFalsely : Prop := fnExactLongerEndRow.holds Try.pinned (OpenSpec.ofChange fnExactLongerEndWrong)

/-- 'laws.FnExactPrimesOf': WHATEVER THE INPUT: true; the input reads as it did. -/
def fnExactPrimesOfSpec : ChangeSpec := { name := "fnExactPrimesOf", fn := fun _ => fun
  | [d] => { results := [.lit (.bool true)], args := [d] }
  | _ => none }
def fnExactPrimesOfRow : OpenClaim := { program := "ytgdgafoaangmkaa", sum := "d69bcb89925a965be8f2e8f476427c88df089749e0176681237fcb3f6daa31bb", func := "loop.example/returningdigits/laws.FnExactPrimesOf", spec := "fnExactPrimesOf", apart := false }
def FnExactPrimesOfSaid : Prop := fnExactPrimesOfRow.holds Try.pinned (OpenSpec.ofChange fnExactPrimesOfSpec)

/-- ITS FALSE NEIGHBOUR: 'it returns false'. Refute it at one input. -/
def fnExactPrimesOfWrong : ChangeSpec := { name := "fnExactPrimesOf", fn := fun _ => fun
  | [d] => { results := [.lit (.bool false)], args := [d] }
  | _ => none }
def FnExactPrimesOfWrongFalsely : Prop := fnExactPrimesOfRow.holds Try.pinned (OpenSpec.ofChange fnExactPrimesOfWrong)

/- THE SECOND FORM. 'bulk': how many values and letters a reading holds, each counted each time it is reached (what is shared counts as often as it is met; a slice's spare places count too). A statement '..UptoSaid' is the law's where the arguments, and the package variables that the reading takes, are together of bulk at most 1048576: NARROWER than '..Said'. Prove '..Said' where nothing that the law and all that it calls make is longer than what came in: it says more and counts as full. Else prove '..UptoSaid'. A law counts once. -/
mutual
def uptoBulk {H : Type} : DataW H → Nat
  | .lit (.string bytes) => bytes.length + 1
  | .lit _ => 1
  | .nil => 1
  | .ptr d => uptoBulk d + 1
  | .slice elems spare => uptoBulkAll elems + uptoBulkAll spare + 1
  | .agg parts => uptoBulkAll parts + 1
  | .iface _ d => uptoBulk d + 1
  | .map entries => uptoBulkEntries entries + 1
  | .held _ => 1
def uptoBulkAll {H : Type} : List (DataW H) → Nat
  | [] => 0
  | d :: r => uptoBulk d + uptoBulkAll r
def uptoBulkEntries {H : Type} : List (Lit × DataW H) → Nat
  | [] => 0
  | x :: r => uptoBulkEntry x + uptoBulkEntries r
def uptoBulkEntry {H : Type} : Lit × DataW H → Nat
  | (.string bytes, d) => bytes.length + uptoBulk d + 1
  | (_, d) => uptoBulk d + 1
 end
def uptoSmall : (H : Type) → List (DataW H) → Bool := fun _ ds => decide (uptoBulkAll ds ≤ 1048576)
def OpenSpec.upto (s : _root_.Go.ChangeSpec) : _root_.Go.OpenSpec := { _root_.Go.OpenSpec.ofChange s with cond := some uptoSmall }

/-- 'laws.FnEndOk', WHERE WHAT IT READS IS OF BULK AT MOST 1048576: true; the input reads as it did. -/
def fnEndOkUptoRow : OpenClaim := { program := "ytgdgafoaangmkaa", sum := "d69bcb89925a965be8f2e8f476427c88df089749e0176681237fcb3f6daa31bb", func := "loop.example/returningdigits/laws.FnEndOk", spec := "fnEndOk", apart := false, narrowed := true }
def FnEndOkUptoSaid : Prop := fnEndOkUptoRow.holds Try.pinned (OpenSpec.upto fnEndOkSpec)

/-- 'laws.FnEndsOf', WHERE WHAT IT READS IS OF BULK AT MOST 1048576: true; the input reads as it did. -/
def fnEndsOfUptoRow : OpenClaim := { program := "ytgdgafoaangmkaa", sum := "d69bcb89925a965be8f2e8f476427c88df089749e0176681237fcb3f6daa31bb", func := "loop.example/returningdigits/laws.FnEndsOf", spec := "fnEndsOf", recurses := true, apart := false, narrowed := true }
def FnEndsOfUptoSaid : Prop := fnEndsOfUptoRow.holds Try.pinned (OpenSpec.upto fnEndsOfSpec)

/-- 'laws.FnOtherEnd', WHERE WHAT IT READS IS OF BULK AT MOST 1048576: true; the input reads as it did. -/
def fnOtherEndUptoRow : OpenClaim := { program := "ytgdgafoaangmkaa", sum := "d69bcb89925a965be8f2e8f476427c88df089749e0176681237fcb3f6daa31bb", func := "loop.example/returningdigits/laws.FnOtherEnd", spec := "fnOtherEnd", apart := false, narrowed := true }
def FnOtherEndUptoSaid : Prop := fnOtherEndUptoRow.holds Try.pinned (OpenSpec.upto fnOtherEndSpec)

/-- 'laws.FnLongerEnd', WHERE WHAT IT READS IS OF BULK AT MOST 1048576: true; the input reads as it did. -/
def fnLongerEndUptoRow : OpenClaim := { program := "ytgdgafoaangmkaa", sum := "d69bcb89925a965be8f2e8f476427c88df089749e0176681237fcb3f6daa31bb", func := "loop.example/returningdigits/laws.FnLongerEnd", spec := "fnLongerEnd", recurses := true, apart := false, narrowed := true }
def FnLongerEndUptoSaid : Prop := fnLongerEndUptoRow.holds Try.pinned (OpenSpec.upto fnLongerEndSpec)

/-- 'laws.FnPrimesOf', WHERE WHAT IT READS IS OF BULK AT MOST 1048576: true; the input reads as it did. -/
def fnPrimesOfUptoRow : OpenClaim := { program := "ytgdgafoaangmkaa", sum := "d69bcb89925a965be8f2e8f476427c88df089749e0176681237fcb3f6daa31bb", func := "loop.example/returningdigits/laws.FnPrimesOf", spec := "fnPrimesOf", recurses := true, apart := false, narrowed := true }
def FnPrimesOfUptoSaid : Prop := fnPrimesOfUptoRow.holds Try.pinned (OpenSpec.upto fnPrimesOfSpec)

/-- 'laws.FnExactEndOk', WHERE WHAT IT READS IS OF BULK AT MOST 1048576: true; the input reads as it did. -/
def fnExactEndOkUptoRow : OpenClaim := { program := "ytgdgafoaangmkaa", sum := "d69bcb89925a965be8f2e8f476427c88df089749e0176681237fcb3f6daa31bb", func := "loop.example/returningdigits/laws.FnExactEndOk", spec := "fnExactEndOk", apart := false, narrowed := true }
def FnExactEndOkUptoSaid : Prop := fnExactEndOkUptoRow.holds Try.pinned (OpenSpec.upto fnExactEndOkSpec)

/-- 'laws.FnExactEndsOf', WHERE WHAT IT READS IS OF BULK AT MOST 1048576: true; the input reads as it did. -/
def fnExactEndsOfUptoRow : OpenClaim := { program := "ytgdgafoaangmkaa", sum := "d69bcb89925a965be8f2e8f476427c88df089749e0176681237fcb3f6daa31bb", func := "loop.example/returningdigits/laws.FnExactEndsOf", spec := "fnExactEndsOf", recurses := true, apart := false, narrowed := true }
def FnExactEndsOfUptoSaid : Prop := fnExactEndsOfUptoRow.holds Try.pinned (OpenSpec.upto fnExactEndsOfSpec)

/-- 'laws.FnExactOtherEnd', WHERE WHAT IT READS IS OF BULK AT MOST 1048576: true; the input reads as it did. -/
def fnExactOtherEndUptoRow : OpenClaim := { program := "ytgdgafoaangmkaa", sum := "d69bcb89925a965be8f2e8f476427c88df089749e0176681237fcb3f6daa31bb", func := "loop.example/returningdigits/laws.FnExactOtherEnd", spec := "fnExactOtherEnd", apart := false, narrowed := true }
def FnExactOtherEndUptoSaid : Prop := fnExactOtherEndUptoRow.holds Try.pinned (OpenSpec.upto fnExactOtherEndSpec)

/-- 'laws.FnExactLongerEnd', WHERE WHAT IT READS IS OF BULK AT MOST 1048576: true; the input reads as it did. -/
def fnExactLongerEndUptoRow : OpenClaim := { program := "ytgdgafoaangmkaa", sum := "d69bcb89925a965be8f2e8f476427c88df089749e0176681237fcb3f6daa31bb", func := "loop.example/returningdigits/laws.FnExactLongerEnd", spec := "fnExactLongerEnd", apart := false, narrowed := true }
def FnExactLongerEndUptoSaid : Prop := fnExactLongerEndUptoRow.holds Try.pinned (OpenSpec.upto fnExactLongerEndSpec)

/-- 'laws.FnExactPrimesOf', WHERE WHAT IT READS IS OF BULK AT MOST 1048576: true; the input reads as it did. -/
def fnExactPrimesOfUptoRow : OpenClaim := { program := "ytgdgafoaangmkaa", sum := "d69bcb89925a965be8f2e8f476427c88df089749e0176681237fcb3f6daa31bb", func := "loop.example/returningdigits/laws.FnExactPrimesOf", spec := "fnExactPrimesOf", apart := false, narrowed := true }
def FnExactPrimesOfUptoSaid : Prop := fnExactPrimesOfUptoRow.holds Try.pinned (OpenSpec.upto fnExactPrimesOfSpec)

end Rows
end Go.Proofs.Ytgdgafoaangmkaa
