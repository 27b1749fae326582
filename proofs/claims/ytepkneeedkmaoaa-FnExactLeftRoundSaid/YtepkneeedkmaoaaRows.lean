/-
  No cell of these rows narrows 'for every input' (looked for: loops, veiled, ifaces, maps, wideKeys, modest, calm, conditions, laid).
  DERIVED. THE GIVEN ROWS OF THIS SEAT. 12 by the template 'for every input the law returns true; each argument reads behind the call as it read before'; 0 by the template 'total and deterministic' (their statements: YtepkneeedkmaoaaTotals.lean).
  GIVEN WITH THE SEED: the statements are not yours to turn. If you find one false, say at which input.
  Laid BY PROGRAM, IN A SANDBOX (cutbox-rows.mjs): the forced cells as the released guide's own fill.sh prints them over the translation b0df59564d92e92e… (all of the seat's roots in one cut). By AI agents, Wed Nov 11 2026. No macro, syntax, notation, axiom, sorry.
-/
import Derived.Test.YtepkneeedkmaoaaChecked
import GoSem.Claim
import GoSem.ClaimJoined
import GoSem.ClaimMapViews
import Derived.JoinedTies
import Derived.KernelRfl
namespace Go.Proofs.Ytepkneeedkmaoaa
/- THE CELL 'sum', in the pinned program and in every row, IS THE sha256 OF THE DUMP (.gsa) THAT YtepkneeedkmaoaaProg.lean LOADS. Nothing in Lean hashes anything: it is a label: what it is worth is what the hold of that sum in a sandbox is worth. -/
noncomputable def Try.pinned : Pinned := { name := "ytepkneeedkmaoaa", sum := "b0df59564d92e92e7aa7fb46b05924f8d925b23d5ebff779e6185cd90f48d3f5", checked := Try.checked }
namespace Rows
def none {H : Type} : Left H := { results := [], args := [] }

/-- 'laws.FnWideOk': WHATEVER THE INPUT: true; the input reads as it did. -/
def fnWideOkSpec : ChangeSpec := { name := "fnWideOk", fn := fun _ => fun
  | [d] => { results := [.lit (.bool true)], args := [d] }
  | _ => none }
def fnWideOkRow : OpenClaim := { program := "ytepkneeedkmaoaa", sum := "b0df59564d92e92e7aa7fb46b05924f8d925b23d5ebff779e6185cd90f48d3f5", func := "loop.example/returningdigits/laws.FnWideOk", spec := "fnWideOk", unfollowed := true, recurses := true, apart := false }
def FnWideOkSaid : Prop := fnWideOkRow.holds Try.pinned (OpenSpec.ofChange fnWideOkSpec)

/-- ITS FALSE NEIGHBOUR: 'it returns false'. Refute it at one input. -/
def fnWideOkWrong : ChangeSpec := { name := "fnWideOk", fn := fun _ => fun
  | [d] => { results := [.lit (.bool false)], args := [d] }
  | _ => none }
def FnWideOkWrongFalsely : Prop := fnWideOkRow.holds Try.pinned (OpenSpec.ofChange fnWideOkWrong)

/-- 'laws.FnDownOf': WHATEVER THE INPUT: true; the input reads as it did. -/
def fnDownOfSpec : ChangeSpec := { name := "fnDownOf", fn := fun _ => fun
  | [d] => { results := [.lit (.bool true)], args := [d] }
  | _ => none }
def fnDownOfRow : OpenClaim := { program := "ytepkneeedkmaoaa", sum := "b0df59564d92e92e7aa7fb46b05924f8d925b23d5ebff779e6185cd90f48d3f5", func := "loop.example/returningdigits/laws.FnDownOf", spec := "fnDownOf", unfollowed := true, recurses := true, apart := false }
def FnDownOfSaid : Prop := fnDownOfRow.holds Try.pinned (OpenSpec.ofChange fnDownOfSpec)

/-- ITS FALSE NEIGHBOUR: 'it returns false'. Refute it at one input. -/
def fnDownOfWrong : ChangeSpec := { name := "fnDownOf", fn := fun _ => fun
  | [d] => { results := [.lit (.bool false)], args := [d] }
  | _ => none }
def FnDownOfWrongFalsely : Prop := fnDownOfRow.holds Try.pinned (OpenSpec.ofChange fnDownOfWrong)

/-- 'laws.FnUpOf': WHATEVER THE INPUT: true; the input reads as it did. -/
def fnUpOfSpec : ChangeSpec := { name := "fnUpOf", fn := fun _ => fun
  | [d] => { results := [.lit (.bool true)], args := [d] }
  | _ => none }
def fnUpOfRow : OpenClaim := { program := "ytepkneeedkmaoaa", sum := "b0df59564d92e92e7aa7fb46b05924f8d925b23d5ebff779e6185cd90f48d3f5", func := "loop.example/returningdigits/laws.FnUpOf", spec := "fnUpOf", unfollowed := true, recurses := true, apart := false }
def FnUpOfSaid : Prop := fnUpOfRow.holds Try.pinned (OpenSpec.ofChange fnUpOfSpec)

/-- ITS FALSE NEIGHBOUR: 'it returns false'. Refute it at one input. -/
def fnUpOfWrong : ChangeSpec := { name := "fnUpOf", fn := fun _ => fun
  | [d] => { results := [.lit (.bool false)], args := [d] }
  | _ => none }
def FnUpOfWrongFalsely : Prop := fnUpOfRow.holds Try.pinned (OpenSpec.ofChange fnUpOfWrong)

/-- 'laws.FnLeftOf': WHATEVER THE INPUT: true; the input reads as it did. -/
def fnLeftOfSpec : ChangeSpec := { name := "fnLeftOf", fn := fun _ => fun
  | [d] => { results := [.lit (.bool true)], args := [d] }
  | _ => none }
def fnLeftOfRow : OpenClaim := { program := "ytepkneeedkmaoaa", sum := "b0df59564d92e92e7aa7fb46b05924f8d925b23d5ebff779e6185cd90f48d3f5", func := "loop.example/returningdigits/laws.FnLeftOf", spec := "fnLeftOf", unfollowed := true, recurses := true, apart := false }
def FnLeftOfSaid : Prop := fnLeftOfRow.holds Try.pinned (OpenSpec.ofChange fnLeftOfSpec)

/-- ITS FALSE NEIGHBOUR: 'it returns false'. Refute it at one input. -/
def fnLeftOfWrong : ChangeSpec := { name := "fnLeftOf", fn := fun _ => fun
  | [d] => { results := [.lit (.bool false)], args := [d] }
  | _ => none }
def FnLeftOfWrongFalsely : Prop := fnLeftOfRow.holds Try.pinned (OpenSpec.ofChange fnLeftOfWrong)

/-- 'laws.FnLeftRound': WHATEVER THE INPUT: true; the input reads as it did. -/
def fnLeftRoundSpec : ChangeSpec := { name := "fnLeftRound", fn := fun _ => fun
  | [d] => { results := [.lit (.bool true)], args := [d] }
  | _ => none }
def fnLeftRoundRow : OpenClaim := { program := "ytepkneeedkmaoaa", sum := "b0df59564d92e92e7aa7fb46b05924f8d925b23d5ebff779e6185cd90f48d3f5", func := "loop.example/returningdigits/laws.FnLeftRound", spec := "fnLeftRound", unfollowed := true, recurses := true, apart := false }
def FnLeftRoundSaid : Prop := fnLeftRoundRow.holds Try.pinned (OpenSpec.ofChange fnLeftRoundSpec)

/-- ITS FALSE NEIGHBOUR: 'it returns false'. Refute it at one input. -/
def fnLeftRoundWrong : ChangeSpec := { name := "fnLeftRound", fn := fun _ => fun
  | [d] => { results := [.lit (.bool false)], args := [d] }
  | _ => none }
def FnLeftRoundWrongFalsely : Prop := fnLeftRoundRow.holds Try.pinned (OpenSpec.ofChange fnLeftRoundWrong)

/-- 'laws.FnAlikeOk': WHATEVER THE INPUT: true; the input reads as it did. -/
def fnAlikeOkSpec : ChangeSpec := { name := "fnAlikeOk", fn := fun _ => fun
  | [d] => { results := [.lit (.bool true)], args := [d] }
  | _ => none }
def fnAlikeOkRow : OpenClaim := { program := "ytepkneeedkmaoaa", sum := "b0df59564d92e92e7aa7fb46b05924f8d925b23d5ebff779e6185cd90f48d3f5", func := "loop.example/returningdigits/laws.FnAlikeOk", spec := "fnAlikeOk", unfollowed := true, recurses := true, apart := false }
def FnAlikeOkSaid : Prop := fnAlikeOkRow.holds Try.pinned (OpenSpec.ofChange fnAlikeOkSpec)

/-- ITS FALSE NEIGHBOUR: 'it returns false'. Refute it at one input. -/
def fnAlikeOkWrong : ChangeSpec := { name := "fnAlikeOk", fn := fun _ => fun
  | [d] => { results := [.lit (.bool false)], args := [d] }
  | _ => none }
def FnAlikeOkWrongFalsely : Prop := fnAlikeOkRow.holds Try.pinned (OpenSpec.ofChange fnAlikeOkWrong)

/-- 'laws.FnExactWideOk': WHATEVER THE INPUT: true; the input reads as it did. -/
def fnExactWideOkSpec : ChangeSpec := { name := "fnExactWideOk", fn := fun _ => fun
  | [d1, d2, d3] => { results := [.lit (.bool true)], args := [d1, d2, d3] }
  | _ => none }
def fnExactWideOkRow : OpenClaim := { program := "ytepkneeedkmaoaa", sum := "b0df59564d92e92e7aa7fb46b05924f8d925b23d5ebff779e6185cd90f48d3f5", func := "loop.example/returningdigits/laws.FnExactWideOk", spec := "fnExactWideOk", unfollowed := true, recurses := true, apart := false }
def FnExactWideOkSaid : Prop := fnExactWideOkRow.holds Try.pinned (OpenSpec.ofChange fnExactWideOkSpec)

/-- ITS FALSE NEIGHBOUR: 'it returns false'. Refute it at one input. -/
def fnExactWideOkWrong : ChangeSpec := { name := "fnExactWideOk", fn := fun _ => fun
  | [d1, d2, d3] => { results := [.lit (.bool false)], args := [d1, d2, d3] }
  | _ => none }
def FnExactWideOkWrongFalsely : Prop := fnExactWideOkRow.holds Try.pinned (OpenSpec.ofChange fnExactWideOkWrong)

/-- 'laws.FnExactDownOf': WHATEVER THE INPUT: true; the input reads as it did. -/
def fnExactDownOfSpec : ChangeSpec := { name := "fnExactDownOf", fn := fun _ => fun
  | [d1, d2, d3] => { results := [.lit (.bool true)], args := [d1, d2, d3] }
  | _ => none }
def fnExactDownOfRow : OpenClaim := { program := "ytepkneeedkmaoaa", sum := "b0df59564d92e92e7aa7fb46b05924f8d925b23d5ebff779e6185cd90f48d3f5", func := "loop.example/returningdigits/laws.FnExactDownOf", spec := "fnExactDownOf", unfollowed := true, recurses := true, apart := false }
def FnExactDownOfSaid : Prop := fnExactDownOfRow.holds Try.pinned (OpenSpec.ofChange fnExactDownOfSpec)

/-- ITS FALSE NEIGHBOUR: 'it returns false'. Refute it at one input. -/
def fnExactDownOfWrong : ChangeSpec := { name := "fnExactDownOf", fn := fun _ => fun
  | [d1, d2, d3] => { results := [.lit (.bool false)], args := [d1, d2, d3] }
  | _ => none }
def FnExactDownOfWrongFalsely : Prop := fnExactDownOfRow.holds Try.pinned (OpenSpec.ofChange fnExactDownOfWrong)

/-- 'laws.FnExactUpOf': WHATEVER THE INPUT: true; the input reads as it did. -/
def fnExactUpOfSpec : ChangeSpec := { name := "fnExactUpOf", fn := fun _ => fun
  | [d1, d2, d3] => { results := [.lit (.bool true)], args := [d1, d2, d3] }
  | _ => none }
def fnExactUpOfRow : OpenClaim := { program := "ytepkneeedkmaoaa", sum := "b0df59564d92e92e7aa7fb46b05924f8d925b23d5ebff779e6185cd90f48d3f5", func := "loop.example/returningdigits/laws.FnExactUpOf", spec := "fnExactUpOf", unfollowed := true, recurses := true, apart := false }
def FnExactUpOfSaid : Prop := fnExactUpOfRow.holds Try.pinned (OpenSpec.ofChange fnExactUpOfSpec)

/-- ITS FALSE NEIGHBOUR: 'it returns false'. Refute it at one input. -/
def fnExactUpOfWrong : ChangeSpec := { name := "fnExactUpOf", fn := fun _ => fun
  | [d1, d2, d3] => { results := [.lit (.bool false)], args := [d1, d2, d3] }
  | _ => none }
def FnExactUpOfWrongFalsely : Prop := fnExactUpOfRow.holds Try.pinned (OpenSpec.ofChange fnExactUpOfWrong)

/-- 'laws.FnExactLeftOf': WHATEVER THE INPUT: true; the input reads as it did. -/
def fnExactLeftOfSpec : ChangeSpec := { name := "fnExactLeftOf", fn := fun _ => fun
  | [d1, d2, d3] => { results := [.lit (.bool true)], args := [d1, d2, d3] }
  | _ => none }
def fnExactLeftOfRow : OpenClaim := { program := "ytepkneeedkmaoaa", sum := "b0df59564d92e92e7aa7fb46b05924f8d925b23d5ebff779e6185cd90f48d3f5", func := "loop.example/returningdigits/laws.FnExactLeftOf", spec := "fnExactLeftOf", unfollowed := true, recurses := true, apart := false }
def FnExactLeftOfSaid : Prop := fnExactLeftOfRow.holds Try.pinned (OpenSpec.ofChange fnExactLeftOfSpec)

/-- ITS FALSE NEIGHBOUR: 'it returns false'. Refute it at one input. -/
def fnExactLeftOfWrong : ChangeSpec := { name := "fnExactLeftOf", fn := fun _ => fun
  | [d1, d2, d3] => { results := [.lit (.bool false)], args := [d1, d2, d3] }
  | _ => none }
def FnExactLeftOfWrongFalsely : Prop := fnExactLeftOfRow.holds Try.pinned (OpenSpec.ofChange fnExactLeftOfWrong)

/-- 'laws.FnExactLeftRound': WHATEVER THE INPUT: true; the input reads as it did. -/
def fnExactLeftRoundSpec : ChangeSpec := { name := "fnExactLeftRound", fn := fun _ => fun
  | [d1, d2, d3] => { results := [.lit (.bool true)], args := [d1, d2, d3] }
  | _ => none }
def fnExactLeftRoundRow : OpenClaim := { program := "ytepkneeedkmaoaa", sum := "b0df59564d92e92e7aa7fb46b05924f8d925b23d5ebff779e6185cd90f48d3f5", func := "loop.example/returningdigits/laws.FnExactLeftRound", spec := "fnExactLeftRound", unfollowed := true, recurses := true, apart := false }
def FnExactLeftRoundSaid : Prop := fnExactLeftRoundRow.holds Try.pinned (OpenSpec.ofChange fnExactLeftRoundSpec)

/-- ITS FALSE NEIGHBOUR: 'it returns false'. Refute it at one input. -/
def fnExactLeftRoundWrong : ChangeSpec := { name := "fnExactLeftRound", fn := fun _ => fun
  | [d1, d2, d3] => { results := [.lit (.bool false)], args := [d1, d2, d3] }
  | _ => none }
def FnExactLeftRoundWrongFalsely : Prop := fnExactLeftRoundRow.holds Try.pinned (OpenSpec.ofChange fnExactLeftRoundWrong)

/-- 'laws.FnExactAlikeOk': WHATEVER THE INPUT: true; the input reads as it did. -/
def fnExactAlikeOkSpec : ChangeSpec := { name := "fnExactAlikeOk", fn := fun _ => fun
  | [d1, d2, d3] => { results := [.lit (.bool true)], args := [d1, d2, d3] }
  | _ => none }
def fnExactAlikeOkRow : OpenClaim := { program := "ytepkneeedkmaoaa", sum := "b0df59564d92e92e7aa7fb46b05924f8d925b23d5ebff779e6185cd90f48d3f5", func := "loop.example/returningdigits/laws.FnExactAlikeOk", spec := "fnExactAlikeOk", unfollowed := true, recurses := true, apart := false }
def FnExactAlikeOkSaid : Prop := fnExactAlikeOkRow.holds Try.pinned (OpenSpec.ofChange fnExactAlikeOkSpec)

/-- ITS FALSE NEIGHBOUR: 'it returns false'. Refute it at one input. -/
def fnExactAlikeOkWrong : ChangeSpec := { name := "fnExactAlikeOk", fn := fun _ => fun
  | [d1, d2, d3] => { results := [.lit (.bool false)], args := [d1, d2, d3] }
  | _ => none }
def FnExactAlikeOkWrongFalsely : Prop := fnExactAlikeOkRow.holds Try.pinned (OpenSpec.ofChange fnExactAlikeOkWrong)

/- THE SECOND FORM. 'bulk': how many values and letters a reading holds, each counted each time it is reached (what is shared counts as often as it is met; a slice's spare places count too). A statement '..UptoSaid' is the law's where the arguments, and the package variables that the reading takes, are together of bulk at most 1048576: NARROWER than '..Said'. Prove '..Said' where nothing that the law and all that it calls make is longer than what came in: it says more and counts as full. Else prove '..UptoSaid'. A law counts once. -/
mutual
def uptoBulk {H : Type} : DataW H → Nat
  | .lit (.string bytes) => bytes.length + 1
  | .lit _ => 1
  | .nil => 1
  | .ptr d => uptoBulk d + 1
  | .slice elems spare => uptoBulkAll elems + uptoBulkAll spare + 1
  | .agg parts => uptoBulkAll parts + 1
  | .iface _ d => uptoBulk d + 1
  | .map entries => uptoBulkEntries entries + 1
  | .held _ => 1
def uptoBulkAll {H : Type} : List (DataW H) → Nat
  | [] => 0
  | d :: r => uptoBulk d + uptoBulkAll r
def uptoBulkEntries {H : Type} : List (Lit × DataW H) → Nat
  | [] => 0
  | x :: r => uptoBulkEntry x + uptoBulkEntries r
def uptoBulkEntry {H : Type} : Lit × DataW H → Nat
  | (.string bytes, d) => bytes.length + uptoBulk d + 1
  | (_, d) => uptoBulk d + 1
 end
def uptoSmall : (H : Type) → List (DataW H) → Bool := fun _ ds => decide (uptoBulkAll ds ≤ 1048576)
def OpenSpec.upto (s : _root_.Go.ChangeSpec) : _root_.Go.OpenSpec := { _root_.Go.OpenSpec.ofChange s with cond := some uptoSmall }

/-- 'laws.FnWideOk', WHERE WHAT IT READS IS OF BULK AT MOST 1048576: true; the input reads as it did. -/
def fnWideOkUptoRow : OpenClaim := { program := "ytepkneeedkmaoaa", sum := "b0df59564d92e92e7aa7fb46b05924f8d925b23d5ebff779e6185cd90f48d3f5", func := "loop.example/returningdigits/laws.FnWideOk", spec := "fnWideOk", unfollowed := true, recurses := true, apart := false, narrowed := true }
def FnWideOkUptoSaid : Prop := fnWideOkUptoRow.holds Try.pinned (OpenSpec.upto fnWideOkSpec)

/-- 'laws.FnDownOf', WHERE WHAT IT READS IS OF BULK AT MOST 1048576: true; the input reads as it did. -/
def fnDownOfUptoRow : OpenClaim := { program := "ytepkneeedkmaoaa", sum := "b0df59564d92e92e7aa7fb46b05924f8d925b23d5ebff779e6185cd90f48d3f5", func := "loop.example/returningdigits/laws.FnDownOf", spec := "fnDownOf", unfollowed := true, recurses := true, apart := false, narrowed := true }
def FnDownOfUptoSaid : Prop := fnDownOfUptoRow.holds Try.pinned (OpenSpec.upto fnDownOfSpec)

/-- 'laws.FnUpOf', WHERE WHAT IT READS IS OF BULK AT MOST 1048576: true; the input reads as it did. -/
def fnUpOfUptoRow : OpenClaim := { program := "ytepkneeedkmaoaa", sum := "b0df59564d92e92e7aa7fb46b05924f8d925b23d5ebff779e6185cd90f48d3f5", func := "loop.example/returningdigits/laws.FnUpOf", spec := "fnUpOf", unfollowed := true, recurses := true, apart := false, narrowed := true }
def FnUpOfUptoSaid : Prop := fnUpOfUptoRow.holds Try.pinned (OpenSpec.upto fnUpOfSpec)

/-- 'laws.FnLeftOf', WHERE WHAT IT READS IS OF BULK AT MOST 1048576: true; the input reads as it did. -/
def fnLeftOfUptoRow : OpenClaim := { program := "ytepkneeedkmaoaa", sum := "b0df59564d92e92e7aa7fb46b05924f8d925b23d5ebff779e6185cd90f48d3f5", func := "loop.example/returningdigits/laws.FnLeftOf", spec := "fnLeftOf", unfollowed := true, recurses := true, apart := false, narrowed := true }
def FnLeftOfUptoSaid : Prop := fnLeftOfUptoRow.holds Try.pinned (OpenSpec.upto fnLeftOfSpec)

/-- 'laws.FnLeftRound', WHERE WHAT IT READS IS OF BULK AT MOST 1048576: true; the input reads as it did. -/
def fnLeftRoundUptoRow : OpenClaim := { program := "ytepkneeedkmaoaa", sum := "b0df59564d92e92e7aa7fb46b05924f8d925b23d5ebff779e6185cd90f48d3f5", func := "loop.example/returningdigits/laws.FnLeftRound", spec := "fnLeftRound", unfollowed := true, recurses := true, apart := false, narrowed := true }
def FnLeftRoundUptoSaid : Prop := fnLeftRoundUptoRow.holds Try.pinned (OpenSpec.upto fnLeftRoundSpec)

/-- 'laws.FnAlikeOk', WHERE WHAT IT READS IS OF BULK AT MOST 1048576: true; the input reads as it did. -/
def fnAlikeOkUptoRow : OpenClaim := { program := "ytepkneeedkmaoaa", sum := "b0df59564d92e92e7aa7fb46b05924f8d925b23d5ebff779e6185cd90f48d3f5", func := "loop.example/returningdigits/laws.FnAlikeOk", spec := "fnAlikeOk", unfollowed := true, recurses := true, apart := false, narrowed := true }
def FnAlikeOkUptoSaid : Prop := fnAlikeOkUptoRow.holds Try.pinned (OpenSpec.upto fnAlikeOkSpec)

/-- 'laws.FnExactWideOk', WHERE WHAT IT READS IS OF BULK AT MOST 1048576: true; the input reads as it did. -/
def fnExactWideOkUptoRow : OpenClaim := { program := "ytepkneeedkmaoaa", sum := "b0df59564d92e92e7aa7fb46b05924f8d925b23d5ebff779e6185cd90f48d3f5", func := "loop.example/returningdigits/laws.FnExactWideOk", spec := "fnExactWideOk", unfollowed := true, recurses := true, apart := false, narrowed := true }
def FnExactWideOkUptoSaid : Prop := fnExactWideOkUptoRow.holds Try.pinned (OpenSpec.upto fnExactWideOkSpec)

/-- 'laws.FnExactDownOf', WHERE WHAT IT READS IS OF BULK AT MOST 1048576: true; the input reads as it did. -/
def fnExactDownOfUptoRow : OpenClaim := { program := "ytepkneeedkmaoaa", sum := "b0df59564d92e92e7aa7fb46b05924f8d925b23d5ebff779e6185cd90f48d3f5", func := "loop.example/returningdigits/laws.FnExactDownOf", spec := "fnExactDownOf", unfollowed := true, recurses := true, apart := false, narrowed := true }
def FnExactDownOfUptoSaid : Prop := fnExactDownOfUptoRow.holds Try.pinned (OpenSpec.upto fnExactDownOfSpec)

/-- 'laws.FnExactUpOf', WHERE WHAT IT READS IS OF BULK AT MOST 1048576: true; the input reads as it did. -/
def fnExactUpOfUptoRow : OpenClaim := { program := "ytepkneeedkmaoaa", sum := "b0df59564d92e92e7aa7fb46b05924f8d925b23d5ebff779e6185cd90f48d3f5", func := "loop.example/returningdigits/laws.FnExactUpOf", spec := "fnExactUpOf", unfollowed := true, recurses := true, apart := false, narrowed := true }
def FnExactUpOfUptoSaid : Prop := fnExactUpOfUptoRow.holds Try.pinned (OpenSpec.upto fnExactUpOfSpec)

/-- 'laws.FnExactLeftOf', WHERE WHAT IT READS IS OF BULK AT MOST 1048576: true; the input reads as it did. -/
def fnExactLeftOfUptoRow : OpenClaim := { program := "ytepkneeedkmaoaa", sum := "b0df59564d92e92e7aa7fb46b05924f8d925b23d5ebff779e6185cd90f48d3f5", func := "loop.example/returningdigits/laws.FnExactLeftOf", spec := "fnExactLeftOf", unfollowed := true, recurses := true, apart := false, narrowed := true }
def FnExactLeftOfUptoSaid : Prop := fnExactLeftOfUptoRow.holds Try.pinned (OpenSpec.upto fnExactLeftOfSpec)

/-- 'laws.FnExactLeftRound', WHERE WHAT IT READS IS OF BULK AT MOST 1048576: true; the input reads as it did. -/
def fnExactLeftRoundUptoRow : OpenClaim := { program := "ytepkneeedkmaoaa", sum := "b0df59564d92e92e7aa7fb46b05924f8d925b23d5ebff779e6185cd90f48d3f5", func := "loop.example/returningdigits/laws.FnExactLeftRound", spec := "fnExactLeftRound", unfollowed := true, recurses := true, apart := false, narrowed := true }
def FnExactLeftRoundUptoSaid : Prop := fnExactLeftRoundUptoRow.holds Try.pinned (OpenSpec.upto fnExactLeftRoundSpec)

/-- 'laws.FnExactAlikeOk', WHERE WHAT IT READS IS OF BULK AT MOST 1048576: true; the input reads as it did. -/
def fnExactAlikeOkUptoRow : OpenClaim := { program := "ytepkneeedkmaoaa", sum := "b0df59564d92e92e7aa7fb46b05924f8d925b23d5ebff779e6185cd90f48d3f5", func := "loop.example/returningdigits/laws.FnExactAlikeOk", spec := "fnExactAlikeOk", unfollowed := true, recurses := true, apart := false, narrowed := true }
def FnExactAlikeOkUptoSaid : Prop := fnExactAlikeOkUptoRow.holds Try.pinned (OpenSpec.upto fnExactAlikeOkSpec)

end Rows
end Go.Proofs.Ytepkneeedkmaoaa
