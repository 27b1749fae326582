/-
  No cell of these rows narrows 'for every input' (looked for: loops, veiled, ifaces, maps, wideKeys, modest, calm, conditions, laid).
  DERIVED. THE GIVEN ROWS OF THIS SEAT. 12 by the template 'for every input the law returns true; each argument reads behind the call as it read before'; 0 by the template 'total and deterministic' (their statements: YthohahnfkncecaaTotals.lean).
  GIVEN WITH THE SEED: the statements are not yours to turn. If you find one false, say at which input.
  Laid BY PROGRAM, IN A SANDBOX (cutbox-rows.mjs): the forced cells as the released guide's own fill.sh prints them over the translation b62e885ba0d3d360… (all of the seat's roots in one cut). By AI agents, Wed Nov 11 2026. No macro, syntax, notation, axiom, sorry.
-/
import Derived.Test.YthohahnfkncecaaChecked
import GoSem.Claim
import GoSem.ClaimJoined
import GoSem.ClaimMapViews
import Derived.JoinedTies
import Derived.KernelRfl
namespace Go.Proofs.Ythohahnfkncecaa
/- THE CELL 'sum', in the pinned program and in every row, IS THE sha256 OF THE DUMP (.gsa) THAT YthohahnfkncecaaProg.lean LOADS. Nothing in Lean hashes anything: it is a label: what it is worth is what the hold of that sum in a sandbox is worth. -/
noncomputable def Try.pinned : Pinned := { name := "ythohahnfkncecaa", sum := "b62e885ba0d3d360165479d09ab7a5dd2e2c85d7640a060ed6fce005ecb51c94", checked := Try.checked }
namespace Rows
def none {H : Type} : Left H := { results := [], args := [] }

/-- 'laws.FnMadeBy': WHATEVER THE INPUT: true; the input reads as it did. -/
def fnMadeBySpec : ChangeSpec := { name := "fnMadeBy", fn := fun _ => fun
  | [d] => { results := [.lit (.bool true)], args := [d] }
  | _ => none }
def fnMadeByRow : OpenClaim := { program := "ythohahnfkncecaa", sum := "b62e885ba0d3d360165479d09ab7a5dd2e2c85d7640a060ed6fce005ecb51c94", func := "loop.example/returningdigits/laws.FnMadeBy", spec := "fnMadeBy", unfollowed := true, recurses := true, apart := false }
def FnMadeBySaid : Prop := fnMadeByRow.holds Try.pinned (OpenSpec.ofChange fnMadeBySpec)

/-- ITS FALSE NEIGHBOUR: 'it returns false'. Refute it at one input. -/
def fnMadeByWrong : ChangeSpec := { name := "fnMadeBy", fn := fun _ => fun
  | [d] => { results := [.lit (.bool false)], args := [d] }
  | _ => none }
def FnMadeByWrongFalsely : Prop := fnMadeByRow.holds Try.pinned (OpenSpec.ofChange fnMadeByWrong)

/-- 'laws.FnMakersOf': WHATEVER THE INPUT: true; the input reads as it did. -/
def fnMakersOfSpec : ChangeSpec := { name := "fnMakersOf", fn := fun _ => fun
  | [d] => { results := [.lit (.bool true)], args := [d] }
  | _ => none }
def fnMakersOfRow : OpenClaim := { program := "ythohahnfkncecaa", sum := "b62e885ba0d3d360165479d09ab7a5dd2e2c85d7640a060ed6fce005ecb51c94", func := "loop.example/returningdigits/laws.FnMakersOf", spec := "fnMakersOf", unfollowed := true, recurses := true, apart := false }
def FnMakersOfSaid : Prop := fnMakersOfRow.holds Try.pinned (OpenSpec.ofChange fnMakersOfSpec)

/-- ITS FALSE NEIGHBOUR: 'it returns false'. Refute it at one input. -/
def fnMakersOfWrong : ChangeSpec := { name := "fnMakersOf", fn := fun _ => fun
  | [d] => { results := [.lit (.bool false)], args := [d] }
  | _ => none }
def FnMakersOfWrongFalsely : Prop := fnMakersOfRow.holds Try.pinned (OpenSpec.ofChange fnMakersOfWrong)

/-- 'laws.FnSelfOk': WHATEVER THE INPUT: true; the input reads as it did. -/
def fnSelfOkSpec : ChangeSpec := { name := "fnSelfOk", fn := fun _ => fun
  | [d] => { results := [.lit (.bool true)], args := [d] }
  | _ => none }
def fnSelfOkRow : OpenClaim := { program := "ythohahnfkncecaa", sum := "b62e885ba0d3d360165479d09ab7a5dd2e2c85d7640a060ed6fce005ecb51c94", func := "loop.example/returningdigits/laws.FnSelfOk", spec := "fnSelfOk", unfollowed := true, recurses := true, apart := false }
def FnSelfOkSaid : Prop := fnSelfOkRow.holds Try.pinned (OpenSpec.ofChange fnSelfOkSpec)

/-- ITS FALSE NEIGHBOUR: 'it returns false'. Refute it at one input. -/
def fnSelfOkWrong : ChangeSpec := { name := "fnSelfOk", fn := fun _ => fun
  | [d] => { results := [.lit (.bool false)], args := [d] }
  | _ => none }
def FnSelfOkWrongFalsely : Prop := fnSelfOkRow.holds Try.pinned (OpenSpec.ofChange fnSelfOkWrong)

/-- 'laws.FnSelvesUpTo': WHATEVER THE INPUT: true; the input reads as it did. -/
def fnSelvesUpToSpec : ChangeSpec := { name := "fnSelvesUpTo", fn := fun _ => fun
  | [d] => { results := [.lit (.bool true)], args := [d] }
  | _ => none }
def fnSelvesUpToRow : OpenClaim := { program := "ythohahnfkncecaa", sum := "b62e885ba0d3d360165479d09ab7a5dd2e2c85d7640a060ed6fce005ecb51c94", func := "loop.example/returningdigits/laws.FnSelvesUpTo", spec := "fnSelvesUpTo", unfollowed := true, recurses := true, apart := false }
def FnSelvesUpToSaid : Prop := fnSelvesUpToRow.holds Try.pinned (OpenSpec.ofChange fnSelvesUpToSpec)

/-- ITS FALSE NEIGHBOUR: 'it returns false'. Refute it at one input. -/
def fnSelvesUpToWrong : ChangeSpec := { name := "fnSelvesUpTo", fn := fun _ => fun
  | [d] => { results := [.lit (.bool false)], args := [d] }
  | _ => none }
def FnSelvesUpToWrongFalsely : Prop := fnSelvesUpToRow.holds Try.pinned (OpenSpec.ofChange fnSelvesUpToWrong)

/-- 'laws.FnRowFrom': WHATEVER THE INPUT: true; the input reads as it did. -/
def fnRowFromSpec : ChangeSpec := { name := "fnRowFrom", fn := fun _ => fun
  | [d] => { results := [.lit (.bool true)], args := [d] }
  | _ => none }
def fnRowFromRow : OpenClaim := { program := "ythohahnfkncecaa", sum := "b62e885ba0d3d360165479d09ab7a5dd2e2c85d7640a060ed6fce005ecb51c94", func := "loop.example/returningdigits/laws.FnRowFrom", spec := "fnRowFrom", unfollowed := true, recurses := true, apart := false }
def FnRowFromSaid : Prop := fnRowFromRow.holds Try.pinned (OpenSpec.ofChange fnRowFromSpec)

/-- ITS FALSE NEIGHBOUR: 'it returns false'. Refute it at one input. -/
def fnRowFromWrong : ChangeSpec := { name := "fnRowFrom", fn := fun _ => fun
  | [d] => { results := [.lit (.bool false)], args := [d] }
  | _ => none }
def FnRowFromWrongFalsely : Prop := fnRowFromRow.holds Try.pinned (OpenSpec.ofChange fnRowFromWrong)

/-- 'laws.FnJoinAt': WHATEVER THE INPUT: true; the input reads as it did. -/
def fnJoinAtSpec : ChangeSpec := { name := "fnJoinAt", fn := fun _ => fun
  | [d] => { results := [.lit (.bool true)], args := [d] }
  | _ => none }
def fnJoinAtRow : OpenClaim := { program := "ythohahnfkncecaa", sum := "b62e885ba0d3d360165479d09ab7a5dd2e2c85d7640a060ed6fce005ecb51c94", func := "loop.example/returningdigits/laws.FnJoinAt", spec := "fnJoinAt", unfollowed := true, recurses := true, apart := false }
def FnJoinAtSaid : Prop := fnJoinAtRow.holds Try.pinned (OpenSpec.ofChange fnJoinAtSpec)

/-- ITS FALSE NEIGHBOUR: 'it returns false'. Refute it at one input. -/
def fnJoinAtWrong : ChangeSpec := { name := "fnJoinAt", fn := fun _ => fun
  | [d] => { results := [.lit (.bool false)], args := [d] }
  | _ => none }
def FnJoinAtWrongFalsely : Prop := fnJoinAtRow.holds Try.pinned (OpenSpec.ofChange fnJoinAtWrong)

/-- 'laws.FnExactMadeBy': WHATEVER THE INPUT: true; the input reads as it did. -/
def fnExactMadeBySpec : ChangeSpec := { name := "fnExactMadeBy", fn := fun _ => fun
  | [d1, d2] => { results := [.lit (.bool true)], args := [d1, d2] }
  | _ => none }
def fnExactMadeByRow : OpenClaim := { program := "ythohahnfkncecaa", sum := "b62e885ba0d3d360165479d09ab7a5dd2e2c85d7640a060ed6fce005ecb51c94", func := "loop.example/returningdigits/laws.FnExactMadeBy", spec := "fnExactMadeBy", unfollowed := true, recurses := true, apart := false }
def FnExactMadeBySaid : Prop := fnExactMadeByRow.holds Try.pinned (OpenSpec.ofChange fnExactMadeBySpec)

/-- ITS FALSE NEIGHBOUR: 'it returns false'. Refute it at one input. -/
def fnExactMadeByWrong : ChangeSpec := { name := "fnExactMadeBy", fn := fun _ => fun
  | [d1, d2] => { results := [.lit (.bool false)], args := [d1, d2] }
  | _ => none }
def FnExactMadeByWrongFalsely : Prop := fnExactMadeByRow.holds Try.pinned (OpenSpec.ofChange fnExactMadeByWrong)

/-- 'laws.FnExactMakersOf': WHATEVER THE INPUT: true; the input reads as it did. -/
def fnExactMakersOfSpec : ChangeSpec := { name := "fnExactMakersOf", fn := fun _ => fun
  | [d1, d2] => { results := [.lit (.bool true)], args := [d1, d2] }
  | _ => none }
def fnExactMakersOfRow : OpenClaim := { program := "ythohahnfkncecaa", sum := "b62e885ba0d3d360165479d09ab7a5dd2e2c85d7640a060ed6fce005ecb51c94", func := "loop.example/returningdigits/laws.FnExactMakersOf", spec := "fnExactMakersOf", unfollowed := true, recurses := true, apart := false }
def FnExactMakersOfSaid : Prop := fnExactMakersOfRow.holds Try.pinned (OpenSpec.ofChange fnExactMakersOfSpec)

/-- ITS FALSE NEIGHBOUR: 'it returns false'. Refute it at one input. -/
def fnExactMakersOfWrong : ChangeSpec := { name := "fnExactMakersOf", fn := fun _ => fun
  | [d1, d2] => { results := [.lit (.bool false)], args := [d1, d2] }
  | _ => none }
def FnExactMakersOfWrongFalsely : Prop := fnExactMakersOfRow.holds Try.pinned (OpenSpec.ofChange fnExactMakersOfWrong)

/-- 'laws.FnExactSelfOk': WHATEVER THE INPUT: true; the input reads as it did. -/
def fnExactSelfOkSpec : ChangeSpec := { name := "fnExactSelfOk", fn := fun _ => fun
  | [d1, d2] => { results := [.lit (.bool true)], args := [d1, d2] }
  | _ => none }
def fnExactSelfOkRow : OpenClaim := { program := "ythohahnfkncecaa", sum := "b62e885ba0d3d360165479d09ab7a5dd2e2c85d7640a060ed6fce005ecb51c94", func := "loop.example/returningdigits/laws.FnExactSelfOk", spec := "fnExactSelfOk", unfollowed := true, recurses := true, apart := false }
def FnExactSelfOkSaid : Prop := fnExactSelfOkRow.holds Try.pinned (OpenSpec.ofChange fnExactSelfOkSpec)

/-- ITS FALSE NEIGHBOUR: 'it returns false'. Refute it at one input. -/
def fnExactSelfOkWrong : ChangeSpec := { name := "fnExactSelfOk", fn := fun _ => fun
  | [d1, d2] => { results := [.lit (.bool false)], args := [d1, d2] }
  | _ => none }
def FnExactSelfOkWrongFalsely : Prop := fnExactSelfOkRow.holds Try.pinned (OpenSpec.ofChange fnExactSelfOkWrong)

/-- 'laws.FnExactSelvesUpTo': WHATEVER THE INPUT: true; the input reads as it did. -/
def fnExactSelvesUpToSpec : ChangeSpec := { name := "fnExactSelvesUpTo", fn := fun _ => fun
  | [d1, d2] => { results := [.lit (.bool true)], args := [d1, d2] }
  | _ => none }
def fnExactSelvesUpToRow : OpenClaim := { program := "ythohahnfkncecaa", sum := "b62e885ba0d3d360165479d09ab7a5dd2e2c85d7640a060ed6fce005ecb51c94", func := "loop.example/returningdigits/laws.FnExactSelvesUpTo", spec := "fnExactSelvesUpTo", unfollowed := true, recurses := true, apart := false }
def FnExactSelvesUpToSaid : Prop := fnExactSelvesUpToRow.holds Try.pinned (OpenSpec.ofChange fnExactSelvesUpToSpec)

/-- ITS FALSE NEIGHBOUR: 'it returns false'. Refute it at one input. -/
def fnExactSelvesUpToWrong : ChangeSpec := { name := "fnExactSelvesUpTo", fn := fun _ => fun
  | [d1, d2] => { results := [.lit (.bool false)], args := [d1, d2] }
  | _ => none }
def FnExactSelvesUpToWrongFalsely : Prop := fnExactSelvesUpToRow.holds Try.pinned (OpenSpec.ofChange fnExactSelvesUpToWrong)

/-- 'laws.FnExactRowFrom': WHATEVER THE INPUT: true; the input reads as it did. -/
def fnExactRowFromSpec : ChangeSpec := { name := "fnExactRowFrom", fn := fun _ => fun
  | [d1, d2] => { results := [.lit (.bool true)], args := [d1, d2] }
  | _ => none }
def fnExactRowFromRow : OpenClaim := { program := "ythohahnfkncecaa", sum := "b62e885ba0d3d360165479d09ab7a5dd2e2c85d7640a060ed6fce005ecb51c94", func := "loop.example/returningdigits/laws.FnExactRowFrom", spec := "fnExactRowFrom", unfollowed := true, recurses := true, apart := false }
def FnExactRowFromSaid : Prop := fnExactRowFromRow.holds Try.pinned (OpenSpec.ofChange fnExactRowFromSpec)

/-- ITS FALSE NEIGHBOUR: 'it returns false'. Refute it at one input. -/
def fnExactRowFromWrong : ChangeSpec := { name := "fnExactRowFrom", fn := fun _ => fun
  | [d1, d2] => { results := [.lit (.bool false)], args := [d1, d2] }
  | _ => none }
def FnExactRowFromWrongFalsely : Prop := fnExactRowFromRow.holds Try.pinned (OpenSpec.ofChange fnExactRowFromWrong)

/-- 'laws.FnExactJoinAt': WHATEVER THE INPUT: true; the input reads as it did. -/
def fnExactJoinAtSpec : ChangeSpec := { name := "fnExactJoinAt", fn := fun _ => fun
  | [d1, d2, d3] => { results := [.lit (.bool true)], args := [d1, d2, d3] }
  | _ => none }
def fnExactJoinAtRow : OpenClaim := { program := "ythohahnfkncecaa", sum := "b62e885ba0d3d360165479d09ab7a5dd2e2c85d7640a060ed6fce005ecb51c94", func := "loop.example/returningdigits/laws.FnExactJoinAt", spec := "fnExactJoinAt", unfollowed := true, recurses := true, apart := false }
def FnExactJoinAtSaid : Prop := fnExactJoinAtRow.holds Try.pinned (OpenSpec.ofChange fnExactJoinAtSpec)

/-- ITS FALSE NEIGHBOUR: 'it returns false'. Refute it at one input. -/
def fnExactJoinAtWrong : ChangeSpec := { name := "fnExactJoinAt", fn := fun _ => fun
  | [d1, d2, d3] => { results := [.lit (.bool false)], args := [d1, d2, d3] }
  | _ => none }
def FnExactJoinAtWrongFalsely : Prop := fnExactJoinAtRow.holds Try.pinned (OpenSpec.ofChange fnExactJoinAtWrong)

/- THE SECOND FORM. 'bulk': how many values and letters a reading holds, each counted each time it is reached (what is shared counts as often as it is met; a slice's spare places count too). A statement '..UptoSaid' is the law's where the arguments, and the package variables that the reading takes, are together of bulk at most 1048576: NARROWER than '..Said'. Prove '..Said' where nothing that the law and all that it calls make is longer than what came in: it says more and counts as full. Else prove '..UptoSaid'. A law counts once. -/
mutual
def uptoBulk {H : Type} : DataW H → Nat
  | .lit (.string bytes) => bytes.length + 1
  | .lit _ => 1
  | .nil => 1
  | .ptr d => uptoBulk d + 1
  | .slice elems spare => uptoBulkAll elems + uptoBulkAll spare + 1
  | .agg parts => uptoBulkAll parts + 1
  | .iface _ d => uptoBulk d + 1
  | .map entries => uptoBulkEntries entries + 1
  | .held _ => 1
def uptoBulkAll {H : Type} : List (DataW H) → Nat
  | [] => 0
  | d :: r => uptoBulk d + uptoBulkAll r
def uptoBulkEntries {H : Type} : List (Lit × DataW H) → Nat
  | [] => 0
  | x :: r => uptoBulkEntry x + uptoBulkEntries r
def uptoBulkEntry {H : Type} : Lit × DataW H → Nat
  | (.string bytes, d) => bytes.length + uptoBulk d + 1
  | (_, d) => uptoBulk d + 1
 end
def uptoSmall : (H : Type) → List (DataW H) → Bool := fun _ ds => decide (uptoBulkAll ds ≤ 1048576)
def OpenSpec.upto (s : _root_.Go.ChangeSpec) : _root_.Go.OpenSpec := { _root_.Go.OpenSpec.ofChange s with cond := some uptoSmall }

/-- 'laws.FnMadeBy', WHERE WHAT IT READS IS OF BULK AT MOST 1048576: true; the input reads as it did. -/
def fnMadeByUptoRow : OpenClaim := { program := "ythohahnfkncecaa", sum := "b62e885ba0d3d360165479d09ab7a5dd2e2c85d7640a060ed6fce005ecb51c94", func := "loop.example/returningdigits/laws.FnMadeBy", spec := "fnMadeBy", unfollowed := true, recurses := true, apart := false, narrowed := true }
def FnMadeByUptoSaid : Prop := fnMadeByUptoRow.holds Try.pinned (OpenSpec.upto fnMadeBySpec)

/-- 'laws.FnMakersOf', WHERE WHAT IT READS IS OF BULK AT MOST 1048576: true; the input reads as it did. -/
def fnMakersOfUptoRow : OpenClaim := { program := "ythohahnfkncecaa", sum := "b62e885ba0d3d360165479d09ab7a5dd2e2c85d7640a060ed6fce005ecb51c94", func := "loop.example/returningdigits/laws.FnMakersOf", spec := "fnMakersOf", unfollowed := true, recurses := true, apart := false, narrowed := true }
def FnMakersOfUptoSaid : Prop := fnMakersOfUptoRow.holds Try.pinned (OpenSpec.upto fnMakersOfSpec)

/-- 'laws.FnSelfOk', WHERE WHAT IT READS IS OF BULK AT MOST 1048576: true; the input reads as it did. -/
def fnSelfOkUptoRow : OpenClaim := { program := "ythohahnfkncecaa", sum := "b62e885ba0d3d360165479d09ab7a5dd2e2c85d7640a060ed6fce005ecb51c94", func := "loop.example/returningdigits/laws.FnSelfOk", spec := "fnSelfOk", unfollowed := true, recurses := true, apart := false, narrowed := true }
def FnSelfOkUptoSaid : Prop := fnSelfOkUptoRow.holds Try.pinned (OpenSpec.upto fnSelfOkSpec)

/-- 'laws.FnSelvesUpTo', WHERE WHAT IT READS IS OF BULK AT MOST 1048576: true; the input reads as it did. -/
def fnSelvesUpToUptoRow : OpenClaim := { program := "ythohahnfkncecaa", sum := "b62e885ba0d3d360165479d09ab7a5dd2e2c85d7640a060ed6fce005ecb51c94", func := "loop.example/returningdigits/laws.FnSelvesUpTo", spec := "fnSelvesUpTo", unfollowed := true, recurses := true, apart := false, narrowed := true }
def FnSelvesUpToUptoSaid : Prop := fnSelvesUpToUptoRow.holds Try.pinned (OpenSpec.upto fnSelvesUpToSpec)

/-- 'laws.FnRowFrom', WHERE WHAT IT READS IS OF BULK AT MOST 1048576: true; the input reads as it did. -/
def fnRowFromUptoRow : OpenClaim := { program := "ythohahnfkncecaa", sum := "b62e885ba0d3d360165479d09ab7a5dd2e2c85d7640a060ed6fce005ecb51c94", func := "loop.example/returningdigits/laws.FnRowFrom", spec := "fnRowFrom", unfollowed := true, recurses := true, apart := false, narrowed := true }
def FnRowFromUptoSaid : Prop := fnRowFromUptoRow.holds Try.pinned (OpenSpec.upto fnRowFromSpec)

/-- 'laws.FnJoinAt', WHERE WHAT IT READS IS OF BULK AT MOST 1048576: true; the input reads as it did. -/
def fnJoinAtUptoRow : OpenClaim := { program := "ythohahnfkncecaa", sum := "b62e885ba0d3d360165479d09ab7a5dd2e2c85d7640a060ed6fce005ecb51c94", func := "loop.example/returningdigits/laws.FnJoinAt", spec := "fnJoinAt", unfollowed := true, recurses := true, apart := false, narrowed := true }
def FnJoinAtUptoSaid : Prop := fnJoinAtUptoRow.holds Try.pinned (OpenSpec.upto fnJoinAtSpec)

/-- 'laws.FnExactMadeBy', WHERE WHAT IT READS IS OF BULK AT MOST 1048576: true; the input reads as it did. -/
def fnExactMadeByUptoRow : OpenClaim := { program := "ythohahnfkncecaa", sum := "b62e885ba0d3d360165479d09ab7a5dd2e2c85d7640a060ed6fce005ecb51c94", func := "loop.example/returningdigits/laws.FnExactMadeBy", spec := "fnExactMadeBy", unfollowed := true, recurses := true, apart := false, narrowed := true }
def FnExactMadeByUptoSaid : Prop := fnExactMadeByUptoRow.holds Try.pinned (OpenSpec.upto fnExactMadeBySpec)

/-- 'laws.FnExactMakersOf', WHERE WHAT IT READS IS OF BULK AT MOST 1048576: true; the input reads as it did. -/
def fnExactMakersOfUptoRow : OpenClaim := { program := "ythohahnfkncecaa", sum := "b62e885ba0d3d360165479d09ab7a5dd2e2c85d7640a060ed6fce005ecb51c94", func := "loop.example/returningdigits/laws.FnExactMakersOf", spec := "fnExactMakersOf", unfollowed := true, recurses := true, apart := false, narrowed := true }
def FnExactMakersOfUptoSaid : Prop := fnExactMakersOfUptoRow.holds Try.pinned (OpenSpec.upto fnExactMakersOfSpec)

/-- 'laws.FnExactSelfOk', WHERE WHAT IT READS IS OF BULK AT MOST 1048576: true; the input reads as it did. -/
def fnExactSelfOkUptoRow : OpenClaim := { program := "ythohahnfkncecaa", sum := "b62e885ba0d3d360165479d09ab7a5dd2e2c85d7640a060ed6fce005ecb51c94", func := "loop.example/returningdigits/laws.FnExactSelfOk", spec := "fnExactSelfOk", unfollowed := true, recurses := true, apart := false, narrowed := true }
def FnExactSelfOkUptoSaid : Prop := fnExactSelfOkUptoRow.holds Try.pinned (OpenSpec.upto fnExactSelfOkSpec)

/-- 'laws.FnExactSelvesUpTo', WHERE WHAT IT READS IS OF BULK AT MOST 1048576: true; the input reads as it did. -/
def fnExactSelvesUpToUptoRow : OpenClaim := { program := "ythohahnfkncecaa", sum := "b62e885ba0d3d360165479d09ab7a5dd2e2c85d7640a060ed6fce005ecb51c94", func := "loop.example/returningdigits/laws.FnExactSelvesUpTo", spec := "fnExactSelvesUpTo", unfollowed := true, recurses := true, apart := false, narrowed := true }
def FnExactSelvesUpToUptoSaid : Prop := fnExactSelvesUpToUptoRow.holds Try.pinned (OpenSpec.upto fnExactSelvesUpToSpec)

/-- 'laws.FnExactRowFrom', WHERE WHAT IT READS IS OF BULK AT MOST 1048576: true; the input reads as it did. -/
def fnExactRowFromUptoRow : OpenClaim := { program := "ythohahnfkncecaa", sum := "b62e885ba0d3d360165479d09ab7a5dd2e2c85d7640a060ed6fce005ecb51c94", func := "loop.example/returningdigits/laws.FnExactRowFrom", spec := "fnExactRowFrom", unfollowed := true, recurses := true, apart := false, narrowed := true }
def FnExactRowFromUptoSaid : Prop := fnExactRowFromUptoRow.holds Try.pinned (OpenSpec.upto fnExactRowFromSpec)

/-- 'laws.FnExactJoinAt', WHERE WHAT IT READS IS OF BULK AT MOST 1048576: true; the input reads as it did. -/
def fnExactJoinAtUptoRow : OpenClaim := { program := "ythohahnfkncecaa", sum := "b62e885ba0d3d360165479d09ab7a5dd2e2c85d7640a060ed6fce005ecb51c94", func := "loop.example/returningdigits/laws.FnExactJoinAt", spec := "fnExactJoinAt", unfollowed := true, recurses := true, apart := false, narrowed := true }
def FnExactJoinAtUptoSaid : Prop := fnExactJoinAtUptoRow.holds Try.pinned (OpenSpec.upto fnExactJoinAtSpec)

end Rows
end Go.Proofs.Ythohahnfkncecaa
