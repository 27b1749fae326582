/-
  No cell of these rows narrows 'for every input' (looked for: loops, veiled, ifaces, maps, wideKeys, modest, calm, conditions, laid).
  DERIVED. THE GIVEN ROWS OF THIS SEAT. 10 by the template 'for every input the law returns true; each argument reads behind the call as it read before'; 0 by the template 'total and deterministic' (their statements: YthpimanfkbeanaaTotals.lean).
  GIVEN WITH THE SEED: the statements are not yours to turn. If you find one false, say at which input.
  Laid BY PROGRAM, IN A SANDBOX (cutbox-rows.mjs): the forced cells as the released guide's own fill.sh prints them over the translation 23827caec5481a46… (all of the seat's roots in one cut). By AI agents, Wed Nov 11 2026. No macro, syntax, notation, axiom, sorry.
-/
import Derived.Test.YthpimanfkbeanaaChecked
import GoSem.Claim
import GoSem.ClaimJoined
import GoSem.ClaimMapViews
import Derived.JoinedTies
import Derived.KernelRfl
namespace Go.Proofs.Ythpimanfkbeanaa
/- THE CELL 'sum', in the pinned program and in every row, IS THE sha256 OF THE DUMP (.gsa) THAT YthpimanfkbeanaaProg.lean LOADS. Nothing in Lean hashes anything: it is a label: what it is worth is what the hold of that sum in a sandbox is worth. -/
noncomputable def Try.pinned : Pinned := { name := "ythpimanfkbeanaa", sum := "23827caec5481a467422009f79414edbdf61999315c7e8221d3c80f7ef215862", checked := Try.checked }
namespace Rows
def none {H : Type} : Left H := { results := [], args := [] }

/-- 'laws.FnNextOf': WHATEVER THE INPUT: true; the input reads as it did. -/
def fnNextOfSpec : ChangeSpec := { name := "fnNextOf", fn := fun _ => fun
  | [d] => { results := [.lit (.bool true)], args := [d] }
  | _ => none }
def fnNextOfRow : OpenClaim := { program := "ythpimanfkbeanaa", sum := "23827caec5481a467422009f79414edbdf61999315c7e8221d3c80f7ef215862", func := "loop.example/returningdigits/laws.FnNextOf", spec := "fnNextOf", unfollowed := true, recurses := true, apart := false }
def FnNextOfSaid : Prop := fnNextOfRow.holds Try.pinned (OpenSpec.ofChange fnNextOfSpec)

/-- ITS FALSE NEIGHBOUR: 'it returns false'. Refute it at one input. -/
def fnNextOfWrong : ChangeSpec := { name := "fnNextOf", fn := fun _ => fun
  | [d] => { results := [.lit (.bool false)], args := [d] }
  | _ => none }
def FnNextOfWrongFalsely : Prop := fnNextOfRow.holds Try.pinned (OpenSpec.ofChange fnNextOfWrong)

/-- 'laws.FnRoundFrom': WHATEVER THE INPUT: true; the input reads as it did. -/
def fnRoundFromSpec : ChangeSpec := { name := "fnRoundFrom", fn := fun _ => fun
  | [d] => { results := [.lit (.bool true)], args := [d] }
  | _ => none }
def fnRoundFromRow : OpenClaim := { program := "ythpimanfkbeanaa", sum := "23827caec5481a467422009f79414edbdf61999315c7e8221d3c80f7ef215862", func := "loop.example/returningdigits/laws.FnRoundFrom", spec := "fnRoundFrom", unfollowed := true, recurses := true, apart := false }
def FnRoundFromSaid : Prop := fnRoundFromRow.holds Try.pinned (OpenSpec.ofChange fnRoundFromSpec)

/-- ITS FALSE NEIGHBOUR: 'it returns false'. Refute it at one input. -/
def fnRoundFromWrong : ChangeSpec := { name := "fnRoundFrom", fn := fun _ => fun
  | [d] => { results := [.lit (.bool false)], args := [d] }
  | _ => none }
def FnRoundFromWrongFalsely : Prop := fnRoundFromRow.holds Try.pinned (OpenSpec.ofChange fnRoundFromWrong)

/-- 'laws.FnHappyOk': WHATEVER THE INPUT: true; the input reads as it did. -/
def fnHappyOkSpec : ChangeSpec := { name := "fnHappyOk", fn := fun _ => fun
  | [d] => { results := [.lit (.bool true)], args := [d] }
  | _ => none }
def fnHappyOkRow : OpenClaim := { program := "ythpimanfkbeanaa", sum := "23827caec5481a467422009f79414edbdf61999315c7e8221d3c80f7ef215862", func := "loop.example/returningdigits/laws.FnHappyOk", spec := "fnHappyOk", unfollowed := true, recurses := true, apart := false }
def FnHappyOkSaid : Prop := fnHappyOkRow.holds Try.pinned (OpenSpec.ofChange fnHappyOkSpec)

/-- ITS FALSE NEIGHBOUR: 'it returns false'. Refute it at one input. -/
def fnHappyOkWrong : ChangeSpec := { name := "fnHappyOk", fn := fun _ => fun
  | [d] => { results := [.lit (.bool false)], args := [d] }
  | _ => none }
def FnHappyOkWrongFalsely : Prop := fnHappyOkRow.holds Try.pinned (OpenSpec.ofChange fnHappyOkWrong)

/-- 'laws.FnGreatestStay': WHATEVER THE INPUT: true; the input reads as it did. -/
def fnGreatestStaySpec : ChangeSpec := { name := "fnGreatestStay", fn := fun _ => fun
  | [d] => { results := [.lit (.bool true)], args := [d] }
  | _ => none }
def fnGreatestStayRow : OpenClaim := { program := "ythpimanfkbeanaa", sum := "23827caec5481a467422009f79414edbdf61999315c7e8221d3c80f7ef215862", func := "loop.example/returningdigits/laws.FnGreatestStay", spec := "fnGreatestStay", unfollowed := true, recurses := true, apart := false }
def FnGreatestStaySaid : Prop := fnGreatestStayRow.holds Try.pinned (OpenSpec.ofChange fnGreatestStaySpec)

/-- ITS FALSE NEIGHBOUR: 'it returns false'. Refute it at one input. -/
def fnGreatestStayWrong : ChangeSpec := { name := "fnGreatestStay", fn := fun _ => fun
  | [d] => { results := [.lit (.bool false)], args := [d] }
  | _ => none }
def FnGreatestStayWrongFalsely : Prop := fnGreatestStayRow.holds Try.pinned (OpenSpec.ofChange fnGreatestStayWrong)

/-- 'laws.FnRoundsUpTo': WHATEVER THE INPUT: true; the input reads as it did. -/
def fnRoundsUpToSpec : ChangeSpec := { name := "fnRoundsUpTo", fn := fun _ => fun
  | [d] => { results := [.lit (.bool true)], args := [d] }
  | _ => none }
def fnRoundsUpToRow : OpenClaim := { program := "ythpimanfkbeanaa", sum := "23827caec5481a467422009f79414edbdf61999315c7e8221d3c80f7ef215862", func := "loop.example/returningdigits/laws.FnRoundsUpTo", spec := "fnRoundsUpTo", unfollowed := true, recurses := true, apart := false }
def FnRoundsUpToSaid : Prop := fnRoundsUpToRow.holds Try.pinned (OpenSpec.ofChange fnRoundsUpToSpec)

/-- ITS FALSE NEIGHBOUR: 'it returns false'. Refute it at one input. -/
def fnRoundsUpToWrong : ChangeSpec := { name := "fnRoundsUpTo", fn := fun _ => fun
  | [d] => { results := [.lit (.bool false)], args := [d] }
  | _ => none }
def FnRoundsUpToWrongFalsely : Prop := fnRoundsUpToRow.holds Try.pinned (OpenSpec.ofChange fnRoundsUpToWrong)

/-- 'laws.FnExactNextOf': WHATEVER THE INPUT: true; the input reads as it did. -/
def fnExactNextOfSpec : ChangeSpec := { name := "fnExactNextOf", fn := fun _ => fun
  | [d1, d2, d3] => { results := [.lit (.bool true)], args := [d1, d2, d3] }
  | _ => none }
def fnExactNextOfRow : OpenClaim := { program := "ythpimanfkbeanaa", sum := "23827caec5481a467422009f79414edbdf61999315c7e8221d3c80f7ef215862", func := "loop.example/returningdigits/laws.FnExactNextOf", spec := "fnExactNextOf", unfollowed := true, recurses := true, apart := false }
def FnExactNextOfSaid : Prop := fnExactNextOfRow.holds Try.pinned (OpenSpec.ofChange fnExactNextOfSpec)

/-- ITS FALSE NEIGHBOUR: 'it returns false'. Refute it at one input. -/
def fnExactNextOfWrong : ChangeSpec := { name := "fnExactNextOf", fn := fun _ => fun
  | [d1, d2, d3] => { results := [.lit (.bool false)], args := [d1, d2, d3] }
  | _ => none }
def FnExactNextOfWrongFalsely : Prop := fnExactNextOfRow.holds Try.pinned (OpenSpec.ofChange fnExactNextOfWrong)

/-- 'laws.FnExactRoundFrom': WHATEVER THE INPUT: true; the input reads as it did. -/
def fnExactRoundFromSpec : ChangeSpec := { name := "fnExactRoundFrom", fn := fun _ => fun
  | [d1, d2, d3] => { results := [.lit (.bool true)], args := [d1, d2, d3] }
  | _ => none }
def fnExactRoundFromRow : OpenClaim := { program := "ythpimanfkbeanaa", sum := "23827caec5481a467422009f79414edbdf61999315c7e8221d3c80f7ef215862", func := "loop.example/returningdigits/laws.FnExactRoundFrom", spec := "fnExactRoundFrom", unfollowed := true, recurses := true, apart := false }
def FnExactRoundFromSaid : Prop := fnExactRoundFromRow.holds Try.pinned (OpenSpec.ofChange fnExactRoundFromSpec)

/-- ITS FALSE NEIGHBOUR: 'it returns false'. Refute it at one input. -/
def fnExactRoundFromWrong : ChangeSpec := { name := "fnExactRoundFrom", fn := fun _ => fun
  | [d1, d2, d3] => { results := [.lit (.bool false)], args := [d1, d2, d3] }
  | _ => none }
def FnExactRoundFromWrongFalsely : Prop := fnExactRoundFromRow.holds Try.pinned (OpenSpec.ofChange fnExactRoundFromWrong)

/-- 'laws.FnExactHappyOk': WHATEVER THE INPUT: true; the input reads as it did. -/
def fnExactHappyOkSpec : ChangeSpec := { name := "fnExactHappyOk", fn := fun _ => fun
  | [d1, d2] => { results := [.lit (.bool true)], args := [d1, d2] }
  | _ => none }
def fnExactHappyOkRow : OpenClaim := { program := "ythpimanfkbeanaa", sum := "23827caec5481a467422009f79414edbdf61999315c7e8221d3c80f7ef215862", func := "loop.example/returningdigits/laws.FnExactHappyOk", spec := "fnExactHappyOk", unfollowed := true, recurses := true, apart := false }
def FnExactHappyOkSaid : Prop := fnExactHappyOkRow.holds Try.pinned (OpenSpec.ofChange fnExactHappyOkSpec)

/-- ITS FALSE NEIGHBOUR: 'it returns false'. Refute it at one input. -/
def fnExactHappyOkWrong : ChangeSpec := { name := "fnExactHappyOk", fn := fun _ => fun
  | [d1, d2] => { results := [.lit (.bool false)], args := [d1, d2] }
  | _ => none }
def FnExactHappyOkWrongFalsely : Prop := fnExactHappyOkRow.holds Try.pinned (OpenSpec.ofChange fnExactHappyOkWrong)

/-- 'laws.FnExactGreatestStay': WHATEVER THE INPUT: true; the input reads as it did. -/
def fnExactGreatestStaySpec : ChangeSpec := { name := "fnExactGreatestStay", fn := fun _ => fun
  | [d1, d2] => { results := [.lit (.bool true)], args := [d1, d2] }
  | _ => none }
def fnExactGreatestStayRow : OpenClaim := { program := "ythpimanfkbeanaa", sum := "23827caec5481a467422009f79414edbdf61999315c7e8221d3c80f7ef215862", func := "loop.example/returningdigits/laws.FnExactGreatestStay", spec := "fnExactGreatestStay", unfollowed := true, recurses := true, apart := false }
def FnExactGreatestStaySaid : Prop := fnExactGreatestStayRow.holds Try.pinned (OpenSpec.ofChange fnExactGreatestStaySpec)

/-- ITS FALSE NEIGHBOUR: 'it returns false'. Refute it at one input. -/
def fnExactGreatestStayWrong : ChangeSpec := { name := "fnExactGreatestStay", fn := fun _ => fun
  | [d1, d2] => { results := [.lit (.bool false)], args := [d1, d2] }
  | _ => none }
def FnExactGreatestStayWrongFalsely : Prop := fnExactGreatestStayRow.holds Try.pinned (OpenSpec.ofChange fnExactGreatestStayWrong)

/-- 'laws.FnExactRoundsUpTo': WHATEVER THE INPUT: true; the input reads as it did. -/
def fnExactRoundsUpToSpec : ChangeSpec := { name := "fnExactRoundsUpTo", fn := fun _ => fun
  | [d1, d2, d3] => { results := [.lit (.bool true)], args := [d1, d2, d3] }
  | _ => none }
def fnExactRoundsUpToRow : OpenClaim := { program := "ythpimanfkbeanaa", sum := "23827caec5481a467422009f79414edbdf61999315c7e8221d3c80f7ef215862", func := "loop.example/returningdigits/laws.FnExactRoundsUpTo", spec := "fnExactRoundsUpTo", unfollowed := true, recurses := true, apart := false }
def FnExactRoundsUpToSaid : Prop := fnExactRoundsUpToRow.holds Try.pinned (OpenSpec.ofChange fnExactRoundsUpToSpec)

/-- ITS FALSE NEIGHBOUR: 'it returns false'. Refute it at one input. -/
def fnExactRoundsUpToWrong : ChangeSpec := { name := "fnExactRoundsUpTo", fn := fun _ => fun
  | [d1, d2, d3] => { results := [.lit (.bool false)], args := [d1, d2, d3] }
  | _ => none }
def FnExactRoundsUpToWrongFalsely : Prop := fnExactRoundsUpToRow.holds Try.pinned (OpenSpec.ofChange fnExactRoundsUpToWrong)

/- THE SECOND FORM. 'bulk': how many values and letters a reading holds, each counted each time it is reached (what is shared counts as often as it is met; a slice's spare places count too). A statement '..UptoSaid' is the law's where the arguments, and the package variables that the reading takes, are together of bulk at most 1048576: NARROWER than '..Said'. Prove '..Said' where nothing that the law and all that it calls make is longer than what came in: it says more and counts as full. Else prove '..UptoSaid'. A law counts once. -/
mutual
def uptoBulk {H : Type} : DataW H → Nat
  | .lit (.string bytes) => bytes.length + 1
  | .lit _ => 1
  | .nil => 1
  | .ptr d => uptoBulk d + 1
  | .slice elems spare => uptoBulkAll elems + uptoBulkAll spare + 1
  | .agg parts => uptoBulkAll parts + 1
  | .iface _ d => uptoBulk d + 1
  | .map entries => uptoBulkEntries entries + 1
  | .held _ => 1
def uptoBulkAll {H : Type} : List (DataW H) → Nat
  | [] => 0
  | d :: r => uptoBulk d + uptoBulkAll r
def uptoBulkEntries {H : Type} : List (Lit × DataW H) → Nat
  | [] => 0
  | x :: r => uptoBulkEntry x + uptoBulkEntries r
def uptoBulkEntry {H : Type} : Lit × DataW H → Nat
  | (.string bytes, d) => bytes.length + uptoBulk d + 1
  | (_, d) => uptoBulk d + 1
 end
def uptoSmall : (H : Type) → List (DataW H) → Bool := fun _ ds => decide (uptoBulkAll ds ≤ 1048576)
def OpenSpec.upto (s : _root_.Go.ChangeSpec) : _root_.Go.OpenSpec := { _root_.Go.OpenSpec.ofChange s with cond := some uptoSmall }

/-- 'laws.FnNextOf', WHERE WHAT IT READS IS OF BULK AT MOST 1048576: true; the input reads as it did. -/
def fnNextOfUptoRow : OpenClaim := { program := "ythpimanfkbeanaa", sum := "23827caec5481a467422009f79414edbdf61999315c7e8221d3c80f7ef215862", func := "loop.example/returningdigits/laws.FnNextOf", spec := "fnNextOf", unfollowed := true, recurses := true, apart := false, narrowed := true }
def FnNextOfUptoSaid : Prop := fnNextOfUptoRow.holds Try.pinned (OpenSpec.upto fnNextOfSpec)

/-- 'laws.FnRoundFrom', WHERE WHAT IT READS IS OF BULK AT MOST 1048576: true; the input reads as it did. -/
def fnRoundFromUptoRow : OpenClaim := { program := "ythpimanfkbeanaa", sum := "23827caec5481a467422009f79414edbdf61999315c7e8221d3c80f7ef215862", func := "loop.example/returningdigits/laws.FnRoundFrom", spec := "fnRoundFrom", unfollowed := true, recurses := true, apart := false, narrowed := true }
def FnRoundFromUptoSaid : Prop := fnRoundFromUptoRow.holds Try.pinned (OpenSpec.upto fnRoundFromSpec)

/-- 'laws.FnHappyOk', WHERE WHAT IT READS IS OF BULK AT MOST 1048576: true; the input reads as it did. -/
def fnHappyOkUptoRow : OpenClaim := { program := "ythpimanfkbeanaa", sum := "23827caec5481a467422009f79414edbdf61999315c7e8221d3c80f7ef215862", func := "loop.example/returningdigits/laws.FnHappyOk", spec := "fnHappyOk", unfollowed := true, recurses := true, apart := false, narrowed := true }
def FnHappyOkUptoSaid : Prop := fnHappyOkUptoRow.holds Try.pinned (OpenSpec.upto fnHappyOkSpec)

/-- 'laws.FnGreatestStay', WHERE WHAT IT READS IS OF BULK AT MOST 1048576: true; the input reads as it did. -/
def fnGreatestStayUptoRow : OpenClaim := { program := "ythpimanfkbeanaa", sum := "23827caec5481a467422009f79414edbdf61999315c7e8221d3c80f7ef215862", func := "loop.example/returningdigits/laws.FnGreatestStay", spec := "fnGreatestStay", unfollowed := true, recurses := true, apart := false, narrowed := true }
def FnGreatestStayUptoSaid : Prop := fnGreatestStayUptoRow.holds Try.pinned (OpenSpec.upto fnGreatestStaySpec)

/-- 'laws.FnRoundsUpTo', WHERE WHAT IT READS IS OF BULK AT MOST 1048576: true; the input reads as it did. -/
def fnRoundsUpToUptoRow : OpenClaim := { program := "ythpimanfkbeanaa", sum := "23827caec5481a467422009f79414edbdf61999315c7e8221d3c80f7ef215862", func := "loop.example/returningdigits/laws.FnRoundsUpTo", spec := "fnRoundsUpTo", unfollowed := true, recurses := true, apart := false, narrowed := true }
def FnRoundsUpToUptoSaid : Prop := fnRoundsUpToUptoRow.holds Try.pinned (OpenSpec.upto fnRoundsUpToSpec)

/-- 'laws.FnExactNextOf', WHERE WHAT IT READS IS OF BULK AT MOST 1048576: true; the input reads as it did. -/
def fnExactNextOfUptoRow : OpenClaim := { program := "ythpimanfkbeanaa", sum := "23827caec5481a467422009f79414edbdf61999315c7e8221d3c80f7ef215862", func := "loop.example/returningdigits/laws.FnExactNextOf", spec := "fnExactNextOf", unfollowed := true, recurses := true, apart := false, narrowed := true }
def FnExactNextOfUptoSaid : Prop := fnExactNextOfUptoRow.holds Try.pinned (OpenSpec.upto fnExactNextOfSpec)

/-- 'laws.FnExactRoundFrom', WHERE WHAT IT READS IS OF BULK AT MOST 1048576: true; the input reads as it did. -/
def fnExactRoundFromUptoRow : OpenClaim := { program := "ythpimanfkbeanaa", sum := "23827caec5481a467422009f79414edbdf61999315c7e8221d3c80f7ef215862", func := "loop.example/returningdigits/laws.FnExactRoundFrom", spec := "fnExactRoundFrom", unfollowed := true, recurses := true, apart := false, narrowed := true }
def FnExactRoundFromUptoSaid : Prop := fnExactRoundFromUptoRow.holds Try.pinned (OpenSpec.upto fnExactRoundFromSpec)

/-- 'laws.FnExactHappyOk', WHERE WHAT IT READS IS OF BULK AT MOST 1048576: true; the input reads as it did. -/
def fnExactHappyOkUptoRow : OpenClaim := { program := "ythpimanfkbeanaa", sum := "23827caec5481a467422009f79414edbdf61999315c7e8221d3c80f7ef215862", func := "loop.example/returningdigits/laws.FnExactHappyOk", spec := "fnExactHappyOk", unfollowed := true, recurses := true, apart := false, narrowed := true }
def FnExactHappyOkUptoSaid : Prop := fnExactHappyOkUptoRow.holds Try.pinned (OpenSpec.upto fnExactHappyOkSpec)

/-- 'laws.FnExactGreatestStay', WHERE WHAT IT READS IS OF BULK AT MOST 1048576: true; the input reads as it did. -/
def fnExactGreatestStayUptoRow : OpenClaim := { program := "ythpimanfkbeanaa", sum := "23827caec5481a467422009f79414edbdf61999315c7e8221d3c80f7ef215862", func := "loop.example/returningdigits/laws.FnExactGreatestStay", spec := "fnExactGreatestStay", unfollowed := true, recurses := true, apart := false, narrowed := true }
def FnExactGreatestStayUptoSaid : Prop := fnExactGreatestStayUptoRow.holds Try.pinned (OpenSpec.upto fnExactGreatestStaySpec)

/-- 'laws.FnExactRoundsUpTo', WHERE WHAT IT READS IS OF BULK AT MOST 1048576: true; the input reads as it did. -/
def fnExactRoundsUpToUptoRow : OpenClaim := { program := "ythpimanfkbeanaa", sum := "23827caec5481a467422009f79414edbdf61999315c7e8221d3c80f7ef215862", func := "loop.example/returningdigits/laws.FnExactRoundsUpTo", spec := "fnExactRoundsUpTo", unfollowed := true, recurses := true, apart := false, narrowed := true }
def FnExactRoundsUpToUptoSaid : Prop := fnExactRoundsUpToUptoRow.holds Try.pinned (OpenSpec.upto fnExactRoundsUpToSpec)

end Rows
end Go.Proofs.Ythpimanfkbeanaa
