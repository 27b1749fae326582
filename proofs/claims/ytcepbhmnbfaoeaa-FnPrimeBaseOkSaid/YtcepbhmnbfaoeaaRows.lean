/-
  No cell of these rows narrows 'for every input' (looked for: loops, veiled, ifaces, maps, wideKeys, modest, calm, conditions, laid).
  DERIVED. THE GIVEN ROWS OF THIS SEAT. 12 by the template 'for every input the law returns true; each argument reads behind the call as it read before'; 0 by the template 'total and deterministic' (their statements: YtcepbhmnbfaoeaaTotals.lean).
  GIVEN WITH THE SEED: the statements are not yours to turn. If you find one false, say at which input.
  Laid BY PROGRAM, IN A SANDBOX (cutbox-rows.mjs): the forced cells as the released guide's own fill.sh prints them over the translation 676a68433645996a… (all of the seat's roots in one cut). By AI agents, Wed Nov 11 2026. No macro, syntax, notation, axiom, sorry.
-/
import Derived.Test.YtcepbhmnbfaoeaaChecked
import GoSem.Claim
import GoSem.ClaimJoined
import GoSem.ClaimMapViews
import Derived.JoinedTies
import Derived.KernelRfl
namespace Go.Proofs.Ytcepbhmnbfaoeaa
/- THE CELL 'sum', in the pinned program and in every row, IS THE sha256 OF THE DUMP (.gsa) THAT YtcepbhmnbfaoeaaProg.lean LOADS. Nothing in Lean hashes anything: it is a label: what it is worth is what the hold of that sum in a sandbox is worth. -/
noncomputable def Try.pinned : Pinned := { name := "ytcepbhmnbfaoeaa", sum := "676a68433645996adc4c442a4c1f3f39146d8c87f9786f707b92f977986ba610", checked := Try.checked }
namespace Rows
def none {H : Type} : Left H := { results := [], args := [] }

/-- 'laws.FnCarriesOf': WHATEVER THE INPUT: true; the input reads as it did. -/
def fnCarriesOfSpec : ChangeSpec := { name := "fnCarriesOf", fn := fun _ => fun
  | [d] => { results := [.lit (.bool true)], args := [d] }
  | _ => none }
def fnCarriesOfRow : OpenClaim := { program := "ytcepbhmnbfaoeaa", sum := "676a68433645996adc4c442a4c1f3f39146d8c87f9786f707b92f977986ba610", func := "loop.example/returningdigits/laws.FnCarriesOf", spec := "fnCarriesOf", unfollowed := true, recurses := true, apart := false }
def FnCarriesOfSaid : Prop := fnCarriesOfRow.holds Try.pinned (OpenSpec.ofChange fnCarriesOfSpec)

/-- ITS FALSE NEIGHBOUR: 'it returns false'. Refute it at one input. -/
def fnCarriesOfWrong : ChangeSpec := { name := "fnCarriesOf", fn := fun _ => fun
  | [d] => { results := [.lit (.bool false)], args := [d] }
  | _ => none }
def FnCarriesOfWrongFalsely : Prop := fnCarriesOfRow.holds Try.pinned (OpenSpec.ofChange fnCarriesOfWrong)

/-- 'laws.FnPrimeBaseOk': WHATEVER THE INPUT: true; the input reads as it did. -/
def fnPrimeBaseOkSpec : ChangeSpec := { name := "fnPrimeBaseOk", fn := fun _ => fun
  | [d] => { results := [.lit (.bool true)], args := [d] }
  | _ => none }
def fnPrimeBaseOkRow : OpenClaim := { program := "ytcepbhmnbfaoeaa", sum := "676a68433645996adc4c442a4c1f3f39146d8c87f9786f707b92f977986ba610", func := "loop.example/returningdigits/laws.FnPrimeBaseOk", spec := "fnPrimeBaseOk", apart := false }
def FnPrimeBaseOkSaid : Prop := fnPrimeBaseOkRow.holds Try.pinned (OpenSpec.ofChange fnPrimeBaseOkSpec)

/-- ITS FALSE NEIGHBOUR: 'it returns false'. Refute it at one input. -/
def fnPrimeBaseOkWrong : ChangeSpec := { name := "fnPrimeBaseOk", fn := fun _ => fun
  | [d] => { results := [.lit (.bool false)], args := [d] }
  | _ => none }
def FnPrimeBaseOkWrongFalsely : Prop := fnPrimeBaseOkRow.holds Try.pinned (OpenSpec.ofChange fnPrimeBaseOkWrong)

/-- 'laws.FnProductOften': WHATEVER THE INPUT: true; the input reads as it did. -/
def fnProductOftenSpec : ChangeSpec := { name := "fnProductOften", fn := fun _ => fun
  | [d] => { results := [.lit (.bool true)], args := [d] }
  | _ => none }
def fnProductOftenRow : OpenClaim := { program := "ytcepbhmnbfaoeaa", sum := "676a68433645996adc4c442a4c1f3f39146d8c87f9786f707b92f977986ba610", func := "loop.example/returningdigits/laws.FnProductOften", spec := "fnProductOften", unfollowed := true, recurses := true, apart := false }
def FnProductOftenSaid : Prop := fnProductOftenRow.holds Try.pinned (OpenSpec.ofChange fnProductOftenSpec)

/-- ITS FALSE NEIGHBOUR: 'it returns false'. Refute it at one input. -/
def fnProductOftenWrong : ChangeSpec := { name := "fnProductOften", fn := fun _ => fun
  | [d] => { results := [.lit (.bool false)], args := [d] }
  | _ => none }
def FnProductOftenWrongFalsely : Prop := fnProductOftenRow.holds Try.pinned (OpenSpec.ofChange fnProductOftenWrong)

/-- 'laws.FnChoiceOften': WHATEVER THE INPUT: true; the input reads as it did. -/
def fnChoiceOftenSpec : ChangeSpec := { name := "fnChoiceOften", fn := fun _ => fun
  | [d] => { results := [.lit (.bool true)], args := [d] }
  | _ => none }
def fnChoiceOftenRow : OpenClaim := { program := "ytcepbhmnbfaoeaa", sum := "676a68433645996adc4c442a4c1f3f39146d8c87f9786f707b92f977986ba610", func := "loop.example/returningdigits/laws.FnChoiceOften", spec := "fnChoiceOften", unfollowed := true, recurses := true, apart := false }
def FnChoiceOftenSaid : Prop := fnChoiceOftenRow.holds Try.pinned (OpenSpec.ofChange fnChoiceOftenSpec)

/-- ITS FALSE NEIGHBOUR: 'it returns false'. Refute it at one input. -/
def fnChoiceOftenWrong : ChangeSpec := { name := "fnChoiceOften", fn := fun _ => fun
  | [d] => { results := [.lit (.bool false)], args := [d] }
  | _ => none }
def FnChoiceOftenWrongFalsely : Prop := fnChoiceOftenRow.holds Try.pinned (OpenSpec.ofChange fnChoiceOftenWrong)

/-- 'laws.FnChoiceRest': WHATEVER THE INPUT: true; the input reads as it did. -/
def fnChoiceRestSpec : ChangeSpec := { name := "fnChoiceRest", fn := fun _ => fun
  | [d] => { results := [.lit (.bool true)], args := [d] }
  | _ => none }
def fnChoiceRestRow : OpenClaim := { program := "ytcepbhmnbfaoeaa", sum := "676a68433645996adc4c442a4c1f3f39146d8c87f9786f707b92f977986ba610", func := "loop.example/returningdigits/laws.FnChoiceRest", spec := "fnChoiceRest", apart := false }
def FnChoiceRestSaid : Prop := fnChoiceRestRow.holds Try.pinned (OpenSpec.ofChange fnChoiceRestSpec)

/-- ITS FALSE NEIGHBOUR: 'it returns false'. Refute it at one input. -/
def fnChoiceRestWrong : ChangeSpec := { name := "fnChoiceRest", fn := fun _ => fun
  | [d] => { results := [.lit (.bool false)], args := [d] }
  | _ => none }
def FnChoiceRestWrongFalsely : Prop := fnChoiceRestRow.holds Try.pinned (OpenSpec.ofChange fnChoiceRestWrong)

/-- 'laws.FnNoughtsAtEnd': WHATEVER THE INPUT: true; the input reads as it did. -/
def fnNoughtsAtEndSpec : ChangeSpec := { name := "fnNoughtsAtEnd", fn := fun _ => fun
  | [d] => { results := [.lit (.bool true)], args := [d] }
  | _ => none }
def fnNoughtsAtEndRow : OpenClaim := { program := "ytcepbhmnbfaoeaa", sum := "676a68433645996adc4c442a4c1f3f39146d8c87f9786f707b92f977986ba610", func := "loop.example/returningdigits/laws.FnNoughtsAtEnd", spec := "fnNoughtsAtEnd", unfollowed := true, recurses := true, apart := false }
def FnNoughtsAtEndSaid : Prop := fnNoughtsAtEndRow.holds Try.pinned (OpenSpec.ofChange fnNoughtsAtEndSpec)

/-- ITS FALSE NEIGHBOUR: 'it returns false'. Refute it at one input. -/
def fnNoughtsAtEndWrong : ChangeSpec := { name := "fnNoughtsAtEnd", fn := fun _ => fun
  | [d] => { results := [.lit (.bool false)], args := [d] }
  | _ => none }
def FnNoughtsAtEndWrongFalsely : Prop := fnNoughtsAtEndRow.holds Try.pinned (OpenSpec.ofChange fnNoughtsAtEndWrong)

/-- 'laws.FnExactCarriesOf': WHATEVER THE INPUT: true; the input reads as it did. -/
def fnExactCarriesOfSpec : ChangeSpec := { name := "fnExactCarriesOf", fn := fun _ => fun
  | [d1, d2, d3] => { results := [.lit (.bool true)], args := [d1, d2, d3] }
  | _ => none }
def fnExactCarriesOfRow : OpenClaim := { program := "ytcepbhmnbfaoeaa", sum := "676a68433645996adc4c442a4c1f3f39146d8c87f9786f707b92f977986ba610", func := "loop.example/returningdigits/laws.FnExactCarriesOf", spec := "fnExactCarriesOf", apart := false }
def FnExactCarriesOfSaid : Prop := fnExactCarriesOfRow.holds Try.pinned (OpenSpec.ofChange fnExactCarriesOfSpec)

/-- ITS FALSE NEIGHBOUR: 'it returns false'. Refute it at one input. -/
def fnExactCarriesOfWrong : ChangeSpec := { name := "fnExactCarriesOf", fn := fun _ => fun
  | [d1, d2, d3] => { results := [.lit (.bool false)], args := [d1, d2, d3] }
  | _ => none }
def FnExactCarriesOfWrongFalsely : Prop := fnExactCarriesOfRow.holds Try.pinned (OpenSpec.ofChange fnExactCarriesOfWrong)

/-- 'laws.FnExactPrimeBaseOk': WHATEVER THE INPUT: true; the input reads as it did. -/
def fnExactPrimeBaseOkSpec : ChangeSpec := { name := "fnExactPrimeBaseOk", fn := fun _ => fun
  | [d] => { results := [.lit (.bool true)], args := [d] }
  | _ => none }
def fnExactPrimeBaseOkRow : OpenClaim := { program := "ytcepbhmnbfaoeaa", sum := "676a68433645996adc4c442a4c1f3f39146d8c87f9786f707b92f977986ba610", func := "loop.example/returningdigits/laws.FnExactPrimeBaseOk", spec := "fnExactPrimeBaseOk", apart := false }
def FnExactPrimeBaseOkSaid : Prop := fnExactPrimeBaseOkRow.holds Try.pinned (OpenSpec.ofChange fnExactPrimeBaseOkSpec)

/-- ITS FALSE NEIGHBOUR: 'it returns false'. Refute it at one input. -/
def fnExactPrimeBaseOkWrong : ChangeSpec := { name := "fnExactPrimeBaseOk", fn := fun _ => fun
  | [d] => { results := [.lit (.bool false)], args := [d] }
  | _ => none }
def FnExactPrimeBaseOkWrongFalsely : Prop := fnExactPrimeBaseOkRow.holds Try.pinned (OpenSpec.ofChange fnExactPrimeBaseOkWrong)

/-- 'laws.FnExactProductOften': WHATEVER THE INPUT: true; the input reads as it did. -/
def fnExactProductOftenSpec : ChangeSpec := { name := "fnExactProductOften", fn := fun _ => fun
  | [d1, d2] => { results := [.lit (.bool true)], args := [d1, d2] }
  | _ => none }
def fnExactProductOftenRow : OpenClaim := { program := "ytcepbhmnbfaoeaa", sum := "676a68433645996adc4c442a4c1f3f39146d8c87f9786f707b92f977986ba610", func := "loop.example/returningdigits/laws.FnExactProductOften", spec := "fnExactProductOften", unfollowed := true, recurses := true, apart := false }
def FnExactProductOftenSaid : Prop := fnExactProductOftenRow.holds Try.pinned (OpenSpec.ofChange fnExactProductOftenSpec)

/-- ITS FALSE NEIGHBOUR: 'it returns false'. Refute it at one input. -/
def fnExactProductOftenWrong : ChangeSpec := { name := "fnExactProductOften", fn := fun _ => fun
  | [d1, d2] => { results := [.lit (.bool false)], args := [d1, d2] }
  | _ => none }
def FnExactProductOftenWrongFalsely : Prop := fnExactProductOftenRow.holds Try.pinned (OpenSpec.ofChange fnExactProductOftenWrong)

/-- 'laws.FnExactChoiceOften': WHATEVER THE INPUT: true; the input reads as it did. -/
def fnExactChoiceOftenSpec : ChangeSpec := { name := "fnExactChoiceOften", fn := fun _ => fun
  | [d1, d2, d3] => { results := [.lit (.bool true)], args := [d1, d2, d3] }
  | _ => none }
def fnExactChoiceOftenRow : OpenClaim := { program := "ytcepbhmnbfaoeaa", sum := "676a68433645996adc4c442a4c1f3f39146d8c87f9786f707b92f977986ba610", func := "loop.example/returningdigits/laws.FnExactChoiceOften", spec := "fnExactChoiceOften", apart := false }
def FnExactChoiceOftenSaid : Prop := fnExactChoiceOftenRow.holds Try.pinned (OpenSpec.ofChange fnExactChoiceOftenSpec)

/-- ITS FALSE NEIGHBOUR: 'it returns false'. Refute it at one input. -/
def fnExactChoiceOftenWrong : ChangeSpec := { name := "fnExactChoiceOften", fn := fun _ => fun
  | [d1, d2, d3] => { results := [.lit (.bool false)], args := [d1, d2, d3] }
  | _ => none }
def FnExactChoiceOftenWrongFalsely : Prop := fnExactChoiceOftenRow.holds Try.pinned (OpenSpec.ofChange fnExactChoiceOftenWrong)

/-- 'laws.FnExactChoiceRest': WHATEVER THE INPUT: true; the input reads as it did. -/
def fnExactChoiceRestSpec : ChangeSpec := { name := "fnExactChoiceRest", fn := fun _ => fun
  | [d1, d2, d3] => { results := [.lit (.bool true)], args := [d1, d2, d3] }
  | _ => none }
def fnExactChoiceRestRow : OpenClaim := { program := "ytcepbhmnbfaoeaa", sum := "676a68433645996adc4c442a4c1f3f39146d8c87f9786f707b92f977986ba610", func := "loop.example/returningdigits/laws.FnExactChoiceRest", spec := "fnExactChoiceRest", apart := false }
def FnExactChoiceRestSaid : Prop := fnExactChoiceRestRow.holds Try.pinned (OpenSpec.ofChange fnExactChoiceRestSpec)

/-- ITS FALSE NEIGHBOUR: 'it returns false'. Refute it at one input. -/
def fnExactChoiceRestWrong : ChangeSpec := { name := "fnExactChoiceRest", fn := fun _ => fun
  | [d1, d2, d3] => { results := [.lit (.bool false)], args := [d1, d2, d3] }
  | _ => none }
def FnExactChoiceRestWrongFalsely : Prop := fnExactChoiceRestRow.holds Try.pinned (OpenSpec.ofChange fnExactChoiceRestWrong)

/-- 'laws.FnExactNoughtsAtEnd': WHATEVER THE INPUT: true; the input reads as it did. -/
def fnExactNoughtsAtEndSpec : ChangeSpec := { name := "fnExactNoughtsAtEnd", fn := fun _ => fun
  | [d1, d2] => { results := [.lit (.bool true)], args := [d1, d2] }
  | _ => none }
def fnExactNoughtsAtEndRow : OpenClaim := { program := "ytcepbhmnbfaoeaa", sum := "676a68433645996adc4c442a4c1f3f39146d8c87f9786f707b92f977986ba610", func := "loop.example/returningdigits/laws.FnExactNoughtsAtEnd", spec := "fnExactNoughtsAtEnd", unfollowed := true, recurses := true, apart := false }
def FnExactNoughtsAtEndSaid : Prop := fnExactNoughtsAtEndRow.holds Try.pinned (OpenSpec.ofChange fnExactNoughtsAtEndSpec)

/-- ITS FALSE NEIGHBOUR: 'it returns false'. Refute it at one input. -/
def fnExactNoughtsAtEndWrong : ChangeSpec := { name := "fnExactNoughtsAtEnd", fn := fun _ => fun
  | [d1, d2] => { results := [.lit (.bool false)], args := [d1, d2] }
  | _ => none }
def FnExactNoughtsAtEndWrongFalsely : Prop := fnExactNoughtsAtEndRow.holds Try.pinned (OpenSpec.ofChange fnExactNoughtsAtEndWrong)

/- THE SECOND FORM. 'bulk': how many values and letters a reading holds, each counted each time it is reached (what is shared counts as often as it is met; a slice's spare places count too). A statement '..UptoSaid' is the law's where the arguments, and the package variables that the reading takes, are together of bulk at most 1048576: NARROWER than '..Said'. Prove '..Said' where nothing that the law and all that it calls make is longer than what came in: it says more and counts as full. Else prove '..UptoSaid'. A law counts once. -/
mutual
def uptoBulk {H : Type} : DataW H → Nat
  | .lit (.string bytes) => bytes.length + 1
  | .lit _ => 1
  | .nil => 1
  | .ptr d => uptoBulk d + 1
  | .slice elems spare => uptoBulkAll elems + uptoBulkAll spare + 1
  | .agg parts => uptoBulkAll parts + 1
  | .iface _ d => uptoBulk d + 1
  | .map entries => uptoBulkEntries entries + 1
  | .held _ => 1
def uptoBulkAll {H : Type} : List (DataW H) → Nat
  | [] => 0
  | d :: r => uptoBulk d + uptoBulkAll r
def uptoBulkEntries {H : Type} : List (Lit × DataW H) → Nat
  | [] => 0
  | x :: r => uptoBulkEntry x + uptoBulkEntries r
def uptoBulkEntry {H : Type} : Lit × DataW H → Nat
  | (.string bytes, d) => bytes.length + uptoBulk d + 1
  | (_, d) => uptoBulk d + 1
 end
def uptoSmall : (H : Type) → List (DataW H) → Bool := fun _ ds => decide (uptoBulkAll ds ≤ 1048576)
def OpenSpec.upto (s : _root_.Go.ChangeSpec) : _root_.Go.OpenSpec := { _root_.Go.OpenSpec.ofChange s with cond := some uptoSmall }

/-- 'laws.FnCarriesOf', WHERE WHAT IT READS IS OF BULK AT MOST 1048576: true; the input reads as it did. -/
def fnCarriesOfUptoRow : OpenClaim := { program := "ytcepbhmnbfaoeaa", sum := "676a68433645996adc4c442a4c1f3f39146d8c87f9786f707b92f977986ba610", func := "loop.example/returningdigits/laws.FnCarriesOf", spec := "fnCarriesOf", unfollowed := true, recurses := true, apart := false, narrowed := true }
def FnCarriesOfUptoSaid : Prop := fnCarriesOfUptoRow.holds Try.pinned (OpenSpec.upto fnCarriesOfSpec)

/-- 'laws.FnPrimeBaseOk', WHERE WHAT IT READS IS OF BULK AT MOST 1048576: true; the input reads as it did. -/
def fnPrimeBaseOkUptoRow : OpenClaim := { program := "ytcepbhmnbfaoeaa", sum := "676a68433645996adc4c442a4c1f3f39146d8c87f9786f707b92f977986ba610", func := "loop.example/returningdigits/laws.FnPrimeBaseOk", spec := "fnPrimeBaseOk", apart := false, narrowed := true }
def FnPrimeBaseOkUptoSaid : Prop := fnPrimeBaseOkUptoRow.holds Try.pinned (OpenSpec.upto fnPrimeBaseOkSpec)

/-- 'laws.FnProductOften', WHERE WHAT IT READS IS OF BULK AT MOST 1048576: true; the input reads as it did. -/
def fnProductOftenUptoRow : OpenClaim := { program := "ytcepbhmnbfaoeaa", sum := "676a68433645996adc4c442a4c1f3f39146d8c87f9786f707b92f977986ba610", func := "loop.example/returningdigits/laws.FnProductOften", spec := "fnProductOften", unfollowed := true, recurses := true, apart := false, narrowed := true }
def FnProductOftenUptoSaid : Prop := fnProductOftenUptoRow.holds Try.pinned (OpenSpec.upto fnProductOftenSpec)

/-- 'laws.FnChoiceOften', WHERE WHAT IT READS IS OF BULK AT MOST 1048576: true; the input reads as it did. -/
def fnChoiceOftenUptoRow : OpenClaim := { program := "ytcepbhmnbfaoeaa", sum := "676a68433645996adc4c442a4c1f3f39146d8c87f9786f707b92f977986ba610", func := "loop.example/returningdigits/laws.FnChoiceOften", spec := "fnChoiceOften", unfollowed := true, recurses := true, apart := false, narrowed := true }
def FnChoiceOftenUptoSaid : Prop := fnChoiceOftenUptoRow.holds Try.pinned (OpenSpec.upto fnChoiceOftenSpec)

/-- 'laws.FnChoiceRest', WHERE WHAT IT READS IS OF BULK AT MOST 1048576: true; the input reads as it did. -/
def fnChoiceRestUptoRow : OpenClaim := { program := "ytcepbhmnbfaoeaa", sum := "676a68433645996adc4c442a4c1f3f39146d8c87f9786f707b92f977986ba610", func := "loop.example/returningdigits/laws.FnChoiceRest", spec := "fnChoiceRest", apart := false, narrowed := true }
def FnChoiceRestUptoSaid : Prop := fnChoiceRestUptoRow.holds Try.pinned (OpenSpec.upto fnChoiceRestSpec)

/-- 'laws.FnNoughtsAtEnd', WHERE WHAT IT READS IS OF BULK AT MOST 1048576: true; the input reads as it did. -/
def fnNoughtsAtEndUptoRow : OpenClaim := { program := "ytcepbhmnbfaoeaa", sum := "676a68433645996adc4c442a4c1f3f39146d8c87f9786f707b92f977986ba610", func := "loop.example/returningdigits/laws.FnNoughtsAtEnd", spec := "fnNoughtsAtEnd", unfollowed := true, recurses := true, apart := false, narrowed := true }
def FnNoughtsAtEndUptoSaid : Prop := fnNoughtsAtEndUptoRow.holds Try.pinned (OpenSpec.upto fnNoughtsAtEndSpec)

/-- 'laws.FnExactCarriesOf', WHERE WHAT IT READS IS OF BULK AT MOST 1048576: true; the input reads as it did. -/
def fnExactCarriesOfUptoRow : OpenClaim := { program := "ytcepbhmnbfaoeaa", sum := "676a68433645996adc4c442a4c1f3f39146d8c87f9786f707b92f977986ba610", func := "loop.example/returningdigits/laws.FnExactCarriesOf", spec := "fnExactCarriesOf", apart := false, narrowed := true }
def FnExactCarriesOfUptoSaid : Prop := fnExactCarriesOfUptoRow.holds Try.pinned (OpenSpec.upto fnExactCarriesOfSpec)

/-- 'laws.FnExactPrimeBaseOk', WHERE WHAT IT READS IS OF BULK AT MOST 1048576: true; the input reads as it did. -/
def fnExactPrimeBaseOkUptoRow : OpenClaim := { program := "ytcepbhmnbfaoeaa", sum := "676a68433645996adc4c442a4c1f3f39146d8c87f9786f707b92f977986ba610", func := "loop.example/returningdigits/laws.FnExactPrimeBaseOk", spec := "fnExactPrimeBaseOk", apart := false, narrowed := true }
def FnExactPrimeBaseOkUptoSaid : Prop := fnExactPrimeBaseOkUptoRow.holds Try.pinned (OpenSpec.upto fnExactPrimeBaseOkSpec)

/-- 'laws.FnExactProductOften', WHERE WHAT IT READS IS OF BULK AT MOST 1048576: true; the input reads as it did. -/
def fnExactProductOftenUptoRow : OpenClaim := { program := "ytcepbhmnbfaoeaa", sum := "676a68433645996adc4c442a4c1f3f39146d8c87f9786f707b92f977986ba610", func := "loop.example/returningdigits/laws.FnExactProductOften", spec := "fnExactProductOften", unfollowed := true, recurses := true, apart := false, narrowed := true }
def FnExactProductOftenUptoSaid : Prop := fnExactProductOftenUptoRow.holds Try.pinned (OpenSpec.upto fnExactProductOftenSpec)

/-- 'laws.FnExactChoiceOften', WHERE WHAT IT READS IS OF BULK AT MOST 1048576: true; the input reads as it did. -/
def fnExactChoiceOftenUptoRow : OpenClaim := { program := "ytcepbhmnbfaoeaa", sum := "676a68433645996adc4c442a4c1f3f39146d8c87f9786f707b92f977986ba610", func := "loop.example/returningdigits/laws.FnExactChoiceOften", spec := "fnExactChoiceOften", apart := false, narrowed := true }
def FnExactChoiceOftenUptoSaid : Prop := fnExactChoiceOftenUptoRow.holds Try.pinned (OpenSpec.upto fnExactChoiceOftenSpec)

/-- 'laws.FnExactChoiceRest', WHERE WHAT IT READS IS OF BULK AT MOST 1048576: true; the input reads as it did. -/
def fnExactChoiceRestUptoRow : OpenClaim := { program := "ytcepbhmnbfaoeaa", sum := "676a68433645996adc4c442a4c1f3f39146d8c87f9786f707b92f977986ba610", func := "loop.example/returningdigits/laws.FnExactChoiceRest", spec := "fnExactChoiceRest", apart := false, narrowed := true }
def FnExactChoiceRestUptoSaid : Prop := fnExactChoiceRestUptoRow.holds Try.pinned (OpenSpec.upto fnExactChoiceRestSpec)

/-- 'laws.FnExactNoughtsAtEnd', WHERE WHAT IT READS IS OF BULK AT MOST 1048576: true; the input reads as it did. -/
def fnExactNoughtsAtEndUptoRow : OpenClaim := { program := "ytcepbhmnbfaoeaa", sum := "676a68433645996adc4c442a4c1f3f39146d8c87f9786f707b92f977986ba610", func := "loop.example/returningdigits/laws.FnExactNoughtsAtEnd", spec := "fnExactNoughtsAtEnd", unfollowed := true, recurses := true, apart := false, narrowed := true }
def FnExactNoughtsAtEndUptoSaid : Prop := fnExactNoughtsAtEndUptoRow.holds Try.pinned (OpenSpec.upto fnExactNoughtsAtEndSpec)

end Rows
end Go.Proofs.Ytcepbhmnbfaoeaa
