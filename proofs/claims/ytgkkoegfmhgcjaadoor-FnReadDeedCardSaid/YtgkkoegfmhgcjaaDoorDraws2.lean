/-
  More drawing functions: two numbers and a base; a row of digits and a base.
-/
import Derived.Test.YtgkkoegfmhgcjaaDoorDraws
import Derived.Test.YtgkkoegfmhgcjaaDoorDigitsOf
namespace Go.Proofs.YtgkkoegfmhgcjaaDoor
open Go.RowKit Go.Shelf

/-- Two numbers and a base. -/
def ThreePost (w : World) (e : Ending) (w' : World) : Prop :=
  ∃ x y z : Int, e = .returned (.tuple #[.int .i64 x, .int .i64 y, .int .i64 z]) ∧ (-2000000000 ≤ x ∧ x ≤ 2000000000) ∧ (-2000000000 ≤ y ∧ y ≤ 2000000000) ∧ (-20 ≤ z ∧ z ≤ 40) ∧ Below w.heap.size w w'

end Go.Proofs.YtgkkoegfmhgcjaaDoor
