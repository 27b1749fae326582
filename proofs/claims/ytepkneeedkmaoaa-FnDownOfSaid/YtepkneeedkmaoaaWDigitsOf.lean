/-
  The walk of the exact law of DigitsOf: its answer is the model's, in memory of its own.
-/
import Derived.Test.YtepkneeedkmaoaaDigitsOf
import Derived.Test.YtepkneeedkmaoaaMark
namespace Go.Proofs.Ytepkneeedkmaoaa
open Go.RowKit

theorem eqL_self (xs : List Int) : eqL xs xs = true := by simp [eqL]

theorem Ints.kept {w w' : World} {v : Value} {xs : List Int} (h : Ints w v xs) {B : Nat} (hB : w.heap.size ≤ B) (hb : Below B w w') : Ints w' v xs := h.below (hb.mono hB)

end Go.Proofs.Ytepkneeedkmaoaa
