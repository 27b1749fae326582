/-
  laws.hasInt and laws.ascend: whether a list has a number; whether it ascends.
-/
import Derived.Test.YtepkneeedkmaoaaList
namespace Go.Proofs.Ytepkneeedkmaoaa
open Go.RowKit

theorem not_mem_of {xs : List Int} {x : Int} (h : ∀ i, i < xs.length → xs[i]?.getD 0 ≠ x) : x ∉ xs := by
  intro hx
  obtain ⟨i, hi, he⟩ := List.mem_iff_getElem.1 hx
  exact h i hi (by rw [List.getElem?_eq_getElem hi, Option.getD_some, he])

theorem asc_at {xs : List Int} (h : xs.Pairwise (· < ·)) {k : Nat} (h1 : 1 ≤ k) (hk : k < xs.length) : xs[k - 1]?.getD 0 < xs[k]?.getD 0 := by
  have := List.pairwise_iff_getElem.1 h (k - 1) k (by omega) hk (by omega)
  rw [List.getElem?_eq_getElem hk, List.getElem?_eq_getElem (by omega)]
  exact this

end Go.Proofs.Ytepkneeedkmaoaa
