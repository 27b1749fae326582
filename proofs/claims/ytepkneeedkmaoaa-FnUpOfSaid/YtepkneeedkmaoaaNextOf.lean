/-
  impl.NextOf; spec.l3Next, spec.NextOf: what they answer; the exact law.
-/
import Derived.Test.YtepkneeedkmaoaaNext
import Derived.Test.YtepkneeedkmaoaaCalm
namespace Go.Proofs.Ytepkneeedkmaoaa
open Go.RowKit Go.Shelf

/-- What spec asks of a number, a number of times and a base. -/
theorem okT_halves (n t b : Int) : Pl.okT n t b = ((decide (0 ≤ n) && decide (n ≤ 1000000000)) && ((decide (1 ≤ t) && decide (t ≤ 5)) && Pl.baseB b)) := by
  rw [Bool.eq_iff_iff, Pl.okT, Bool.and_eq_true, Pl.ruleB_iff, Pl.okB_iff]
  simp [Pl.baseB_iff]; omega

theorem specTest3 (n t b : Int) (h : ¬ Pl.okT n t b = true) : (decide (0 ≤ n) && decide (n ≤ 1000000000)) = false ∨ ((decide (0 ≤ n) && decide (n ≤ 1000000000)) = true ∧ (decide (1 ≤ t) && decide (t ≤ 5)) = false) ∨
    ((decide (0 ≤ n) && decide (n ≤ 1000000000)) = true ∧ (decide (1 ≤ t) && decide (t ≤ 5)) = true ∧ Pl.baseB b = false) := by
  rw [okT_halves] at h
  generalize (decide (0 ≤ n) && decide (n ≤ 1000000000)) = A at *
  generalize (decide (1 ≤ t) && decide (t ≤ 5)) = B at *
  generalize Pl.baseB b = C at *
  cases A <;> cases B <;> cases C <;> simp_all

end Go.Proofs.Ytepkneeedkmaoaa
