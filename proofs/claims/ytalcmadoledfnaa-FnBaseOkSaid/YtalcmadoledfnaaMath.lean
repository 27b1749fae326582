/-
  Plain facts about digits: Bool tests for bases and numbers, the digits of a number in a base, their sum. No program is named.
-/
import Derived.KernelRfl
namespace Go.Proofs.Ytalcmadoledfnaa
namespace Pl

/-- A base is in 2..16. -/
def baseB (b : Int) : Bool := decide (2 ≤ b) && decide (b ≤ 16)

/-- A number with digits: base in 2..16, number in 0..1000000000. -/
def okB (n b : Int) : Bool := baseB b && (decide (0 ≤ n) && decide (n ≤ 1000000000))

theorem baseB_iff (b : Int) : baseB b = true ↔ 2 ≤ b ∧ b ≤ 16 := by simp [baseB]
theorem okB_iff (n b : Int) : okB n b = true ↔ (2 ≤ b ∧ b ≤ 16) ∧ 0 ≤ n ∧ n ≤ 1000000000 := by simp [okB, baseB]

end Pl
end Go.Proofs.Ytalcmadoledfnaa
