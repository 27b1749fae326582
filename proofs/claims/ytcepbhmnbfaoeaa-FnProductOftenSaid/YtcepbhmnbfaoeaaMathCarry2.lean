/-
  Plain facts: carries and choices, as the functions answer.
-/
import Derived.Test.YtcepbhmnbfaoeaaMathCarry
namespace Go.Proofs.Ytcepbhmnbfaoeaa
namespace Pl

/-- Carries, as the functions answer. -/
def carI (n m b : Int) : Int := if (okB n b = true ∧ okB m b = true) then ((carN b.toNat n.toNat m.toNat : Nat) : Int) else -1
theorem carI_yes {n m b : Nat} (h1 : okB n b = true) (h2 : okB m b = true) : carI n m b = ((carN b n m : Nat) : Int) := by rw [carI, if_pos ⟨h1, h2⟩]; rfl
theorem carI_no {n m b : Int} (h : ¬ (okB n b = true ∧ okB m b = true)) : carI n m b = -1 := by rw [carI, if_neg h]

/-- Prime bases. -/
def primeB (p : Int) : Bool := decide (p = 2 ∨ p = 3 ∨ p = 5 ∨ p = 7 ∨ p = 11 ∨ p = 13)
theorem primeB_nat {p : Int} (h : primeB p = true) : ∃ q : Nat, p = (q : Int) ∧ q ∈ primes6 := by
  simp only [primeB, decide_eq_true_eq] at h
  refine ⟨p.toNat, by omega, ?_⟩
  unfold primes6
  simp only [List.mem_cons, List.not_mem_nil, or_false]
  omega

/-- How often a prime divides the product of all numbers, as the functions answer. -/
def oftI (n p : Int) : Int := if (0 ≤ n ∧ n ≤ 1000000000) ∧ primeB p = true then ((oftN p.toNat n.toNat : Nat) : Int) else -1
/-- How often it divides a choice. -/
def choI (n k p : Int) : Int := if ((0 ≤ n ∧ n ≤ 200) ∧ 0 ≤ k ∧ k ≤ n) ∧ primeB p = true then ((carN p.toNat k.toNat (n.toNat - k.toNat) : Nat) : Int) else -1
/-- What a choice leaves. -/
def resI (n k p : Int) : Int := if ((0 ≤ n ∧ n ≤ 200) ∧ 0 ≤ k ∧ k ≤ n) ∧ primeB p = true then ((cr p.toNat n.toNat k.toNat : Nat) : Int) else -1

end Pl
end Go.Proofs.Ytcepbhmnbfaoeaa
