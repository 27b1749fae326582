/-
  Plain facts: digits by turns added and taken away, the last one added.
-/
import Derived.Test.YtggeemkjgpjahaaMathRoot
namespace Go.Proofs.Ytggeemkjgpjahaa
namespace Pl

/-- The digits by turns added and taken away, the last one added. -/
def altD (b n : Nat) : Int := if _h : n < b ∨ b < 2 then (n : Int) else ((n % b : Nat) : Int) - altD b (n / b)
  termination_by n
  decreasing_by exact Nat.div_lt_self (by omega) (by omega)

theorem altD_lt {b n : Nat} (h : n < b) : altD b n = (n : Int) := by rw [altD, dif_pos (.inl h)]
theorem altD_ge {b n : Nat} (hb : 2 ≤ b) (h : b ≤ n) : altD b n = ((n % b : Nat) : Int) - altD b (n / b) := by rw [altD, dif_neg (by omega)]
theorem altD_step {b : Nat} (hb : 2 ≤ b) (n : Nat) : altD b n = ((n % b : Nat) : Int) - altD b (n / b) := by
  by_cases h : n < b
  · rw [Nat.div_eq_of_lt h, Nat.mod_eq_of_lt h, altD_lt h, altD_lt (show 0 < b by omega)]; omega
  · exact altD_ge hb (by omega)

theorem altD_bound {b : Nat} (hb : 2 ≤ b) (n : Nat) : -(sumD b n : Int) ≤ altD b n ∧ altD b n ≤ (sumD b n : Int) := by
  refine digInd hb (P := fun n => -(sumD b n : Int) ≤ altD b n ∧ altD b n ≤ (sumD b n : Int)) ?_ ?_ n
  · intro n h; rw [altD_lt h, sumD_lt h]; omega
  · intro n h ih; rw [altD_ge hb h, sumD_ge hb h]; omega

theorem altD_dvd {b : Nat} (hb : 2 ≤ b) (n : Nat) : ∃ c : Int, (n : Int) - altD b n = c * ((b : Int) + 1) := by
  refine digInd hb (P := fun n => ∃ c : Int, (n : Int) - altD b n = c * ((b : Int) + 1)) ?_ ?_ n
  · intro n h; exact ⟨0, by rw [altD_lt h]; omega⟩
  · intro n h ⟨c, ih⟩
    refine ⟨((n / b : Nat) : Int) - c, ?_⟩
    have h1 : (b : Int) * ((n / b : Nat) : Int) + ((n % b : Nat) : Int) = (n : Int) := by exact_mod_cast Nat.div_add_mod n b
    rw [altD_ge hb h, Int.sub_mul, ← ih, Int.mul_add, Int.mul_comm _ (b : Int)]
    omega

theorem altD_even {b : Nat} (hb : 2 ≤ b) (n : Nat) : ∃ c : Int, (sumD b n : Int) - altD b n = 2 * c := by
  refine digInd hb (P := fun n => ∃ c : Int, (sumD b n : Int) - altD b n = 2 * c) ?_ ?_ n
  · intro n h; exact ⟨0, by rw [altD_lt h, sumD_lt h]; omega⟩
  · intro n h ⟨c, ih⟩
    refine ⟨c + altD b (n / b), ?_⟩
    rw [altD_ge hb h, sumD_ge hb h]
    omega

end Pl
end Go.Proofs.Ytggeemkjgpjahaa
