/-
  How many palindromes there are of at most 3 digits, in each base: reckoned by the kernel over all of them (60 s).
-/
import Derived.Test.YtaocefdannjlhaaMathTurn
namespace Go.Proofs.Ytaocefdannjlhaa
namespace Pl

theorem cnt_check : ((List.range 15).all fun i => (List.range 3).all fun j => cntR (i + 2) (j + 1) 13 ((i + 2) ^ j) ((i + 2) ^ (j + 1) - (i + 2) ^ j) == (i + 1) * (i + 2) ^ (j / 2)) = true := by decide +kernel

/-- Of at most 3 digits. -/
theorem cntPal_eq {b j : Nat} (hb : 2 ≤ b) (hb' : b ≤ 16) (hj : j ≤ 2) : cntPal b (b ^ j) (b ^ (j + 1) - b ^ j) = (b - 1) * b ^ (j / 2) := by
  have h1 := List.all_eq_true.1 cnt_check (b - 2) (List.mem_range.2 (by omega))
  have h2 := List.all_eq_true.1 h1 j (List.mem_range.2 (by omega))
  rw [show b - 2 + 2 = b by omega, show b - 2 + 1 = b - 1 by omega] at h2
  have h3 : b ^ j ≤ b ^ (j + 1) := Nat.pow_le_pow_right (by omega) (by omega)
  have h4 : b ^ (j + 1) ≤ 4096 := by
    have g1 : b ^ (j + 1) ≤ 16 ^ (j + 1) := Nat.pow_le_pow_left hb' _
    have g2 : (16 : Nat) ^ (j + 1) ≤ 16 ^ 3 := Nat.pow_le_pow_right (by omega) (by omega)
    omega
  rw [← cntR_eq hb 13 (b ^ j) _ (by omega) (Nat.le_refl _) (by omega)]
  simpa using h2

end Pl
end Go.Proofs.Ytaocefdannjlhaa
