/-
  Plain facts: how many digits the next number has, and the number times the base; digits put behind; the order of rows.
-/
import Derived.Test.YtepkneeedkmaoaaMath
namespace Go.Proofs.Ytepkneeedkmaoaa
namespace Pl

theorem len_lt {b n : Nat} (h : n < b) : (digsR b n).length = 1 := by rw [digsR_lt h]; rfl
theorem len_ge {b n : Nat} (hb : 2 ≤ b) (h : b ≤ n) : (digsR b n).length = 1 + (digsR b (n / b)).length := by rw [digsR_ge hb h]; simp; omega

theorem succ_div {b n : Nat} (hb : 2 ≤ b) : (n + 1) / b = n / b ∨ (n + 1) / b = n / b + 1 := by
  by_cases h : n % b = b - 1
  · right
    have h1 := Nat.div_add_mod n b
    have e : n + 1 = b * (n / b + 1) := by rw [Nat.mul_add]; omega
    rw [e, Nat.mul_div_cancel_left _ (by omega)]
  · exact .inl (succ_mod_div hb h).2

theorem len_succ {b : Nat} (hb : 2 ≤ b) (n : Nat) : (digsR b (n + 1)).length = (digsR b n).length ∨ (digsR b (n + 1)).length = (digsR b n).length + 1 := by
  induction n using Nat.strongRecOn with
  | _ n ih =>
    by_cases h1 : n + 1 < b
    · rw [len_lt h1, len_lt (by omega)]; exact .inl rfl
    · rw [len_ge hb (by omega)]
      by_cases h2 : n < b
      · have e : n + 1 = b := by omega
        rw [e, Nat.div_self (by omega), len_lt h2, len_lt (by omega)]; exact .inr rfl
      · rw [len_ge hb (n := n) (by omega)]
        rcases succ_div hb (n := n) with h | h
        · rw [h]; exact .inl rfl
        · rw [h]
          rcases ih (n / b) (Nat.div_lt_self (by omega) (by omega)) with h | h
          · rw [h]; exact .inl rfl
          · rw [h]; exact .inr (by omega)

theorem len_mul {b n : Nat} (hb : 2 ≤ b) (h : 1 ≤ n) : (digsR b (n * b)).length = (digsR b n).length + 1 := by
  have h1 : b ≤ n * b := Nat.le_mul_of_pos_left _ (by omega)
  rw [len_ge hb h1, Nat.mul_div_cancel _ (by omega)]; omega

end Pl
end Go.Proofs.Ytepkneeedkmaoaa
