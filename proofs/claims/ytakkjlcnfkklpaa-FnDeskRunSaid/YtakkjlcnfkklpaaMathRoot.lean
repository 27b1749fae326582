/-
  Plain facts: roots of digits: what sums of digits leave by one less than the base; the root; in how many steps.
-/
import Derived.Test.YtakkjlcnfkklpaaMath
namespace Go.Proofs.Ytakkjlcnfkklpaa
namespace Pl

theorem sumD_mod {b : Nat} (hb : 2 ≤ b) (n : Nat) : sumD b n % (b - 1) = n % (b - 1) := by
  refine digInd hb (P := fun n => sumD b n % (b - 1) = n % (b - 1)) ?_ ?_ n
  · intro n h; rw [sumD_lt h]
  · intro n h ih
    have h1 := Nat.div_add_mod n b
    rw [sumD_ge hb h, Nat.add_mod, ih, ← Nat.add_mod]
    have e : n = n % b + n / b + (b - 1) * (n / b) := by
      have h2 : b * (n / b) = (b - 1) * (n / b) + n / b := by
        rw [show b = (b - 1) + 1 by omega, Nat.add_mul, Nat.one_mul]; simp
      omega
    conv => rhs; rw [e, Nat.add_mul_mod_self_left]

theorem sumD_zero {b : Nat} (hb : 2 ≤ b) (n : Nat) : sumD b n = 0 ↔ n = 0 := by
  constructor
  · refine digInd hb (P := fun n => sumD b n = 0 → n = 0) ?_ ?_ n
    · intro n h h0; rw [sumD_lt h] at h0; exact h0
    · intro n h ih h0
      rw [sumD_ge hb h] at h0
      have h1 : 1 ≤ n / b := (Nat.one_le_div_iff (by omega)).2 h
      have := ih (by omega)
      omega
  · intro h; subst h; exact sumD_lt (by omega)

/-- The root: sums of digits, until one digit is left. -/
def rootN (b n : Nat) : Nat := if _h : n < b ∨ b < 2 then n else rootN b (sumD b n)
  termination_by n
  decreasing_by exact sumD_less (by omega) (by omega)

theorem rootN_lt {b n : Nat} (h : n < b) : rootN b n = n := by rw [rootN, dif_pos (.inl h)]
theorem rootN_ge {b n : Nat} (hb : 2 ≤ b) (h : b ≤ n) : rootN b n = rootN b (sumD b n) := by rw [rootN, dif_neg (by omega)]

/-- In how many steps. -/
def stepsN (b n : Nat) : Nat := if _h : n < b ∨ b < 2 then 0 else 1 + stepsN b (sumD b n)
  termination_by n
  decreasing_by exact sumD_less (by omega) (by omega)

theorem stepsN_lt {b n : Nat} (h : n < b) : stepsN b n = 0 := by rw [stepsN, dif_pos (.inl h)]
theorem stepsN_ge {b n : Nat} (hb : 2 ≤ b) (h : b ≤ n) : stepsN b n = 1 + stepsN b (sumD b n) := by rw [stepsN, dif_neg (by omega)]

/-- Induction along sums of digits. -/
theorem rootInd {b : Nat} (hb : 2 ≤ b) {P : Nat → Prop} (h0 : ∀ n, n < b → P n) (h1 : ∀ n, b ≤ n → P (sumD b n) → P n) (n : Nat) : P n := by
  induction n using Nat.strongRecOn with
  | _ n ih =>
    by_cases h : n < b
    · exact h0 n h
    · exact h1 n (by omega) (ih _ (sumD_less hb (by omega)))

theorem rootN_digit {b : Nat} (hb : 2 ≤ b) (n : Nat) : rootN b n < b := by
  refine rootInd hb (P := fun n => rootN b n < b) ?_ ?_ n
  · intro n h; rw [rootN_lt h]; exact h
  · intro n h ih; rw [rootN_ge hb h]; exact ih

theorem rootN_mod {b : Nat} (hb : 2 ≤ b) (n : Nat) : rootN b n % (b - 1) = n % (b - 1) := by
  refine rootInd hb (P := fun n => rootN b n % (b - 1) = n % (b - 1)) ?_ ?_ n
  · intro n h; rw [rootN_lt h]
  · intro n h ih; rw [rootN_ge hb h, ih, sumD_mod hb]

theorem rootN_zero {b : Nat} (hb : 2 ≤ b) (n : Nat) : rootN b n = 0 ↔ n = 0 := by
  refine rootInd hb (P := fun n => rootN b n = 0 ↔ n = 0) ?_ ?_ n
  · intro n h; rw [rootN_lt h]
  · intro n h ih; rw [rootN_ge hb h, ih, sumD_zero hb]

/-- Of numbers below the base from 1 on only one leaves a rest by one less than the base. -/
theorem digit_mod_inj {b x y : Nat} (hb : 2 ≤ b) (hx : 1 ≤ x) (hx' : x < b) (hy : 1 ≤ y) (hy' : y < b) (h : x % (b - 1) = y % (b - 1)) : x = y := by
  have key : ∀ z, 1 ≤ z → z < b → z % (b - 1) = if z = b - 1 then 0 else z := fun z h1 h2 => by
    split
    · rename_i e; rw [e, Nat.mod_self]
    · exact Nat.mod_eq_of_lt (by omega)
  rw [key x hx hx', key y hy hy'] at h
  split at h <;> split at h <;> omega

/-- The root is told by what is left by one less than the base, and by whether the number is 0. -/
theorem rootN_unique {b n r : Nat} (hb : 2 ≤ b) (h1 : r < b) (h2 : r % (b - 1) = n % (b - 1)) (h3 : r = 0 ↔ n = 0) : rootN b n = r := by
  by_cases h0 : n = 0
  · rw [(rootN_zero hb n).2 h0, h3.2 h0]
  · have hr : 1 ≤ r := Nat.one_le_iff_ne_zero.2 fun h => h0 (h3.1 h)
    have hr' : 1 ≤ rootN b n := Nat.one_le_iff_ne_zero.2 fun h => h0 ((rootN_zero hb n).1 h)
    exact digit_mod_inj hb hr' (rootN_digit hb n) hr h1 (by rw [rootN_mod hb, h2])

theorem rootN_eq {b n : Nat} (hb : 2 ≤ b) (h : 1 ≤ n) : rootN b n = 1 + (n - 1) % (b - 1) := by
  have hlt := Nat.mod_lt (n - 1) (show 0 < b - 1 by omega)
  refine rootN_unique hb (by omega) ?_ (by omega)
  rw [Nat.add_mod, Nat.mod_mod, ← Nat.add_mod, show 1 + (n - 1) = n by omega]

theorem rootN_add {b : Nat} (hb : 2 ≤ b) (n m : Nat) : rootN b (n + m) = rootN b (rootN b n + rootN b m) := by
  symm
  refine rootN_unique hb (rootN_digit hb _) ?_ ?_
  · rw [rootN_mod hb, Nat.add_mod (rootN b n), rootN_mod hb, rootN_mod hb, ← Nat.add_mod]
  · rw [rootN_zero hb]
    have h1 := rootN_zero hb n
    have h2 := rootN_zero hb m
    omega

theorem rootN_mul {b : Nat} (hb : 2 ≤ b) (n m : Nat) : rootN b (rootN b n * rootN b m) = rootN b (n * m) := by
  refine (rootN_unique hb (rootN_digit hb _) ?_ ?_).symm
  · rw [rootN_mod hb (rootN b n * rootN b m), Nat.mul_mod (rootN b n), rootN_mod hb, rootN_mod hb, ← Nat.mul_mod]
  · rw [rootN_zero hb, Nat.mul_eq_zero, rootN_zero hb, rootN_zero hb, ← Nat.mul_eq_zero]

/-- Steps, by a bounded count (for the kernel). -/
def sumF (b : Nat) : Nat → Nat → Nat
  | 0, _ => 0
  | k + 1, n => if n < b then n else n % b + sumF b k (n / b)
theorem sumF_eq {b : Nat} (hb : 2 ≤ b) : ∀ (k n : Nat), n < 2 ^ k → sumF b k n = sumD b n := by
  intro k
  induction k with
  | zero => intro n h; have : n = 0 := by simpa using h
            subst this; rw [sumF, sumD_lt (by omega)]
  | succ k ih =>
    intro n h
    rw [sumF]
    split
    · rename_i h1; rw [sumD_lt h1]
    · rename_i h1
      have h2 : n / b ≤ n / 2 := Nat.div_le_div_left hb (by omega)
      rw [sumD_ge hb (by omega), ih _ (by rw [Nat.pow_succ] at h; omega)]
/-- Whether the steps are at most k. -/
def fewB (b : Nat) : Nat → Nat → Bool
  | 0, n => decide (n < b)
  | k + 1, n => decide (n < b) || fewB b k (sumF b 9 n)
theorem few_of {b : Nat} (hb : 2 ≤ b) : ∀ (k n : Nat), n < 512 → fewB b k n = true → stepsN b n ≤ k := by
  intro k
  induction k with
  | zero => intro n _ h; simp [fewB] at h; rw [stepsN_lt h]; exact Nat.le_refl _
  | succ k ih =>
    intro n hn h
    by_cases h1 : n < b
    · rw [stepsN_lt h1]; omega
    · simp only [fewB, h1, decide_false, Bool.false_or] at h
      rw [sumF_eq hb 9 n (by omega)] at h
      have := ih (sumD b n) (by have := sumD_le hb n; omega) h
      rw [stepsN_ge hb (by omega)]; omega

theorem sumD_len {b : Nat} (hb : 2 ≤ b) (n : Nat) : sumD b n ≤ (b - 1) * (digsR b n).length := by
  refine digInd hb (P := fun n => sumD b n ≤ (b - 1) * (digsR b n).length) ?_ ?_ n
  · intro n h; rw [sumD_lt h, len_lt h]; omega
  · intro n h ih
    have := Nat.mod_lt n (show 0 < b by omega)
    rw [sumD_ge hb h, len_ge hb h, Nat.mul_add]; omega

theorem few_all : (List.range 15).all (fun i => (List.range 451).all fun n => fewB (i + 2) 4 n) = true := by kernel_rfl

theorem steps_le {b n : Nat} (hb : 2 ≤ b) (hb' : b ≤ 16) (hn : n ≤ 1000000000) : stepsN b n ≤ 5 := by
  by_cases h : n < b
  · rw [stepsN_lt h]; omega
  · have h1 := sumD_len hb n
    have h2 := digsR_len30 hb hn
    have h3 : (b - 1) * (digsR b n).length ≤ 15 * 30 := Nat.mul_le_mul (by omega) h2
    have h4 := few_all
    rw [List.all_eq_true] at h4
    have h5 := h4 (b - 2) (List.mem_range.2 (by omega))
    rw [List.all_eq_true] at h5
    have h6 := h5 (sumD b n) (List.mem_range.2 (by omega))
    rw [show b - 2 + 2 = b by omega] at h6
    have := few_of hb 4 _ (by omega) h6
    rw [stepsN_ge hb (by omega)]; omega

end Pl
end Go.Proofs.Ytakkjlcnfkklpaa
