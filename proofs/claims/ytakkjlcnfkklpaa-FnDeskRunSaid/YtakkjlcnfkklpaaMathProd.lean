/-
  Plain facts: products of digits; how often they are to be taken; noughts.
-/
import Derived.Test.YtakkjlcnfkklpaaMathTurn
namespace Go.Proofs.Ytakkjlcnfkklpaa
namespace Pl

/-- The product of all digits. -/
def prodD (b n : Nat) : Nat := (digsR b n).foldr (· * ·) 1
theorem prodD_lt {b n : Nat} (h : n < b) : prodD b n = n := by rw [prodD, digsR_lt h]; simp
theorem prodD_ge {b n : Nat} (hb : 2 ≤ b) (h : b ≤ n) : prodD b n = n % b * prodD b (n / b) := by rw [prodD, digsR_ge hb h]; rfl

theorem prodD_le {b : Nat} (hb : 2 ≤ b) (n : Nat) : prodD b n ≤ n := by
  refine digInd hb (P := fun n => prodD b n ≤ n) ?_ ?_ n
  · intro n h; rw [prodD_lt h]; exact Nat.le_refl _
  · intro n h ih
    have h1 := Nat.div_add_mod n b
    have h2 := Nat.mod_lt n (show 0 < b by omega)
    have h3 : n % b * prodD b (n / b) ≤ b * (n / b) := Nat.mul_le_mul (by omega) ih
    rw [prodD_ge hb h]; omega

theorem prodD_less {b n : Nat} (hb : 2 ≤ b) (h : b ≤ n) : prodD b n < n := by
  have h1 := Nat.div_add_mod n b
  have h2 := Nat.mod_lt n (show 0 < b by omega)
  have h3 := prodD_le hb (n / b)
  have h4 : 1 ≤ n / b := (Nat.one_le_div_iff (by omega)).2 h
  have h5 : n % b * prodD b (n / b) ≤ (b - 1) * (n / b) := Nat.mul_le_mul (by omega) h3
  have h6 : (b - 1) * (n / b) + n / b = b * (n / b) := by
    generalize n / b = Q
    have e : (b - 1 + 1) * Q = b * Q := by rw [Nat.sub_add_cancel (by omega)]
    rw [← e, Nat.add_mul, Nat.one_mul]
  rw [prodD_ge hb h]; omega

theorem prodD_one {b n : Nat} (hb : 2 ≤ b) : prodD b n = n ↔ n < b := by
  constructor
  · intro h
    refine Classical.byContradiction fun hno => ?_
    have := prodD_less hb (n := n) (by omega)
    omega
  · exact prodD_lt

theorem prodD_behind {b n d : Nat} (hb : 2 ≤ b) (hn : 1 ≤ n) (hd : d < b) : prodD b (n * b + d) = d * prodD b n := by
  have h1 : b ≤ n * b + d := Nat.le_trans (Nat.le_mul_of_pos_left b hn) (Nat.le_add_right _ _)
  have e1 : (n * b + d) % b = d := by rw [Nat.add_comm, Nat.add_mul_mod_self_right, Nat.mod_eq_of_lt hd]
  have e2 : (n * b + d) / b = n := by rw [Nat.add_comm, Nat.add_mul_div_right _ _ (by omega), Nat.div_eq_of_lt hd, Nat.zero_add]
  rw [prodD_ge hb h1, e1, e2]

theorem foldr_zero : ∀ l : List Nat, l.foldr (· * ·) 1 = 0 ↔ 0 ∈ l := by
  intro l
  induction l with
  | nil => simp
  | cons a t ih =>
    rw [List.foldr_cons, Nat.mul_eq_zero, ih, List.mem_cons]
    constructor
    · rintro (h | h)
      · exact .inl h.symm
      · exact .inr h
    · rintro (h | h)
      · exact .inl h.symm
      · exact .inr h

/-- The product is 0 exactly if a digit is. -/
theorem prodD_zero (b n : Nat) : prodD b n = 0 ↔ 0 ∈ digsR b n := foldr_zero _

/-- Turned round a number without a digit 0 has none. -/
theorem prodD_turn {b n : Nat} (hb : 2 ≤ b) (h : prodD b n ≠ 0) : prodD b (turnN b n) ≠ 0 := by
  have h0 : 0 ∉ digsR b n := fun hm => h ((prodD_zero b n).2 hm)
  have hm : n % b ≠ 0 := fun e => by
    refine h0 ?_
    by_cases hlt : n < b
    · rw [Nat.mod_eq_of_lt hlt] at e
      rw [digsR_lt hlt, e]; simp
    · rw [digsR_ge hb (by omega), e]; simp
  intro hz
  rw [prodD_zero, digsR_turn hb hm, List.mem_reverse] at hz
  exact h0 hz

/-- How often the product is to be taken until it is one digit, and which. -/
def persF (b : Nat) : Nat → Nat → Nat × Nat
  | 0, n => (0, n)
  | f + 1, n => if n < b then (0, n) else ((persF b f (prodD b n)).1 + 1, (persF b f (prodD b n)).2)

theorem persF_stable {b : Nat} (hb : 2 ≤ b) : ∀ f f' n, n ≤ f → n ≤ f' → persF b f n = persF b f' n := by
  intro f
  induction f with
  | zero =>
    intro f' n h1 _
    obtain rfl : n = 0 := by omega
    cases f' with
    | zero => rfl
    | succ g => rw [persF, persF, if_pos (by omega)]
  | succ f ih =>
    intro f' n h1 h2
    by_cases hn : n < b
    · cases f' with
      | zero => rw [persF, persF, if_pos hn]
      | succ g => rw [persF, persF, if_pos hn, if_pos hn]
    · obtain ⟨g, rfl⟩ : ∃ g, f' = g + 1 := ⟨f' - 1, by omega⟩
      have := prodD_less hb (n := n) (by omega)
      rw [persF, persF, if_neg hn, if_neg hn, ih g _ (by omega) (by omega)]

def persN (b n : Nat) : Nat × Nat := persF b n n
theorem persN_lt {b n : Nat} (h : n < b) : persN b n = (0, n) := by
  unfold persN
  cases n with
  | zero => rfl
  | succ n => rw [persF, if_pos h]
theorem persN_ge {b n : Nat} (hb : 2 ≤ b) (h : b ≤ n) : persN b n = ((persN b (prodD b n)).1 + 1, (persN b (prodD b n)).2) := by
  have hl := prodD_less hb h
  unfold persN
  obtain ⟨m, rfl⟩ : ∃ m, n = m + 1 := ⟨n - 1, by omega⟩
  rw [persF, if_neg (by omega), persF_stable hb m (prodD b (m + 1)) (prodD b (m + 1)) (by omega) (Nat.le_refl _)]

theorem persN_digit {b : Nat} (hb : 2 ≤ b) (n : Nat) : (persN b n).2 < b := by
  induction n using Nat.strongRecOn with
  | _ n ih =>
    by_cases h : n < b
    · rw [persN_lt h]; exact h
    · rw [persN_ge hb (by omega)]; exact ih _ (prodD_less hb (by omega))

theorem persN_zero {b n : Nat} (hb : 2 ≤ b) : (persN b n).1 = 0 ↔ n < b := by
  constructor
  · intro h
    refine Classical.byContradiction fun hno => ?_
    rw [persN_ge hb (by omega)] at h
    simp at h
  · intro h; rw [persN_lt h]

/-- With a digit 0 it is 0 after one step. -/
theorem persN_nought {b n : Nat} (hb : 2 ≤ b) (h : b ≤ n) (h0 : prodD b n = 0) : persN b n = (1, 0) := by
  rw [persN_ge hb h, h0, persN_lt (by omega)]

theorem persN_le {b : Nat} (hb : 2 ≤ b) (n : Nat) : (persN b n).1 ≤ n := by
  induction n using Nat.strongRecOn with
  | _ n ih =>
    by_cases h : n < b
    · rw [persN_lt h]; exact Nat.zero_le _
    · have hl := prodD_less hb (n := n) (by omega)
      have := ih _ hl
      rw [persN_ge hb (by omega)]
      show (persN b (prodD b n)).1 + 1 ≤ n
      omega

end Pl
end Go.Proofs.Ytakkjlcnfkklpaa
