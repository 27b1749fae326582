/-
  Plain facts: sums of powers of digits: with noughts and behind each other; great numbers become smaller; the greatest stay.
-/
import Derived.Test.YtepkneeedkmaoaaMathRow
namespace Go.Proofs.Ytepkneeedkmaoaa
namespace Pl

/-- The sum of all digits, each taken t times times itself. -/
def nextN (t b n : Nat) : Nat := if _h : n < b ∨ b < 2 then n ^ t else (n % b) ^ t + nextN t b (n / b)
  termination_by n
  decreasing_by exact Nat.div_lt_self (by omega) (by omega)

theorem nextN_lt {t b n : Nat} (h : n < b) : nextN t b n = n ^ t := by rw [nextN, dif_pos (.inl h)]
theorem nextN_ge {t b n : Nat} (hb : 2 ≤ b) (h : b ≤ n) : nextN t b n = (n % b) ^ t + nextN t b (n / b) := by rw [nextN, dif_neg (by omega)]
theorem nextN_zero {t b : Nat} (ht : 1 ≤ t) (hb : 2 ≤ b) : nextN t b 0 = 0 := by rw [nextN_lt (by omega)]; exact Nat.zero_pow (by omega)
theorem nextN_step {t b : Nat} (ht : 1 ≤ t) (hb : 2 ≤ b) (n : Nat) : nextN t b n = (n % b) ^ t + nextN t b (n / b) := by
  by_cases h : n < b
  · rw [Nat.div_eq_of_lt h, Nat.mod_eq_of_lt h, nextN_lt h, nextN_zero ht hb]; omega
  · exact nextN_ge hb (by omega)

theorem nextN_one {b : Nat} (hb : 2 ≤ b) (n : Nat) : nextN 1 b n = sumD b n := by
  refine digInd hb (P := fun n => nextN 1 b n = sumD b n) ?_ ?_ n
  · intro n h; rw [nextN_lt h, sumD_lt h, Nat.pow_one]
  · intro n h ih; rw [nextN_ge hb h, sumD_ge hb h, ih, Nat.pow_one]

theorem nextN_behind {t b : Nat} (ht : 1 ≤ t) (hb : 2 ≤ b) (n : Nat) : ∀ (L m : Nat), m < b ^ L → nextN t b (n * b ^ L + m) = nextN t b n + nextN t b m := by
  intro L
  induction L with
  | zero => intro m h; have : m = 0 := by simpa using h
            subst this; rw [nextN_zero ht hb]; simp
  | succ L ih =>
    intro m h
    have e1 : (n * b ^ (L + 1) + m) % b = m % b := by
      rw [Nat.pow_succ, ← Nat.mul_assoc, Nat.add_comm, Nat.add_mul_mod_self_right]
    have e2 : (n * b ^ (L + 1) + m) / b = n * b ^ L + m / b := by
      rw [Nat.pow_succ, ← Nat.mul_assoc, Nat.add_comm, Nat.add_mul_div_right _ _ (by omega), Nat.add_comm]
    have h3 : m / b < b ^ L := by
      rw [Nat.div_lt_iff_lt_mul (by omega), ← Nat.pow_succ]; exact h
    rw [nextN_step ht hb (n * b ^ (L + 1) + m), e1, e2, ih _ h3, nextN_step ht hb m]; omega

theorem nextN_nought {t b : Nat} (ht : 1 ≤ t) (hb : 2 ≤ b) (n : Nat) : nextN t b (n * b) = nextN t b n := by
  have := nextN_behind ht hb n 1 0 (by rw [Nat.pow_one]; omega)
  rw [nextN_zero ht hb, Nat.pow_one] at this
  simpa using this

theorem nextN_bound {t b : Nat} (hb : 2 ≤ b) (n : Nat) : nextN t b n ≤ (digsR b n).length * (b - 1) ^ t := by
  refine digInd hb (P := fun n => nextN t b n ≤ (digsR b n).length * (b - 1) ^ t) ?_ ?_ n
  · intro n h
    rw [nextN_lt h, len_lt h, Nat.one_mul]
    exact Nat.pow_le_pow_left (by omega) t
  · intro n h ih
    have h1 := Nat.mod_lt n (show 0 < b by omega)
    have h2 : (n % b) ^ t ≤ (b - 1) ^ t := Nat.pow_le_pow_left (by omega) t
    rw [nextN_ge hb h, len_ge hb h, Nat.add_mul, Nat.one_mul]; omega

/-- Below b to the L there are at most L digits (L from 1 on). -/
theorem len_le {b : Nat} (hb : 2 ≤ b) : ∀ (L n : Nat), n < b ^ (L + 1) → (digsR b n).length ≤ L + 1 := by
  intro L
  induction L with
  | zero => intro n h; rw [len_lt (by simpa using h)]; omega
  | succ L ih =>
    intro n h
    by_cases hn : n < b
    · rw [len_lt hn]; omega
    · rw [len_ge hb (by omega)]
      have := ih (n / b) (by rw [Nat.div_lt_iff_lt_mul (by omega), ← Nat.pow_succ]; exact h)
      omega

/-- A length from which on numbers become smaller. -/
structure Stay (t b L : Nat) : Prop where
  pos : 1 ≤ L
  less : L * (b - 1) ^ t < b ^ L - 1

theorem nextN_small {t b L n : Nat} (hb : 2 ≤ b) (h : Stay t b L) (hn : n < b ^ L) : nextN t b n ≤ L * (b - 1) ^ t := by
  obtain ⟨K, rfl⟩ : ∃ K, L = K + 1 := ⟨L - 1, by have := h.pos; omega⟩
  have h1 := nextN_bound (t := t) hb n
  have h2 := len_le hb K n hn
  exact Nat.le_trans h1 (Nat.mul_le_mul_right _ h2)

/-- Great numbers become smaller. -/
theorem nextN_less {t b L : Nat} (ht : 1 ≤ t) (hb : 2 ≤ b) (h : Stay t b L) (n : Nat) : b ^ L - 1 ≤ n → nextN t b n < n := by
  induction n using Nat.strongRecOn with
  | _ n ih =>
    intro hn
    have hP : 1 ≤ b ^ L := Nat.one_le_pow _ _ (by omega)
    have hl := h.less
    have hpos := h.pos
    have h1 : (b - 1) ^ t ≤ L * (b - 1) ^ t := Nat.le_mul_of_pos_left _ (by omega)
    by_cases hlow : n < b ^ L
    · have := nextN_small hb h hlow; omega
    · -- n is q behind which r stands
      have hbP : b ≤ b ^ L := by
        have := Nat.pow_le_pow_right (show 0 < b by omega) hpos
        rwa [Nat.pow_one] at this
      have hq1 : 1 ≤ n / b ^ L := (Nat.one_le_div_iff (by omega)).2 (by omega)
      have hr : n % b ^ L < b ^ L := Nat.mod_lt _ (by omega)
      have he : n / b ^ L * b ^ L + n % b ^ L = n := by rw [Nat.mul_comm]; exact Nat.div_add_mod _ _
      have hnx := nextN_behind ht hb (n / b ^ L) L (n % b ^ L) hr
      rw [he] at hnx
      have hrs := nextN_small hb h hr
      have hqn : n / b ^ L < n := Nat.div_lt_self (by omega) (by omega)
      have hqx : nextN t b (n / b ^ L) ≤ (n / b ^ L - 1) * b ^ L + 1 := by
        by_cases hq : n / b ^ L < b ^ L
        · by_cases h2 : n / b ^ L = 1
          · rw [h2, nextN_lt (by omega), Nat.one_pow]; omega
          · have h3 := nextN_small hb h hq
            have h4 : b ^ L ≤ (n / b ^ L - 1) * b ^ L := Nat.le_mul_of_pos_left _ (by omega)
            omega
        · have h3 := ih _ hqn (by omega)
          have h4 : n / b ^ L - 1 ≤ (n / b ^ L - 1) * b ^ L := Nat.le_mul_of_pos_right _ (by omega)
          omega
      have h5 : (n / b ^ L - 1) * b ^ L + b ^ L = n / b ^ L * b ^ L := by
        have : n / b ^ L = (n / b ^ L - 1) + 1 := by omega
        conv => rhs; rw [this, Nat.add_mul, Nat.one_mul]
      generalize n / b ^ L = Q at *
      generalize n % b ^ L = R at *
      omega

/-- The search for the fewest digits. -/
def stayFrom (t b : Nat) : Nat → Nat → Nat
  | 0, L => L
  | k + 1, L => if b ^ L - 1 ≤ L * (b - 1) ^ t then stayFrom t b k (L + 1) else L
def stayL (t b : Nat) : Nat := stayFrom t b 12 1

theorem stay_all : (List.range 5).all (fun t => (List.range 15).all fun b => decide (1 ≤ stayL (t + 1) (b + 2) ∧ stayL (t + 1) (b + 2) ≤ 12 ∧ stayL (t + 1) (b + 2) * (b + 1) ^ (t + 1) < (b + 2) ^ stayL (t + 1) (b + 2) - 1 ∧ (b + 2) ^ stayL (t + 1) (b + 2) ≤ 1000000000 ∧
    ((List.range (stayL (t + 1) (b + 2))).all fun L => decide (L = 0 ∨ (b + 2) ^ L - 1 ≤ L * (b + 1) ^ (t + 1))) = true)) = true := by kernel_rfl

theorem stay_spec {t b : Nat} (h1 : 1 ≤ t) (h2 : t ≤ 5) (h3 : 2 ≤ b) (h4 : b ≤ 16) :
    Stay t b (stayL t b) ∧ b ^ stayL t b ≤ 1000000000 ∧ stayL t b ≤ 12 ∧ ∀ L, 1 ≤ L → L < stayL t b → b ^ L - 1 ≤ L * (b - 1) ^ t := by
  have h := stay_all
  rw [List.all_eq_true] at h
  have h5 := h (t - 1) (List.mem_range.2 (by omega))
  rw [List.all_eq_true] at h5
  have h6 := h5 (b - 2) (List.mem_range.2 (by omega))
  rw [show t - 1 + 1 = t by omega, show b - 2 + 2 = b by omega, show b - 2 + 1 = b - 1 by omega, decide_eq_true_eq] at h6
  obtain ⟨g1, g2, g3, g4, g5⟩ := h6
  refine ⟨⟨g1, g3⟩, g4, g2, fun L hL1 hL2 => ?_⟩
  rw [List.all_eq_true] at g5
  have := g5 L (List.mem_range.2 hL2)
  rw [decide_eq_true_eq] at this
  omega

end Pl
end Go.Proofs.Ytepkneeedkmaoaa
