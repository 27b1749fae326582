/-
  Plain facts: rows of digits tell a number and the number its row; digits put behind each other multiply, and their sums add up.
-/
import Derived.Test.YtepkneeedkmaoaaMathDig
namespace Go.Proofs.Ytepkneeedkmaoaa
namespace Pl

theorem wholeO_le {b : Nat} : ∀ (l : List Int) (acc y : Nat), acc ≤ 1000000000 → wholeO b l acc = some y → y ≤ 1000000000 := by
  intro l
  induction l with
  | nil => intro acc y h1 h; simp [wholeO] at h; omega
  | cons d t ih =>
    intro acc y h1 h
    by_cases hg : (0 ≤ d ∧ d < (b : Int)) ∧ (acc : Int) * b + d ≤ 1000000000
    · rw [wholeO_good _ _ _ _ hg] at h
      refine ih _ y ?_ h
      have : ((acc * b + d.toNat : Nat) : Int) = (acc : Int) * b + d := by rw [Int.natCast_add, Int.natCast_mul, Int.toNat_of_nonneg hg.1.1]
      omega
    · rw [wholeO_bad _ _ _ _ hg] at h; cases h

theorem digI_push {b acc : Nat} {d : Int} (hb : 2 ≤ b) (h : 1 ≤ acc) (h0 : 0 ≤ d) (h1 : d < (b : Int)) : digI b (acc * b + d.toNat) = digI b acc ++ [d] := by
  have h2 : b ≤ acc * b := Nat.le_mul_of_pos_left _ (by omega)
  have e1 : (acc * b + d.toNat) / b = acc := by
    rw [Nat.add_comm, Nat.add_mul_div_right _ _ (by omega), Nat.div_eq_of_lt (by omega)]; omega
  have e2 : (acc * b + d.toNat) % b = d.toNat := by
    rw [Nat.add_comm, Nat.add_mul_mod_self_right, Nat.mod_eq_of_lt (by omega)]
  rw [digI_ge hb (by omega), e1, e2, Int.toNat_of_nonneg h0]

theorem digI_whole {b : Nat} (hb : 2 ≤ b) : ∀ (l : List Int) (acc y : Nat), 1 ≤ acc → wholeO b l acc = some y → digI b y = digI b acc ++ l := by
  intro l
  induction l with
  | nil => intro acc y _ h; simp [wholeO] at h; subst h; simp
  | cons d t ih =>
    intro acc y h1 h
    by_cases hg : (0 ≤ d ∧ d < (b : Int)) ∧ (acc : Int) * b + d ≤ 1000000000
    · rw [wholeO_good _ _ _ _ hg] at h
      have h2 : 1 ≤ acc * b := Nat.mul_pos h1 (by omega)
      rw [ih _ y (by omega) h, digI_push hb h1 hg.1.1 hg.1.2, List.append_assoc]; rfl
    · rw [wholeO_bad _ _ _ _ hg] at h; cases h

/-- Without noughts ahead a row is the digits of its number. -/
theorem row_of_whole {b : Nat} (hb : 2 ≤ b) {l : List Int} {y : Nat} (h : wholeO b l 0 = some y) (h0 : l ≠ []) (h1 : l[0]?.getD 0 = 0 → l.length = 1) : digI b y = l := by
  cases l with
  | nil => exact absurd rfl h0
  | cons d t =>
    by_cases hg : (0 ≤ d ∧ d < (b : Int)) ∧ ((0 : Nat) : Int) * b + d ≤ 1000000000
    · rw [wholeO_good _ _ _ _ hg] at h
      rw [Nat.zero_mul, Nat.zero_add] at h
      by_cases hd : d = 0
      · have := h1 (by simp [hd])
        simp at this; subst this
        subst hd
        simp [wholeO] at h; subst h
        rw [digI_lt (by omega)]; rfl
      · rw [digI_whole hb t d.toNat y (by omega) h, digI_lt (by omega), Int.toNat_of_nonneg hg.1.1]; rfl
    · rw [wholeO_bad _ _ _ _ hg] at h; cases h

theorem whole_zero {xs : List Int} {b : Int} {y : Nat} (h : whole xs b = some y) : whole (0 :: xs) b = some y := by
  unfold whole at h ⊢
  split at h
  · rename_i hc
    rw [if_pos ⟨hc.1, by simp⟩]
    rw [baseB_iff] at hc
    rw [wholeO_good _ _ _ _ (by omega)]
    simpa using h
  · cases h

theorem whole_some {xs : List Int} {b : Int} {y : Nat} (h : whole xs b = some y) : ∃ k : Nat, b = (k : Int) ∧ 2 ≤ k ∧ k ≤ 16 ∧ xs ≠ [] ∧ wholeO k xs 0 = some y ∧ y ≤ 1000000000 := by
  unfold whole at h
  split at h
  · rename_i hc
    have hb := (baseB_iff b).1 hc.1
    exact ⟨b.toNat, by omega, by omega, by omega, hc.2, h, wholeO_le xs 0 y (by omega) h⟩
  · cases h

/-- The value of a row. -/
def valN (b : Nat) : List Int → Nat
  | [] => 0
  | d :: t => d.toNat * b ^ t.length + valN b t

theorem wholeO_val {b : Nat} : ∀ (l : List Int) (acc y : Nat), wholeO b l acc = some y → y = acc * b ^ l.length + valN b l := by
  intro l
  induction l with
  | nil => intro acc y h; simp [wholeO] at h; simp [valN, h]
  | cons d t ih =>
    intro acc y h
    by_cases hg : (0 ≤ d ∧ d < (b : Int)) ∧ (acc : Int) * b + d ≤ 1000000000
    · rw [wholeO_good _ _ _ _ hg] at h
      rw [ih _ y h, valN, List.length_cons, Nat.pow_succ, Nat.add_mul, Nat.mul_assoc, Nat.mul_comm b]
      omega
    · rw [wholeO_bad _ _ _ _ hg] at h; cases h

theorem valN_digI {b m : Nat} (hb : 2 ≤ b) (hm : m ≤ 1000000000) : valN b (digI b m) = m := by
  have h := wholeO_digI hb m hm []
  rw [List.append_nil] at h
  have := wholeO_val _ _ _ (h.trans (by rfl : wholeO b [] m = some m))
  omega

theorem behind_val {b n m y : Nat} (hb : 2 ≤ b) (hn : n ≤ 1000000000) (hm : m ≤ 1000000000) (h : wholeO b (digI b n ++ digI b m) 0 = some y) : y = n * b ^ (digsR b m).length + m := by
  rw [wholeO_digI hb n hn] at h
  rw [wholeO_val _ _ _ h, valN_digI hb hm, digI_len]

theorem lt_pow_len {b : Nat} (hb : 2 ≤ b) (n : Nat) : n < b ^ (digsR b n).length := by
  refine digInd hb (P := fun n => n < b ^ (digsR b n).length) ?_ ?_ n
  · intro n h; rw [len_lt h]; simpa using h
  · intro n h ih
    rw [len_ge hb h, Nat.add_comm, Nat.pow_succ]
    have h1 := Nat.div_add_mod n b
    have h2 := Nat.mod_lt n (show 0 < b by omega)
    have h3 : b * (n / b + 1) ≤ b * b ^ (digsR b (n / b)).length := Nat.mul_le_mul_left b ih
    rw [Nat.mul_comm _ b]
    rw [Nat.mul_add] at h3
    omega

theorem sumD_behind {b : Nat} (hb : 2 ≤ b) (n : Nat) : ∀ (L m : Nat), m < b ^ L → sumD b (n * b ^ L + m) = sumD b n + sumD b m := by
  intro L
  induction L with
  | zero => intro m h; have : m = 0 := by simpa using h
            subst this; rw [sumD_lt (n := 0) (by omega)]; simp
  | succ L ih =>
    intro m h
    have e1 : (n * b ^ (L + 1) + m) % b = m % b := by
      rw [Nat.pow_succ, ← Nat.mul_assoc, Nat.add_comm, Nat.add_mul_mod_self_right]
    have e2 : (n * b ^ (L + 1) + m) / b = n * b ^ L + m / b := by
      rw [Nat.pow_succ, ← Nat.mul_assoc, Nat.add_comm, Nat.add_mul_div_right _ _ (by omega), Nat.add_comm]
    have h3 : m / b < b ^ L := by
      rw [Nat.div_lt_iff_lt_mul (by omega), ← Nat.pow_succ]; exact h
    rw [sumD_step hb (n * b ^ (L + 1) + m), e1, e2, ih _ h3, sumD_step hb m]; omega

end Pl
end Go.Proofs.Ytepkneeedkmaoaa
