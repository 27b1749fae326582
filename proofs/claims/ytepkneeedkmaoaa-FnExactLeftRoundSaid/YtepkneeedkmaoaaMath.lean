/-
  Plain facts about digits: Bool tests for bases and numbers, the digits of a number in a base (the last one first), their sum. No program is named.
-/
import Derived.KernelRfl
namespace Go.Proofs.Ytepkneeedkmaoaa
namespace Pl

/-- A base is in 2..16. -/
def baseB (b : Int) : Bool := decide (2 ≤ b) && decide (b ≤ 16)

/-- A number with digits: base in 2..16, number in 0..1000000000. -/
def okB (n b : Int) : Bool := baseB b && (decide (0 ≤ n) && decide (n ≤ 1000000000))

theorem baseB_iff (b : Int) : baseB b = true ↔ 2 ≤ b ∧ b ≤ 16 := by simp [baseB]
theorem okB_iff (n b : Int) : okB n b = true ↔ (2 ≤ b ∧ b ≤ 16) ∧ 0 ≤ n ∧ n ≤ 1000000000 := by simp [okB, baseB]

/-- The digits of a number in a base, the last one first. -/
def digsR (b n : Nat) : List Nat := if _h : n < b ∨ b < 2 then [n] else (n % b) :: digsR b (n / b)
  termination_by n
  decreasing_by exact Nat.div_lt_self (by omega) (by omega)

theorem digsR_lt {b n : Nat} (h : n < b) : digsR b n = [n] := by rw [digsR, dif_pos (.inl h)]
theorem digsR_ge {b n : Nat} (hb : 2 ≤ b) (h : b ≤ n) : digsR b n = (n % b) :: digsR b (n / b) := by rw [digsR, dif_neg (by omega)]

/-- The digits of a number, the first one first. -/
def digs (b n : Nat) : List Nat := (digsR b n).reverse

theorem digs_lt {b n : Nat} (h : n < b) : digs b n = [n] := by rw [digs, digsR_lt h]; rfl
theorem digs_ge {b n : Nat} (hb : 2 ≤ b) (h : b ≤ n) : digs b n = digs b (n / b) ++ [n % b] := by rw [digs, digsR_ge hb h]; simp [digs]

/-- Induction along the digits of a number. -/
theorem digInd {b : Nat} (hb : 2 ≤ b) {P : Nat → Prop} (h0 : ∀ n, n < b → P n) (h1 : ∀ n, b ≤ n → P (n / b) → P n) (n : Nat) : P n := by
  induction n using Nat.strongRecOn with
  | _ n ih =>
    by_cases h : n < b
    · exact h0 n h
    · exact h1 n (by omega) (ih _ (Nat.div_lt_self (by omega) (by omega)))

theorem digsR_pos (b n : Nat) : 1 ≤ (digsR b n).length := by
  rw [digsR]; split <;> simp

theorem digsR_mem {b : Nat} (hb : 2 ≤ b) (n : Nat) : ∀ x ∈ digsR b n, x < b := by
  refine digInd hb (P := fun n => ∀ x ∈ digsR b n, x < b) ?_ ?_ n
  · intro n h x hx; rw [digsR_lt h] at hx; simp at hx; omega
  · intro n h ih x hx
    rw [digsR_ge hb h] at hx
    simp only [List.mem_cons] at hx
    rcases hx with rfl | hx
    · exact Nat.mod_lt _ (by omega)
    · exact ih x hx

/-- Below 2 to the k (k from 1 on) there are at most k digits. -/
theorem digsR_len {b : Nat} (hb : 2 ≤ b) (k : Nat) : ∀ n, n < 2 ^ (k + 1) → (digsR b n).length ≤ k + 1 := by
  induction k with
  | zero => intro n h; rw [digsR_lt (by omega)]; simp
  | succ k ih =>
    intro n h
    by_cases hn : n < b
    · rw [digsR_lt hn]; simp
    · rw [digsR_ge hb (by omega)]
      have h2 : n / b ≤ n / 2 := Nat.div_le_div_left hb (by omega)
      have := ih (n / b) (by rw [Nat.pow_succ] at h; omega)
      simp only [List.length_cons]; omega

theorem digsR_len30 {b n : Nat} (hb : 2 ≤ b) (hn : n ≤ 1000000000) : (digsR b n).length ≤ 30 := digsR_len hb 29 n (by omega)

/-- The sum of all digits. -/
def sumD (b n : Nat) : Nat := (digsR b n).sum
theorem sumD_lt {b n : Nat} (h : n < b) : sumD b n = n := by rw [sumD, digsR_lt h]; simp
theorem sumD_ge {b n : Nat} (hb : 2 ≤ b) (h : b ≤ n) : sumD b n = n % b + sumD b (n / b) := by rw [sumD, digsR_ge hb h]; simp [sumD]
theorem sumD_le {b : Nat} (hb : 2 ≤ b) (n : Nat) : sumD b n ≤ n := by
  refine digInd hb (P := fun n => sumD b n ≤ n) ?_ ?_ n
  · intro n h; rw [sumD_lt h]; exact Nat.le_refl _
  · intro n h ih
    rw [sumD_ge hb h]
    have h1 := Nat.div_add_mod n b
    have h2 : n / b ≤ b * (n / b) := Nat.le_mul_of_pos_left _ (by omega)
    omega

theorem sumD_step {b : Nat} (hb : 2 ≤ b) (n : Nat) : sumD b n = n % b + sumD b (n / b) := by
  by_cases h : n < b
  · rw [Nat.div_eq_of_lt h, Nat.mod_eq_of_lt h, sumD_lt h, sumD_lt (by omega)]; omega
  · exact sumD_ge hb (by omega)

theorem sumD_less {b n : Nat} (hb : 2 ≤ b) (h : b ≤ n) : sumD b n < n := by
  rw [sumD_ge hb h]
  have h1 := Nat.div_add_mod n b
  have h2 := sumD_le hb (n / b)
  have h3 : 1 ≤ n / b := (Nat.one_le_div_iff (by omega)).2 h
  have h4 : 2 * (n / b) ≤ b * (n / b) := Nat.mul_le_mul_right _ hb
  omega

theorem succ_mod_div {b n : Nat} (hb : 2 ≤ b) (h : n % b ≠ b - 1) : (n + 1) % b = n % b + 1 ∧ (n + 1) / b = n / b := by
  have h1 := Nat.div_add_mod n b
  have h2 := Nat.mod_lt n (show 0 < b by omega)
  have e : n + 1 = (n % b + 1) + b * (n / b) := by omega
  constructor
  · rw [e, Nat.add_mul_mod_self_left, Nat.mod_eq_of_lt (by omega)]
  · rw [e, Nat.add_mul_div_left _ _ (by omega), Nat.div_eq_of_lt (by omega)]; omega

theorem sumD_succ {b n : Nat} (hb : 2 ≤ b) (h : n % b ≠ b - 1) : sumD b (n + 1) = sumD b n + 1 := by
  obtain ⟨h1, h2⟩ := succ_mod_div hb h
  rw [sumD_step hb (n + 1), sumD_step hb n, h1, h2]; omega

theorem len_one {b n : Nat} (hb : 2 ≤ b) : (digsR b n).length = 1 ↔ n < b := by
  constructor
  · intro h
    refine Classical.byContradiction fun hn => ?_
    rw [digsR_ge hb (by omega)] at h
    have := digsR_pos b (n / b)
    simp at h
    rw [h] at this; simp at this
  · intro h; rw [digsR_lt h]; rfl

/-- The sum of digits as the functions answer: -1 for others. -/
def sumI (n b : Int) : Int := if okB n b = true then (sumD b.toNat n.toNat : Int) else -1
theorem sumI_yes (n b : Nat) (h : okB n b = true) : sumI n b = (sumD b n : Int) := by rw [sumI, if_pos h]; rfl
theorem sumI_no {n b : Int} (h : ¬ okB n b = true) : sumI n b = -1 := by rw [sumI, if_neg h]

/-- A number with digits, as natural numbers. -/
theorem okB_nat {n b : Int} (h : okB n b = true) : ∃ x k : Nat, n = (x : Int) ∧ b = (k : Int) ∧ 2 ≤ k ∧ k ≤ 16 ∧ x ≤ 1000000000 := by
  rw [okB_iff] at h
  exact ⟨n.toNat, b.toNat, by omega, by omega, by omega, by omega, by omega⟩

/-- The digits as integers, the first one first. -/
def digI (b n : Nat) : List Int := (digs b n).map fun d : Nat => (d : Int)
theorem digI_lt {b n : Nat} (h : n < b) : digI b n = [(n : Int)] := by rw [digI, digs_lt h]; rfl
theorem digI_ge {b n : Nat} (hb : 2 ≤ b) (h : b ≤ n) : digI b n = digI b (n / b) ++ [((n % b : Nat) : Int)] := by rw [digI, digs_ge hb h]; simp [digI]
theorem digI_len (b n : Nat) : (digI b n).length = (digsR b n).length := by simp [digI, digs]
theorem digI_len30 {b n : Nat} (hb : 2 ≤ b) (hn : n ≤ 1000000000) : (digI b n).length ≤ 30 := by rw [digI_len]; exact digsR_len30 hb hn

/-- The digits as the functions answer: none for others. -/
def digA (n b : Int) : List Int := if okB n b = true then digI b.toNat n.toNat else []
theorem digA_yes (n b : Nat) (h : okB n b = true) : digA n b = digI b n := by rw [digA, if_pos h]; rfl
theorem digA_no {n b : Int} (h : ¬ okB n b = true) : digA n b = [] := by rw [digA, if_neg h]
theorem digA_len30 (n b : Int) : (digA n b).length ≤ 30 := by
  by_cases h : okB n b = true
  · obtain ⟨x, k, rfl, rfl, h1, h2, h3⟩ := okB_nat h
    rw [digA_yes x k h]; exact digI_len30 h1 h3
  · rw [digA_no h]; simp

/-- The number of further digits behind acc, if each is a digit and none is more than 1000000000. -/
def wholeO (b : Nat) : List Int → Nat → Option Nat
  | [], acc => some acc
  | d :: t, acc => if (0 ≤ d ∧ d < (b : Int)) ∧ (acc : Int) * b + d ≤ 1000000000 then wholeO b t (acc * b + d.toNat) else none

/-- The number of digits in a base, if it may be told. -/
def whole (l : List Int) (b : Int) : Option Nat := if baseB b = true ∧ l ≠ [] then wholeO b.toNat l 0 else none
def wV : Option Nat → Int | some x => (x : Int) | none => -1
def wB : Option Nat → Bool | some _ => true | none => false
theorem wholeO_bad (b : Nat) (d : Int) (t : List Int) (acc : Nat) (h : ¬ ((0 ≤ d ∧ d < (b : Int)) ∧ (acc : Int) * b + d ≤ 1000000000)) : wholeO b (d :: t) acc = none := by rw [wholeO, if_neg h]
theorem wholeO_good (b : Nat) (d : Int) (t : List Int) (acc : Nat) (h : (0 ≤ d ∧ d < (b : Int)) ∧ (acc : Int) * b + d ≤ 1000000000) : wholeO b (d :: t) acc = wholeO b t (acc * b + d.toNat) := by rw [wholeO, if_pos h]
theorem drop_cons {l : List Int} {k : Nat} (h : k < l.length) : l.drop k = l[k]?.getD 0 :: l.drop (k + 1) := by
  rw [List.drop_eq_getElem_cons h, List.getElem?_eq_getElem h]; rfl

/-- A digit that may come: a number below 16. -/
abbrev Dg := { x : Nat // x < 16 }
def dg (x : Nat) : Dg := ⟨x % 16, Nat.mod_lt _ (by omega)⟩
theorem dg_val {x : Nat} (h : x < 16) : (dg x).1 = x := Nat.mod_eq_of_lt h
def digsF (b n : Nat) : List Dg := (digsR b n).map dg
theorem digsF_len (b n : Nat) : (digsF b n).length = (digsR b n).length := by simp [digsF]
theorem digsF_one {b n : Nat} (h : n < b) : digsF b n = [dg n] := by rw [digsF, digsR_lt h]; rfl
theorem digsF_more {b n : Nat} (hb : 2 ≤ b) (h : b ≤ n) : digsF b n = dg (n % b) :: digsF b (n / b) := by rw [digsF, digsR_ge hb h]; rfl
theorem map_val {l : List Nat} (h : ∀ x ∈ l, x < 16) : (l.map dg).map (·.1) = l := by
  induction l with
  | nil => rfl
  | cons a l ih => simp only [List.map_cons]; rw [ih (fun x hx => h x (by simp [hx])), dg_val (h a (by simp))]
theorem digsF_val {b n : Nat} (hb : 2 ≤ b) (hb' : b ≤ 16) : (digsF b n).map (·.1) = digsR b n := map_val fun x hx => by have := digsR_mem hb n x hx; omega

end Pl
end Go.Proofs.Ytepkneeedkmaoaa
