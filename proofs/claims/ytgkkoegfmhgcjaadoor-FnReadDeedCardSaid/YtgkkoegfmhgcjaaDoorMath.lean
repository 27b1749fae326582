/-
  Plain facts about digits: tests for bases and numbers, the digits of a number (the last first, the first first), their sum; how many they are; digits tell the number; rows of digits. No program is named.
-/
import Derived.KernelRfl
namespace Go.Proofs.YtgkkoegfmhgcjaaDoor
namespace Pl

/-- A base is in 2..16. -/
def baseB (b : Int) : Bool := decide (2 ≤ b) && decide (b ≤ 16)

/-- A number with digits: base in 2..16, number in 0..1000000000. -/
def okB (n b : Int) : Bool := baseB b && (decide (0 ≤ n) && decide (n ≤ 1000000000))

theorem baseB_iff (b : Int) : baseB b = true ↔ 2 ≤ b ∧ b ≤ 16 := by simp [baseB]
theorem okB_iff (n b : Int) : okB n b = true ↔ (2 ≤ b ∧ b ≤ 16) ∧ 0 ≤ n ∧ n ≤ 1000000000 := by simp [okB, baseB]

/-- The digits of a number in a base, the last one first. -/
def digsR (b n : Nat) : List Nat := if _h : n < b ∨ b < 2 then [n] else (n % b) :: digsR b (n / b)
  termination_by n
  decreasing_by exact Nat.div_lt_self (by omega) (by omega)

theorem digsR_lt {b n : Nat} (h : n < b) : digsR b n = [n] := by rw [digsR, dif_pos (.inl h)]
theorem digsR_ge {b n : Nat} (hb : 2 ≤ b) (h : b ≤ n) : digsR b n = (n % b) :: digsR b (n / b) := by rw [digsR, dif_neg (by omega)]

/-- The digits of a number, the first one first. -/
def digs (b n : Nat) : List Nat := (digsR b n).reverse

theorem digs_lt {b n : Nat} (h : n < b) : digs b n = [n] := by rw [digs, digsR_lt h]; rfl
theorem digs_ge {b n : Nat} (hb : 2 ≤ b) (h : b ≤ n) : digs b n = digs b (n / b) ++ [n % b] := by rw [digs, digsR_ge hb h]; simp [digs]

/-- Induction along the digits of a number. -/
theorem digInd {b : Nat} (hb : 2 ≤ b) {P : Nat → Prop} (h0 : ∀ n, n < b → P n) (h1 : ∀ n, b ≤ n → P (n / b) → P n) (n : Nat) : P n := by
  induction n using Nat.strongRecOn with
  | _ n ih =>
    by_cases h : n < b
    · exact h0 n h
    · exact h1 n (by omega) (ih _ (Nat.div_lt_self (by omega) (by omega)))

theorem digsR_pos (b n : Nat) : 1 ≤ (digsR b n).length := by
  rw [digsR]; split <;> simp

theorem digsR_mem {b : Nat} (hb : 2 ≤ b) (n : Nat) : ∀ x ∈ digsR b n, x < b := by
  refine digInd hb (P := fun n => ∀ x ∈ digsR b n, x < b) ?_ ?_ n
  · intro n h x hx; rw [digsR_lt h] at hx; simp at hx; omega
  · intro n h ih x hx
    rw [digsR_ge hb h] at hx
    simp only [List.mem_cons] at hx
    rcases hx with rfl | hx
    · exact Nat.mod_lt _ (by omega)
    · exact ih x hx

/-- Below 2 to the k (k from 1 on) there are at most k digits. -/
theorem digsR_len {b : Nat} (hb : 2 ≤ b) (k : Nat) : ∀ n, n < 2 ^ (k + 1) → (digsR b n).length ≤ k + 1 := by
  induction k with
  | zero => intro n h; rw [digsR_lt (by omega)]; simp
  | succ k ih =>
    intro n h
    by_cases hn : n < b
    · rw [digsR_lt hn]; simp
    · rw [digsR_ge hb (by omega)]
      have h2 : n / b ≤ n / 2 := Nat.div_le_div_left hb (by omega)
      have := ih (n / b) (by rw [Nat.pow_succ] at h; omega)
      simp only [List.length_cons]; omega

theorem digsR_len30 {b n : Nat} (hb : 2 ≤ b) (hn : n ≤ 1000000000) : (digsR b n).length ≤ 30 := digsR_len hb 29 n (by omega)

/-- The sum of all digits. -/
def sumD (b n : Nat) : Nat := (digsR b n).sum
theorem sumD_lt {b n : Nat} (h : n < b) : sumD b n = n := by rw [sumD, digsR_lt h]; simp
theorem sumD_ge {b n : Nat} (hb : 2 ≤ b) (h : b ≤ n) : sumD b n = n % b + sumD b (n / b) := by rw [sumD, digsR_ge hb h]; simp [sumD]
theorem sumD_le {b : Nat} (hb : 2 ≤ b) (n : Nat) : sumD b n ≤ n := by
  refine digInd hb (P := fun n => sumD b n ≤ n) ?_ ?_ n
  · intro n h; rw [sumD_lt h]; exact Nat.le_refl _
  · intro n h ih
    rw [sumD_ge hb h]
    have h1 := Nat.div_add_mod n b
    have h2 : n / b ≤ b * (n / b) := Nat.le_mul_of_pos_left _ (by omega)
    omega

theorem sumD_step {b : Nat} (hb : 2 ≤ b) (n : Nat) : sumD b n = n % b + sumD b (n / b) := by
  by_cases h : n < b
  · rw [Nat.div_eq_of_lt h, Nat.mod_eq_of_lt h, sumD_lt h, sumD_lt (by omega)]; omega
  · exact sumD_ge hb (by omega)

theorem sumD_less {b n : Nat} (hb : 2 ≤ b) (h : b ≤ n) : sumD b n < n := by
  rw [sumD_ge hb h]
  have h1 := Nat.div_add_mod n b
  have h2 := sumD_le hb (n / b)
  have h3 : 1 ≤ n / b := (Nat.one_le_div_iff (by omega)).2 h
  have h4 : 2 * (n / b) ≤ b * (n / b) := Nat.mul_le_mul_right _ hb
  omega

theorem succ_mod_div {b n : Nat} (hb : 2 ≤ b) (h : n % b ≠ b - 1) : (n + 1) % b = n % b + 1 ∧ (n + 1) / b = n / b := by
  have h1 := Nat.div_add_mod n b
  have h2 := Nat.mod_lt n (show 0 < b by omega)
  have e : n + 1 = (n % b + 1) + b * (n / b) := by omega
  constructor
  · rw [e, Nat.add_mul_mod_self_left, Nat.mod_eq_of_lt (by omega)]
  · rw [e, Nat.add_mul_div_left _ _ (by omega), Nat.div_eq_of_lt (by omega)]; omega

theorem sumD_succ {b n : Nat} (hb : 2 ≤ b) (h : n % b ≠ b - 1) : sumD b (n + 1) = sumD b n + 1 := by
  obtain ⟨h1, h2⟩ := succ_mod_div hb h
  rw [sumD_step hb (n + 1), sumD_step hb n, h1, h2]; omega

theorem len_one {b n : Nat} (hb : 2 ≤ b) : (digsR b n).length = 1 ↔ n < b := by
  constructor
  · intro h
    refine Classical.byContradiction fun hn => ?_
    rw [digsR_ge hb (by omega)] at h
    have := digsR_pos b (n / b)
    simp at h
    rw [h] at this; simp at this
  · intro h; rw [digsR_lt h]; rfl

/-- The sum of digits as the functions answer: -1 for others. -/
def sumI (n b : Int) : Int := if okB n b = true then (sumD b.toNat n.toNat : Int) else -1
theorem sumI_yes (n b : Nat) (h : okB n b = true) : sumI n b = (sumD b n : Int) := by rw [sumI, if_pos h]; rfl
theorem sumI_no {n b : Int} (h : ¬ okB n b = true) : sumI n b = -1 := by rw [sumI, if_neg h]

/-- A number with digits, as natural numbers. -/
theorem okB_nat {n b : Int} (h : okB n b = true) : ∃ x k : Nat, n = (x : Int) ∧ b = (k : Int) ∧ 2 ≤ k ∧ k ≤ 16 ∧ x ≤ 1000000000 := by
  rw [okB_iff] at h
  exact ⟨n.toNat, b.toNat, by omega, by omega, by omega, by omega, by omega⟩

/-- The digits as integers, the first one first. -/
def digI (b n : Nat) : List Int := (digs b n).map fun d : Nat => (d : Int)
theorem digI_lt {b n : Nat} (h : n < b) : digI b n = [(n : Int)] := by rw [digI, digs_lt h]; rfl
theorem digI_ge {b n : Nat} (hb : 2 ≤ b) (h : b ≤ n) : digI b n = digI b (n / b) ++ [((n % b : Nat) : Int)] := by rw [digI, digs_ge hb h]; simp [digI]
theorem digI_len (b n : Nat) : (digI b n).length = (digsR b n).length := by simp [digI, digs]
theorem digI_len30 {b n : Nat} (hb : 2 ≤ b) (hn : n ≤ 1000000000) : (digI b n).length ≤ 30 := by rw [digI_len]; exact digsR_len30 hb hn

/-- The digits as the functions answer: none for others. -/
def digA (n b : Int) : List Int := if okB n b = true then digI b.toNat n.toNat else []
theorem digA_yes (n b : Nat) (h : okB n b = true) : digA n b = digI b n := by rw [digA, if_pos h]; rfl
theorem digA_no {n b : Int} (h : ¬ okB n b = true) : digA n b = [] := by rw [digA, if_neg h]
theorem digA_len30 (n b : Int) : (digA n b).length ≤ 30 := by
  by_cases h : okB n b = true
  · obtain ⟨x, k, rfl, rfl, h1, h2, h3⟩ := okB_nat h
    rw [digA_yes x k h]; exact digI_len30 h1 h3
  · rw [digA_no h]; simp

/-- The number of further digits behind acc, if each is a digit and none is more than 1000000000. -/
def wholeO (b : Nat) : List Int → Nat → Option Nat
  | [], acc => some acc
  | d :: t, acc => if (0 ≤ d ∧ d < (b : Int)) ∧ (acc : Int) * b + d ≤ 1000000000 then wholeO b t (acc * b + d.toNat) else none

/-- The number of digits in a base, if it may be told. -/
def whole (l : List Int) (b : Int) : Option Nat := if baseB b = true ∧ l ≠ [] then wholeO b.toNat l 0 else none
def wV : Option Nat → Int | some x => (x : Int) | none => -1
def wB : Option Nat → Bool | some _ => true | none => false
theorem wholeO_bad (b : Nat) (d : Int) (t : List Int) (acc : Nat) (h : ¬ ((0 ≤ d ∧ d < (b : Int)) ∧ (acc : Int) * b + d ≤ 1000000000)) : wholeO b (d :: t) acc = none := by rw [wholeO, if_neg h]
theorem wholeO_good (b : Nat) (d : Int) (t : List Int) (acc : Nat) (h : (0 ≤ d ∧ d < (b : Int)) ∧ (acc : Int) * b + d ≤ 1000000000) : wholeO b (d :: t) acc = wholeO b t (acc * b + d.toNat) := by rw [wholeO, if_pos h]
theorem drop_cons {l : List Int} {k : Nat} (h : k < l.length) : l.drop k = l[k]?.getD 0 :: l.drop (k + 1) := by
  rw [List.drop_eq_getElem_cons h, List.getElem?_eq_getElem h]; rfl

/-- A digit that may come: a number below 16. -/
abbrev Dg := { x : Nat // x < 16 }
def dg (x : Nat) : Dg := ⟨x % 16, Nat.mod_lt _ (by omega)⟩
theorem dg_val {x : Nat} (h : x < 16) : (dg x).1 = x := Nat.mod_eq_of_lt h
def digsF (b n : Nat) : List Dg := (digsR b n).map dg
theorem digsF_len (b n : Nat) : (digsF b n).length = (digsR b n).length := by simp [digsF]
theorem digsF_one {b n : Nat} (h : n < b) : digsF b n = [dg n] := by rw [digsF, digsR_lt h]; rfl
theorem digsF_more {b n : Nat} (hb : 2 ≤ b) (h : b ≤ n) : digsF b n = dg (n % b) :: digsF b (n / b) := by rw [digsF, digsR_ge hb h]; rfl
theorem map_val {l : List Nat} (h : ∀ x ∈ l, x < 16) : (l.map dg).map (·.1) = l := by
  induction l with
  | nil => rfl
  | cons a l ih => simp only [List.map_cons]; rw [ih (fun x hx => h x (by simp [hx])), dg_val (h a (by simp))]
theorem digsF_val {b n : Nat} (hb : 2 ≤ b) (hb' : b ≤ 16) : (digsF b n).map (·.1) = digsR b n := map_val fun x hx => by have := digsR_mem hb n x hx; omega

end Pl
end Go.Proofs.YtgkkoegfmhgcjaaDoor

namespace Go.Proofs.YtgkkoegfmhgcjaaDoor
namespace Pl

theorem len_lt {b n : Nat} (h : n < b) : (digsR b n).length = 1 := by rw [digsR_lt h]; rfl
theorem len_ge {b n : Nat} (hb : 2 ≤ b) (h : b ≤ n) : (digsR b n).length = 1 + (digsR b (n / b)).length := by rw [digsR_ge hb h]; simp; omega

theorem succ_div {b n : Nat} (hb : 2 ≤ b) : (n + 1) / b = n / b ∨ (n + 1) / b = n / b + 1 := by
  by_cases h : n % b = b - 1
  · right
    have h1 := Nat.div_add_mod n b
    have e : n + 1 = b * (n / b + 1) := by rw [Nat.mul_add]; omega
    rw [e, Nat.mul_div_cancel_left _ (by omega)]
  · exact .inl (succ_mod_div hb h).2

theorem len_succ {b : Nat} (hb : 2 ≤ b) (n : Nat) : (digsR b (n + 1)).length = (digsR b n).length ∨ (digsR b (n + 1)).length = (digsR b n).length + 1 := by
  induction n using Nat.strongRecOn with
  | _ n ih =>
    by_cases h1 : n + 1 < b
    · rw [len_lt h1, len_lt (by omega)]; exact .inl rfl
    · rw [len_ge hb (by omega)]
      by_cases h2 : n < b
      · have e : n + 1 = b := by omega
        rw [e, Nat.div_self (by omega), len_lt h2, len_lt (by omega)]; exact .inr rfl
      · rw [len_ge hb (n := n) (by omega)]
        rcases succ_div hb (n := n) with h | h
        · rw [h]; exact .inl rfl
        · rw [h]
          rcases ih (n / b) (Nat.div_lt_self (by omega) (by omega)) with h | h
          · rw [h]; exact .inl rfl
          · rw [h]; exact .inr (by omega)

theorem len_mul {b n : Nat} (hb : 2 ≤ b) (h : 1 ≤ n) : (digsR b (n * b)).length = (digsR b n).length + 1 := by
  have h1 : b ≤ n * b := Nat.le_mul_of_pos_left _ (by omega)
  rw [len_ge hb h1, Nat.mul_div_cancel _ (by omega)]; omega

end Pl
end Go.Proofs.YtgkkoegfmhgcjaaDoor

namespace Go.Proofs.YtgkkoegfmhgcjaaDoor
namespace Pl

theorem wholeO_digI {b : Nat} (hb : 2 ≤ b) (n : Nat) : n ≤ 1000000000 → ∀ t, wholeO b (digI b n ++ t) 0 = wholeO b t n := by
  refine digInd hb (P := fun n => n ≤ 1000000000 → ∀ t, wholeO b (digI b n ++ t) 0 = wholeO b t n) ?_ ?_ n
  · intro n h hn t
    rw [digI_lt h, List.cons_append, List.nil_append, wholeO_good _ _ _ _ (by omega)]
    congr 1; omega
  · intro n h ih hn t
    have h1 := Nat.div_add_mod n b
    have h2 := Nat.mod_lt n (show 0 < b by omega)
    have h3 : n / b ≤ n := Nat.div_le_self _ _
    have e : n / b * b + n % b = n := by rw [Nat.mul_comm]; exact h1
    rw [digI_ge hb h, List.append_assoc, ih (by omega), List.cons_append, List.nil_append, wholeO_good]
    · congr 1
    · refine ⟨by omega, ?_⟩
      have : ((n / b : Nat) : Int) * (b : Int) + ((n % b : Nat) : Int) = (n : Int) := by exact_mod_cast e
      omega

theorem whole_digA {x k : Nat} (h : okB x k = true) : whole (digA x k) k = some x := by
  obtain ⟨_, _, hx, hk, h1, h2, h3⟩ := okB_nat h
  have ex : x = _ := Int.ofNat.inj hx
  have ek : k = _ := Int.ofNat.inj hk
  subst ex; subst ek
  rw [digA_yes x k h, whole, if_pos]
  · have := wholeO_digI h1 x h3 []
    rw [List.append_nil] at this
    exact this
  · refine ⟨by rw [baseB_iff]; omega, ?_⟩
    intro e
    have := digsR_pos k x
    rw [← digI_len, e] at this; simp at this

theorem first_pos {b : Nat} (hb : 2 ≤ b) (n : Nat) : 1 ≤ n → (0 : Int) < (digI b n)[0]?.getD 0 := by
  refine digInd hb (P := fun n => 1 ≤ n → (0 : Int) < (digI b n)[0]?.getD 0) ?_ ?_ n
  · intro n h hn; rw [digI_lt h]; simp; omega
  · intro n h ih _
    have h1 : 1 ≤ n / b := (Nat.one_le_div_iff (by omega)).2 h
    have h2 := digsR_pos b (n / b)
    rw [digI_ge hb h, List.getElem?_append_left (by rw [digI_len]; omega)]
    exact ih h1

/-- The second row is later at a place up to which both are the same. -/
def Later (l m : List Int) (j : Nat) : Prop := j < l.length ∧ j < m.length ∧ (∀ i, i < j → l[i]?.getD 0 = m[i]?.getD 0) ∧ l[j]?.getD 0 < m[j]?.getD 0

theorem later_append {l m : List Int} {j : Nat} (h : Later l m j) (l' m' : List Int) : Later (l ++ l') (m ++ m') j := by
  obtain ⟨h1, h2, h3, h4⟩ := h
  refine ⟨by simp; omega, by simp; omega, fun i hi => ?_, ?_⟩
  · rw [List.getElem?_append_left (by omega), List.getElem?_append_left (by omega)]; exact h3 i hi
  · rw [List.getElem?_append_left h1, List.getElem?_append_left h2]; exact h4

theorem digI_later {b : Nat} (hb : 2 ≤ b) (n : Nat) : (digI b (n + 1)).length = (digI b n).length → ∃ j, Later (digI b n) (digI b (n + 1)) j := by
  induction n using Nat.strongRecOn with
  | _ n ih =>
    intro hlen
    by_cases h1 : n + 1 < b
    · rw [digI_lt h1, digI_lt (show n < b by omega)]
      exact ⟨0, by simp [Later]; omega⟩
    · by_cases h2 : n < b
      · exfalso
        rw [digI_len, digI_len, len_lt h2, len_ge hb (by omega)] at hlen
        have := digsR_pos b ((n + 1) / b)
        omega
      · rw [digI_ge hb (n := n + 1) (by omega), digI_ge hb (n := n) (by omega)] at hlen ⊢
        by_cases hm : n % b = b - 1
        · have e : (n + 1) / b = n / b + 1 := by
            have h1 := Nat.div_add_mod n b
            have e : n + 1 = b * (n / b + 1) := by rw [Nat.mul_add]; omega
            rw [e, Nat.mul_div_cancel_left _ (by omega)]
          rw [e] at hlen ⊢
          obtain ⟨j, hj⟩ := ih (n / b) (Nat.div_lt_self (by omega) (by omega)) (by simpa using hlen)
          exact ⟨j, later_append hj _ _⟩
        · obtain ⟨e1, e2⟩ := succ_mod_div hb hm
          rw [e1, e2]
          refine ⟨(digI b (n / b)).length, by simp, by simp, fun i hi => ?_, ?_⟩
          · rw [List.getElem?_append_left hi, List.getElem?_append_left hi]
          · simp; omega

end Pl
end Go.Proofs.YtgkkoegfmhgcjaaDoor

namespace Go.Proofs.YtgkkoegfmhgcjaaDoor
namespace Pl

theorem wholeO_le {b : Nat} : ∀ (l : List Int) (acc y : Nat), acc ≤ 1000000000 → wholeO b l acc = some y → y ≤ 1000000000 := by
  intro l
  induction l with
  | nil => intro acc y h1 h; simp [wholeO] at h; omega
  | cons d t ih =>
    intro acc y h1 h
    by_cases hg : (0 ≤ d ∧ d < (b : Int)) ∧ (acc : Int) * b + d ≤ 1000000000
    · rw [wholeO_good _ _ _ _ hg] at h
      refine ih _ y ?_ h
      have : ((acc * b + d.toNat : Nat) : Int) = (acc : Int) * b + d := by rw [Int.natCast_add, Int.natCast_mul, Int.toNat_of_nonneg hg.1.1]
      omega
    · rw [wholeO_bad _ _ _ _ hg] at h; cases h

theorem digI_push {b acc : Nat} {d : Int} (hb : 2 ≤ b) (h : 1 ≤ acc) (h0 : 0 ≤ d) (h1 : d < (b : Int)) : digI b (acc * b + d.toNat) = digI b acc ++ [d] := by
  have h2 : b ≤ acc * b := Nat.le_mul_of_pos_left _ (by omega)
  have e1 : (acc * b + d.toNat) / b = acc := by
    rw [Nat.add_comm, Nat.add_mul_div_right _ _ (by omega), Nat.div_eq_of_lt (by omega)]; omega
  have e2 : (acc * b + d.toNat) % b = d.toNat := by
    rw [Nat.add_comm, Nat.add_mul_mod_self_right, Nat.mod_eq_of_lt (by omega)]
  rw [digI_ge hb (by omega), e1, e2, Int.toNat_of_nonneg h0]

theorem digI_whole {b : Nat} (hb : 2 ≤ b) : ∀ (l : List Int) (acc y : Nat), 1 ≤ acc → wholeO b l acc = some y → digI b y = digI b acc ++ l := by
  intro l
  induction l with
  | nil => intro acc y _ h; simp [wholeO] at h; subst h; simp
  | cons d t ih =>
    intro acc y h1 h
    by_cases hg : (0 ≤ d ∧ d < (b : Int)) ∧ (acc : Int) * b + d ≤ 1000000000
    · rw [wholeO_good _ _ _ _ hg] at h
      have h2 : 1 ≤ acc * b := Nat.mul_pos h1 (by omega)
      rw [ih _ y (by omega) h, digI_push hb h1 hg.1.1 hg.1.2, List.append_assoc]; rfl
    · rw [wholeO_bad _ _ _ _ hg] at h; cases h

/-- Without noughts ahead a row is the digits of its number. -/
theorem row_of_whole {b : Nat} (hb : 2 ≤ b) {l : List Int} {y : Nat} (h : wholeO b l 0 = some y) (h0 : l ≠ []) (h1 : l[0]?.getD 0 = 0 → l.length = 1) : digI b y = l := by
  cases l with
  | nil => exact absurd rfl h0
  | cons d t =>
    by_cases hg : (0 ≤ d ∧ d < (b : Int)) ∧ ((0 : Nat) : Int) * b + d ≤ 1000000000
    · rw [wholeO_good _ _ _ _ hg] at h
      rw [Nat.zero_mul, Nat.zero_add] at h
      by_cases hd : d = 0
      · have := h1 (by simp [hd])
        simp at this; subst this
        subst hd
        simp [wholeO] at h; subst h
        rw [digI_lt (by omega)]; rfl
      · rw [digI_whole hb t d.toNat y (by omega) h, digI_lt (by omega), Int.toNat_of_nonneg hg.1.1]; rfl
    · rw [wholeO_bad _ _ _ _ hg] at h; cases h

theorem whole_zero {xs : List Int} {b : Int} {y : Nat} (h : whole xs b = some y) : whole (0 :: xs) b = some y := by
  unfold whole at h ⊢
  split at h
  · rename_i hc
    rw [if_pos ⟨hc.1, by simp⟩]
    rw [baseB_iff] at hc
    rw [wholeO_good _ _ _ _ (by omega)]
    simpa using h
  · cases h

theorem whole_some {xs : List Int} {b : Int} {y : Nat} (h : whole xs b = some y) : ∃ k : Nat, b = (k : Int) ∧ 2 ≤ k ∧ k ≤ 16 ∧ xs ≠ [] ∧ wholeO k xs 0 = some y ∧ y ≤ 1000000000 := by
  unfold whole at h
  split at h
  · rename_i hc
    have hb := (baseB_iff b).1 hc.1
    exact ⟨b.toNat, by omega, by omega, by omega, hc.2, h, wholeO_le xs 0 y (by omega) h⟩
  · cases h

/-- The value of a row. -/
def valN (b : Nat) : List Int → Nat
  | [] => 0
  | d :: t => d.toNat * b ^ t.length + valN b t

theorem wholeO_val {b : Nat} : ∀ (l : List Int) (acc y : Nat), wholeO b l acc = some y → y = acc * b ^ l.length + valN b l := by
  intro l
  induction l with
  | nil => intro acc y h; simp [wholeO] at h; simp [valN, h]
  | cons d t ih =>
    intro acc y h
    by_cases hg : (0 ≤ d ∧ d < (b : Int)) ∧ (acc : Int) * b + d ≤ 1000000000
    · rw [wholeO_good _ _ _ _ hg] at h
      rw [ih _ y h, valN, List.length_cons, Nat.pow_succ, Nat.add_mul, Nat.mul_assoc, Nat.mul_comm b]
      omega
    · rw [wholeO_bad _ _ _ _ hg] at h; cases h

theorem valN_digI {b m : Nat} (hb : 2 ≤ b) (hm : m ≤ 1000000000) : valN b (digI b m) = m := by
  have h := wholeO_digI hb m hm []
  rw [List.append_nil] at h
  have := wholeO_val _ _ _ (h.trans (by rfl : wholeO b [] m = some m))
  omega

theorem behind_val {b n m y : Nat} (hb : 2 ≤ b) (hn : n ≤ 1000000000) (hm : m ≤ 1000000000) (h : wholeO b (digI b n ++ digI b m) 0 = some y) : y = n * b ^ (digsR b m).length + m := by
  rw [wholeO_digI hb n hn] at h
  rw [wholeO_val _ _ _ h, valN_digI hb hm, digI_len]

theorem lt_pow_len {b : Nat} (hb : 2 ≤ b) (n : Nat) : n < b ^ (digsR b n).length := by
  refine digInd hb (P := fun n => n < b ^ (digsR b n).length) ?_ ?_ n
  · intro n h; rw [len_lt h]; simpa using h
  · intro n h ih
    rw [len_ge hb h, Nat.add_comm, Nat.pow_succ]
    have h1 := Nat.div_add_mod n b
    have h2 := Nat.mod_lt n (show 0 < b by omega)
    have h3 : b * (n / b + 1) ≤ b * b ^ (digsR b (n / b)).length := Nat.mul_le_mul_left b ih
    rw [Nat.mul_comm _ b]
    rw [Nat.mul_add] at h3
    omega

theorem sumD_behind {b : Nat} (hb : 2 ≤ b) (n : Nat) : ∀ (L m : Nat), m < b ^ L → sumD b (n * b ^ L + m) = sumD b n + sumD b m := by
  intro L
  induction L with
  | zero => intro m h; have : m = 0 := by simpa using h
            subst this; rw [sumD_lt (n := 0) (by omega)]; simp
  | succ L ih =>
    intro m h
    have e1 : (n * b ^ (L + 1) + m) % b = m % b := by
      rw [Nat.pow_succ, ← Nat.mul_assoc, Nat.add_comm, Nat.add_mul_mod_self_right]
    have e2 : (n * b ^ (L + 1) + m) / b = n * b ^ L + m / b := by
      rw [Nat.pow_succ, ← Nat.mul_assoc, Nat.add_comm, Nat.add_mul_div_right _ _ (by omega), Nat.add_comm]
    have h3 : m / b < b ^ L := by
      rw [Nat.div_lt_iff_lt_mul (by omega), ← Nat.pow_succ]; exact h
    rw [sumD_step hb (n * b ^ (L + 1) + m), e1, e2, ih _ h3, sumD_step hb m]; omega

end Pl
end Go.Proofs.YtgkkoegfmhgcjaaDoor
