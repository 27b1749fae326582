/-
  Plain facts about digits: tests for bases and numbers, the digits of a number (the last first, the first first), their sum; how many they are; digits tell the number; rows of digits. No program is named.
-/
import Derived.KernelRfl
import Derived.Lib.ItoaNum
import Derived.Lib.AtoiAll
import Derived.Lib.Bytealg
import Derived.Lib.SlicesS
namespace Go.Proofs.YtgkkoegfmhgcjaaGreatDoor
namespace Pl

/-- A base is in 2..16. -/
def baseB (b : Int) : Bool := decide (2 ≤ b) && decide (b ≤ 16)

/-- A number with digits: base in 2..16, number in 0..1000000000. -/
def okB (n b : Int) : Bool := baseB b && (decide (0 ≤ n) && decide (n ≤ 1000000000))

theorem baseB_iff (b : Int) : baseB b = true ↔ 2 ≤ b ∧ b ≤ 16 := by simp [baseB]
theorem okB_iff (n b : Int) : okB n b = true ↔ (2 ≤ b ∧ b ≤ 16) ∧ 0 ≤ n ∧ n ≤ 1000000000 := by simp [okB, baseB]

/-- The digits of a number in a base, the last one first. -/
def digsR (b n : Nat) : List Nat := if _h : n < b ∨ b < 2 then [n] else (n % b) :: digsR b (n / b)
  termination_by n
  decreasing_by exact Nat.div_lt_self (by omega) (by omega)

theorem digsR_lt {b n : Nat} (h : n < b) : digsR b n = [n] := by rw [digsR, dif_pos (.inl h)]
theorem digsR_ge {b n : Nat} (hb : 2 ≤ b) (h : b ≤ n) : digsR b n = (n % b) :: digsR b (n / b) := by rw [digsR, dif_neg (by omega)]

/-- The digits of a number, the first one first. -/
def digs (b n : Nat) : List Nat := (digsR b n).reverse

theorem digs_lt {b n : Nat} (h : n < b) : digs b n = [n] := by rw [digs, digsR_lt h]; rfl
theorem digs_ge {b n : Nat} (hb : 2 ≤ b) (h : b ≤ n) : digs b n = digs b (n / b) ++ [n % b] := by rw [digs, digsR_ge hb h]; simp [digs]

/-- Induction along the digits of a number. -/
theorem digInd {b : Nat} (hb : 2 ≤ b) {P : Nat → Prop} (h0 : ∀ n, n < b → P n) (h1 : ∀ n, b ≤ n → P (n / b) → P n) (n : Nat) : P n := by
  induction n using Nat.strongRecOn with
  | _ n ih =>
    by_cases h : n < b
    · exact h0 n h
    · exact h1 n (by omega) (ih _ (Nat.div_lt_self (by omega) (by omega)))

theorem digsR_pos (b n : Nat) : 1 ≤ (digsR b n).length := by
  rw [digsR]; split <;> simp

theorem digsR_mem {b : Nat} (hb : 2 ≤ b) (n : Nat) : ∀ x ∈ digsR b n, x < b := by
  refine digInd hb (P := fun n => ∀ x ∈ digsR b n, x < b) ?_ ?_ n
  · intro n h x hx; rw [digsR_lt h] at hx; simp at hx; omega
  · intro n h ih x hx
    rw [digsR_ge hb h] at hx
    simp only [List.mem_cons] at hx
    rcases hx with rfl | hx
    · exact Nat.mod_lt _ (by omega)
    · exact ih x hx

/-- Below 2 to the k (k from 1 on) there are at most k digits. -/
theorem digsR_len {b : Nat} (hb : 2 ≤ b) (k : Nat) : ∀ n, n < 2 ^ (k + 1) → (digsR b n).length ≤ k + 1 := by
  induction k with
  | zero => intro n h; rw [digsR_lt (by omega)]; simp
  | succ k ih =>
    intro n h
    by_cases hn : n < b
    · rw [digsR_lt hn]; simp
    · rw [digsR_ge hb (by omega)]
      have h2 : n / b ≤ n / 2 := Nat.div_le_div_left hb (by omega)
      have := ih (n / b) (by rw [Nat.pow_succ] at h; omega)
      simp only [List.length_cons]; omega

theorem digsR_len30 {b n : Nat} (hb : 2 ≤ b) (hn : n ≤ 1000000000) : (digsR b n).length ≤ 30 := digsR_len hb 29 n (by omega)

/-- The sum of all digits. -/
def sumD (b n : Nat) : Nat := (digsR b n).sum
theorem sumD_lt {b n : Nat} (h : n < b) : sumD b n = n := by rw [sumD, digsR_lt h]; simp
theorem sumD_ge {b n : Nat} (hb : 2 ≤ b) (h : b ≤ n) : sumD b n = n % b + sumD b (n / b) := by rw [sumD, digsR_ge hb h]; simp [sumD]
theorem sumD_le {b : Nat} (hb : 2 ≤ b) (n : Nat) : sumD b n ≤ n := by
  refine digInd hb (P := fun n => sumD b n ≤ n) ?_ ?_ n
  · intro n h; rw [sumD_lt h]; exact Nat.le_refl _
  · intro n h ih
    rw [sumD_ge hb h]
    have h1 := Nat.div_add_mod n b
    have h2 : n / b ≤ b * (n / b) := Nat.le_mul_of_pos_left _ (by omega)
    omega

theorem sumD_step {b : Nat} (hb : 2 ≤ b) (n : Nat) : sumD b n = n % b + sumD b (n / b) := by
  by_cases h : n < b
  · rw [Nat.div_eq_of_lt h, Nat.mod_eq_of_lt h, sumD_lt h, sumD_lt (by omega)]; omega
  · exact sumD_ge hb (by omega)

theorem sumD_less {b n : Nat} (hb : 2 ≤ b) (h : b ≤ n) : sumD b n < n := by
  rw [sumD_ge hb h]
  have h1 := Nat.div_add_mod n b
  have h2 := sumD_le hb (n / b)
  have h3 : 1 ≤ n / b := (Nat.one_le_div_iff (by omega)).2 h
  have h4 : 2 * (n / b) ≤ b * (n / b) := Nat.mul_le_mul_right _ hb
  omega

theorem succ_mod_div {b n : Nat} (hb : 2 ≤ b) (h : n % b ≠ b - 1) : (n + 1) % b = n % b + 1 ∧ (n + 1) / b = n / b := by
  have h1 := Nat.div_add_mod n b
  have h2 := Nat.mod_lt n (show 0 < b by omega)
  have e : n + 1 = (n % b + 1) + b * (n / b) := by omega
  constructor
  · rw [e, Nat.add_mul_mod_self_left, Nat.mod_eq_of_lt (by omega)]
  · rw [e, Nat.add_mul_div_left _ _ (by omega), Nat.div_eq_of_lt (by omega)]; omega

theorem sumD_succ {b n : Nat} (hb : 2 ≤ b) (h : n % b ≠ b - 1) : sumD b (n + 1) = sumD b n + 1 := by
  obtain ⟨h1, h2⟩ := succ_mod_div hb h
  rw [sumD_step hb (n + 1), sumD_step hb n, h1, h2]; omega

theorem len_one {b n : Nat} (hb : 2 ≤ b) : (digsR b n).length = 1 ↔ n < b := by
  constructor
  · intro h
    refine Classical.byContradiction fun hn => ?_
    rw [digsR_ge hb (by omega)] at h
    have := digsR_pos b (n / b)
    simp at h
    rw [h] at this; simp at this
  · intro h; rw [digsR_lt h]; rfl

/-- The sum of digits as the functions answer: -1 for others. -/
def sumI (n b : Int) : Int := if okB n b = true then (sumD b.toNat n.toNat : Int) else -1
theorem sumI_yes (n b : Nat) (h : okB n b = true) : sumI n b = (sumD b n : Int) := by rw [sumI, if_pos h]; rfl
theorem sumI_no {n b : Int} (h : ¬ okB n b = true) : sumI n b = -1 := by rw [sumI, if_neg h]

/-- A number with digits, as natural numbers. -/
theorem okB_nat {n b : Int} (h : okB n b = true) : ∃ x k : Nat, n = (x : Int) ∧ b = (k : Int) ∧ 2 ≤ k ∧ k ≤ 16 ∧ x ≤ 1000000000 := by
  rw [okB_iff] at h
  exact ⟨n.toNat, b.toNat, by omega, by omega, by omega, by omega, by omega⟩

/-- The digits as integers, the first one first. -/
def digI (b n : Nat) : List Int := (digs b n).map fun d : Nat => (d : Int)
theorem digI_lt {b n : Nat} (h : n < b) : digI b n = [(n : Int)] := by rw [digI, digs_lt h]; rfl
theorem digI_ge {b n : Nat} (hb : 2 ≤ b) (h : b ≤ n) : digI b n = digI b (n / b) ++ [((n % b : Nat) : Int)] := by rw [digI, digs_ge hb h]; simp [digI]
theorem digI_len (b n : Nat) : (digI b n).length = (digsR b n).length := by simp [digI, digs]
theorem digI_len30 {b n : Nat} (hb : 2 ≤ b) (hn : n ≤ 1000000000) : (digI b n).length ≤ 30 := by rw [digI_len]; exact digsR_len30 hb hn

/-- The digits as the functions answer: none for others. -/
def digA (n b : Int) : List Int := if okB n b = true then digI b.toNat n.toNat else []
theorem digA_yes (n b : Nat) (h : okB n b = true) : digA n b = digI b n := by rw [digA, if_pos h]; rfl
theorem digA_no {n b : Int} (h : ¬ okB n b = true) : digA n b = [] := by rw [digA, if_neg h]
theorem digA_len30 (n b : Int) : (digA n b).length ≤ 30 := by
  by_cases h : okB n b = true
  · obtain ⟨x, k, rfl, rfl, h1, h2, h3⟩ := okB_nat h
    rw [digA_yes x k h]; exact digI_len30 h1 h3
  · rw [digA_no h]; simp

/-- The number of further digits behind acc, if each is a digit and none is more than 1000000000. -/
def wholeO (b : Nat) : List Int → Nat → Option Nat
  | [], acc => some acc
  | d :: t, acc => if (0 ≤ d ∧ d < (b : Int)) ∧ (acc : Int) * b + d ≤ 1000000000 then wholeO b t (acc * b + d.toNat) else none

/-- The number of digits in a base, if it may be told. -/
def whole (l : List Int) (b : Int) : Option Nat := if baseB b = true ∧ l ≠ [] then wholeO b.toNat l 0 else none
def wV : Option Nat → Int | some x => (x : Int) | none => -1
def wB : Option Nat → Bool | some _ => true | none => false
theorem wholeO_bad (b : Nat) (d : Int) (t : List Int) (acc : Nat) (h : ¬ ((0 ≤ d ∧ d < (b : Int)) ∧ (acc : Int) * b + d ≤ 1000000000)) : wholeO b (d :: t) acc = none := by rw [wholeO, if_neg h]
theorem wholeO_good (b : Nat) (d : Int) (t : List Int) (acc : Nat) (h : (0 ≤ d ∧ d < (b : Int)) ∧ (acc : Int) * b + d ≤ 1000000000) : wholeO b (d :: t) acc = wholeO b t (acc * b + d.toNat) := by rw [wholeO, if_pos h]
theorem drop_cons {l : List Int} {k : Nat} (h : k < l.length) : l.drop k = l[k]?.getD 0 :: l.drop (k + 1) := by
  rw [List.drop_eq_getElem_cons h, List.getElem?_eq_getElem h]; rfl

/-- A digit that may come: a number below 16. -/
abbrev Dg := { x : Nat // x < 16 }
def dg (x : Nat) : Dg := ⟨x % 16, Nat.mod_lt _ (by omega)⟩
theorem dg_val {x : Nat} (h : x < 16) : (dg x).1 = x := Nat.mod_eq_of_lt h
def digsF (b n : Nat) : List Dg := (digsR b n).map dg
theorem digsF_len (b n : Nat) : (digsF b n).length = (digsR b n).length := by simp [digsF]
theorem digsF_one {b n : Nat} (h : n < b) : digsF b n = [dg n] := by rw [digsF, digsR_lt h]; rfl
theorem digsF_more {b n : Nat} (hb : 2 ≤ b) (h : b ≤ n) : digsF b n = dg (n % b) :: digsF b (n / b) := by rw [digsF, digsR_ge hb h]; rfl
theorem map_val {l : List Nat} (h : ∀ x ∈ l, x < 16) : (l.map dg).map (·.1) = l := by
  induction l with
  | nil => rfl
  | cons a l ih => simp only [List.map_cons]; rw [ih (fun x hx => h x (by simp [hx])), dg_val (h a (by simp))]
theorem digsF_val {b n : Nat} (hb : 2 ≤ b) (hb' : b ≤ 16) : (digsF b n).map (·.1) = digsR b n := map_val fun x hx => by have := digsR_mem hb n x hx; omega

end Pl
end Go.Proofs.YtgkkoegfmhgcjaaGreatDoor

namespace Go.Proofs.YtgkkoegfmhgcjaaGreatDoor
namespace Pl

theorem len_lt {b n : Nat} (h : n < b) : (digsR b n).length = 1 := by rw [digsR_lt h]; rfl
theorem len_ge {b n : Nat} (hb : 2 ≤ b) (h : b ≤ n) : (digsR b n).length = 1 + (digsR b (n / b)).length := by rw [digsR_ge hb h]; simp; omega

theorem succ_div {b n : Nat} (hb : 2 ≤ b) : (n + 1) / b = n / b ∨ (n + 1) / b = n / b + 1 := by
  by_cases h : n % b = b - 1
  · right
    have h1 := Nat.div_add_mod n b
    have e : n + 1 = b * (n / b + 1) := by rw [Nat.mul_add]; omega
    rw [e, Nat.mul_div_cancel_left _ (by omega)]
  · exact .inl (succ_mod_div hb h).2

theorem len_succ {b : Nat} (hb : 2 ≤ b) (n : Nat) : (digsR b (n + 1)).length = (digsR b n).length ∨ (digsR b (n + 1)).length = (digsR b n).length + 1 := by
  induction n using Nat.strongRecOn with
  | _ n ih =>
    by_cases h1 : n + 1 < b
    · rw [len_lt h1, len_lt (by omega)]; exact .inl rfl
    · rw [len_ge hb (by omega)]
      by_cases h2 : n < b
      · have e : n + 1 = b := by omega
        rw [e, Nat.div_self (by omega), len_lt h2, len_lt (by omega)]; exact .inr rfl
      · rw [len_ge hb (n := n) (by omega)]
        rcases succ_div hb (n := n) with h | h
        · rw [h]; exact .inl rfl
        · rw [h]
          rcases ih (n / b) (Nat.div_lt_self (by omega) (by omega)) with h | h
          · rw [h]; exact .inl rfl
          · rw [h]; exact .inr (by omega)

theorem len_mul {b n : Nat} (hb : 2 ≤ b) (h : 1 ≤ n) : (digsR b (n * b)).length = (digsR b n).length + 1 := by
  have h1 : b ≤ n * b := Nat.le_mul_of_pos_left _ (by omega)
  rw [len_ge hb h1, Nat.mul_div_cancel _ (by omega)]; omega

end Pl
end Go.Proofs.YtgkkoegfmhgcjaaGreatDoor

namespace Go.Proofs.YtgkkoegfmhgcjaaGreatDoor
namespace Pl

theorem wholeO_digI {b : Nat} (hb : 2 ≤ b) (n : Nat) : n ≤ 1000000000 → ∀ t, wholeO b (digI b n ++ t) 0 = wholeO b t n := by
  refine digInd hb (P := fun n => n ≤ 1000000000 → ∀ t, wholeO b (digI b n ++ t) 0 = wholeO b t n) ?_ ?_ n
  · intro n h hn t
    rw [digI_lt h, List.cons_append, List.nil_append, wholeO_good _ _ _ _ (by omega)]
    congr 1; omega
  · intro n h ih hn t
    have h1 := Nat.div_add_mod n b
    have h2 := Nat.mod_lt n (show 0 < b by omega)
    have h3 : n / b ≤ n := Nat.div_le_self _ _
    have e : n / b * b + n % b = n := by rw [Nat.mul_comm]; exact h1
    rw [digI_ge hb h, List.append_assoc, ih (by omega), List.cons_append, List.nil_append, wholeO_good]
    · congr 1
    · refine ⟨by omega, ?_⟩
      have : ((n / b : Nat) : Int) * (b : Int) + ((n % b : Nat) : Int) = (n : Int) := by exact_mod_cast e
      omega

theorem whole_digA {x k : Nat} (h : okB x k = true) : whole (digA x k) k = some x := by
  obtain ⟨_, _, hx, hk, h1, h2, h3⟩ := okB_nat h
  have ex : x = _ := Int.ofNat.inj hx
  have ek : k = _ := Int.ofNat.inj hk
  subst ex; subst ek
  rw [digA_yes x k h, whole, if_pos]
  · have := wholeO_digI h1 x h3 []
    rw [List.append_nil] at this
    exact this
  · refine ⟨by rw [baseB_iff]; omega, ?_⟩
    intro e
    have := digsR_pos k x
    rw [← digI_len, e] at this; simp at this

theorem first_pos {b : Nat} (hb : 2 ≤ b) (n : Nat) : 1 ≤ n → (0 : Int) < (digI b n)[0]?.getD 0 := by
  refine digInd hb (P := fun n => 1 ≤ n → (0 : Int) < (digI b n)[0]?.getD 0) ?_ ?_ n
  · intro n h hn; rw [digI_lt h]; simp; omega
  · intro n h ih _
    have h1 : 1 ≤ n / b := (Nat.one_le_div_iff (by omega)).2 h
    have h2 := digsR_pos b (n / b)
    rw [digI_ge hb h, List.getElem?_append_left (by rw [digI_len]; omega)]
    exact ih h1

/-- The second row is later at a place up to which both are the same. -/
def Later (l m : List Int) (j : Nat) : Prop := j < l.length ∧ j < m.length ∧ (∀ i, i < j → l[i]?.getD 0 = m[i]?.getD 0) ∧ l[j]?.getD 0 < m[j]?.getD 0

theorem later_append {l m : List Int} {j : Nat} (h : Later l m j) (l' m' : List Int) : Later (l ++ l') (m ++ m') j := by
  obtain ⟨h1, h2, h3, h4⟩ := h
  refine ⟨by simp; omega, by simp; omega, fun i hi => ?_, ?_⟩
  · rw [List.getElem?_append_left (by omega), List.getElem?_append_left (by omega)]; exact h3 i hi
  · rw [List.getElem?_append_left h1, List.getElem?_append_left h2]; exact h4

theorem digI_later {b : Nat} (hb : 2 ≤ b) (n : Nat) : (digI b (n + 1)).length = (digI b n).length → ∃ j, Later (digI b n) (digI b (n + 1)) j := by
  induction n using Nat.strongRecOn with
  | _ n ih =>
    intro hlen
    by_cases h1 : n + 1 < b
    · rw [digI_lt h1, digI_lt (show n < b by omega)]
      exact ⟨0, by simp [Later]; omega⟩
    · by_cases h2 : n < b
      · exfalso
        rw [digI_len, digI_len, len_lt h2, len_ge hb (by omega)] at hlen
        have := digsR_pos b ((n + 1) / b)
        omega
      · rw [digI_ge hb (n := n + 1) (by omega), digI_ge hb (n := n) (by omega)] at hlen ⊢
        by_cases hm : n % b = b - 1
        · have e : (n + 1) / b = n / b + 1 := by
            have h1 := Nat.div_add_mod n b
            have e : n + 1 = b * (n / b + 1) := by rw [Nat.mul_add]; omega
            rw [e, Nat.mul_div_cancel_left _ (by omega)]
          rw [e] at hlen ⊢
          obtain ⟨j, hj⟩ := ih (n / b) (Nat.div_lt_self (by omega) (by omega)) (by simpa using hlen)
          exact ⟨j, later_append hj _ _⟩
        · obtain ⟨e1, e2⟩ := succ_mod_div hb hm
          rw [e1, e2]
          refine ⟨(digI b (n / b)).length, by simp, by simp, fun i hi => ?_, ?_⟩
          · rw [List.getElem?_append_left hi, List.getElem?_append_left hi]
          · simp; omega

end Pl
end Go.Proofs.YtgkkoegfmhgcjaaGreatDoor

namespace Go.Proofs.YtgkkoegfmhgcjaaGreatDoor
namespace Pl

theorem wholeO_le {b : Nat} : ∀ (l : List Int) (acc y : Nat), acc ≤ 1000000000 → wholeO b l acc = some y → y ≤ 1000000000 := by
  intro l
  induction l with
  | nil => intro acc y h1 h; simp [wholeO] at h; omega
  | cons d t ih =>
    intro acc y h1 h
    by_cases hg : (0 ≤ d ∧ d < (b : Int)) ∧ (acc : Int) * b + d ≤ 1000000000
    · rw [wholeO_good _ _ _ _ hg] at h
      refine ih _ y ?_ h
      have : ((acc * b + d.toNat : Nat) : Int) = (acc : Int) * b + d := by rw [Int.natCast_add, Int.natCast_mul, Int.toNat_of_nonneg hg.1.1]
      omega
    · rw [wholeO_bad _ _ _ _ hg] at h; cases h

theorem digI_push {b acc : Nat} {d : Int} (hb : 2 ≤ b) (h : 1 ≤ acc) (h0 : 0 ≤ d) (h1 : d < (b : Int)) : digI b (acc * b + d.toNat) = digI b acc ++ [d] := by
  have h2 : b ≤ acc * b := Nat.le_mul_of_pos_left _ (by omega)
  have e1 : (acc * b + d.toNat) / b = acc := by
    rw [Nat.add_comm, Nat.add_mul_div_right _ _ (by omega), Nat.div_eq_of_lt (by omega)]; omega
  have e2 : (acc * b + d.toNat) % b = d.toNat := by
    rw [Nat.add_comm, Nat.add_mul_mod_self_right, Nat.mod_eq_of_lt (by omega)]
  rw [digI_ge hb (by omega), e1, e2, Int.toNat_of_nonneg h0]

theorem digI_whole {b : Nat} (hb : 2 ≤ b) : ∀ (l : List Int) (acc y : Nat), 1 ≤ acc → wholeO b l acc = some y → digI b y = digI b acc ++ l := by
  intro l
  induction l with
  | nil => intro acc y _ h; simp [wholeO] at h; subst h; simp
  | cons d t ih =>
    intro acc y h1 h
    by_cases hg : (0 ≤ d ∧ d < (b : Int)) ∧ (acc : Int) * b + d ≤ 1000000000
    · rw [wholeO_good _ _ _ _ hg] at h
      have h2 : 1 ≤ acc * b := Nat.mul_pos h1 (by omega)
      rw [ih _ y (by omega) h, digI_push hb h1 hg.1.1 hg.1.2, List.append_assoc]; rfl
    · rw [wholeO_bad _ _ _ _ hg] at h; cases h

/-- Without noughts ahead a row is the digits of its number. -/
theorem row_of_whole {b : Nat} (hb : 2 ≤ b) {l : List Int} {y : Nat} (h : wholeO b l 0 = some y) (h0 : l ≠ []) (h1 : l[0]?.getD 0 = 0 → l.length = 1) : digI b y = l := by
  cases l with
  | nil => exact absurd rfl h0
  | cons d t =>
    by_cases hg : (0 ≤ d ∧ d < (b : Int)) ∧ ((0 : Nat) : Int) * b + d ≤ 1000000000
    · rw [wholeO_good _ _ _ _ hg] at h
      rw [Nat.zero_mul, Nat.zero_add] at h
      by_cases hd : d = 0
      · have := h1 (by simp [hd])
        simp at this; subst this
        subst hd
        simp [wholeO] at h; subst h
        rw [digI_lt (by omega)]; rfl
      · rw [digI_whole hb t d.toNat y (by omega) h, digI_lt (by omega), Int.toNat_of_nonneg hg.1.1]; rfl
    · rw [wholeO_bad _ _ _ _ hg] at h; cases h

theorem whole_zero {xs : List Int} {b : Int} {y : Nat} (h : whole xs b = some y) : whole (0 :: xs) b = some y := by
  unfold whole at h ⊢
  split at h
  · rename_i hc
    rw [if_pos ⟨hc.1, by simp⟩]
    rw [baseB_iff] at hc
    rw [wholeO_good _ _ _ _ (by omega)]
    simpa using h
  · cases h

theorem whole_some {xs : List Int} {b : Int} {y : Nat} (h : whole xs b = some y) : ∃ k : Nat, b = (k : Int) ∧ 2 ≤ k ∧ k ≤ 16 ∧ xs ≠ [] ∧ wholeO k xs 0 = some y ∧ y ≤ 1000000000 := by
  unfold whole at h
  split at h
  · rename_i hc
    have hb := (baseB_iff b).1 hc.1
    exact ⟨b.toNat, by omega, by omega, by omega, hc.2, h, wholeO_le xs 0 y (by omega) h⟩
  · cases h

/-- The value of a row. -/
def valN (b : Nat) : List Int → Nat
  | [] => 0
  | d :: t => d.toNat * b ^ t.length + valN b t

theorem wholeO_val {b : Nat} : ∀ (l : List Int) (acc y : Nat), wholeO b l acc = some y → y = acc * b ^ l.length + valN b l := by
  intro l
  induction l with
  | nil => intro acc y h; simp [wholeO] at h; simp [valN, h]
  | cons d t ih =>
    intro acc y h
    by_cases hg : (0 ≤ d ∧ d < (b : Int)) ∧ (acc : Int) * b + d ≤ 1000000000
    · rw [wholeO_good _ _ _ _ hg] at h
      rw [ih _ y h, valN, List.length_cons, Nat.pow_succ, Nat.add_mul, Nat.mul_assoc, Nat.mul_comm b]
      omega
    · rw [wholeO_bad _ _ _ _ hg] at h; cases h

theorem valN_digI {b m : Nat} (hb : 2 ≤ b) (hm : m ≤ 1000000000) : valN b (digI b m) = m := by
  have h := wholeO_digI hb m hm []
  rw [List.append_nil] at h
  have := wholeO_val _ _ _ (h.trans (by rfl : wholeO b [] m = some m))
  omega

theorem behind_val {b n m y : Nat} (hb : 2 ≤ b) (hn : n ≤ 1000000000) (hm : m ≤ 1000000000) (h : wholeO b (digI b n ++ digI b m) 0 = some y) : y = n * b ^ (digsR b m).length + m := by
  rw [wholeO_digI hb n hn] at h
  rw [wholeO_val _ _ _ h, valN_digI hb hm, digI_len]

theorem lt_pow_len {b : Nat} (hb : 2 ≤ b) (n : Nat) : n < b ^ (digsR b n).length := by
  refine digInd hb (P := fun n => n < b ^ (digsR b n).length) ?_ ?_ n
  · intro n h; rw [len_lt h]; simpa using h
  · intro n h ih
    rw [len_ge hb h, Nat.add_comm, Nat.pow_succ]
    have h1 := Nat.div_add_mod n b
    have h2 := Nat.mod_lt n (show 0 < b by omega)
    have h3 : b * (n / b + 1) ≤ b * b ^ (digsR b (n / b)).length := Nat.mul_le_mul_left b ih
    rw [Nat.mul_comm _ b]
    rw [Nat.mul_add] at h3
    omega

theorem sumD_behind {b : Nat} (hb : 2 ≤ b) (n : Nat) : ∀ (L m : Nat), m < b ^ L → sumD b (n * b ^ L + m) = sumD b n + sumD b m := by
  intro L
  induction L with
  | zero => intro m h; have : m = 0 := by simpa using h
            subst this; rw [sumD_lt (n := 0) (by omega)]; simp
  | succ L ih =>
    intro m h
    have e1 : (n * b ^ (L + 1) + m) % b = m % b := by
      rw [Nat.pow_succ, ← Nat.mul_assoc, Nat.add_comm, Nat.add_mul_mod_self_right]
    have e2 : (n * b ^ (L + 1) + m) / b = n * b ^ L + m / b := by
      rw [Nat.pow_succ, ← Nat.mul_assoc, Nat.add_comm, Nat.add_mul_div_right _ _ (by omega), Nat.add_comm]
    have h3 : m / b < b ^ L := by
      rw [Nat.div_lt_iff_lt_mul (by omega), ← Nat.pow_succ]; exact h
    rw [sumD_step hb (n * b ^ (L + 1) + m), e1, e2, ih _ h3, sumD_step hb m]; omega

end Pl
end Go.Proofs.YtgkkoegfmhgcjaaGreatDoor

namespace Go.Proofs.YtgkkoegfmhgcjaaGreatDoor
namespace Pl

theorem sumD_mod {b : Nat} (hb : 2 ≤ b) (n : Nat) : sumD b n % (b - 1) = n % (b - 1) := by
  refine digInd hb (P := fun n => sumD b n % (b - 1) = n % (b - 1)) ?_ ?_ n
  · intro n h; rw [sumD_lt h]
  · intro n h ih
    have h1 := Nat.div_add_mod n b
    rw [sumD_ge hb h, Nat.add_mod, ih, ← Nat.add_mod]
    have e : n = n % b + n / b + (b - 1) * (n / b) := by
      have h2 : b * (n / b) = (b - 1) * (n / b) + n / b := by
        rw [show b = (b - 1) + 1 by omega, Nat.add_mul, Nat.one_mul]; simp
      omega
    conv => rhs; rw [e, Nat.add_mul_mod_self_left]

theorem sumD_zero {b : Nat} (hb : 2 ≤ b) (n : Nat) : sumD b n = 0 ↔ n = 0 := by
  constructor
  · refine digInd hb (P := fun n => sumD b n = 0 → n = 0) ?_ ?_ n
    · intro n h h0; rw [sumD_lt h] at h0; exact h0
    · intro n h ih h0
      rw [sumD_ge hb h] at h0
      have h1 : 1 ≤ n / b := (Nat.one_le_div_iff (by omega)).2 h
      have := ih (by omega)
      omega
  · intro h; subst h; exact sumD_lt (by omega)

/-- The root: sums of digits, until one digit is left. -/
def rootN (b n : Nat) : Nat := if _h : n < b ∨ b < 2 then n else rootN b (sumD b n)
  termination_by n
  decreasing_by exact sumD_less (by omega) (by omega)

theorem rootN_lt {b n : Nat} (h : n < b) : rootN b n = n := by rw [rootN, dif_pos (.inl h)]
theorem rootN_ge {b n : Nat} (hb : 2 ≤ b) (h : b ≤ n) : rootN b n = rootN b (sumD b n) := by rw [rootN, dif_neg (by omega)]

/-- In how many steps. -/
def stepsN (b n : Nat) : Nat := if _h : n < b ∨ b < 2 then 0 else 1 + stepsN b (sumD b n)
  termination_by n
  decreasing_by exact sumD_less (by omega) (by omega)

theorem stepsN_lt {b n : Nat} (h : n < b) : stepsN b n = 0 := by rw [stepsN, dif_pos (.inl h)]
theorem stepsN_ge {b n : Nat} (hb : 2 ≤ b) (h : b ≤ n) : stepsN b n = 1 + stepsN b (sumD b n) := by rw [stepsN, dif_neg (by omega)]

/-- Induction along sums of digits. -/
theorem rootInd {b : Nat} (hb : 2 ≤ b) {P : Nat → Prop} (h0 : ∀ n, n < b → P n) (h1 : ∀ n, b ≤ n → P (sumD b n) → P n) (n : Nat) : P n := by
  induction n using Nat.strongRecOn with
  | _ n ih =>
    by_cases h : n < b
    · exact h0 n h
    · exact h1 n (by omega) (ih _ (sumD_less hb (by omega)))

theorem rootN_digit {b : Nat} (hb : 2 ≤ b) (n : Nat) : rootN b n < b := by
  refine rootInd hb (P := fun n => rootN b n < b) ?_ ?_ n
  · intro n h; rw [rootN_lt h]; exact h
  · intro n h ih; rw [rootN_ge hb h]; exact ih

theorem rootN_mod {b : Nat} (hb : 2 ≤ b) (n : Nat) : rootN b n % (b - 1) = n % (b - 1) := by
  refine rootInd hb (P := fun n => rootN b n % (b - 1) = n % (b - 1)) ?_ ?_ n
  · intro n h; rw [rootN_lt h]
  · intro n h ih; rw [rootN_ge hb h, ih, sumD_mod hb]

theorem rootN_zero {b : Nat} (hb : 2 ≤ b) (n : Nat) : rootN b n = 0 ↔ n = 0 := by
  refine rootInd hb (P := fun n => rootN b n = 0 ↔ n = 0) ?_ ?_ n
  · intro n h; rw [rootN_lt h]
  · intro n h ih; rw [rootN_ge hb h, ih, sumD_zero hb]

/-- Of numbers below the base from 1 on only one leaves a rest by one less than the base. -/
theorem digit_mod_inj {b x y : Nat} (hb : 2 ≤ b) (hx : 1 ≤ x) (hx' : x < b) (hy : 1 ≤ y) (hy' : y < b) (h : x % (b - 1) = y % (b - 1)) : x = y := by
  have key : ∀ z, 1 ≤ z → z < b → z % (b - 1) = if z = b - 1 then 0 else z := fun z h1 h2 => by
    split
    · rename_i e; rw [e, Nat.mod_self]
    · exact Nat.mod_eq_of_lt (by omega)
  rw [key x hx hx', key y hy hy'] at h
  split at h <;> split at h <;> omega

/-- The root is told by what is left by one less than the base, and by whether the number is 0. -/
theorem rootN_unique {b n r : Nat} (hb : 2 ≤ b) (h1 : r < b) (h2 : r % (b - 1) = n % (b - 1)) (h3 : r = 0 ↔ n = 0) : rootN b n = r := by
  by_cases h0 : n = 0
  · rw [(rootN_zero hb n).2 h0, h3.2 h0]
  · have hr : 1 ≤ r := Nat.one_le_iff_ne_zero.2 fun h => h0 (h3.1 h)
    have hr' : 1 ≤ rootN b n := Nat.one_le_iff_ne_zero.2 fun h => h0 ((rootN_zero hb n).1 h)
    exact digit_mod_inj hb hr' (rootN_digit hb n) hr h1 (by rw [rootN_mod hb, h2])

theorem rootN_eq {b n : Nat} (hb : 2 ≤ b) (h : 1 ≤ n) : rootN b n = 1 + (n - 1) % (b - 1) := by
  have hlt := Nat.mod_lt (n - 1) (show 0 < b - 1 by omega)
  refine rootN_unique hb (by omega) ?_ (by omega)
  rw [Nat.add_mod, Nat.mod_mod, ← Nat.add_mod, show 1 + (n - 1) = n by omega]

theorem rootN_add {b : Nat} (hb : 2 ≤ b) (n m : Nat) : rootN b (n + m) = rootN b (rootN b n + rootN b m) := by
  symm
  refine rootN_unique hb (rootN_digit hb _) ?_ ?_
  · rw [rootN_mod hb, Nat.add_mod (rootN b n), rootN_mod hb, rootN_mod hb, ← Nat.add_mod]
  · rw [rootN_zero hb]
    have h1 := rootN_zero hb n
    have h2 := rootN_zero hb m
    omega

theorem rootN_mul {b : Nat} (hb : 2 ≤ b) (n m : Nat) : rootN b (rootN b n * rootN b m) = rootN b (n * m) := by
  refine (rootN_unique hb (rootN_digit hb _) ?_ ?_).symm
  · rw [rootN_mod hb (rootN b n * rootN b m), Nat.mul_mod (rootN b n), rootN_mod hb, rootN_mod hb, ← Nat.mul_mod]
  · rw [rootN_zero hb, Nat.mul_eq_zero, rootN_zero hb, rootN_zero hb, ← Nat.mul_eq_zero]

/-- Steps, by a bounded count (for the kernel). -/
def sumF (b : Nat) : Nat → Nat → Nat
  | 0, _ => 0
  | k + 1, n => if n < b then n else n % b + sumF b k (n / b)
theorem sumF_eq {b : Nat} (hb : 2 ≤ b) : ∀ (k n : Nat), n < 2 ^ k → sumF b k n = sumD b n := by
  intro k
  induction k with
  | zero => intro n h; have : n = 0 := by simpa using h
            subst this; rw [sumF, sumD_lt (by omega)]
  | succ k ih =>
    intro n h
    rw [sumF]
    split
    · rename_i h1; rw [sumD_lt h1]
    · rename_i h1
      have h2 : n / b ≤ n / 2 := Nat.div_le_div_left hb (by omega)
      rw [sumD_ge hb (by omega), ih _ (by rw [Nat.pow_succ] at h; omega)]
/-- Whether the steps are at most k. -/
def fewB (b : Nat) : Nat → Nat → Bool
  | 0, n => decide (n < b)
  | k + 1, n => decide (n < b) || fewB b k (sumF b 9 n)
theorem few_of {b : Nat} (hb : 2 ≤ b) : ∀ (k n : Nat), n < 512 → fewB b k n = true → stepsN b n ≤ k := by
  intro k
  induction k with
  | zero => intro n _ h; simp [fewB] at h; rw [stepsN_lt h]; exact Nat.le_refl _
  | succ k ih =>
    intro n hn h
    by_cases h1 : n < b
    · rw [stepsN_lt h1]; omega
    · simp only [fewB, h1, decide_false, Bool.false_or] at h
      rw [sumF_eq hb 9 n (by omega)] at h
      have := ih (sumD b n) (by have := sumD_le hb n; omega) h
      rw [stepsN_ge hb (by omega)]; omega

theorem sumD_len {b : Nat} (hb : 2 ≤ b) (n : Nat) : sumD b n ≤ (b - 1) * (digsR b n).length := by
  refine digInd hb (P := fun n => sumD b n ≤ (b - 1) * (digsR b n).length) ?_ ?_ n
  · intro n h; rw [sumD_lt h, len_lt h]; omega
  · intro n h ih
    have := Nat.mod_lt n (show 0 < b by omega)
    rw [sumD_ge hb h, len_ge hb h, Nat.mul_add]; omega

theorem few_all : (List.range 15).all (fun i => (List.range 451).all fun n => fewB (i + 2) 4 n) = true := by kernel_rfl

theorem steps_le {b n : Nat} (hb : 2 ≤ b) (hb' : b ≤ 16) (hn : n ≤ 1000000000) : stepsN b n ≤ 5 := by
  by_cases h : n < b
  · rw [stepsN_lt h]; omega
  · have h1 := sumD_len hb n
    have h2 := digsR_len30 hb hn
    have h3 : (b - 1) * (digsR b n).length ≤ 15 * 30 := Nat.mul_le_mul (by omega) h2
    have h4 := few_all
    rw [List.all_eq_true] at h4
    have h5 := h4 (b - 2) (List.mem_range.2 (by omega))
    rw [List.all_eq_true] at h5
    have h6 := h5 (sumD b n) (List.mem_range.2 (by omega))
    rw [show b - 2 + 2 = b by omega] at h6
    have := few_of hb 4 _ (by omega) h6
    rw [stepsN_ge hb (by omega)]; omega

end Pl
end Go.Proofs.YtgkkoegfmhgcjaaGreatDoor

namespace Go.Proofs.YtgkkoegfmhgcjaaGreatDoor
namespace Pl

/-! ### Lists without repetition -/

theorem nodup_subset_length {α : Type} [DecidableEq α] : ∀ (l m : List α), l.Nodup → (∀ x, x ∈ l → x ∈ m) → l.length ≤ m.length := by
  intro l
  induction l with
  | nil => intro m _ _; simp
  | cons a l ih =>
    intro m hn hs
    rw [List.nodup_cons] at hn
    have ha : a ∈ m := hs a (by simp)
    have h1 := ih (m.erase a) hn.2 fun x hx => (List.mem_erase_of_ne (fun e => hn.1 (by rw [← e]; exact hx))).2 (hs x (by simp [hx]))
    have h2 := List.length_erase_of_mem ha
    have h3 : 0 < m.length := List.length_pos_of_mem ha
    simp only [List.length_cons]; omega

theorem pigeon {l : List Nat} {N : Nat} (h : l.Nodup) (hb : ∀ x, x ∈ l → x < N) : l.length ≤ N := by
  have := nodup_subset_length l (List.range N) h fun x hx => List.mem_range.2 (hb x hx)
  simpa using this

/-! ### Taken again and again -/

/-- f taken i times. -/
def iter (f : Nat → Nat) : Nat → Nat → Nat
  | 0, x => x
  | i + 1, x => f (iter f i x)

theorem iter_succ' (f : Nat → Nat) (i x : Nat) : iter f (i + 1) x = iter f i (f x) := by
  induction i with
  | zero => rfl
  | succ i ih => show f (iter f (i + 1) x) = f (iter f i (f x)); rw [ih]

theorem iter_add (f : Nat → Nat) (i j x : Nat) : iter f (i + j) x = iter f i (iter f j x) := by
  induction i with
  | zero => rw [Nat.zero_add]; rfl
  | succ i ih => rw [Nat.succ_add]; show f (iter f (i + j) x) = f (iter f i (iter f j x)); rw [ih]

/-- It comes again to itself. -/
def Back (f : Nat → Nat) (x : Nat) : Prop := ∃ p, 1 ≤ p ∧ iter f p x = x

theorem iter_back_mul {f : Nat → Nat} {x p : Nat} (h : iter f p x = x) (k : Nat) : iter f (k * p) x = x := by
  induction k with
  | zero => rw [Nat.zero_mul]; rfl
  | succ k ih => rw [Nat.succ_mul, iter_add, h, ih]

theorem back_iter {f : Nat → Nat} {x : Nat} (h : Back f x) (i : Nat) : Back f (iter f i x) := by
  obtain ⟨p, hp, hx⟩ := h
  exact ⟨p, hp, by rw [← iter_add, Nat.add_comm, iter_add, hx]⟩

/-- From where one comes to, by going on, back to the start. -/
theorem back_return {f : Nat → Nat} {x : Nat} (h : Back f x) (i : Nat) : ∃ j, iter f j (iter f i x) = x := by
  obtain ⟨p, hp, hx⟩ := h
  refine ⟨(i + 1) * p - i, ?_⟩
  have h1 : i ≤ (i + 1) * p := by
    have := Nat.mul_le_mul_left (i + 1) hp
    omega
  rw [← iter_add, Nat.sub_add_cancel h1]
  exact iter_back_mul hx _

/-- x is in the round to which n leads. -/
def InRound (f : Nat → Nat) (n x : Nat) : Prop := Back f x ∧ ∃ i, iter f i n = x

theorem inRound_next (f : Nat → Nat) (n x : Nat) : InRound f n x ↔ InRound f (f n) x := by
  constructor
  · rintro ⟨hb, i, rfl⟩
    refine ⟨hb, ?_⟩
    cases i with
    | zero =>
      obtain ⟨p, hp, hx⟩ := hb
      obtain ⟨p', rfl⟩ : ∃ p', p = p' + 1 := ⟨p - 1, by omega⟩
      exact ⟨p', by rw [← iter_succ']; exact hx⟩
    | succ i => exact ⟨i, (iter_succ' f i n).symm⟩
  · rintro ⟨hb, i, hi⟩
    exact ⟨hb, i + 1, by rw [iter_succ']; exact hi⟩

/-! ### The round as a list -/

/-- From a row of numbers each the next of the one before: on, until one comes again. -/
def walkR (f : Nat → Nat) : Nat → List Nat → List Nat
  | 0, _ => []
  | k + 1, seen => if f (seen.getLastD 0) ∈ seen then seen.dropWhile (fun x => x != f (seen.getLastD 0)) else walkR f k (seen ++ [f (seen.getLastD 0)])

/-- A row of numbers from n on, each the next of the one before, no two equal. -/
structure Path (f : Nat → Nat) (n : Nat) (seen : List Nat) : Prop where
  pos : seen ≠ []
  at' : ∀ i, i < seen.length → seen[i]? = some (iter f i n)
  nodup : seen.Nodup

theorem Path.one (f : Nat → Nat) (n : Nat) : Path f n [n] := ⟨by simp, fun i hi => by
  have : i = 0 := by simpa using hi
  subst this; rfl, by simp⟩

theorem Path.last {f : Nat → Nat} {n : Nat} {seen : List Nat} (h : Path f n seen) : seen.getLastD 0 = iter f (seen.length - 1) n := by
  have h0 : 0 < seen.length := List.length_pos_iff.2 h.pos
  rw [List.getLastD_eq_getLast?, List.getLast?_eq_getElem?, h.at' (seen.length - 1) (by omega)]; rfl

theorem Path.next {f : Nat → Nat} {n : Nat} {seen : List Nat} (h : Path f n seen) : f (seen.getLastD 0) = iter f seen.length n := by
  have h0 : 0 < seen.length := List.length_pos_iff.2 h.pos
  rw [h.last]
  show iter f (seen.length - 1 + 1) n = _
  rw [Nat.sub_add_cancel h0]

theorem Path.push {f : Nat → Nat} {n : Nat} {seen : List Nat} (h : Path f n seen) (hn : f (seen.getLastD 0) ∉ seen) : Path f n (seen ++ [f (seen.getLastD 0)]) := by
  refine ⟨by simp, fun i hi => ?_, ?_⟩
  · by_cases hl : i < seen.length
    · rw [List.getElem?_append_left hl]; exact h.at' i hl
    · have : i = seen.length := by simp at hi; omega
      subst this
      rw [List.getElem?_append_right (Nat.le_refl _), Nat.sub_self]; exact congrArg some h.next
  · rw [List.nodup_append]
    refine ⟨h.nodup, by simp, fun a ha b hb => ?_⟩
    have : b = f (seen.getLastD 0) := by simpa using hb
    subst this
    intro e; subst e; exact hn ha

theorem Path.mem {f : Nat → Nat} {n : Nat} {seen : List Nat} (h : Path f n seen) {x : Nat} : x ∈ seen ↔ ∃ i, i < seen.length ∧ x = iter f i n := by
  rw [List.mem_iff_getElem?]
  constructor
  · rintro ⟨i, hi⟩
    have hlt := (List.getElem?_eq_some_iff.1 hi).1
    rw [h.at' i hlt] at hi
    exact ⟨i, hlt, (Option.some.inj hi).symm⟩
  · rintro ⟨i, hi, rfl⟩
    exact ⟨i, h.at' i hi⟩

theorem Path.inj {f : Nat → Nat} {n : Nat} {seen : List Nat} (h : Path f n seen) {i j : Nat} (hi : i < seen.length) (hj : j < seen.length) (he : iter f i n = iter f j n) : i = j := by
  have h1 := h.at' i hi
  have h2 := h.at' j hj
  rw [List.getElem?_eq_getElem hi] at h1
  rw [List.getElem?_eq_getElem hj] at h2
  have e : seen[i] = seen[j] := by rw [Option.some.inj h1, Option.some.inj h2, he]
  exact (List.getElem_inj h.nodup).1 e

theorem dropWhile_ne (x : Nat) : ∀ (l : List Nat) (k : Nat), l[k]? = some x → (∀ i, i < k → l[i]? ≠ some x) → l.dropWhile (fun y => y != x) = l.drop k := by
  intro l
  induction l with
  | nil => intro k h; simp at h
  | cons a l ih =>
    intro k hk hl
    cases k with
    | zero =>
      have : a = x := by simpa using hk
      subst this
      rw [List.dropWhile_cons_of_neg (by simp)]; rfl
    | succ k =>
      have ha : a ≠ x := fun e => hl 0 (by omega) (by simp [e])
      rw [List.dropWhile_cons_of_pos (by simpa using ha), List.drop_succ_cons]
      exact ih k (by simpa using hk) fun i hi h => hl (i + 1) (by omega) (by simpa using h)

/-- A round as a list: of a row of numbers that lies behind the start, the first one comes behind the last one. -/
structure IsRound (f : Nat → Nat) (n : Nat) (r : List Nat) : Prop where
  pos : r ≠ []
  from' : ∃ m, ∀ i, i < r.length → r[i]? = some (iter f (m + i) n)
  back : ∀ i, i < r.length → f (r[i]?.getD 0) = r[(i + 1) % r.length]?.getD 0
  nodup : r.Nodup

/-- Where one comes again, the row from there on is the round. -/
theorem Path.round {f : Nat → Nat} {n : Nat} {seen : List Nat} (h : Path f n seen) (hm : f (seen.getLastD 0) ∈ seen) : IsRound f n (seen.dropWhile fun x => x != f (seen.getLastD 0)) := by
  obtain ⟨k, hk, hx⟩ := h.mem.1 hm
  have hl : 0 < seen.length := List.length_pos_iff.2 h.pos
  have e : seen.dropWhile (fun x => x != f (seen.getLastD 0)) = seen.drop k := by
    refine dropWhile_ne _ seen k (by rw [h.at' k hk, hx]) fun i hi hs => ?_
    rw [h.at' i (by omega)] at hs
    have := h.inj (show i < seen.length by omega) hk (by rw [Option.some.inj hs, hx])
    omega
  rw [e]
  have hat : ∀ i, i < (seen.drop k).length → (seen.drop k)[i]? = some (iter f (k + i) n) := fun i hi => by
    rw [List.length_drop] at hi
    rw [List.getElem?_drop]; exact h.at' (k + i) (by omega)
  refine ⟨?_, ⟨k, hat⟩, fun i hi => ?_, ?_⟩
  · intro e0
    have := congrArg List.length e0
    rw [List.length_drop] at this; simp at this; omega
  · rw [hat i hi]
    rw [List.length_drop] at hi
    by_cases hlast : i + 1 = seen.length - k
    · rw [List.length_drop, hlast, Nat.mod_self, hat 0 (by rw [List.length_drop]; omega)]
      show f (iter f (k + i) n) = iter f (k + 0) n
      rw [Nat.add_zero, ← hx, h.next]
      show iter f (k + i + 1) n = _
      congr 1; omega
    · rw [List.length_drop, Nat.mod_eq_of_lt (by omega), hat (i + 1) (by rw [List.length_drop]; omega)]; rfl
  · exact List.Nodup.sublist (List.drop_sublist k seen) h.nodup

theorem walkR_round {f : Nat → Nat} {n N : Nat} (hf : ∀ x, x < N → f x < N) : ∀ (k : Nat) (seen : List Nat), Path f n seen → N + 1 ≤ k + seen.length → (∀ x, x ∈ seen → x < N) → IsRound f n (walkR f k seen) := by
  intro k
  induction k with
  | zero =>
    intro seen h hk hb
    have := pigeon h.nodup hb
    omega
  | succ k ih =>
    intro seen h hk hb
    rw [walkR]
    split
    · rename_i hm; exact h.round hm
    · rename_i hm
      refine ih _ (h.push hm) (by simp; omega) fun x hx => ?_
      rcases List.mem_append.1 hx with hx | hx
      · exact hb x hx
      · have : x = f (seen.getLastD 0) := by simpa using hx
        subst this
        have hl : 0 < seen.length := List.length_pos_iff.2 h.pos
        have hmem : seen.getLastD 0 ∈ seen := h.mem.2 ⟨seen.length - 1, by omega, h.last⟩
        exact hf _ (hb _ hmem)

theorem IsRound.mem {f : Nat → Nat} {n : Nat} {r : List Nat} (h : IsRound f n r) {x : Nat} : x ∈ r ↔ InRound f n x := by
  have hl : 0 < r.length := List.length_pos_iff.2 h.pos
  obtain ⟨m, hm⟩ := h.from'
  -- from each place one comes to each later one
  have hgo : ∀ j i, i < r.length → iter f j (r[i]?.getD 0) = r[(i + j) % r.length]?.getD 0 := by
    intro j
    induction j with
    | zero => intro i hi; rw [Nat.add_zero, Nat.mod_eq_of_lt hi]; rfl
    | succ j ih =>
      intro i hi
      show f (iter f j _) = _
      rw [ih i hi, h.back _ (Nat.mod_lt _ hl)]
      congr 2
      rw [Nat.mod_add_mod, Nat.add_assoc]
  have hback : ∀ i, i < r.length → Back f (r[i]?.getD 0) := fun i hi => by
    refine ⟨r.length, hl, ?_⟩
    rw [hgo r.length i hi, Nat.add_mod_right, Nat.mod_eq_of_lt hi]
  constructor
  · intro hx
    obtain ⟨i, hi⟩ := List.mem_iff_getElem?.1 hx
    have hlt := (List.getElem?_eq_some_iff.1 hi).1
    have e : r[i]?.getD 0 = x := by rw [hi]; rfl
    refine ⟨by rw [← e]; exact hback i hlt, m + i, ?_⟩
    rw [hm i hlt] at hi
    exact Option.some.inj hi
  · rintro ⟨hb, i, rfl⟩
    -- go on from n: behind m steps it is in the row
    have h0 := hm 0 hl
    have hrow : ∀ j, iter f (m + j) n ∈ r := fun j => by
      have h1 : iter f (j + m) n = iter f j (r[0]?.getD 0) := by rw [iter_add, h0]; rfl
      rw [Nat.add_comm, h1, hgo j 0 hl]
      have hlt := Nat.mod_lt (0 + j) hl
      rw [List.getElem?_eq_getElem hlt]
      exact List.getElem_mem _
    obtain ⟨p, hp, hx⟩ := hb
    have h2 := iter_back_mul hx m
    rw [← h2, ← iter_add]
    have h3 : m ≤ m * p := Nat.le_mul_of_pos_right _ hp
    have h4 := hrow (m * p + i - m)
    rwa [show m + (m * p + i - m) = m * p + i by omega] at h4

/-- Two rounds of the same numbers are equally long. -/
theorem round_length {f : Nat → Nat} {n n' : Nat} {r r' : List Nat} (h : IsRound f n r) (h' : IsRound f n' r') (hs : ∀ x, InRound f n x ↔ InRound f n' x) : r.length = r'.length := by
  have h1 := nodup_subset_length r r' h.nodup fun x hx => h'.mem.2 ((hs x).1 (h.mem.1 hx))
  have h2 := nodup_subset_length r' r h'.nodup fun x hx => h.mem.2 ((hs x).2 (h'.mem.1 hx))
  omega

/-- What is in a round is at most T, if below T what comes next is at most T, and from T on less. -/
theorem inRound_le {f : Nat → Nat} {n x T : Nat} (hlo : ∀ y, y < T → f y ≤ T) (hhi : ∀ y, T ≤ y → f y < y) (h : InRound f n x) : x ≤ T := by
  obtain ⟨⟨p, hp, hx⟩, _⟩ := h
  -- somewhere on the way back it doesn't fall
  have hex : ∃ i, i < p ∧ iter f i x ≤ iter f (i + 1) x := by
    refine Classical.byContradiction fun hno => ?_
    have hfall : ∀ i, i ≤ p → iter f i x + i ≤ x := by
      intro i
      induction i with
      | zero => intro _; exact Nat.le_refl _
      | succ i ih =>
        intro hi
        have h1 := ih (by omega)
        have h2 : ¬ iter f i x ≤ iter f (i + 1) x := fun h => hno ⟨i, by omega, h⟩
        omega
    have := hfall p (Nat.le_refl _)
    rw [hx] at this; omega
  obtain ⟨i, hi, hle⟩ := hex
  have hlt : iter f i x < T := by
    refine Classical.byContradiction fun hge => ?_
    have h1 := hhi (iter f i x) (by omega)
    have h2 : iter f (i + 1) x = f (iter f i x) := rfl
    omega
  have hstay : ∀ j, 1 ≤ j → iter f (j + i) x ≤ T := by
    intro j
    induction j with
    | zero => intro h; omega
    | succ j ih =>
      intro _
      rw [Nat.succ_add]
      show f (iter f (j + i) x) ≤ T
      by_cases hj : j = 0
      · subst hj; rw [Nat.zero_add]; exact hlo _ hlt
      · have h1 := ih (by omega)
        by_cases h2 : iter f (j + i) x < T
        · exact hlo _ h2
        · have := hhi (iter f (j + i) x) (by omega); omega
  have := hstay (p - i) (by omega)
  rwa [Nat.sub_add_cancel (by omega), hx] at this

end Pl
end Go.Proofs.YtgkkoegfmhgcjaaGreatDoor

namespace Go.Proofs.YtgkkoegfmhgcjaaGreatDoor
namespace Pl

/-- The sum of all digits, each taken t times times itself. -/
def nextN (t b n : Nat) : Nat := if _h : n < b ∨ b < 2 then n ^ t else (n % b) ^ t + nextN t b (n / b)
  termination_by n
  decreasing_by exact Nat.div_lt_self (by omega) (by omega)

theorem nextN_lt {t b n : Nat} (h : n < b) : nextN t b n = n ^ t := by rw [nextN, dif_pos (.inl h)]
theorem nextN_ge {t b n : Nat} (hb : 2 ≤ b) (h : b ≤ n) : nextN t b n = (n % b) ^ t + nextN t b (n / b) := by rw [nextN, dif_neg (by omega)]
theorem nextN_zero {t b : Nat} (ht : 1 ≤ t) (hb : 2 ≤ b) : nextN t b 0 = 0 := by rw [nextN_lt (by omega)]; exact Nat.zero_pow (by omega)
theorem nextN_step {t b : Nat} (ht : 1 ≤ t) (hb : 2 ≤ b) (n : Nat) : nextN t b n = (n % b) ^ t + nextN t b (n / b) := by
  by_cases h : n < b
  · rw [Nat.div_eq_of_lt h, Nat.mod_eq_of_lt h, nextN_lt h, nextN_zero ht hb]; omega
  · exact nextN_ge hb (by omega)

theorem nextN_one {b : Nat} (hb : 2 ≤ b) (n : Nat) : nextN 1 b n = sumD b n := by
  refine digInd hb (P := fun n => nextN 1 b n = sumD b n) ?_ ?_ n
  · intro n h; rw [nextN_lt h, sumD_lt h, Nat.pow_one]
  · intro n h ih; rw [nextN_ge hb h, sumD_ge hb h, ih, Nat.pow_one]

theorem nextN_behind {t b : Nat} (ht : 1 ≤ t) (hb : 2 ≤ b) (n : Nat) : ∀ (L m : Nat), m < b ^ L → nextN t b (n * b ^ L + m) = nextN t b n + nextN t b m := by
  intro L
  induction L with
  | zero => intro m h; have : m = 0 := by simpa using h
            subst this; rw [nextN_zero ht hb]; simp
  | succ L ih =>
    intro m h
    have e1 : (n * b ^ (L + 1) + m) % b = m % b := by
      rw [Nat.pow_succ, ← Nat.mul_assoc, Nat.add_comm, Nat.add_mul_mod_self_right]
    have e2 : (n * b ^ (L + 1) + m) / b = n * b ^ L + m / b := by
      rw [Nat.pow_succ, ← Nat.mul_assoc, Nat.add_comm, Nat.add_mul_div_right _ _ (by omega), Nat.add_comm]
    have h3 : m / b < b ^ L := by
      rw [Nat.div_lt_iff_lt_mul (by omega), ← Nat.pow_succ]; exact h
    rw [nextN_step ht hb (n * b ^ (L + 1) + m), e1, e2, ih _ h3, nextN_step ht hb m]; omega

theorem nextN_nought {t b : Nat} (ht : 1 ≤ t) (hb : 2 ≤ b) (n : Nat) : nextN t b (n * b) = nextN t b n := by
  have := nextN_behind ht hb n 1 0 (by rw [Nat.pow_one]; omega)
  rw [nextN_zero ht hb, Nat.pow_one] at this
  simpa using this

theorem nextN_bound {t b : Nat} (hb : 2 ≤ b) (n : Nat) : nextN t b n ≤ (digsR b n).length * (b - 1) ^ t := by
  refine digInd hb (P := fun n => nextN t b n ≤ (digsR b n).length * (b - 1) ^ t) ?_ ?_ n
  · intro n h
    rw [nextN_lt h, len_lt h, Nat.one_mul]
    exact Nat.pow_le_pow_left (by omega) t
  · intro n h ih
    have h1 := Nat.mod_lt n (show 0 < b by omega)
    have h2 : (n % b) ^ t ≤ (b - 1) ^ t := Nat.pow_le_pow_left (by omega) t
    rw [nextN_ge hb h, len_ge hb h, Nat.add_mul, Nat.one_mul]; omega

/-- Below b to the L there are at most L digits (L from 1 on). -/
theorem len_le {b : Nat} (hb : 2 ≤ b) : ∀ (L n : Nat), n < b ^ (L + 1) → (digsR b n).length ≤ L + 1 := by
  intro L
  induction L with
  | zero => intro n h; rw [len_lt (by simpa using h)]; omega
  | succ L ih =>
    intro n h
    by_cases hn : n < b
    · rw [len_lt hn]; omega
    · rw [len_ge hb (by omega)]
      have := ih (n / b) (by rw [Nat.div_lt_iff_lt_mul (by omega), ← Nat.pow_succ]; exact h)
      omega

/-- A length from which on numbers become smaller. -/
structure Stay (t b L : Nat) : Prop where
  pos : 1 ≤ L
  less : L * (b - 1) ^ t < b ^ L - 1

theorem nextN_small {t b L n : Nat} (hb : 2 ≤ b) (h : Stay t b L) (hn : n < b ^ L) : nextN t b n ≤ L * (b - 1) ^ t := by
  obtain ⟨K, rfl⟩ : ∃ K, L = K + 1 := ⟨L - 1, by have := h.pos; omega⟩
  have h1 := nextN_bound (t := t) hb n
  have h2 := len_le hb K n hn
  exact Nat.le_trans h1 (Nat.mul_le_mul_right _ h2)

/-- Great numbers become smaller. -/
theorem nextN_less {t b L : Nat} (ht : 1 ≤ t) (hb : 2 ≤ b) (h : Stay t b L) (n : Nat) : b ^ L - 1 ≤ n → nextN t b n < n := by
  induction n using Nat.strongRecOn with
  | _ n ih =>
    intro hn
    have hP : 1 ≤ b ^ L := Nat.one_le_pow _ _ (by omega)
    have hl := h.less
    have hpos := h.pos
    have h1 : (b - 1) ^ t ≤ L * (b - 1) ^ t := Nat.le_mul_of_pos_left _ (by omega)
    by_cases hlow : n < b ^ L
    · have := nextN_small hb h hlow; omega
    · -- n is q behind which r stands
      have hbP : b ≤ b ^ L := by
        have := Nat.pow_le_pow_right (show 0 < b by omega) hpos
        rwa [Nat.pow_one] at this
      have hq1 : 1 ≤ n / b ^ L := (Nat.one_le_div_iff (by omega)).2 (by omega)
      have hr : n % b ^ L < b ^ L := Nat.mod_lt _ (by omega)
      have he : n / b ^ L * b ^ L + n % b ^ L = n := by rw [Nat.mul_comm]; exact Nat.div_add_mod _ _
      have hnx := nextN_behind ht hb (n / b ^ L) L (n % b ^ L) hr
      rw [he] at hnx
      have hrs := nextN_small hb h hr
      have hqn : n / b ^ L < n := Nat.div_lt_self (by omega) (by omega)
      have hqx : nextN t b (n / b ^ L) ≤ (n / b ^ L - 1) * b ^ L + 1 := by
        by_cases hq : n / b ^ L < b ^ L
        · by_cases h2 : n / b ^ L = 1
          · rw [h2, nextN_lt (by omega), Nat.one_pow]; omega
          · have h3 := nextN_small hb h hq
            have h4 : b ^ L ≤ (n / b ^ L - 1) * b ^ L := Nat.le_mul_of_pos_left _ (by omega)
            omega
        · have h3 := ih _ hqn (by omega)
          have h4 : n / b ^ L - 1 ≤ (n / b ^ L - 1) * b ^ L := Nat.le_mul_of_pos_right _ (by omega)
          omega
      have h5 : (n / b ^ L - 1) * b ^ L + b ^ L = n / b ^ L * b ^ L := by
        have : n / b ^ L = (n / b ^ L - 1) + 1 := by omega
        conv => rhs; rw [this, Nat.add_mul, Nat.one_mul]
      generalize n / b ^ L = Q at *
      generalize n % b ^ L = R at *
      omega

/-- The search for the fewest digits. -/
def stayFrom (t b : Nat) : Nat → Nat → Nat
  | 0, L => L
  | k + 1, L => if b ^ L - 1 ≤ L * (b - 1) ^ t then stayFrom t b k (L + 1) else L
def stayL (t b : Nat) : Nat := stayFrom t b 12 1

theorem stay_all : (List.range 5).all (fun t => (List.range 15).all fun b => decide (1 ≤ stayL (t + 1) (b + 2) ∧ stayL (t + 1) (b + 2) ≤ 12 ∧ stayL (t + 1) (b + 2) * (b + 1) ^ (t + 1) < (b + 2) ^ stayL (t + 1) (b + 2) - 1 ∧ (b + 2) ^ stayL (t + 1) (b + 2) ≤ 1000000000 ∧
    ((List.range (stayL (t + 1) (b + 2))).all fun L => decide (L = 0 ∨ (b + 2) ^ L - 1 ≤ L * (b + 1) ^ (t + 1))) = true)) = true := by kernel_rfl

theorem stay_spec {t b : Nat} (h1 : 1 ≤ t) (h2 : t ≤ 5) (h3 : 2 ≤ b) (h4 : b ≤ 16) :
    Stay t b (stayL t b) ∧ b ^ stayL t b ≤ 1000000000 ∧ stayL t b ≤ 12 ∧ ∀ L, 1 ≤ L → L < stayL t b → b ^ L - 1 ≤ L * (b - 1) ^ t := by
  have h := stay_all
  rw [List.all_eq_true] at h
  have h5 := h (t - 1) (List.mem_range.2 (by omega))
  rw [List.all_eq_true] at h5
  have h6 := h5 (b - 2) (List.mem_range.2 (by omega))
  rw [show t - 1 + 1 = t by omega, show b - 2 + 2 = b by omega, show b - 2 + 1 = b - 1 by omega, decide_eq_true_eq] at h6
  obtain ⟨g1, g2, g3, g4, g5⟩ := h6
  refine ⟨⟨g1, g3⟩, g4, g2, fun L hL1 hL2 => ?_⟩
  rw [List.all_eq_true] at g5
  have := g5 L (List.mem_range.2 hL2)
  rw [decide_eq_true_eq] at this
  omega

end Pl
end Go.Proofs.YtgkkoegfmhgcjaaGreatDoor

namespace Go.Proofs.YtgkkoegfmhgcjaaGreatDoor
namespace Pl

theorem least_nat {P : Nat → Prop} (h : ∃ n, P n) : ∃ n, P n ∧ ∀ m, m < n → ¬ P m := by
  obtain ⟨n, hn⟩ := h
  induction n using Nat.strongRecOn with
  | _ n ih =>
    by_cases hx : ∃ m, m < n ∧ P m
    · obtain ⟨m, hm, hp⟩ := hx; exact ih m hm hp
    · exact ⟨n, hn, fun m hm hp => hx ⟨m, hm, hp⟩⟩

/-- n leads into a round: mu steps ahead of it, p numbers in it. -/
structure Rho (f : Nat → Nat) (n mu p : Nat) : Prop where
  pos : 1 ≤ p
  back : iter f (mu + p) n = iter f mu n
  inj : ∀ i j, i < j → j < mu + p → iter f i n ≠ iter f j n

theorem Rho.unique {f : Nat → Nat} {n mu p mu' p' : Nat} (h : Rho f n mu p) (h' : Rho f n mu' p') : mu = mu' ∧ p = p' := by
  have h1 := h.pos
  have h1' := h'.pos
  have e : mu + p = mu' + p' := by
    rcases Nat.lt_trichotomy (mu + p) (mu' + p') with hlt | he | hlt
    · exact absurd h.back.symm (h'.inj mu (mu + p) (by omega) hlt)
    · exact he
    · exact absurd h'.back.symm (h.inj mu' (mu' + p') (by omega) hlt)
  have e2 : iter f mu n = iter f mu' n := by rw [← h.back, e, h'.back]
  rcases Nat.lt_trichotomy mu mu' with hlt | he | hlt
  · exact absurd e2 (h.inj mu mu' hlt (by omega))
  · exact ⟨he, by omega⟩
  · exact absurd e2.symm (h.inj mu' mu hlt (by omega))

theorem nodup_range_map (g : Nat → Nat) : ∀ m, (∀ i j, i < j → j < m → g i ≠ g j) → ((List.range m).map g).Nodup := by
  intro m
  induction m with
  | zero => intro _; simp
  | succ m ih =>
    intro h
    rw [List.range_succ, List.map_append, List.nodup_append]
    refine ⟨ih fun i j hij hj => h i j hij (by omega), by simp, fun a ha b hb => ?_⟩
    obtain ⟨i, hi, rfl⟩ := List.mem_map.1 ha
    have hb : b = g m := by simpa using hb
    subst hb
    exact h i m (List.mem_range.1 hi) (by omega)

theorem rho_exists {f : Nat → Nat} {n N : Nat} (hb : ∀ i, iter f i n < N) : ∃ mu p, Rho f n mu p ∧ mu + p ≤ N := by
  have hex : ∃ j, ∃ i, i < j ∧ iter f i n = iter f j n := by
    refine Classical.byContradiction fun hno => ?_
    have hnd := nodup_range_map (fun i => iter f i n) (N + 1) fun i j hij _ he => hno ⟨j, i, hij, he⟩
    have := pigeon (N := N) hnd fun x hx => by
      obtain ⟨i, _, rfl⟩ := List.mem_map.1 hx; exact hb i
    simp at this; omega
  obtain ⟨j, ⟨i, hij, he⟩, hmin⟩ := least_nat hex
  have hinj : ∀ a c, a < c → c < j → iter f a n ≠ iter f c n := fun a c hac hc h => hmin c hc ⟨a, hac, h⟩
  refine ⟨i, j - i, ⟨by omega, ?_, ?_⟩, ?_⟩
  · rw [show i + (j - i) = j by omega]; exact he.symm
  · rw [show i + (j - i) = j by omega]; exact hinj
  · have hnd := nodup_range_map (fun i => iter f i n) j hinj
    have := pigeon (N := N) hnd fun x hx => by
      obtain ⟨i, _, rfl⟩ := List.mem_map.1 hx; exact hb i
    simp at this; omega

/-- The first m numbers of a way. -/
def pre (f : Nat → Nat) (n m : Nat) : List Nat := (List.range m).map fun i => iter f i n
/-- p numbers of a way from mu on. -/
def orb (f : Nat → Nat) (n mu p : Nat) : List Nat := (List.range p).map fun i => iter f (mu + i) n

theorem pre_len (f : Nat → Nat) (n m : Nat) : (pre f n m).length = m := by simp [pre]
theorem orb_len (f : Nat → Nat) (n mu p : Nat) : (orb f n mu p).length = p := by simp [orb]
theorem pre_get {f : Nat → Nat} {n m i : Nat} (h : i < m) : (pre f n m)[i]? = some (iter f i n) := by simp [pre, h]
theorem orb_get {f : Nat → Nat} {n mu p i : Nat} (h : i < p) : (orb f n mu p)[i]? = some (iter f (mu + i) n) := by simp [orb, h]
theorem pre_succ (f : Nat → Nat) (n m : Nat) : pre f n (m + 1) = pre f n m ++ [iter f m n] := by simp [pre, List.range_succ]
theorem orb_succ (f : Nat → Nat) (n mu p : Nat) : orb f n mu (p + 1) = orb f n mu p ++ [iter f (mu + p) n] := by simp [orb, List.range_succ]
theorem pre_one (f : Nat → Nat) (n : Nat) : pre f n 1 = [n] := rfl
theorem pre_drop (f : Nat → Nat) (n mu p : Nat) : (pre f n (mu + p)).drop mu = orb f n mu p := by
  apply List.ext_getElem?
  intro i
  rw [List.getElem?_drop]
  by_cases h : i < p
  · rw [pre_get (by omega), orb_get h]
  · rw [List.getElem?_eq_none (by rw [pre_len]; omega), List.getElem?_eq_none (by rw [orb_len]; omega)]
theorem mem_orb {f : Nat → Nat} {n mu p x : Nat} : x ∈ orb f n mu p ↔ ∃ i, i < p ∧ iter f (mu + i) n = x := by
  simp [orb, List.mem_range]
theorem mem_pre {f : Nat → Nat} {n m x : Nat} : x ∈ pre f n m ↔ ∃ i, i < m ∧ iter f i n = x := by
  simp [pre, List.mem_range]

theorem Rho.isRound {f : Nat → Nat} {n mu p : Nat} (h : Rho f n mu p) : IsRound f n (orb f n mu p) := by
  have hp := h.pos
  refine ⟨?_, ⟨mu, fun i hi => ?_⟩, fun i hi => ?_, ?_⟩
  · intro e
    have := congrArg List.length e
    rw [orb_len] at this; simp at this; omega
  · rw [orb_len] at hi; exact orb_get hi
  · rw [orb_len] at hi ⊢
    rw [orb_get hi]
    show f (iter f (mu + i) n) = _
    by_cases hl : i + 1 = p
    · rw [hl, Nat.mod_self, orb_get (by omega)]
      show iter f (mu + i + 1) n = iter f (mu + 0) n
      rw [Nat.add_assoc, hl, h.back]; rfl
    · rw [Nat.mod_eq_of_lt (by omega), orb_get (by omega)]; rfl
  · exact nodup_range_map _ p fun i j hij hj => h.inj (mu + i) (mu + j) (by omega) (by omega)

/-- The round into which n leads, found by going on until one comes again. -/
def roundL (f : Nat → Nat) (n : Nat) : List Nat := walkR f 30000000 [n]

theorem pre_path {f : Nat → Nat} {n m : Nat} (hm : 1 ≤ m) (h : ∀ i j, i < j → j < m → iter f i n ≠ iter f j n) : Path f n (pre f n m) := by
  refine ⟨?_, fun i hi => ?_, nodup_range_map _ m h⟩
  · intro e
    have := congrArg List.length e
    rw [pre_len] at this; simp at this; omega
  · rw [pre_len] at hi; exact pre_get hi

theorem walkR_orb {f : Nat → Nat} {n mu p : Nat} (h : Rho f n mu p) : ∀ (k m : Nat), 1 ≤ m → m ≤ mu + p → mu + p < k + m → walkR f k (pre f n m) = orb f n mu p := by
  intro k
  induction k with
  | zero => intro m _ h2 h3; omega
  | succ k ih =>
    intro m h1 h2 h3
    have hP := pre_path h1 (fun i j hij hj => h.inj i j hij (by omega))
    have hn := hP.next
    rw [pre_len] at hn
    rw [walkR, hn]
    by_cases hm : m = mu + p
    · have hmem : iter f m n ∈ pre f n m := mem_pre.2 ⟨mu, by have := h.pos; omega, by rw [hm, h.back]⟩
      rw [if_pos hmem, ← pre_drop, ← hm]
      refine dropWhile_ne _ _ mu (by rw [pre_get (by have := h.pos; omega), hm, h.back]) fun i hi hs => ?_
      rw [pre_get (by omega), hm, h.back] at hs
      exact h.inj i mu hi (by have := h.pos; omega) (Option.some.inj hs)
    · have hmem : iter f m n ∉ pre f n m := fun hx => by
        obtain ⟨i, hi, he⟩ := mem_pre.1 hx
        exact h.inj i m hi (by omega) he
      rw [if_neg hmem, ← pre_succ]
      exact ih (m + 1) (by omega) (by omega) (by omega)

theorem roundL_eq {f : Nat → Nat} {n mu p : Nat} (h : Rho f n mu p) (hb : mu + p ≤ 29999999) : roundL f n = orb f n mu p := by
  have := walkR_orb h 30000000 1 (Nat.le_refl _) (by have := h.pos; omega) (by omega)
  rwa [pre_one] at this

/-! ### Rounds of powers -/

/-- A rule that is told: a number of times and a base. -/
structure RuleOk (t b : Nat) : Prop where
  t1 : 1 ≤ t
  t2 : t ≤ 5
  b1 : 2 ≤ b
  b2 : b ≤ 16

theorem next_le {t b x : Nat} (h : RuleOk t b) (hx : x ≤ 1000000000) : nextN t b x ≤ 22781250 := by
  have h1 := nextN_bound (t := t) h.b1 x
  have h2 := digsR_len30 h.b1 hx
  have h3 : (b - 1) ^ t ≤ 15 ^ t := Nat.pow_le_pow_left (by have := h.b2; omega) t
  have h4 : (15 : Nat) ^ t ≤ 15 ^ 5 := Nat.pow_le_pow_right (by omega) h.t2
  have h5 : (digsR b x).length * (b - 1) ^ t ≤ 30 * 759375 := Nat.mul_le_mul h2 (by omega)
  omega

theorem iter_next_le {t b n : Nat} (h : RuleOk t b) (hn : n ≤ 1000000000) : ∀ i, iter (nextN t b) i n ≤ 1000000000 ∧ (1 ≤ i → iter (nextN t b) i n ≤ 22781250) := by
  intro i
  induction i with
  | zero => exact ⟨hn, fun h => by omega⟩
  | succ i ih =>
    have := next_le h ih.1
    exact ⟨by show nextN t b _ ≤ _; omega, fun _ => this⟩

theorem next_rho {t b n : Nat} (h : RuleOk t b) (hn : n ≤ 1000000000) : ∃ mu p, Rho (nextN t b) n mu p ∧ mu + p ≤ 22781252 := by
  obtain ⟨mu, p, hr, hb⟩ := rho_exists (f := nextN t b) (n := nextN t b n) (N := 22781251) (fun i => by
    rw [← iter_succ']
    have := (iter_next_le h hn (i + 1)).2 (by omega)
    omega)
  -- one step earlier
  obtain ⟨mu', p', hr', _⟩ := rho_exists (f := nextN t b) (n := n) (N := 1000000001) (fun i => by
    have := (iter_next_le h hn i).1; omega)
  refine ⟨mu', p', hr', ?_⟩
  refine Classical.byContradiction fun hno => ?_
  have hnd := nodup_range_map (fun i => iter (nextN t b) (i + 1) n) (mu' + p' - 1) fun i j hij hj => hr'.inj (i + 1) (j + 1) (by omega) (by omega)
  have := pigeon (N := 22781251) hnd fun x hx => by
    obtain ⟨i, _, rfl⟩ := List.mem_map.1 hx
    have := (iter_next_le h hn (i + 1)).2 (by omega)
    omega
  simp at this; omega

theorem next_round {t b n : Nat} (h : RuleOk t b) (hn : n ≤ 1000000000) : IsRound (nextN t b) n (roundL (nextN t b) n) ∧ (roundL (nextN t b) n).length ≤ 22781252 ∧ ∀ x ∈ roundL (nextN t b) n, x ≤ 22781250 := by
  obtain ⟨mu, p, hr, hb⟩ := next_rho h hn
  rw [roundL_eq hr (by omega)]
  refine ⟨hr.isRound, by rw [orb_len]; omega, fun x hx => ?_⟩
  have hm := hr.isRound.mem.1 hx
  obtain ⟨⟨q, hq, hx'⟩, i, rfl⟩ := hm
  rw [← hx', ← iter_add]
  exact (iter_next_le h hn (q + i)).2 (by omega)

/-- Rounds of which the same numbers are: the round of what comes next. -/
theorem round_next_mem {f : Nat → Nat} {n : Nat} {r r' : List Nat} (h : IsRound f n r) (h' : IsRound f (f n) r') (x : Nat) : x ∈ r ↔ x ∈ r' := by
  rw [h.mem, h'.mem]; exact inRound_next f n x

theorem round_next_len {f : Nat → Nat} {n : Nat} {r r' : List Nat} (h : IsRound f n r) (h' : IsRound f (f n) r') : r.length = r'.length :=
  round_length h h' fun x => inRound_next f n x

/-- None in the round is more than the greatest stay. -/
theorem next_round_le {t b n x : Nat} (h : RuleOk t b) (hx : InRound (nextN t b) n x) : x ≤ b ^ stayL t b - 1 := by
  obtain ⟨hs, h9, _, _⟩ := stay_spec h.t1 h.t2 h.b1 h.b2
  refine inRound_le (T := b ^ stayL t b - 1) (fun y hy => ?_) (fun y hy => nextN_less h.t1 h.b1 hs y hy) hx
  have h1 := nextN_small h.b1 hs (n := y) (by omega)
  have h2 := hs.less
  omega

/-! ### Happy numbers -/

theorem nextN_self {t b : Nat} (hb : 2 ≤ b) : nextN t b 1 = 1 := by rw [nextN_lt (by omega), Nat.one_pow]

theorem back_one {f : Nat → Nat} (h1 : f 1 = 1) : Back f 1 := ⟨1, Nat.le_refl _, h1⟩

/-- The round is 1 alone exactly if 1 is in it. -/
theorem round_one {f : Nat → Nat} {n : Nat} {r : List Nat} (h1 : f 1 = 1) (h : IsRound f n r) : r = [1] ↔ InRound f n 1 := by
  constructor
  · intro e; rw [← h.mem, e]; simp
  · intro hi
    have hm := h.mem.2 hi
    -- each in the round is 1
    have hall : ∀ x ∈ r, x = 1 := fun x hx => by
      obtain ⟨hb, i, hi'⟩ := h.mem.1 hx
      obtain ⟨_, j, hj⟩ := hi
      -- iter (i + j) n is both behind x and behind 1
      have stay : ∀ k, iter f k 1 = 1 := by
        intro k; induction k with
        | zero => rfl
        | succ k ih => show f (iter f k 1) = 1; rw [ih, h1]
      have e1 : iter f j x = 1 := by
        rw [← hi', ← iter_add, Nat.add_comm, iter_add, hj, stay]
      obtain ⟨k, hk⟩ := back_return hb j
      rw [e1, stay] at hk
      exact hk.symm
    match r, h.pos, hall, h.nodup with
    | [], h0, _, _ => exact absurd rfl h0
    | [a], _, ha, _ => rw [ha a (by simp)]
    | a :: c :: l, _, ha, hn =>
      have e1 := ha a (by simp)
      have e2 := ha c (by simp)
      subst e1; subst e2
      simp at hn

end Pl
end Go.Proofs.YtgkkoegfmhgcjaaGreatDoor

namespace Go.Proofs.YtgkkoegfmhgcjaaGreatDoor
namespace Pl

theorem Rho.on {f : Nat → Nat} {n mu p : Nat} (h : Rho f n mu p) (i : Nat) : iter f (mu + i + p) n = iter f (mu + i) n := by
  rw [show mu + i + p = i + (mu + p) by omega, iter_add, h.back, ← iter_add, Nat.add_comm i mu]

theorem Rho.times {f : Nat → Nat} {n mu p : Nat} (h : Rho f n mu p) (i : Nat) : ∀ k, iter f (mu + i + k * p) n = iter f (mu + i) n := by
  intro k
  induction k with
  | zero => rw [Nat.zero_mul]; rfl
  | succ k ih =>
    have := h.on (i + k * p)
    rw [show mu + i + (k + 1) * p = mu + (i + k * p) + p by rw [Nat.add_mul]; omega, this, show mu + (i + k * p) = mu + i + k * p by omega, ih]

theorem Rho.mod {f : Nat → Nat} {n mu p : Nat} (h : Rho f n mu p) (i : Nat) : iter f (mu + i) n = iter f (mu + i % p) n := by
  have h1 := h.times (i % p) (i / p)
  have h2 := Nat.mod_add_div i p
  rw [← h1, Nat.add_assoc, Nat.mul_comm (i / p) p, h2]

/-- Two numbers of a way are the same: both are in the round, and whole rounds lie between. -/
theorem Rho.same {f : Nat → Nat} {n mu p a d : Nat} (h : Rho f n mu p) (hd : 1 ≤ d) (he : iter f a n = iter f (a + d) n) : mu ≤ a ∧ p ∣ d := by
  have hp := h.pos
  by_cases ha : mu ≤ a
  · refine ⟨ha, ?_⟩
    have e1 := h.mod (a - mu)
    have e2 := h.mod (a + d - mu)
    rw [show mu + (a - mu) = a by omega] at e1
    rw [show mu + (a + d - mu) = a + d by omega] at e2
    have e3 : iter f (mu + (a - mu) % p) n = iter f (mu + (a + d - mu) % p) n := by rw [← e1, ← e2, he]
    have m1 := Nat.mod_lt (a - mu) hp
    have m2 := Nat.mod_lt (a + d - mu) hp
    have e4 : (a - mu) % p = (a + d - mu) % p := by
      rcases Nat.lt_trichotomy ((a - mu) % p) ((a + d - mu) % p) with hl | he' | hl
      · exact absurd e3 (h.inj _ _ (by omega) (by omega))
      · exact he'
      · exact absurd e3.symm (h.inj _ _ (by omega) (by omega))
    have e5 : (a + d - mu) = (a - mu) + d := by omega
    have := Nat.sub_mod_eq_zero_of_mod_eq e4.symm
    rw [e5, Nat.add_sub_cancel_left] at this
    exact Nat.dvd_of_mod_eq_zero this
  · exfalso
    by_cases hb : a + d < mu
    · exact h.inj a (a + d) (by omega) (by omega) he
    · have e2 := h.mod (a + d - mu)
      rw [show mu + (a + d - mu) = a + d by omega] at e2
      have m2 := Nat.mod_lt (a + d - mu) hp
      exact h.inj a (mu + (a + d - mu) % p) (by omega) (by omega) (by rw [← e2, he])

theorem Rho.same_of {f : Nat → Nat} {n mu p a d : Nat} (h : Rho f n mu p) (ha : mu ≤ a) (hd : p ∣ d) : iter f a n = iter f (a + d) n := by
  obtain ⟨k, rfl⟩ := hd
  have := h.times (a - mu) k
  rw [show mu + (a - mu) = a by omega, Nat.mul_comm k p] at this
  exact this.symm

/-- The place at which the slow walker and the fast one meet, at the latest. -/
def meetAt (mu p : Nat) : Nat := p * (mu + 1)
theorem meetAt_ok {f : Nat → Nat} {n mu p : Nat} (h : Rho f n mu p) : 1 ≤ meetAt mu p ∧ iter f (meetAt mu p) n = iter f (meetAt mu p + meetAt mu p) n := by
  have hp := h.pos
  have h1 : mu + 1 ≤ p * (mu + 1) := Nat.le_mul_of_pos_left _ hp
  exact ⟨by unfold meetAt; omega, h.same_of (by unfold meetAt; omega) ⟨mu + 1, rfl⟩⟩

end Pl
end Go.Proofs.YtgkkoegfmhgcjaaGreatDoor

namespace Go.Proofs.YtgkkoegfmhgcjaaGreatDoor
namespace Pl

/-- The last w digits of a number, the last one first. -/
def digW (b : Nat) : Nat → Nat → List Nat
  | 0, _ => []
  | w + 1, n => n % b :: digW b w (n / b)

/-- The number of a row, the last digit first. -/
def valR (b : Nat) : List Nat → Nat
  | [] => 0
  | d :: t => d + b * valR b t

theorem digW_len (b : Nat) : ∀ w n, (digW b w n).length = w := by
  intro w
  induction w with
  | zero => intro n; rfl
  | succ w ih => intro n; simp [digW, ih]

theorem digW_mem {b : Nat} (hb : 2 ≤ b) : ∀ w n, ∀ x ∈ digW b w n, x < b := by
  intro w
  induction w with
  | zero => intro n x hx; simp [digW] at hx
  | succ w ih =>
    intro n x hx
    simp only [digW, List.mem_cons] at hx
    rcases hx with rfl | hx
    · exact Nat.mod_lt _ (by omega)
    · exact ih _ x hx

theorem valR_digW {b : Nat} (hb : 2 ≤ b) : ∀ w n, n < b ^ w → valR b (digW b w n) = n := by
  intro w
  induction w with
  | zero => intro n h; simp [digW, valR] at *; omega
  | succ w ih =>
    intro n h
    have h1 : n / b < b ^ w := by rw [Nat.div_lt_iff_lt_mul (by omega), ← Nat.pow_succ]; exact h
    rw [digW, valR, ih _ h1]
    have := Nat.div_add_mod n b; omega

theorem digW_valR {b : Nat} (hb : 2 ≤ b) : ∀ l : List Nat, (∀ x ∈ l, x < b) → digW b l.length (valR b l) = l := by
  intro l
  induction l with
  | nil => intro _; rfl
  | cons d t ih =>
    intro h
    have hd := h d (by simp)
    have e1 : (d + b * valR b t) % b = d := by rw [Nat.add_mul_mod_self_left, Nat.mod_eq_of_lt hd]
    have e2 : (d + b * valR b t) / b = valR b t := by rw [Nat.add_mul_div_left _ _ (by omega), Nat.div_eq_of_lt hd, Nat.zero_add]
    rw [List.length_cons, digW, valR, e1, e2, ih fun x hx => h x (by simp [hx])]

theorem valR_lt {b : Nat} : ∀ l : List Nat, (∀ x ∈ l, x < b) → valR b l < b ^ l.length := by
  intro l
  induction l with
  | nil => intro _; simp [valR]
  | cons d t ih =>
    intro h
    have hd := h d (by simp)
    have h1 := ih fun x hx => h x (by simp [hx])
    have h2 : b * (valR b t + 1) ≤ b * b ^ t.length := Nat.mul_le_mul_left b h1
    rw [List.length_cons, Nat.pow_succ, Nat.mul_comm _ b, valR]
    rw [Nat.mul_add] at h2
    omega

theorem valR_inj {b : Nat} (hb : 2 ≤ b) {l m : List Nat} (hl : ∀ x ∈ l, x < b) (hm : ∀ x ∈ m, x < b) (hlen : l.length = m.length) (h : valR b l = valR b m) : l = m := by
  rw [← digW_valR hb l hl, ← digW_valR hb m hm, h, hlen]

theorem valR_snoc (b : Nat) : ∀ (l : List Nat) (d : Nat), valR b (l ++ [d]) = valR b l + b ^ l.length * d := by
  intro l
  induction l with
  | nil => intro d; simp [valR]
  | cons a t ih =>
    intro d
    rw [List.cons_append, valR, ih, valR, List.length_cons, Nat.pow_succ, Nat.mul_add, Nat.mul_comm (b ^ t.length) b, Nat.mul_assoc]
    omega

/-- The number as it is told digit by digit, the first one first. -/
def valF (b : Nat) (acc : Nat) (l : List Nat) : Nat := l.foldl (fun a d => a * b + d) acc
theorem valF_snoc (b acc : Nat) (l : List Nat) (d : Nat) : valF b acc (l ++ [d]) = valF b acc l * b + d := by simp [valF]
theorem valF_rev (b : Nat) (l : List Nat) : valF b 0 l.reverse = valR b l := by
  induction l with
  | nil => rfl
  | cons a t ih => rw [List.reverse_cons, valF_snoc, ih, valR, Nat.mul_comm]; omega

/-! ### Put in order -/

/-- Each digit below b as often as it is counted, the least one first. -/
def flatUp (c : Nat → Nat) : Nat → List Nat
  | 0 => []
  | d + 1 => flatUp c d ++ List.replicate (c d) d

theorem flatUp_mem {c : Nat → Nat} : ∀ {b x : Nat}, x ∈ flatUp c b → x < b := by
  intro b
  induction b with
  | zero => intro x h; simp [flatUp] at h
  | succ b ih =>
    intro x h
    rw [flatUp, List.mem_append] at h
    rcases h with h | h
    · have := ih h; omega
    · have := (List.mem_replicate.1 h).2; omega

theorem flatUp_count (c : Nat → Nat) (a : Nat) : ∀ b, (flatUp c b).count a = if a < b then c a else 0 := by
  intro b
  induction b with
  | zero => simp [flatUp]
  | succ b ih =>
    rw [flatUp, List.count_append, ih, List.count_replicate]
    by_cases h : a = b
    · subst h; simp
    · have hne : (b == a) = false := by simp; omega
      rw [hne]
      by_cases h2 : a < b
      · simp [h2, show a < b + 1 by omega]
      · simp [h2, show ¬ a < b + 1 by omega]

theorem flatUp_perm {b : Nat} {l : List Nat} (h : ∀ x ∈ l, x < b) : (flatUp (fun d => l.count d) b).Perm l := by
  rw [List.perm_iff_count]
  intro a
  rw [flatUp_count]
  split
  · rfl
  · rename_i ha
    exact (List.count_eq_zero.2 fun hx => ha (h a hx)).symm

theorem flatUp_more {c : Nat → Nat} {b : Nat} : ∀ k, (∀ d, b ≤ d → c d = 0) → flatUp c (b + k) = flatUp c b := by
  intro k
  induction k with
  | zero => intro _; rfl
  | succ k ih =>
    intro h
    rw [← Nat.add_assoc, flatUp, ih h, h (b + k) (by omega)]; simp

theorem flatUp_sorted (c : Nat → Nat) : ∀ b, (flatUp c b).Pairwise (· ≤ ·) := by
  intro b
  induction b with
  | zero => simp [flatUp]
  | succ b ih =>
    rw [flatUp, List.pairwise_append]
    refine ⟨ih, ?_, fun x hx y hy => ?_⟩
    · rw [List.pairwise_replicate]; simp
    · have h1 := flatUp_mem hx
      have h2 := (List.mem_replicate.1 hy).2
      omega

/-- One digit more is put in between those that are not greater, and those that are not less. -/
theorem flatUp_put {c c' : Nat → Nat} {r : Nat} (hr : c' r = c r + 1) (ho : ∀ d, d ≠ r → c' d = c d) : ∀ b, r < b → ∃ X Y, flatUp c b = X ++ Y ∧ flatUp c' b = X ++ r :: Y ∧ (∀ x ∈ X, x ≤ r) ∧ (∀ y ∈ Y, r ≤ y) := by
  have hsame : ∀ b, b ≤ r → flatUp c' b = flatUp c b := by
    intro b
    induction b with
    | zero => intro _; rfl
    | succ b ih => intro h; rw [flatUp, flatUp, ih (by omega), ho b (by omega)]
  intro b
  induction b with
  | zero => intro h; omega
  | succ b ih =>
    intro h
    by_cases he : r = b
    · subst he
      refine ⟨flatUp c r, List.replicate (c r) r, rfl, ?_, fun x hx => Nat.le_of_lt (flatUp_mem hx), fun y hy => by rw [(List.mem_replicate.1 hy).2]; exact Nat.le_refl _⟩
      rw [flatUp, hsame r (Nat.le_refl _), hr, List.replicate_succ]
    · obtain ⟨X, Y, h1, h2, h3, h4⟩ := ih (by omega)
      refine ⟨X, Y ++ List.replicate (c b) b, by rw [flatUp, h1, List.append_assoc], ?_, h3, fun y hy => ?_⟩
      · rw [flatUp, h2, ho b (by omega), List.append_assoc, List.cons_append]
      · rcases List.mem_append.1 hy with hy | hy
        · exact h4 y hy
        · rw [(List.mem_replicate.1 hy).2]; omega

theorem valR_move_le {b r : Nat} (hb : 1 ≤ b) (Z : List Nat) : ∀ X : List Nat, (∀ x ∈ X, x ≤ r) → valR b (r :: (X ++ Z)) ≤ valR b (X ++ r :: Z) := by
  intro X
  induction X with
  | nil => intro _; exact Nat.le_refl _
  | cons x X ih =>
    intro h
    obtain ⟨e, he⟩ : ∃ e, r = x + e := ⟨r - x, by have := h x (by simp); omega⟩
    have h1 := ih fun y hy => h y (by simp [hy])
    have h2 : b * valR b (r :: (X ++ Z)) ≤ b * valR b (X ++ r :: Z) := Nat.mul_le_mul_left b h1
    have h3 : e ≤ b * e := Nat.le_mul_of_pos_left _ hb
    simp only [List.cons_append, valR] at h2 ⊢
    rw [Nat.mul_add] at h2 ⊢
    have h4 : b * r = b * x + b * e := by rw [he, Nat.mul_add]
    omega

theorem valR_move_ge {b r : Nat} (hb : 1 ≤ b) (Z : List Nat) : ∀ X : List Nat, (∀ x ∈ X, r ≤ x) → valR b (X ++ r :: Z) ≤ valR b (r :: (X ++ Z)) := by
  intro X
  induction X with
  | nil => intro _; exact Nat.le_refl _
  | cons x X ih =>
    intro h
    obtain ⟨e, he⟩ : ∃ e, x = r + e := ⟨x - r, by have := h x (by simp); omega⟩
    have h1 := ih fun y hy => h y (by simp [hy])
    have h2 : b * valR b (X ++ r :: Z) ≤ b * valR b (r :: (X ++ Z)) := Nat.mul_le_mul_left b h1
    have h3 : e ≤ b * e := Nat.le_mul_of_pos_left _ hb
    simp only [List.cons_append, valR] at h2 ⊢
    rw [Nat.mul_add] at h2 ⊢
    have h4 : b * x = b * r + b * e := by rw [he, Nat.mul_add]
    omega

/-- How often a digit is in a number of a width. -/
def cntW (b w n d : Nat) : Nat := (digW b w n).count d
/-- The digits of a number of a width, the least one first. -/
def ordW (b w n : Nat) : List Nat := flatUp (cntW b w n) b
/-- The number of the digits from the greatest one down. -/
def downN (b w n : Nat) : Nat := valR b (ordW b w n)
/-- The number of the digits from the least one up. -/
def upN (b w n : Nat) : Nat := valR b (ordW b w n).reverse
/-- What is left. -/
def leftN (b w n : Nat) : Nat := downN b w n - upN b w n

theorem ordW_perm {b : Nat} (hb : 2 ≤ b) (w n : Nat) : (ordW b w n).Perm (digW b w n) := flatUp_perm (digW_mem hb w n)
theorem ordW_len {b : Nat} (hb : 2 ≤ b) (w n : Nat) : (ordW b w n).length = w := by rw [(ordW_perm hb w n).length_eq, digW_len]
theorem ordW_mem {b w n x : Nat} (h : x ∈ ordW b w n) : x < b := flatUp_mem h
theorem ordW_mem_rev {b w n : Nat} : ∀ x ∈ (ordW b w n).reverse, x < b := fun _ h => flatUp_mem (List.mem_reverse.1 h)

theorem downN_lt {b : Nat} (hb : 2 ≤ b) (w n : Nat) : downN b w n < b ^ w := by
  have := valR_lt (ordW b w n) fun x hx => ordW_mem hx
  rwa [ordW_len hb] at this
theorem upN_lt {b : Nat} (hb : 2 ≤ b) (w n : Nat) : upN b w n < b ^ w := by
  have := valR_lt (ordW b w n).reverse ordW_mem_rev
  rwa [List.length_reverse, ordW_len hb] at this

theorem digW_down {b : Nat} (hb : 2 ≤ b) (w n : Nat) : digW b w (downN b w n) = ordW b w n := by
  have := digW_valR hb (ordW b w n) fun x hx => ordW_mem hx
  rwa [ordW_len hb] at this
theorem digW_up {b : Nat} (hb : 2 ≤ b) (w n : Nat) : digW b w (upN b w n) = (ordW b w n).reverse := by
  have := digW_valR hb (ordW b w n).reverse ordW_mem_rev
  rwa [List.length_reverse, ordW_len hb] at this

theorem cntW_down {b : Nat} (hb : 2 ≤ b) (w n : Nat) : cntW b w (downN b w n) = cntW b w n := by
  funext d
  unfold cntW
  rw [digW_down hb, (ordW_perm hb w n).count_eq]
theorem cntW_up {b : Nat} (hb : 2 ≤ b) (w n : Nat) : cntW b w (upN b w n) = cntW b w n := by
  funext d
  unfold cntW
  rw [digW_up hb, List.count_reverse, (ordW_perm hb w n).count_eq]

theorem ordW_down {b : Nat} (hb : 2 ≤ b) (w n : Nat) : ordW b w (downN b w n) = ordW b w n := by rw [ordW, cntW_down hb]; rfl
theorem ordW_up {b : Nat} (hb : 2 ≤ b) (w n : Nat) : ordW b w (upN b w n) = ordW b w n := by rw [ordW, cntW_up hb]; rfl

theorem order_bounds {b : Nat} (hb : 2 ≤ b) : ∀ w n, n < b ^ w → upN b w n ≤ n ∧ n ≤ downN b w n := by
  intro w
  induction w with
  | zero =>
    intro n h; simp at h; subst h
    have := upN_lt hb 0 0
    simp at this; omega
  | succ w ih =>
    intro n h
    have h1 : n / b < b ^ w := by rw [Nat.div_lt_iff_lt_mul (by omega), ← Nat.pow_succ]; exact h
    obtain ⟨g1, g2⟩ := ih _ h1
    have hr : n % b < b := Nat.mod_lt _ (by omega)
    have hc : cntW b (w + 1) n (n % b) = cntW b w (n / b) (n % b) + 1 := by simp [cntW, digW]
    have ho : ∀ d, d ≠ n % b → cntW b (w + 1) n d = cntW b w (n / b) d := fun d hd => by
      unfold cntW; rw [digW, List.count_cons_of_ne (fun e => hd e.symm)]
    obtain ⟨X, Y, e1, e2, hX, hY⟩ := flatUp_put hc ho b hr
    have hn := Nat.div_add_mod n b
    constructor
    · have e3 : upN b (w + 1) n = valR b (Y.reverse ++ n % b :: X.reverse) := by
        unfold upN ordW; rw [e2]; simp
      have e4 : upN b w (n / b) = valR b (Y.reverse ++ X.reverse) := by
        unfold upN ordW; rw [e1]; simp
      have h5 := valR_move_ge (b := b) (r := n % b) (by omega) X.reverse Y.reverse fun y hy => hY y (List.mem_reverse.1 hy)
      rw [e3]
      rw [valR, ← e4] at h5
      have h6 : b * upN b w (n / b) ≤ b * (n / b) := Nat.mul_le_mul_left b g1
      omega
    · have e3 : downN b (w + 1) n = valR b (X ++ n % b :: Y) := by unfold downN ordW; rw [e2]
      have e4 : downN b w (n / b) = valR b (X ++ Y) := by unfold downN ordW; rw [e1]
      have h5 := valR_move_le (b := b) (r := n % b) (by omega) Y X hX
      rw [e3]
      rw [valR, ← e4] at h5
      have h6 : b * (n / b) ≤ b * downN b w (n / b) := Nat.mul_le_mul_left b g2
      omega

/-! ### Sums of digits, and what is left -/

theorem digW_sum {b : Nat} (hb : 2 ≤ b) : ∀ w n, n < b ^ w → (digW b w n).sum = sumD b n := by
  intro w
  induction w with
  | zero => intro n h; simp at h; subst h; rw [sumD_lt (by omega)]; rfl
  | succ w ih =>
    intro n h
    have h1 : n / b < b ^ w := by rw [Nat.div_lt_iff_lt_mul (by omega), ← Nat.pow_succ]; exact h
    rw [digW, List.sum_cons, ih _ h1, ← sumD_step hb]

theorem ordW_sum {b : Nat} (hb : 2 ≤ b) {w n : Nat} (h : n < b ^ w) : (ordW b w n).sum = sumD b n := by
  rw [(ordW_perm hb w n).sum_nat, digW_sum hb w n h]

theorem sumD_down {b : Nat} (hb : 2 ≤ b) {w n : Nat} (h : n < b ^ w) : sumD b (downN b w n) = sumD b n := by
  rw [← digW_sum hb w _ (downN_lt hb w n), digW_down hb, ordW_sum hb h]
theorem sumD_up {b : Nat} (hb : 2 ≤ b) {w n : Nat} (h : n < b ^ w) : sumD b (upN b w n) = sumD b n := by
  rw [← digW_sum hb w _ (upN_lt hb w n), digW_up hb, List.sum_reverse, ordW_sum hb h]

theorem valR_mod {b : Nat} (hb : 1 ≤ b) : ∀ l : List Nat, ∃ k, valR b l = l.sum + (b - 1) * k := by
  intro l
  induction l with
  | nil => exact ⟨0, rfl⟩
  | cons d t ih =>
    obtain ⟨k, hk⟩ := ih
    obtain ⟨B, rfl⟩ : ∃ B, b = B + 1 := ⟨b - 1, by omega⟩
    refine ⟨valR (B + 1) t + k, ?_⟩
    rw [valR, List.sum_cons, Nat.add_sub_cancel, Nat.add_mul, Nat.mul_add]
    rw [Nat.add_sub_cancel] at hk
    omega

theorem up_le_down {b : Nat} (hb : 2 ≤ b) (w n : Nat) : upN b w n ≤ downN b w n := by
  have h := order_bounds hb w _ (downN_lt hb w n)
  have e : upN b w (downN b w n) = upN b w n := by unfold upN; rw [ordW_down hb]
  omega

theorem left_mod {b : Nat} (hb : 2 ≤ b) (w n : Nat) : leftN b w n % (b - 1) = 0 := by
  obtain ⟨k1, h1⟩ := valR_mod (b := b) (by omega) (ordW b w n)
  obtain ⟨k2, h2⟩ := valR_mod (b := b) (by omega) (ordW b w n).reverse
  rw [List.sum_reverse] at h2
  unfold leftN downN upN
  rw [h1, h2, Nat.add_sub_add_left, ← Nat.mul_sub, Nat.mul_mod_right]

theorem left_lt {b : Nat} (hb : 2 ≤ b) (w n : Nat) : leftN b w n < b ^ w := by
  have := downN_lt hb w n
  unfold leftN; omega

theorem left_down {b : Nat} (hb : 2 ≤ b) (w n : Nat) : leftN b w (downN b w n) = leftN b w n := by
  unfold leftN downN upN
  have := ordW_down hb w n
  unfold downN at this
  rw [this]

/-! ### Digits all alike -/

/-- All digits are alike. -/
def Alike (b w n : Nat) : Prop := ∃ d, digW b w n = List.replicate w d

theorem alike_count {b w n : Nat} : Alike b w n ↔ ∃ d, cntW b w n d = w := by
  constructor
  · rintro ⟨d, hd⟩
    exact ⟨d, by unfold cntW; rw [hd]; simp⟩
  · rintro ⟨d, hd⟩
    refine ⟨d, ?_⟩
    have h : (digW b w n).count d = (digW b w n).length := by rw [digW_len]; exact hd
    rw [List.count_eq_length] at h
    rw [List.eq_replicate_iff]
    exact ⟨digW_len b w n, fun x hx => (h x hx).symm⟩

theorem alike_left {b : Nat} (hb : 2 ≤ b) {w n : Nat} : Alike b w n ↔ downN b w n = upN b w n := by
  have hp := ordW_perm hb w n
  constructor
  · rintro ⟨d, hd⟩
    rw [hd, List.perm_replicate] at hp
    unfold downN upN
    rw [hp, List.reverse_replicate]
  · intro h
    have he : ordW b w n = (ordW b w n).reverse := valR_inj hb (fun x hx => ordW_mem hx) ordW_mem_rev (by simp) h
    have h1 : (ordW b w n).Pairwise (· ≤ ·) := flatUp_sorted _ _
    have h2 : (ordW b w n).Pairwise (fun x y => y ≤ x) := by
      rw [he] at h1; rwa [List.pairwise_reverse] at h1
    refine ⟨(ordW b w n)[0]?.getD 0, ?_⟩
    rw [List.eq_replicate_iff]
    refine ⟨digW_len b w n, fun x hx => ?_⟩
    obtain ⟨i, hi, rfl⟩ := List.getElem_of_mem (hp.mem_iff.2 hx)
    rw [List.getElem?_eq_getElem (by omega), Option.getD_some]
    by_cases h0 : i = 0
    · subst h0; rfl
    · have g1 := List.pairwise_iff_getElem.1 h1 0 i (by omega) hi (by omega)
      have g2 := List.pairwise_iff_getElem.1 h2 0 i (by omega) hi (by omega)
      omega

theorem alike_zero {b : Nat} (hb : 2 ≤ b) {w n : Nat} : Alike b w n ↔ leftN b w n = 0 := by
  rw [alike_left hb]
  have := up_le_down hb w n
  unfold leftN; omega

/-- The number of w digits 1. -/
def ones (b : Nat) : Nat → Nat
  | 0 => 0
  | w + 1 => ones b w * b + 1

theorem valR_alike (b d : Nat) : ∀ w, valR b (List.replicate w d) = d * ones b w := by
  intro w
  induction w with
  | zero => rfl
  | succ w ih =>
    rw [List.replicate_succ, valR, ih, ones, Nat.mul_add, Nat.mul_left_comm, Nat.mul_comm b]; omega

theorem ones_pow {b : Nat} (hb : 2 ≤ b) : ∀ w, ones b w * (b - 1) + 1 = b ^ w := by
  intro w
  induction w with
  | zero => simp [ones]
  | succ w ih =>
    rw [ones, Nat.pow_succ, ← ih, Nat.add_mul, Nat.add_mul, Nat.mul_assoc, Nat.mul_comm b (b - 1), ← Nat.mul_assoc]; omega

theorem ones_pos {b w : Nat} (hw : 1 ≤ w) : 1 ≤ ones b w := by
  obtain ⟨v, rfl⟩ : ∃ v, w = v + 1 := ⟨w - 1, by omega⟩
  rw [ones]; omega

theorem alike_of_digit {b : Nat} (hb : 2 ≤ b) {w d : Nat} (hd : d < b) : Alike b w (d * ones b w) := by
  refine ⟨d, ?_⟩
  have := digW_valR hb (List.replicate w d) fun x hx => by rw [(List.mem_replicate.1 hx).2]; exact hd
  rwa [List.length_replicate, valR_alike] at this

theorem ones_lt {b : Nat} (hb : 2 ≤ b) {w d : Nat} (hd : d < b) : ones b w * d < b ^ w := by
  have h1 := ones_pow hb w
  have h2 : ones b w * d ≤ ones b w * (b - 1) := Nat.mul_le_mul_left _ (by omega)
  omega

theorem alike_ones {b : Nat} (hb : 2 ≤ b) {w n : Nat} (hw : 1 ≤ w) (h : n < b ^ w) : Alike b w n ↔ n % ones b w = 0 := by
  have ho := ones_pos (b := b) hw
  constructor
  · rintro ⟨d, hd⟩
    have := valR_digW hb w n h
    rw [hd, valR_alike] at this
    rw [← this, Nat.mul_mod_left]
  · intro hm
    obtain ⟨q, hq⟩ := Nat.dvd_of_mod_eq_zero hm
    have hp := ones_pow hb w
    have hqb : q < b := by
      refine Classical.byContradiction fun hno => ?_
      have : ones b w * b ≤ ones b w * q := Nat.mul_le_mul_left _ (by omega)
      have e : ones b w * b = ones b w * (b - 1) + ones b w := by
        conv => lhs; rw [show b = (b - 1) + 1 by omega, Nat.mul_add, Nat.mul_one]
        rw [show b - 1 + 1 = b by omega]
      omega
    rw [hq, Nat.mul_comm]
    exact alike_of_digit hb hqb

/-! ### The round into which what is left leads -/

theorem iter_left_lt {b : Nat} (hb : 2 ≤ b) {w n : Nat} (h : n < b ^ w) : ∀ i, iter (leftN b w) i n < b ^ w := by
  intro i
  cases i with
  | zero => exact h
  | succ i => exact left_lt hb w _

theorem pow_le24 {b w : Nat} (hb' : b ≤ 16) (hw : w ≤ 6) : b ^ w ≤ 16777216 := by
  have h1 : b ^ w ≤ 16 ^ w := Nat.pow_le_pow_left hb' w
  have h2 : (16 : Nat) ^ w ≤ 16 ^ 6 := Nat.pow_le_pow_right (by omega) hw
  omega

theorem left_rho {b w n : Nat} (hb : 2 ≤ b) (hb' : b ≤ 16) (hw : w ≤ 6) (h : n < b ^ w) : ∃ mu p, Rho (leftN b w) n mu p ∧ mu + p ≤ 16777216 := by
  obtain ⟨mu, p, hr, hle⟩ := rho_exists (f := leftN b w) (n := n) (N := b ^ w) (iter_left_lt hb h)
  exact ⟨mu, p, hr, Nat.le_trans hle (pow_le24 hb' hw)⟩

/-- Where a number that stays is come to behind k steps, it is the round, and comes behind at most k. -/
theorem rho_stay {f : Nat → Nat} {n c k : Nat} (hc : f c = c) (hk : iter f k n = c) : ∃ mu, mu ≤ k ∧ Rho f n mu 1 ∧ iter f mu n = c := by
  obtain ⟨mu, hmu, hmin⟩ := least_nat (P := fun i => iter f i n = c) ⟨k, hk⟩
  have hle : mu ≤ k := by
    refine Classical.byContradiction fun hno => hmin k (by omega) hk
  refine ⟨mu, hle, ⟨Nat.le_refl _, ?_, fun i j hij hj he => ?_⟩, hmu⟩
  · show f (iter f mu n) = _; rw [hmu, hc]
  · refine hmin (i + (mu - j)) (by omega) ?_
    show iter f (i + (mu - j)) n = c
    rw [Nat.add_comm, iter_add, he, ← iter_add, show mu - j + j = mu by omega, hmu]

theorem check3 : ((List.range 10).all fun k => k == 0 || iter (leftN 10 3) 5 (99 * k) == 495) = true := by decide +kernel
theorem check4 : ((List.range 10).all fun x => (List.range (x + 1)).all fun y => x == 0 || iter (leftN 10 4) 6 (999 * x + 90 * y) == 6174) = true := by decide +kernel
theorem stay3 : leftN 10 3 495 = 495 := by decide +kernel
theorem stay4 : leftN 10 4 6174 = 6174 := by decide +kernel

theorem left3 {n : Nat} (h : ¬ Alike 10 3 n) : iter (leftN 10 3) 6 n = 495 := by
  rw [alike_zero (by omega)] at h
  have hl := ordW_len (b := 10) (by omega) 3 n
  have hs : (ordW 10 3 n).Pairwise (· ≤ ·) := flatUp_sorted _ _
  have hm : ∀ x ∈ ordW 10 3 n, x < 10 := fun x hx => ordW_mem hx
  have hL : leftN 10 3 n = valR 10 (ordW 10 3 n) - valR 10 (ordW 10 3 n).reverse := rfl
  match hO : ordW 10 3 n, hl with
  | [p, q, r], _ =>
    rw [hO] at hs hm hL
    have hp := hm p (by simp)
    have hr := hm r (by simp)
    simp at hs
    simp [valR] at hL
    have e : leftN 10 3 n = 99 * (r - p) := by omega
    have h1 := List.all_eq_true.1 check3 (r - p) (List.mem_range.2 (by omega))
    have h2 : (r - p == 0) = false := by simp; omega
    rw [h2, Bool.false_or, ← e] at h1
    rw [iter_succ']
    simpa using h1

theorem left4 {n : Nat} (h : ¬ Alike 10 4 n) : iter (leftN 10 4) 7 n = 6174 := by
  rw [alike_zero (by omega)] at h
  have hl := ordW_len (b := 10) (by omega) 4 n
  have hs : (ordW 10 4 n).Pairwise (· ≤ ·) := flatUp_sorted _ _
  have hm : ∀ x ∈ ordW 10 4 n, x < 10 := fun x hx => ordW_mem hx
  have hL : leftN 10 4 n = valR 10 (ordW 10 4 n) - valR 10 (ordW 10 4 n).reverse := rfl
  match hO : ordW 10 4 n, hl with
  | [p, q, r, s], _ =>
    rw [hO] at hs hm hL
    have hp := hm p (by simp)
    have hr := hm s (by simp)
    simp at hs
    simp [valR] at hL
    have e : leftN 10 4 n = 999 * (s - p) + 90 * (r - q) := by omega
    have h1 := List.all_eq_true.1 check4 (s - p) (List.mem_range.2 (by omega))
    have h1' := List.all_eq_true.1 h1 (r - q) (List.mem_range.2 (by omega))
    have h2 : (s - p == 0) = false := by simp; omega
    rw [h2, Bool.false_or, ← e] at h1'
    rw [iter_succ']
    simpa using h1'

/-! ### As the functions answer -/

/-- A number of a width in a base. -/
def wideB (n w b : Int) : Bool := okB n b && (decide (2 ≤ w) && (decide (w ≤ 6) && decide (n.toNat < b.toNat ^ w.toNat)))

theorem wideB_nat {n w b : Int} (h : wideB n w b = true) : ∃ x v k : Nat, n = (x : Int) ∧ w = (v : Int) ∧ b = (k : Int) ∧ 2 ≤ k ∧ k ≤ 16 ∧ 2 ≤ v ∧ v ≤ 6 ∧ x < k ^ v := by
  simp only [wideB, Bool.and_eq_true, decide_eq_true_eq, okB_iff] at h
  exact ⟨n.toNat, w.toNat, b.toNat, by omega, by omega, by omega, by omega, by omega, by omega, by omega, h.2.2.2⟩

theorem wideB_of {x v k : Nat} (h1 : 2 ≤ k) (h2 : k ≤ 16) (h3 : 2 ≤ v) (h4 : v ≤ 6) (h5 : x < k ^ v) : wideB x v k = true := by
  have := pow_le24 (b := k) (w := v) h2 h4
  simp only [wideB, Bool.and_eq_true, decide_eq_true_eq, okB_iff, Int.toNat_natCast]
  omega

theorem wideB_iff (x v k : Nat) : wideB x v k = true ↔ 2 ≤ k ∧ k ≤ 16 ∧ 2 ≤ v ∧ v ≤ 6 ∧ x < k ^ v := by
  constructor
  · intro h
    obtain ⟨x', v', k', e1, e2, e3, h1, h2, h3, h4, h5⟩ := wideB_nat h
    obtain rfl : x = x' := by omega
    obtain rfl : v = v' := by omega
    obtain rfl : k = k' := by omega
    exact ⟨h1, h2, h3, h4, h5⟩
  · rintro ⟨h1, h2, h3, h4, h5⟩; exact wideB_of h1 h2 h3 h4 h5

def downI (n w b : Int) : Int := if wideB n w b = true then (downN b.toNat w.toNat n.toNat : Nat) else -1
def upI (n w b : Int) : Int := if wideB n w b = true then (upN b.toNat w.toNat n.toNat : Nat) else -1
def leftI (n w b : Int) : Int := if wideB n w b = true then (leftN b.toNat w.toNat n.toNat : Nat) else -1
theorem downI_yes (x v k : Nat) (h : wideB x v k = true) : downI x v k = (downN k v x : Nat) := by rw [downI, if_pos h]; rfl
theorem upI_yes (x v k : Nat) (h : wideB x v k = true) : upI x v k = (upN k v x : Nat) := by rw [upI, if_pos h]; rfl
theorem leftI_yes (x v k : Nat) (h : wideB x v k = true) : leftI x v k = (leftN k v x : Nat) := by rw [leftI, if_pos h]; rfl
theorem downI_no {n w b : Int} (h : ¬ wideB n w b = true) : downI n w b = -1 := by rw [downI, if_neg h]
theorem upI_no {n w b : Int} (h : ¬ wideB n w b = true) : upI n w b = -1 := by rw [upI, if_neg h]
theorem leftI_no {n w b : Int} (h : ¬ wideB n w b = true) : leftI n w b = -1 := by rw [leftI, if_neg h]

theorem downI_bounds (n w b : Int) : -1 ≤ downI n w b ∧ downI n w b ≤ 16777216 := by
  by_cases h : wideB n w b = true
  · obtain ⟨x, v, k, rfl, rfl, rfl, h1, h2, h3, h4, h5⟩ := wideB_nat h
    rw [downI_yes x v k h]
    have := downN_lt h1 v x
    have := pow_le24 (b := k) (w := v) h2 h4
    omega
  · rw [downI_no h]; omega
theorem upI_bounds (n w b : Int) : -1 ≤ upI n w b ∧ upI n w b ≤ 16777216 := by
  by_cases h : wideB n w b = true
  · obtain ⟨x, v, k, rfl, rfl, rfl, h1, h2, h3, h4, h5⟩ := wideB_nat h
    rw [upI_yes x v k h]
    have := upN_lt h1 v x
    have := pow_le24 (b := k) (w := v) h2 h4
    omega
  · rw [upI_no h]; omega
theorem leftI_bounds (n w b : Int) : -1 ≤ leftI n w b ∧ leftI n w b ≤ 16777216 := by
  by_cases h : wideB n w b = true
  · obtain ⟨x, v, k, rfl, rfl, rfl, h1, h2, h3, h4, h5⟩ := wideB_nat h
    rw [leftI_yes x v k h]
    have := left_lt h1 v x
    have := pow_le24 (b := k) (w := v) h2 h4
    omega
  · rw [leftI_no h]; omega

end Pl
end Go.Proofs.YtgkkoegfmhgcjaaGreatDoor

namespace Go.Proofs.YtgkkoegfmhgcjaaGreatDoor
namespace Pl

/-- A number turned round. -/
def turnN (b n : Nat) : Nat := valF b 0 (digsR b n)

theorem turnN_valR (b n : Nat) : turnN b n = valR b (digsR b n).reverse := by
  have := valF_rev b (digsR b n).reverse
  rw [List.reverse_reverse] at this
  exact this

theorem turnN_lt {b n : Nat} (h : n < b) : turnN b n = n := by rw [turnN, digsR_lt h]; simp [valF]

theorem valR_digsR {b : Nat} (hb : 2 ≤ b) (n : Nat) : valR b (digsR b n) = n := by
  refine digInd hb (P := fun n => valR b (digsR b n) = n) ?_ ?_ n
  · intro n h; rw [digsR_lt h]; simp [valR]
  · intro n h ih
    rw [digsR_ge hb h, valR, ih]
    have := Nat.div_add_mod n b; omega

theorem sumD_valR {b : Nat} (hb : 2 ≤ b) : ∀ l : List Nat, (∀ x ∈ l, x < b) → sumD b (valR b l) = l.sum := by
  intro l
  induction l with
  | nil => intro _; rw [valR, sumD_lt (by omega)]; rfl
  | cons d t ih =>
    intro h
    have hd := h d (by simp)
    have e1 : (d + b * valR b t) % b = d := by rw [Nat.add_mul_mod_self_left, Nat.mod_eq_of_lt hd]
    have e2 : (d + b * valR b t) / b = valR b t := by rw [Nat.add_mul_div_left _ _ (by omega), Nat.div_eq_of_lt hd, Nat.zero_add]
    rw [valR, sumD_step hb, e1, e2, ih fun x hx => h x (by simp [hx]), List.sum_cons]

theorem valR_pos {b : Nat} (hb : 2 ≤ b) : ∀ l : List Nat, l.getLastD 0 ≠ 0 → 1 ≤ valR b l := by
  intro l
  induction l with
  | nil => intro h; simp at h
  | cons d t ih =>
    intro h
    cases t with
    | nil => simp at h; simp [valR]; omega
    | cons e t =>
      have h' : (e :: t).getLastD 0 ≠ 0 := by simpa using h
      have h1 := ih h'
      have h2 : 1 ≤ b * valR b (e :: t) := Nat.le_trans h1 (Nat.le_mul_of_pos_left _ (by omega))
      rw [valR]; omega

/-- A row of digits whose greatest place is not 0 is the digits of its number. -/
theorem digsR_valR {b : Nat} (hb : 2 ≤ b) : ∀ l : List Nat, (∀ x ∈ l, x < b) → l.getLastD 0 ≠ 0 → digsR b (valR b l) = l := by
  intro l
  induction l with
  | nil => intro _ h; simp at h
  | cons d t ih =>
    intro hm h
    have hd := hm d (by simp)
    cases t with
    | nil => simp only [valR, Nat.mul_zero, Nat.add_zero]; exact digsR_lt hd
    | cons e t =>
      have h' : (e :: t).getLastD 0 ≠ 0 := by simpa using h
      have hp := valR_pos hb _ h'
      have hge : b ≤ d + b * valR b (e :: t) := by
        have : b * 1 ≤ b * valR b (e :: t) := Nat.mul_le_mul_left b hp
        omega
      have e1 : (d + b * valR b (e :: t)) % b = d := by rw [Nat.add_mul_mod_self_left, Nat.mod_eq_of_lt hd]
      have e2 : (d + b * valR b (e :: t)) / b = valR b (e :: t) := by rw [Nat.add_mul_div_left _ _ (by omega), Nat.div_eq_of_lt hd, Nat.zero_add]
      rw [valR, digsR_ge hb hge, e1, e2, ih (fun x hx => hm x (by simp [hx])) h']

theorem digsR_last {b : Nat} (hb : 2 ≤ b) (n : Nat) : 1 ≤ n → (digsR b n).getLastD 0 ≠ 0 := by
  refine digInd hb (P := fun n => 1 ≤ n → (digsR b n).getLastD 0 ≠ 0) ?_ ?_ n
  · intro n h hn; rw [digsR_lt h]; simp; omega
  · intro n h ih _
    have h1 : 1 ≤ n / b := (Nat.one_le_div_iff (by omega)).2 h
    have h2 := digsR_pos b (n / b)
    rw [digsR_ge hb h]
    match hl : digsR b (n / b), h2 with
    | e :: t, _ =>
      have := ih h1
      rw [hl] at this
      simpa using this

theorem digsR_head {b : Nat} (hb : 2 ≤ b) (n : Nat) : (digsR b n).headD 0 = n % b := by
  by_cases h : n < b
  · rw [digsR_lt h, Nat.mod_eq_of_lt h]; rfl
  · rw [digsR_ge hb (by omega)]; rfl

theorem rev_last (l : List Nat) : l.reverse.getLastD 0 = l.headD 0 := by
  cases l with
  | nil => rfl
  | cons a t => simp

theorem digsR_turn {b n : Nat} (hb : 2 ≤ b) (h : n % b ≠ 0) : digsR b (turnN b n) = (digsR b n).reverse := by
  rw [turnN_valR]
  refine digsR_valR hb _ (fun x hx => digsR_mem hb n x (List.mem_reverse.1 hx)) ?_
  rw [rev_last, digsR_head hb]; exact h

theorem turn_turn {b n : Nat} (hb : 2 ≤ b) (h : n % b ≠ 0) : turnN b (turnN b n) = n := by
  rw [turnN_valR, digsR_turn hb h, List.reverse_reverse, valR_digsR hb]

theorem turn_sum {b : Nat} (hb : 2 ≤ b) (n : Nat) : sumD b (turnN b n) = sumD b n := by
  rw [turnN_valR, sumD_valR hb _ (fun x hx => digsR_mem hb n x (List.mem_reverse.1 hx)), List.sum_reverse]; rfl

theorem turn_mod {b : Nat} (hb : 2 ≤ b) (n : Nat) : ((b : Int) - 1) ∣ ((n : Int) - (turnN b n : Int)) := by
  obtain ⟨k1, h1⟩ := valR_mod (b := b) (by omega) (digsR b n)
  obtain ⟨k2, h2⟩ := valR_mod (b := b) (by omega) (digsR b n).reverse
  rw [List.sum_reverse, ← turnN_valR] at h2
  rw [valR_digsR hb] at h1
  refine ⟨(k1 : Int) - (k2 : Int), ?_⟩
  have e : ((b - 1 : Nat) : Int) = (b : Int) - 1 := by omega
  rw [Int.mul_sub, ← e, ← Int.natCast_mul, ← Int.natCast_mul]
  omega

theorem turn_pow {b : Nat} (hb : 2 ≤ b) (n : Nat) : turnN b n < b ^ (digsR b n).length := by
  have := valR_lt (b := b) (digsR b n).reverse fun x hx => digsR_mem hb n x (List.mem_reverse.1 hx)
  rwa [List.length_reverse, ← turnN_valR] at this

theorem turn_pos {b n : Nat} (hb : 2 ≤ b) (h : 1 ≤ n) : 1 ≤ turnN b n := by
  have h1 : 1 ≤ sumD b n := by
    have hl := digsR_last hb n h
    have hs : ∀ l : List Nat, l.getLastD 0 ≠ 0 → 1 ≤ l.sum := by
      intro l
      induction l with
      | nil => intro h; simp at h
      | cons a t ih =>
        intro h
        cases t with
        | nil => simp at h; simp; omega
        | cons c t =>
          have := ih (by simpa using h)
          rw [List.sum_cons]; omega
    exact hs _ hl
  rw [← turn_sum hb] at h1
  have := sumD_le hb (turnN b n)
  omega

theorem pow_le_of {b : Nat} (hb : 2 ≤ b) (n : Nat) : 1 ≤ n → b ^ ((digsR b n).length - 1) ≤ n := by
  refine digInd hb (P := fun n => 1 ≤ n → b ^ ((digsR b n).length - 1) ≤ n) ?_ ?_ n
  · intro n h hn; rw [len_lt h]; simpa using hn
  · intro n h ih _
    have h1 : 1 ≤ n / b := (Nat.one_le_div_iff (by omega)).2 h
    have h2 := ih h1
    have h3 := digsR_pos b (n / b)
    rw [len_ge hb h, show 1 + (digsR b (n / b)).length - 1 = ((digsR b (n / b)).length - 1) + 1 by omega, Nat.pow_succ]
    have h4 : b ^ ((digsR b (n / b)).length - 1) * b ≤ n / b * b := Nat.mul_le_mul_right b h2
    have h5 := Nat.div_mul_le_self n b
    omega

/-- A number from 1 on that ends with nought is more than it turned round. -/
theorem turn_less {b n : Nat} (hb : 2 ≤ b) (h : 1 ≤ n) (h0 : n % b = 0) : turnN b n < n := by
  have hbn : b ≤ n := by
    refine Classical.byContradiction fun hno => ?_
    rw [Nat.mod_eq_of_lt (by omega)] at h0; omega
  have h1 : 1 ≤ n / b := (Nat.one_le_div_iff (by omega)).2 hbn
  have e : turnN b n = turnN b (n / b) := by
    rw [turnN, digsR_ge hb hbn, h0]; simp [valF, turnN]
  have h2 := turn_pow hb (n / b)
  have h3 := pow_le_of hb n h
  rw [len_ge hb hbn, show 1 + (digsR b (n / b)).length - 1 = (digsR b (n / b)).length by omega] at h3
  omega

theorem pal_last {b n : Nat} (hb : 2 ≤ b) (h : 1 ≤ n) (hp : turnN b n = n) : n % b ≠ 0 := fun h0 => by
  have := turn_less hb h h0; omega

/-! ### One more than the base -/

/-- The digits by turns added and taken away. -/
def altI : List Nat → Int
  | [] => 0
  | d :: t => (d : Int) - altI t

theorem altI_app : ∀ (l m : List Nat), altI (l ++ m) = altI l + (if l.length % 2 = 0 then altI m else - altI m) := by
  intro l
  induction l with
  | nil => intro m; simp [altI]
  | cons d t ih =>
    intro m
    rw [List.cons_append, altI, ih, altI, List.length_cons]
    by_cases h : t.length % 2 = 0
    · rw [if_pos h, if_neg (by omega)]; omega
    · rw [if_neg h, if_pos (by omega)]; omega

theorem altI_rev : ∀ l : List Nat, altI l.reverse = if l.length % 2 = 0 then - altI l else altI l := by
  intro l
  induction l with
  | nil => simp [altI]
  | cons d t ih =>
    rw [List.reverse_cons, altI_app, List.length_reverse, ih, List.length_cons]
    have e : altI [d] = (d : Int) := by simp [altI]
    rw [e, altI]
    by_cases h : t.length % 2 = 0
    · rw [if_pos h, if_pos h, if_neg (by omega)]; omega
    · rw [if_neg h, if_neg h, if_pos (by omega)]; omega

theorem valR_alt (b : Nat) : ∀ l : List Nat, ∃ k : Int, (valR b l : Int) = altI l + ((b : Int) + 1) * k := by
  intro l
  induction l with
  | nil => exact ⟨0, by simp [valR, altI]⟩
  | cons d t ih =>
    obtain ⟨k, hk⟩ := ih
    refine ⟨(valR b t : Int) - k, ?_⟩
    rw [valR, altI, Int.natCast_add, Int.natCast_mul, Int.mul_sub, Int.add_mul, Int.one_mul]
    omega

/-- A number and it turned round, of an even number of digits, the last one not 0 or any: together a multiple of one more than the base. -/
theorem added_mod {b n : Nat} (hb : 2 ≤ b) (h : (digsR b n).length % 2 = 0) : (n + turnN b n) % (b + 1) = 0 := by
  obtain ⟨k1, h1⟩ := valR_alt b (digsR b n)
  obtain ⟨k2, h2⟩ := valR_alt b (digsR b n).reverse
  rw [altI_rev, if_pos h, ← turnN_valR] at h2
  rw [valR_digsR hb] at h1
  have e : ((n + turnN b n : Nat) : Int) = ((b + 1 : Nat) : Int) * (k1 + k2) := by
    rw [Int.natCast_add, Int.natCast_add, Int.mul_add]; simp only [Int.natCast_one]; omega
  have hd : ((b + 1 : Nat) : Int) ∣ ((n + turnN b n : Nat) : Int) := ⟨_, e⟩
  exact Nat.mod_eq_zero_of_dvd (Int.natCast_dvd_natCast.1 hd)

theorem pal_even {b n : Nat} (hb : 2 ≤ b) (hn : 1 ≤ n) (hp : turnN b n = n) (h : (digsR b n).length % 2 = 0) : n % (b + 1) = 0 := by
  have hr := digsR_turn hb (pal_last hb hn hp)
  rw [hp] at hr
  obtain ⟨k1, h1⟩ := valR_alt b (digsR b n)
  have h2 := altI_rev (digsR b n)
  rw [if_pos h, ← hr] at h2
  rw [valR_digsR hb] at h1
  have e : (n : Int) = ((b + 1 : Nat) : Int) * k1 := by
    rw [Int.natCast_add]; simp only [Int.natCast_one]; omega
  have hd : ((b + 1 : Nat) : Int) ∣ (n : Int) := ⟨_, e⟩
  exact Nat.mod_eq_zero_of_dvd (Int.natCast_dvd_natCast.1 hd)

/-! ### Sums without carries -/

theorem valR_zip (b : Nat) : ∀ l m : List Nat, l.length = m.length → valR b (List.zipWith (· + ·) l m) = valR b l + valR b m := by
  intro l
  induction l with
  | nil => intro m h; cases m with
    | nil => rfl
    | cons e m => simp at h
  | cons d t ih =>
    intro m h
    cases m with
    | nil => simp at h
    | cons e m =>
      rw [List.zipWith_cons_cons, valR, ih m (by simpa using h), valR, valR, Nat.mul_add]; omega

theorem zip_rev (l : List Nat) : (List.zipWith (· + ·) l l.reverse).reverse = List.zipWith (· + ·) l l.reverse := by
  rw [List.zipWith_eq_zipWith_take_min]
  apply List.ext_getElem
  · simp
  · intro i h1 h2
    simp at h1 h2 ⊢
    rw [Nat.add_comm]
    congr 1
    congr 1
    omega

/-- Without carries it is a palindrome at once. -/
theorem added_pal {b n : Nat} (hb : 2 ≤ b) (h0 : n % b ≠ 0) (hs : ∀ i, i < (digsR b n).length → (digsR b n)[i]?.getD 0 + (digsR b n)[(digsR b n).length - 1 - i]?.getD 0 < b) : turnN b (n + turnN b n) = n + turnN b n := by
  have hlen := digsR_pos b n
  have e : n + turnN b n = valR b (List.zipWith (· + ·) (digsR b n) (digsR b n).reverse) := by
    rw [valR_zip b _ _ (by simp), valR_digsR hb, turnN_valR]
  have hzl : (List.zipWith (· + ·) (digsR b n) (digsR b n).reverse).length = (digsR b n).length := by simp
  have hget : ∀ i (hi : i < (List.zipWith (· + ·) (digsR b n) (digsR b n).reverse).length), (List.zipWith (· + ·) (digsR b n) (digsR b n).reverse)[i] = (digsR b n)[i]?.getD 0 + (digsR b n)[(digsR b n).length - 1 - i]?.getD 0 := fun i hi => by
    rw [hzl] at hi
    rw [List.getElem_zipWith, List.getElem_reverse, List.getElem?_eq_getElem hi, List.getElem?_eq_getElem (by omega)]; rfl
  have hm : ∀ x ∈ List.zipWith (· + ·) (digsR b n) (digsR b n).reverse, x < b := fun x hx => by
    obtain ⟨i, hi, rfl⟩ := List.getElem_of_mem hx
    rw [hget i hi]
    exact hs i (by rwa [hzl] at hi)
  have hl : (List.zipWith (· + ·) (digsR b n) (digsR b n).reverse).getLastD 0 ≠ 0 := by
    rw [List.getLastD_eq_getLast?, List.getLast?_eq_getElem?, hzl, List.getElem?_eq_getElem (by rw [hzl]; omega), hget, Option.getD_some]
    have h1 := digsR_head hb n
    have h2 : (digsR b n)[(digsR b n).length - 1 - ((digsR b n).length - 1)]?.getD 0 = n % b := by
      rw [Nat.sub_self, ← h1]
      cases digsR b n <;> rfl
    omega
  rw [e, turnN_valR, digsR_valR hb _ hm hl, zip_rev]

/-! ### As the functions answer -/

def turnI (n b : Int) : Int := if okB n b = true ∧ turnN b.toNat n.toNat ≤ 1000000000 then (turnN b.toNat n.toNat : Nat) else -1
theorem turnI_yes (n b : Nat) (h : okB n b = true) (h' : turnN b n ≤ 1000000000) : turnI n b = (turnN b n : Nat) := by rw [turnI, if_pos ⟨h, h'⟩]; rfl
theorem turnI_no {n b : Int} (h : ¬ okB n b = true) : turnI n b = -1 := by rw [turnI, if_neg fun hh => h hh.1]
theorem turnI_big (n b : Nat) (h : ¬ turnN b n ≤ 1000000000) : turnI n b = -1 := by rw [turnI, if_neg fun hh => h hh.2]
/-- Whether a number is a palindrome. -/
def palB (n b : Int) : Bool := okB n b && decide (turnN b.toNat n.toNat = n.toNat)
theorem palB_yes (n b : Nat) (h : okB n b = true) : palB n b = decide (turnN b n = n) := by simp [palB, h]
theorem palB_no {n b : Int} (h : ¬ okB n b = true) : palB n b = false := by simp [palB, h]
theorem palB_turn (n b : Int) : palB n b = (decide (0 ≤ n) && decide (turnI n b = n)) := by
  by_cases h : okB n b = true
  · obtain ⟨x, k, rfl, rfl, h1, h2, h3⟩ := okB_nat h
    rw [palB_yes x k h]
    by_cases hb : turnN k x ≤ 1000000000
    · rw [turnI_yes x k h hb, Bool.eq_iff_iff]; simp; omega
    · rw [turnI_big x k hb, Bool.eq_iff_iff]; simp; omega
  · rw [palB_no h, turnI_no h, Bool.eq_iff_iff]; simp; omega

/-! ### The next palindrome -/

theorem valR_pow (b k : Nat) : valR b (1 :: (List.replicate k 0 ++ [1])) = b ^ (k + 1) + 1 := by
  have : ∀ k, valR b (List.replicate k 0 ++ [1]) = b ^ k := by
    intro k
    induction k with
    | zero => simp [valR]
    | succ k ih => rw [List.replicate_succ, List.cons_append, valR, ih, Nat.pow_succ, Nat.mul_comm]; omega
  rw [valR, this, Nat.pow_succ, Nat.mul_comm]; omega

theorem pal_pow {b : Nat} (hb : 2 ≤ b) (k : Nat) : turnN b (b ^ (k + 1) + 1) = b ^ (k + 1) + 1 := by
  have hd : digsR b (b ^ (k + 1) + 1) = 1 :: (List.replicate k 0 ++ [1]) := by
    rw [← valR_pow b k]
    refine digsR_valR hb _ (fun x hx => ?_) (by rw [List.getLastD_eq_getLast?, show (1 :: (List.replicate k 0 ++ [1])) = (1 :: List.replicate k 0) ++ [1] from rfl, List.getLast?_concat]; simp)
    simp only [List.mem_cons, List.mem_append, List.mem_replicate, List.not_mem_nil, or_false] at hx
    omega
  rw [turnN_valR, hd, ← valR_pow b k]
  congr 1
  simp

/-- Above each number there is a palindrome, not too far. -/
theorem pal_above {b n : Nat} (hb : 2 ≤ b) (hb' : b ≤ 16) (hn : n ≤ 1000000) : ∃ m, n < m ∧ m ≤ 16000001 ∧ turnN b m = m := by
  have h1 := lt_pow_len hb n
  have h0 := digsR_pos b n
  obtain ⟨k, hk⟩ : ∃ k, (digsR b n).length = k + 1 := ⟨(digsR b n).length - 1, by omega⟩
  refine ⟨b ^ (k + 1) + 1, by rw [← hk]; omega, ?_, pal_pow hb k⟩
  by_cases hz : n = 0
  · subst hz
    rw [len_lt (by omega)] at hk
    obtain rfl : k = 0 := by omega
    simp; omega
  · have h2 := pow_le_of hb n (by omega)
    rw [hk, Nat.add_sub_cancel] at h2
    rw [Nat.pow_succ]
    have h3 : b ^ k * b ≤ 1000000 * 16 := Nat.mul_le_mul (by omega) hb'
    omega

/-- The least palindrome that is more than a number. -/
structure NextPal (b n m : Nat) : Prop where
  more : n < m
  pal : turnN b m = m
  least : ∀ j, n < j → j < m → turnN b j ≠ j
  small : m ≤ 16000001

theorem nextPal_exists {b n : Nat} (hb : 2 ≤ b) (hb' : b ≤ 16) (hn : n ≤ 1000000) : ∃ m, NextPal b n m := by
  obtain ⟨m0, h1, h2, h3⟩ := pal_above hb hb' hn
  obtain ⟨m, ⟨g1, g2⟩, hmin⟩ := least_nat (P := fun m => n < m ∧ turnN b m = m) ⟨m0, h1, h3⟩
  refine ⟨m, g1, g2, fun j hj1 hj2 hj3 => hmin j hj2 ⟨hj1, hj3⟩, ?_⟩
  refine Classical.byContradiction fun hno => hmin m0 (by omega) ⟨h1, h3⟩

theorem NextPal.unique {b n m m' : Nat} (h : NextPal b n m) (h' : NextPal b n m') : m = m' := by
  rcases Nat.lt_trichotomy m m' with hlt | he | hlt
  · exact absurd h.pal (h'.least m h.more hlt)
  · exact he
  · exact absurd h'.pal (h.least m' h'.more hlt)

/-! ### How many there are -/

/-- How many of k numbers from a number on are palindromes. -/
def cntPal (b lo : Nat) : Nat → Nat
  | 0 => 0
  | k + 1 => cntPal b lo k + (if turnN b (lo + k) = lo + k then 1 else 0)

theorem cntPal_add (b lo a : Nat) : ∀ c, cntPal b lo (a + c) = cntPal b lo a + cntPal b (lo + a) c := by
  intro c
  induction c with
  | zero => rfl
  | succ c ih => rw [← Nat.add_assoc, cntPal, ih, cntPal, Nat.add_assoc, Nat.add_assoc lo a c]

theorem digW_of_len {b : Nat} (hb : 2 ≤ b) (n : Nat) : digW b (digsR b n).length n = digsR b n := by
  refine digInd hb (P := fun n => digW b (digsR b n).length n = digsR b n) ?_ ?_ n
  · intro n h; rw [digsR_lt h]; simp [digW, Nat.mod_eq_of_lt h]
  · intro n h ih; rw [digsR_ge hb h, List.length_cons, digW, ih]

theorem len_between {b : Nat} (hb : 2 ≤ b) {L n : Nat} (h1 : b ^ L ≤ n) (h2 : n < b ^ (L + 1)) : (digsR b n).length = L + 1 := by
  have h0 : 1 ≤ b ^ L := Nat.pow_pos (by omega)
  have h3 := lt_pow_len hb n
  have h4 := pow_le_of hb n (by omega)
  have h5 := digsR_pos b n
  have h6 : L < (digsR b n).length := (Nat.pow_lt_pow_iff_right (by omega)).1 (Nat.lt_of_le_of_lt h1 h3)
  have h7 : (digsR b n).length - 1 < L + 1 := (Nat.pow_lt_pow_iff_right (by omega)).1 (Nat.lt_of_le_of_lt h4 h2)
  omega

/-- The same, of numbers of so many digits, by halves. -/
def cntR (b L : Nat) : Nat → Nat → Nat → Nat
  | 0, lo, len => if len = 0 then 0 else if valF b 0 (digW b L lo) == lo then 1 else 0
  | f + 1, lo, len => cntR b L f lo (len / 2) + cntR b L f (lo + len / 2) (len - len / 2)

theorem cntR_eq {b L : Nat} (hb : 2 ≤ b) : ∀ f lo len, len ≤ 2 ^ f → b ^ L ≤ lo → lo + len ≤ b ^ (L + 1) → cntR b (L + 1) f lo len = cntPal b lo len := by
  intro f
  induction f with
  | zero =>
    intro lo len h1 h2 h3
    have hl : len = 0 ∨ len = 1 := by
      have : (2 : Nat) ^ 0 = 1 := rfl
      omega
    rcases hl with rfl | rfl
    · rfl
    · have hlen := len_between hb (n := lo) h2 (by omega)
      have hd := digW_of_len hb lo
      rw [hlen] at hd
      simp only [cntR, cntPal, hd, turnN, Nat.add_zero, Nat.zero_add]
      by_cases h : valF b 0 (digsR b lo) = lo
      · simp [h]
      · simp [h]
  | succ f ih =>
    intro lo len h1 h2 h3
    have hp : (2 : Nat) ^ (f + 1) = 2 ^ f * 2 := Nat.pow_succ ..
    rw [cntR, ih lo (len / 2) (by omega) h2 (by omega), ih (lo + len / 2) (len - len / 2) (by omega) (by omega) (by omega), ← cntPal_add]
    congr 1; omega

/-! ### Steps to a palindrome -/

/-- How often a number and it turned round are to be added, and which palindrome then comes; none, if one is more than may be told. -/
def stpN (b : Nat) : Nat → Nat → Option (Nat × Nat)
  | 0, _ => none
  | f + 1, n => if turnN b n = n then some (0, n) else if n + turnN b n ≤ 1000000000 then (stpN b f (n + turnN b n)).map (fun q => (q.1 + 1, q.2)) else none

theorem stepsN_stable {b : Nat} (hb : 2 ≤ b) : ∀ f f' n, 1000000001 ≤ f + n → 1000000001 ≤ f' + n → n ≤ 1000000000 → stpN b f n = stpN b f' n := by
  intro f
  induction f with
  | zero => intro f' n h1 _ h3; omega
  | succ f ih =>
    intro f' n h1 h2 h3
    obtain ⟨g, rfl⟩ : ∃ g, f' = g + 1 := ⟨f' - 1, by omega⟩
    rw [stpN, stpN]
    by_cases hp : turnN b n = n
    · rw [if_pos hp, if_pos hp]
    · rw [if_neg hp, if_neg hp]
      by_cases hn : n + turnN b n ≤ 1000000000
      · rw [if_pos hn, if_pos hn]
        have h0 : 1 ≤ n := by
          refine Classical.byContradiction fun hz => hp ?_
          obtain rfl : n = 0 := by omega
          exact turnN_lt (by omega)
        have := turn_pos hb h0
        rw [ih g (n + turnN b n) (by omega) (by omega) hn]
      · rw [if_neg hn, if_neg hn]

def stepsO (b n : Nat) : Option (Nat × Nat) := stpN b 1000000001 n

theorem stepsO_pal {b n : Nat} (h : turnN b n = n) : stepsO b n = some (0, n) := by
  show stpN b (1000000000 + 1) n = _
  rw [stpN, if_pos h]
theorem stepsO_big {b n : Nat} (h : turnN b n ≠ n) (h' : ¬ n + turnN b n ≤ 1000000000) : stepsO b n = none := by
  show stpN b (1000000000 + 1) n = _
  rw [stpN, if_neg h, if_neg h']
theorem stepsO_more {b n : Nat} (hb : 2 ≤ b) (h : turnN b n ≠ n) (h' : n + turnN b n ≤ 1000000000) : stepsO b n = (stepsO b (n + turnN b n)).map (fun q => (q.1 + 1, q.2)) := by
  have h0 : 1 ≤ n := by
    refine Classical.byContradiction fun hz => h ?_
    obtain rfl : n = 0 := by omega
    exact turnN_lt (by omega)
  show stpN b (1000000000 + 1) n = _
  rw [stpN, if_neg h, if_pos h', stepsN_stable hb 1000000000 1000000001 (n + turnN b n) (by omega) (by omega) h']; rfl

end Pl
end Go.Proofs.YtgkkoegfmhgcjaaGreatDoor

namespace Go.Proofs.YtgkkoegfmhgcjaaGreatDoor
namespace Pl

/-- What a number makes. -/
def madeN (b n : Nat) : Nat := n + sumD b n

theorem sumD_pos {b : Nat} (hb : 2 ≤ b) (n : Nat) : 1 ≤ n → 1 ≤ sumD b n := by
  refine digInd hb (P := fun n => 1 ≤ n → 1 ≤ sumD b n) ?_ ?_ n
  · intro n h hn; rw [sumD_lt h]; exact hn
  · intro n h ih _
    have h1 : 1 ≤ n / b := (Nat.one_le_div_iff (by omega)).2 h
    have := ih h1
    rw [sumD_ge hb h]; omega

theorem made_more {b n : Nat} (hb : 2 ≤ b) (h : 1 ≤ n) : n < madeN b n := by
  have := sumD_pos hb n h
  unfold madeN; omega
theorem made_zero {b : Nat} (hb : 2 ≤ b) : madeN b 0 = 0 := by rw [madeN, sumD_lt (by omega)]
theorem made_ge (b n : Nat) : n ≤ madeN b n := Nat.le_add_right _ _

theorem sumD_mod2 {b : Nat} (hb : 2 ≤ b) (n : Nat) : ∃ k, n = sumD b n + (b - 1) * k := by
  refine digInd hb (P := fun n => ∃ k, n = sumD b n + (b - 1) * k) ?_ ?_ n
  · intro n h; exact ⟨0, by rw [sumD_lt h]; omega⟩
  · intro n h ih
    obtain ⟨k, hk⟩ := ih
    obtain ⟨B, rfl⟩ : ∃ B, b = B + 1 := ⟨b - 1, by omega⟩
    have h1 := Nat.div_add_mod n (B + 1)
    refine ⟨n / (B + 1) + k, ?_⟩
    rw [sumD_ge hb h, Nat.add_sub_cancel, Nat.mul_add]
    rw [Nat.add_sub_cancel] at hk
    rw [Nat.add_mul, Nat.one_mul] at h1
    omega

theorem made_mod {b : Nat} (hb : 2 ≤ b) (n : Nat) : ((b : Int) - 1) ∣ (2 * (n : Int) - (madeN b n : Int)) := by
  obtain ⟨k, hk⟩ := sumD_mod2 hb n
  refine ⟨k, ?_⟩
  have e : ((b - 1 : Nat) : Int) = (b : Int) - 1 := by omega
  have h2 : ((b - 1 : Nat) : Int) * (k : Int) = (((b - 1) * k : Nat) : Int) := (Int.natCast_mul _ _).symm
  rw [← e, h2]
  unfold madeN; omega

theorem made_even {b : Nat} (hb : 2 ≤ b) (h : b % 2 = 1) (n : Nat) : madeN b n % 2 = 0 := by
  obtain ⟨k, hk⟩ := sumD_mod2 hb n
  obtain ⟨c, hc⟩ : ∃ c, b - 1 = 2 * c := ⟨(b - 1) / 2, by omega⟩
  rw [hc, Nat.mul_assoc] at hk
  unfold madeN; omega

/-! ### Makers -/

theorem len_mono {b : Nat} (hb : 2 ≤ b) {m n : Nat} (h : m ≤ n) : (digsR b m).length ≤ (digsR b n).length := by
  by_cases hm : m = 0
  · subst hm; rw [len_lt (by omega)]; exact digsR_pos b n
  · have hbase : ∀ m n, m ≤ n → (digsR b m).length ≤ (digsR b n).length := by
      intro m
      refine digInd hb (P := fun m => ∀ n, m ≤ n → (digsR b m).length ≤ (digsR b n).length) ?_ ?_ m
      · intro m h n _; rw [len_lt h]; exact digsR_pos b n
      · intro m h ih n hmn
        rw [len_ge hb h, len_ge hb (n := n) (by omega)]
        have := ih (n / b) (Nat.div_le_div_right hmn)
        omega
    exact hbase m n h

theorem sumD_len2 {b : Nat} (hb : 2 ≤ b) (n : Nat) : sumD b n ≤ (b - 1) * (digsR b n).length := by
  refine digInd hb (P := fun n => sumD b n ≤ (b - 1) * (digsR b n).length) ?_ ?_ n
  · intro n h; rw [sumD_lt h, len_lt h]; omega
  · intro n h ih
    have := Nat.mod_lt n (show 0 < b by omega)
    rw [sumD_ge hb h, len_ge hb h, Nat.mul_add, Nat.mul_one]; omega

/-- A maker is not far below. -/
theorem maker_near {b m n : Nat} (hb : 2 ≤ b) (h : madeN b m = n) : n ≤ m + (b - 1) * (digsR b n).length := by
  have h1 := sumD_len2 hb m
  have h2 := len_mono hb (m := m) (n := n) (by rw [← h]; exact made_ge b m)
  have h3 : (b - 1) * (digsR b m).length ≤ (b - 1) * (digsR b n).length := Nat.mul_le_mul_left _ h2
  unfold madeN at h; omega

/-- The makers, from a number on that is not above any. -/
def makersF (b n lo : Nat) : List Nat := ((List.range (n + 1 - lo)).map (· + lo)).filter fun m => madeN b m == n
theorem mem_makersF {b n lo m : Nat} (hlo : lo ≤ n + 1) : m ∈ makersF b n lo ↔ lo ≤ m ∧ madeN b m = n := by
  unfold makersF
  rw [List.mem_filter, List.mem_map, beq_iff_eq]
  constructor
  · rintro ⟨⟨i, hi, rfl⟩, h⟩; exact ⟨by omega, h⟩
  · rintro ⟨h1, h2⟩
    have := made_ge b m
    exact ⟨⟨m - lo, List.mem_range.2 (by omega), by omega⟩, h2⟩

/-! ### Rows -/

/-- The row from a number on, as far as its numbers are at most 3000. -/
def rowF (b : Nat) : Nat → Nat → List Nat
  | 0, _ => []
  | f + 1, n => if n ≤ 3000 then n :: rowF b f (madeN b n) else []

theorem rowF_stable {b : Nat} (hb : 2 ≤ b) : ∀ f f' n, 1 ≤ n → 3001 ≤ f + n → 3001 ≤ f' + n → rowF b f n = rowF b f' n := by
  have hbig : ∀ f n, 3001 ≤ n → rowF b f n = [] := fun f n h => by
    cases f with
    | zero => rfl
    | succ f => rw [rowF, if_neg (by omega)]
  intro f
  induction f with
  | zero => intro f' n _ h2 h3; rw [hbig _ _ (by omega), hbig _ _ (by omega)]
  | succ f ih =>
    intro f' n h1 h2 h3
    by_cases hn : n ≤ 3000
    · obtain ⟨g, rfl⟩ : ∃ g, f' = g + 1 := ⟨f' - 1, by omega⟩
      have := made_more hb h1
      rw [rowF, rowF, if_pos hn, if_pos hn, ih g _ (by omega) (by omega) (by omega)]
    · rw [hbig _ _ (by omega), hbig _ _ (by omega)]

def rowL (b n : Nat) : List Nat := rowF b 3001 n
theorem rowL_big {b n : Nat} (h : 3000 < n) : rowL b n = [] := by
  show rowF b (3000 + 1) n = []
  rw [rowF, if_neg (by omega)]
theorem rowL_cons {b n : Nat} (hb : 2 ≤ b) (h1 : 1 ≤ n) (h : n ≤ 3000) : rowL b n = n :: rowL b (madeN b n) := by
  have hm := made_more hb h1
  show rowF b (3000 + 1) n = n :: rowF b 3001 (madeN b n)
  rw [rowF, if_pos h, rowF_stable hb 3000 3001 _ (by omega) (by omega) (by omega)]

/-- Induction from great numbers down. -/
theorem rowInd {P : Nat → Prop} (h0 : ∀ n, 3000 < n → P n) (h1 : ∀ n, 1 ≤ n → n ≤ 3000 → (∀ m, n < m → P m) → P n) : ∀ n, 1 ≤ n → P n := by
  have key : ∀ k n, 1 ≤ n → 3001 ≤ k + n → P n := by
    intro k
    induction k with
    | zero => intro n _ h; exact h0 n (by omega)
    | succ k ih =>
      intro n hn h
      by_cases hle : n ≤ 3000
      · exact h1 n hn hle fun m hm => ih m (by omega) (by omega)
      · exact h0 n (by omega)
  exact fun n hn => key 3001 n hn (by omega)

theorem rowL_ge {b : Nat} (hb : 2 ≤ b) : ∀ n, 1 ≤ n → ∀ x ∈ rowL b n, n ≤ x ∧ x ≤ 3000 := by
  refine rowInd (fun n h x hx => ?_) (fun n h1 h2 ih x hx => ?_)
  · rw [rowL_big h] at hx; simp at hx
  · have hm := made_more hb h1
    rw [rowL_cons hb h1 h2, List.mem_cons] at hx
    rcases hx with rfl | hx
    · exact ⟨Nat.le_refl _, h2⟩
    · have := ih _ hm x hx; omega

theorem rowL_len {b : Nat} (hb : 2 ≤ b) : ∀ n, 1 ≤ n → (rowL b n).length ≤ 3001 - n := by
  refine rowInd (fun n h => ?_) (fun n h1 h2 ih => ?_)
  · rw [rowL_big h]; simp
  · have hm := made_more hb h1
    have := ih _ hm
    rw [rowL_cons hb h1 h2, List.length_cons]; omega

theorem rowL_asc {b : Nat} (hb : 2 ≤ b) : ∀ n, 1 ≤ n → (rowL b n).Pairwise (· < ·) := by
  refine rowInd (fun n h => ?_) (fun n h1 h2 ih => ?_)
  · rw [rowL_big h]; exact List.Pairwise.nil
  · have hm := made_more hb h1
    rw [rowL_cons hb h1 h2, List.pairwise_cons]
    exact ⟨fun x hx => by have := rowL_ge hb _ (by omega) x hx; omega, ih _ hm⟩

/-- Each next one is made by the one before. -/
theorem rowL_next {b : Nat} (hb : 2 ≤ b) : ∀ n, 1 ≤ n → ∀ k, k + 1 < (rowL b n).length → (rowL b n)[k + 1]?.getD 0 = madeN b ((rowL b n)[k]?.getD 0) := by
  refine rowInd (fun n h k hk => ?_) (fun n h1 h2 ih k hk => ?_)
  · rw [rowL_big h] at hk; simp at hk
  · have hm := made_more hb h1
    rw [rowL_cons hb h1 h2] at hk ⊢
    cases k with
    | zero =>
      by_cases hle : madeN b n ≤ 3000
      · rw [rowL_cons hb (by omega) hle]; rfl
      · rw [rowL_big (by omega)] at hk; simp at hk
    | succ k =>
      rw [List.getElem?_cons_succ, List.getElem?_cons_succ]
      exact ih _ hm k (by simpa using hk)

theorem rowL_last {b : Nat} (hb : 2 ≤ b) : ∀ n, 1 ≤ n → n ≤ 3000 → 3000 < madeN b ((rowL b n)[(rowL b n).length - 1]?.getD 0) := by
  refine rowInd (fun n h hn => by omega) (fun n h1 h2 ih _ => ?_)
  have hm := made_more hb h1
  by_cases hle : madeN b n ≤ 3000
  · have := ih _ hm hle
    have hl : 1 ≤ (rowL b (madeN b n)).length := by rw [rowL_cons hb (by omega) hle]; simp
    rw [rowL_cons hb h1 h2, List.length_cons, Nat.add_sub_cancel]
    obtain ⟨j, hj⟩ : ∃ j, (rowL b (madeN b n)).length = j + 1 := ⟨_ - 1, (Nat.sub_add_cancel hl).symm⟩
    rw [hj, List.getElem?_cons_succ]
    rw [hj, Nat.add_sub_cancel] at this
    exact this
  · rw [rowL_cons hb h1 h2, rowL_big (b := b) (n := madeN b n) (by omega)]
    simp; omega

/-! ### Where rows come together -/

/-- The least number in both rows, or none. -/
def Joins (b n m : Nat) : Option Nat → Prop
  | some a => a ∈ rowL b n ∧ a ∈ rowL b m ∧ ∀ x, x ∈ rowL b n → x ∈ rowL b m → a ≤ x
  | none => ∀ x, x ∈ rowL b n → x ∉ rowL b m

theorem Joins.unique {b n m : Nat} {r s : Option Nat} (h : Joins b n m r) (h' : Joins b n m s) : r = s := by
  cases r with
  | none => cases s with
    | none => rfl
    | some c => exact absurd h'.2.1 (h c h'.1)
  | some a => cases s with
    | none => exact absurd h.2.1 (h' a h.1)
    | some c =>
      have h1 := h.2.2 c h'.1 h'.2.1
      have h2 := h'.2.2 a h.1 h.2.1
      rw [show a = c by omega]

theorem Joins.sym {b n m : Nat} {r : Option Nat} (h : Joins b n m r) : Joins b m n r := by
  cases r with
  | none => exact fun x h1 h2 => h x h2 h1
  | some a => exact ⟨h.2.1, h.1, fun x h1 h2 => h.2.2 x h2 h1⟩

theorem joins_same {b n : Nat} (hb : 2 ≤ b) (h1 : 1 ≤ n) (h2 : n ≤ 3000) : Joins b n n (some n) := by
  have hm : n ∈ rowL b n := by rw [rowL_cons hb h1 h2]; simp
  exact ⟨hm, hm, fun x hx _ => (rowL_ge hb n h1 x hx).1⟩

/-- The lesser one of both goes on. -/
theorem joins_step {b n m : Nat} (hb : 2 ≤ b) (h1 : 1 ≤ n) (h2 : n ≤ 3000) (hm : n < m) {r : Option Nat} (h : Joins b (madeN b n) m r) : Joins b n m r := by
  have hno : n ∉ rowL b m := fun hx => by have := rowL_ge hb m (by omega) n hx; omega
  have hc := rowL_cons hb h1 h2
  cases r with
  | none =>
    intro x hx
    rw [hc, List.mem_cons] at hx
    rcases hx with rfl | hx
    · exact hno
    · exact h x hx
  | some a =>
    refine ⟨by rw [hc]; exact List.mem_cons_of_mem _ h.1, h.2.1, fun x hx hxm => ?_⟩
    rw [hc, List.mem_cons] at hx
    rcases hx with rfl | hx
    · exact absurd hxm hno
    · exact h.2.2 x hx hxm

theorem joins_big {b n m : Nat} (h : 3000 < n) : Joins b n m none := by
  intro x hx
  rw [rowL_big h] at hx; simp at hx

end Pl
end Go.Proofs.YtgkkoegfmhgcjaaGreatDoor

namespace Go.Proofs.YtgkkoegfmhgcjaaGreatDoor
namespace Pl

/-- An end of its square by a power. -/
def Idem (P n : Nat) : Prop := n < P ∧ n * n % P = n
instance (P n : Nat) : Decidable (Idem P n) := inferInstanceAs (Decidable (_ ∧ _))

/-- All ends, in ascending order. -/
def endsF (P : Nat) : List Nat := (List.range P).filter fun n => n * n % P == n
theorem mem_endsF {P n : Nat} : n ∈ endsF P ↔ Idem P n := by simp [endsF, Idem]

/-- The ends of so many digits, each found from one of a digit fewer. -/
def endsC (b : Nat) : Nat → List Nat
  | 0 => [0]
  | L + 1 => (endsC b L).flatMap fun n => ((List.range b).filter fun d => (d * b ^ L + n) * (d * b ^ L + n) % b ^ (L + 1) == d * b ^ L + n).map fun d => d * b ^ L + n

theorem idem_rest {b L n : Nat} (hb : 1 ≤ b) (h : Idem (b ^ (L + 1)) n) : Idem (b ^ L) (n % b ^ L) := by
  have hp : 1 ≤ b ^ L := Nat.pow_pos (by omega)
  refine ⟨Nat.mod_lt _ (by omega), ?_⟩
  have h2 : n * n % b ^ (L + 1) % b ^ L = n * n % b ^ L := Nat.mod_mod_of_dvd _ ⟨b, Nat.pow_succ ..⟩
  rw [h.2] at h2
  rw [← Nat.mul_mod]; exact h2.symm

theorem mem_endsC {b : Nat} (hb : 1 ≤ b) : ∀ L n, n ∈ endsC b L ↔ Idem (b ^ L) n := by
  intro L
  induction L with
  | zero => intro n; simp [endsC, Idem]; omega
  | succ L ih =>
    intro n
    have hp : 1 ≤ b ^ L := Nat.pow_pos (by omega)
    simp only [endsC, List.mem_flatMap, List.mem_map, List.mem_filter, List.mem_range, beq_iff_eq]
    constructor
    · rintro ⟨m, hm, d, ⟨hd, hi⟩, rfl⟩
      have hm' := ((ih m).1 hm).1
      refine ⟨?_, hi⟩
      have h1 : (d + 1) * b ^ L ≤ b * b ^ L := Nat.mul_le_mul_right _ hd
      rw [Nat.add_mul, Nat.one_mul] at h1
      rw [Nat.pow_succ, Nat.mul_comm (b ^ L) b]
      omega
    · intro h
      have e : n / b ^ L * b ^ L + n % b ^ L = n := by rw [Nat.mul_comm]; exact Nat.div_add_mod n _
      refine ⟨n % b ^ L, (ih _).2 (idem_rest hb h), n / b ^ L, ⟨?_, by rw [e]; exact h.2⟩, e⟩
      rw [Nat.div_lt_iff_lt_mul (by omega), Nat.mul_comm, ← Nat.pow_succ]; exact h.1

/-- How many primes a base has. -/
def primesT (b : Nat) : Nat := if b = 6 ∨ b = 10 ∨ b = 12 ∨ b = 14 ∨ b = 15 then 2 else 1

theorem ends_check : ((List.range 15).all fun i => (List.range 4).all fun j => (endsC (i + 2) (j + 1)).length == 2 ^ primesT (i + 2) && decide (endsC (i + 2) (j + 1)).Nodup) = true := by decide +kernel
theorem lift_check : ((List.range 15).all fun i => (List.range 3).all fun j => (endsC (i + 2) (j + 1)).all fun n => ((List.range (i + 2)).filter fun d => (d * (i + 2) ^ (j + 1) + n) * (d * (i + 2) ^ (j + 1) + n) % (i + 2) ^ (j + 2) == d * (i + 2) ^ (j + 1) + n).length == 1) = true := by decide +kernel

theorem nodup_sub {α : Type} [DecidableEq α] : ∀ (l m : List α), l.Nodup → (∀ x, x ∈ l → x ∈ m) → l.length ≤ m.length := by
  intro l
  induction l with
  | nil => intro m _ _; simp
  | cons a l ih =>
    intro m hn hs
    rw [List.nodup_cons] at hn
    have ha : a ∈ m := hs a (by simp)
    have h1 := ih (m.erase a) hn.2 fun x hx => (List.mem_erase_of_ne (fun e => hn.1 (by rw [← e]; exact hx))).2 (hs x (by simp [hx]))
    have h2 := List.length_erase_of_mem ha
    have h3 : 0 < m.length := List.length_pos_of_mem ha
    simp only [List.length_cons]; omega

theorem endsF_len {b L : Nat} (h1 : 2 ≤ b) (h2 : b ≤ 16) (h3 : 1 ≤ L) (h4 : L ≤ 4) : (endsF (b ^ L)).length = 2 ^ primesT b := by
  have c1 := List.all_eq_true.1 ends_check (b - 2) (List.mem_range.2 (by omega))
  have c2 := List.all_eq_true.1 c1 (L - 1) (List.mem_range.2 (by omega))
  rw [show b - 2 + 2 = b by omega, show L - 1 + 1 = L by omega, Bool.and_eq_true, beq_iff_eq, decide_eq_true_eq] at c2
  have hn : (endsF (b ^ L)).Nodup := List.Nodup.sublist List.filter_sublist List.nodup_range
  have g1 := nodup_sub _ (endsC b L) hn fun x hx => (mem_endsC (by omega) L x).2 (mem_endsF.1 hx)
  have g2 := nodup_sub _ (endsF (b ^ L)) c2.2 fun x hx => mem_endsF.2 ((mem_endsC (by omega) L x).1 hx)
  omega

/-- Each end is the end of just one that is a digit longer. -/
theorem lift_one {b L n : Nat} (h1 : 2 ≤ b) (h2 : b ≤ 16) (h3 : 1 ≤ L) (h4 : L ≤ 3) (h : Idem (b ^ L) n) : ∃ d, d < b ∧ Idem (b ^ (L + 1)) (d * b ^ L + n) ∧ ∀ d', d' < b → Idem (b ^ (L + 1)) (d' * b ^ L + n) → d' = d := by
  have c1 := List.all_eq_true.1 lift_check (b - 2) (List.mem_range.2 (by omega))
  have c2 := List.all_eq_true.1 c1 (L - 1) (List.mem_range.2 (by omega))
  rw [show b - 2 + 2 = b by omega, show L - 1 + 1 = L by omega, show L - 1 + 2 = L + 1 by omega] at c2
  have c3 := List.all_eq_true.1 c2 n ((mem_endsC (by omega) L n).2 h)
  rw [beq_iff_eq] at c3
  have hlt : ∀ d, d < b → d * b ^ L + n < b ^ (L + 1) := fun d hd => by
    have g1 : (d + 1) * b ^ L ≤ b * b ^ L := Nat.mul_le_mul_right _ hd
    rw [Nat.add_mul, Nat.one_mul] at g1
    have := h.1
    rw [Nat.pow_succ, Nat.mul_comm (b ^ L) b]
    omega
  match hl : (List.range b).filter (fun d => (d * b ^ L + n) * (d * b ^ L + n) % b ^ (L + 1) == d * b ^ L + n), c3 with
  | [d], _ =>
    have hd : d ∈ (List.range b).filter (fun d => (d * b ^ L + n) * (d * b ^ L + n) % b ^ (L + 1) == d * b ^ L + n) := by rw [hl]; simp
    rw [List.mem_filter, List.mem_range, beq_iff_eq] at hd
    refine ⟨d, hd.1, ⟨hlt d hd.1, hd.2⟩, fun d' hd' hi => ?_⟩
    have hm : d' ∈ (List.range b).filter (fun d => (d * b ^ L + n) * (d * b ^ L + n) % b ^ (L + 1) == d * b ^ L + n) := by
      rw [List.mem_filter, List.mem_range, beq_iff_eq]; exact ⟨hd', hi.2⟩
    rw [hl] at hm
    simpa using hm

theorem idem_zero {P : Nat} (h : 1 ≤ P) : Idem P 0 := ⟨by omega, by simp⟩
theorem idem_one {P : Nat} (h : 2 ≤ P) : Idem P 1 := ⟨by omega, Nat.mod_eq_of_lt (by omega)⟩
theorem idem_cube {P n : Nat} (h : Idem P n) : n * n % P * n % P = n := by rw [h.2, h.2]
theorem idem_mul {P n m : Nat} (hn : Idem P n) (hm : Idem P m) : Idem P (n * m % P) := by
  refine ⟨Nat.mod_lt _ (by have := hn.1; omega), ?_⟩
  have e : n * m * (n * m) = (n * n) * (m * m) := by rw [Nat.mul_mul_mul_comm]
  rw [← Nat.mul_mod, e, Nat.mul_mod, hn.2, hm.2]

/-- The other end. -/
def otherN (P n : Nat) : Nat := if n ≤ 1 then 1 - n else P + 1 - n
theorem other_facts {P n : Nat} (hP : 2 ≤ P) (h : Idem P n) : Idem P (otherN P n) ∧ otherN P (otherN P n) = n ∧ n * otherN P n % P = 0 := by
  by_cases hn : n ≤ 1
  · have hc : n = 0 ∨ n = 1 := by omega
    rcases hc with rfl | rfl
    · exact ⟨by simpa [otherN] using idem_one hP, by simp [otherN], by simp⟩
    · exact ⟨by simpa [otherN] using idem_zero (by omega), by simp [otherN], by simp [otherN]⟩
  · have hl := h.1
    have e : otherN P n = P + 1 - n := by rw [otherN, if_neg hn]
    obtain ⟨m, hm⟩ : ∃ m, P + 1 - n = m := ⟨_, rfl⟩
    have hnm : n + m = P + 1 := by omega
    rw [e, hm]
    -- n * n = n + P * q
    have hq : n * n = n + P * (n * n / P) := by
      have := Nat.div_add_mod (n * n) P
      rw [h.2] at this; omega
    obtain ⟨q, hqq⟩ : ∃ q, n * n / P = q := ⟨_, rfl⟩
    rw [hqq] at hq
    -- n * m = n * (P + 1) - n * n = P * (n - q)
    have h1 : n * n + n * m = n * P + n := by rw [← Nat.mul_add, hnm, Nat.mul_add, Nat.mul_one]
    have h2 : P * q + n * m = n * P := by omega
    have hql : q ≤ n := by
      refine Classical.byContradiction fun hno => ?_
      have : P * (n + 1) ≤ P * q := Nat.mul_le_mul_left P (by omega)
      rw [Nat.mul_add, Nat.mul_comm P n] at this
      omega
    have h3 : n * m = P * (n - q) := by
      rw [Nat.mul_sub, Nat.mul_comm P n]; omega
    have h0 : n * m % P = 0 := by rw [h3, Nat.mul_mod_right]
    refine ⟨⟨by omega, ?_⟩, ?_, h0⟩
    · -- m * m = (P + 1) * m - n * m
      have g1 : n * m + m * m = P * m + m := by rw [← Nat.add_mul, hnm, Nat.add_mul, Nat.one_mul]
      have g2 : m * m = m + P * (m - (n - q)) := by
        have g3 : n - q ≤ m := by
          refine Classical.byContradiction fun hno => ?_
          have : P * (m + 1) ≤ P * (n - q) := Nat.mul_le_mul_left P (by omega)
          rw [Nat.mul_add] at this
          omega
        have g4 : P * (n - q) ≤ P * m := Nat.mul_le_mul_left P g3
        rw [Nat.mul_sub]; omega
      rw [g2, Nat.add_mul_mod_self_left, Nat.mod_eq_of_lt (by omega)]
    · rw [otherN, if_neg (by omega)]; omega

end Pl
end Go.Proofs.YtgkkoegfmhgcjaaGreatDoor

namespace Go.Proofs.YtgkkoegfmhgcjaaGreatDoor
namespace Pl

/-- Whether a number of so many digits is an end of its square, as the functions answer. -/
def endB (n l b : Int) : Bool := ((decide (1 ≤ l) && decide (l ≤ 4)) && baseB b) && (decide (0 ≤ n) && decide (Idem (b.toNat ^ l.toNat) n.toNat))

theorem endB_iff (n l b : Nat) : endB n l b = true ↔ (1 ≤ l ∧ l ≤ 4) ∧ (2 ≤ b ∧ b ≤ 16) ∧ Idem (b ^ l) n := by
  simp only [endB, Bool.and_eq_true, decide_eq_true_eq, baseB_iff, Int.toNat_natCast]
  constructor
  · rintro ⟨⟨⟨h1, h2⟩, h3, h4⟩, _, h5⟩; exact ⟨by omega, by omega, h5⟩
  · rintro ⟨h1, h2, h5⟩; exact ⟨⟨by omega, by omega⟩, by omega, h5⟩

theorem endB_nat {n l b : Int} (h : endB n l b = true) : ∃ x L k : Nat, n = (x : Int) ∧ l = (L : Int) ∧ b = (k : Int) ∧ 1 ≤ L ∧ L ≤ 4 ∧ 2 ≤ k ∧ k ≤ 16 ∧ Idem (k ^ L) x := by
  have h' := h
  simp only [endB, Bool.and_eq_true, decide_eq_true_eq, baseB_iff] at h'
  exact ⟨n.toNat, l.toNat, b.toNat, by omega, by omega, by omega, by omega, by omega, by omega, by omega, h'.2.2⟩

/-- Numbers of digits and bases of which ends are asked. -/
def endsOk (l b : Int) : Bool := (decide (1 ≤ l) && decide (l ≤ 4)) && baseB b
theorem endsOk_nat {l b : Int} (h : endsOk l b = true) : ∃ L k : Nat, l = (L : Int) ∧ b = (k : Int) ∧ 1 ≤ L ∧ L ≤ 4 ∧ 2 ≤ k ∧ k ≤ 16 := by
  simp only [endsOk, Bool.and_eq_true, decide_eq_true_eq, baseB_iff] at h
  exact ⟨l.toNat, b.toNat, by omega, by omega, by omega, by omega, by omega, by omega⟩
theorem endsOk_of {L k : Nat} (h1 : 1 ≤ L) (h2 : L ≤ 4) (h3 : 2 ≤ k) (h4 : k ≤ 16) : endsOk L k = true := by
  simp only [endsOk, Bool.and_eq_true, decide_eq_true_eq, baseB_iff]; omega
theorem endB_no {n l b : Int} (h : ¬ endsOk l b = true) : endB n l b = false := by
  unfold endB; unfold endsOk at h; simp [Bool.eq_false_iff.2 h]
theorem endB_yes {n L k : Nat} (h : endsOk L k = true) : endB n L k = decide (Idem (k ^ L) n) := by
  unfold endB; unfold endsOk at h; rw [h]; simp

theorem pow_le16 {b L : Nat} (hb : b ≤ 16) (hL : L ≤ 4) : b ^ L ≤ 65536 := by
  have g1 : b ^ L ≤ 16 ^ L := Nat.pow_le_pow_left hb _
  have g2 : (16 : Nat) ^ L ≤ 16 ^ 4 := Nat.pow_le_pow_right (by omega) hL
  omega

/-- All ends, as the functions answer. -/
def endsA (l b : Int) : List Int := if endsOk l b = true then (endsF (b.toNat ^ l.toNat)).map fun n : Nat => (n : Int) else []
theorem endsA_yes {L k : Nat} (h : endsOk L k = true) : endsA L k = (endsF (k ^ L)).map fun n : Nat => (n : Int) := by rw [endsA, if_pos h]; rfl
theorem endsA_no {l b : Int} (h : ¬ endsOk l b = true) : endsA l b = [] := by rw [endsA, if_neg h]

/-- The ends below a number, in ascending order. -/
def endsTo (P m : Nat) : List Nat := (List.range m).filter fun n => n * n % P == n
theorem endsTo_all (P : Nat) : endsTo P P = endsF P := rfl
theorem endsTo_succ (P m : Nat) : endsTo P (m + 1) = endsTo P m ++ (if m * m % P = m then [m] else []) := by
  unfold endsTo
  rw [List.range_succ, List.filter_append]
  congr 1
  by_cases h : m * m % P = m
  · simp [List.filter, h]
  · have hb : (m * m % P == m) = false := by simpa using h
    simp [List.filter, hb, h]
theorem endsTo_len (P m : Nat) : (endsTo P m).length ≤ m := by
  have := List.length_filter_le (fun n => n * n % P == n) (List.range m)
  rw [List.length_range] at this
  exact this

/-- The other end, as the functions answer. -/
def otherI (n l b : Int) : Int := if endB n l b = true then ((otherN (b.toNat ^ l.toNat) n.toNat : Nat) : Int) else -1
theorem otherI_yes {n L k : Nat} (h : endB n L k = true) : otherI n L k = ((otherN (k ^ L) n : Nat) : Int) := by rw [otherI, if_pos h]; rfl
theorem otherI_no {n l b : Int} (h : ¬ endB n l b = true) : otherI n l b = -1 := by rw [otherI, if_neg h]

/-- The digit ahead of a longer end. -/
def aheadD (b L n : Nat) : Nat := ((List.range b).find? fun d => decide (Idem (b ^ (L + 1)) (d * b ^ L + n))).getD 0
/-- The longer end. -/
def longerN (b L n : Nat) : Nat := aheadD b L n * b ^ L + n

theorem ahead_spec {b L n : Nat} (h1 : 2 ≤ b) (h2 : b ≤ 16) (h3 : 1 ≤ L) (h4 : L ≤ 3) (h : Idem (b ^ L) n) : aheadD b L n < b ∧ Idem (b ^ (L + 1)) (longerN b L n) ∧ ∀ d, d < b → Idem (b ^ (L + 1)) (d * b ^ L + n) → d = aheadD b L n := by
  obtain ⟨d, hd, hi, hu⟩ := lift_one h1 h2 h3 h4 h
  have e : aheadD b L n = d := by
    unfold aheadD
    cases hf : (List.range b).find? fun d => decide (Idem (b ^ (L + 1)) (d * b ^ L + n)) with
    | none =>
      rw [List.find?_eq_none] at hf
      exact absurd (decide_eq_true hi) (hf d (List.mem_range.2 hd))
    | some d' =>
      have g1 := List.find?_some hf
      have g2 := List.mem_range.1 (List.mem_of_find?_eq_some hf)
      exact hu d' g2 (of_decide_eq_true g1)
  refine ⟨by rw [e]; exact hd, by unfold longerN; rw [e]; exact hi, fun d' hd' hi' => by rw [e]; exact hu d' hd' hi'⟩

theorem longer_mod {b L n : Nat} (h : Idem (b ^ L) n) : longerN b L n % b ^ L = n := by
  unfold longerN
  rw [Nat.mul_comm, Nat.mul_add_mod, Nat.mod_eq_of_lt h.1]

/-- The only one of a digit more that ends so. -/
theorem longer_only {b L n m : Nat} (h1 : 2 ≤ b) (h2 : b ≤ 16) (h3 : 1 ≤ L) (h4 : L ≤ 3) (h : Idem (b ^ L) n) (hm : Idem (b ^ (L + 1)) m) (he : m % b ^ L = n) : m = longerN b L n := by
  obtain ⟨_, _, hu⟩ := ahead_spec h1 h2 h3 h4 h
  have hp : 1 ≤ b ^ L := Nat.pow_pos (by omega)
  have e : m / b ^ L * b ^ L + n = m := by
    have := Nat.div_add_mod m (b ^ L)
    rw [he, Nat.mul_comm] at this; exact this
  have hd : m / b ^ L < b := by
    rw [Nat.div_lt_iff_lt_mul (by omega), Nat.mul_comm, ← Nat.pow_succ]; exact hm.1
  have := hu (m / b ^ L) hd (by rw [e]; exact hm)
  unfold longerN
  rw [← this, e]

/-- The longer end, as the functions answer. -/
def longerO (n l b : Int) : Option Nat := if endB n l b = true ∧ l ≤ 3 then some (longerN b.toNat l.toNat n.toNat) else none
theorem longerO_yes {n L k : Nat} (h : endB n L k = true) (h3 : L ≤ 3) : longerO n L k = some (longerN k L n) := by rw [longerO, if_pos ⟨h, by omega⟩]; rfl
theorem longerO_no {n l b : Int} (h : ¬ (endB n l b = true ∧ l ≤ 3)) : longerO n l b = none := by rw [longerO, if_neg h]

/-! ### How many primes a base has -/

/-- Divided by a number as often as it may be. -/
def stripN (p : Nat) : Nat → Nat → Nat
  | 0, left => left
  | f + 1, left => if left % p = 0 then stripN p f (left / p) else left
/-- How many from a number on divide what is left. -/
def cntP : Nat → Nat → Nat → Nat
  | 0, _, _ => 0
  | f + 1, p, left => if p ≤ left then (if left % p = 0 then 1 else 0) + cntP f (p + 1) (stripN p 5 left) else 0

theorem cntP_check : ((List.range 15).all fun i => cntP 20 2 (i + 2) == primesT (i + 2)) = true := by decide +kernel
theorem cntP_all {b : Nat} (h1 : 2 ≤ b) (h2 : b ≤ 16) : cntP 20 2 b = primesT b := by
  have c1 := List.all_eq_true.1 cntP_check (b - 2) (List.mem_range.2 (by omega))
  rw [show b - 2 + 2 = b by omega, beq_iff_eq] at c1
  exact c1

theorem strip_le (p : Nat) : ∀ f left, stripN p f left ≤ left := by
  intro f
  induction f with
  | zero => intro left; exact Nat.le_refl _
  | succ f ih =>
    intro left
    rw [stripN]
    split
    · exact Nat.le_trans (ih _) (Nat.div_le_self _ _)
    · exact Nat.le_refl _
theorem strip_pos {p : Nat} : ∀ f left, 1 ≤ left → 1 ≤ stripN p f left := by
  intro f
  induction f with
  | zero => intro left h; exact h
  | succ f ih =>
    intro left h
    rw [stripN]
    by_cases h0 : left % p = 0
    · rw [if_pos h0]
      refine ih _ ?_
      have := Nat.div_add_mod left p
      refine Classical.byContradiction fun hno => ?_
      rw [Nat.eq_zero_of_not_pos hno, h0] at this; omega
    · rw [if_neg h0]; exact h
/-- Enough times. -/
theorem strip_more {p : Nat} (hp : 2 ≤ p) : ∀ f left, 1 ≤ left → left < 2 ^ f → stripN p (f + 1) left = stripN p f left := by
  intro f
  induction f with
  | zero => intro left h1 h2; omega
  | succ f ih =>
    intro left h1 h2
    show (if left % p = 0 then stripN p (f + 1) (left / p) else left) = (if left % p = 0 then stripN p f (left / p) else left)
    by_cases h0 : left % p = 0
    · rw [if_pos h0, if_pos h0]
      have hq : 1 ≤ left / p := by
        have := Nat.div_add_mod left p
        refine Classical.byContradiction fun hno => ?_
        rw [Nat.eq_zero_of_not_pos hno, h0] at this; omega
      have hq2 : left / p < 2 ^ f := by
        have g1 : left / p ≤ left / 2 := Nat.div_le_div_left hp (by omega)
        rw [Nat.pow_succ] at h2; omega
      exact ih _ hq hq2
    · rw [if_neg h0, if_neg h0]

/-- How many primes, as the functions answer. -/
def primesI (b : Int) : Int := if baseB b = true then ((primesT b.toNat : Nat) : Int) else -1
theorem primesI_yes {k : Nat} (h1 : 2 ≤ k) (h2 : k ≤ 16) : primesI k = ((primesT k : Nat) : Int) := by rw [primesI, if_pos (by rw [baseB_iff]; omega)]; rfl
theorem primesI_no {b : Int} (h : ¬ baseB b = true) : primesI b = -1 := by rw [primesI, if_neg h]

end Pl
end Go.Proofs.YtgkkoegfmhgcjaaGreatDoor

namespace Go.Proofs.YtgkkoegfmhgcjaaGreatDoor
namespace Pl

/-- The product of all digits. -/
def prodD (b n : Nat) : Nat := (digsR b n).foldr (· * ·) 1
theorem prodD_lt {b n : Nat} (h : n < b) : prodD b n = n := by rw [prodD, digsR_lt h]; simp
theorem prodD_ge {b n : Nat} (hb : 2 ≤ b) (h : b ≤ n) : prodD b n = n % b * prodD b (n / b) := by rw [prodD, digsR_ge hb h]; rfl

theorem prodD_le {b : Nat} (hb : 2 ≤ b) (n : Nat) : prodD b n ≤ n := by
  refine digInd hb (P := fun n => prodD b n ≤ n) ?_ ?_ n
  · intro n h; rw [prodD_lt h]; exact Nat.le_refl _
  · intro n h ih
    have h1 := Nat.div_add_mod n b
    have h2 := Nat.mod_lt n (show 0 < b by omega)
    have h3 : n % b * prodD b (n / b) ≤ b * (n / b) := Nat.mul_le_mul (by omega) ih
    rw [prodD_ge hb h]; omega

theorem prodD_less {b n : Nat} (hb : 2 ≤ b) (h : b ≤ n) : prodD b n < n := by
  have h1 := Nat.div_add_mod n b
  have h2 := Nat.mod_lt n (show 0 < b by omega)
  have h3 := prodD_le hb (n / b)
  have h4 : 1 ≤ n / b := (Nat.one_le_div_iff (by omega)).2 h
  have h5 : n % b * prodD b (n / b) ≤ (b - 1) * (n / b) := Nat.mul_le_mul (by omega) h3
  have h6 : (b - 1) * (n / b) + n / b = b * (n / b) := by
    generalize n / b = Q
    have e : (b - 1 + 1) * Q = b * Q := by rw [Nat.sub_add_cancel (by omega)]
    rw [← e, Nat.add_mul, Nat.one_mul]
  rw [prodD_ge hb h]; omega

theorem prodD_one {b n : Nat} (hb : 2 ≤ b) : prodD b n = n ↔ n < b := by
  constructor
  · intro h
    refine Classical.byContradiction fun hno => ?_
    have := prodD_less hb (n := n) (by omega)
    omega
  · exact prodD_lt

theorem prodD_behind {b n d : Nat} (hb : 2 ≤ b) (hn : 1 ≤ n) (hd : d < b) : prodD b (n * b + d) = d * prodD b n := by
  have h1 : b ≤ n * b + d := Nat.le_trans (Nat.le_mul_of_pos_left b hn) (Nat.le_add_right _ _)
  have e1 : (n * b + d) % b = d := by rw [Nat.add_comm, Nat.add_mul_mod_self_right, Nat.mod_eq_of_lt hd]
  have e2 : (n * b + d) / b = n := by rw [Nat.add_comm, Nat.add_mul_div_right _ _ (by omega), Nat.div_eq_of_lt hd, Nat.zero_add]
  rw [prodD_ge hb h1, e1, e2]

theorem foldr_zero : ∀ l : List Nat, l.foldr (· * ·) 1 = 0 ↔ 0 ∈ l := by
  intro l
  induction l with
  | nil => simp
  | cons a t ih =>
    rw [List.foldr_cons, Nat.mul_eq_zero, ih, List.mem_cons]
    constructor
    · rintro (h | h)
      · exact .inl h.symm
      · exact .inr h
    · rintro (h | h)
      · exact .inl h.symm
      · exact .inr h

/-- The product is 0 exactly if a digit is. -/
theorem prodD_zero (b n : Nat) : prodD b n = 0 ↔ 0 ∈ digsR b n := foldr_zero _

/-- Turned round a number without a digit 0 has none. -/
theorem prodD_turn {b n : Nat} (hb : 2 ≤ b) (h : prodD b n ≠ 0) : prodD b (turnN b n) ≠ 0 := by
  have h0 : 0 ∉ digsR b n := fun hm => h ((prodD_zero b n).2 hm)
  have hm : n % b ≠ 0 := fun e => by
    refine h0 ?_
    by_cases hlt : n < b
    · rw [Nat.mod_eq_of_lt hlt] at e
      rw [digsR_lt hlt, e]; simp
    · rw [digsR_ge hb (by omega), e]; simp
  intro hz
  rw [prodD_zero, digsR_turn hb hm, List.mem_reverse] at hz
  exact h0 hz

/-- How often the product is to be taken until it is one digit, and which. -/
def persF (b : Nat) : Nat → Nat → Nat × Nat
  | 0, n => (0, n)
  | f + 1, n => if n < b then (0, n) else ((persF b f (prodD b n)).1 + 1, (persF b f (prodD b n)).2)

theorem persF_stable {b : Nat} (hb : 2 ≤ b) : ∀ f f' n, n ≤ f → n ≤ f' → persF b f n = persF b f' n := by
  intro f
  induction f with
  | zero =>
    intro f' n h1 _
    obtain rfl : n = 0 := by omega
    cases f' with
    | zero => rfl
    | succ g => rw [persF, persF, if_pos (by omega)]
  | succ f ih =>
    intro f' n h1 h2
    by_cases hn : n < b
    · cases f' with
      | zero => rw [persF, persF, if_pos hn]
      | succ g => rw [persF, persF, if_pos hn, if_pos hn]
    · obtain ⟨g, rfl⟩ : ∃ g, f' = g + 1 := ⟨f' - 1, by omega⟩
      have := prodD_less hb (n := n) (by omega)
      rw [persF, persF, if_neg hn, if_neg hn, ih g _ (by omega) (by omega)]

def persN (b n : Nat) : Nat × Nat := persF b n n
theorem persN_lt {b n : Nat} (h : n < b) : persN b n = (0, n) := by
  unfold persN
  cases n with
  | zero => rfl
  | succ n => rw [persF, if_pos h]
theorem persN_ge {b n : Nat} (hb : 2 ≤ b) (h : b ≤ n) : persN b n = ((persN b (prodD b n)).1 + 1, (persN b (prodD b n)).2) := by
  have hl := prodD_less hb h
  unfold persN
  obtain ⟨m, rfl⟩ : ∃ m, n = m + 1 := ⟨n - 1, by omega⟩
  rw [persF, if_neg (by omega), persF_stable hb m (prodD b (m + 1)) (prodD b (m + 1)) (by omega) (Nat.le_refl _)]

theorem persN_digit {b : Nat} (hb : 2 ≤ b) (n : Nat) : (persN b n).2 < b := by
  induction n using Nat.strongRecOn with
  | _ n ih =>
    by_cases h : n < b
    · rw [persN_lt h]; exact h
    · rw [persN_ge hb (by omega)]; exact ih _ (prodD_less hb (by omega))

theorem persN_zero {b n : Nat} (hb : 2 ≤ b) : (persN b n).1 = 0 ↔ n < b := by
  constructor
  · intro h
    refine Classical.byContradiction fun hno => ?_
    rw [persN_ge hb (by omega)] at h
    simp at h
  · intro h; rw [persN_lt h]

/-- With a digit 0 it is 0 after one step. -/
theorem persN_nought {b n : Nat} (hb : 2 ≤ b) (h : b ≤ n) (h0 : prodD b n = 0) : persN b n = (1, 0) := by
  rw [persN_ge hb h, h0, persN_lt (by omega)]

theorem persN_le {b : Nat} (hb : 2 ≤ b) (n : Nat) : (persN b n).1 ≤ n := by
  induction n using Nat.strongRecOn with
  | _ n ih =>
    by_cases h : n < b
    · rw [persN_lt h]; exact Nat.zero_le _
    · have hl := prodD_less hb (n := n) (by omega)
      have := ih _ hl
      rw [persN_ge hb (by omega)]
      show (persN b (prodD b n)).1 + 1 ≤ n
      omega

end Pl
end Go.Proofs.YtgkkoegfmhgcjaaGreatDoor

namespace Go.Proofs.YtgkkoegfmhgcjaaGreatDoor
namespace Pl

/-- The product of all digits, as the functions answer. -/
def prodI (n b : Int) : Int := if okB n b = true then ((prodD b.toNat n.toNat : Nat) : Int) else -1
theorem prodI_yes (n b : Nat) (h : okB n b = true) : prodI n b = ((prodD b n : Nat) : Int) := by rw [prodI, if_pos h]; rfl
theorem prodI_no {n b : Int} (h : ¬ okB n b = true) : prodI n b = -1 := by rw [prodI, if_neg h]

/-- Steps and digit, as the functions answer. -/
def persA (n b : Int) : Option (Nat × Nat) := if okB n b = true then some (persN b.toNat n.toNat) else none
def peK : Option (Nat × Nat) → Int | some q => (q.1 : Int) | none => -1
def peL : Option (Nat × Nat) → Int | some q => (q.2 : Int) | none => -1
def peB : Option (Nat × Nat) → Bool | some _ => true | none => false
theorem persA_yes (n b : Nat) (h : okB n b = true) : persA n b = some (persN b n) := by rw [persA, if_pos h]; rfl
theorem persA_no {n b : Int} (h : ¬ okB n b = true) : persA n b = none := by rw [persA, if_neg h]

/-- The least number that takes so many steps, if there is one of at most 3000. -/
def leastO (b s : Nat) : Option Nat := (List.range 3001).find? fun n => (persN b n).1 == s
theorem leastO_some {b s n : Nat} (h : leastO b s = some n) : n ≤ 3000 ∧ (persN b n).1 = s ∧ ∀ m, m < n → (persN b m).1 ≠ s := by
  unfold leastO at h
  rw [List.find?_range_eq_some] at h
  obtain ⟨h1, h2, h3⟩ := h
  exact ⟨by have := List.mem_range.1 h2; omega, by simpa using h1, fun m hm => by simpa using h3 m hm⟩
theorem leastO_none {b s : Nat} (h : leastO b s = none) : ∀ n, n ≤ 3000 → (persN b n).1 ≠ s := by
  unfold leastO at h
  rw [List.find?_eq_none] at h
  intro n hn
  simpa using h n (List.mem_range.2 (by omega))
theorem leastO_of {b s n : Nat} (h1 : n ≤ 3000) (h2 : (persN b n).1 = s) (h3 : ∀ m, m < n → (persN b m).1 ≠ s) : leastO b s = some n := by
  unfold leastO
  rw [List.find?_range_eq_some]
  exact ⟨by simpa using h2, List.mem_range.2 (by omega), fun m hm => by simpa using h3 m hm⟩
theorem leastO_no {b s : Nat} (h : ∀ n, n ≤ 3000 → (persN b n).1 ≠ s) : leastO b s = none := by
  unfold leastO
  rw [List.find?_eq_none]
  intro n hn
  simpa using h n (by have := List.mem_range.1 hn; omega)

/-- The same, as the functions answer. -/
def leastI (s b : Int) : Int := if 0 ≤ s ∧ baseB b = true then (match leastO b.toNat s.toNat with | some n => (n : Int) | none => -1) else -1
theorem leastI_some {s b n : Nat} (hb : baseB b = true) (h : leastO b s = some n) : leastI s b = (n : Int) := by
  rw [leastI, if_pos ⟨by omega, hb⟩, Int.toNat_natCast, Int.toNat_natCast, h]
theorem leastI_none {s b : Nat} (h : leastO b s = none) : leastI s b = -1 := by
  unfold leastI
  split
  · rw [Int.toNat_natCast, Int.toNat_natCast, h]
  · rfl
theorem leastI_no {s b : Int} (h : ¬ (0 ≤ s ∧ baseB b = true)) : leastI s b = -1 := by rw [leastI, if_neg h]

/-- Who takes one step more is greater. -/
theorem least_more {b s n m : Nat} (hb : 2 ≤ b) (h : leastO b s = some n) (h' : leastO b (s + 1) = some m) : n < m := by
  obtain ⟨_, _, h3⟩ := leastO_some h
  obtain ⟨_, g2, _⟩ := leastO_some h'
  have hm : b ≤ m := by
    refine Classical.byContradiction fun hno => ?_
    rw [persN_lt (by omega)] at g2
    simp at g2
  have hl := prodD_less hb hm
  rw [persN_ge hb hm] at g2
  have e : (persN b (prodD b m)).1 = s := by
    have : (persN b (prodD b m)).1 + 1 = s + 1 := g2
    omega
  have : ¬ prodD b m < n := fun hlt => h3 _ hlt e
  omega

/-- Whether no digit is 0, as the functions answer. -/
def noB (n b : Int) : Bool := decide (0 < prodI n b)

end Pl
end Go.Proofs.YtgkkoegfmhgcjaaGreatDoor

/-
  Plain facts: numbers in decimal, the words of a line, texts of deeds, journals.
-/
namespace Go.Proofs.YtgkkoegfmhgcjaaGreatDoor
namespace Pl

/-- A text of bytes. -/
def str (l : List UInt8) : ByteArray := ⟨l.toArray⟩
theorem str_size (l : List UInt8) : (str l).size = l.length := by simp [str, ByteArray.size]
theorem str_data (l : List UInt8) : (str l).data.toList = l := rfl
theorem str_self (s : ByteArray) : str s.data.toList = s := rfl
theorem str_add (a b : List UInt8) : str a ++ str b = str (a ++ b) := by
  apply ByteArray.ext
  rw [ByteArray.data_append]
  simp [str]

/-- A number in decimal. -/
def decL (u : Nat) : List UInt8 :=
  if _h : u < 10 then [UInt8.ofNat (48 + u)] else decL (u / 10) ++ [UInt8.ofNat (48 + u % 10)]
termination_by u
decreasing_by omega
theorem decL_lt {u : Nat} (h : u < 10) : decL u = [UInt8.ofNat (48 + u)] := by rw [decL, dif_pos h]
theorem decL_ge {u : Nat} (h : ¬ u < 10) : decL u = decL (u / 10) ++ [UInt8.ofNat (48 + u % 10)] := by rw [decL, dif_neg h]

theorem dig_toNat {d : Nat} (h : d < 10) : (UInt8.ofNat (48 + d)).toNat = 48 + d := by
  simp; omega

theorem decL_len {k u : Nat} (hk : 1 ≤ k) (h : u < 10 ^ k) : (decL u).length ≤ k := by
  induction k generalizing u with
  | zero => omega
  | succ k ih =>
    by_cases hu : u < 10
    · rw [decL_lt hu]; simp
    · rw [decL_ge hu, List.length_append]
      have hk1 : 1 ≤ k := by
        rcases Nat.eq_zero_or_pos k with rfl | h'
        · simp at h; omega
        · exact h'
      have := ih hk1 (u := u / 10) (by rw [Nat.pow_succ] at h; omega)
      simp; omega
theorem decL_len13 {u : Nat} (h : u ≤ 1000000000000) : (decL u).length ≤ 13 := decL_len (by omega) (by omega)
theorem decL_pos (u : Nat) : 1 ≤ (decL u).length := by
  by_cases hu : u < 10
  · rw [decL_lt hu]; simp
  · rw [decL_ge hu]; simp
theorem decL_ne (u : Nat) : decL u ≠ [] := fun h => by have := decL_pos u; rw [h] at this; simp at this

/-- Each sign is a digit. -/
theorem decL_dig (u : Nat) : ∀ c ∈ decL u, 48 ≤ c.toNat ∧ c.toNat ≤ 57 := by
  induction u using Nat.strongRecOn with
  | _ u ih =>
    by_cases hu : u < 10
    · rw [decL_lt hu]
      intro c hc
      simp only [List.mem_singleton] at hc
      rw [hc, dig_toNat hu]; omega
    · rw [decL_ge hu]
      intro c hc
      rcases List.mem_append.1 hc with h | h
      · exact ih (u / 10) (by omega) c h
      · simp only [List.mem_singleton] at h
        rw [h, dig_toNat (by omega)]; omega

/-- The first sign is no 0, but of 0. -/
theorem decL_head {u : Nat} (h : 1 ≤ u) : ∃ c t, decL u = c :: t ∧ 49 ≤ c.toNat := by
  induction u using Nat.strongRecOn with
  | _ u ih =>
    by_cases hu : u < 10
    · exact ⟨_, [], decL_lt hu, by rw [dig_toNat hu]; omega⟩
    · obtain ⟨c, t, e, hc⟩ := ih (u / 10) (by omega) (by omega)
      exact ⟨c, t ++ [UInt8.ofNat (48 + u % 10)], by rw [decL_ge hu, e]; rfl, hc⟩

/-- The number of a row of signs. -/
def valL (l : List UInt8) : Nat := l.foldl (fun n c => 10 * n + (c.toNat - 48)) 0
theorem valL_snoc (l : List UInt8) (c : UInt8) : valL (l ++ [c]) = 10 * valL l + (c.toNat - 48) := by simp [valL]
theorem valL_dec (u : Nat) : valL (decL u) = u := by
  induction u using Nat.strongRecOn with
  | _ u ih =>
    by_cases hu : u < 10
    · rw [decL_lt hu, valL, List.foldl_cons, List.foldl_nil, dig_toNat hu]; omega
    · rw [decL_ge hu, valL_snoc, ih (u / 10) (by omega), dig_toNat (by omega)]; omega
theorem valF_lt : ∀ (l : List UInt8) (a : Nat), (∀ c ∈ l, c.toNat ≤ 57) → l.foldl (fun n c => 10 * n + (c.toNat - 48)) a < (a + 1) * 10 ^ l.length := by
  intro l
  induction l with
  | nil => intro a _; simp
  | cons c t ih =>
    intro a h
    have h1 := ih (10 * a + (c.toNat - 48)) fun d hd => h d (List.mem_cons_of_mem _ hd)
    have h2 := h c (List.mem_cons_self)
    rw [List.foldl_cons, List.length_cons, Nat.pow_succ]
    refine Nat.lt_of_lt_of_le h1 ?_
    rw [← Nat.mul_assoc, Nat.mul_right_comm]
    exact Nat.mul_le_mul_right _ (by omega)
theorem valL_lt (l : List UInt8) (h : ∀ c ∈ l, c.toNat ≤ 57) : valL l < 10 ^ l.length := by
  have := valF_lt l 0 h
  rwa [Nat.zero_add, Nat.one_mul] at this

/-- Whether each sign is a digit. -/
def digB (l : List UInt8) : Bool := l.all fun c => decide (48 ≤ c.toNat) && decide (c.toNat ≤ 57)
theorem digB_iff (l : List UInt8) : digB l = true ↔ ∀ c ∈ l, 48 ≤ c.toNat ∧ c.toNat ≤ 57 := by simp [digB]
/-- A text of 1 to 10 digits, none 0 ahead. -/
def numB (s : List UInt8) : Bool := decide (1 ≤ s.length) && decide (s.length ≤ 10) && !(decide (1 < s.length) && (s.head? == some 48)) && digB s
/-- The number of such a text, if it is one; -1 for others. -/
def readN (s : List UInt8) : Int := if numB s = true ∧ valL s ≤ 1000000000 then ((valL s : Nat) : Int) else -1

theorem numB_dec {u : Nat} (h : u < 10000000000) : numB (decL u) = true := by
  have h1 := decL_pos u
  have h2 := decL_len (k := 10) (u := u) (by omega) (by simpa using h)
  have h3 := (digB_iff (decL u)).2 (decL_dig u)
  have h4 : (decide (1 < (decL u).length) && ((decL u).head? == some 48)) = false := by
    by_cases hu : u < 10
    · rw [decL_lt hu]; simp
    · obtain ⟨c, t, e, hc⟩ := decL_head (u := u) (by omega)
      have : (some c == some (48 : UInt8)) = false := by
        rw [beq_eq_false_iff_ne]
        intro hh
        obtain rfl := Option.some.inj hh
        revert hc; decide
      rw [e, List.head?_cons, this, Bool.and_false]
  unfold numB
  rw [h3, h4]
  simp; omega
theorem readN_dec {u : Nat} (h : u ≤ 1000000000) : readN (decL u) = (u : Int) := by
  rw [readN, valL_dec, if_pos ⟨numB_dec (by omega), h⟩]
theorem readN_le (s : List UInt8) : -1 ≤ readN s ∧ readN s ≤ 1000000000 := by
  unfold readN
  split
  · omega
  · omega

/-- What stands between the signs sep. -/
def cutL (sep : UInt8) : List UInt8 → List (List UInt8)
  | [] => [[]]
  | c :: t => if c = sep then [] :: cutL sep t else match cutL sep t with | [] => [[c]] | h :: r => (c :: h) :: r
theorem cutL_ne (sep : UInt8) (s : List UInt8) : cutL sep s ≠ [] := by
  cases s with
  | nil => simp [cutL]
  | cons c t =>
    rw [cutL]
    split
    · simp
    · split <;> simp
theorem cutL_one {sep : UInt8} {s : List UInt8} (h : sep ∉ s) : cutL sep s = [s] := by
  induction s with
  | nil => rfl
  | cons c t ih =>
    rw [List.mem_cons, not_or] at h
    rw [cutL, if_neg (fun e => h.1 e.symm), ih h.2]
theorem cutL_at {sep : UInt8} {l : List UInt8} (h : sep ∉ l) (r : List UInt8) : cutL sep (l ++ sep :: r) = l :: cutL sep r := by
  induction l with
  | nil => rw [List.nil_append, cutL, if_pos rfl]
  | cons c t ih =>
    rw [List.mem_cons, not_or] at h
    rw [List.cons_append, cutL, if_neg (fun e => h.1 e.symm), ih h.2]
theorem cutL_len (sep : UInt8) (s : List UInt8) : (cutL sep s).length ≤ s.length + 1 := by
  induction s with
  | nil => simp [cutL]
  | cons c t ih =>
    have := cutL_ne sep t
    rw [cutL]
    split
    · simp; omega
    · split
      · simp
      · rename_i h r e
        rw [e] at ih; simp at ih ⊢; omega

/-- The words of the deeds but for the first kind. -/
def wordL : Nat → List UInt8
  | 1 => [115, 117, 109]
  | 2 => [112, 114, 111, 100, 117, 99, 116]
  | 3 => [115, 113, 117, 97, 114, 101, 115]
  | 4 => [116, 117, 114, 110]
  | 5 => [97, 100, 100]
  | 6 => [109, 97, 107, 101]
  | 7 => [98, 97, 99, 107]
  | _ => []
/-- The text of a deed; empty for others. -/
def deedL (k n : Int) : List UInt8 :=
  if k = 0 ∧ 0 ≤ n ∧ n ≤ 1000000000 then [116, 111, 32] ++ decL n.toNat
  else if 1 ≤ k ∧ k ≤ 7 ∧ n = 0 then wordL k.toNat else []
theorem deedL_to {n : Nat} (h : n ≤ 1000000000) : deedL 0 n = [116, 111, 32] ++ decL n := by rw [deedL, if_pos ⟨rfl, by omega, by omega⟩]; rfl
theorem deedL_word {k : Nat} (h1 : 1 ≤ k) (h2 : k ≤ 7) : deedL k 0 = wordL k := by rw [deedL, if_neg (by omega), if_pos ⟨by omega, by omega, rfl⟩]; rfl
theorem deedL_no {k n : Int} (h1 : ¬ (k = 0 ∧ 0 ≤ n ∧ n ≤ 1000000000)) (h2 : ¬ (1 ≤ k ∧ k ≤ 7 ∧ n = 0)) : deedL k n = [] := by rw [deedL, if_neg h1, if_neg h2]
theorem wordL_facts : ∀ k : Fin 8, k.val ≠ 0 → wordL k.val ≠ [] ∧ 10 ∉ wordL k.val ∧ 32 ∉ wordL k.val ∧ (wordL k.val).length ≤ 7 := by decide
theorem wordL_inj : ∀ k j : Fin 8, k.val ≠ 0 → wordL k.val = wordL j.val → k = j := by decide

/-- A deed has a text just if it is one of the two kinds. -/
theorem deedL_cases {k n : Int} (h : deedL k n ≠ []) : (∃ m : Nat, m ≤ 1000000000 ∧ k = 0 ∧ n = (m : Int) ∧ deedL k n = [116, 111, 32] ++ decL m) ∨ (∃ j : Nat, 1 ≤ j ∧ j ≤ 7 ∧ k = (j : Int) ∧ n = 0 ∧ deedL k n = wordL j) := by
  by_cases h1 : k = 0 ∧ 0 ≤ n ∧ n ≤ 1000000000
  · left
    refine ⟨n.toNat, by omega, h1.1, by omega, ?_⟩
    rw [deedL, if_pos h1]
  · by_cases h2 : 1 ≤ k ∧ k ≤ 7 ∧ n = 0
    · right
      refine ⟨k.toNat, by omega, by omega, by omega, h2.2.2, ?_⟩
      rw [deedL, if_neg h1, if_pos h2]
    · exact absurd (deedL_no h1 h2) h
theorem decL_not {c : UInt8} (h : ¬ (48 ≤ c.toNat ∧ c.toNat ≤ 57)) (u : Nat) : c ∉ decL u := fun hc => h (decL_dig u c hc)
theorem deedL_line (k n : Int) : (10 : UInt8) ∉ deedL k n := by
  by_cases h : deedL k n = []
  · rw [h]; simp
  · rcases deedL_cases h with ⟨m, _, _, _, e⟩ | ⟨j, h1, h2, _, _, e⟩
    · rw [e]
      intro hc
      rcases List.mem_append.1 hc with hc | hc
      · revert hc; decide
      · exact decL_not (by decide) m hc
    · rw [e]; exact (wordL_facts ⟨j, by omega⟩ (by simp; omega)).2.1
theorem deedL_len (k n : Int) : (deedL k n).length ≤ 13 := by
  by_cases h : deedL k n = []
  · rw [h]; simp
  · rcases deedL_cases h with ⟨m, hm, _, _, e⟩ | ⟨j, h1, h2, _, _, e⟩
    · rw [e, List.length_append]
      have := decL_len (k := 10) (u := m) (by omega) (by omega)
      simp; omega
    · rw [e]
      have := (wordL_facts ⟨j, by omega⟩ (by simp; omega)).2.2.2
      simp at this; omega
/-- The last sign of a text is no space. -/
theorem deedL_end {k n : Int} {s : List UInt8} : deedL k n ≠ s ++ [32] := by
  intro e
  have h : deedL k n ≠ [] := by rw [e]; simp
  rcases deedL_cases h with ⟨m, _, _, _, e'⟩ | ⟨j, h1, h2, _, _, e'⟩
  · rw [e'] at e
    by_cases hm : m < 10
    · rw [decL_lt hm] at e
      have := List.append_inj_right' e rfl
      have h2 : UInt8.ofNat (48 + m) = 32 := by simpa using this
      have := congrArg UInt8.toNat h2
      rw [dig_toNat hm] at this
      simp at this; omega
    · rw [decL_ge hm, ← List.append_assoc] at e
      have := List.append_inj_right' e rfl
      have h2 : UInt8.ofNat (48 + m % 10) = 32 := by simpa using this
      have := congrArg UInt8.toNat h2
      rw [dig_toNat (by omega)] at this
      simp at this; omega
  · have := (wordL_facts ⟨j, by omega⟩ (by simp; omega)).2.2.1
    rw [e'] at e
    apply this
    show 32 ∈ wordL j
    rw [e]; simp
theorem wordL_to : ∀ k : Fin 8, (wordL k.val).take 3 ≠ [116, 111, 32] := by decide
/-- One text has one deed. -/
theorem deedL_inj {k n k' n' : Int} (h : deedL k n ≠ []) (e : deedL k n = deedL k' n') : k = k' ∧ n = n' := by
  have h' : deedL k' n' ≠ [] := e ▸ h
  rcases deedL_cases h with ⟨m, hm, a1, a2, e1⟩ | ⟨j, h1, h2, a1, a2, e1⟩
  · rcases deedL_cases h' with ⟨m', hm', b1, b2, e2⟩ | ⟨j', h1', h2', b1, b2, e2⟩
    · rw [e1, e2] at e
      have hd := List.append_cancel_left e
      have := congrArg valL hd
      rw [valL_dec, valL_dec] at this
      exact ⟨by rw [a1, b1], by rw [a2, b2, this]⟩
    · rw [e1, e2] at e
      exact absurd (by rw [← e]; rfl) (wordL_to ⟨j', by omega⟩)
  · rcases deedL_cases h' with ⟨m', hm', b1, b2, e2⟩ | ⟨j', h1', h2', b1, b2, e2⟩
    · rw [e1, e2] at e
      exact absurd (by rw [e]; rfl) (wordL_to ⟨j, by omega⟩)
    · rw [e1, e2] at e
      have := wordL_inj ⟨j, by omega⟩ ⟨j', by omega⟩ (by simp; omega) e
      have : j = j' := by simpa using congrArg Fin.val this
      exact ⟨by rw [a1, b1, this], by rw [a2, b2]⟩

/-- The deeds whose text a text may be. -/
def candL (s : List UInt8) : List (Int × Int) :=
  ([(1, 0), (2, 0), (3, 0), (4, 0), (5, 0), (6, 0), (7, 0)] : List (Int × Int)) ++ (match cutL 32 s with | [_, b] => [((0 : Int), readN b)] | _ => [])
/-- The deed whose text a text is. -/
def readL (s : List UInt8) : Option (Int × Int) := if s = [] then none else (candL s).find? fun d => deedL d.1 d.2 == s
theorem readL_some {s : List UInt8} {d : Int × Int} (h : readL s = some d) : deedL d.1 d.2 = s ∧ s ≠ [] := by
  unfold readL at h
  split at h
  · cases h
  · rename_i hs
    exact ⟨by simpa using List.find?_some h, hs⟩
theorem readL_deed {k n : Int} (h : deedL k n ≠ []) : readL (deedL k n) = some (k, n) := by
  have hmem : (k, n) ∈ candL (deedL k n) := by
    unfold candL
    rw [List.mem_append]
    rcases deedL_cases h with ⟨m, hm, a1, a2, e1⟩ | ⟨j, h1, h2, a1, a2, e1⟩
    · right
      have hc : cutL 32 ([116, 111, 32] ++ decL m) = [[116, 111], decL m] := by
        have : ([116, 111, 32] : List UInt8) ++ decL m = [116, 111] ++ 32 :: decL m := rfl
        rw [this, cutL_at (by decide), cutL_one (decL_not (by decide) m)]
      rw [e1, hc, a1, a2]
      simp [readN_dec hm]
    · left
      rw [a1, a2]
      have : j = 1 ∨ j = 2 ∨ j = 3 ∨ j = 4 ∨ j = 5 ∨ j = 6 ∨ j = 7 := by omega
      rcases this with rfl | rfl | rfl | rfl | rfl | rfl | rfl <;> simp
  unfold readL
  rw [if_neg h]
  have hsome : ((candL (deedL k n)).find? fun d => deedL d.1 d.2 == deedL k n).isSome = true := by
    rw [List.find?_isSome]; exact ⟨(k, n), hmem, by simp⟩
  obtain ⟨d, hd⟩ := Option.isSome_iff_exists.1 hsome
  rw [hd]
  have h2 : deedL d.1 d.2 = deedL k n := by simpa using List.find?_some hd
  obtain ⟨e1, e2⟩ := deedL_inj h h2.symm
  rw [e1, e2]
theorem readL_space {s : List UInt8} : readL (s ++ [32]) = none := by
  cases h : readL (s ++ [32]) with
  | none => rfl
  | some d => exact absurd (readL_some h).1 deedL_end

/-- The text of a journal; empty if one deed has no text. -/
def textL : List (Int × Int) → List UInt8
  | [] => []
  | d :: r => deedL d.1 d.2 ++ [10] ++ textL r
def toldB (ds : List (Int × Int)) : Bool := ds.all fun d => deedL d.1 d.2 != []
def journalL (ds : List (Int × Int)) : List UInt8 := if toldB ds = true then textL ds else []
theorem textL_snoc (ds : List (Int × Int)) (d : Int × Int) : textL (ds ++ [d]) = textL ds ++ (deedL d.1 d.2 ++ [10]) := by
  induction ds with
  | nil => simp [textL]
  | cons a t ih => rw [List.cons_append, textL, textL, ih]; simp [List.append_assoc]
theorem textL_len (ds : List (Int × Int)) : (textL ds).length ≤ 14 * ds.length := by
  induction ds with
  | nil => simp [textL]
  | cons a t ih =>
    have := deedL_len a.1 a.2
    rw [textL]; simp; omega

/-- The deeds of the lines ahead, and their bytes; acc: what stands already in the line. -/
def rjA (acc : List UInt8) : List UInt8 → List (Int × Int) × Nat
  | [] => ([], 0)
  | c :: t => if c = 10 then (match readL acc with | none => ([], 0) | some d => (d :: (rjA [] t).1, acc.length + 1 + (rjA [] t).2)) else rjA (acc ++ [c]) t
theorem rjA_line {acc l : List UInt8} (h : (10 : UInt8) ∉ l) (t : List UInt8) : rjA acc (l ++ t) = rjA (acc ++ l) t := by
  induction l generalizing acc with
  | nil => simp
  | cons c r ih =>
    rw [List.mem_cons, not_or] at h
    rw [List.cons_append, rjA, if_neg (fun e => h.1 e.symm), ih h.2]
    simp [List.append_assoc]
theorem rjA_text {ds : List (Int × Int)} (h : toldB ds = true) : rjA [] (textL ds) = (ds, (textL ds).length) := by
  induction ds with
  | nil => rfl
  | cons d t ih =>
    simp only [toldB, List.all_cons, Bool.and_eq_true, bne_iff_ne] at h
    have ih' := ih (by simpa [toldB] using h.2)
    rw [textL, List.append_assoc, rjA_line (deedL_line _ _), List.nil_append, List.singleton_append, rjA, if_pos rfl, readL_deed h.1]
    simp only [ih']
    simp
    omega
theorem rjA_told (acc s : List UInt8) : toldB (rjA acc s).1 = true ∧ (rjA acc s).2 ≤ acc.length + s.length ∧ textL (rjA acc s).1 = (acc ++ s).take (rjA acc s).2 := by
  induction s generalizing acc with
  | nil => simp [rjA, toldB, textL]
  | cons c t ih =>
    rw [rjA]
    split
    · rename_i hc
      split
      · simp [toldB, textL]
      · rename_i d hd
        obtain ⟨h1, h2, h3⟩ := ih []
        obtain ⟨e1, e2⟩ := readL_some hd
        refine ⟨?_, ?_, ?_⟩
        · simp only [toldB, List.all_cons, Bool.and_eq_true, bne_iff_ne]
          exact ⟨by rw [e1]; exact e2, by simpa [toldB] using h1⟩
        · simp at h2 ⊢; omega
        · rw [textL, e1, h3, hc, List.nil_append]
          have : acc ++ 10 :: t = (acc ++ [10]) ++ t := by simp
          rw [this, show acc.length + 1 + (rjA [] t).2 = (acc ++ [10]).length + (rjA [] t).2 by simp, List.take_length_add_append]
    · obtain ⟨h1, h2, h3⟩ := ih (acc ++ [c])
      refine ⟨h1, by simp at h2 ⊢; omega, ?_⟩
      rw [h3]; simp [List.append_assoc]
/-- Of a beginning the first ones are read. -/
theorem rjA_take (acc s : List UInt8) (k : Nat) : (rjA acc (s.take k)).1 <+: (rjA acc s).1 ∧ (rjA acc (s.take k)).2 ≤ acc.length + k := by
  induction s generalizing acc k with
  | nil => simp [rjA]
  | cons c t ih =>
    cases k with
    | zero => simp [rjA]
    | succ k =>
      rw [List.take_succ_cons, rjA, rjA]
      split
      · split
        · simp
        · obtain ⟨h1, h2⟩ := ih [] k
          refine ⟨?_, ?_⟩
          · exact List.prefix_cons_inj .. |>.2 h1
          · simp at h2 ⊢; omega
      · obtain ⟨h1, h2⟩ := ih (acc ++ [c]) k
        exact ⟨h1, by simp at h2; omega⟩

end Pl
end Go.Proofs.YtgkkoegfmhgcjaaGreatDoor

namespace Go.Proofs.YtgkkoegfmhgcjaaGreatDoor
namespace Pl

theorem decDigits_dec (u : Nat) : Lib.decDigits u = decL u := by
  induction u using Nat.strongRecOn with
  | _ u ih =>
    by_cases h : u < 10
    · rw [Lib.decDigits, dif_pos h, decL_lt h]
    · rw [Lib.decDigits, dif_neg h, decL_ge h, ih (u / 10) (by omega)]
theorem itoa_dec (u : Nat) : Lib.itoa (u : Int) = decL u := by
  rw [Lib.itoa, if_neg (by omega), Int.toNat_natCast]; exact decDigits_dec u

theorem foldl_ge : ∀ (l : List UInt8) (a : Nat), a ≤ l.foldl (fun n c => 10 * n + (c.toNat - 48)) a := by
  intro l
  induction l with
  | nil => intro a; exact Nat.le_refl _
  | cons c t ih => intro a; rw [List.foldl_cons]; have := ih (10 * a + (c.toNat - 48)); omega
theorem parse_dig : ∀ (l : List UInt8) (a : Nat), (∀ c ∈ l, 48 ≤ c.toNat ∧ c.toNat ≤ 57) → l.foldl (fun n c => 10 * n + (c.toNat - 48)) a ≤ 1000000000000 →
    Lib.parseUint10 a l = .ok (l.foldl (fun n c => 10 * n + (c.toNat - 48)) a) := by
  intro l
  induction l with
  | nil => intro a _ _; rfl
  | cons c t ih =>
    intro a h hv
    have h1 := h c (List.mem_cons_self)
    rw [List.foldl_cons] at hv ⊢
    have h2 := foldl_ge t (10 * a + (c.toNat - 48))
    rw [Lib.parseUint10, if_pos h1, if_neg (by omega), if_neg (by omega), Nat.mul_comm a 10]
    exact ih _ (fun d hd => h d (List.mem_cons_of_mem _ hd)) hv
/-- A number in decimal is read as this number. -/
theorem atoi_dec {u : Nat} (h : u ≤ 1000000000) : Lib.atoiAll (decL u) = .ok (u : Int) := by
  have hv := valL_dec u
  have hd := decL_dig u
  have hp := parse_dig (decL u) 0 hd (by show valL (decL u) ≤ _; omega)
  have hp2 : Lib.parseUint10 0 (decL u) = .ok u := hp.trans (congrArg Lib.NumEnd.ok hv)
  have hne := decL_ne u
  cases e : decL u with
  | nil => exact absurd e hne
  | cons c t =>
    have hc := hd c (by rw [e]; exact List.mem_cons_self)
    rw [e] at hp2
    have hm : Lib.parseMag (c :: t) = .ok u := by
      unfold Lib.parseMag
      rw [if_neg (by simp), hp2]
    have h45 : ¬ c.toNat = 45 := by omega
    have h43 : ¬ (c.toNat = 43 ∨ c.toNat = 45) := by omega
    simp only [Lib.atoiAll]
    rw [if_neg h43, hm]
    simp [h45]
    omega

/-- A text of digits without leading zeros is what its number is written as. -/
theorem dec_val : ∀ (k : Nat) (s : List UInt8), s.length = k → s ≠ [] → (∀ c ∈ s, 48 ≤ c.toNat ∧ c.toNat ≤ 57) → (s.length = 1 ∨ s.head? ≠ some 48) → decL (valL s) = s := by
  intro k
  induction k with
  | zero => intro s hk h0; exact absurd (List.eq_nil_of_length_eq_zero hk) h0
  | succ k ih =>
    intro s hk h0 hd hh
    have hs : s = s.dropLast ++ [s.getLast h0] := (List.dropLast_concat_getLast h0).symm
    generalize s.getLast h0 = c at hs
    generalize ht : s.dropLast = t at hs
    subst hs
    have hc := hd c (by simp)
    have hlen : t.length = k := by simpa using hk
    have hcc : UInt8.ofNat (48 + (c.toNat - 48)) = c := by
      apply UInt8.toNat_inj.1
      rw [dig_toNat (by omega)]; omega
    rw [valL_snoc]
    cases t with
    | nil =>
      have : valL [] = 0 := rfl
      rw [this, decL_lt (by omega), Nat.mul_zero, Nat.zero_add, hcc]; rfl
    | cons a r =>
      have hh' : (a :: r).head? ≠ some 48 := by
        rcases hh with h | h
        · simp at h
        · simpa using h
      have IH := ih (a :: r) hlen (by simp) (fun d hd' => hd d (List.mem_append_left _ hd')) (.inr hh')
      have hpos : 1 ≤ valL (a :: r) := by
        refine Classical.byContradiction fun h => ?_
        have h1 : valL (a :: r) = 0 := by omega
        rw [h1, decL_lt (by omega)] at IH
        have : a = 48 := by
          have := (List.cons.inj IH).1
          rw [← this]; rfl
        exact hh' (by rw [this]; rfl)
      rw [decL_ge (by omega), show (10 * valL (a :: r) + (c.toNat - 48)) / 10 = valL (a :: r) by omega, show (10 * valL (a :: r) + (c.toNat - 48)) % 10 = c.toNat - 48 by omega, IH, hcc]
theorem numB_val {s : List UInt8} (h : numB s = true) : decL (valL s) = s := by
  unfold numB at h
  simp only [Bool.and_eq_true, decide_eq_true_eq, Bool.not_eq_true', Bool.and_eq_false_iff, decide_eq_false_iff_not] at h
  obtain ⟨⟨⟨h1, h2⟩, h3⟩, h4⟩ := h
  refine dec_val s.length s rfl (fun e => by rw [e] at h1; simp at h1) ((digB_iff s).1 h4) ?_
  rcases h3 with h3 | h3
  · left; omega
  · right
    intro e
    rw [e] at h3
    exact absurd h3 (by decide)
/-- A text is read as a number just if it is one written in decimal. -/
theorem readN_yes {s : List UInt8} (h : 0 ≤ readN s) : ∃ u : Nat, u ≤ 1000000000 ∧ readN s = (u : Int) ∧ s = decL u := by
  unfold readN at h ⊢
  split at h
  · rename_i hh
    rw [if_pos hh]
    exact ⟨valL s, hh.2, rfl, (numB_val hh.1).symm⟩
  · omega
theorem readN_none {s : List UInt8} (h : ¬ 0 ≤ readN s) (u : Nat) (hu : u ≤ 1000000000) : s ≠ decL u := fun e => by
  apply h
  rw [e, readN_dec hu]; omega
/-- The number that a text tells, 0 if it tells none; and whether it tells one. -/
def whI (s : List UInt8) : Int := if 0 ≤ readN s then readN s else 0
def whB (s : List UInt8) : Bool := decide (0 ≤ readN s)
theorem whI_dec {u : Nat} (h : u ≤ 1000000000) : whI (decL u) = u ∧ whB (decL u) = true := by
  unfold whI whB
  rw [readN_dec h]
  exact ⟨if_pos (by omega), decide_eq_true (by omega)⟩
theorem whI_none {s : List UInt8} (h : ¬ 0 ≤ readN s) : whI s = 0 ∧ whB s = false := by
  unfold whI whB
  exact ⟨if_neg h, decide_eq_false h⟩
theorem whI_nil : whI [] = 0 := by decide
theorem whI_le (s : List UInt8) : 0 ≤ whI s ∧ whI s ≤ 1000000000 := by
  have := readN_le s
  unfold whI; split <;> omega

/-- A text cut at the first sign c. -/
def cut1 (c : UInt8) : List UInt8 → List UInt8 × List UInt8 × Bool
  | [] => ([], [], false)
  | x :: t => if x = c then ([], t, true) else (x :: (cut1 c t).1, (cut1 c t).2.1, (cut1 c t).2.2)
theorem cut1_no {c : UInt8} {s : List UInt8} (h : c ∉ s) : cut1 c s = (s, [], false) := by
  induction s with
  | nil => rfl
  | cons x t ih =>
    rw [List.mem_cons, not_or] at h
    rw [cut1, if_neg (fun e => h.1 e.symm), ih h.2]
theorem cut1_at {c : UInt8} {l : List UInt8} (h : c ∉ l) (r : List UInt8) : cut1 c (l ++ c :: r) = (l, r, true) := by
  induction l with
  | nil => rw [List.nil_append, cut1, if_pos rfl]
  | cons x t ih =>
    rw [List.mem_cons, not_or] at h
    rw [List.cons_append, cut1, if_neg (fun e => h.1 e.symm), ih h.2]
theorem cut1_cases (c : UInt8) (s : List UInt8) : (c ∉ s ∧ cut1 c s = (s, [], false)) ∨ ∃ l r, c ∉ l ∧ s = l ++ c :: r ∧ cut1 c s = (l, r, true) := by
  induction s with
  | nil => left; exact ⟨by simp, rfl⟩
  | cons x t ih =>
    by_cases hx : x = c
    · right
      refine ⟨[], t, by simp, by rw [hx]; rfl, ?_⟩
      rw [cut1, if_pos hx]
    · rcases ih with ⟨h, _⟩ | ⟨l, r, hl, rfl, _⟩
      · left
        have : c ∉ x :: t := by simp only [List.mem_cons, not_or]; exact ⟨fun e => hx e.symm, h⟩
        exact ⟨this, cut1_no this⟩
      · right
        have : c ∉ x :: l := by simp only [List.mem_cons, not_or]; exact ⟨fun e => hx e.symm, hl⟩
        exact ⟨x :: l, r, this, rfl, by rw [← List.cons_append]; exact cut1_at this r⟩
theorem indexByte_no {c : UInt8} {s : List UInt8} (h : c ∉ s) : Lib.indexByte s c = -1 := by
  induction s with
  | nil => rfl
  | cons x t ih =>
    rw [List.mem_cons, not_or] at h
    have hx : (x == c) = false := by rw [beq_eq_false_iff_ne]; exact fun e => h.1 e.symm
    rw [Lib.indexByte, hx, ih h.2]; rfl
theorem indexByte_at {c : UInt8} {l : List UInt8} (h : c ∉ l) (r : List UInt8) : Lib.indexByte (l ++ c :: r) c = (l.length : Int) := by
  induction l with
  | nil => simp [Lib.indexByte]
  | cons x t ih =>
    rw [List.mem_cons, not_or] at h
    have hx : (x == c) = false := by rw [beq_eq_false_iff_ne]; exact fun e => h.1 e.symm
    have h1 : (((t.length : Int)) == -1) = false := by rw [beq_eq_false_iff_ne]; omega
    rw [List.cons_append, Lib.indexByte, hx, ih h.2, h1]
    simp
/-- Where the library cuts. -/
theorem cut1_index (c : UInt8) (s : ByteArray) : (Lib.indexByte s.data.toList c = -1 ∧ cut1 c s.data.toList = (s.data.toList, [], false)) ∨
    ∃ i : Nat, Lib.indexByte s.data.toList c = (i : Int) ∧ i < s.size ∧ cut1 c s.data.toList = (s.data.toList.take i, s.data.toList.drop (i + 1), true) := by
  rcases cut1_cases c s.data.toList with ⟨h, e⟩ | ⟨l, r, hl, hs, e⟩
  · exact .inl ⟨indexByte_no h, e⟩
  · right
    have hz : s.size = s.data.toList.length := (Array.length_toList).symm
    refine ⟨l.length, by rw [hs]; exact indexByte_at hl r, ?_, ?_⟩
    · rw [hz, hs]; simp
    · rw [e, hs]
      have h1 : (l ++ c :: r).take l.length = l := by simp
      have h2 : (l ++ c :: r).drop (l.length + 1) = r := by
        rw [show l ++ c :: r = (l ++ [c]) ++ r by simp, show l.length + 1 = (l ++ [c]).length by simp, List.drop_left]
      rw [h1, h2]

/-- The words of the deeds. -/
def wordsL : List (List UInt8) := [[116, 111], [115, 117, 109], [112, 114, 111, 100, 117, 99, 116], [115, 113, 117, 97, 114, 101, 115], [116, 117, 114, 110], [97, 100, 100], [109, 97, 107, 101], [98, 97, 99, 107]]
/-- The place of a word among them, -1 if it is none. -/
def wIdx (l : List UInt8) : Int := Lib.idxOfS (wordsL.map str) (str l)
theorem str_inj {a b : List UInt8} (h : str a = str b) : a = b := by
  have := congrArg (fun x : ByteArray => x.data.toList) h
  simpa [str] using this
theorem wIdx_to : wIdx [116, 111] = 0 := by decide
theorem wIdx_word : ∀ j : Fin 8, j.val ≠ 0 → wIdx (wordL j.val) = (j.val : Int) := by decide
theorem wIdx_range (l : List UInt8) : -1 ≤ wIdx l ∧ wIdx l ≤ 7 := by
  unfold wIdx Lib.idxOfS
  have gen : ∀ (zs : List ByteArray) (x : ByteArray) (i : Nat), -1 ≤ Lib.idxFromS zs x i ∧ Lib.idxFromS zs x i ≤ (i + zs.length : Int) - 1 ∨ Lib.idxFromS zs x i = -1 := by
    intro zs x
    induction zs with
    | nil => intro i; right; rfl
    | cons z t ih =>
      intro i
      rw [Lib.idxFromS]
      split
      · left; simp; omega
      · rcases ih (i + 1) with h | h
        · left; simp at h ⊢; omega
        · right; exact h
  rcases gen (wordsL.map str) (str l) 0 with h | h
  · simp [wordsL] at h ⊢; omega
  · omega
/-- The deed that the words of a text may be. -/
def candK (s : List UInt8) : Int := wIdx (cut1 32 s).1
def candN (s : List UInt8) : Int := whI (cut1 32 s).2.1
theorem read_yes {s : List UInt8} (h0 : s ≠ []) (h : deedL (candK s) (candN s) = s) : readL s = some (candK s, candN s) := by
  have := readL_deed (k := candK s) (n := candN s) (by rw [h]; exact h0)
  rwa [h] at this
theorem read_no {s : List UInt8} (h : deedL (candK s) (candN s) ≠ s) : readL s = none := by
  cases hr : readL s with
  | none => rfl
  | some d =>
    exfalso
    obtain ⟨e1, e2⟩ := readL_some hr
    rcases deedL_cases (by rw [e1]; exact e2) with ⟨m, hm, a1, a2, e3⟩ | ⟨j, h1, h2, a1, a2, e3⟩
    · have hs : s = [116, 111] ++ 32 :: decL m := by rw [← e1, e3]; rfl
      have hc : cut1 32 s = ([116, 111], decL m, true) := by rw [hs]; exact cut1_at (by decide) _
      apply h
      unfold candK candN
      rw [hc, wIdx_to, (whI_dec hm).1, deedL_to hm, hs]; rfl
    · have hs : s = wordL j := by rw [← e1, e3]
      have hc : cut1 32 s = (s, [], false) := cut1_no (by rw [hs]; exact (wordL_facts ⟨j, by omega⟩ (by simp; omega)).2.2.1)
      apply h
      unfold candK candN
      rw [hc, whI_nil, hs]
      show deedL (wIdx (wordL j)) 0 = wordL j
      rw [wIdx_word ⟨j, by omega⟩ (by simp; omega), deedL_word h1 h2]
theorem read_nil : readL [] = none := by rw [readL, if_pos rfl]

/-- Journals, line by line. -/
theorem rj_stop {s : List UInt8} (h : (10 : UInt8) ∉ s) : rjA [] s = ([], 0) := by
  have := rjA_line (acc := []) h []
  rw [List.append_nil, List.nil_append] at this
  rw [this, rjA]
theorem rj_line {l r : List UInt8} (h : (10 : UInt8) ∉ l) : rjA [] (l ++ 10 :: r) = (match readL l with | none => ([], 0) | some d => (d :: (rjA [] r).1, l.length + 1 + (rjA [] r).2)) := by
  rw [rjA_line h, List.nil_append, rjA, if_pos rfl]
  all_goals (cases readL l <;> rfl)

end Pl
end Go.Proofs.YtgkkoegfmhgcjaaGreatDoor

namespace Go.Proofs.YtgkkoegfmhgcjaaGreatDoor
namespace Pl

/-! ### Carries -/

/-- The carries if two numbers are added, of at most so many digits, c carried just before. -/
def carK (b : Nat) : Nat → Nat → Nat → Nat → Nat
  | 0, _, _, _ => 0
  | f + 1, n, m, c => if n = 0 ∧ m = 0 then 0 else if b ≤ n % b + m % b + c then 1 + carK b f (n / b) (m / b) 1 else carK b f (n / b) (m / b) 0

theorem carK_zero (b f c : Nat) : carK b f 0 0 c = 0 := by
  cases f with
  | zero => rfl
  | succ f => simp [carK]

theorem carK_sym (b : Nat) : ∀ f n m c, carK b f n m c = carK b f m n c := by
  intro f
  induction f with
  | zero => intro n m c; rfl
  | succ f ih =>
    intro n m c
    rw [carK, carK, ih (n / b) (m / b), ih (n / b) (m / b), Nat.add_comm (n % b)]
    by_cases h : n = 0 ∧ m = 0
    · have h' : m = 0 ∧ n = 0 := ⟨h.2, h.1⟩
      rw [if_pos h, if_pos h']
    · have h' : ¬ (m = 0 ∧ n = 0) := fun hh => h ⟨hh.2, hh.1⟩
      rw [if_neg h, if_neg h']

theorem carK_none {b : Nat} (hb : 2 ≤ b) : ∀ f n, carK b f n 0 0 = 0 := by
  intro f
  induction f with
  | zero => intro n; rfl
  | succ f ih =>
    intro n
    rw [carK]
    split
    · rfl
    · have := Nat.mod_lt n (show 0 < b by omega)
      rw [if_neg (by rw [Nat.zero_mod]; omega), Nat.zero_div, ih]

/-- Carries are told by sums of digits. -/
theorem carK_sum {b : Nat} (hb : 2 ≤ b) : ∀ f n m c, n < 2 ^ f → m < 2 ^ f → c ≤ 1 → sumD b n + sumD b m + c = sumD b (n + m + c) + (b - 1) * carK b f n m c := by
  intro f
  induction f with
  | zero =>
    intro n m c h1 h2 h3
    have e1 : n = 0 := by simpa using h1
    have e2 : m = 0 := by simpa using h2
    subst e1; subst e2
    rw [sumD_lt (show 0 < b by omega), sumD_lt (show 0 + 0 + c < b by omega)]
    simp [carK]
  | succ f ih =>
    intro n m c h1 h2 h3
    by_cases hz : n = 0 ∧ m = 0
    · obtain ⟨rfl, rfl⟩ := hz
      rw [carK_zero, sumD_lt (show 0 < b by omega), sumD_lt (show 0 + 0 + c < b by omega)]; omega
    · have hr1 := Nat.mod_lt n (show 0 < b by omega)
      have hr2 := Nat.mod_lt m (show 0 < b by omega)
      have d1 := Nat.div_add_mod n b
      have d2 := Nat.div_add_mod m b
      have q1 : n / b < 2 ^ f := by
        have : n / b ≤ n / 2 := Nat.div_le_div_left hb (by omega)
        rw [Nat.pow_succ] at h1; omega
      have q2 : m / b < 2 ^ f := by
        have : m / b ≤ m / 2 := Nat.div_le_div_left hb (by omega)
        rw [Nat.pow_succ] at h2; omega
      rw [carK, if_neg hz, sumD_step hb n, sumD_step hb m, sumD_step hb (n + m + c)]
      by_cases ht : b ≤ n % b + m % b + c
      · have e : n + m + c = (n % b + m % b + c - b) + b * (n / b + m / b + 1) := by rw [Nat.mul_add, Nat.mul_add, Nat.mul_one]; omega
        have em : (n + m + c) % b = n % b + m % b + c - b := by
          rw [e, Nat.add_mul_mod_self_left, Nat.mod_eq_of_lt (by omega)]
        have ed : (n + m + c) / b = n / b + m / b + 1 := by
          rw [e, Nat.add_mul_div_left _ _ (by omega), Nat.div_eq_of_lt (by omega), Nat.zero_add]
        have := ih (n / b) (m / b) 1 q1 q2 (by omega)
        rw [if_pos ht, em, ed, Nat.mul_add, Nat.mul_one]
        omega
      · have e : n + m + c = (n % b + m % b + c) + b * (n / b + m / b) := by rw [Nat.mul_add]; omega
        have em : (n + m + c) % b = n % b + m % b + c := by
          rw [e, Nat.add_mul_mod_self_left, Nat.mod_eq_of_lt (by omega)]
        have ed : (n + m + c) / b = n / b + m / b := by
          rw [e, Nat.add_mul_div_left _ _ (by omega), Nat.div_eq_of_lt (by omega), Nat.zero_add]
        have := ih (n / b) (m / b) 0 q1 q2 (by omega)
        rw [Nat.add_zero, Nat.add_zero] at this
        rw [if_neg ht, em, ed]
        omega

theorem carK_stable {b : Nat} (hb : 2 ≤ b) : ∀ f f' n m c, n < 2 ^ f → m < 2 ^ f → n < 2 ^ f' → m < 2 ^ f' → carK b f n m c = carK b f' n m c := by
  intro f
  induction f with
  | zero =>
    intro f' n m c h1 h2 _ _
    have e1 : n = 0 := by simpa using h1
    have e2 : m = 0 := by simpa using h2
    subst e1; subst e2
    rw [carK_zero, carK_zero]
  | succ f ih =>
    intro f' n m c h1 h2 h3 h4
    cases f' with
    | zero =>
      have e1 : n = 0 := by simpa using h3
      have e2 : m = 0 := by simpa using h4
      subst e1; subst e2
      rw [carK_zero, carK_zero]
    | succ g =>
      have q : ∀ x k, x < 2 ^ (k + 1) → x / b < 2 ^ k := fun x k hx => by
        have : x / b ≤ x / 2 := Nat.div_le_div_left hb (by omega)
        rw [Nat.pow_succ] at hx; omega
      rw [carK, carK, ih g _ _ _ (q _ _ h1) (q _ _ h2) (q _ _ h3) (q _ _ h4), ih g _ _ _ (q _ _ h1) (q _ _ h2) (q _ _ h3) (q _ _ h4)]

/-- The carries of numbers that may be told. -/
def carN (b n m : Nat) : Nat := carK b 30 n m 0

/-! ### How often a prime divides the product of all numbers -/

/-- Of so many digits at most: the number divided by the prime, that again, and so on, together. -/
def oftK (p : Nat) : Nat → Nat → Nat
  | 0, _ => 0
  | f + 1, n => n / p + oftK p f (n / p)

theorem oftK_sum {p : Nat} (hp : 2 ≤ p) : ∀ f n, n < 2 ^ f → oftK p f n * (p - 1) + sumD p n = n := by
  intro f
  induction f with
  | zero =>
    intro n h
    have e : n = 0 := by simpa using h
    subst e
    rw [sumD_lt (by omega)]; simp [oftK]
  | succ f ih =>
    intro n h
    have hq : n / p < 2 ^ f := by
      have : n / p ≤ n / 2 := Nat.div_le_div_left hp (by omega)
      rw [Nat.pow_succ] at h; omega
    have h1 := ih _ hq
    have h2 := Nat.div_add_mod n p
    rw [oftK, sumD_step hp n, Nat.add_mul, Nat.mul_sub, Nat.mul_one]
    have h3 : n / p ≤ n / p * p := Nat.le_mul_of_pos_right _ (by omega)
    rw [Nat.mul_comm p] at h2
    omega

theorem oftK_stable {p : Nat} (hp : 2 ≤ p) {f f' n : Nat} (h : n < 2 ^ f) (h' : n < 2 ^ f') : oftK p f n = oftK p f' n := by
  have h1 := oftK_sum hp f n h
  have h2 := oftK_sum hp f' n h'
  exact Nat.eq_of_mul_eq_mul_right (show 0 < p - 1 by omega) (by omega)

theorem oftK_mono {p : Nat} : ∀ f n m, n ≤ m → oftK p f n ≤ oftK p f m := by
  intro f
  induction f with
  | zero => intro n m _; exact Nat.le_refl _
  | succ f ih =>
    intro n m h
    have h1 : n / p ≤ m / p := Nat.div_le_div_right h
    have := ih _ _ h1
    rw [oftK, oftK]; omega

theorem oftK_prime {p q : Nat} (hp : 1 ≤ p) (hpq : p ≤ q) : ∀ f n, oftK q f n ≤ oftK p f n := by
  intro f
  induction f with
  | zero => intro n; exact Nat.le_refl _
  | succ f ih =>
    intro n
    have h1 : n / q ≤ n / p := Nat.div_le_div_left hpq hp
    have h2 := ih (n / q)
    have h3 := oftK_mono (p := p) f _ _ h1
    rw [oftK, oftK]; omega

/-- Of numbers that may be told. -/
def oftN (p n : Nat) : Nat := oftK p 30 n

/-- How often a prime divides a number from 1 on. -/
def valK (p : Nat) : Nat → Nat → Nat
  | 0, _ => 0
  | f + 1, n => if n % p = 0 then 1 + valK p f (n / p) else 0

theorem oft_next {p : Nat} (hp : 2 ≤ p) : ∀ f n, n + 1 < 2 ^ f → oftK p f (n + 1) = oftK p f n + valK p f (n + 1) := by
  intro f
  induction f with
  | zero => intro n h; simp at h
  | succ f ih =>
    intro n h
    rw [oftK, oftK, valK]
    by_cases hm : n % p = p - 1
    · have h1 := Nat.div_add_mod n p
      have e : n + 1 = p * (n / p + 1) := by rw [Nat.mul_add]; omega
      have e1 : (n + 1) % p = 0 := by rw [e, Nat.mul_mod_right]
      have e2 : (n + 1) / p = n / p + 1 := by rw [e, Nat.mul_div_cancel_left _ (by omega)]
      have hlt : n / p + 1 < 2 ^ f := by
        have h2 : 2 * (n / p + 1) ≤ p * (n / p + 1) := Nat.mul_le_mul_right _ hp
        rw [Nat.pow_succ] at h; omega
      rw [if_pos e1, e2, ih _ hlt]; omega
    · obtain ⟨e1, e2⟩ := succ_mod_div hp hm
      rw [if_neg (by omega), e2]; omega

/-! ### Choices -/

/-- What the number of ways to choose k of n things leaves by p. -/
def cr (p : Nat) : Nat → Nat → Nat
  | _, 0 => 1 % p
  | 0, _ + 1 => 0
  | n + 1, k + 1 => (cr p n k + cr p n (k + 1)) % p

theorem cr_zero (p n : Nat) : cr p n 0 = 1 % p := by cases n <;> rfl
theorem cr_none (p k : Nat) : cr p 0 (k + 1) = 0 := rfl
theorem cr_next (p n k : Nat) : cr p (n + 1) (k + 1) = (cr p n k + cr p n (k + 1)) % p := rfl
theorem cr_more (p : Nat) : ∀ n k, n < k → cr p n k = 0 := by
  intro n
  induction n with
  | zero => intro k h; obtain ⟨j, rfl⟩ : ∃ j, k = j + 1 := ⟨k - 1, by omega⟩; rfl
  | succ n ih =>
    intro k h
    obtain ⟨j, rfl⟩ : ∃ j, k = j + 1 := ⟨k - 1, by omega⟩
    rw [cr_next, ih j (by omega), ih (j + 1) (by omega)]; simp
theorem cr_all (p : Nat) : ∀ n, cr p n n = 1 % p := by
  intro n
  induction n with
  | zero => rfl
  | succ n ih => rw [cr_next, ih, cr_more p n (n + 1) (by omega), Nat.add_zero, Nat.mod_mod]
theorem cr_lt {p : Nat} (hp : 1 ≤ p) (n k : Nat) : cr p n k < p := by
  cases k with
  | zero => rw [cr_zero]; exact Nat.mod_lt _ (by omega)
  | succ k => cases n with
    | zero => rw [cr_none]; omega
    | succ n => rw [cr_next]; exact Nat.mod_lt _ (by omega)

/-- The primes that are bases. -/
def primes6 : List Nat := [2, 3, 5, 7, 11, 13]
theorem cr_prime_check : (primes6.all fun p => (List.range p).all fun s => s == 0 || cr p p s == 0) = true := by decide +kernel
theorem cr_digit_check : (primes6.all fun p => (List.range p).all fun a => (List.range p).all fun c => (cr p a c == 0) == decide (a < c)) = true := by decide +kernel
theorem mul_check : (primes6.all fun p => (List.range p).all fun a => (List.range p).all fun c => !(a * c % p == 0) || a == 0 || c == 0) = true := by decide +kernel
theorem primes6_ge {p : Nat} (h : p ∈ primes6) : 2 ≤ p ∧ p ≤ 13 := by
  simp [primes6] at h; omega
theorem cr_prime {p s : Nat} (h : p ∈ primes6) (h1 : 1 ≤ s) (h2 : s < p) : cr p p s = 0 := by
  have := List.all_eq_true.1 (List.all_eq_true.1 cr_prime_check p h) s (List.mem_range.2 h2)
  have h3 : (s == 0) = false := by rw [beq_eq_false_iff_ne]; omega
  rw [h3, Bool.false_or, beq_iff_eq] at this
  exact this
theorem cr_digit {p a c : Nat} (h : p ∈ primes6) (ha : a < p) (hc : c < p) : cr p a c = 0 ↔ a < c := by
  have := List.all_eq_true.1 (List.all_eq_true.1 (List.all_eq_true.1 cr_digit_check p h) a (List.mem_range.2 ha)) c (List.mem_range.2 hc)
  rw [beq_iff_eq] at this
  rw [← beq_iff_eq, this, decide_eq_true_eq]
theorem mul_zero6 {p a c : Nat} (h : p ∈ primes6) (ha : a < p) (hc : c < p) (hz : a * c % p = 0) : a = 0 ∨ c = 0 := by
  have := List.all_eq_true.1 (List.all_eq_true.1 (List.all_eq_true.1 mul_check p h) a (List.mem_range.2 ha)) c (List.mem_range.2 hc)
  simpa [hz] using this

/-- Lucas: digit by digit. -/
def lucL (p n k : Nat) : Nat := cr p (n % p) (k % p) * cr p (n / p) (k / p) % p

theorem add_mul_mod' (p x y z : Nat) : (x + y) % p * z % p = (x * z % p + y * z % p) % p := by
  rw [Nat.mod_mul_mod, Nat.add_mul, Nat.add_mod]

theorem one_mul_cr {p : Nat} (hp : 2 ≤ p) (n k : Nat) : 1 % p * cr p n k % p = cr p n k := by
  rw [Nat.mod_eq_of_lt (show 1 < p by omega), Nat.one_mul, Nat.mod_eq_of_lt (cr_lt (by omega) n k)]

theorem lucL_next {p : Nat} (h : p ∈ primes6) (n k : Nat) : lucL p (n + 1) (k + 1) = (lucL p n k + lucL p n (k + 1)) % p := by
  obtain ⟨hp, _⟩ := primes6_ge h
  have hr := Nat.mod_lt n (show 0 < p by omega)
  have hs := Nat.mod_lt k (show 0 < p by omega)
  have hdiv : ∀ x, x % p = p - 1 → (x + 1) % p = 0 ∧ (x + 1) / p = x / p + 1 := fun x hx => by
    have h1 := Nat.div_add_mod x p
    have e : x + 1 = p * (x / p + 1) := by rw [Nat.mul_add]; omega
    exact ⟨by rw [e, Nat.mul_mod_right], by rw [e, Nat.mul_div_cancel_left _ (by omega)]⟩
  unfold lucL
  by_cases h1 : n % p = p - 1
  · obtain ⟨a1, a2⟩ := hdiv n h1
    by_cases h2 : k % p = p - 1
    · obtain ⟨c1, c2⟩ := hdiv k h2
      rw [a1, a2, c1, c2, h1, h2, cr_all, cr_all, cr_zero, one_mul_cr hp, one_mul_cr hp, one_mul_cr hp, cr_next]
    · obtain ⟨c1, c2⟩ := succ_mod_div hp h2
      have hz := cr_prime h (s := k % p + 1) (by omega) (by omega)
      obtain ⟨P, hP⟩ : ∃ P, p = P + 1 := ⟨p - 1, by omega⟩
      have hz' : (cr p (p - 1) (k % p) + cr p (p - 1) (k % p + 1)) % p = 0 := by
        rw [← cr_next, show p - 1 + 1 = p by omega]; exact hz
      rw [a1, a2, c1, c2, h1, cr_none, Nat.zero_mul, Nat.zero_mod, ← add_mul_mod', hz', Nat.zero_mul, Nat.zero_mod]
  · obtain ⟨a1, a2⟩ := succ_mod_div hp h1
    by_cases h2 : k % p = p - 1
    · obtain ⟨c1, c2⟩ := hdiv k h2
      have hz : cr p (n % p) (p - 1) = 0 := cr_more p _ _ (by omega)
      rw [a1, a2, c1, c2, h2, hz, cr_zero, cr_zero, Nat.zero_mul, Nat.zero_mod, Nat.zero_add, Nat.mod_mod]
    · obtain ⟨c1, c2⟩ := succ_mod_div hp h2
      rw [a1, a2, c1, c2, cr_next, add_mul_mod']

theorem lucas {p : Nat} (h : p ∈ primes6) : ∀ n k, cr p n k = lucL p n k := by
  obtain ⟨hp, _⟩ := primes6_ge h
  intro n
  induction n with
  | zero =>
    intro k
    cases k with
    | zero => rw [lucL, Nat.zero_mod, Nat.zero_div, cr_zero, Nat.mod_eq_of_lt (show 1 < p by omega), Nat.mul_one, Nat.mod_eq_of_lt (show 1 < p by omega)]
    | succ k =>
      rw [cr_none, lucL, Nat.zero_mod, Nat.zero_div]
      by_cases hz : (k + 1) % p = 0
      · have h1 : 1 ≤ (k + 1) / p := by
          have := Nat.div_add_mod (k + 1) p
          refine Classical.byContradiction fun hno => ?_
          have h0 : (k + 1) / p = 0 := by
            generalize (k + 1) / p = Q at *
            omega
          rw [h0, hz] at this
          omega
        obtain ⟨j, hj⟩ : ∃ j, (k + 1) / p = j + 1 := ⟨(k + 1) / p - 1, by omega⟩
        rw [hj, cr_none, Nat.mul_zero, Nat.zero_mod]
      · obtain ⟨j, hj⟩ : ∃ j, (k + 1) % p = j + 1 := ⟨(k + 1) % p - 1, by omega⟩
        rw [hj, cr_none, Nat.zero_mul, Nat.zero_mod]
  | succ n ih =>
    intro k
    cases k with
    | zero => rw [cr_zero, lucL, Nat.zero_mod, Nat.zero_div, cr_zero, cr_zero, Nat.mod_eq_of_lt (show 1 < p by omega), Nat.mul_one, Nat.mod_eq_of_lt (show 1 < p by omega)]
    | succ k => rw [cr_next, ih, ih, lucL_next h]

/-- Kummer: none is carried exactly if the prime does not divide the number of choices. -/
theorem kummer {p : Nat} (h : p ∈ primes6) : ∀ f n k, n < 2 ^ f → k ≤ n → (carK p f k (n - k) 0 = 0 ↔ cr p n k ≠ 0) := by
  obtain ⟨hp, _⟩ := primes6_ge h
  intro f
  induction f with
  | zero =>
    intro n k h1 h2
    have e : n = 0 := by simpa using h1
    subst e
    obtain rfl : k = 0 := by omega
    rw [cr_zero, Nat.mod_eq_of_lt (show 1 < p by omega)]; simp [carK]
  | succ f ih =>
    intro n k h1 h2
    have hq : n / p < 2 ^ f := by
      have : n / p ≤ n / 2 := Nat.div_le_div_left hp (by omega)
      rw [Nat.pow_succ] at h1; omega
    have hr := Nat.mod_lt n (show 0 < p by omega)
    have hs := Nat.mod_lt k (show 0 < p by omega)
    have d1 := Nat.div_add_mod n p
    have d2 := Nat.div_add_mod k p
    have hqk : k / p ≤ n / p := Nat.div_le_div_right h2
    rw [lucas h n k, lucL]
    by_cases hz : k = 0 ∧ n - k = 0
    · obtain ⟨rfl, hn⟩ := hz
      obtain rfl : n = 0 := by omega
      rw [Nat.zero_mod, Nat.zero_div, cr_zero, Nat.mod_eq_of_lt (show 1 < p by omega), Nat.mul_one, Nat.mod_eq_of_lt (show 1 < p by omega)]
      simp [carK]
    · rw [carK, if_neg hz]
      by_cases hle : k % p ≤ n % p
      · have e : n - k = (n % p - k % p) + p * (n / p - k / p) := by
          have : p * (k / p) ≤ p * (n / p) := Nat.mul_le_mul_left p hqk
          rw [Nat.mul_sub]; omega
        have em : (n - k) % p = n % p - k % p := by rw [e, Nat.add_mul_mod_self_left, Nat.mod_eq_of_lt (by omega)]
        have ed : (n - k) / p = n / p - k / p := by rw [e, Nat.add_mul_div_left _ _ (by omega), Nat.div_eq_of_lt (by omega), Nat.zero_add]
        rw [if_neg (by omega), ed, ih _ _ hq hqk]
        have hnz : cr p (n % p) (k % p) ≠ 0 := fun hh => by
          have := (cr_digit h hr hs).1 hh; omega
        constructor
        · intro hc hm
          rcases mul_zero6 h (cr_lt (by omega) _ _) (cr_lt (by omega) _ _) hm with h0 | h0
          · exact hnz h0
          · exact hc h0
        · intro hm hc
          rw [hc, Nat.mul_zero, Nat.zero_mod] at hm
          exact hm rfl
      · have hlt : k / p < n / p := by
          refine Classical.byContradiction fun hno => ?_
          have : n / p = k / p := by omega
          rw [this] at d1; omega
        have e : n - k = (n % p + p - k % p) + p * (n / p - k / p - 1) := by
          have h3 : p * (k / p) + p ≤ p * (n / p) := by
            have := Nat.mul_le_mul_left p (show k / p + 1 ≤ n / p by omega)
            rw [Nat.mul_add] at this; omega
          rw [Nat.mul_sub, Nat.mul_sub]; omega
        have em : (n - k) % p = n % p + p - k % p := by rw [e, Nat.add_mul_mod_self_left, Nat.mod_eq_of_lt (by omega)]
        rw [if_pos (by omega)]
        have hz0 : cr p (n % p) (k % p) = 0 := (cr_digit h hr hs).2 (by omega)
        rw [hz0, Nat.zero_mul, Nat.zero_mod]
        constructor
        · intro hc; omega
        · intro hc; exact absurd rfl hc

end Pl
end Go.Proofs.YtgkkoegfmhgcjaaGreatDoor

namespace Go.Proofs.YtgkkoegfmhgcjaaGreatDoor
namespace Pl

/-- Carries, as the functions answer. -/
def carI (n m b : Int) : Int := if (okB n b = true ∧ okB m b = true) then ((carN b.toNat n.toNat m.toNat : Nat) : Int) else -1
theorem carI_yes {n m b : Nat} (h1 : okB n b = true) (h2 : okB m b = true) : carI n m b = ((carN b n m : Nat) : Int) := by rw [carI, if_pos ⟨h1, h2⟩]; rfl
theorem carI_no {n m b : Int} (h : ¬ (okB n b = true ∧ okB m b = true)) : carI n m b = -1 := by rw [carI, if_neg h]

/-- Prime bases. -/
def primeB (p : Int) : Bool := decide (p = 2 ∨ p = 3 ∨ p = 5 ∨ p = 7 ∨ p = 11 ∨ p = 13)
theorem primeB_nat {p : Int} (h : primeB p = true) : ∃ q : Nat, p = (q : Int) ∧ q ∈ primes6 := by
  simp only [primeB, decide_eq_true_eq] at h
  refine ⟨p.toNat, by omega, ?_⟩
  unfold primes6
  simp only [List.mem_cons, List.not_mem_nil, or_false]
  omega

/-- How often a prime divides the product of all numbers, as the functions answer. -/
def oftI (n p : Int) : Int := if (0 ≤ n ∧ n ≤ 1000000000) ∧ primeB p = true then ((oftN p.toNat n.toNat : Nat) : Int) else -1
/-- How often it divides a choice. -/
def choI (n k p : Int) : Int := if ((0 ≤ n ∧ n ≤ 200) ∧ 0 ≤ k ∧ k ≤ n) ∧ primeB p = true then ((carN p.toNat k.toNat (n.toNat - k.toNat) : Nat) : Int) else -1
/-- What a choice leaves. -/
def resI (n k p : Int) : Int := if ((0 ≤ n ∧ n ≤ 200) ∧ 0 ≤ k ∧ k ≤ n) ∧ primeB p = true then ((cr p.toNat n.toNat k.toNat : Nat) : Int) else -1

end Pl
end Go.Proofs.YtgkkoegfmhgcjaaGreatDoor

namespace Go.Proofs.YtgkkoegfmhgcjaaGreatDoor
namespace Pl

/-- How often a number divides another, of so many times at most. -/
def tmsN (p : Nat) : Nat → Nat → Nat
  | 0, _ => 0
  | f + 1, left => if left % p = 0 then 1 + tmsN p f (left / p) else 0
/-- The least so far. -/
def nouC (D : Nat) (best : Option Nat) (t : Nat) : Option Nat :=
  if 0 < t then (match best with | none => some D | some x => some (if D < x then D else x)) else best
theorem nouC_none (D : Nat) (best : Option Nat) : nouC D best 0 = best := by unfold nouC; rw [if_neg (by omega)]
theorem nouC_first (D : Nat) {t : Nat} (h : 0 < t) : nouC D none t = some D := by unfold nouC; rw [if_pos h]
theorem nouC_next (D y : Nat) {t : Nat} (h : 0 < t) : nouC D (some y) t = some (if D < y then D else y) := by unfold nouC; rw [if_pos h]
def nouPick (O : Nat → Nat) (best : Option Nat) (p t : Nat) : Option Nat := nouC (O p / t) best t
/-- The least, over all that divide what is left from a number on. -/
def nouK (O : Nat → Nat) : Nat → Nat → Nat → Option Nat → Option Nat
  | 0, _, _, best => best
  | f + 1, p, left, best => if p ≤ left then nouK O f (p + 1) (stripN p 5 left) (nouPick O best p (tmsN p 5 left)) else best
/-- The lesser one of two. -/
def less2 (x y : Nat) : Nat := if y < x then y else x
/-- The noughts, base by base. -/
def nouT (O : Nat → Nat) (b : Nat) : Nat :=
  if b = 2 then O 2 / 1 else if b = 3 then O 3 / 1 else if b = 4 then O 2 / 2 else if b = 5 then O 5 / 1
  else if b = 6 then less2 (O 2 / 1) (O 3 / 1) else if b = 7 then O 7 / 1 else if b = 8 then O 2 / 3 else if b = 9 then O 3 / 2
  else if b = 10 then less2 (O 2 / 1) (O 5 / 1) else if b = 11 then O 11 / 1 else if b = 12 then less2 (O 2 / 2) (O 3 / 1)
  else if b = 13 then O 13 / 1 else if b = 14 then less2 (O 2 / 1) (O 7 / 1) else if b = 15 then less2 (O 3 / 1) (O 5 / 1) else O 2 / 4

theorem nou_all (O : Nat → Nat) {b : Nat} (h1 : 2 ≤ b) (h2 : b ≤ 16) : nouK O 20 2 b none = some (nouT O b) := by
  have h : b = 2 ∨ b = 3 ∨ b = 4 ∨ b = 5 ∨ b = 6 ∨ b = 7 ∨ b = 8 ∨ b = 9 ∨ b = 10 ∨ b = 11 ∨ b = 12 ∨ b = 13 ∨ b = 14 ∨ b = 15 ∨ b = 16 := by omega
  rcases h with rfl | rfl | rfl | rfl | rfl | rfl | rfl | rfl | rfl | rfl | rfl | rfl | rfl | rfl | rfl
  all_goals rfl

theorem less2_mono {a b c d : Nat} (h1 : a ≤ c) (h2 : b ≤ d) : less2 a b ≤ less2 c d := by
  unfold less2; split <;> split <;> omega
theorem ite_mono (c : Prop) [Decidable c] {a b a' b' : Nat} (h1 : a ≤ a') (h2 : b ≤ b') : (if c then a else b) ≤ (if c then a' else b') := by
  split
  · exact h1
  · exact h2
theorem nou_mono {O P : Nat → Nat} (h : ∀ p, O p ≤ P p) (b : Nat) : nouT O b ≤ nouT P b := by
  have hd : ∀ p t, O p / t ≤ P p / t := fun p t => Nat.div_le_div_right (h p)
  unfold nouT
  repeat' first | exact hd _ _ | exact less2_mono (hd _ _) (hd _ _) | refine ite_mono _ ?_ ?_

/-- Noughts, as the functions answer. -/
def nouI (n b : Int) : Int := if okB n b = true then ((nouT (fun p => oftN p n.toNat) b.toNat : Nat) : Int) else -1
theorem nouI_yes {n b : Nat} (h : okB n b = true) : nouI n b = ((nouT (fun p => oftN p n) b : Nat) : Int) := by rw [nouI, if_pos h]; rfl
theorem nouI_no {n b : Int} (h : ¬ okB n b = true) : nouI n b = -1 := by rw [nouI, if_neg h]

/-- Of one number more there are no fewer. -/
theorem nou_next (n b : Nat) : nouT (fun p => oftN p n) b ≤ nouT (fun p => oftN p (n + 1)) b :=
  nou_mono (fun p => oftK_mono (p := p) 30 n (n + 1) (by omega)) b
/-- In a prime base. -/
theorem nou_prime (O : Nat → Nat) {b : Nat} (h : b ∈ primes6) : nouT O b = O b := by
  simp [primes6] at h
  rcases h with rfl | rfl | rfl | rfl | rfl | rfl <;> simp [nouT]
/-- In the base ten. -/
theorem nou_ten (n : Nat) : nouT (fun p => oftN p n) 10 = oftN 5 n := by
  have h : oftN 5 n ≤ oftN 2 n := oftK_prime (by omega) (by omega) 30 n
  have e : nouT (fun p => oftN p n) 10 = less2 (oftN 2 n / 1) (oftN 5 n / 1) := rfl
  rw [e, Nat.div_one, Nat.div_one, less2]
  split <;> omega

theorem tms_le (p : Nat) : ∀ f left, tmsN p f left ≤ f := by
  intro f
  induction f with
  | zero => intro left; exact Nat.le_refl _
  | succ f ih =>
    intro left
    rw [tmsN]
    have := ih (left / p)
    split <;> omega

end Pl
end Go.Proofs.YtgkkoegfmhgcjaaGreatDoor

namespace Go.Proofs.YtgkkoegfmhgcjaaGreatDoor
namespace Pl

/-- A period: the base so many times leaves what 1 leaves, and no fewer times do. -/
structure Per (b u p : Nat) : Prop where
  pos : 1 ≤ p
  back : b ^ p % u = 1 % u
  least : ∀ k, 1 ≤ k → k < p → b ^ k % u ≠ 1 % u

theorem Per.unique {b u p q : Nat} (h : Per b u p) (h' : Per b u q) : p = q := by
  rcases Nat.lt_trichotomy p q with hlt | he | hlt
  · exact absurd h.back (h'.least p h.pos hlt)
  · exact he
  · exact absurd h'.back (h.least q h'.pos hlt)

theorem mod_eq_iff {u a c : Nat} (h : a ≤ c) : a % u = c % u ↔ u ∣ c - a := by
  constructor
  · intro he
    have h1 := Nat.div_add_mod a u
    have h2 := Nat.div_add_mod c u
    refine ⟨c / u - a / u, ?_⟩
    rw [Nat.mul_sub]; omega
  · rintro ⟨k, hk⟩
    rw [show c = a + u * k by omega, Nat.add_mul_mod_self_left]

theorem pow_cop {b u : Nat} (h : Nat.Coprime u b) : ∀ k, Nat.Coprime u (b ^ k) := by
  intro k
  induction k with
  | zero => rw [Nat.pow_zero]; exact Nat.coprime_one_right u
  | succ k ih => rw [Nat.pow_succ]; exact Nat.Coprime.mul_right ih h

/-- Powers that leave the same: their difference leaves what 1 leaves. -/
theorem pow_back {b u i j : Nat} (h : Nat.Coprime u b) (hij : i ≤ j) (he : b ^ i % u = b ^ j % u) : b ^ (j - i) % u = 1 % u := by
  have h1 : b ^ j = b ^ i * b ^ (j - i) := by rw [← Nat.pow_add]; congr 1; omega
  have hpos : 1 ≤ b ^ (j - i) ∨ b ^ (j - i) = 0 := by omega
  rcases hpos with hpos | hz
  · have hd : u ∣ b ^ j - b ^ i := (mod_eq_iff (by rw [h1]; exact Nat.le_mul_of_pos_right _ hpos)).1 he
    have h2 : b ^ j - b ^ i = b ^ i * (b ^ (j - i) - 1) := by rw [h1, Nat.mul_sub, Nat.mul_one]
    rw [h2] at hd
    have h3 : u ∣ b ^ (j - i) - 1 := Nat.Coprime.dvd_of_dvd_mul_left (pow_cop h i) hd
    exact ((mod_eq_iff hpos).2 h3).symm
  · -- a power is 0: then u is 1
    have hb : b = 0 := by
      refine Classical.byContradiction fun hb => ?_
      have := Nat.pow_pos (n := j - i) (show 0 < b by omega)
      omega
    subst hb
    have hu : u = 1 := by simpa [Nat.Coprime] using h
    subst hu
    rw [Nat.mod_one, Nat.mod_one]

theorem per_exists {b u : Nat} (hu : 1 ≤ u) (h : Nat.Coprime u b) : ∃ p, Per b u p ∧ p ≤ u ∧ (2 ≤ u → p ≤ u - 1) := by
  have hex : ∃ j, 1 ≤ j ∧ j ≤ u ∧ (2 ≤ u → j ≤ u - 1) ∧ b ^ j % u = 1 % u := by
    by_cases h1 : u = 1
    · subst h1; exact ⟨1, by omega, by omega, by omega, by rw [Nat.mod_one, Nat.mod_one]⟩
    · -- among u powers, none of which leaves 0, two leave the same
      refine Classical.byContradiction fun hno => ?_
      have hnd : ((List.range u).map fun i => b ^ i % u).Nodup := nodup_range_map (fun i => b ^ i % u) u fun i j hij hj he => by
        refine hno ⟨j - i, by omega, by omega, fun _ => by omega, pow_back h (by omega) he⟩
      have hsub : ∀ x ∈ (List.range u).map (fun i => b ^ i % u), x ∈ (List.range (u - 1)).map (· + 1) := fun x hx => by
        obtain ⟨i, _, rfl⟩ := List.mem_map.1 hx
        have h2 : b ^ i % u ≠ 0 := fun h0 => by
          have hd := Nat.dvd_of_mod_eq_zero h0
          have := Nat.Coprime.eq_one_of_dvd (pow_cop h i) hd
          omega
        have h3 := Nat.mod_lt (b ^ i) (show 0 < u by omega)
        exact List.mem_map.2 ⟨b ^ i % u - 1, List.mem_range.2 (by omega), by omega⟩
      have := nodup_subset_length _ _ hnd hsub
      simp at this; omega
  obtain ⟨j, ⟨h1, h2, h3, h4⟩, hmin⟩ := least_nat hex
  exact ⟨j, ⟨h1, h4, fun k hk hkj hkk => hmin k hkj ⟨hk, by omega, fun _ => by omega, hkk⟩⟩, h2, h3⟩

theorem Per.inj {b u p i j : Nat} (hp : Per b u p) (h : Nat.Coprime u b) (hij : i < j) (hj : j < p) : b ^ i % u ≠ b ^ j % u := fun he =>
  hp.least (j - i) (by omega) (by omega) (pow_back h (by omega) he)

theorem Per.add {b u p : Nat} (hp : Per b u p) (k : Nat) : b ^ (k + p) % u = b ^ k % u := by
  rw [Nat.pow_add, Nat.mul_mod, hp.back, ← Nat.mul_mod, Nat.mul_one]

theorem Per.mod {b u p : Nat} (hp : Per b u p) (k : Nat) : b ^ k % u = b ^ (k % p) % u := by
  induction k using Nat.strongRecOn with
  | _ k ih =>
    have h0 := hp.pos
    by_cases h : k < p
    · rw [Nat.mod_eq_of_lt h]
    · have h1 := hp.add (k - p)
      rw [Nat.sub_add_cancel (by omega)] at h1
      rw [h1, ih (k - p) (by omega), ← Nat.mod_eq_sub_mod (by omega)]

/-! ### Digits that go round -/

/-- The rest behind k digits. -/
def restN (b u x k : Nat) : Nat := x * b ^ k % u
theorem restN_zero {b u x : Nat} (h : x < u) : restN b u x 0 = x := by simp [restN, Nat.mod_eq_of_lt h]
theorem restN_succ (b u x k : Nat) : restN b u x (k + 1) = restN b u x k * b % u := by
  unfold restN
  rw [Nat.pow_succ, ← Nat.mul_assoc, Nat.mul_mod, Nat.mul_mod (x * b ^ k % u) b, Nat.mod_mod]
theorem restN_lt {b u x k : Nat} (hu : 1 ≤ u) : restN b u x k < u := Nat.mod_lt _ (by omega)
/-- The digit at place k. -/
def digitN (b u x k : Nat) : Nat := restN b u x k * b / u
theorem digitN_lt {b u x k : Nat} (hu : 1 ≤ u) (hb : 1 ≤ b) : digitN b u x k < b := by
  unfold digitN
  rw [Nat.div_lt_iff_lt_mul (by omega), Nat.mul_comm b]
  exact Nat.mul_lt_mul_of_pos_right (restN_lt hu) (by omega)
def roundD (b u x p : Nat) : List Nat := (List.range p).map fun k => digitN b u x k
theorem roundD_len (b u x p : Nat) : (roundD b u x p).length = p := by simp [roundD]
theorem roundD_get {b u x p k : Nat} (h : k < p) : (roundD b u x p)[k]?.getD 0 = digitN b u x k := by simp [roundD, h]
theorem roundD_succ (b u x p : Nat) : roundD b u x (p + 1) = roundD b u x p ++ [digitN b u x p] := by simp [roundD, List.range_succ]

theorem round_val {b u x : Nat} (hx : x < u) : ∀ p, valF b 0 (roundD b u x p) * u + restN b u x p = x * b ^ p := by
  intro p
  induction p with
  | zero => rw [restN_zero hx]; simp [roundD, valF]
  | succ p ih =>
    have h1 := Nat.div_add_mod (restN b u x p * b) u
    rw [roundD_succ, valF_snoc, restN_succ, Nat.pow_succ, ← Nat.mul_assoc, ← ih, Nat.add_mul, Nat.add_mul]
    show valF b 0 (roundD b u x p) * b * u + digitN b u x p * u + _ = _
    unfold digitN
    rw [Nat.mul_comm (restN b u x p * b / u) u, Nat.mul_right_comm (valF b 0 (roundD b u x p)) u b]
    omega

/-- Behind a period the rest is the first one. -/
theorem rest_back {b u x p : Nat} (hp : Per b u p) (hx : x < u) : restN b u x p = x := by
  unfold restN
  rw [Nat.mul_mod, hp.back, ← Nat.mul_mod, Nat.mul_one, Nat.mod_eq_of_lt hx]

theorem round_whole {b u x p : Nat} (hp : Per b u p) (hx : x < u) : valF b 0 (roundD b u x p) * u = x * (b ^ p - 1) := by
  have h := round_val (b := b) hx p
  rw [rest_back hp hx] at h
  rw [Nat.mul_sub, Nat.mul_one]; omega

/-! ### Halves -/

/-- What the law calls prime. -/
def TrialPrime (u : Nat) : Prop := 2 ≤ u ∧ ∀ k, 2 ≤ k → k * k ≤ u → u % k ≠ 0

theorem TrialPrime.divisor {u d : Nat} (h : TrialPrime u) (hd : d ∣ u) : d = 1 ∨ d = u := by
  obtain ⟨h2, ht⟩ := h
  obtain ⟨e, he⟩ := hd
  refine Classical.byContradiction fun hno => ?_
  have hd1 : d ≠ 1 := fun h => hno (.inl h)
  have hd2 : d ≠ u := fun h => hno (.inr h)
  have hd0 : d ≠ 0 := fun h => by subst h; omega
  have he0 : e ≠ 0 := fun h => by subst h; omega
  have he1 : e ≠ 1 := fun h => by subst h; omega
  rcases Nat.le_total d e with hle | hle
  · refine ht d (by omega) ?_ (by rw [he]; exact Nat.mul_mod_right d e)
    have := Nat.mul_le_mul_left d hle; omega
  · refine ht e (by omega) ?_ (by rw [he]; exact Nat.mul_mod_left d e)
    have := Nat.mul_le_mul_right e hle; omega

theorem TrialPrime.cop {u a : Nat} (h : TrialPrime u) (ha : ¬ u ∣ a) : Nat.Coprime u a := by
  rcases h.divisor (Nat.gcd_dvd_left u a) with h1 | h1
  · exact h1
  · exact absurd (h1 ▸ Nat.gcd_dvd_right u a) ha

theorem half_back {b u h : Nat} (hu : TrialPrime u) (hp : Per b u (2 * h)) : (b ^ h + 1) % u = 0 := by
  have h2 := hu.1
  have hpos := hp.pos
  have hb0 : b ≠ 0 := fun e => by
    have := hp.back
    rw [e, Nat.zero_pow (by omega), Nat.zero_mod, Nat.mod_eq_of_lt (by omega)] at this
    omega
  have hx : 1 ≤ b ^ h := Nat.pow_pos (by omega)
  have h3 : b ^ (2 * h) = b ^ h * b ^ h := by rw [← Nat.pow_add]; congr 1; omega
  have hxx : 1 ≤ b ^ h * b ^ h := Nat.mul_pos hx hx
  have hd : u ∣ b ^ h * b ^ h - 1 := (mod_eq_iff hxx).1 (by rw [← h3]; exact hp.back.symm)
  have he : b ^ h * b ^ h - 1 = (b ^ h - 1) * (b ^ h + 1) := by
    obtain ⟨y, hy⟩ : ∃ y, b ^ h = y + 1 := ⟨b ^ h - 1, by omega⟩
    rw [hy, Nat.add_sub_cancel, Nat.mul_add, Nat.mul_one, Nat.add_mul, Nat.one_mul, Nat.mul_add, Nat.mul_add]; omega
  rw [he] at hd
  have hn : ¬ u ∣ b ^ h - 1 := fun hh => hp.least h (by omega) (by omega) ((mod_eq_iff hx).2 hh).symm
  exact Nat.mod_eq_zero_of_dvd (Nat.Coprime.dvd_of_dvd_mul_left (hu.cop hn) hd)

theorem rest_half {b u h k : Nat} (hu : 2 ≤ u) (hc : Nat.Coprime u b) (hh : (b ^ h + 1) % u = 0) : restN b u 1 k + restN b u 1 (k + h) = u := by
  have h1 : (b ^ k * (b ^ h + 1)) % u = 0 := by rw [Nat.mul_mod, hh, Nat.mul_zero, Nat.zero_mod]
  rw [Nat.mul_add, Nat.mul_one, ← Nat.pow_add, Nat.add_mod] at h1
  have h2 : b ^ k % u ≠ 0 := fun h0 => by
    have := Nat.Coprime.eq_one_of_dvd (pow_cop hc k) (Nat.dvd_of_mod_eq_zero h0)
    omega
  have h3 := Nat.mod_lt (b ^ k) (show 0 < u by omega)
  have h4 := Nat.mod_lt (b ^ (k + h)) (show 0 < u by omega)
  unfold restN
  rw [Nat.one_mul, Nat.one_mul]
  rcases Nat.lt_or_ge (b ^ (k + h) % u + b ^ k % u) u with hlt | hge
  · rw [Nat.mod_eq_of_lt hlt] at h1; omega
  · rw [Nat.mod_eq_sub_mod hge, Nat.mod_eq_of_lt (by omega)] at h1; omega

/-- Both halves are one less than the base. -/
theorem digit_half {b u h k : Nat} (hb : 1 ≤ b) (hu : 2 ≤ u) (hc : Nat.Coprime u b) (hh : (b ^ h + 1) % u = 0) : digitN b u 1 k + digitN b u 1 (k + h) = b - 1 := by
  have hr := rest_half (k := k) hu hc hh
  have hk : restN b u 1 k * b % u ≠ 0 := by
    rw [← restN_succ]
    unfold restN
    rw [Nat.one_mul]
    intro h0
    have := Nat.Coprime.eq_one_of_dvd (pow_cop hc (k + 1)) (Nat.dvd_of_mod_eq_zero h0)
    omega
  unfold digitN
  obtain ⟨r, hrr⟩ : ∃ r, restN b u 1 k = r := ⟨_, rfl⟩
  obtain ⟨s, hss⟩ : ∃ s, restN b u 1 (k + h) = s := ⟨_, rfl⟩
  rw [hrr] at hk
  rw [hrr, hss] at hr ⊢
  have e1 := Nat.div_add_mod (r * b) u
  have e2 := Nat.div_add_mod (s * b) u
  have l1 := Nat.mod_lt (r * b) (show 0 < u by omega)
  have l2 := Nat.mod_lt (s * b) (show 0 < u by omega)
  have hsum : r * b + s * b = u * b := by rw [← Nat.add_mul, hr]
  obtain ⟨A, hA⟩ : ∃ A, r * b / u = A := ⟨_, rfl⟩
  obtain ⟨C, hC⟩ : ∃ C, s * b / u = C := ⟨_, rfl⟩
  rw [hA] at e1 ⊢
  rw [hC] at e2 ⊢
  -- u * (A + C) + rests = u * b, the rests between 1 and 2 u less 2
  have h1 : u * (A + C) + (r * b % u + s * b % u) = u * b := by rw [Nat.mul_add]; omega
  have h2 : A + C < b := by
    refine Classical.byContradiction fun hno => ?_
    have : u * b ≤ u * (A + C) := Nat.mul_le_mul_left u (by omega)
    omega
  have h3 : b < A + C + 2 := by
    refine Classical.byContradiction fun hno => ?_
    have : u * (A + C + 2) ≤ u * b := Nat.mul_le_mul_left u (by omega)
    rw [Nat.mul_add] at this
    omega
  omega

/-! ### Full rounds -/

/-- Where the period is one less than the number, each number from 1 on is left by a power. -/
theorem full_all {b u v : Nat} (hu : 2 ≤ u) (hc : Nat.Coprime u b) (hp : Per b u (u - 1)) (h1 : 1 ≤ v) (h2 : v < u) : ∃ k, k < u - 1 ∧ b ^ k % u = v := by
  refine Classical.byContradiction fun hno => ?_
  have hnd : ((List.range (u - 1)).map fun i => b ^ i % u).Nodup := nodup_range_map (fun i => b ^ i % u) (u - 1) fun i j hij hj => hp.inj hc hij hj
  have hsub : ∀ x ∈ (List.range (u - 1)).map (fun i => b ^ i % u), x ∈ ((List.range (u - 1)).map (· + 1)).erase v := fun x hx => by
    obtain ⟨i, hi, rfl⟩ := List.mem_map.1 hx
    have h3 : b ^ i % u ≠ 0 := fun h0 => by
      have := Nat.Coprime.eq_one_of_dvd (pow_cop hc i) (Nat.dvd_of_mod_eq_zero h0)
      omega
    have h4 := Nat.mod_lt (b ^ i) (show 0 < u by omega)
    refine (List.mem_erase_of_ne fun he => hno ⟨i, List.mem_range.1 hi, he⟩).2 ?_
    exact List.mem_map.2 ⟨b ^ i % u - 1, List.mem_range.2 (by omega), by omega⟩
  have hv : v ∈ (List.range (u - 1)).map (· + 1) := List.mem_map.2 ⟨v - 1, List.mem_range.2 (by omega), by omega⟩
  have h3 := nodup_subset_length _ _ hnd hsub
  have h4 := List.length_erase_of_mem hv
  simp at h3 h4; omega

theorem full_prime {b u : Nat} (hu : 2 ≤ u) (hc : Nat.Coprime u b) (hp : Per b u (u - 1)) : TrialPrime u := by
  refine ⟨hu, fun k hk hkk h0 => ?_⟩
  have hd := Nat.dvd_of_mod_eq_zero h0
  have hlt : k < u := by
    have : k * 2 ≤ k * k := Nat.mul_le_mul_left k hk
    omega
  obtain ⟨j, _, hj⟩ := full_all hu hc hp (v := k) (by omega) hlt
  have h1 : k ∣ b ^ j := by
    have : k ∣ b ^ j % u := by rw [hj]; exact Nat.dvd_refl k
    exact (Nat.dvd_mod_iff hd).1 this
  have h2 : k ∣ Nat.gcd u (b ^ j) := Nat.dvd_gcd hd h1
  rw [pow_cop hc j] at h2
  have := Nat.le_of_dvd (by omega) h2
  omega

/-! ### Begun elsewhere -/

theorem begun_rest {b u p k j : Nat} (hp : Per b u p) {x : Nat} (hx : b ^ k % u = x) : restN b u x j = restN b u (1 % u) ((k + j) % p) := by
  unfold restN
  rw [← hx, Nat.mod_mul_mod, ← Nat.pow_add, hp.mod (k + j), Nat.mod_mul_mod, Nat.one_mul]

theorem begun_digit {b u p k j : Nat} (hp : Per b u p) {x : Nat} (hx : b ^ k % u = x) : digitN b u x j = digitN b u (1 % u) ((k + j) % p) := by
  unfold digitN; rw [begun_rest hp hx]

end Pl
end Go.Proofs.YtgkkoegfmhgcjaaGreatDoor

namespace Go.Proofs.YtgkkoegfmhgcjaaGreatDoor
namespace Pl

/-- Whether a number below the line has no common divisor with a base but 1. -/
def underB (u b : Int) : Bool := ((decide (1 ≤ u) && decide (u ≤ 200)) && baseB b) && decide (Nat.gcd u.toNat b.toNat = 1)
theorem underB_iff (u b : Nat) : underB u b = true ↔ (1 ≤ u ∧ u ≤ 200) ∧ (2 ≤ b ∧ b ≤ 16) ∧ Nat.Coprime u b := by
  simp only [underB, Bool.and_eq_true, decide_eq_true_eq, baseB_iff, Int.toNat_natCast, Nat.Coprime]; omega
theorem underB_nat {u b : Int} (h : underB u b = true) : ∃ v k : Nat, u = (v : Int) ∧ b = (k : Int) ∧ 1 ≤ v ∧ v ≤ 200 ∧ 2 ≤ k ∧ k ≤ 16 ∧ Nat.Coprime v k := by
  have h' := h
  simp only [underB, Bool.and_eq_true, decide_eq_true_eq, baseB_iff] at h'
  exact ⟨u.toNat, b.toNat, by omega, by omega, by omega, by omega, by omega, by omega, h'.2⟩

/-- The period: the least number of times, from 1 on. -/
def periodN (b u : Nat) : Nat := ((List.range (u + 1)).find? fun p => decide (1 ≤ p) && decide (b ^ p % u = 1 % u)).getD 0

theorem periodN_per {b u : Nat} (hu : 1 ≤ u) (h : Nat.Coprime u b) : Per b u (periodN b u) ∧ periodN b u ≤ u ∧ (2 ≤ u → periodN b u ≤ u - 1) := by
  obtain ⟨p, hp, h1, h2⟩ := per_exists hu h
  have e : periodN b u = p := by
    unfold periodN
    cases hf : (List.range (u + 1)).find? fun p => decide (1 ≤ p) && decide (b ^ p % u = 1 % u) with
    | none =>
      rw [List.find?_eq_none] at hf
      have := hf p (List.mem_range.2 (by omega))
      exact absurd (by simp [hp.pos, hp.back]) this
    | some q =>
      have g1 := List.find?_some hf
      simp only [Bool.and_eq_true, decide_eq_true_eq] at g1
      show q = p
      rcases Nat.lt_trichotomy q p with hlt | he | hgt
      · exact absurd g1.2 (hp.least q g1.1 hlt)
      · exact he
      · exfalso
        rw [List.find?_range_eq_some] at hf
        have := hf.2.2 p hgt
        simp [hp.pos, hp.back] at this
  rw [e]; exact ⟨hp, h1, h2⟩

/-- The period, as the functions answer. -/
def periodI (u b : Int) : Int := if underB u b = true then ((periodN b.toNat u.toNat : Nat) : Int) else -1
theorem periodI_yes {u k : Nat} (h : underB u k = true) : periodI u k = ((periodN k u : Nat) : Int) := by rw [periodI, if_pos h]; rfl
theorem periodI_no {u b : Int} (h : ¬ underB u b = true) : periodI u b = -1 := by rw [periodI, if_neg h]

/-- Numbers above and below the line of which a round is told. -/
def overB (x u b : Int) : Bool := underB u b && (decide (0 ≤ x) && decide (x < u))
theorem overB_nat {x u b : Int} (h : overB x u b = true) : ∃ y v k : Nat, x = (y : Int) ∧ u = (v : Int) ∧ b = (k : Int) ∧ y < v ∧ v ≤ 200 ∧ 2 ≤ k ∧ k ≤ 16 ∧ Nat.Coprime v k ∧ underB v k = true := by
  simp only [overB, Bool.and_eq_true, decide_eq_true_eq] at h
  obtain ⟨v, k, rfl, rfl, h1, h2, h3, h4, h5⟩ := underB_nat h.1
  exact ⟨x.toNat, v, k, by omega, rfl, rfl, by omega, h2, h3, h4, h5, h.1⟩

/-- The round, as the functions answer. -/
def roundP (x u b : Int) : List Int := if overB x u b = true then (roundD b.toNat u.toNat x.toNat (periodN b.toNat u.toNat)).map fun d : Nat => (d : Int) else []
theorem roundP_yes {x u k : Nat} (h : overB x u k = true) : roundP x u k = (roundD k u x (periodN k u)).map fun d : Nat => (d : Int) := by rw [roundP, if_pos h]; rfl
theorem roundP_no {x u b : Int} (h : ¬ overB x u b = true) : roundP x u b = [] := by rw [roundP, if_neg h]

/-- Both halves are together one less than the base. -/
def Halves (b u p : Nat) : Prop := ∀ k, k < p / 2 → digitN b u 1 k + digitN b u 1 (k + p / 2) = b - 1
instance (b u p : Nat) : Decidable (Halves b u p) := inferInstanceAs (Decidable (∀ k, k < p / 2 → _))
/-- The test of halves, as the functions answer. -/
def halvesB (u b : Int) : Bool := (underB u b && decide (2 ≤ u)) && (decide (periodN b.toNat u.toNat % 2 = 0) && decide (Halves b.toNat u.toNat (periodN b.toNat u.toNat)))
theorem halvesB_iff {u k : Nat} (h : underB u k = true) (h2 : 2 ≤ u) : halvesB u k = true ↔ periodN k u % 2 = 0 ∧ Halves k u (periodN k u) := by
  simp only [halvesB, h, Bool.and_eq_true, decide_eq_true_eq, Int.toNat_natCast, true_and]
  constructor
  · rintro ⟨_, h3⟩; exact h3
  · intro h3; exact ⟨by omega, h3⟩
theorem halvesB_no {u b : Int} (h : ¬ (underB u b = true ∧ 2 ≤ u)) : halvesB u b = false := by
  rw [← Bool.not_eq_true]
  intro hh
  simp only [halvesB, Bool.and_eq_true, decide_eq_true_eq] at hh
  exact h hh.1
/-- Full rounds, as the functions answer. -/
def fullB (u b : Int) : Bool := decide (3 ≤ u) && decide (periodI u b = u - 1)

/-- Where a round is begun, as the functions answer. -/
def begunO (x u b : Int) : Option Nat := if overB x u b = true ∧ 2 ≤ u then (List.range (periodN b.toNat u.toNat)).find? fun k => decide (b.toNat ^ k % u.toNat = x.toNat) else none
theorem begunO_some {x u b : Nat} {k : Nat} (h : begunO x u b = some k) : (overB x u b = true ∧ 2 ≤ u) ∧ k < periodN b u ∧ b ^ k % u = x ∧ ∀ j, j < k → b ^ j % u ≠ x := by
  unfold begunO at h
  split at h
  · rename_i hc
    simp only [Int.toNat_natCast] at h
    rw [List.find?_range_eq_some] at h
    obtain ⟨h1, h2, h3⟩ := h
    refine ⟨⟨hc.1, by omega⟩, List.mem_range.1 h2, by simpa using h1, fun j hj => by simpa using h3 j hj⟩
  · cases h
theorem begunO_none {x u b : Nat} (h : begunO x u b = none) (hc : overB x u b = true ∧ 2 ≤ u) : ∀ k, k < periodN b u → b ^ k % u ≠ x := by
  unfold begunO at h
  rw [if_pos ⟨hc.1, by omega⟩] at h
  simp only [Int.toNat_natCast] at h
  rw [List.find?_eq_none] at h
  intro k hk
  simpa using h k (List.mem_range.2 hk)
theorem begunO_no {x u b : Int} (h : ¬ (overB x u b = true ∧ 2 ≤ u)) : begunO x u b = none := by rw [begunO, if_neg h]

end Pl
end Go.Proofs.YtgkkoegfmhgcjaaGreatDoor
