/-
  Plain facts: digits tell the number (wholeO), the first digit of a number from 1 on is not 0, the digits of the next number are later in the order of rows.
-/
import Derived.Test.YtepkneeedkmaoaaMathLen
namespace Go.Proofs.Ytepkneeedkmaoaa
namespace Pl

theorem wholeO_digI {b : Nat} (hb : 2 ≤ b) (n : Nat) : n ≤ 1000000000 → ∀ t, wholeO b (digI b n ++ t) 0 = wholeO b t n := by
  refine digInd hb (P := fun n => n ≤ 1000000000 → ∀ t, wholeO b (digI b n ++ t) 0 = wholeO b t n) ?_ ?_ n
  · intro n h hn t
    rw [digI_lt h, List.cons_append, List.nil_append, wholeO_good _ _ _ _ (by omega)]
    congr 1; omega
  · intro n h ih hn t
    have h1 := Nat.div_add_mod n b
    have h2 := Nat.mod_lt n (show 0 < b by omega)
    have h3 : n / b ≤ n := Nat.div_le_self _ _
    have e : n / b * b + n % b = n := by rw [Nat.mul_comm]; exact h1
    rw [digI_ge hb h, List.append_assoc, ih (by omega), List.cons_append, List.nil_append, wholeO_good]
    · congr 1
    · refine ⟨by omega, ?_⟩
      have : ((n / b : Nat) : Int) * (b : Int) + ((n % b : Nat) : Int) = (n : Int) := by exact_mod_cast e
      omega

theorem whole_digA {x k : Nat} (h : okB x k = true) : whole (digA x k) k = some x := by
  obtain ⟨_, _, hx, hk, h1, h2, h3⟩ := okB_nat h
  have ex : x = _ := Int.ofNat.inj hx
  have ek : k = _ := Int.ofNat.inj hk
  subst ex; subst ek
  rw [digA_yes x k h, whole, if_pos]
  · have := wholeO_digI h1 x h3 []
    rw [List.append_nil] at this
    exact this
  · refine ⟨by rw [baseB_iff]; omega, ?_⟩
    intro e
    have := digsR_pos k x
    rw [← digI_len, e] at this; simp at this

theorem first_pos {b : Nat} (hb : 2 ≤ b) (n : Nat) : 1 ≤ n → (0 : Int) < (digI b n)[0]?.getD 0 := by
  refine digInd hb (P := fun n => 1 ≤ n → (0 : Int) < (digI b n)[0]?.getD 0) ?_ ?_ n
  · intro n h hn; rw [digI_lt h]; simp; omega
  · intro n h ih _
    have h1 : 1 ≤ n / b := (Nat.one_le_div_iff (by omega)).2 h
    have h2 := digsR_pos b (n / b)
    rw [digI_ge hb h, List.getElem?_append_left (by rw [digI_len]; omega)]
    exact ih h1

/-- The second row is later at a place up to which both are the same. -/
def Later (l m : List Int) (j : Nat) : Prop := j < l.length ∧ j < m.length ∧ (∀ i, i < j → l[i]?.getD 0 = m[i]?.getD 0) ∧ l[j]?.getD 0 < m[j]?.getD 0

theorem later_append {l m : List Int} {j : Nat} (h : Later l m j) (l' m' : List Int) : Later (l ++ l') (m ++ m') j := by
  obtain ⟨h1, h2, h3, h4⟩ := h
  refine ⟨by simp; omega, by simp; omega, fun i hi => ?_, ?_⟩
  · rw [List.getElem?_append_left (by omega), List.getElem?_append_left (by omega)]; exact h3 i hi
  · rw [List.getElem?_append_left h1, List.getElem?_append_left h2]; exact h4

theorem digI_later {b : Nat} (hb : 2 ≤ b) (n : Nat) : (digI b (n + 1)).length = (digI b n).length → ∃ j, Later (digI b n) (digI b (n + 1)) j := by
  induction n using Nat.strongRecOn with
  | _ n ih =>
    intro hlen
    by_cases h1 : n + 1 < b
    · rw [digI_lt h1, digI_lt (show n < b by omega)]
      exact ⟨0, by simp [Later]; omega⟩
    · by_cases h2 : n < b
      · exfalso
        rw [digI_len, digI_len, len_lt h2, len_ge hb (by omega)] at hlen
        have := digsR_pos b ((n + 1) / b)
        omega
      · rw [digI_ge hb (n := n + 1) (by omega), digI_ge hb (n := n) (by omega)] at hlen ⊢
        by_cases hm : n % b = b - 1
        · have e : (n + 1) / b = n / b + 1 := by
            have h1 := Nat.div_add_mod n b
            have e : n + 1 = b * (n / b + 1) := by rw [Nat.mul_add]; omega
            rw [e, Nat.mul_div_cancel_left _ (by omega)]
          rw [e] at hlen ⊢
          obtain ⟨j, hj⟩ := ih (n / b) (Nat.div_lt_self (by omega) (by omega)) (by simpa using hlen)
          exact ⟨j, later_append hj _ _⟩
        · obtain ⟨e1, e2⟩ := succ_mod_div hb hm
          rw [e1, e2]
          refine ⟨(digI b (n / b)).length, by simp, by simp, fun i hi => ?_, ?_⟩
          · rw [List.getElem?_append_left hi, List.getElem?_append_left hi]
          · simp; omega

end Pl
end Go.Proofs.Ytepkneeedkmaoaa
