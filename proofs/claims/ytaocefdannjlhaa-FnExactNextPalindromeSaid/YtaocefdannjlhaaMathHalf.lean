/-
  Plain facts: palindromes and their first half; the next palindrome by its half.
-/
import Derived.Test.YtaocefdannjlhaaMathTurn
namespace Go.Proofs.Ytaocefdannjlhaa
namespace Pl

theorem valR_app (b : Nat) : ∀ l m : List Nat, valR b (l ++ m) = valR b l + b ^ l.length * valR b m := by
  intro l
  induction l with
  | nil => intro m; simp [valR]
  | cons d t ih =>
    intro m
    rw [List.cons_append, valR, ih, valR, Nat.mul_add, List.length_cons, Nat.pow_succ, Nat.mul_comm (b ^ t.length) b, Nat.mul_assoc]; omega

/-- The digits in front. -/
theorem digsR_drop {b : Nat} (hb : 2 ≤ b) : ∀ k n, k < (digsR b n).length → digsR b (n / b ^ k) = (digsR b n).drop k := by
  intro k
  induction k with
  | zero => intro n _; simp
  | succ k ih =>
    intro n h
    by_cases hn : n < b
    · rw [digsR_lt hn] at h; simp at h
    · rw [digsR_ge (n := n) hb (by omega)] at h ⊢
      rw [Nat.pow_succ, Nat.mul_comm (b ^ k) b, ← Nat.div_div_eq_div_mul, List.drop_succ_cons]
      exact ih (n / b) (by simpa using h)

/-- The digits, the last one first, of a first half and, behind it, the half turned round; of an odd number of digits the one in the middle is taken once. -/
def palRow (b L f : Nat) : List Nat := ((digsR b f).drop (L % 2)).reverse ++ digsR b f
def palN (b L f : Nat) : Nat := valR b (palRow b L f)

theorem palRow_rev (b L f : Nat) : (palRow b L f).reverse = palRow b L f := by
  unfold palRow
  rw [List.reverse_append, List.reverse_reverse]
  rcases Nat.mod_two_eq_zero_or_one L with h | h
  · rw [h, List.drop_zero]
  · rw [h]
    cases digsR b f with
    | nil => rfl
    | cons d t => simp

theorem palRow_mem {b : Nat} (hb : 2 ≤ b) (L f : Nat) : ∀ x ∈ palRow b L f, x < b := by
  intro x hx
  unfold palRow at hx
  rw [List.mem_append] at hx
  rcases hx with hx | hx
  · exact digsR_mem hb f x (List.mem_of_mem_drop (List.mem_reverse.1 hx))
  · exact digsR_mem hb f x hx

theorem palRow_len {b L f : Nat} (h : (digsR b f).length = (L + 1) / 2) : (palRow b L f).length = L := by
  unfold palRow
  rw [List.length_append, List.length_reverse, List.length_drop, h]; omega

theorem last_app (A : List Nat) {B : List Nat} (h : 1 ≤ B.length) : (A ++ B).getLastD 0 = B.getLastD 0 := by
  rw [List.getLastD_eq_getLast?, List.getLast?_append, List.getLastD_eq_getLast?]
  cases hl : B.getLast? with
  | none => rw [List.getLast?_eq_none_iff] at hl; rw [hl] at h; simp at h
  | some x => rfl

theorem palN_turn {b L f : Nat} (hb : 2 ≤ b) (h : 1 ≤ f ∨ L = 1) : turnN b (palN b L f) = palN b L f := by
  by_cases hf : 1 ≤ f
  · have h1 := digsR_last hb f hf
    have hp := digsR_pos b f
    have hd : digsR b (palN b L f) = palRow b L f := by
      refine digsR_valR hb _ (palRow_mem hb L f) ?_
      unfold palRow
      rw [last_app _ hp]
      exact h1
    rw [turnN_valR, hd, palRow_rev]; rfl
  · obtain rfl : f = 0 := by omega
    obtain rfl : L = 1 := by omega
    have : palN b 1 0 = 0 := by unfold palN palRow; rw [digsR_lt (by omega)]; rfl
    rw [this]; exact turnN_lt (by omega)

theorem palN_div {b L f : Nat} (hb : 2 ≤ b) (h : (digsR b f).length = (L + 1) / 2) : palN b L f / b ^ (L / 2) = f := by
  have hl : ((digsR b f).drop (L % 2)).reverse.length = L / 2 := by
    rw [List.length_reverse, List.length_drop, h]; omega
  have h1 := valR_lt (b := b) ((digsR b f).drop (L % 2)).reverse fun x hx => digsR_mem hb f x (List.mem_of_mem_drop (List.mem_reverse.1 hx))
  rw [hl] at h1
  unfold palN palRow
  rw [valR_app, hl, valR_digsR hb, Nat.add_mul_div_left _ _ (Nat.pow_pos (by omega)), Nat.div_eq_of_lt h1, Nat.zero_add]

theorem palN_lt {b L f : Nat} (hb : 2 ≤ b) (h : (digsR b f).length = (L + 1) / 2) : palN b L f < b ^ L := by
  have := valR_lt (palRow b L f) (palRow_mem hb L f)
  rwa [palRow_len h] at this

/-- The digits of a palindrome. -/
theorem digsR_pal {b n : Nat} (hb : 2 ≤ b) (hp : turnN b n = n) : (digsR b n).reverse = digsR b n := by
  by_cases h : 1 ≤ n
  · have h1 := digsR_turn hb (pal_last hb h hp)
    rw [hp] at h1; exact h1.symm
  · obtain rfl : n = 0 := by omega
    rw [digsR_lt (by omega)]; rfl

/-- A palindrome is told by its first half. -/
theorem palN_of {b n L : Nat} (hb : 2 ≤ b) (hL : (digsR b n).length = L) (hp : turnN b n = n) : palN b L (n / b ^ (L / 2)) = n := by
  have h1 := digsR_pal hb hp
  have h0 := digsR_pos b n
  unfold palN palRow
  rw [digsR_drop hb (L / 2) n (by omega), List.drop_drop, List.reverse_drop, h1, hL]
  rw [show L - (L / 2 + L % 2) = L / 2 by omega, List.take_append_drop, valR_digsR hb]

/-- Greater numbers below the power have as many digits. -/
theorem len_up {b n j L : Nat} (hb : 2 ≤ b) (hL : (digsR b n).length = L) (h : n ≤ j) (hj : j < b ^ L) : (digsR b j).length = L := by
  have h0 := digsR_pos b n
  by_cases hn : 1 ≤ n
  · obtain ⟨l, rfl⟩ : ∃ l, L = l + 1 := ⟨L - 1, by omega⟩
    have h1 := pow_le_of hb n hn
    rw [hL, Nat.add_sub_cancel] at h1
    exact len_between hb (by omega) hj
  · obtain rfl : n = 0 := by omega
    rw [digsR_lt (by omega)] at hL
    obtain rfl : L = 1 := by simpa using hL.symm
    rw [len_lt (by simpa using hj)]

theorem valR_top {b : Nat} (hb : 2 ≤ b) (L : Nat) : valR b (List.replicate L (b - 1)) + 1 = b ^ L := by
  induction L with
  | zero => simp [valR]
  | succ L ih =>
    rw [List.replicate_succ, valR, Nat.pow_succ, ← ih, Nat.add_mul, Nat.mul_comm (valR b (List.replicate L (b - 1))) b]; omega

theorem digsR_top {b : Nat} (hb : 2 ≤ b) {h : Nat} (hh : 1 ≤ h) : digsR b (b ^ h - 1) = List.replicate h (b - 1) := by
  have e : b ^ h - 1 = valR b (List.replicate h (b - 1)) := by have := valR_top hb h; omega
  rw [e]
  refine digsR_valR hb _ (fun x hx => by rw [(List.mem_replicate.1 hx).2]; omega) ?_
  obtain ⟨k, rfl⟩ : ∃ k, h = k + 1 := ⟨h - 1, by omega⟩
  rw [List.replicate_succ', List.getLastD_concat]; omega

theorem palN_top {b L : Nat} (hb : 2 ≤ b) (hL : 1 ≤ L) : palN b L (b ^ ((L + 1) / 2) - 1) + 1 = b ^ L := by
  unfold palN palRow
  rw [digsR_top hb (by omega), List.drop_replicate, List.reverse_replicate, List.replicate_append_replicate, show (L + 1) / 2 - L % 2 + (L + 1) / 2 = L by omega]
  exact valR_top hb L

theorem pow_len_le {b n : Nat} (hb : 2 ≤ b) (hb' : b ≤ 16) (hn : n ≤ 1000000) : b ^ (digsR b n).length ≤ 16000000 := by
  have h0 := digsR_pos b n
  by_cases h : 1 ≤ n
  · have h1 := pow_le_of hb n h
    obtain ⟨l, hl⟩ : ∃ l, (digsR b n).length = l + 1 := ⟨(digsR b n).length - 1, by omega⟩
    rw [hl, Nat.add_sub_cancel] at h1
    rw [hl, Nat.pow_succ]
    exact Nat.le_trans (Nat.mul_le_mul h1 hb') (by omega)
  · obtain rfl : n = 0 := by omega
    rw [len_lt (by omega), Nat.pow_one]; omega

/-- Behind the greatest number of so many digits. -/
theorem nextPal_longer {b n : Nat} (hb : 2 ≤ b) (hn : n ≤ 1000000) (hlen : (digsR b n).length < (digsR b (n + 1)).length) : NextPal b n (n + 2) := by
  have h0 := digsR_pos b n
  obtain ⟨k, hk⟩ : ∃ k, (digsR b n).length = k + 1 := ⟨(digsR b n).length - 1, by omega⟩
  have h1 := lt_pow_len hb n
  have h2 := pow_le_of hb (n + 1) (by omega)
  have h3 : b ^ (k + 1) ≤ b ^ ((digsR b (n + 1)).length - 1) := Nat.pow_le_pow_right (by omega) (by omega)
  rw [hk] at h1
  have e : n + 1 = b ^ (k + 1) := by omega
  refine ⟨by omega, ?_, ?_, by omega⟩
  · rw [show n + 2 = b ^ (k + 1) + 1 by omega]; exact pal_pow hb k
  · intro j hj1 hj2 hp
    obtain rfl : j = b ^ (k + 1) := by omega
    refine pal_last hb (by omega) hp ?_
    rw [Nat.pow_succ, Nat.mul_mod_left]

structure HalfFacts (b n L f : Nat) : Prop where
  long : (digsR b n).length = L
  pos : 1 ≤ L
  few : L ≤ 24
  half : n / b ^ (L / 2) = f
  digs : digsR b f = (digsR b n).drop (L / 2)
  len : (digsR b f).length = (L + 1) / 2
  small : palN b L f ≤ 16000000
  fsmall : f ≤ 1000000

theorem halfFacts {b n : Nat} (hb : 2 ≤ b) (hb' : b ≤ 16) (hn : n ≤ 1000000) : HalfFacts b n (digsR b n).length (n / b ^ ((digsR b n).length / 2)) := by
  have h0 := digsR_pos b n
  have hd := digsR_drop hb ((digsR b n).length / 2) n (by omega)
  have hl : (digsR b (n / b ^ ((digsR b n).length / 2))).length = ((digsR b n).length + 1) / 2 := by rw [hd, List.length_drop]; omega
  have hp := pow_len_le hb hb' hn
  have h1 := palN_lt hb hl
  have h2 : 2 ^ (digsR b n).length ≤ b ^ (digsR b n).length := Nat.pow_le_pow_left hb _
  refine ⟨rfl, h0, ?_, rfl, hd, hl, by omega, Nat.le_trans (Nat.div_le_self _ _) hn⟩
  refine Classical.byContradiction fun hno => ?_
  have : 2 ^ 25 ≤ 2 ^ (digsR b n).length := Nat.pow_le_pow_right (by omega) (by omega)
  omega

theorem nextPal_same {b n L f : Nat} (hb : 2 ≤ b) (hF : HalfFacts b n L f) (h : n < palN b L f) : NextPal b n (palN b L f) := by
  obtain ⟨h1, h2, _, h4, h5, h6, h7, _⟩ := hF
  have hdiv := palN_div hb h6
  have hlt := palN_lt hb h6
  refine ⟨h, palN_turn hb ?_, ?_, by omega⟩
  · by_cases hf : 1 ≤ f
    · exact .inl hf
    · right
      obtain rfl : f = 0 := by omega
      have hp : palN b L 0 < b ^ (L / 2) := by
        refine Classical.byContradiction fun hno => ?_
        have : 1 ≤ palN b L 0 / b ^ (L / 2) := (Nat.one_le_div_iff (Nat.pow_pos (by omega))).2 (by omega)
        omega
      rw [len_lt (by omega)] at h6
      refine Classical.byContradiction fun hL => ?_
      obtain rfl : L = 2 := by omega
      have hn : n < b := by
        have : n / b ^ 1 = 0 := h4
        rw [Nat.pow_one] at this
        rcases (Nat.div_eq_zero_iff).1 this with h | h <;> omega
      rw [len_lt hn] at h1; omega
  · intro j hj1 hj2 hp
    have hj := palN_of hb (len_up hb h1 (Nat.le_of_lt hj1) (Nat.lt_trans hj2 hlt)) hp
    have e1 : f ≤ j / b ^ (L / 2) := by rw [← h4]; exact Nat.div_le_div_right (Nat.le_of_lt hj1)
    have e2 : j / b ^ (L / 2) ≤ f := by rw [← hdiv]; exact Nat.div_le_div_right (Nat.le_of_lt hj2)
    rw [show j / b ^ (L / 2) = f by omega] at hj
    omega

theorem nextPal_more {b n L f : Nat} (hb : 2 ≤ b) (hb' : b ≤ 16) (hn : n ≤ 1000000) (hF : HalfFacts b n L f) (hlen : ¬ L < (digsR b (n + 1)).length) (h : ¬ n < palN b L f) : NextPal b n (palN b L (f + 1)) := by
  have hpl := pow_len_le hb hb' hn
  obtain ⟨h1, h2, _, h4, h5, h6, h7, _⟩ := hF
  rw [h1] at hpl
  have hn1 : n + 1 < b ^ L := Nat.lt_of_lt_of_le (lt_pow_len hb (n + 1)) (Nat.pow_le_pow_right (by omega) (by omega))
  have hf1 : f < b ^ ((L + 1) / 2) := by have := lt_pow_len hb f; rwa [h6] at this
  have hf2 : f + 1 < b ^ ((L + 1) / 2) := by
    refine Classical.byContradiction fun hno => ?_
    have e : f = b ^ ((L + 1) / 2) - 1 := by omega
    have := palN_top hb h2
    rw [← e] at this
    omega
  have h6' : (digsR b (f + 1)).length = (L + 1) / 2 := len_up hb h6 (by omega) hf2
  have hdiv := palN_div hb h6'
  have hlt := palN_lt hb h6'
  refine ⟨?_, palN_turn hb (.inl (by omega)), ?_, by omega⟩
  · refine Classical.byContradiction fun hno => ?_
    have : palN b L (f + 1) / b ^ (L / 2) ≤ n / b ^ (L / 2) := Nat.div_le_div_right (by omega)
    omega
  · intro j hj1 hj2 hp
    have hj := palN_of hb (len_up hb h1 (Nat.le_of_lt hj1) (Nat.lt_trans hj2 hlt)) hp
    have e1 : f ≤ j / b ^ (L / 2) := by rw [← h4]; exact Nat.div_le_div_right (Nat.le_of_lt hj1)
    have e2 : j / b ^ (L / 2) ≤ f + 1 := by rw [← hdiv]; exact Nat.div_le_div_right (Nat.le_of_lt hj2)
    rcases (show j / b ^ (L / 2) = f ∨ j / b ^ (L / 2) = f + 1 by omega) with e | e
    · rw [e] at hj; omega
    · rw [e] at hj; omega

theorem nextPal_fit {b n m : Nat} (h : NextPal b n m) : m ≤ 16000001 := h.small

end Pl
end Go.Proofs.Ytaocefdannjlhaa
