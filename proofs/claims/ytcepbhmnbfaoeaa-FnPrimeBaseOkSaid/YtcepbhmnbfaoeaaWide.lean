/-
  impl.WideOk, spec.WideOk, spec.l4Power at bases: what they answer; the exact law of WideOk.
-/
import Derived.Test.YtcepbhmnbfaoeaaDigitsOf
import Derived.Test.YtcepbhmnbfaoeaaMathSort
namespace Go.Proofs.Ytcepbhmnbfaoeaa
open Go.RowKit Go.Shelf

theorem Pl.len_le_pow {b : Nat} (hb : 2 ≤ b) : ∀ w n, n < b ^ (w + 1) → (Pl.digsR b n).length ≤ w + 1 := by
  intro w
  induction w with
  | zero => intro n h; rw [Pl.len_lt (by simpa using h)]; omega
  | succ w ih =>
    intro n h
    by_cases hn : n < b
    · rw [Pl.len_lt hn]; omega
    · rw [Pl.len_ge hb (by omega)]
      have h1 : n / b < b ^ (w + 1) := by rw [Nat.div_lt_iff_lt_mul (by omega), ← Nat.pow_succ]; exact h
      have := ih _ h1
      omega

theorem Pl.len_iff {b : Nat} (hb : 2 ≤ b) {w : Nat} (hw : 1 ≤ w) (n : Nat) : (Pl.digsR b n).length ≤ w ↔ n < b ^ w := by
  constructor
  · intro h
    exact Nat.lt_of_lt_of_le (Pl.lt_pow_len hb n) (Nat.pow_le_pow_right (by omega) h)
  · intro h
    obtain ⟨v, rfl⟩ : ∃ v, w = v + 1 := ⟨w - 1, by omega⟩
    exact Pl.len_le_pow hb v n h

theorem wideB_long {n w b : Int} (h1 : Pl.okB n b = true) (h2 : 2 ≤ w) (h3 : w ≤ 6) : Pl.wideB n w b = decide (longI n b ≤ w) := by
  obtain ⟨x, k, rfl, rfl, g1, g2, g3⟩ := Pl.okB_nat h1
  obtain ⟨v, rfl⟩ : ∃ v : Nat, w = (v : Int) := ⟨w.toNat, by omega⟩
  rw [Bool.eq_iff_iff, Pl.wideB_iff, longI_nat x k h1]
  have := Pl.len_iff g1 (w := v) (by omega) x
  simp only [decide_eq_true_eq]
  omega

theorem wideB_bad1 {n w b : Int} (h : ¬ Pl.okB n b = true) : Pl.wideB n w b = false := by simp [Pl.wideB, h]
theorem wideB_bad2 {n w b : Int} (h : ¬ 2 ≤ w) : Pl.wideB n w b = false := by simp [Pl.wideB, h]
theorem wideB_bad3 {n w b : Int} (h : ¬ w ≤ 6) : Pl.wideB n w b = false := by simp [Pl.wideB, h]

end Go.Proofs.Ytcepbhmnbfaoeaa
