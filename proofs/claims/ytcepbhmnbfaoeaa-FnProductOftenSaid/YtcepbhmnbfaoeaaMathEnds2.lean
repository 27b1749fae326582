/-
  Plain facts: ends of squares as the functions answer; longer ends; how many primes, step by step.
-/
import Derived.Test.YtcepbhmnbfaoeaaMathEnds
namespace Go.Proofs.Ytcepbhmnbfaoeaa
namespace Pl

/-- Whether a number of so many digits is an end of its square, as the functions answer. -/
def endB (n l b : Int) : Bool := ((decide (1 ≤ l) && decide (l ≤ 4)) && baseB b) && (decide (0 ≤ n) && decide (Idem (b.toNat ^ l.toNat) n.toNat))

theorem endB_iff (n l b : Nat) : endB n l b = true ↔ (1 ≤ l ∧ l ≤ 4) ∧ (2 ≤ b ∧ b ≤ 16) ∧ Idem (b ^ l) n := by
  simp only [endB, Bool.and_eq_true, decide_eq_true_eq, baseB_iff, Int.toNat_natCast]
  constructor
  · rintro ⟨⟨⟨h1, h2⟩, h3, h4⟩, _, h5⟩; exact ⟨by omega, by omega, h5⟩
  · rintro ⟨h1, h2, h5⟩; exact ⟨⟨by omega, by omega⟩, by omega, h5⟩

theorem endB_nat {n l b : Int} (h : endB n l b = true) : ∃ x L k : Nat, n = (x : Int) ∧ l = (L : Int) ∧ b = (k : Int) ∧ 1 ≤ L ∧ L ≤ 4 ∧ 2 ≤ k ∧ k ≤ 16 ∧ Idem (k ^ L) x := by
  have h' := h
  simp only [endB, Bool.and_eq_true, decide_eq_true_eq, baseB_iff] at h'
  exact ⟨n.toNat, l.toNat, b.toNat, by omega, by omega, by omega, by omega, by omega, by omega, by omega, h'.2.2⟩

/-- Numbers of digits and bases of which ends are asked. -/
def endsOk (l b : Int) : Bool := (decide (1 ≤ l) && decide (l ≤ 4)) && baseB b
theorem endsOk_nat {l b : Int} (h : endsOk l b = true) : ∃ L k : Nat, l = (L : Int) ∧ b = (k : Int) ∧ 1 ≤ L ∧ L ≤ 4 ∧ 2 ≤ k ∧ k ≤ 16 := by
  simp only [endsOk, Bool.and_eq_true, decide_eq_true_eq, baseB_iff] at h
  exact ⟨l.toNat, b.toNat, by omega, by omega, by omega, by omega, by omega, by omega⟩
theorem endsOk_of {L k : Nat} (h1 : 1 ≤ L) (h2 : L ≤ 4) (h3 : 2 ≤ k) (h4 : k ≤ 16) : endsOk L k = true := by
  simp only [endsOk, Bool.and_eq_true, decide_eq_true_eq, baseB_iff]; omega
theorem endB_no {n l b : Int} (h : ¬ endsOk l b = true) : endB n l b = false := by
  unfold endB; unfold endsOk at h; simp [Bool.eq_false_iff.2 h]
theorem endB_yes {n L k : Nat} (h : endsOk L k = true) : endB n L k = decide (Idem (k ^ L) n) := by
  unfold endB; unfold endsOk at h; rw [h]; simp

theorem pow_le16 {b L : Nat} (hb : b ≤ 16) (hL : L ≤ 4) : b ^ L ≤ 65536 := by
  have g1 : b ^ L ≤ 16 ^ L := Nat.pow_le_pow_left hb _
  have g2 : (16 : Nat) ^ L ≤ 16 ^ 4 := Nat.pow_le_pow_right (by omega) hL
  omega

/-- All ends, as the functions answer. -/
def endsA (l b : Int) : List Int := if endsOk l b = true then (endsF (b.toNat ^ l.toNat)).map fun n : Nat => (n : Int) else []
theorem endsA_yes {L k : Nat} (h : endsOk L k = true) : endsA L k = (endsF (k ^ L)).map fun n : Nat => (n : Int) := by rw [endsA, if_pos h]; rfl
theorem endsA_no {l b : Int} (h : ¬ endsOk l b = true) : endsA l b = [] := by rw [endsA, if_neg h]

/-- The ends below a number, in ascending order. -/
def endsTo (P m : Nat) : List Nat := (List.range m).filter fun n => n * n % P == n
theorem endsTo_all (P : Nat) : endsTo P P = endsF P := rfl
theorem endsTo_succ (P m : Nat) : endsTo P (m + 1) = endsTo P m ++ (if m * m % P = m then [m] else []) := by
  unfold endsTo
  rw [List.range_succ, List.filter_append]
  congr 1
  by_cases h : m * m % P = m
  · simp [List.filter, h]
  · have hb : (m * m % P == m) = false := by simpa using h
    simp [List.filter, hb, h]
theorem endsTo_len (P m : Nat) : (endsTo P m).length ≤ m := by
  have := List.length_filter_le (fun n => n * n % P == n) (List.range m)
  rw [List.length_range] at this
  exact this

/-- The other end, as the functions answer. -/
def otherI (n l b : Int) : Int := if endB n l b = true then ((otherN (b.toNat ^ l.toNat) n.toNat : Nat) : Int) else -1
theorem otherI_yes {n L k : Nat} (h : endB n L k = true) : otherI n L k = ((otherN (k ^ L) n : Nat) : Int) := by rw [otherI, if_pos h]; rfl
theorem otherI_no {n l b : Int} (h : ¬ endB n l b = true) : otherI n l b = -1 := by rw [otherI, if_neg h]

/-- The digit ahead of a longer end. -/
def aheadD (b L n : Nat) : Nat := ((List.range b).find? fun d => decide (Idem (b ^ (L + 1)) (d * b ^ L + n))).getD 0
/-- The longer end. -/
def longerN (b L n : Nat) : Nat := aheadD b L n * b ^ L + n

theorem ahead_spec {b L n : Nat} (h1 : 2 ≤ b) (h2 : b ≤ 16) (h3 : 1 ≤ L) (h4 : L ≤ 3) (h : Idem (b ^ L) n) : aheadD b L n < b ∧ Idem (b ^ (L + 1)) (longerN b L n) ∧ ∀ d, d < b → Idem (b ^ (L + 1)) (d * b ^ L + n) → d = aheadD b L n := by
  obtain ⟨d, hd, hi, hu⟩ := lift_one h1 h2 h3 h4 h
  have e : aheadD b L n = d := by
    unfold aheadD
    cases hf : (List.range b).find? fun d => decide (Idem (b ^ (L + 1)) (d * b ^ L + n)) with
    | none =>
      rw [List.find?_eq_none] at hf
      exact absurd (decide_eq_true hi) (hf d (List.mem_range.2 hd))
    | some d' =>
      have g1 := List.find?_some hf
      have g2 := List.mem_range.1 (List.mem_of_find?_eq_some hf)
      exact hu d' g2 (of_decide_eq_true g1)
  refine ⟨by rw [e]; exact hd, by unfold longerN; rw [e]; exact hi, fun d' hd' hi' => by rw [e]; exact hu d' hd' hi'⟩

theorem longer_mod {b L n : Nat} (h : Idem (b ^ L) n) : longerN b L n % b ^ L = n := by
  unfold longerN
  rw [Nat.mul_comm, Nat.mul_add_mod, Nat.mod_eq_of_lt h.1]

/-- The only one of a digit more that ends so. -/
theorem longer_only {b L n m : Nat} (h1 : 2 ≤ b) (h2 : b ≤ 16) (h3 : 1 ≤ L) (h4 : L ≤ 3) (h : Idem (b ^ L) n) (hm : Idem (b ^ (L + 1)) m) (he : m % b ^ L = n) : m = longerN b L n := by
  obtain ⟨_, _, hu⟩ := ahead_spec h1 h2 h3 h4 h
  have hp : 1 ≤ b ^ L := Nat.pow_pos (by omega)
  have e : m / b ^ L * b ^ L + n = m := by
    have := Nat.div_add_mod m (b ^ L)
    rw [he, Nat.mul_comm] at this; exact this
  have hd : m / b ^ L < b := by
    rw [Nat.div_lt_iff_lt_mul (by omega), Nat.mul_comm, ← Nat.pow_succ]; exact hm.1
  have := hu (m / b ^ L) hd (by rw [e]; exact hm)
  unfold longerN
  rw [← this, e]

/-- The longer end, as the functions answer. -/
def longerO (n l b : Int) : Option Nat := if endB n l b = true ∧ l ≤ 3 then some (longerN b.toNat l.toNat n.toNat) else none
theorem longerO_yes {n L k : Nat} (h : endB n L k = true) (h3 : L ≤ 3) : longerO n L k = some (longerN k L n) := by rw [longerO, if_pos ⟨h, by omega⟩]; rfl
theorem longerO_no {n l b : Int} (h : ¬ (endB n l b = true ∧ l ≤ 3)) : longerO n l b = none := by rw [longerO, if_neg h]

/-! ### How many primes a base has -/

/-- Divided by a number as often as it may be. -/
def stripN (p : Nat) : Nat → Nat → Nat
  | 0, left => left
  | f + 1, left => if left % p = 0 then stripN p f (left / p) else left
/-- How many from a number on divide what is left. -/
def cntP : Nat → Nat → Nat → Nat
  | 0, _, _ => 0
  | f + 1, p, left => if p ≤ left then (if left % p = 0 then 1 else 0) + cntP f (p + 1) (stripN p 5 left) else 0

theorem cntP_check : ((List.range 15).all fun i => cntP 20 2 (i + 2) == primesT (i + 2)) = true := by decide +kernel
theorem cntP_all {b : Nat} (h1 : 2 ≤ b) (h2 : b ≤ 16) : cntP 20 2 b = primesT b := by
  have c1 := List.all_eq_true.1 cntP_check (b - 2) (List.mem_range.2 (by omega))
  rw [show b - 2 + 2 = b by omega, beq_iff_eq] at c1
  exact c1

theorem strip_le (p : Nat) : ∀ f left, stripN p f left ≤ left := by
  intro f
  induction f with
  | zero => intro left; exact Nat.le_refl _
  | succ f ih =>
    intro left
    rw [stripN]
    split
    · exact Nat.le_trans (ih _) (Nat.div_le_self _ _)
    · exact Nat.le_refl _
theorem strip_pos {p : Nat} : ∀ f left, 1 ≤ left → 1 ≤ stripN p f left := by
  intro f
  induction f with
  | zero => intro left h; exact h
  | succ f ih =>
    intro left h
    rw [stripN]
    by_cases h0 : left % p = 0
    · rw [if_pos h0]
      refine ih _ ?_
      have := Nat.div_add_mod left p
      refine Classical.byContradiction fun hno => ?_
      rw [Nat.eq_zero_of_not_pos hno, h0] at this; omega
    · rw [if_neg h0]; exact h
/-- Enough times. -/
theorem strip_more {p : Nat} (hp : 2 ≤ p) : ∀ f left, 1 ≤ left → left < 2 ^ f → stripN p (f + 1) left = stripN p f left := by
  intro f
  induction f with
  | zero => intro left h1 h2; omega
  | succ f ih =>
    intro left h1 h2
    show (if left % p = 0 then stripN p (f + 1) (left / p) else left) = (if left % p = 0 then stripN p f (left / p) else left)
    by_cases h0 : left % p = 0
    · rw [if_pos h0, if_pos h0]
      have hq : 1 ≤ left / p := by
        have := Nat.div_add_mod left p
        refine Classical.byContradiction fun hno => ?_
        rw [Nat.eq_zero_of_not_pos hno, h0] at this; omega
      have hq2 : left / p < 2 ^ f := by
        have g1 : left / p ≤ left / 2 := Nat.div_le_div_left hp (by omega)
        rw [Nat.pow_succ] at h2; omega
      exact ih _ hq hq2
    · rw [if_neg h0, if_neg h0]

/-- How many primes, as the functions answer. -/
def primesI (b : Int) : Int := if baseB b = true then ((primesT b.toNat : Nat) : Int) else -1
theorem primesI_yes {k : Nat} (h1 : 2 ≤ k) (h2 : k ≤ 16) : primesI k = ((primesT k : Nat) : Int) := by rw [primesI, if_pos (by rw [baseB_iff]; omega)]; rfl
theorem primesI_no {b : Int} (h : ¬ baseB b = true) : primesI b = -1 := by rw [primesI, if_neg h]

end Pl
end Go.Proofs.Ytcepbhmnbfaoeaa
