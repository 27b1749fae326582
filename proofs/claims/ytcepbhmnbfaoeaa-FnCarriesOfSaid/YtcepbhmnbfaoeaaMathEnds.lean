/-
  Plain facts: ends of squares: numbers that leave themselves if their square is divided by a power of the base; all of them, found digit by digit; other ends; longer ends.
-/
import Derived.Test.YtcepbhmnbfaoeaaMath
import Derived.KernelRfl
namespace Go.Proofs.Ytcepbhmnbfaoeaa
namespace Pl

/-- An end of its square by a power. -/
def Idem (P n : Nat) : Prop := n < P ∧ n * n % P = n
instance (P n : Nat) : Decidable (Idem P n) := inferInstanceAs (Decidable (_ ∧ _))

/-- All ends, in ascending order. -/
def endsF (P : Nat) : List Nat := (List.range P).filter fun n => n * n % P == n
theorem mem_endsF {P n : Nat} : n ∈ endsF P ↔ Idem P n := by simp [endsF, Idem]

/-- The ends of so many digits, each found from one of a digit fewer. -/
def endsC (b : Nat) : Nat → List Nat
  | 0 => [0]
  | L + 1 => (endsC b L).flatMap fun n => ((List.range b).filter fun d => (d * b ^ L + n) * (d * b ^ L + n) % b ^ (L + 1) == d * b ^ L + n).map fun d => d * b ^ L + n

theorem idem_rest {b L n : Nat} (hb : 1 ≤ b) (h : Idem (b ^ (L + 1)) n) : Idem (b ^ L) (n % b ^ L) := by
  have hp : 1 ≤ b ^ L := Nat.pow_pos (by omega)
  refine ⟨Nat.mod_lt _ (by omega), ?_⟩
  have h2 : n * n % b ^ (L + 1) % b ^ L = n * n % b ^ L := Nat.mod_mod_of_dvd _ ⟨b, Nat.pow_succ ..⟩
  rw [h.2] at h2
  rw [← Nat.mul_mod]; exact h2.symm

theorem mem_endsC {b : Nat} (hb : 1 ≤ b) : ∀ L n, n ∈ endsC b L ↔ Idem (b ^ L) n := by
  intro L
  induction L with
  | zero => intro n; simp [endsC, Idem]; omega
  | succ L ih =>
    intro n
    have hp : 1 ≤ b ^ L := Nat.pow_pos (by omega)
    simp only [endsC, List.mem_flatMap, List.mem_map, List.mem_filter, List.mem_range, beq_iff_eq]
    constructor
    · rintro ⟨m, hm, d, ⟨hd, hi⟩, rfl⟩
      have hm' := ((ih m).1 hm).1
      refine ⟨?_, hi⟩
      have h1 : (d + 1) * b ^ L ≤ b * b ^ L := Nat.mul_le_mul_right _ hd
      rw [Nat.add_mul, Nat.one_mul] at h1
      rw [Nat.pow_succ, Nat.mul_comm (b ^ L) b]
      omega
    · intro h
      have e : n / b ^ L * b ^ L + n % b ^ L = n := by rw [Nat.mul_comm]; exact Nat.div_add_mod n _
      refine ⟨n % b ^ L, (ih _).2 (idem_rest hb h), n / b ^ L, ⟨?_, by rw [e]; exact h.2⟩, e⟩
      rw [Nat.div_lt_iff_lt_mul (by omega), Nat.mul_comm, ← Nat.pow_succ]; exact h.1

/-- How many primes a base has. -/
def primesT (b : Nat) : Nat := if b = 6 ∨ b = 10 ∨ b = 12 ∨ b = 14 ∨ b = 15 then 2 else 1

theorem ends_check : ((List.range 15).all fun i => (List.range 4).all fun j => (endsC (i + 2) (j + 1)).length == 2 ^ primesT (i + 2) && decide (endsC (i + 2) (j + 1)).Nodup) = true := by decide +kernel
theorem lift_check : ((List.range 15).all fun i => (List.range 3).all fun j => (endsC (i + 2) (j + 1)).all fun n => ((List.range (i + 2)).filter fun d => (d * (i + 2) ^ (j + 1) + n) * (d * (i + 2) ^ (j + 1) + n) % (i + 2) ^ (j + 2) == d * (i + 2) ^ (j + 1) + n).length == 1) = true := by decide +kernel

theorem nodup_sub {α : Type} [DecidableEq α] : ∀ (l m : List α), l.Nodup → (∀ x, x ∈ l → x ∈ m) → l.length ≤ m.length := by
  intro l
  induction l with
  | nil => intro m _ _; simp
  | cons a l ih =>
    intro m hn hs
    rw [List.nodup_cons] at hn
    have ha : a ∈ m := hs a (by simp)
    have h1 := ih (m.erase a) hn.2 fun x hx => (List.mem_erase_of_ne (fun e => hn.1 (by rw [← e]; exact hx))).2 (hs x (by simp [hx]))
    have h2 := List.length_erase_of_mem ha
    have h3 : 0 < m.length := List.length_pos_of_mem ha
    simp only [List.length_cons]; omega

theorem endsF_len {b L : Nat} (h1 : 2 ≤ b) (h2 : b ≤ 16) (h3 : 1 ≤ L) (h4 : L ≤ 4) : (endsF (b ^ L)).length = 2 ^ primesT b := by
  have c1 := List.all_eq_true.1 ends_check (b - 2) (List.mem_range.2 (by omega))
  have c2 := List.all_eq_true.1 c1 (L - 1) (List.mem_range.2 (by omega))
  rw [show b - 2 + 2 = b by omega, show L - 1 + 1 = L by omega, Bool.and_eq_true, beq_iff_eq, decide_eq_true_eq] at c2
  have hn : (endsF (b ^ L)).Nodup := List.Nodup.sublist List.filter_sublist List.nodup_range
  have g1 := nodup_sub _ (endsC b L) hn fun x hx => (mem_endsC (by omega) L x).2 (mem_endsF.1 hx)
  have g2 := nodup_sub _ (endsF (b ^ L)) c2.2 fun x hx => mem_endsF.2 ((mem_endsC (by omega) L x).1 hx)
  omega

/-- Each end is the end of just one that is a digit longer. -/
theorem lift_one {b L n : Nat} (h1 : 2 ≤ b) (h2 : b ≤ 16) (h3 : 1 ≤ L) (h4 : L ≤ 3) (h : Idem (b ^ L) n) : ∃ d, d < b ∧ Idem (b ^ (L + 1)) (d * b ^ L + n) ∧ ∀ d', d' < b → Idem (b ^ (L + 1)) (d' * b ^ L + n) → d' = d := by
  have c1 := List.all_eq_true.1 lift_check (b - 2) (List.mem_range.2 (by omega))
  have c2 := List.all_eq_true.1 c1 (L - 1) (List.mem_range.2 (by omega))
  rw [show b - 2 + 2 = b by omega, show L - 1 + 1 = L by omega, show L - 1 + 2 = L + 1 by omega] at c2
  have c3 := List.all_eq_true.1 c2 n ((mem_endsC (by omega) L n).2 h)
  rw [beq_iff_eq] at c3
  have hlt : ∀ d, d < b → d * b ^ L + n < b ^ (L + 1) := fun d hd => by
    have g1 : (d + 1) * b ^ L ≤ b * b ^ L := Nat.mul_le_mul_right _ hd
    rw [Nat.add_mul, Nat.one_mul] at g1
    have := h.1
    rw [Nat.pow_succ, Nat.mul_comm (b ^ L) b]
    omega
  match hl : (List.range b).filter (fun d => (d * b ^ L + n) * (d * b ^ L + n) % b ^ (L + 1) == d * b ^ L + n), c3 with
  | [d], _ =>
    have hd : d ∈ (List.range b).filter (fun d => (d * b ^ L + n) * (d * b ^ L + n) % b ^ (L + 1) == d * b ^ L + n) := by rw [hl]; simp
    rw [List.mem_filter, List.mem_range, beq_iff_eq] at hd
    refine ⟨d, hd.1, ⟨hlt d hd.1, hd.2⟩, fun d' hd' hi => ?_⟩
    have hm : d' ∈ (List.range b).filter (fun d => (d * b ^ L + n) * (d * b ^ L + n) % b ^ (L + 1) == d * b ^ L + n) := by
      rw [List.mem_filter, List.mem_range, beq_iff_eq]; exact ⟨hd', hi.2⟩
    rw [hl] at hm
    simpa using hm

theorem idem_zero {P : Nat} (h : 1 ≤ P) : Idem P 0 := ⟨by omega, by simp⟩
theorem idem_one {P : Nat} (h : 2 ≤ P) : Idem P 1 := ⟨by omega, Nat.mod_eq_of_lt (by omega)⟩
theorem idem_cube {P n : Nat} (h : Idem P n) : n * n % P * n % P = n := by rw [h.2, h.2]
theorem idem_mul {P n m : Nat} (hn : Idem P n) (hm : Idem P m) : Idem P (n * m % P) := by
  refine ⟨Nat.mod_lt _ (by have := hn.1; omega), ?_⟩
  have e : n * m * (n * m) = (n * n) * (m * m) := by rw [Nat.mul_mul_mul_comm]
  rw [← Nat.mul_mod, e, Nat.mul_mod, hn.2, hm.2]

/-- The other end. -/
def otherN (P n : Nat) : Nat := if n ≤ 1 then 1 - n else P + 1 - n
theorem other_facts {P n : Nat} (hP : 2 ≤ P) (h : Idem P n) : Idem P (otherN P n) ∧ otherN P (otherN P n) = n ∧ n * otherN P n % P = 0 := by
  by_cases hn : n ≤ 1
  · have hc : n = 0 ∨ n = 1 := by omega
    rcases hc with rfl | rfl
    · exact ⟨by simpa [otherN] using idem_one hP, by simp [otherN], by simp⟩
    · exact ⟨by simpa [otherN] using idem_zero (by omega), by simp [otherN], by simp [otherN]⟩
  · have hl := h.1
    have e : otherN P n = P + 1 - n := by rw [otherN, if_neg hn]
    obtain ⟨m, hm⟩ : ∃ m, P + 1 - n = m := ⟨_, rfl⟩
    have hnm : n + m = P + 1 := by omega
    rw [e, hm]
    -- n * n = n + P * q
    have hq : n * n = n + P * (n * n / P) := by
      have := Nat.div_add_mod (n * n) P
      rw [h.2] at this; omega
    obtain ⟨q, hqq⟩ : ∃ q, n * n / P = q := ⟨_, rfl⟩
    rw [hqq] at hq
    -- n * m = n * (P + 1) - n * n = P * (n - q)
    have h1 : n * n + n * m = n * P + n := by rw [← Nat.mul_add, hnm, Nat.mul_add, Nat.mul_one]
    have h2 : P * q + n * m = n * P := by omega
    have hql : q ≤ n := by
      refine Classical.byContradiction fun hno => ?_
      have : P * (n + 1) ≤ P * q := Nat.mul_le_mul_left P (by omega)
      rw [Nat.mul_add, Nat.mul_comm P n] at this
      omega
    have h3 : n * m = P * (n - q) := by
      rw [Nat.mul_sub, Nat.mul_comm P n]; omega
    have h0 : n * m % P = 0 := by rw [h3, Nat.mul_mod_right]
    refine ⟨⟨by omega, ?_⟩, ?_, h0⟩
    · -- m * m = (P + 1) * m - n * m
      have g1 : n * m + m * m = P * m + m := by rw [← Nat.add_mul, hnm, Nat.add_mul, Nat.one_mul]
      have g2 : m * m = m + P * (m - (n - q)) := by
        have g3 : n - q ≤ m := by
          refine Classical.byContradiction fun hno => ?_
          have : P * (m + 1) ≤ P * (n - q) := Nat.mul_le_mul_left P (by omega)
          rw [Nat.mul_add] at this
          omega
        have g4 : P * (n - q) ≤ P * m := Nat.mul_le_mul_left P g3
        rw [Nat.mul_sub]; omega
      rw [g2, Nat.add_mul_mod_self_left, Nat.mod_eq_of_lt (by omega)]
    · rw [otherN, if_neg (by omega)]; omega

end Pl
end Go.Proofs.Ytcepbhmnbfaoeaa
