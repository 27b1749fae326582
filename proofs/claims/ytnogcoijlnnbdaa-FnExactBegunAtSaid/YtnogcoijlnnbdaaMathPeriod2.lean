/-
  Plain facts: digits that go round, as the functions answer.
-/
import Derived.Test.YtnogcoijlnnbdaaMathPeriod
namespace Go.Proofs.Ytnogcoijlnnbdaa
namespace Pl

/-- Whether a number below the line has no common divisor with a base but 1. -/
def underB (u b : Int) : Bool := ((decide (1 ≤ u) && decide (u ≤ 200)) && baseB b) && decide (Nat.gcd u.toNat b.toNat = 1)
theorem underB_iff (u b : Nat) : underB u b = true ↔ (1 ≤ u ∧ u ≤ 200) ∧ (2 ≤ b ∧ b ≤ 16) ∧ Nat.Coprime u b := by
  simp only [underB, Bool.and_eq_true, decide_eq_true_eq, baseB_iff, Int.toNat_natCast, Nat.Coprime]; omega
theorem underB_nat {u b : Int} (h : underB u b = true) : ∃ v k : Nat, u = (v : Int) ∧ b = (k : Int) ∧ 1 ≤ v ∧ v ≤ 200 ∧ 2 ≤ k ∧ k ≤ 16 ∧ Nat.Coprime v k := by
  have h' := h
  simp only [underB, Bool.and_eq_true, decide_eq_true_eq, baseB_iff] at h'
  exact ⟨u.toNat, b.toNat, by omega, by omega, by omega, by omega, by omega, by omega, h'.2⟩

/-- The period: the least number of times, from 1 on. -/
def periodN (b u : Nat) : Nat := ((List.range (u + 1)).find? fun p => decide (1 ≤ p) && decide (b ^ p % u = 1 % u)).getD 0

theorem periodN_per {b u : Nat} (hu : 1 ≤ u) (h : Nat.Coprime u b) : Per b u (periodN b u) ∧ periodN b u ≤ u ∧ (2 ≤ u → periodN b u ≤ u - 1) := by
  obtain ⟨p, hp, h1, h2⟩ := per_exists hu h
  have e : periodN b u = p := by
    unfold periodN
    cases hf : (List.range (u + 1)).find? fun p => decide (1 ≤ p) && decide (b ^ p % u = 1 % u) with
    | none =>
      rw [List.find?_eq_none] at hf
      have := hf p (List.mem_range.2 (by omega))
      exact absurd (by simp [hp.pos, hp.back]) this
    | some q =>
      have g1 := List.find?_some hf
      simp only [Bool.and_eq_true, decide_eq_true_eq] at g1
      show q = p
      rcases Nat.lt_trichotomy q p with hlt | he | hgt
      · exact absurd g1.2 (hp.least q g1.1 hlt)
      · exact he
      · exfalso
        rw [List.find?_range_eq_some] at hf
        have := hf.2.2 p hgt
        simp [hp.pos, hp.back] at this
  rw [e]; exact ⟨hp, h1, h2⟩

/-- The period, as the functions answer. -/
def periodI (u b : Int) : Int := if underB u b = true then ((periodN b.toNat u.toNat : Nat) : Int) else -1
theorem periodI_yes {u k : Nat} (h : underB u k = true) : periodI u k = ((periodN k u : Nat) : Int) := by rw [periodI, if_pos h]; rfl
theorem periodI_no {u b : Int} (h : ¬ underB u b = true) : periodI u b = -1 := by rw [periodI, if_neg h]

/-- Numbers above and below the line of which a round is told. -/
def overB (x u b : Int) : Bool := underB u b && (decide (0 ≤ x) && decide (x < u))
theorem overB_nat {x u b : Int} (h : overB x u b = true) : ∃ y v k : Nat, x = (y : Int) ∧ u = (v : Int) ∧ b = (k : Int) ∧ y < v ∧ v ≤ 200 ∧ 2 ≤ k ∧ k ≤ 16 ∧ Nat.Coprime v k ∧ underB v k = true := by
  simp only [overB, Bool.and_eq_true, decide_eq_true_eq] at h
  obtain ⟨v, k, rfl, rfl, h1, h2, h3, h4, h5⟩ := underB_nat h.1
  exact ⟨x.toNat, v, k, by omega, rfl, rfl, by omega, h2, h3, h4, h5, h.1⟩

/-- The round, as the functions answer. -/
def roundA (x u b : Int) : List Int := if overB x u b = true then (roundD b.toNat u.toNat x.toNat (periodN b.toNat u.toNat)).map fun d : Nat => (d : Int) else []
theorem roundA_yes {x u k : Nat} (h : overB x u k = true) : roundA x u k = (roundD k u x (periodN k u)).map fun d : Nat => (d : Int) := by rw [roundA, if_pos h]; rfl
theorem roundA_no {x u b : Int} (h : ¬ overB x u b = true) : roundA x u b = [] := by rw [roundA, if_neg h]

/-- Both halves are together one less than the base. -/
def Halves (b u p : Nat) : Prop := ∀ k, k < p / 2 → digitN b u 1 k + digitN b u 1 (k + p / 2) = b - 1
instance (b u p : Nat) : Decidable (Halves b u p) := inferInstanceAs (Decidable (∀ k, k < p / 2 → _))
/-- The test of halves, as the functions answer. -/
def halvesB (u b : Int) : Bool := (underB u b && decide (2 ≤ u)) && (decide (periodN b.toNat u.toNat % 2 = 0) && decide (Halves b.toNat u.toNat (periodN b.toNat u.toNat)))
theorem halvesB_iff {u k : Nat} (h : underB u k = true) (h2 : 2 ≤ u) : halvesB u k = true ↔ periodN k u % 2 = 0 ∧ Halves k u (periodN k u) := by
  simp only [halvesB, h, Bool.and_eq_true, decide_eq_true_eq, Int.toNat_natCast, true_and]
  constructor
  · rintro ⟨_, h3⟩; exact h3
  · intro h3; exact ⟨by omega, h3⟩
theorem halvesB_no {u b : Int} (h : ¬ (underB u b = true ∧ 2 ≤ u)) : halvesB u b = false := by
  rw [← Bool.not_eq_true]
  intro hh
  simp only [halvesB, Bool.and_eq_true, decide_eq_true_eq] at hh
  exact h hh.1
/-- Full rounds, as the functions answer. -/
def fullB (u b : Int) : Bool := decide (3 ≤ u) && decide (periodI u b = u - 1)

/-- Where a round is begun, as the functions answer. -/
def begunO (x u b : Int) : Option Nat := if overB x u b = true ∧ 2 ≤ u then (List.range (periodN b.toNat u.toNat)).find? fun k => decide (b.toNat ^ k % u.toNat = x.toNat) else none
theorem begunO_some {x u b : Nat} {k : Nat} (h : begunO x u b = some k) : (overB x u b = true ∧ 2 ≤ u) ∧ k < periodN b u ∧ b ^ k % u = x ∧ ∀ j, j < k → b ^ j % u ≠ x := by
  unfold begunO at h
  split at h
  · rename_i hc
    simp only [Int.toNat_natCast] at h
    rw [List.find?_range_eq_some] at h
    obtain ⟨h1, h2, h3⟩ := h
    refine ⟨⟨hc.1, by omega⟩, List.mem_range.1 h2, by simpa using h1, fun j hj => by simpa using h3 j hj⟩
  · cases h
theorem begunO_none {x u b : Nat} (h : begunO x u b = none) (hc : overB x u b = true ∧ 2 ≤ u) : ∀ k, k < periodN b u → b ^ k % u ≠ x := by
  unfold begunO at h
  rw [if_pos ⟨hc.1, by omega⟩] at h
  simp only [Int.toNat_natCast] at h
  rw [List.find?_eq_none] at h
  intro k hk
  simpa using h k (List.mem_range.2 hk)
theorem begunO_no {x u b : Int} (h : ¬ (overB x u b = true ∧ 2 ≤ u)) : begunO x u b = none := by rw [begunO, if_neg h]

end Pl
end Go.Proofs.Ytnogcoijlnnbdaa
