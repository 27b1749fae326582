/-
  Plain facts: when two numbers of a way are the same; where a slow walker and a fast one meet.
-/
import Derived.Test.YtepkneeedkmaoaaMathRho
namespace Go.Proofs.Ytepkneeedkmaoaa
namespace Pl

theorem Rho.on {f : Nat → Nat} {n mu p : Nat} (h : Rho f n mu p) (i : Nat) : iter f (mu + i + p) n = iter f (mu + i) n := by
  rw [show mu + i + p = i + (mu + p) by omega, iter_add, h.back, ← iter_add, Nat.add_comm i mu]

theorem Rho.times {f : Nat → Nat} {n mu p : Nat} (h : Rho f n mu p) (i : Nat) : ∀ k, iter f (mu + i + k * p) n = iter f (mu + i) n := by
  intro k
  induction k with
  | zero => rw [Nat.zero_mul]; rfl
  | succ k ih =>
    have := h.on (i + k * p)
    rw [show mu + i + (k + 1) * p = mu + (i + k * p) + p by rw [Nat.add_mul]; omega, this, show mu + (i + k * p) = mu + i + k * p by omega, ih]

theorem Rho.mod {f : Nat → Nat} {n mu p : Nat} (h : Rho f n mu p) (i : Nat) : iter f (mu + i) n = iter f (mu + i % p) n := by
  have h1 := h.times (i % p) (i / p)
  have h2 := Nat.mod_add_div i p
  rw [← h1, Nat.add_assoc, Nat.mul_comm (i / p) p, h2]

/-- Two numbers of a way are the same: both are in the round, and whole rounds lie between. -/
theorem Rho.same {f : Nat → Nat} {n mu p a d : Nat} (h : Rho f n mu p) (hd : 1 ≤ d) (he : iter f a n = iter f (a + d) n) : mu ≤ a ∧ p ∣ d := by
  have hp := h.pos
  by_cases ha : mu ≤ a
  · refine ⟨ha, ?_⟩
    have e1 := h.mod (a - mu)
    have e2 := h.mod (a + d - mu)
    rw [show mu + (a - mu) = a by omega] at e1
    rw [show mu + (a + d - mu) = a + d by omega] at e2
    have e3 : iter f (mu + (a - mu) % p) n = iter f (mu + (a + d - mu) % p) n := by rw [← e1, ← e2, he]
    have m1 := Nat.mod_lt (a - mu) hp
    have m2 := Nat.mod_lt (a + d - mu) hp
    have e4 : (a - mu) % p = (a + d - mu) % p := by
      rcases Nat.lt_trichotomy ((a - mu) % p) ((a + d - mu) % p) with hl | he' | hl
      · exact absurd e3 (h.inj _ _ (by omega) (by omega))
      · exact he'
      · exact absurd e3.symm (h.inj _ _ (by omega) (by omega))
    have e5 : (a + d - mu) = (a - mu) + d := by omega
    have := Nat.sub_mod_eq_zero_of_mod_eq e4.symm
    rw [e5, Nat.add_sub_cancel_left] at this
    exact Nat.dvd_of_mod_eq_zero this
  · exfalso
    by_cases hb : a + d < mu
    · exact h.inj a (a + d) (by omega) (by omega) he
    · have e2 := h.mod (a + d - mu)
      rw [show mu + (a + d - mu) = a + d by omega] at e2
      have m2 := Nat.mod_lt (a + d - mu) hp
      exact h.inj a (mu + (a + d - mu) % p) (by omega) (by omega) (by rw [← e2, he])

theorem Rho.same_of {f : Nat → Nat} {n mu p a d : Nat} (h : Rho f n mu p) (ha : mu ≤ a) (hd : p ∣ d) : iter f a n = iter f (a + d) n := by
  obtain ⟨k, rfl⟩ := hd
  have := h.times (a - mu) k
  rw [show mu + (a - mu) = a by omega, Nat.mul_comm k p] at this
  exact this.symm

/-- The place at which the slow walker and the fast one meet, at the latest. -/
def meetAt (mu p : Nat) : Nat := p * (mu + 1)
theorem meetAt_ok {f : Nat → Nat} {n mu p : Nat} (h : Rho f n mu p) : 1 ≤ meetAt mu p ∧ iter f (meetAt mu p) n = iter f (meetAt mu p + meetAt mu p) n := by
  have hp := h.pos
  have h1 : mu + 1 ≤ p * (mu + 1) := Nat.le_mul_of_pos_left _ hp
  exact ⟨by unfold meetAt; omega, h.same_of (by unfold meetAt; omega) ⟨mu + 1, rfl⟩⟩

end Pl
end Go.Proofs.Ytepkneeedkmaoaa
