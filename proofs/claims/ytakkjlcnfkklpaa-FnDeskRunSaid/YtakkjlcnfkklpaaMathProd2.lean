/-
  Plain facts: products of digits, as the functions answer; the least number that takes so many steps.
-/
import Derived.Test.YtakkjlcnfkklpaaMathProd
namespace Go.Proofs.Ytakkjlcnfkklpaa
namespace Pl

/-- The product of all digits, as the functions answer. -/
def prodI (n b : Int) : Int := if okB n b = true then ((prodD b.toNat n.toNat : Nat) : Int) else -1
theorem prodI_yes (n b : Nat) (h : okB n b = true) : prodI n b = ((prodD b n : Nat) : Int) := by rw [prodI, if_pos h]; rfl
theorem prodI_no {n b : Int} (h : ¬ okB n b = true) : prodI n b = -1 := by rw [prodI, if_neg h]

/-- Steps and digit, as the functions answer. -/
def persA (n b : Int) : Option (Nat × Nat) := if okB n b = true then some (persN b.toNat n.toNat) else none
def peK : Option (Nat × Nat) → Int | some q => (q.1 : Int) | none => -1
def peL : Option (Nat × Nat) → Int | some q => (q.2 : Int) | none => -1
def peB : Option (Nat × Nat) → Bool | some _ => true | none => false
theorem persA_yes (n b : Nat) (h : okB n b = true) : persA n b = some (persN b n) := by rw [persA, if_pos h]; rfl
theorem persA_no {n b : Int} (h : ¬ okB n b = true) : persA n b = none := by rw [persA, if_neg h]

/-- The least number that takes so many steps, if there is one of at most 3000. -/
def leastO (b s : Nat) : Option Nat := (List.range 3001).find? fun n => (persN b n).1 == s
theorem leastO_some {b s n : Nat} (h : leastO b s = some n) : n ≤ 3000 ∧ (persN b n).1 = s ∧ ∀ m, m < n → (persN b m).1 ≠ s := by
  unfold leastO at h
  rw [List.find?_range_eq_some] at h
  obtain ⟨h1, h2, h3⟩ := h
  exact ⟨by have := List.mem_range.1 h2; omega, by simpa using h1, fun m hm => by simpa using h3 m hm⟩
theorem leastO_none {b s : Nat} (h : leastO b s = none) : ∀ n, n ≤ 3000 → (persN b n).1 ≠ s := by
  unfold leastO at h
  rw [List.find?_eq_none] at h
  intro n hn
  simpa using h n (List.mem_range.2 (by omega))
theorem leastO_of {b s n : Nat} (h1 : n ≤ 3000) (h2 : (persN b n).1 = s) (h3 : ∀ m, m < n → (persN b m).1 ≠ s) : leastO b s = some n := by
  unfold leastO
  rw [List.find?_range_eq_some]
  exact ⟨by simpa using h2, List.mem_range.2 (by omega), fun m hm => by simpa using h3 m hm⟩
theorem leastO_no {b s : Nat} (h : ∀ n, n ≤ 3000 → (persN b n).1 ≠ s) : leastO b s = none := by
  unfold leastO
  rw [List.find?_eq_none]
  intro n hn
  simpa using h n (by have := List.mem_range.1 hn; omega)

/-- The same, as the functions answer. -/
def leastI (s b : Int) : Int := if 0 ≤ s ∧ baseB b = true then (match leastO b.toNat s.toNat with | some n => (n : Int) | none => -1) else -1
theorem leastI_some {s b n : Nat} (hb : baseB b = true) (h : leastO b s = some n) : leastI s b = (n : Int) := by
  rw [leastI, if_pos ⟨by omega, hb⟩, Int.toNat_natCast, Int.toNat_natCast, h]
theorem leastI_none {s b : Nat} (h : leastO b s = none) : leastI s b = -1 := by
  unfold leastI
  split
  · rw [Int.toNat_natCast, Int.toNat_natCast, h]
  · rfl
theorem leastI_no {s b : Int} (h : ¬ (0 ≤ s ∧ baseB b = true)) : leastI s b = -1 := by rw [leastI, if_neg h]

/-- Who takes one step more is greater. -/
theorem least_more {b s n m : Nat} (hb : 2 ≤ b) (h : leastO b s = some n) (h' : leastO b (s + 1) = some m) : n < m := by
  obtain ⟨_, _, h3⟩ := leastO_some h
  obtain ⟨_, g2, _⟩ := leastO_some h'
  have hm : b ≤ m := by
    refine Classical.byContradiction fun hno => ?_
    rw [persN_lt (by omega)] at g2
    simp at g2
  have hl := prodD_less hb hm
  rw [persN_ge hb hm] at g2
  have e : (persN b (prodD b m)).1 = s := by
    have : (persN b (prodD b m)).1 + 1 = s + 1 := g2
    omega
  have : ¬ prodD b m < n := fun hlt => h3 _ hlt e
  omega

/-- Whether no digit is 0, as the functions answer. -/
def noB (n b : Int) : Bool := decide (0 < prodI n b)

end Pl
end Go.Proofs.Ytakkjlcnfkklpaa
