/-
  Plain facts: how many noughts the product of all numbers up to one has at its end.
-/
import Derived.Test.YtcepbhmnbfaoeaaMathCarry2
import Derived.Test.YtcepbhmnbfaoeaaMathEnds2
import Derived.KernelRfl
namespace Go.Proofs.Ytcepbhmnbfaoeaa
namespace Pl

/-- How often a number divides another, of so many times at most. -/
def tmsN (p : Nat) : Nat → Nat → Nat
  | 0, _ => 0
  | f + 1, left => if left % p = 0 then 1 + tmsN p f (left / p) else 0
/-- The least so far. -/
def nouC (D : Nat) (best : Option Nat) (t : Nat) : Option Nat :=
  if 0 < t then (match best with | none => some D | some x => some (if D < x then D else x)) else best
theorem nouC_none (D : Nat) (best : Option Nat) : nouC D best 0 = best := by unfold nouC; rw [if_neg (by omega)]
theorem nouC_first (D : Nat) {t : Nat} (h : 0 < t) : nouC D none t = some D := by unfold nouC; rw [if_pos h]
theorem nouC_next (D y : Nat) {t : Nat} (h : 0 < t) : nouC D (some y) t = some (if D < y then D else y) := by unfold nouC; rw [if_pos h]
def nouPick (O : Nat → Nat) (best : Option Nat) (p t : Nat) : Option Nat := nouC (O p / t) best t
/-- The least, over all that divide what is left from a number on. -/
def nouK (O : Nat → Nat) : Nat → Nat → Nat → Option Nat → Option Nat
  | 0, _, _, best => best
  | f + 1, p, left, best => if p ≤ left then nouK O f (p + 1) (stripN p 5 left) (nouPick O best p (tmsN p 5 left)) else best
/-- The lesser one of two. -/
def less2 (x y : Nat) : Nat := if y < x then y else x
/-- The noughts, base by base. -/
def nouT (O : Nat → Nat) (b : Nat) : Nat :=
  if b = 2 then O 2 / 1 else if b = 3 then O 3 / 1 else if b = 4 then O 2 / 2 else if b = 5 then O 5 / 1
  else if b = 6 then less2 (O 2 / 1) (O 3 / 1) else if b = 7 then O 7 / 1 else if b = 8 then O 2 / 3 else if b = 9 then O 3 / 2
  else if b = 10 then less2 (O 2 / 1) (O 5 / 1) else if b = 11 then O 11 / 1 else if b = 12 then less2 (O 2 / 2) (O 3 / 1)
  else if b = 13 then O 13 / 1 else if b = 14 then less2 (O 2 / 1) (O 7 / 1) else if b = 15 then less2 (O 3 / 1) (O 5 / 1) else O 2 / 4

theorem nou_all (O : Nat → Nat) {b : Nat} (h1 : 2 ≤ b) (h2 : b ≤ 16) : nouK O 20 2 b none = some (nouT O b) := by
  have h : b = 2 ∨ b = 3 ∨ b = 4 ∨ b = 5 ∨ b = 6 ∨ b = 7 ∨ b = 8 ∨ b = 9 ∨ b = 10 ∨ b = 11 ∨ b = 12 ∨ b = 13 ∨ b = 14 ∨ b = 15 ∨ b = 16 := by omega
  rcases h with rfl | rfl | rfl | rfl | rfl | rfl | rfl | rfl | rfl | rfl | rfl | rfl | rfl | rfl | rfl
  all_goals rfl

theorem less2_mono {a b c d : Nat} (h1 : a ≤ c) (h2 : b ≤ d) : less2 a b ≤ less2 c d := by
  unfold less2; split <;> split <;> omega
theorem ite_mono (c : Prop) [Decidable c] {a b a' b' : Nat} (h1 : a ≤ a') (h2 : b ≤ b') : (if c then a else b) ≤ (if c then a' else b') := by
  split
  · exact h1
  · exact h2
theorem nou_mono {O P : Nat → Nat} (h : ∀ p, O p ≤ P p) (b : Nat) : nouT O b ≤ nouT P b := by
  have hd : ∀ p t, O p / t ≤ P p / t := fun p t => Nat.div_le_div_right (h p)
  unfold nouT
  repeat' first | exact hd _ _ | exact less2_mono (hd _ _) (hd _ _) | refine ite_mono _ ?_ ?_

/-- Noughts, as the functions answer. -/
def nouI (n b : Int) : Int := if okB n b = true then ((nouT (fun p => oftN p n.toNat) b.toNat : Nat) : Int) else -1
theorem nouI_yes {n b : Nat} (h : okB n b = true) : nouI n b = ((nouT (fun p => oftN p n) b : Nat) : Int) := by rw [nouI, if_pos h]; rfl
theorem nouI_no {n b : Int} (h : ¬ okB n b = true) : nouI n b = -1 := by rw [nouI, if_neg h]

/-- Of one number more there are no fewer. -/
theorem nou_next (n b : Nat) : nouT (fun p => oftN p n) b ≤ nouT (fun p => oftN p (n + 1)) b :=
  nou_mono (fun p => oftK_mono (p := p) 30 n (n + 1) (by omega)) b
/-- In a prime base. -/
theorem nou_prime (O : Nat → Nat) {b : Nat} (h : b ∈ primes6) : nouT O b = O b := by
  simp [primes6] at h
  rcases h with rfl | rfl | rfl | rfl | rfl | rfl <;> simp [nouT]
/-- In the base ten. -/
theorem nou_ten (n : Nat) : nouT (fun p => oftN p n) 10 = oftN 5 n := by
  have h : oftN 5 n ≤ oftN 2 n := oftK_prime (by omega) (by omega) 30 n
  have e : nouT (fun p => oftN p n) 10 = less2 (oftN 2 n / 1) (oftN 5 n / 1) := rfl
  rw [e, Nat.div_one, Nat.div_one, less2]
  split <;> omega

theorem tms_le (p : Nat) : ∀ f left, tmsN p f left ≤ f := by
  intro f
  induction f with
  | zero => intro left; exact Nat.le_refl _
  | succ f ih =>
    intro left
    rw [tmsN]
    have := ih (left / p)
    split <;> omega

end Pl
end Go.Proofs.Ytcepbhmnbfaoeaa
