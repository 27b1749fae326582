/-
  Sums of powers of digits: impl.powersRule's methods ok and next, impl.NextOf; spec.l3Next, spec.NextOf: what they answer; the exact law.
-/
import Derived.Test.YtepkneeedkmaoaaSumOf
import Derived.Test.YtepkneeedkmaoaaMathRho
namespace Go.Proofs.Ytepkneeedkmaoaa
open Go.RowKit Go.Shelf

attribute [local go_sem] Oper.semAt_some

namespace Pl
/-- A rule is told: 1..5 times, a base. -/
def ruleB (t b : Int) : Bool := baseB b && (decide (1 ≤ t) && decide (t ≤ 5))
theorem ruleB_iff (t b : Int) : ruleB t b = true ↔ (2 ≤ b ∧ b ≤ 16) ∧ 1 ≤ t ∧ t ≤ 5 := by simp [ruleB, baseB]
/-- A number, a number of times and a base that are told. -/
def okT (n t b : Int) : Bool := ruleB t b && okB n b
theorem okT_nat {n t b : Int} (h : okT n t b = true) : ∃ x s k : Nat, n = (x : Int) ∧ t = (s : Int) ∧ b = (k : Int) ∧ RuleOk s k ∧ x ≤ 1000000000 := by
  rw [okT, Bool.and_eq_true, ruleB_iff, okB_iff] at h
  exact ⟨n.toNat, t.toNat, b.toNat, by omega, by omega, by omega, ⟨by omega, by omega, by omega, by omega⟩, by omega⟩
theorem okT_of {x s k : Nat} (h : RuleOk s k) (hx : x ≤ 1000000000) : okT x s k = true := by
  have := h.t1; have := h.t2; have := h.b1; have := h.b2
  rw [okT, Bool.and_eq_true, ruleB_iff, okB_iff]; omega
/-- What comes next as the functions answer: -1 for others. -/
def nextI (n t b : Int) : Int := if okT n t b = true then (nextN t.toNat b.toNat n.toNat : Int) else -1
theorem nextI_yes (n t b : Nat) (h : okT n t b = true) : nextI n t b = (nextN t b n : Int) := by rw [nextI, if_pos h]; rfl
theorem nextI_no {n t b : Int} (h : ¬ okT n t b = true) : nextI n t b = -1 := by rw [nextI, if_neg h]

theorem nextN_sum {t b : Nat} (hb : 2 ≤ b) (n : Nat) : ((digsR b n).map (· ^ t)).sum = nextN t b n := by
  refine digInd hb (P := fun n => ((digsR b n).map (· ^ t)).sum = nextN t b n) ?_ ?_ n
  · intro n h; rw [digsR_lt h, nextN_lt h]; simp
  · intro n h ih; rw [digsR_ge hb h, nextN_ge hb h, List.map_cons, List.sum_cons, ih]

theorem pow_dg {d t : Nat} (hd : d < 16) (ht : t ≤ 5) : d ^ t ≤ 759375 := by
  have h1 : d ^ t ≤ 15 ^ t := Nat.pow_le_pow_left (by omega) t
  have h2 : (15 : Nat) ^ t ≤ 15 ^ 5 := Nat.pow_le_pow_right (by omega) ht
  omega
end Pl

/-- The sum of powers of what has come. -/
def powDg (t : Nat) (l : List Pl.Dg) : Nat := (l.map (·.1 ^ t)).sum
theorem powDg_snoc (t : Nat) (l : List Pl.Dg) (d : Pl.Dg) : powDg t (l ++ [d]) = powDg t l + d.1 ^ t := by simp [powDg]
theorem powDg_le {t : Nat} (ht : t ≤ 5) (l : List Pl.Dg) : powDg t l ≤ 759375 * l.length := by
  induction l with
  | nil => simp [powDg]
  | cons a l ih => simp only [powDg, List.map_cons, List.sum_cons, List.length_cons] at *; have := Pl.pow_dg a.2 ht; omega
theorem powDg_all {t b x : Nat} (hb : 2 ≤ b) (hb' : b ≤ 16) : powDg t (Pl.digsF b x) = Pl.nextN t b x := by
  rw [← Pl.nextN_sum hb, ← Pl.digsF_val (n := x) hb hb', List.map_map]; rfl

end Go.Proofs.Ytepkneeedkmaoaa
