/-
  impl.OwnSum and what it calls: the rules as function values in a table (timesItself, productUpTo, two function literals), sumBy by the range over function, ownTold; impl.OwnOk: what they answer.
-/
import Derived.Test.YtepkneeedkmaoaaDigitsOf
import Derived.Test.YtepkneeedkmaoaaMathOwn
import Derived.Test.YtepkneeedkmaoaaCalm
import Derived.Shelf.AbstractIn
import Derived.Laws.EntriesVeiled
import Derived.Laws.Rows
namespace Go.Proofs.Ytepkneeedkmaoaa
open Go.RowKit Go.Shelf

attribute [local go_sem] Oper.semAt_some

/-- What the function value of a rule answers. -/
def RuleAt (r g : Nat) : Prop := ∀ (d L : Nat) (W : World), d < 16 → L ≤ 15 → Calls Try.prog g #[.int .i64 d, .int .i64 L] W fun e W' => e = .returned (.int .i64 ((Pl.addR r d L : Nat) : Int)) ∧ W = W'

/-- What is left of a walk once it is walked by several ways: proved once. -/
structure Kept1 (p : Prop) : Prop where
  out : p
theorem share {P Q : Prop} (h : Kept1 P → Q) (p : P) : Q := h ⟨p⟩

/-- The sum by a rule of what has come. -/
def ruleDg (r L : Nat) (l : List Pl.Dg) : Nat := (l.map fun d => Pl.addR r d.1 L).sum
theorem ruleDg_snoc (r L : Nat) (l : List Pl.Dg) (d : Pl.Dg) : ruleDg r L (l ++ [d]) = ruleDg r L l + Pl.addR r d.1 L := by simp [ruleDg]
theorem ruleDg_le {r L : Nat} (hL : L ≤ 15) (l : List Pl.Dg) : ruleDg r L l ≤ l.length * 437893890380859375 := by
  have := Pl.sum_le_mul (B := 437893890380859375) (l.map fun d : Pl.Dg => Pl.addR r d.1 L) (fun x hx => by
    obtain ⟨d, _, rfl⟩ := List.mem_map.1 hx
    exact Pl.addR_le d.2 hL)
  rwa [List.length_map] at this
theorem ruleDg_all {r b x : Nat} (hb : 2 ≤ b) (hb' : b ≤ 16) : ruleDg r (Pl.digsR b x).length (Pl.digsF b x) = Pl.ownN r b x := by
  unfold ruleDg Pl.ownN
  conv => rhs; rw [← Pl.digsF_val (n := x) hb hb', List.map_map]
  rw [List.length_map, Pl.digsF_len]; rfl

end Go.Proofs.Ytepkneeedkmaoaa
