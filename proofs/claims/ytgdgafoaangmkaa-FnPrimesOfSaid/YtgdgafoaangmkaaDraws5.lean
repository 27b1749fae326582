/-
  The drawing functions of chapter 4.
-/
import Derived.Test.YtgdgafoaangmkaaDraws
import Derived.Test.YtgdgafoaangmkaaDraw
namespace Go.Proofs.Ytgdgafoaangmkaa
open Go.RowKit Go.Shelf

theorem look_two {d e t : Nat} {s s' u : Sp} (h : List.lookup t [(d, s), (e, u)] = some s') : (t = d ∧ s' = s) ∨ (t = e ∧ s' = u) := by
  simp only [List.lookup] at h
  by_cases h1 : t = d
  · subst h1; simp at h; exact .inl ⟨rfl, h.symm⟩
  · rw [beq_eq_false_iff_ne.2 h1] at h
    by_cases h2 : t = e
    · subst h2; simp at h; exact .inr ⟨rfl, h.symm⟩
    · rw [beq_eq_false_iff_ne.2 h2] at h; simp at h

/-- A number, a rule and a base, out of the reader. -/
def OwnPost (w0 : World) (r q : Nat) (w : World) (e : Ending) (w' : World) : Prop :=
  ∃ n t y : Int, e = .returned (.tuple #[.int .i64 n, .int .i64 t, .int .i64 y]) ∧ (0 ≤ n ∧ n ≤ 4000) ∧ (0 ≤ t ∧ t ≤ 10) ∧ (0 ≤ y ∧ y ≤ 20) ∧ Rd w0 r q w' ∧ Only r w w'

/-- A number, a rule and a base. -/
def OwnDraw (w : World) (e : Ending) (w' : World) : Prop :=
  ∃ n t y : Int, e = .returned (.tuple #[.int .i64 n, .int .i64 t, .int .i64 y]) ∧ (-10 ≤ n ∧ n ≤ 4000) ∧ (0 ≤ t ∧ t ≤ 10) ∧ (0 ≤ y ∧ y ≤ 20) ∧ Below w.heap.size w w'

end Go.Proofs.Ytgdgafoaangmkaa
