/-
  spec.EndOk, spec.EndsOf, spec.OtherEnd, spec.LongerEnd, spec.PrimesOf: what they answer.
-/
import Derived.Test.YtcepbhmnbfaoeaaWide
import Derived.Test.YtcepbhmnbfaoeaaMathEnds2
import Derived.Test.YtcepbhmnbfaoeaaWhole
namespace Go.Proofs.Ytcepbhmnbfaoeaa
open Go.RowKit Go.Shelf

theorem endsOk_halves {l b : Int} (h : Pl.endsOk l b = true) : (decide (1 ≤ l) && decide (l ≤ 4)) = true ∧ Pl.baseB b = true := by
  simpa only [Pl.endsOk, Bool.and_eq_true] using h

/-- The first digit, from 0 on, ahead of which there is a longer end. -/
theorem Pl.ahead_first {b L n : Nat} (h1 : 2 ≤ b) (h2 : b ≤ 16) (h3 : 1 ≤ L) (h4 : L ≤ 3) (h : Pl.Idem (b ^ L) n) {d : Nat} (hd : d < b) : Pl.endB ((d * b ^ L + n : Nat) : Int) ((L + 1 : Nat) : Int) b = decide (d = Pl.aheadD b L n) := by
  obtain ⟨_, g2, g3⟩ := Pl.ahead_spec h1 h2 h3 h4 h
  rw [Pl.endB_yes (Pl.endsOk_of (by omega) (by omega) h1 h2), decide_eq_decide]
  exact ⟨fun hi => g3 d hd hi, fun e => by rw [e]; exact g2⟩

/-- What is counted and what is left: from here on so many primes are to come. -/
def PrimesAt (k C p left : Nat) : Prop := ∃ f, f + p = 22 ∧ C + Pl.cntP f p left = Pl.primesT k

end Go.Proofs.Ytcepbhmnbfaoeaa
