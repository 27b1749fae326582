/-
  impl.RoundFrom and spec.RoundFrom: the round into which a number leads, in new memory; the exact law.
-/
import Derived.Test.YtepkneeedkmaoaaFirstAgain
import Derived.Test.YtepkneeedkmaoaaDigits
namespace Go.Proofs.Ytepkneeedkmaoaa
open Go.RowKit Go.Shelf

namespace Pl
/-- Natural numbers as integers. -/
def ints (l : List Nat) : List Int := l.map fun d : Nat => (d : Int)
theorem ints_len (l : List Nat) : (ints l).length = l.length := by simp [ints]
theorem ints_snoc (l : List Nat) (d : Nat) : ints (l ++ [d]) = ints l ++ [(d : Int)] := by simp [ints]
theorem ints_get (l : List Nat) (i : Nat) : (ints l)[i]?.getD 0 = ((l[i]?.getD 0 : Nat) : Int) := by
  rw [ints, List.getElem?_map]; cases l[i]? <;> rfl
/-- The round as the functions answer: none for others. -/
def roundA (n t b : Int) : List Int := if okT n t b = true then ints (roundL (nextN t.toNat b.toNat) n.toNat) else []
theorem roundA_yes (n t b : Nat) (h : okT n t b = true) : roundA n t b = ints (roundL (nextN t b) n) := by rw [roundA, if_pos h]; rfl
theorem roundA_no {n t b : Int} (h : ¬ okT n t b = true) : roundA n t b = [] := by rw [roundA, if_neg h]
theorem roundA_len (n t b : Int) : (roundA n t b).length ≤ 22781252 := by
  by_cases h : okT n t b = true
  · obtain ⟨x, s, k, rfl, rfl, rfl, hR, hx⟩ := okT_nat h
    rw [roundA_yes x s k h, ints_len]; exact (next_round hR hx).2.1
  · rw [roundA_no h]; simp
end Pl

theorem row_one' (base : Nat) (w : World) (q : Int) (h : base ≤ w.heap.size) : Row base (w.alloc (.cells #[.int .i64 q] 3)) (.slice (some ⟨w.heap.size, 0, none⟩) 1 1) [q] := (row_one w q).mono h

end Go.Proofs.Ytepkneeedkmaoaa
