/-
  The walk of the law of BehindOf: behind each other digits are multiplied.
-/
import Derived.Test.YthpimanfkbeanaaBehind
import Derived.Test.YthpimanfkbeanaaMathRow
import Derived.Test.YthpimanfkbeanaaDraws2
namespace Go.Proofs.Ythpimanfkbeanaa
open Go.RowKit

theorem behind_some {n m b : Int} {y : Nat} (h : behindO n m b = some y) : ∃ p q k : Nat, n = (p : Int) ∧ m = (q : Int) ∧ b = (k : Int) ∧ 2 ≤ k ∧ k ≤ 16 ∧ p ≤ 1000000000 ∧ q ≤ 1000000000 ∧ y ≤ 1000000000 ∧
    Pl.okB (p : Int) (k : Int) = true ∧ Pl.okB (q : Int) (k : Int) = true ∧ y = p * k ^ (Pl.digsR k q).length + q := by
  unfold behindO at h
  split at h
  · rename_i hc
    obtain ⟨p, k, rfl, rfl, h1, h2, h3⟩ := Pl.okB_nat hc.1
    obtain ⟨q, k', rfl, hk, _, _, h4⟩ := Pl.okB_nat hc.2
    obtain rfl : k = k' := Int.ofNat.inj hk
    rw [Pl.digA_yes p k hc.1, Pl.digA_yes q k hc.2] at h
    obtain ⟨k', hk, _, _, _, h5, h6⟩ := Pl.whole_some h
    obtain rfl : k = k' := Int.ofNat.inj hk
    exact ⟨p, q, k, rfl, rfl, rfl, h1, h2, h3, h4, h6, hc.1, hc.2, Pl.behind_val h1 h3 h4 h5⟩
  · cases h

theorem ok_of_le {y k : Nat} (h1 : 2 ≤ k) (h2 : k ≤ 16) (h : y ≤ 1000000000) : Pl.okB (y : Int) (k : Int) = true := by rw [Pl.okB_iff]; omega

end Go.Proofs.Ythpimanfkbeanaa
