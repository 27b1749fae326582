/-
  WholeOf, of the program and of the model: the number of a row of digits.
-/
import Derived.Test.YthohahnfkncecaaList
namespace Go.Proofs.Ythohahnfkncecaa
open Go.RowKit

theorem ret_whole {a b : Int} {c d : Bool} (h1 : a = b) (h2 : c = d) : Ending.returned (.tuple #[.int .i64 a, .bool c]) = .returned (.tuple #[.int .i64 b, .bool d]) := by rw [h1, h2]

theorem whole_yes {xs : List Int} {b : Nat} (h0 : xs ≠ []) (hb : 2 ≤ b) (hb' : b ≤ 16) : Pl.whole xs b = Pl.wholeO b xs 0 := by
  rw [Pl.whole, if_pos ⟨by rw [Pl.baseB_iff]; omega, h0⟩]; rfl

theorem baseB_nat {b : Int} (h : Pl.baseB b = true) : ∃ k : Nat, b = (k : Int) ∧ 2 ≤ k ∧ k ≤ 16 := by
  rw [Pl.baseB_iff] at h; exact ⟨b.toNat, by omega, by omega, by omega⟩

end Go.Proofs.Ythohahnfkncecaa
