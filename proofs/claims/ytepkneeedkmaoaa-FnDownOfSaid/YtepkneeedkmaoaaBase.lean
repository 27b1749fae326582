/-
  Contracts of the smallest functions: impl.BaseOk, spec.BaseOk, spec.l1In, impl.hasDigits answer as the plain tests do, and leave the world alone.
-/
import Derived.Test.YtepkneeedkmaoaaProg
import Derived.Test.YtepkneeedkmaoaaMath
import Derived.WalkKit
import Derived.Lib.Hide
namespace Go.Proofs.Ytepkneeedkmaoaa
open Go.RowKit

theorem ret_bool {a b : Bool} (h : a = b) : Ending.returned (.bool a) = .returned (.bool b) := by rw [h]
theorem ret_int {k : IntKind} {a b : Int} (h : a = b) : Ending.returned (.int k a) = .returned (.int k b) := by rw [h]

set_option maxHeartbeats 400000 in
theorem implBaseOk (b : Int) (w : World) :
    Calls Try.prog 46 #[.int .i64 b] w fun e w' => e = .returned (.bool (Pl.baseB b)) ∧ w = w' := by
  by_cases h1 : 2 ≤ b
  · by_cases h2 : b ≤ 16
    · go_enter Try.func46, Try.ntmps46
      go_wp2
      go_ret
      exact ⟨ret_bool (by simp [Pl.baseB]; omega), rfl⟩
    · go_enter Try.func46, Try.ntmps46
      go_wp2
      go_ret
      exact ⟨ret_bool (by simp [Pl.baseB]; omega), rfl⟩
  · go_enter Try.func46, Try.ntmps46
    go_wp2
    go_ret
    exact ⟨ret_bool (by simp [Pl.baseB]; omega), rfl⟩

set_option maxHeartbeats 400000 in
theorem specIn (n l h : Int) (w : World) :
    Calls Try.prog 43 #[.int .i64 n, .int .i64 l, .int .i64 h] w fun e w' => e = .returned (.bool (decide (l ≤ n) && decide (n ≤ h))) ∧ w = w' := by
  by_cases h1 : l ≤ n
  · go_enter Try.func43, Try.ntmps43
    go_wp2
    go_ret
    exact ⟨ret_bool (by simp [h1]), rfl⟩
  · go_enter Try.func43, Try.ntmps43
    go_wp2
    go_ret
    exact ⟨ret_bool (by simp; omega), rfl⟩

theorem specIn_yes (n l h : Int) (w : World) (h1 : l ≤ n ∧ n ≤ h) :
    Calls Try.prog 43 #[.int .i64 n, .int .i64 l, .int .i64 h] w fun e w' => e = .returned (.bool true) ∧ w = w' := by
  have := specIn n l h w
  rwa [show (decide (l ≤ n) && decide (n ≤ h)) = true from by simp [h1.1, h1.2]] at this

theorem specIn_no (n l h : Int) (w : World) (h1 : ¬ (l ≤ n ∧ n ≤ h)) :
    Calls Try.prog 43 #[.int .i64 n, .int .i64 l, .int .i64 h] w fun e w' => e = .returned (.bool false) ∧ w = w' := by
  have := specIn n l h w
  rwa [show (decide (l ≤ n) && decide (n ≤ h)) = false from by simp; omega] at this

set_option maxHeartbeats 400000 in
theorem specBaseOk (b : Int) (w : World) :
    Calls Try.prog 44 #[.int .i64 b] w fun e w' => e = .returned (.bool (Pl.baseB b)) ∧ w = w' := by
  go_enter Try.func44, Try.ntmps44
  go_wp2_with (go_at_call 43; refine (specIn _ _ _ _).mono ?_; rintro e w' ⟨rfl, rfl⟩)
  go_ret
  exact ⟨ret_bool rfl, rfl⟩

end Go.Proofs.Ytepkneeedkmaoaa
