/-
  impl.hasDigits and impl.SumOf: what they answer.
-/
import Derived.Test.YtcigepkjnnknlaaIter
import Derived.Test.YtcigepkjnnknlaaBase
namespace Go.Proofs.Ytcigepkjnnknlaa
open Go.RowKit Go.Shelf

attribute [local go_sem] Oper.semAt_some

set_option maxHeartbeats 400000 in
theorem hasDigits (n b : Int) (w : World) :
    Calls Try.prog 38 #[.int .i64 n, .int .i64 b] w fun e w' => e = .returned (.bool (Pl.okB n b)) ∧ w = w' := by
  by_cases h0 : 0 ≤ n
  · by_cases h1 : n ≤ 1000000000
    · go_enter Try.func38, Try.ntmps38
      go_wp2_with (go_at_call 37; refine (implBaseOk _ _).mono ?_; rintro e w' ⟨rfl, rfl⟩)
      all_goals
        go_ret
        exact ⟨ret_bool (by simp_all [Pl.okB] <;> omega), rfl⟩
    · go_enter Try.func38, Try.ntmps38
      go_wp2_with (go_at_call 37; refine (implBaseOk _ _).mono ?_; rintro e w' ⟨rfl, rfl⟩)
      all_goals
        go_ret
        exact ⟨ret_bool (by simp_all [Pl.okB] <;> omega), rfl⟩
  · go_enter Try.func38, Try.ntmps38
    go_wp2_with (go_at_call 37; refine (implBaseOk _ _).mono ?_; rintro e w' ⟨rfl, rfl⟩)
    all_goals
      go_ret
      exact ⟨ret_bool (by simp_all [Pl.okB] <;> omega), rfl⟩

/-- The sum of what has come. -/
def sumDg (l : List Pl.Dg) : Nat := (l.map (·.1)).sum
theorem sumDg_snoc (l : List Pl.Dg) (d : Pl.Dg) : sumDg (l ++ [d]) = sumDg l + d.1 := by simp [sumDg]
theorem sumDg_le (l : List Pl.Dg) : sumDg l ≤ 16 * l.length := by
  induction l with
  | nil => simp [sumDg]
  | cons a l ih => simp only [sumDg, List.map_cons, List.sum_cons, List.length_cons] at *; have := a.2; omega

end Go.Proofs.Ytcigepkjnnknlaa
