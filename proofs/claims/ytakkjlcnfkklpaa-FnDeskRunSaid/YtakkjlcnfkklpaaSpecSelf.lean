/-
  spec.MadeBy, spec.MakersOf, spec.SelfOk, spec.SelvesUpTo, spec.RowFrom, spec.JoinAt: what they answer.
-/
import Derived.Test.YtakkjlcnfkklpaaDigitsOf
import Derived.Test.YtakkjlcnfkklpaaMathSelf2
import Derived.Test.YtakkjlcnfkklpaaWhole
namespace Go.Proofs.Ytakkjlcnfkklpaa
open Go.RowKit Go.Shelf

set_option maxRecDepth 100000 in
set_option maxHeartbeats 400000 in
theorem specMadeBy (n b : Int) (w : World) :
    Calls Try.prog 75 #[.int .i64 n, .int .i64 b] w fun e w' => e = .returned (.int .i64 (Pl.madeI n b)) ∧ w = w' := by
  by_cases h1 : (decide (0 ≤ n) && decide (n ≤ 1000000000)) = true
  · by_cases h2 : Pl.baseB b = true
    · have hk : Pl.okB n b = true := by rw [Pl.okB, h2, h1]; rfl
      obtain ⟨x, k, rfl, rfl, h3, h4, h5⟩ := Pl.okB_nat hk
      rw [Pl.madeI_yes x k hk, Pl.madeN]
      have hs := Pl.sumI_yes x k hk
      have hle := Pl.sumD_le h3 x
      clear hk
      generalize Pl.sumD k x = S at *
      rw [Int.natCast_add]
      generalize hS : (S : Int) = SI at *
      have hw : IntKind.i64.wrap ((x : Int) + SI) = (x : Int) + SI := IntWalk.i64_in _ (by omega)
      go_enter Try.func75, Try.ntmps75
      go_wp2_with (first | (go_at_call 40; refine (specIn _ _ _ _).mono ?_; rintro e w' ⟨rfl, rfl⟩; rw [h1]) | (go_at_call 41; refine (specBaseOk _ _).mono ?_; rintro e w' ⟨rfl, rfl⟩; rw [h2]) | (go_at_call 70; refine (specSumOf _ _ _).mono ?_; rintro e w' ⟨rfl, rfl⟩; rw [hs]))
      go_ret
      exact ⟨rfl, rfl⟩
    · have h2' : Pl.baseB b = false := by simpa using h2
      rw [Pl.madeI_no (by rw [Pl.okB]; simp [h2])]
      clear h2
      go_enter Try.func75, Try.ntmps75
      go_wp2_with (first | (go_at_call 40; refine (specIn _ _ _ _).mono ?_; rintro e w' ⟨rfl, rfl⟩; rw [h1]) | (go_at_call 41; refine (specBaseOk _ _).mono ?_; rintro e w' ⟨rfl, rfl⟩; rw [h2']))
      go_ret
      exact ⟨rfl, rfl⟩
  · have h1' : (decide (0 ≤ n) && decide (n ≤ 1000000000)) = false := by simpa using h1
    rw [Pl.madeI_no (by rw [Pl.okB, h1']; simp)]
    clear h1
    go_enter Try.func75, Try.ntmps75
    go_wp2_with (first | (go_at_call 40; refine (specIn _ _ _ _).mono ?_; rintro e w' ⟨rfl, rfl⟩; rw [h1']))
    go_ret
    exact ⟨rfl, rfl⟩

end Go.Proofs.Ytakkjlcnfkklpaa
