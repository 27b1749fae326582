/-
  impl.MadeBy, impl.MakersOf, impl.SelfOk, impl.SelvesUpTo, impl.RowFrom, impl.JoinAt: what they answer; the exact laws of chapter 11.
-/
import Derived.OpenShut
import Derived.Test.YtakkjlcnfkklpaaSpecSelf
import Derived.Test.YtakkjlcnfkklpaaAppendRow
import Derived.Test.YtakkjlcnfkklpaaRowFacts
namespace Go.Proofs.Ytakkjlcnfkklpaa
open Go.RowKit Go.Shelf

set_option maxRecDepth 100000 in
set_option maxHeartbeats 400000 in
theorem implMadeBy (n b : Int) (w : World) :
    Calls Try.prog 69 #[.int .i64 n, .int .i64 b] w fun e w' => e = .returned (.int .i64 (Pl.madeI n b)) ∧ Below w.heap.size w w' := by
  by_cases hk : Pl.okB n b = true
  · have HU := Lib.hid (implSumOf n b)
    obtain ⟨x, k, rfl, rfl, h3, h4, h5⟩ := Pl.okB_nat hk
    rw [Pl.madeI_yes x k hk, Pl.madeN]
    rw [Pl.sumI_yes x k hk] at HU
    have hle := Pl.sumD_le h3 x
    generalize Pl.sumD k x = S at *
    rw [Int.natCast_add]
    generalize hS : (S : Int) = SI at *
    have hw : IntKind.i64.wrap ((x : Int) + SI) = (x : Int) + SI := IntWalk.i64_in _ (by omega)
    go_enter Try.func69, Try.ntmps69
    go_wp2_with (first | (go_at_call 39; refine (hasDigits _ _ _).mono ?_; rintro e w' ⟨rfl, rfl⟩; rw [hk]) | (go_at_call 64; refine (HU.out _).mono ?_; rintro e w1 ⟨rfl, hb1⟩))
    go_ret
    exact ⟨rfl, hb1⟩
  · rw [Pl.madeI_no hk]
    have hk' : Pl.okB n b = false := by simpa using hk
    clear hk
    go_enter Try.func69, Try.ntmps69
    go_wp2_with (go_at_call 39; refine (hasDigits _ _ _).mono ?_; rintro e w' ⟨rfl, rfl⟩; rw [hk'])
    go_ret
    exact ⟨rfl, Below.refl _ _⟩

end Go.Proofs.Ytakkjlcnfkklpaa
