/-
  The walk of the exact law of BaseOk.
-/
import Derived.Test.YtalcmadoledfnaaBase
import Derived.Test.YtalcmadoledfnaaRow
namespace Go.Proofs.Ytalcmadoledfnaa
open Go.RowKit

set_option maxHeartbeats 400000 in
theorem FnExactBaseOk_walk (a0 : Int) (w : World) (_w0 : (Lit.int .i64 a0).wf = true) :
    Calls Try.prog 9 #[.int .i64 a0] w fun e w' => e = .returned (.bool true) ∧ Below w.heap.size w w' := by
  go_enter Try.func9, Try.ntmps9
  go_wp2_with (first | (go_at_call 16; refine (implBaseOk _ _).mono ?_; rintro e w' ⟨rfl, rfl⟩) | (go_at_call 17; refine (specBaseOk _ _).mono ?_; rintro e w' ⟨rfl, rfl⟩))
  go_ret
  exact ⟨rfl, Below.refl _ _⟩

end Go.Proofs.Ytalcmadoledfnaa
