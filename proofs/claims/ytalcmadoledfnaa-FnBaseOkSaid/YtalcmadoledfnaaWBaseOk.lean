/-
  The walks of the two laws of BaseOk.
-/
import Derived.Test.YtalcmadoledfnaaBase
import Derived.Test.YtalcmadoledfnaaRow
import Derived.Test.YtalcmadoledfnaaDraw
namespace Go.Proofs.Ytalcmadoledfnaa
open Go.RowKit

set_option maxHeartbeats 400000 in
theorem FnExactBaseOk_walk (a0 : Int) (w : World) (_w0 : (Lit.int .i64 a0).wf = true) :
    Calls Try.prog 9 #[.int .i64 a0] w fun e w' => e = .returned (.bool true) ∧ Below w.heap.size w w' := by
  go_enter Try.func9, Try.ntmps9
  go_wp2_with (first | (go_at_call 16; refine (implBaseOk _ _).mono ?_; rintro e w' ⟨rfl, rfl⟩) | (go_at_call 17; refine (specBaseOk _ _).mono ?_; rintro e w' ⟨rfl, rfl⟩))
  go_ret
  exact ⟨rfl, Below.refl _ _⟩

def IntPost (w : World) (e : Ending) (w' : World) : Prop := ∃ x : Int, -1000000000000 ≤ x ∧ x ≤ 1000000000000 ∧ e = .returned (.int .i64 x) ∧ Below w.heap.size w w'

set_option maxHeartbeats 400000 in
theorem drawBaseOk (a : Option Addr) (len cap : Nat) (z : List Int) (w : World) (h : IsRow .u8 w a len cap z) :
    Calls Try.prog 15 #[.slice a len cap] w (IntPost w) := by
  go_enter Try.func15, Try.ntmps15
  go_wp2_with (go_at_call 39; refine (l20Open _ _ _ _ _ h).mono ?_; rintro e w1 ⟨r, rfl, hr⟩)
  go_wp2_with (go_at_call 40; refine (pick _ _ _ _ _ (by omega) hr).mono ?_; rintro e w2 ⟨x, rfl, x0, x1, hr2⟩)
  go_ret
  exact ⟨_, by omega, by omega, rfl, hr2.below⟩

set_option maxHeartbeats 400000 in
theorem FnBaseOk_walk (a0 : Option Addr) (len0 cap0 : Nat) (z0 : List Int) (w : World) (w0 : IsRow .u8 w a0 len0 cap0 z0) :
    Calls Try.prog 3 #[.slice a0 len0 cap0] w fun e w' => e = .returned (.bool true) ∧ Below w.heap.size w w' := by
  by_cases hl : 1048576 < len0
  · go_enter Try.func3, Try.ntmps3
    go_wp2
    go_ret
    exact ⟨rfl, Below.refl _ _⟩
  · go_enter Try.func3, Try.ntmps3
    go_wp2_with (first | (go_at_call 15; refine (drawBaseOk _ _ _ _ _ w0).mono ?_; rintro e w1 ⟨x, x0, x1, rfl, hb⟩) | (go_at_call 16; refine (implBaseOk _ _).mono ?_; rintro e w' ⟨rfl, rfl⟩) | (go_at_call 17; refine (specBaseOk _ _).mono ?_; rintro e w' ⟨rfl, rfl⟩))
    · have h2 : 2 ≤ x := by assumption
      go_ret
      exact ⟨ret_bool (by by_cases h3 : x ≤ 16 <;> simp [Pl.baseB, h2, h3]), hb⟩
    · have h2 : x < 2 := by assumption
      go_ret
      exact ⟨ret_bool (by simp [Pl.baseB]; omega), hb⟩

end Go.Proofs.Ytalcmadoledfnaa
