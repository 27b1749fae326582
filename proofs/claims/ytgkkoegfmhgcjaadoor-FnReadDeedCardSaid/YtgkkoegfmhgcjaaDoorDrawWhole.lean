/-
  DrawWholeOf: a row of digits and a base.
-/
import Derived.Test.YtgkkoegfmhgcjaaDoorDraws2
import Derived.Test.YtgkkoegfmhgcjaaDoorDraw
namespace Go.Proofs.YtgkkoegfmhgcjaaDoor
open Go.RowKit Go.Shelf

set_option maxHeartbeats 400000 in
theorem odd (w0 : World) (r q : Nat) (n : Int) (w : World) (hR : Rd w0 r q w) (hq : q ≤ 50000) (hn : 1 ≤ n) (hn' : n ≤ 1000000) :
    Calls Tryd.prog 25 #[.pointer (some ⟨r, 0, none⟩), .int .i64 n] w fun e w' => ∃ b : Bool, e = .returned (.bool b) ∧ Rd w0 r (q + 1) w' ∧ Only r w w' := by
  go_enter Tryd.func25, Tryd.ntmps25
  go_wp2_with (go_at_call 12; refine (pick w0 r q n w (by omega) hR).mono ?_; rintro e w1 ⟨x, rfl, x0, x1, hR1, hO⟩)
  go_ret
  exact ⟨_, rfl, hR1, hO⟩

/-- A row and a base. -/
def RowPost (w : World) (e : Ending) (w' : World) : Prop :=
  ∃ (v : Value) (xs : List Int) (y : Int), e = .returned (.tuple #[v, .int .i64 y]) ∧ Row w.heap.size w' v xs ∧ xs.length ≤ 20 ∧ (-20 ≤ y ∧ y ≤ 40) ∧ Below w.heap.size w w'

end Go.Proofs.YtgkkoegfmhgcjaaDoor
