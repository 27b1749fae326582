/-
  The drawing functions of chapter 2.
-/
import Derived.Test.YtggeemkjgpjahaaDraws2
namespace Go.Proofs.Ytggeemkjgpjahaa
open Go.RowKit Go.Shelf

set_option maxHeartbeats 400000 in
theorem drawRootOf (a : Option Addr) (len cap : Nat) (z : List Int) (w : World) (h : IsRow .u8 w a len cap z) :
    Calls Try.prog 11 #[.slice a len cap] w (BothPost w) := by
  go_enter Try.func11, Try.ntmps11
  go_wp2_with (go_at_call 28; refine (l20Open _ _ _ _ _ h).mono ?_; rintro e w1 ⟨r, rfl, hr⟩)
  refine (l20Both w r 0 w1 hr (by omega)).mono ?_
  rintro e w2 ⟨x, y, rfl, hx, hy, hr2, _⟩
  go_wp2
  go_ret2
  exact ⟨x, y, rfl, hx, hy, hr2.below⟩

set_option maxHeartbeats 400000 in
theorem drawRootSteps (a : Option Addr) (len cap : Nat) (z : List Int) (w : World) (h : IsRow .u8 w a len cap z) :
    Calls Try.prog 15 #[.slice a len cap] w (BothPost w) := by
  go_enter Try.func15, Try.ntmps15
  go_wp2_with (go_at_call 28; refine (l20Open _ _ _ _ _ h).mono ?_; rintro e w1 ⟨r, rfl, hr⟩)
  refine (l20Both w r 0 w1 hr (by omega)).mono ?_
  rintro e w2 ⟨x, y, rfl, hx, hy, hr2, _⟩
  go_wp2
  go_ret2
  exact ⟨x, y, rfl, hx, hy, hr2.below⟩

set_option maxHeartbeats 400000 in
theorem drawTurnsOf (a : Option Addr) (len cap : Nat) (z : List Int) (w : World) (h : IsRow .u8 w a len cap z) :
    Calls Try.prog 20 #[.slice a len cap] w (BothPost w) := by
  go_enter Try.func20, Try.ntmps20
  go_wp2_with (go_at_call 28; refine (l20Open _ _ _ _ _ h).mono ?_; rintro e w1 ⟨r, rfl, hr⟩)
  refine (l20Both w r 0 w1 hr (by omega)).mono ?_
  rintro e w2 ⟨x, y, rfl, hx, hy, hr2, _⟩
  go_wp2
  go_ret2
  exact ⟨x, y, rfl, hx, hy, hr2.below⟩

/-- Three numbers and a base. -/
def FourPost (w : World) (e : Ending) (w' : World) : Prop :=
  ∃ p x y z : Int, e = .returned (.tuple #[.int .i64 p, .int .i64 x, .int .i64 y, .int .i64 z]) ∧ (-2000000000 ≤ p ∧ p ≤ 2000000000) ∧ (0 ≤ x ∧ x ≤ 14691) ∧ (0 ≤ y ∧ y ≤ 14691) ∧ (-20 ≤ z ∧ z ≤ 40) ∧ Below w.heap.size w w'

theorem results_tmp4 {fn : Func} {t u v x : Tmp} (h : fn.results = #[.tmp t, .tmp u, .tmp v, .tmp x]) (tmps : Array Value) (P : Program) (w : World) :
    (results fn tmps).run P w = .ok (.tuple #[tmps.getD t undef, tmps.getD u undef, tmps.getD v undef, tmps.getD x undef]) w := by
  simp [results, h]

theorem mul_bound {x y c d : Int} (hx : 0 ≤ x ∧ x ≤ c) (hy : 0 ≤ y ∧ y ≤ d) : 0 ≤ x * y ∧ x * y ≤ c * d := by
  refine ⟨Int.mul_nonneg hx.1 hy.1, Int.le_trans (Int.mul_le_mul_of_nonneg_right hx.2 hy.1) (Int.mul_le_mul_of_nonneg_left hy.2 (by omega))⟩

set_option maxRecDepth 100000 in
set_option maxHeartbeats 1000000 in
theorem drawCouldBe (a : Option Addr) (len cap : Nat) (z : List Int) (w : World) (h : IsRow .u8 w a len cap z) :
    Calls Try.prog 23 #[.slice a len cap] w (FourPost w) := by
  go_enter Try.func23, Try.ntmps23
  go_wp2_with (go_at_call 28; refine (l20Open _ _ _ _ _ h).mono ?_; rintro e w1 ⟨r, rfl, hr⟩)
  refine (pick w r 0 250 w1 (by omega) hr).mono ?_
  rintro e w2 ⟨x1, rfl, x10, x11, hr2, _⟩
  have x12 := x11 (by omega)
  clear x11
  go_wp2_with fail
  refine (pick w r 1 60 w2 (by omega) hr2).mono ?_
  rintro e w3 ⟨x2, rfl, x20, x21, hr3, _⟩
  have x22 := x21 (by omega)
  clear x21
  have hn := mul_bound (c := 249) (d := 59) ⟨x10, by omega⟩ ⟨x20, by omega⟩
  generalize hx : x1 * x2 = n at *
  have hnw : IntKind.i64.wrap (x1 * x2) = n := by rw [hx]; exact IntWalk.i64_in _ (by omega)
  go_wp2_with fail
  refine (pick w r 2 250 w3 (by omega) hr3).mono ?_
  rintro e w4 ⟨y1, rfl, y10, y11, hr4, _⟩
  have y12 := y11 (by omega)
  clear y11
  go_wp2_with fail
  refine (pick w r 3 60 w4 (by omega) hr4).mono ?_
  rintro e w5 ⟨y2, rfl, y20, y21, hr5, _⟩
  have y22 := y21 (by omega)
  clear y21
  have hm := mul_bound (c := 249) (d := 59) ⟨y10, by omega⟩ ⟨y20, by omega⟩
  generalize hy : y1 * y2 = m at *
  have hmw : IntKind.i64.wrap (y1 * y2) = m := by rw [hy]; exact IntWalk.i64_in _ (by omega)
  have hnm := mul_bound (c := 249 * 59) (d := 249 * 59) hn hm
  go_wp2_with fail
  generalize n * m = p at *
  refine (pick w r 4 3 w5 (by omega) hr5).mono ?_
  rintro e w6 ⟨u, rfl, u0, u1, hr6, _⟩
  have u2 := u1 (by omega)
  clear u1
  go_wp2_with fail
  refine (pick w r 5 2 w6 (by omega) hr6).mono ?_
  rintro e w7 ⟨v, rfl, v0, v1, hr7, _⟩
  have v2 := v1 (by omega)
  clear v1
  go_wp2_with fail
  refine (l20Base w r 6 w7 hr7 (by omega)).mono ?_
  rintro e w8 ⟨b, rfl, b1, b2, hr8, _⟩
  go_wp2
  (try simp only [Exit.inBlock, Exit.then])
  refine bodyPost_ret (results_tmp4 rfl _ _ _) rfl ?_
  exact ⟨_, n, m, b, rfl, by omega, by omega, by omega, ⟨b1, b2⟩, hr8.below⟩

end Go.Proofs.Ytggeemkjgpjahaa
