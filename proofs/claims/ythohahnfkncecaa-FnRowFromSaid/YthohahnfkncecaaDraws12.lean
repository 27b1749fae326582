/-
  The drawing functions of chapter 11.
-/
import Derived.Test.YthohahnfkncecaaDraws2
import Derived.Test.YthohahnfkncecaaSpecSelf
namespace Go.Proofs.Ythohahnfkncecaa
open Go.RowKit Go.Shelf

set_option maxHeartbeats 400000 in
theorem drawMadeBy (a : Option Addr) (len cap : Nat) (z : List Int) (w : World) (h : IsRow .u8 w a len cap z) :
    Calls Try.prog 15 #[.slice a len cap] w (BothPost w) := by
  go_enter Try.func15, Try.ntmps15
  go_wp2_with (go_at_call 42; refine (l20Open _ _ _ _ _ h).mono ?_; rintro e w1 ⟨r, rfl, hr⟩)
  refine (l20Both w r 0 w1 hr (by omega)).mono ?_
  rintro e w2 ⟨x, y, rfl, hx, hy, hr2, _⟩
  go_wp2
  go_ret2
  exact ⟨x, y, rfl, hx, hy, hr2.below⟩

set_option maxHeartbeats 400000 in
theorem drawMakersOf (a : Option Addr) (len cap : Nat) (z : List Int) (w : World) (h : IsRow .u8 w a len cap z) :
    Calls Try.prog 19 #[.slice a len cap] w (BothPost w) := by
  go_enter Try.func19, Try.ntmps19
  go_wp2_with (go_at_call 42; refine (l20Open _ _ _ _ _ h).mono ?_; rintro e w1 ⟨r, rfl, hr⟩)
  refine (l20Both w r 0 w1 hr (by omega)).mono ?_
  rintro e w2 ⟨x, y, rfl, hx, hy, hr2, _⟩
  go_wp2_with fail
  refine (pick w r _ 2 w2 (by omega) hr2).mono ?_
  rintro e w3 ⟨u, rfl, u0, u1, hr3, _⟩
  by_cases hu : u = 0
  · have hq : (u == 0) = true := by simp [hu]
    have hb := Pl.madeI_bound x y
    clear hu
    go_wp2_with (go_at_call 17; refine (specMadeBy _ _ _).mono ?_; rintro e w' ⟨rfl, rfl⟩)
    go_ret2
    exact ⟨_, y, rfl, by omega, hy, hr3.below⟩
  · have hq : (u == 0) = false := by simp [hu]
    clear hu
    go_wp2_with fail
    go_ret2
    exact ⟨x, y, rfl, hx, hy, hr3.below⟩

set_option maxRecDepth 100000 in
set_option maxHeartbeats 1000000 in
theorem drawSelfOk (a : Option Addr) (len cap : Nat) (z : List Int) (w : World) (h : IsRow .u8 w a len cap z) :
    Calls Try.prog 26 #[.slice a len cap] w (BothPost w) := by
  go_enter Try.func26, Try.ntmps26
  go_wp2_with (go_at_call 42; refine (l20Open _ _ _ _ _ h).mono ?_; rintro e w1 ⟨r, rfl, hr⟩)
  refine wp_region_reckon (q0 := 0) (table2 w r) [(4, .ptr)] mixed (by kernel_rfl) ?_ hr (by simp) ?_
  · intro t s h
    rw [look_one] at h
    obtain ⟨rfl, rfl⟩ := h
    rfl
  · intro f W hin hold hR' hO
    obtain ⟨x, hx, x1, x2⟩ := hin 2 (.int (-2000000000) 2000000000) (by kernel_rfl)
    obtain ⟨y, hy, y1, y2⟩ := hin 3 (.int (-20) 40) (by kernel_rfl)
    simp only [List.size_toArray, List.length_cons, List.length_nil, Nat.reduceAdd, List.range, List.range.loop, List.map_cons, List.map_nil]
    rw [hx, hy]
    go_wp2
    go_ret2
    exact ⟨x, y, rfl, ⟨x1, x2⟩, ⟨y1, y2⟩, hR'.below⟩

/-- A small number and a base. -/
def SmallDraw (w : World) (e : Ending) (w' : World) : Prop :=
  ∃ x y : Int, e = .returned (.tuple #[.int .i64 x, .int .i64 y]) ∧ (-1 ≤ x ∧ x ≤ 4000) ∧ (-20 ≤ y ∧ y ≤ 40) ∧ Below w.heap.size w w'

set_option maxRecDepth 100000 in
set_option maxHeartbeats 1000000 in
theorem drawSelvesUpTo (a : Option Addr) (len cap : Nat) (z : List Int) (w : World) (h : IsRow .u8 w a len cap z) :
    Calls Try.prog 29 #[.slice a len cap] w (SmallDraw w) := by
  go_enter Try.func29, Try.ntmps29
  go_wp2_with (go_at_call 42; refine (l20Open _ _ _ _ _ h).mono ?_; rintro e w1 ⟨r, rfl, hr⟩)
  refine wp_region_reckon (q0 := 0) (table2 w r) [(4, .ptr)] mixed (by kernel_rfl) ?_ hr (by simp) ?_
  · intro t s h
    rw [look_one] at h
    obtain ⟨rfl, rfl⟩ := h
    rfl
  · intro f W hin hold hR' hO
    obtain ⟨x, hx, x1, x2⟩ := hin 2 (.int (-1) 3001) (by kernel_rfl)
    obtain ⟨y, hy, y1, y2⟩ := hin 3 (.int (-20) 40) (by kernel_rfl)
    simp only [List.size_toArray, List.length_cons, List.length_nil, Nat.reduceAdd, List.range, List.range.loop, List.map_cons, List.map_nil]
    rw [hx, hy]
    go_wp2
    go_ret2
    exact ⟨x, y, rfl, by omega, ⟨y1, y2⟩, hR'.below⟩

set_option maxRecDepth 100000 in
set_option maxHeartbeats 1000000 in
theorem drawRowFrom (a : Option Addr) (len cap : Nat) (z : List Int) (w : World) (h : IsRow .u8 w a len cap z) :
    Calls Try.prog 32 #[.slice a len cap] w (SmallDraw w) := by
  go_enter Try.func32, Try.ntmps32
  go_wp2_with (go_at_call 42; refine (l20Open _ _ _ _ _ h).mono ?_; rintro e w1 ⟨r, rfl, hr⟩)
  refine wp_region_reckon (q0 := 0) (table2 w r) [(4, .ptr)] mixed (by kernel_rfl) ?_ hr (by simp) ?_
  · intro t s h
    rw [look_one] at h
    obtain ⟨rfl, rfl⟩ := h
    rfl
  · intro f W hin hold hR' hO
    obtain ⟨x, hx, x1, x2⟩ := hin 2 (.int 0 3237) (by kernel_rfl)
    obtain ⟨y, hy, y1, y2⟩ := hin 3 (.int (-20) 40) (by kernel_rfl)
    simp only [List.size_toArray, List.length_cons, List.length_nil, Nat.reduceAdd, List.range, List.range.loop, List.map_cons, List.map_nil]
    rw [hx, hy]
    go_wp2
    go_ret2
    exact ⟨x, y, rfl, by omega, ⟨y1, y2⟩, hR'.below⟩

/-- Two small numbers and a base. -/
def JoinDraw (w : World) (e : Ending) (w' : World) : Prop :=
  ∃ x y z : Int, e = .returned (.tuple #[.int .i64 x, .int .i64 y, .int .i64 z]) ∧ (0 ≤ x ∧ x ≤ 4000) ∧ (0 ≤ y ∧ y ≤ 4000) ∧ (-20 ≤ z ∧ z ≤ 40) ∧ Below w.heap.size w w'

set_option maxHeartbeats 1000000 in
theorem drawJoinAt (a : Option Addr) (len cap : Nat) (z : List Int) (w : World) (h : IsRow .u8 w a len cap z) :
    Calls Try.prog 35 #[.slice a len cap] w (JoinDraw w) := by
  go_enter Try.func35, Try.ntmps35
  go_wp2_with fail
  refine (l20Open _ _ _ _ _ h).mono ?_
  rintro e w1 ⟨r, rfl, hr⟩
  go_wp2_with fail
  refine (pick w r _ 120 w1 (by omega) hr).mono ?_
  rintro e w2 ⟨x, rfl, x0, x1, hr2, _⟩
  have x2 := x1 (by omega)
  clear x1
  go_wp2_with fail
  refine (pick w r _ 250 w2 (by omega) hr2).mono ?_
  rintro e w3 ⟨u, rfl, u0, u1, hr3, _⟩
  have u2 := u1 (by omega)
  clear u1
  go_wp2_with fail
  refine (pick w r _ 30 w3 (by omega) hr3).mono ?_
  rintro e w4 ⟨v, rfl, v0, v1, hr4, _⟩
  have v2 := v1 (by omega)
  clear v1
  have v3 : 0 ≤ v / 29 ∧ v / 29 ≤ 1 := by omega
  go_wp2_with fail
  refine (l20Base w r _ w4 hr4 (by omega)).mono ?_
  rintro e w5 ⟨y, rfl, y1, y2, hr5, _⟩
  go_wp2_with fail
  go_ret3
  exact ⟨x, _, y, rfl, by omega, by omega, ⟨y1, y2⟩, hr5.below⟩

end Go.Proofs.Ythohahnfkncecaa
