/-
  The drawing functions of chapter 3.
-/
import Derived.Test.YthpimanfkbeanaaDraws2
import Derived.Test.YthpimanfkbeanaaDrawOver
namespace Go.Proofs.Ythpimanfkbeanaa
open Go.RowKit Go.Shelf

/-- A number of times and a base. -/
def RulePost (w0 : World) (r q : Nat) (w : World) (e : Ending) (w' : World) : Prop :=
  ∃ x y : Int, e = .returned (.tuple #[.int .i64 x, .int .i64 y]) ∧ (-10 ≤ x ∧ x ≤ 10) ∧ (-20 ≤ y ∧ y ≤ 40) ∧ Rd w0 r q w' ∧ Only r w w'

set_option maxRecDepth 100000 in
set_option maxHeartbeats 1000000 in
theorem l20Rule (w0 : World) (r q : Nat) (w : World) (hR : Rd w0 r q w) (hq : q ≤ 40000) :
    Calls Try.prog 40 #[.pointer (some ⟨r, 0, none⟩)] w (RulePost w0 r (q + 1050) w) := by
  go_enter Try.func40, Try.ntmps40
  go_wp2_with fail
  refine wp_region_reckon (q0 := q) (table2 w0 r) [(0, .ptr)] mixed (by kernel_rfl) ?_ hR (by simp; omega) ?_
  · intro t s h
    rw [look_one] at h
    obtain ⟨rfl, rfl⟩ := h
    rfl
  · intro f W hin hold hR' hO
    obtain ⟨x, hx, x1, x2⟩ := hin 2 (.int (-5) 9) (by kernel_rfl)
    obtain ⟨y, hy, y1, y2⟩ := hin 3 (.int (-20) 40) (by kernel_rfl)
    simp only [List.size_toArray, List.length_cons, List.length_nil, Nat.reduceAdd, List.range, List.range.loop, List.map_cons, List.map_nil]
    rw [hx, hy]
    go_wp2
    go_ret2
    exact ⟨x, y, rfl, by omega, ⟨y1, y2⟩, hR'.le (by simp), hO⟩

/-- A number, a number of times and a base. -/
def NumRulePost (w : World) (e : Ending) (w' : World) : Prop :=
  ∃ x t y : Int, e = .returned (.tuple #[.int .i64 x, .int .i64 t, .int .i64 y]) ∧ (-2000000000 ≤ x ∧ x ≤ 2000000000) ∧ (-10 ≤ t ∧ t ≤ 10) ∧ (-20 ≤ y ∧ y ≤ 40) ∧ Below w.heap.size w w'

set_option maxHeartbeats 400000 in
theorem drawNextOf (a : Option Addr) (len cap : Nat) (z : List Int) (w : World) (h : IsRow .u8 w a len cap z) :
    Calls Try.prog 13 #[.slice a len cap] w (NumRulePost w) := by
  go_enter Try.func13, Try.ntmps13
  go_wp2_with (go_at_call 38; refine (l20Open _ _ _ _ _ h).mono ?_; rintro e w1 ⟨r, rfl, hr⟩)
  refine (l20Whole w r 0 w1 hr (by omega)).mono ?_
  rintro e w2 ⟨x, rfl, x1, x2, hr2, _⟩
  go_wp2_with fail
  refine (l20Rule w r _ w2 hr2 (by omega)).mono ?_
  rintro e w3 ⟨t, y, rfl, ht, hy, hr3, _⟩
  go_wp2
  go_ret3
  exact ⟨x, t, y, rfl, ⟨x1, x2⟩, ht, hy, hr3.below⟩

set_option maxHeartbeats 400000 in
theorem drawGreatestStay (a : Option Addr) (len cap : Nat) (z : List Int) (w : World) (h : IsRow .u8 w a len cap z) :
    Calls Try.prog 29 #[.slice a len cap] w (BothPost w) := by
  go_enter Try.func29, Try.ntmps29
  go_wp2_with (go_at_call 38; refine (l20Open _ _ _ _ _ h).mono ?_; rintro e w1 ⟨r, rfl, hr⟩)
  refine (l20Rule w r 0 w1 hr (by omega)).mono ?_
  rintro e w3 ⟨t, y, rfl, ht, hy, hr3, _⟩
  go_wp2
  go_ret2
  exact ⟨t, y, rfl, by omega, hy, hr3.below⟩

set_option maxHeartbeats 400000 in
theorem drawRoundsUpTo (a : Option Addr) (len cap : Nat) (z : List Int) (w : World) (h : IsRow .u8 w a len cap z) :
    Calls Try.prog 31 #[.slice a len cap] w (NumRulePost w) := by
  go_enter Try.func31, Try.ntmps31
  go_wp2_with (go_at_call 38; refine (l20Open _ _ _ _ _ h).mono ?_; rintro e w1 ⟨r, rfl, hr⟩)
  refine (l20Rule w r 0 w1 hr (by omega)).mono ?_
  rintro e w3 ⟨t, y, rfl, ht, hy, hr3, _⟩
  go_wp2_with fail
  refine (pick w r _ 120 w3 (by omega) hr3).mono ?_
  rintro e w4 ⟨u, rfl, u0, u1, hr4, _⟩
  have u2 := u1 (by omega)
  clear u1
  go_wp2_with fail
  refine (pick w r _ 20 w4 (by omega) hr4).mono ?_
  rintro e w5 ⟨v, rfl, v0, v1, hr5, _⟩
  have v2 := v1 (by omega)
  clear v1
  have h9 : 0 ≤ v / 19 ∧ v / 19 ≤ 1 := by omega
  go_wp2
  all_goals
    go_ret3
    exact ⟨_, _, y, rfl, by omega, by omega, hy, hr5.below⟩

set_option maxRecDepth 100000 in
set_option maxHeartbeats 1000000 in
theorem drawHappyOk (a : Option Addr) (len cap : Nat) (z : List Int) (w : World) (h : IsRow .u8 w a len cap z) :
    Calls Try.prog 25 #[.slice a len cap] w (BothPost w) := by
  go_enter Try.func25, Try.ntmps25
  go_wp2_with (go_at_call 38; refine (l20Open _ _ _ _ _ h).mono ?_; rintro e w1 ⟨r, rfl, hr⟩)
  refine wp_region_reckon (q0 := 0) (table2 w r) [(4, .ptr)] mixed (by kernel_rfl) ?_ hr (by simp) ?_
  · intro t s h
    rw [look_one] at h
    obtain ⟨rfl, rfl⟩ := h
    rfl
  · intro f W hin hold hR' hO
    obtain ⟨x, hx, x1, x2⟩ := hin 2 (.int (-2000000000) 2000000000) (by kernel_rfl)
    obtain ⟨y, hy, y1, y2⟩ := hin 3 (.int (-20) 40) (by kernel_rfl)
    simp only [List.size_toArray, List.length_cons, List.length_nil, Nat.reduceAdd, List.range, List.range.loop, List.map_cons, List.map_nil]
    rw [hx, hy]
    go_wp2
    go_ret2
    exact ⟨x, y, rfl, ⟨x1, x2⟩, ⟨y1, y2⟩, hR'.below⟩

set_option maxHeartbeats 1000000 in
theorem drawRoundFrom (a : Option Addr) (len cap : Nat) (z : List Int) (w : World) (h : IsRow .u8 w a len cap z) :
    Calls Try.prog 19 #[.slice a len cap] w (NumRulePost w) := by
  go_enter Try.func19, Try.ntmps19
  go_wp2_with (go_at_call 38; refine (l20Open _ _ _ _ _ h).mono ?_; rintro e w1 ⟨r, rfl, hr⟩)
  refine (pick w r 0 250 w1 (by omega) hr).mono ?_
  rintro e w2 ⟨u, rfl, u0, u1, hr2, _⟩
  have u2 := u1 (by omega)
  clear u1
  go_wp2_with fail
  refine (l20Whole w r _ w2 hr2 (by omega)).mono ?_
  rintro e w3 ⟨x, rfl, x1, x2, hr3, _⟩
  go_wp2_with fail
  have hr4 := hr3.over ((Below.refl (r + 1) w3).alloc (by have := hr3.lt; omega) (.cells #[.int .i64 u, .int .i64 x] 3))
  refine (pick w r _ 2 _ (by omega) hr4).mono ?_
  rintro e w5 ⟨i, rfl, i0, i1, hr5, hO5⟩
  have i2 := i1 (by omega)
  clear i1
  have hlt := hr3.lt
  have c0 : w5.cell? ⟨w3.heap.size, 0, none⟩ = some (.int .i64 u) := hO5.cell (by rw [World.cell?_alloc_new]; rfl) (by simp; omega)
  have c1 : w5.cell? ⟨w3.heap.size, 1, none⟩ = some (.int .i64 x) := hO5.cell (by rw [World.cell?_alloc_new]; rfl) (by simp; omega)
  rcases (show i = 0 ∨ i = 1 by omega) with rfl | rfl
  all_goals
    go_wp2_with fail
    refine (l20Rule w r _ w5 hr5 (by omega)).mono ?_
    rintro e w6 ⟨t, y, rfl, ht, hy, hr6, _⟩
    go_wp2
    all_goals
      go_ret3
      exact ⟨_, _, y, rfl, by omega, by omega, hy, hr6.below⟩

end Go.Proofs.Ythpimanfkbeanaa
