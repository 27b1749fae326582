/-
  The drawing functions of chapter 9.
-/
import Derived.Test.YtmmafbncpeahlaaDraws2
namespace Go.Proofs.Ytmmafbncpeahlaa
open Go.RowKit Go.Shelf

set_option maxHeartbeats 400000 in
theorem drawDigitProduct (a : Option Addr) (len cap : Nat) (z : List Int) (w : World) (h : IsRow .u8 w a len cap z) :
    Calls Try.prog 11 #[.slice a len cap] w (BothPost w) := by
  go_enter Try.func11, Try.ntmps11
  go_wp2_with (go_at_call 30; refine (l20Open _ _ _ _ _ h).mono ?_; rintro e w1 ⟨r, rfl, hr⟩)
  refine (l20Both w r 0 w1 hr (by omega)).mono ?_
  rintro e w2 ⟨x, y, rfl, hx, hy, hr2, _⟩
  go_wp2
  go_ret2
  exact ⟨x, y, rfl, hx, hy, hr2.below⟩

set_option maxHeartbeats 400000 in
theorem drawNoNought (a : Option Addr) (len cap : Nat) (z : List Int) (w : World) (h : IsRow .u8 w a len cap z) :
    Calls Try.prog 24 #[.slice a len cap] w (BothPost w) := by
  go_enter Try.func24, Try.ntmps24
  go_wp2_with (go_at_call 30; refine (l20Open _ _ _ _ _ h).mono ?_; rintro e w1 ⟨r, rfl, hr⟩)
  refine (l20Both w r 0 w1 hr (by omega)).mono ?_
  rintro e w2 ⟨x, y, rfl, hx, hy, hr2, _⟩
  go_wp2
  go_ret2
  exact ⟨x, y, rfl, hx, hy, hr2.below⟩

set_option maxRecDepth 100000 in
set_option maxHeartbeats 1000000 in
theorem drawPersistsOf (a : Option Addr) (len cap : Nat) (z : List Int) (w : World) (h : IsRow .u8 w a len cap z) :
    Calls Try.prog 17 #[.slice a len cap] w (BothPost w) := by
  go_enter Try.func17, Try.ntmps17
  go_wp2_with (go_at_call 30; refine (l20Open _ _ _ _ _ h).mono ?_; rintro e w1 ⟨r, rfl, hr⟩)
  refine wp_region_reckon (q0 := 0) (table2 w r) [(4, .ptr)] mixed (by kernel_rfl) ?_ hr (by simp) ?_
  · intro t s h
    rw [look_one] at h
    obtain ⟨rfl, rfl⟩ := h
    rfl
  · intro f W hin hold hR' hO
    obtain ⟨x, hx, x1, x2⟩ := hin 2 (.int (-2000000000) 2000000000) (by kernel_rfl)
    obtain ⟨y, hy, y1, y2⟩ := hin 3 (.int (-20) 40) (by kernel_rfl)
    simp only [List.size_toArray, List.length_cons, List.length_nil, Nat.reduceAdd, List.range, List.range.loop, List.map_cons, List.map_nil]
    rw [hx, hy]
    go_wp2
    go_ret2
    exact ⟨x, y, rfl, by omega, by omega, hR'.below⟩

set_option maxHeartbeats 1000000 in
theorem drawLeastPersisting (a : Option Addr) (len cap : Nat) (z : List Int) (w : World) (h : IsRow .u8 w a len cap z) :
    Calls Try.prog 21 #[.slice a len cap] w fun e w' => ∃ x y : Int, e = .returned (.tuple #[.int .i64 x, .int .i64 y]) ∧ (-1 ≤ x ∧ x ≤ 5) ∧ (-20 ≤ y ∧ y ≤ 40) ∧ Below w.heap.size w w' := by
  go_enter Try.func21, Try.ntmps21
  go_wp2_with (go_at_call 30; refine (l20Open _ _ _ _ _ h).mono ?_; rintro e w1 ⟨r, rfl, hr⟩)
  refine (pick w r _ 6 w1 (by omega) hr).mono ?_
  rintro e w2 ⟨u, rfl, u0, u1, hr2, _⟩
  have u2 := u1 (by omega)
  clear u1
  go_wp2_with fail
  refine (pick w r _ 20 w2 (by omega) hr2).mono ?_
  rintro e w3 ⟨v, rfl, v0, v1, hr3, _⟩
  have v2 := v1 (by omega)
  clear v1
  have v3 : 0 ≤ v / 19 ∧ v / 19 ≤ 1 := by omega
  go_wp2_with fail
  refine (l20Base w r _ w3 hr3 (by omega)).mono ?_
  rintro e w5 ⟨y, rfl, y1, y2, hr5, _⟩
  go_wp2
  go_ret2
  exact ⟨_, y, rfl, by constructor <;> omega, by omega, hr5.below⟩

end Go.Proofs.Ytmmafbncpeahlaa
