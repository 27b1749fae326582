/-
  The drawing functions of chapter 6.
-/
import Derived.Test.YtaocefdannjlhaaDraws2
import Derived.Test.YtaocefdannjlhaaBehind
import Derived.Test.YtaocefdannjlhaaTurned
namespace Go.Proofs.Ytaocefdannjlhaa
open Go.RowKit Go.Shelf

set_option maxHeartbeats 400000 in
theorem drawTurnedOf (a : Option Addr) (len cap : Nat) (z : List Int) (w : World) (h : IsRow .u8 w a len cap z) :
    Calls Try.prog 15 #[.slice a len cap] w (BothPost w) := by
  go_enter Try.func15, Try.ntmps15
  go_wp2_with (go_at_call 38; refine (l20Open _ _ _ _ _ h).mono ?_; rintro e w1 ⟨r, rfl, hr⟩)
  refine (l20Both w r 0 w1 hr (by omega)).mono ?_
  rintro e w2 ⟨x, y, rfl, hx, hy, hr2, _⟩
  go_wp2
  go_ret2
  exact ⟨x, y, rfl, hx, hy, hr2.below⟩

set_option maxHeartbeats 400000 in
theorem drawAddedTurned (a : Option Addr) (len cap : Nat) (z : List Int) (w : World) (h : IsRow .u8 w a len cap z) :
    Calls Try.prog 30 #[.slice a len cap] w (BothPost w) := by
  go_enter Try.func30, Try.ntmps30
  go_wp2_with (go_at_call 38; refine (l20Open _ _ _ _ _ h).mono ?_; rintro e w1 ⟨r, rfl, hr⟩)
  refine (l20Both w r 0 w1 hr (by omega)).mono ?_
  rintro e w2 ⟨x, y, rfl, hx, hy, hr2, _⟩
  go_wp2
  go_ret2
  exact ⟨x, y, rfl, hx, hy, hr2.below⟩

theorem behind_range (n m b : Int) : -1 ≤ Pl.wV (behindO n m b) ∧ Pl.wV (behindO n m b) ≤ 1000000000 := by
  unfold behindO
  split
  · cases h : Pl.whole (Pl.digA n b ++ Pl.digA m b) b with
    | none => exact ⟨by simp [Pl.wV], by simp [Pl.wV]⟩
    | some y =>
      obtain ⟨_, _, _, _, _, _, hy⟩ := Pl.whole_some h
      exact ⟨by show -1 ≤ (y : Int); omega, by show (y : Int) ≤ 1000000000; omega⟩
  · exact ⟨by simp [Pl.wV], by simp [Pl.wV]⟩

set_option maxHeartbeats 1000000 in
theorem drawPalindromeOk (a : Option Addr) (len cap : Nat) (z : List Int) (w : World) (h : IsRow .u8 w a len cap z) :
    Calls Try.prog 20 #[.slice a len cap] w (BothPost w) := by
  go_enter Try.func20, Try.ntmps20
  go_wp2_with (go_at_call 38; refine (l20Open _ _ _ _ _ h).mono ?_; rintro e w1 ⟨r, rfl, hr⟩)
  refine (l20Both w r 0 w1 hr (by omega)).mono ?_
  rintro e w2 ⟨x, y, rfl, hx, hy, hr2, _⟩
  go_wp2_with fail
  refine (pick w r _ 250 w2 (by omega) hr2).mono ?_
  rintro e w3 ⟨u, rfl, u0, u1, hr3, _⟩
  have u2 := u1 (by omega)
  clear u1
  by_cases hB : Pl.baseB y = true
  · go_wp2_with (go_at_call 44; refine (specBaseOk _ _).mono ?_; rintro e w' ⟨rfl, rfl⟩; rw [hB])
    refine (pick w r _ 2 w3 (by omega) hr3).mono ?_
    rintro e w4 ⟨v, rfl, v0, v1, hr4, _⟩
    have v2 := v1 (by omega)
    clear v1
    by_cases hv : v = 0
    · subst hv
      obtain ⟨k, rfl, hk1, hk2⟩ := baseB_nat hB
      obtain ⟨m, hm⟩ : ∃ m : Nat, u * 40 = (m : Int) := ⟨(u * 40).toNat, by omega⟩
      have hm2 : m ≤ 1000000000 := by omega
      have HT : Hid (∀ W : World, Calls Try.prog 45 #[.int .i64 (u * 40), .int .i64 k] W fun e w' => e = .returned (.int .i64 ((Pl.turnN k m : Nat) : Int)) ∧ W = w') := Lib.hid (by rw [hm]; exact l6Turned m k hk1 hk2 hm2)
      obtain ⟨r1, r2⟩ := behind_range (m : Int) ((Pl.turnN k m : Nat) : Int) k
      have HBE : Hid (∀ W : World, Calls Try.prog 49 #[.int .i64 (u * 40), .int .i64 ((Pl.turnN k m : Nat) : Int), .int .i64 k] W fun e w' => e = .returned (.tuple #[.int .i64 (Pl.wV (behindO m ((Pl.turnN k m : Nat) : Int) k)), .bool (Pl.wB (behindO m ((Pl.turnN k m : Nat) : Int) k))]) ∧ Below W.heap.size W w') := Lib.hid (by rw [hm]; exact specBehindOf (m : Int) ((Pl.turnN k m : Nat) : Int) k)
      clear hm hm2
      generalize Pl.wV (behindO (m : Int) ((Pl.turnN k m : Nat) : Int) k) = V at *
      generalize Pl.wB (behindO (m : Int) ((Pl.turnN k m : Nat) : Int) k) = G at *
      generalize ((Pl.turnN k m : Nat) : Int) = T at *
      clear h
      go_wp2_with (go_at_call 45; refine (HT.out _).mono ?_; rintro e w' ⟨rfl, rfl⟩)
      refine (HBE.out _).mono ?_
      rintro e w5 ⟨rfl, b5⟩
      have hb5 : Below w.heap.size w w5 := hr4.below.trans (b5.mono hr4.below.size)
      cases G
      · go_wp2
        go_ret2
        exact ⟨x, k, rfl, hx, hy, hb5⟩
      · go_wp2
        go_ret2
        exact ⟨V, k, rfl, by omega, hy, hb5⟩
    · have hv' : (v == 0) = false := by simpa using hv
      go_wp2
      go_ret2
      exact ⟨x, y, rfl, hx, hy, hr4.below⟩
  · have hB' : Pl.baseB y = false := by simpa using hB
    clear hB
    go_wp2_with (go_at_call 44; refine (specBaseOk _ _).mono ?_; rintro e w' ⟨rfl, rfl⟩; rw [hB'])
    go_ret2
    exact ⟨x, y, rfl, hx, hy, hr3.below⟩

/-- A number of digits and a base. -/
def LongDraw (w : World) (e : Ending) (w' : World) : Prop :=
  ∃ x y : Int, e = .returned (.tuple #[.int .i64 x, .int .i64 y]) ∧ (-10 ≤ x ∧ x ≤ 10) ∧ (-20 ≤ y ∧ y ≤ 40) ∧ Below w.heap.size w w'

set_option maxHeartbeats 1000000 in
theorem drawCountPalindromes (a : Option Addr) (len cap : Nat) (z : List Int) (w : World) (h : IsRow .u8 w a len cap z) :
    Calls Try.prog 24 #[.slice a len cap] w (LongDraw w) := by
  go_enter Try.func24, Try.ntmps24
  go_wp2_with (go_at_call 38; refine (l20Open _ _ _ _ _ h).mono ?_; rintro e w1 ⟨r, rfl, hr⟩)
  refine (pick w r _ 3 w1 (by omega) hr).mono ?_
  rintro e w2 ⟨u, rfl, u0, u1, hr2, _⟩
  have u2 := u1 (by omega)
  clear u1
  go_wp2_with fail
  refine (pick w r _ 20 w2 (by omega) hr2).mono ?_
  rintro e w3 ⟨v, rfl, v0, v1, hr3, _⟩
  have v2 := v1 (by omega)
  clear v1
  have v3 : 0 ≤ v / 19 ∧ v / 19 ≤ 1 := by omega
  go_wp2_with fail
  refine (pick w r _ 30 w3 (by omega) hr3).mono ?_
  rintro e w4 ⟨s, rfl, s0, s1, hr4, _⟩
  have s2 := s1 (by omega)
  clear s1
  have s3 : 0 ≤ s / 29 ∧ s / 29 ≤ 1 := by omega
  go_wp2_with fail
  refine (l20Base w r _ w4 hr4 (by omega)).mono ?_
  rintro e w5 ⟨y, rfl, y1, y2, hr5, _⟩
  go_wp2
  go_ret2
  exact ⟨_, y, rfl, by constructor <;> omega, by omega, hr5.below⟩

set_option maxRecDepth 100000 in
set_option maxHeartbeats 1000000 in
theorem drawNextPalindrome (a : Option Addr) (len cap : Nat) (z : List Int) (w : World) (h : IsRow .u8 w a len cap z) :
    Calls Try.prog 27 #[.slice a len cap] w (BothPost w) := by
  go_enter Try.func27, Try.ntmps27
  go_wp2_with (go_at_call 38; refine (l20Open _ _ _ _ _ h).mono ?_; rintro e w1 ⟨r, rfl, hr⟩)
  refine wp_region_reckon (q0 := 0) (table2 w r) [(4, .ptr)] mixed (by kernel_rfl) ?_ hr (by simp) ?_
  · intro t s h
    rw [look_one] at h
    obtain ⟨rfl, rfl⟩ := h
    rfl
  · intro f W hin hold hR' hO
    obtain ⟨x, hx, x1, x2⟩ := hin 2 (.int (-1) 999999) (by kernel_rfl)
    obtain ⟨y, hy, y1, y2⟩ := hin 3 (.int (-20) 40) (by kernel_rfl)
    simp only [List.size_toArray, List.length_cons, List.length_nil, Nat.reduceAdd, List.range, List.range.loop, List.map_cons, List.map_nil]
    rw [hx, hy]
    go_wp2
    go_ret2
    exact ⟨x, y, rfl, by omega, by omega, hR'.below⟩

set_option maxRecDepth 100000 in
set_option maxHeartbeats 1000000 in
theorem drawStepsToPalindrome (a : Option Addr) (len cap : Nat) (z : List Int) (w : World) (h : IsRow .u8 w a len cap z) :
    Calls Try.prog 34 #[.slice a len cap] w (BothPost w) := by
  go_enter Try.func34, Try.ntmps34
  go_wp2_with (go_at_call 38; refine (l20Open _ _ _ _ _ h).mono ?_; rintro e w1 ⟨r, rfl, hr⟩)
  refine wp_region_reckon (q0 := 0) (table2 w r) [(4, .ptr)] mixed (by kernel_rfl) ?_ hr (by simp) ?_
  · intro t s h
    rw [look_one] at h
    obtain ⟨rfl, rfl⟩ := h
    rfl
  · intro f W hin hold hR' hO
    obtain ⟨x, hx, x1, x2⟩ := hin 2 (.int (-2000000000) 2000000000) (by kernel_rfl)
    obtain ⟨y, hy, y1, y2⟩ := hin 3 (.int (-20) 40) (by kernel_rfl)
    simp only [List.size_toArray, List.length_cons, List.length_nil, Nat.reduceAdd, List.range, List.range.loop, List.map_cons, List.map_nil]
    rw [hx, hy]
    go_wp2
    go_ret2
    exact ⟨x, y, rfl, by omega, by omega, hR'.below⟩

end Go.Proofs.Ytaocefdannjlhaa
