/-
  The drawing functions of chapter 5: a number, a width and a base.
-/
import Derived.Test.YtepkneeedkmaoaaDraws
import Derived.Test.YtepkneeedkmaoaaDrawOver
import Derived.Test.YtepkneeedkmaoaaWide
namespace Go.Proofs.Ytepkneeedkmaoaa
open Go.RowKit Go.Shelf

/-- A number, a width and a base, out of the reader. -/
def WidePost (w0 : World) (r q : Nat) (w : World) (e : Ending) (w' : World) : Prop :=
  ∃ n t y : Int, e = .returned (.tuple #[.int .i64 n, .int .i64 t, .int .i64 y]) ∧ (-3000000 ≤ n ∧ n ≤ 1000000) ∧ (0 ≤ t ∧ t ≤ 11) ∧ (-20 ≤ y ∧ y ≤ 40) ∧ Rd w0 r q w' ∧ Only r w w'

set_option maxRecDepth 100000 in
set_option maxHeartbeats 4000000 in
theorem l20Wide (w0 : World) (r q : Nat) (w : World) (hR : Rd w0 r q w) (hq : q ≤ 40000) :
    Calls Try.prog 40 #[.pointer (some ⟨r, 0, none⟩)] w (WidePost w0 r (q + 200) w) := by
  go_enter Try.func40, Try.ntmps40
  go_wp2_with fail
  refine wp_region_reckon (q0 := q) (table1 w0 r) [(0, .ptr)] mixed (by kernel_rfl) ?_ hR (by simp; omega) ?_
  · intro t s h
    rw [look_one] at h
    obtain ⟨rfl, rfl⟩ := h
    rfl
  · intro f W hin hold hR' hO
    obtain ⟨t, ht, t1, t2⟩ := hin 5 (.int 0 11) (by kernel_rfl)
    have hp : f 0 = .pointer (some ⟨r, 0, none⟩) := hold 0 (by decide)
    simp only [List.size_toArray, List.length_cons, List.length_nil, Nat.reduceAdd, List.range, List.range.loop, List.map_cons, List.map_nil]
    rw [ht, hp]
    clear hin hold hR
    generalize f 1 = f1, f 2 = f2, f 3 = f3, f 4 = f4, f 6 = f6, f 7 = f7, f 8 = f8, f 9 = f9, f 10 = f10, f 11 = f11, f 12 = f12, f 13 = f13, f 14 = f14, f 15 = f15, f 16 = f16, f 17 = f17, f 18 = f18, f 19 = f19, f 20 = f20,
      f 21 = f21, f 22 = f22, f 23 = f23, f 24 = f24, f 25 = f25, f 26 = f26, f 27 = f27, f 28 = f28, f 29 = f29, f 30 = f30, f 31 = f31, f 32 = f32, f 33 = f33, f 34 = f34, f 35 = f35, f 36 = f36, f 37 = f37, f 38 = f38, f 39 = f39, f 40 = f40,
      f 41 = f41, f 42 = f42, f 43 = f43, f 44 = f44, f 45 = f45, f 46 = f46, f 47 = f47, f 48 = f48, f 49 = f49, f 50 = f50, f 51 = f51, f 52 = f52, f 53 = f53, f 54 = f54, f 55 = f55
    clear ht hp
    have hR0 : Rd w0 r (q + 50) W := hR'.le (by simp)
    clear hR'
    go_wp2_with fail
    refine (l20Base w0 r _ W hR0 (by omega)).mono ?_
    rintro e w1 ⟨y, rfl, y1, y2, hR1, hO1⟩
    go_wp2_with fail
    refine (pick w0 r _ 250 w1 (by omega) hR1).mono ?_
    rintro e w2 ⟨u, rfl, u0, u1, hR2, hO2⟩
    have u2 := u1 (by omega)
    clear u1
    go_wp2_with fail
    refine (pick w0 r _ 250 w2 (by omega) hR2).mono ?_
    rintro e w3 ⟨v, rfl, v0, v1, hR3, hO3⟩
    have v2 := v1 (by omega)
    clear v1
    obtain ⟨P, hP⟩ : ∃ P, u * v = P := ⟨_, rfl⟩
    have P0 : 0 ≤ P := by rw [← hP]; exact Int.mul_nonneg u0 v0
    have P1 : P ≤ 62001 := by
      have h1 : u * v ≤ 249 * 249 := Int.mul_le_mul (by omega) (by omega) v0 (by omega)
      omega
    have hPw : IntKind.i64.wrap (u * v) = P := by rw [hP]; exact IntWalk.i64_in _ (by omega)
    clear hP
    go_wp2_with fail
    refine (pick w0 r _ 250 w3 (by omega) hR3).mono ?_
    rintro e w4 ⟨c, rfl, c0, c1, hR4, hO4⟩
    have c2 := c1 (by omega)
    have hOa := ((((hO.trans hO1).trans hO2).trans hO3).trans hO4)
    clear c1 hO hO1 hO2 hO3 hO4 hR0 hR1 hR2 hR3
    obtain ⟨N, hN⟩ : ∃ N, P * 16 + c = N := ⟨_, rfl⟩
    have N0 : 0 ≤ N := by omega
    have N1 : N ≤ 1000000 := by omega
    have hNw : IntKind.i64.wrap (P * 16 + c) = N := by rw [hN]; exact IntWalk.i64_in _ (by omega)
    by_cases hAB : (decide (2 ≤ t) && decide (t ≤ 6)) = true ∧ Pl.baseB y = true
    · obtain ⟨hA, hB⟩ := hAB
      have hA' := hA
      simp at hA'
      have hB' := (Pl.baseB_iff y).1 hB
      obtain ⟨T, rfl⟩ : ∃ T : Nat, t = (T : Int) := ⟨t.toNat, by omega⟩
      obtain ⟨Y, rfl⟩ : ∃ Y : Nat, y = (Y : Int) := ⟨y.toNat, by omega⟩
      have HPW := Lib.hid (basePower Y T (by omega) (by omega))
      have hpos : 1 ≤ Y ^ T := by
        have := Nat.pow_le_pow_left (show 1 ≤ Y by omega) T
        rwa [Nat.one_pow] at this
      have hle := Pl.pow_le24 (b := Y) (w := T) (by omega) (by omega)
      clear hA'
      generalize Y ^ T = M at *
      have hM0 : ((M : Int) == 0) = false := by simp; omega
      obtain ⟨K, hK⟩ : ∃ K, N % (M : Int) = K := ⟨_, rfl⟩
      have r0 : 0 ≤ K := by rw [← hK]; exact Int.emod_nonneg _ (by omega)
      have r2 : K ≤ N := by
        have h1 := Int.mul_ediv_add_emod N (M : Int)
        have h2 : 0 ≤ (M : Int) * (N / (M : Int)) := Int.mul_nonneg (by omega) (Int.ediv_nonneg N0 (by omega))
        rw [hK] at h1
        omega
      have h1 : 0 ≤ (M : Int) := by omega
      have h2 : 1 ≤ (M : Int) := by omega
      go_wp2_with (first | (go_at_call 43; refine (specIn _ _ _ _).mono ?_; rintro e w' ⟨rfl, rfl⟩; rw [hA]) | (go_at_call 44; refine (specBaseOk _ _).mono ?_; rintro e w' ⟨rfl, rfl⟩; rw [hB]))
      refine (pick w0 r _ 9 w4 (by omega) hR4).mono ?_
      rintro e w5 ⟨j, rfl, j0, j1, hR5, hO5⟩
      have j2 := j1 (by omega)
      clear j1
      have hOk := hOa.trans hO5
      by_cases hj : 0 < j
      · go_wp2_with (go_at_call 45; refine (HPW.out _).mono ?_; rintro e w' ⟨rfl, rfl⟩)
        refine (pick w0 r _ 12 _ (by omega) hR5).mono ?_
        rintro e w6 ⟨s, rfl, s0, s1, hR6, hO6⟩
        have s2 := s1 (by omega)
        clear s1
        by_cases hs : s = 0
        all_goals
          have hs' : (s == 0) = decide (s = 0) := rfl
          simp only [hs, decide_true, decide_false] at hs'
          go_wp2_with fail
          refine (pick w0 r _ 50 _ (by omega) hR6).mono ?_
          rintro e w7 ⟨l, rfl, l0, l1, hR7, hO7⟩
          have l2 := l1 (by omega)
          clear l1
          go_wp2
          go_ret3
          exact ⟨_, _, _, rfl, by constructor <;> omega, by constructor <;> omega, by constructor <;> omega, hR7.le (by omega), (hOk.trans hO6).trans hO7⟩
      · go_wp2_with fail
        refine (pick w0 r _ 12 _ (by omega) hR5).mono ?_
        rintro e w6 ⟨s, rfl, s0, s1, hR6, hO6⟩
        have s2 := s1 (by omega)
        clear s1
        by_cases hs : s = 0
        all_goals
          have hs' : (s == 0) = decide (s = 0) := rfl
          simp only [hs, decide_true, decide_false] at hs'
          go_wp2_with fail
          refine (pick w0 r _ 50 _ (by omega) hR6).mono ?_
          rintro e w7 ⟨l, rfl, l0, l1, hR7, hO7⟩
          have l2 := l1 (by omega)
          clear l1
          go_wp2
          go_ret3
          exact ⟨_, _, _, rfl, by constructor <;> omega, by constructor <;> omega, by constructor <;> omega, hR7.le (by omega), (hOk.trans hO6).trans hO7⟩
    · by_cases hA : (decide (2 ≤ t) && decide (t ≤ 6)) = true
      · have hB : Pl.baseB y = false := by
          refine Bool.eq_false_iff.2 fun h => hAB ⟨hA, h⟩
        clear hAB
        go_wp2_with (first | (go_at_call 43; refine (specIn _ _ _ _).mono ?_; rintro e w' ⟨rfl, rfl⟩; rw [hA]) | (go_at_call 44; refine (specBaseOk _ _).mono ?_; rintro e w' ⟨rfl, rfl⟩; rw [hB]))
        refine (pick w0 r _ 12 _ (by omega) hR4).mono ?_
        rintro e w6 ⟨s, rfl, s0, s1, hR6, hO6⟩
        have s2 := s1 (by omega)
        clear s1
        by_cases hs : s = 0
        all_goals
          have hs' : (s == 0) = decide (s = 0) := rfl
          simp only [hs, decide_true, decide_false] at hs'
          go_wp2_with fail
          refine (pick w0 r _ 50 _ (by omega) hR6).mono ?_
          rintro e w7 ⟨l, rfl, l0, l1, hR7, hO7⟩
          have l2 := l1 (by omega)
          clear l1
          go_wp2
          go_ret3
          exact ⟨_, _, _, rfl, by constructor <;> omega, by constructor <;> omega, by constructor <;> omega, hR7.le (by omega), (hOa.trans hO6).trans hO7⟩
      · have hA' : (decide (2 ≤ t) && decide (t ≤ 6)) = false := by simpa using hA
        clear hAB hA
        go_wp2_with (first | (go_at_call 43; refine (specIn _ _ _ _).mono ?_; rintro e w' ⟨rfl, rfl⟩; rw [hA']))
        refine (pick w0 r _ 12 _ (by omega) hR4).mono ?_
        rintro e w6 ⟨s, rfl, s0, s1, hR6, hO6⟩
        have s2 := s1 (by omega)
        clear s1
        by_cases hs : s = 0
        all_goals
          have hs' : (s == 0) = decide (s = 0) := rfl
          simp only [hs, decide_true, decide_false] at hs'
          go_wp2_with fail
          refine (pick w0 r _ 50 _ (by omega) hR6).mono ?_
          rintro e w7 ⟨l, rfl, l0, l1, hR7, hO7⟩
          have l2 := l1 (by omega)
          clear l1
          go_wp2
          go_ret3
          exact ⟨_, _, _, rfl, by constructor <;> omega, by constructor <;> omega, by constructor <;> omega, hR7.le (by omega), (hOa.trans hO6).trans hO7⟩

/-- A number, a width and a base. -/
def WideDraw (w : World) (e : Ending) (w' : World) : Prop :=
  ∃ n t y : Int, e = .returned (.tuple #[.int .i64 n, .int .i64 t, .int .i64 y]) ∧ (-3000000 ≤ n ∧ n ≤ 1000000) ∧ (0 ≤ t ∧ t ≤ 11) ∧ (-20 ≤ y ∧ y ≤ 40) ∧ Below w.heap.size w w'

set_option maxHeartbeats 400000 in
theorem drawWideOk (a : Option Addr) (len cap : Nat) (z : List Int) (w : World) (h : IsRow .u8 w a len cap z) :
    Calls Try.prog 15 #[.slice a len cap] w (WideDraw w) := by
  go_enter Try.func15, Try.ntmps15
  go_wp2_with (go_at_call 41; refine (l20Open _ _ _ _ _ h).mono ?_; rintro e w1 ⟨r, rfl, hr⟩)
  refine (l20Wide w r 0 w1 hr (by omega)).mono ?_
  rintro e w2 ⟨n, t, y, rfl, hn, ht, hy, hr2, _⟩
  go_wp2
  go_ret3
  exact ⟨n, t, y, rfl, hn, ht, hy, hr2.below⟩

set_option maxHeartbeats 400000 in
theorem drawDownOf (a : Option Addr) (len cap : Nat) (z : List Int) (w : World) (h : IsRow .u8 w a len cap z) :
    Calls Try.prog 20 #[.slice a len cap] w (WideDraw w) := by
  go_enter Try.func20, Try.ntmps20
  go_wp2_with (go_at_call 41; refine (l20Open _ _ _ _ _ h).mono ?_; rintro e w1 ⟨r, rfl, hr⟩)
  refine (l20Wide w r 0 w1 hr (by omega)).mono ?_
  rintro e w2 ⟨n, t, y, rfl, hn, ht, hy, hr2, _⟩
  go_wp2
  go_ret3
  exact ⟨n, t, y, rfl, hn, ht, hy, hr2.below⟩

set_option maxHeartbeats 400000 in
theorem drawUpOf (a : Option Addr) (len cap : Nat) (z : List Int) (w : World) (h : IsRow .u8 w a len cap z) :
    Calls Try.prog 25 #[.slice a len cap] w (WideDraw w) := by
  go_enter Try.func25, Try.ntmps25
  go_wp2_with (go_at_call 41; refine (l20Open _ _ _ _ _ h).mono ?_; rintro e w1 ⟨r, rfl, hr⟩)
  refine (l20Wide w r 0 w1 hr (by omega)).mono ?_
  rintro e w2 ⟨n, t, y, rfl, hn, ht, hy, hr2, _⟩
  go_wp2
  go_ret3
  exact ⟨n, t, y, rfl, hn, ht, hy, hr2.below⟩

set_option maxHeartbeats 400000 in
theorem drawLeftOf (a : Option Addr) (len cap : Nat) (z : List Int) (w : World) (h : IsRow .u8 w a len cap z) :
    Calls Try.prog 27 #[.slice a len cap] w (WideDraw w) := by
  go_enter Try.func27, Try.ntmps27
  go_wp2_with (go_at_call 41; refine (l20Open _ _ _ _ _ h).mono ?_; rintro e w1 ⟨r, rfl, hr⟩)
  refine (l20Wide w r 0 w1 hr (by omega)).mono ?_
  rintro e w2 ⟨n, t, y, rfl, hn, ht, hy, hr2, _⟩
  go_wp2
  go_ret3
  exact ⟨n, t, y, rfl, hn, ht, hy, hr2.below⟩

set_option maxHeartbeats 400000 in
theorem drawLeftRound (a : Option Addr) (len cap : Nat) (z : List Int) (w : World) (h : IsRow .u8 w a len cap z) :
    Calls Try.prog 31 #[.slice a len cap] w (WideDraw w) := by
  go_enter Try.func31, Try.ntmps31
  go_wp2_with (go_at_call 41; refine (l20Open _ _ _ _ _ h).mono ?_; rintro e w1 ⟨r, rfl, hr⟩)
  refine (l20Wide w r 0 w1 hr (by omega)).mono ?_
  rintro e w2 ⟨n, t, y, rfl, hn, ht, hy, hr2, _⟩
  go_wp2
  go_ret3
  exact ⟨n, t, y, rfl, hn, ht, hy, hr2.below⟩

set_option maxHeartbeats 400000 in
theorem drawAlikeOk (a : Option Addr) (len cap : Nat) (z : List Int) (w : World) (h : IsRow .u8 w a len cap z) :
    Calls Try.prog 35 #[.slice a len cap] w (WideDraw w) := by
  go_enter Try.func35, Try.ntmps35
  go_wp2_with (go_at_call 41; refine (l20Open _ _ _ _ _ h).mono ?_; rintro e w1 ⟨r, rfl, hr⟩)
  refine (l20Wide w r 0 w1 hr (by omega)).mono ?_
  rintro e w2 ⟨n, t, y, rfl, hn, ht, hy, hr2, _⟩
  go_wp2
  go_ret3
  exact ⟨n, t, y, rfl, hn, ht, hy, hr2.below⟩

end Go.Proofs.Ytepkneeedkmaoaa
