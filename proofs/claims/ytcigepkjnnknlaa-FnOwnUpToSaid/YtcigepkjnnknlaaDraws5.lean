/-
  The drawing functions of chapter 4.
-/
import Derived.Test.YtcigepkjnnknlaaDraws
import Derived.Test.YtcigepkjnnknlaaDrawOver
namespace Go.Proofs.Ytcigepkjnnknlaa
open Go.RowKit Go.Shelf

theorem look_two {d e t : Nat} {s s' u : Sp} (h : List.lookup t [(d, s), (e, u)] = some s') : (t = d ∧ s' = s) ∨ (t = e ∧ s' = u) := by
  simp only [List.lookup] at h
  by_cases h1 : t = d
  · subst h1; simp at h; exact .inl ⟨rfl, h.symm⟩
  · rw [beq_eq_false_iff_ne.2 h1] at h
    by_cases h2 : t = e
    · subst h2; simp at h; exact .inr ⟨rfl, h.symm⟩
    · rw [beq_eq_false_iff_ne.2 h2] at h; simp at h

/-- A number, a rule and a base, out of the reader. -/
def OwnPost (w0 : World) (r q : Nat) (w : World) (e : Ending) (w' : World) : Prop :=
  ∃ n t y : Int, e = .returned (.tuple #[.int .i64 n, .int .i64 t, .int .i64 y]) ∧ (0 ≤ n ∧ n ≤ 4000) ∧ (0 ≤ t ∧ t ≤ 10) ∧ (0 ≤ y ∧ y ≤ 20) ∧ Rd w0 r q w' ∧ Only r w w'

set_option maxRecDepth 100000 in
set_option maxHeartbeats 2000000 in
theorem l20Own (w0 : World) (r q : Nat) (w : World) (hR : Rd w0 r q w) (hq : q ≤ 40000) :
    Calls Try.prog 30 #[.pointer (some ⟨r, 0, none⟩)] w (OwnPost w0 r (q + 50) w) := by
  go_enter Try.func30, Try.ntmps30
  go_wp2_with fail
  refine wp_region_reckon (q0 := q) (table1 w0 r) [(0, .ptr)] mixed (by kernel_rfl) ?_ hR (by simp; omega) ?_
  · intro t s h
    rw [look_one] at h
    obtain ⟨rfl, rfl⟩ := h
    rfl
  · intro f W hin hold hR' hO
    obtain ⟨x, hx, x1, x2⟩ := hin 5 (.int 0 3992) (by kernel_rfl)
    have hp : f 0 = .pointer (some ⟨r, 0, none⟩) := hold 0 (by decide)
    simp only [List.size_toArray, List.length_cons, List.length_nil, Nat.reduceAdd, List.range, List.range.loop, List.map_cons, List.map_nil]
    rw [hx, hp]
    clear hin hold hR
    generalize f 1 = f1, f 2 = f2, f 3 = f3, f 4 = f4, f 6 = f6, f 7 = f7, f 8 = f8, f 9 = f9, f 10 = f10, f 11 = f11, f 12 = f12, f 13 = f13, f 14 = f14, f 15 = f15, f 16 = f16, f 17 = f17, f 18 = f18, f 19 = f19, f 20 = f20,
      f 21 = f21, f 22 = f22, f 23 = f23, f 24 = f24, f 25 = f25, f 26 = f26, f 27 = f27, f 28 = f28, f 29 = f29, f 30 = f30, f 31 = f31, f 32 = f32, f 33 = f33, f 34 = f34, f 35 = f35, f 36 = f36, f 37 = f37, f 38 = f38, f 39 = f39, f 40 = f40
    clear hx hp
    go_wp2_with fail
    refine wp_region_reckon (table1 w0 r) [(0, .ptr), (5, .int 0 3992)] mixed (by kernel_rfl) ?_ hR' (by simp; omega) ?_
    · intro t s h
      rcases look_two h with ⟨rfl, rfl⟩ | ⟨rfl, rfl⟩
      · rfl
      · exact ⟨x, rfl, x1, x2⟩
    · intro g W2 hin2 hold2 hR2 hO2
      obtain ⟨n, hn, n1, n2⟩ := hin2 2 (.int 0 3992) (by kernel_rfl)
      obtain ⟨t, ht, t1, t2⟩ := hin2 3 (.int 0 5) (by kernel_rfl)
      obtain ⟨y, hy, y1, y2⟩ := hin2 4 (.int 0 13) (by kernel_rfl)
      simp only [List.size_toArray, List.length_cons, List.length_nil, Nat.reduceAdd, List.range, List.range.loop, List.map_cons, List.map_nil]
      rw [hn, ht, hy]
      go_wp2
      (try simp only [Exit.inBlock, Exit.then])
      refine bodyPost_ret (results_tmp3 rfl _ _ _) rfl ?_
      exact ⟨n, t, y, rfl, by omega, by omega, by omega, hR2.le (by simp), hO.trans hO2⟩

/-- A number, a rule and a base. -/
def OwnDraw (w : World) (e : Ending) (w' : World) : Prop :=
  ∃ n t y : Int, e = .returned (.tuple #[.int .i64 n, .int .i64 t, .int .i64 y]) ∧ (-10 ≤ n ∧ n ≤ 4000) ∧ (0 ≤ t ∧ t ≤ 10) ∧ (0 ≤ y ∧ y ≤ 20) ∧ Below w.heap.size w w'

set_option maxHeartbeats 400000 in
theorem drawOwnSum (a : Option Addr) (len cap : Nat) (z : List Int) (w : World) (h : IsRow .u8 w a len cap z) :
    Calls Try.prog 11 #[.slice a len cap] w (OwnDraw w) := by
  go_enter Try.func11, Try.ntmps11
  go_wp2_with (go_at_call 31; refine (l20Open _ _ _ _ _ h).mono ?_; rintro e w1 ⟨r, rfl, hr⟩)
  refine (l20Own w r 0 w1 hr (by omega)).mono ?_
  rintro e w2 ⟨n, t, y, rfl, hn, ht, hy, hr2, _⟩
  go_wp2
  go_ret3
  exact ⟨n, t, y, rfl, by omega, ht, hy, hr2.below⟩

set_option maxHeartbeats 400000 in
theorem drawOwnOk (a : Option Addr) (len cap : Nat) (z : List Int) (w : World) (h : IsRow .u8 w a len cap z) :
    Calls Try.prog 16 #[.slice a len cap] w (OwnDraw w) := by
  go_enter Try.func16, Try.ntmps16
  go_wp2_with (go_at_call 31; refine (l20Open _ _ _ _ _ h).mono ?_; rintro e w1 ⟨r, rfl, hr⟩)
  refine (l20Own w r 0 w1 hr (by omega)).mono ?_
  rintro e w2 ⟨n, t, y, rfl, hn, ht, hy, hr2, _⟩
  go_wp2
  go_ret3
  exact ⟨n, t, y, rfl, by omega, ht, hy, hr2.below⟩

set_option maxHeartbeats 400000 in
theorem drawOwnSteps (a : Option Addr) (len cap : Nat) (z : List Int) (w : World) (h : IsRow .u8 w a len cap z) :
    Calls Try.prog 24 #[.slice a len cap] w (OwnDraw w) := by
  go_enter Try.func24, Try.ntmps24
  go_wp2_with (go_at_call 31; refine (l20Open _ _ _ _ _ h).mono ?_; rintro e w1 ⟨r, rfl, hr⟩)
  refine (l20Own w r 0 w1 hr (by omega)).mono ?_
  rintro e w2 ⟨n, t, y, rfl, hn, ht, hy, hr2, _⟩
  go_wp2
  go_ret3
  exact ⟨n, t, y, rfl, by omega, ht, hy, hr2.below⟩

set_option maxRecDepth 100000 in
set_option maxHeartbeats 1000000 in
theorem drawOwnUpTo (a : Option Addr) (len cap : Nat) (z : List Int) (w : World) (h : IsRow .u8 w a len cap z) :
    Calls Try.prog 19 #[.slice a len cap] w (OwnDraw w) := by
  go_enter Try.func19, Try.ntmps19
  go_wp2_with (go_at_call 31; refine (l20Open _ _ _ _ _ h).mono ?_; rintro e w1 ⟨r, rfl, hr⟩)
  refine (l20Own w r 0 w1 hr (by omega)).mono ?_
  rintro e w2 ⟨n, t, y, rfl, hn, ht, hy, hr2, _⟩
  go_wp2_with fail
  refine (pick w r _ 60 w2 (by omega) hr2).mono ?_
  rintro e w3 ⟨u, rfl, u0, u1, hr3, _⟩
  have u2 := u1 (by omega)
  clear u1
  go_wp2_with fail
  refine (pick w r _ 250 w3 (by omega) hr3).mono ?_
  rintro e w4 ⟨v, rfl, v0, v1, hr4, _⟩
  have v2 := v1 (by omega)
  clear v1
  go_wp2_with fail
  have hr5 := hr4.over ((Below.refl (r + 1) w4).alloc (by have := hr4.lt; omega) (.cells #[.int .i64 u, .int .i64 v, .int .i64 2000, .int .i64 (-1)] 3))
  refine (pick w r _ 9 _ (by omega) hr5).mono ?_
  rintro e w5 ⟨i, rfl, i0, i1, hr6, hO6⟩
  have i2 := i1 (by omega)
  clear i1
  have hlt := hr4.lt
  have c0 : w5.cell? ⟨w4.heap.size, 0, none⟩ = some (.int .i64 u) := hO6.cell (by rw [World.cell?_alloc_new]; rfl) (by simp; omega)
  have c1 : w5.cell? ⟨w4.heap.size, 1, none⟩ = some (.int .i64 v) := hO6.cell (by rw [World.cell?_alloc_new]; rfl) (by simp; omega)
  have c2 : w5.cell? ⟨w4.heap.size, 2, none⟩ = some (.int .i64 2000) := hO6.cell (by rw [World.cell?_alloc_new]; rfl) (by simp; omega)
  have c3 : w5.cell? ⟨w4.heap.size, 3, none⟩ = some (.int .i64 (-1)) := hO6.cell (by rw [World.cell?_alloc_new]; rfl) (by simp; omega)
  go_wp2_with fail
  refine (pick w r _ 20 _ (by omega) hr6).mono ?_
  rintro e w6 ⟨j, rfl, j0, j1, hr7, hO7⟩
  have j2 := j1 (by omega)
  clear j1
  have hlt5 := hr6.lt
  have d0 := hO7.cell (p := ⟨w4.heap.size, 0, none⟩) c0 (by simp; omega)
  have d1 := hO7.cell (p := ⟨w4.heap.size, 1, none⟩) c1 (by simp; omega)
  have d2 := hO7.cell (p := ⟨w4.heap.size, 2, none⟩) c2 (by simp; omega)
  have d3 := hO7.cell (p := ⟨w4.heap.size, 3, none⟩) c3 (by simp; omega)
  have hi3 : 0 ≤ i / 3 ∧ i / 3 ≤ 2 := by omega
  have hj3 : 0 ≤ j / 19 ∧ j / 19 ≤ 1 := by omega
  obtain ⟨X, hX, X0, X1⟩ : ∃ X : Int, w6.cell? ⟨w4.heap.size, (i / 3 + j / 19).toNat, none⟩ = some (.int .i64 X) ∧ -10 ≤ X ∧ X ≤ 4000 := by
    rcases (show (i / 3 + j / 19).toNat = 0 ∨ (i / 3 + j / 19).toNat = 1 ∨ (i / 3 + j / 19).toNat = 2 ∨ (i / 3 + j / 19).toNat = 3 by omega) with h | h | h | h
    all_goals rw [h]
    · exact ⟨u, d0, by omega, by omega⟩
    · exact ⟨v, d1, by omega, by omega⟩
    · exact ⟨2000, d2, by omega, by omega⟩
    · exact ⟨-1, d3, by omega, by omega⟩
  have h9 : 0 ≤ i / 3 + j / 19 ∧ i / 3 + j / 19 < 4 := by omega
  clear c0 c1 c2 c3 d0 d1 d2 d3 hr hr2 hr3 hr4 hr5 hr6 hO6 hO7
  go_wp2
  go_ret3
  exact ⟨X, t, y, rfl, ⟨X0, X1⟩, ht, hy, hr7.below⟩

end Go.Proofs.Ytcigepkjnnknlaa
