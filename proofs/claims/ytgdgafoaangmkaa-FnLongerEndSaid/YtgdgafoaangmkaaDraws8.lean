/-
  The drawing functions of chapter 7.
-/
import Derived.Test.YtgdgafoaangmkaaDraws5
import Derived.Test.YtgdgafoaangmkaaSpecEnds
import Derived.Test.YtgdgafoaangmkaaRowFacts
namespace Go.Proofs.Ytgdgafoaangmkaa
open Go.RowKit Go.Shelf

theorem Pl.endsA_range (l b : Int) (j : Nat) : 0 ≤ (Pl.endsA l b)[j]?.getD 0 ∧ (Pl.endsA l b)[j]?.getD 0 ≤ 65535 := by
  by_cases h : Pl.endsOk l b = true
  · obtain ⟨L, k, rfl, rfl, h1, h2, h3, h4⟩ := Pl.endsOk_nat h
    have hP := Pl.pow_le16 (b := k) (L := L) h4 h2
    rw [Pl.endsA_yes h, List.getElem?_map]
    cases hx : (Pl.endsF (k ^ L))[j]? with
    | none => simp
    | some x =>
      have hm := (Pl.mem_endsF.1 (List.mem_of_getElem? hx)).1
      simp only [Option.map_some, Option.getD_some]
      omega
  · rw [Pl.endsA_no h]; simp

theorem Pl.endsA_len (l b : Int) : (Pl.endsA l b).length ≤ 65536 := by
  by_cases h : Pl.endsOk l b = true
  · obtain ⟨L, k, rfl, rfl, h1, h2, h3, h4⟩ := Pl.endsOk_nat h
    have hP := Pl.pow_le16 (b := k) (L := L) h4 h2
    have hl := Pl.endsTo_len (k ^ L) (k ^ L)
    rw [Pl.endsTo_all] at hl
    rw [Pl.endsA_yes h, List.length_map]; omega
  · rw [Pl.endsA_no h]; simp

/-- A number, a number of digits and a base, out of the reader. -/
def EndPost (w0 : World) (r q : Nat) (e : Ending) (w' : World) : Prop :=
  ∃ n t y : Int, e = .returned (.tuple #[.int .i64 n, .int .i64 t, .int .i64 y]) ∧ (-9 ≤ n ∧ n ≤ 65535) ∧ (-3 ≤ t ∧ t ≤ 5) ∧ (0 ≤ y ∧ y ≤ 25) ∧ Rd w0 r q w'

set_option maxRecDepth 100000 in
set_option maxHeartbeats 4000000 in
theorem l20End (w0 : World) (r q : Nat) (w : World) (hR : Rd w0 r q w) (hq : q ≤ 40000) :
    Calls Try.prog 36 #[.pointer (some ⟨r, 0, none⟩)] w (EndPost w0 r (q + 200)) := by
  go_enter Try.func36, Try.ntmps36
  go_wp2_with fail
  refine (pick w0 r _ 3 w (by omega) hR).mono ?_
  rintro e w1 ⟨u, rfl, u0, u1, hR1, _⟩
  have u2 := u1 (by omega)
  clear u1
  go_wp2_with fail
  refine (pick w0 r _ 30 w1 (by omega) hR1).mono ?_
  rintro e w2 ⟨v, rfl, v0, v1, hR2, _⟩
  have v2 := v1 (by omega)
  clear v1
  have v3 : 0 ≤ v / 29 ∧ v / 29 ≤ 1 := by omega
  go_wp2_with fail
  refine (pick w0 r _ 40 w2 (by omega) hR2).mono ?_
  rintro e w3 ⟨s, rfl, s0, s1, hR3, _⟩
  have s2 := s1 (by omega)
  clear s1
  have s3 : 0 ≤ s / 39 ∧ s / 39 ≤ 1 := by omega
  obtain ⟨T, hT⟩ : ∃ T, 1 + u + v / 29 * 2 - s / 39 * 4 = T := ⟨_, rfl⟩
  have T0 : -3 ≤ T ∧ T ≤ 5 := by omega
  go_wp2_with fail
  clear hT hR hR1 hR2
  refine wp_region_reckon (q0 := q + 3) (table1 w0 r) [(0, .ptr), (5, .int (-3) 5)] mixed (by kernel_rfl) ?_ hR3 (by simp; omega) ?_
  · intro t s h
    rcases look_two h with ⟨rfl, rfl⟩ | ⟨rfl, rfl⟩
    · rfl
    · exact ⟨T, rfl, T0.1, T0.2⟩
  · intro f W hin hold hR' hO
    obtain ⟨y, hy, y1, y2⟩ := hin 6 (.int 0 25) (by kernel_rfl)
    have hp : f 0 = .pointer (some ⟨r, 0, none⟩) := hold 0 (by decide)
    have ht : f 5 = .int .i64 T := hold 5 (by decide)
    simp only [List.size_toArray, List.length_cons, List.length_nil, Nat.reduceAdd, List.range, List.range.loop, List.map_cons, List.map_nil]
    rw [hy, hp, ht]
    clear hin hold hp ht hy hR3 hO
    generalize f 1 = f1, f 2 = f2, f 3 = f3, f 4 = f4, f 7 = f7, f 8 = f8, f 9 = f9, f 10 = f10, f 11 = f11, f 12 = f12, f 13 = f13, f 14 = f14, f 15 = f15, f 16 = f16, f 17 = f17, f 18 = f18, f 19 = f19, f 20 = f20,
      f 21 = f21, f 22 = f22, f 23 = f23, f 24 = f24, f 25 = f25, f 26 = f26, f 27 = f27, f 28 = f28, f 29 = f29, f 30 = f30, f 31 = f31, f 32 = f32, f 33 = f33, f 34 = f34, f 35 = f35, f 36 = f36, f 37 = f37, f 38 = f38, f 39 = f39, f 40 = f40,
      f 41 = f41, f 42 = f42, f 43 = f43, f 44 = f44, f 45 = f45, f 46 = f46, f 47 = f47, f 48 = f48, f 49 = f49, f 50 = f50, f 51 = f51, f 52 = f52, f 53 = f53, f 54 = f54, f 55 = f55, f 56 = f56, f 57 = f57, f 58 = f58, f 59 = f59, f 60 = f60,
      f 61 = f61, f 62 = f62, f 63 = f63, f 64 = f64
    go_wp2_with fail
    refine (pick w0 r _ 250 W (by simp; omega) hR').mono ?_
    rintro e w4 ⟨c, rfl, c0, c1, hR4, _⟩
    have c2 := c1 (by omega)
    clear c1
    have hlt4 := hR4.lt
    go_wp2_with fail
    have hR5 := hR4.over ((Below.refl (r + 1) w4).alloc (by omega) (.cells #[.int .i64 0, .int .i64 1, .int .i64 5, .int .i64 25, .int .i64 76, .int .i64 376, .int .i64 625, .int .i64 c] 3))
    refine (pick w0 r _ 8 _ (by simp; omega) hR5).mono ?_
    rintro e w5 ⟨i, rfl, i0, i1, hR6, hO6⟩
    have i2 := i1 (by omega)
    clear i1
    obtain ⟨I, rfl⟩ : ∃ I : Nat, i = (I : Int) := ⟨i.toNat, by omega⟩
    obtain ⟨X, hX, X0, X1⟩ : ∃ X : Int, w5.cell? ⟨w4.heap.size, I, none⟩ = some (.int .i64 X) ∧ 0 ≤ X ∧ X ≤ 65535 := by
      have hall : ∀ j, j < 8 → ∃ X : Int, (w4.alloc (.cells #[.int .i64 0, .int .i64 1, .int .i64 5, .int .i64 25, .int .i64 76, .int .i64 376, .int .i64 625, .int .i64 c] 3)).cell? ⟨w4.heap.size, j, none⟩ = some (.int .i64 X) ∧ 0 ≤ X ∧ X ≤ 65535 := fun j hj => by
        rcases (show j = 0 ∨ j = 1 ∨ j = 2 ∨ j = 3 ∨ j = 4 ∨ j = 5 ∨ j = 6 ∨ j = 7 by omega) with rfl | rfl | rfl | rfl | rfl | rfl | rfl | rfl
        · exact ⟨0, by rw [World.cell?_alloc_new]; rfl, by omega, by omega⟩
        · exact ⟨1, by rw [World.cell?_alloc_new]; rfl, by omega, by omega⟩
        · exact ⟨5, by rw [World.cell?_alloc_new]; rfl, by omega, by omega⟩
        · exact ⟨25, by rw [World.cell?_alloc_new]; rfl, by omega, by omega⟩
        · exact ⟨76, by rw [World.cell?_alloc_new]; rfl, by omega, by omega⟩
        · exact ⟨376, by rw [World.cell?_alloc_new]; rfl, by omega, by omega⟩
        · exact ⟨625, by rw [World.cell?_alloc_new]; rfl, by omega, by omega⟩
        · exact ⟨c, by rw [World.cell?_alloc_new]; rfl, by omega, by omega⟩
      obtain ⟨X, h1, h2, h3⟩ := hall I (by omega)
      exact ⟨X, hO6.cell h1 (by simp; omega), h2, h3⟩
    have hi8 : (I : Int) < 8 := by omega
    have hi8' : I < 8 := by omega
    clear hR4 hR5 hR' hO6
    go_wp2_with fail
    refine (specEndsOf T y w5).mono ?_
    rintro e w6 ⟨vl, rfl, hr, b6⟩
    have hlt5 := hR6.lt
    have hR7 := hR6.over (b6.mono (by omega))
    have hrng := Pl.endsA_range T y
    have hln := Pl.endsA_len T y
    generalize Pl.endsA T y = E at *
    have HRNG := Lib.hid hrng
    clear hrng hR6 b6 hX
    by_cases hE : 1 ≤ E.length
    · obtain ⟨g, lc, rfl, hg, hgl, _, _, hc⟩ := hr.lies hE
      have HC := Lib.hid hc
      have hi : (0 : Int) < (E.length : Int) := by omega
      clear hr hc
      go_wp2_with fail
      refine (pick w0 r _ 2 w6 (by simp; omega) hR7).mono ?_
      rintro e w7 ⟨s, rfl, s0, s1, hR8, hO8⟩
      have s2 := s1 (by omega)
      clear s1
      by_cases hs : s = 0
      · subst hs
        go_wp2_with fail
        refine (pick w0 r _ (E.length : Int) w7 (by simp; omega) hR8).mono ?_
        rintro e w8 ⟨j, rfl, j0, j1, hR9, hO9⟩
        have j2 := j1 (by omega)
        clear j1
        obtain ⟨J, rfl⟩ : ∃ J : Nat, j = (J : Int) := ⟨j.toNat, by omega⟩
        have hJ : J < E.length := by omega
        have hcj := hO9.cell (hO8.cell (HC.out J hJ) (by simp; omega)) (by simp; omega)
        obtain ⟨z1, z2⟩ := HRNG.out J
        generalize E[J]?.getD 0 = Z at *
        go_wp2_with fail
        refine (pick w0 r _ 40 w8 (by simp; omega) hR9).mono ?_
        rintro e w9 ⟨m, rfl, m0, m1, hR10, _⟩
        have m2 := m1 (by omega)
        clear m1
        have m3 : 0 ≤ m / 39 ∧ m / 39 ≤ 1 := by omega
        go_wp2
        (try simp only [Exit.inBlock, Exit.then])
        refine bodyPost_ret (results_tmp3 rfl _ _ _) rfl ?_
        exact ⟨_, T, y, rfl, by constructor <;> omega, T0, by omega, hR10.le (by simp)⟩
      · have hs' : (s == 0) = false := by simpa using hs
        go_wp2_with fail
        refine (pick w0 r _ 40 w7 (by simp; omega) hR8).mono ?_
        rintro e w9 ⟨m, rfl, m0, m1, hR10, _⟩
        have m2 := m1 (by omega)
        clear m1
        have m3 : 0 ≤ m / 39 ∧ m / 39 ≤ 1 := by omega
        go_wp2
        (try simp only [Exit.inBlock, Exit.then])
        refine bodyPost_ret (results_tmp3 rfl _ _ _) rfl ?_
        exact ⟨_, T, y, rfl, by constructor <;> omega, T0, by omega, hR10.le (by simp)⟩
    · obtain ⟨a', cap', rfl⟩ := hr.shape
      have hi : ¬ (0 : Int) < (E.length : Int) := by omega
      clear hr
      go_wp2_with fail
      refine (pick w0 r _ 40 w6 (by simp; omega) hR7).mono ?_
      rintro e w9 ⟨m, rfl, m0, m1, hR10, _⟩
      have m2 := m1 (by omega)
      clear m1
      have m3 : 0 ≤ m / 39 ∧ m / 39 ≤ 1 := by omega
      go_wp2
      (try simp only [Exit.inBlock, Exit.then])
      refine bodyPost_ret (results_tmp3 rfl _ _ _) rfl ?_
      exact ⟨_, T, y, rfl, by constructor <;> omega, T0, by omega, hR10.le (by simp)⟩

/-- A number, a number of digits and a base. -/
def EndDraw (w : World) (e : Ending) (w' : World) : Prop :=
  ∃ n t y : Int, e = .returned (.tuple #[.int .i64 n, .int .i64 t, .int .i64 y]) ∧ (-9 ≤ n ∧ n ≤ 65535) ∧ (-3 ≤ t ∧ t ≤ 5) ∧ (0 ≤ y ∧ y ≤ 25) ∧ Below w.heap.size w w'

set_option maxHeartbeats 400000 in
theorem drawEndOk (a : Option Addr) (len cap : Nat) (z : List Int) (w : World) (h : IsRow .u8 w a len cap z) :
    Calls Try.prog 13 #[.slice a len cap] w (EndDraw w) := by
  go_enter Try.func13, Try.ntmps13
  go_wp2_with (go_at_call 37; refine (l20Open _ _ _ _ _ h).mono ?_; rintro e w1 ⟨r, rfl, hr⟩)
  refine (l20End w r 0 w1 hr (by omega)).mono ?_
  rintro e w2 ⟨n, t, y, rfl, hn, ht, hy, hr2⟩
  go_wp2
  go_ret3
  exact ⟨n, t, y, rfl, hn, ht, hy, hr2.below⟩

set_option maxHeartbeats 400000 in
theorem drawOtherEnd (a : Option Addr) (len cap : Nat) (z : List Int) (w : World) (h : IsRow .u8 w a len cap z) :
    Calls Try.prog 24 #[.slice a len cap] w (EndDraw w) := by
  go_enter Try.func24, Try.ntmps24
  go_wp2_with (go_at_call 37; refine (l20Open _ _ _ _ _ h).mono ?_; rintro e w1 ⟨r, rfl, hr⟩)
  refine (l20End w r 0 w1 hr (by omega)).mono ?_
  rintro e w2 ⟨n, t, y, rfl, hn, ht, hy, hr2⟩
  go_wp2
  go_ret3
  exact ⟨n, t, y, rfl, hn, ht, hy, hr2.below⟩

set_option maxHeartbeats 400000 in
theorem drawLongerEnd (a : Option Addr) (len cap : Nat) (z : List Int) (w : World) (h : IsRow .u8 w a len cap z) :
    Calls Try.prog 27 #[.slice a len cap] w (EndDraw w) := by
  go_enter Try.func27, Try.ntmps27
  go_wp2_with (go_at_call 37; refine (l20Open _ _ _ _ _ h).mono ?_; rintro e w1 ⟨r, rfl, hr⟩)
  refine (l20End w r 0 w1 hr (by omega)).mono ?_
  rintro e w2 ⟨n, t, y, rfl, hn, ht, hy, hr2⟩
  go_wp2
  go_ret3
  exact ⟨n, t, y, rfl, hn, ht, hy, hr2.below⟩

set_option maxHeartbeats 400000 in
theorem drawEndsOf (a : Option Addr) (len cap : Nat) (z : List Int) (w : World) (h : IsRow .u8 w a len cap z) :
    Calls Try.prog 17 #[.slice a len cap] w fun e w' => ∃ t y : Int, e = .returned (.tuple #[.int .i64 t, .int .i64 y]) ∧ (-3 ≤ t ∧ t ≤ 5) ∧ (0 ≤ y ∧ y ≤ 25) ∧ Below w.heap.size w w' := by
  go_enter Try.func17, Try.ntmps17
  go_wp2_with (go_at_call 37; refine (l20Open _ _ _ _ _ h).mono ?_; rintro e w1 ⟨r, rfl, hr⟩)
  refine (l20End w r 0 w1 hr (by omega)).mono ?_
  rintro e w2 ⟨n, t, y, rfl, hn, ht, hy, hr2⟩
  go_wp2
  go_ret2
  exact ⟨t, y, rfl, ht, hy, hr2.below⟩

set_option maxHeartbeats 400000 in
theorem drawPrimesOf (a : Option Addr) (len cap : Nat) (z : List Int) (w : World) (h : IsRow .u8 w a len cap z) :
    Calls Try.prog 30 #[.slice a len cap] w fun e w' => ∃ y : Int, e = .returned (.int .i64 y) ∧ (-1 ≤ y ∧ y ≤ 17) ∧ Below w.heap.size w w' := by
  go_enter Try.func30, Try.ntmps30
  go_wp2_with (go_at_call 37; refine (l20Open _ _ _ _ _ h).mono ?_; rintro e w1 ⟨r, rfl, hr⟩)
  refine (pick w r _ 19 w1 (by omega) hr).mono ?_
  rintro e w2 ⟨u, rfl, u0, u1, hr2, _⟩
  have u2 := u1 (by omega)
  clear u1
  go_wp2
  go_ret
  exact ⟨_, rfl, by constructor <;> omega, hr2.below⟩

end Go.Proofs.Ytgdgafoaangmkaa
