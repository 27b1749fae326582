/-
  The drawing functions of chapter 10.
-/
import Derived.Test.YtcepbhmnbfaoeaaDraws2
namespace Go.Proofs.Ytcepbhmnbfaoeaa
open Go.RowKit Go.Shelf

set_option maxHeartbeats 1000000 in
theorem drawCarriesOf (a : Option Addr) (len cap : Nat) (z : List Int) (w : World) (h : IsRow .u8 w a len cap z) :
    Calls Try.prog 15 #[.slice a len cap] w (ThreePost w) := by
  go_enter Try.func15, Try.ntmps15
  go_wp2_with (go_at_call 37; refine (l20Open _ _ _ _ _ h).mono ?_; rintro e w1 ⟨r, rfl, hr⟩)
  refine (l20Whole w r 0 w1 hr (by omega)).mono ?_
  rintro e w2 ⟨x, rfl, x1, x2, hr2, _⟩
  go_wp2_with fail
  refine (l20Whole w r _ w2 hr2 (by omega)).mono ?_
  rintro e w3 ⟨y, rfl, y1, y2, hr3, _⟩
  go_wp2_with fail
  refine (l20Base w r _ w3 hr3 (by omega)).mono ?_
  rintro e w4 ⟨c, rfl, c1, c2, hr4, _⟩
  go_wp2
  go_ret3
  exact ⟨x, y, c, rfl, ⟨x1, x2⟩, ⟨y1, y2⟩, ⟨c1, c2⟩, hr4.below⟩

set_option maxHeartbeats 400000 in
theorem drawPrimeBaseOk (a : Option Addr) (len cap : Nat) (z : List Int) (w : World) (h : IsRow .u8 w a len cap z) :
    Calls Try.prog 20 #[.slice a len cap] w fun e w' => ∃ x : Int, e = .returned (.int .i64 x) ∧ (-1 ≤ x ∧ x ≤ 17) ∧ Below w.heap.size w w' := by
  go_enter Try.func20, Try.ntmps20
  go_wp2_with (go_at_call 37; refine (l20Open _ _ _ _ _ h).mono ?_; rintro e w1 ⟨r, rfl, hr⟩)
  refine (pick w r _ 19 w1 (by omega) hr).mono ?_
  rintro e w2 ⟨u, rfl, u0, u1, hr2, _⟩
  have u2 := u1 (by omega)
  clear u1
  go_wp2
  go_ret
  exact ⟨_, rfl, by omega, hr2.below⟩

set_option maxRecDepth 100000 in
set_option maxHeartbeats 2000000 in
theorem l20PrimeBase (w0 : World) (r q : Nat) (w : World) (hR : Rd w0 r q w) (hq : q ≤ 90000) :
    Calls Try.prog 45 #[.pointer (some ⟨r, 0, none⟩)] w fun e w' => ∃ x : Int, e = .returned (.int .i64 x) ∧ (2 ≤ x ∧ x ≤ 13) ∧ Rd w0 r (q + 1) w' := by
  have hlt := hR.lt
  go_enter Try.func45, Try.ntmps45
  go_wp2_with fail
  have hR5 := hR.over ((Below.refl (r + 1) w).alloc (by omega) (.cells #[.int .i64 2, .int .i64 3, .int .i64 5, .int .i64 7, .int .i64 11, .int .i64 13, .int .i64 4, .int .i64 2, .int .i64 3] 3))
  refine (pick w0 r _ 9 _ (by omega) hR5).mono ?_
  rintro e w5 ⟨i, rfl, i0, i1, hR6, hO6⟩
  have i2 := i1 (by omega)
  clear i1
  obtain ⟨I, rfl⟩ : ∃ I : Nat, i = (I : Int) := ⟨i.toNat, by omega⟩
  obtain ⟨X, hX, X0, X1⟩ : ∃ X : Int, w5.cell? ⟨w.heap.size, I, none⟩ = some (.int .i64 X) ∧ 2 ≤ X ∧ X ≤ 13 := by
    have hall : ∀ j, j < 9 → ∃ X : Int, (w.alloc (.cells #[.int .i64 2, .int .i64 3, .int .i64 5, .int .i64 7, .int .i64 11, .int .i64 13, .int .i64 4, .int .i64 2, .int .i64 3] 3)).cell? ⟨w.heap.size, j, none⟩ = some (.int .i64 X) ∧ 2 ≤ X ∧ X ≤ 13 := fun j hj => by
      rcases (show j = 0 ∨ j = 1 ∨ j = 2 ∨ j = 3 ∨ j = 4 ∨ j = 5 ∨ j = 6 ∨ j = 7 ∨ j = 8 by omega) with rfl | rfl | rfl | rfl | rfl | rfl | rfl | rfl | rfl
      · exact ⟨2, by rw [World.cell?_alloc_new]; rfl, by omega, by omega⟩
      · exact ⟨3, by rw [World.cell?_alloc_new]; rfl, by omega, by omega⟩
      · exact ⟨5, by rw [World.cell?_alloc_new]; rfl, by omega, by omega⟩
      · exact ⟨7, by rw [World.cell?_alloc_new]; rfl, by omega, by omega⟩
      · exact ⟨11, by rw [World.cell?_alloc_new]; rfl, by omega, by omega⟩
      · exact ⟨13, by rw [World.cell?_alloc_new]; rfl, by omega, by omega⟩
      · exact ⟨4, by rw [World.cell?_alloc_new]; rfl, by omega, by omega⟩
      · exact ⟨2, by rw [World.cell?_alloc_new]; rfl, by omega, by omega⟩
      · exact ⟨3, by rw [World.cell?_alloc_new]; rfl, by omega, by omega⟩
    obtain ⟨X, h1, h2, h3⟩ := hall I (by omega)
    exact ⟨X, hO6.cell h1 (by simp; omega), h2, h3⟩
  have hi8 : (I : Int) < 9 := by omega
  have hi8' : I < 9 := by omega
  clear hR5 hO6
  go_wp2_with fail
  go_ret
  exact ⟨X, rfl, ⟨X0, X1⟩, hR6⟩

set_option maxHeartbeats 400000 in
theorem drawProductOften (a : Option Addr) (len cap : Nat) (z : List Int) (w : World) (h : IsRow .u8 w a len cap z) :
    Calls Try.prog 25 #[.slice a len cap] w fun e w' => ∃ x y : Int, e = .returned (.tuple #[.int .i64 x, .int .i64 y]) ∧ (-2000000000 ≤ x ∧ x ≤ 2000000000) ∧ (2 ≤ y ∧ y ≤ 13) ∧ Below w.heap.size w w' := by
  go_enter Try.func25, Try.ntmps25
  go_wp2_with (go_at_call 37; refine (l20Open _ _ _ _ _ h).mono ?_; rintro e w1 ⟨r, rfl, hr⟩)
  refine (l20Whole w r 0 w1 hr (by omega)).mono ?_
  rintro e w2 ⟨x, rfl, x1, x2, hr2, _⟩
  go_wp2_with fail
  refine (l20PrimeBase w r _ w2 hr2 (by omega)).mono ?_
  rintro e w3 ⟨y, rfl, hy, hr3⟩
  go_wp2
  go_ret2
  exact ⟨x, y, rfl, ⟨x1, x2⟩, hy, hr3.below⟩

set_option maxHeartbeats 1000000 in
theorem l20Choice (w0 : World) (r q : Nat) (w : World) (hR : Rd w0 r q w) (hq : q ≤ 30000) :
    Calls Try.prog 47 #[.pointer (some ⟨r, 0, none⟩)] w fun e w' => ∃ n k p : Int, e = .returned (.tuple #[.int .i64 n, .int .i64 k, .int .i64 p]) ∧ (0 ≤ n ∧ n ≤ 259) ∧ (-200 ≤ k ∧ k ≤ 518) ∧ (2 ≤ p ∧ p ≤ 13) ∧ Rd w0 r (q + 7) w' := by
  go_enter Try.func47, Try.ntmps47
  go_wp2_with fail
  refine (pick w0 r _ 60 w (by omega) hR).mono ?_
  rintro e w1 ⟨u, rfl, u0, u1, hR1, _⟩
  have u2 := u1 (by omega)
  clear u1
  go_wp2_with fail
  refine (pick w0 r _ 4 w1 (by omega) hR1).mono ?_
  rintro e w2 ⟨v, rfl, v0, v1, hR2, _⟩
  have v2 := v1 (by omega)
  clear v1
  have v3 : 0 ≤ v / 3 ∧ v / 3 ≤ 1 := by omega
  go_wp2_with fail
  refine (pick w0 r _ 40 w2 (by omega) hR2).mono ?_
  rintro e w3 ⟨s, rfl, s0, s1, hR3, _⟩
  have s2 := s1 (by omega)
  clear s1
  have s3 : 0 ≤ s / 39 ∧ s / 39 ≤ 1 := by omega
  obtain ⟨N, hN⟩ : ∃ N, u + v / 3 * 100 + s / 39 * 100 = N := ⟨_, rfl⟩
  have N0 : 0 ≤ N ∧ N ≤ 259 := by omega
  have hNw : IntKind.i64.wrap (N + 1) = N + 1 := IntWalk.i64_in _ (by omega)
  go_wp2_with fail
  refine (pick w0 r _ _ w3 (by omega) hR3).mono ?_
  rintro e w4 ⟨c, rfl, c0, c1, hR4, _⟩
  have c2 := c1 (by omega)
  clear c1
  go_wp2_with fail
  refine (pick w0 r _ 30 w4 (by omega) hR4).mono ?_
  rintro e w5 ⟨d, rfl, d0, d1, hR5, _⟩
  have d2 := d1 (by omega)
  clear d1
  have d3 : d / 29 = 0 ∨ d / 29 = 1 := by omega
  obtain ⟨C, hC⟩ : ∃ C, d / 29 * N = C := ⟨_, rfl⟩
  have hC1 : 0 ≤ C ∧ C ≤ 259 := by
    rcases d3 with h | h
    · rw [h] at hC; omega
    · rw [h] at hC; omega
  have hCw : IntKind.i64.wrap (d / 29 * N) = C := by rw [hC]; exact IntWalk.i64_in _ (by omega)
  clear hC
  go_wp2_with fail
  refine (pick w0 r _ 40 w5 (by omega) hR5).mono ?_
  rintro e w6 ⟨t, rfl, t0, t1, hR6, _⟩
  have t2 := t1 (by omega)
  clear t1
  have t3 : 0 ≤ t / 39 ∧ t / 39 ≤ 1 := by omega
  go_wp2_with fail
  refine (l20PrimeBase w0 r _ w6 hR6 (by omega)).mono ?_
  rintro e w7 ⟨p, rfl, hp, hR7⟩
  go_wp2
  go_ret3
  exact ⟨N, _, p, rfl, N0, by constructor <;> omega, hp, hR7.le (by omega)⟩

/-- A choice and a base. -/
def ChoiceDraw (w : World) (e : Ending) (w' : World) : Prop :=
  ∃ n k p : Int, e = .returned (.tuple #[.int .i64 n, .int .i64 k, .int .i64 p]) ∧ (0 ≤ n ∧ n ≤ 259) ∧ (-200 ≤ k ∧ k ≤ 518) ∧ (2 ≤ p ∧ p ≤ 13) ∧ Below w.heap.size w w'

set_option maxHeartbeats 400000 in
theorem drawChoiceOften (a : Option Addr) (len cap : Nat) (z : List Int) (w : World) (h : IsRow .u8 w a len cap z) :
    Calls Try.prog 28 #[.slice a len cap] w (ChoiceDraw w) := by
  go_enter Try.func28, Try.ntmps28
  go_wp2_with (go_at_call 37; refine (l20Open _ _ _ _ _ h).mono ?_; rintro e w1 ⟨r, rfl, hr⟩)
  refine (l20Choice w r 0 w1 hr (by omega)).mono ?_
  rintro e w2 ⟨n, k, p, rfl, hn, hk, hp, hr2⟩
  go_wp2
  go_ret3
  exact ⟨n, k, p, rfl, hn, hk, hp, hr2.below⟩

set_option maxHeartbeats 400000 in
theorem drawChoiceRest (a : Option Addr) (len cap : Nat) (z : List Int) (w : World) (h : IsRow .u8 w a len cap z) :
    Calls Try.prog 32 #[.slice a len cap] w (ChoiceDraw w) := by
  go_enter Try.func32, Try.ntmps32
  go_wp2_with (go_at_call 37; refine (l20Open _ _ _ _ _ h).mono ?_; rintro e w1 ⟨r, rfl, hr⟩)
  refine (l20Choice w r 0 w1 hr (by omega)).mono ?_
  rintro e w2 ⟨n, k, p, rfl, hn, hk, hp, hr2⟩
  go_wp2
  go_ret3
  exact ⟨n, k, p, rfl, hn, hk, hp, hr2.below⟩

set_option maxHeartbeats 400000 in
theorem drawNoughtsAtEnd (a : Option Addr) (len cap : Nat) (z : List Int) (w : World) (h : IsRow .u8 w a len cap z) :
    Calls Try.prog 34 #[.slice a len cap] w (BothPost w) := by
  go_enter Try.func34, Try.ntmps34
  go_wp2_with (go_at_call 37; refine (l20Open _ _ _ _ _ h).mono ?_; rintro e w1 ⟨r, rfl, hr⟩)
  refine (l20Both w r 0 w1 hr (by omega)).mono ?_
  rintro e w2 ⟨x, y, rfl, hx, hy, hr2, _⟩
  go_wp2
  go_ret2
  exact ⟨x, y, rfl, hx, hy, hr2.below⟩

end Go.Proofs.Ytcepbhmnbfaoeaa
