/-
  DrawWholeOf: a row of digits and a base.
-/
import Derived.Test.YtalcmadoledfnaaDraws2
namespace Go.Proofs.Ytalcmadoledfnaa
open Go.RowKit Go.Shelf

theorem Row.only {r : Nat} {w w' : World} {v : Value} {xs : List Int} (h : Row (r + 1) w v xs) (ho : Only r w w') : Row (r + 1) w' v xs := by
  rcases h with ⟨h1, h2 | ⟨g, cap, cur, hv, hg, hh, rest⟩⟩
  · exact ⟨h1, .inl h2⟩
  · exact ⟨h1, .inr ⟨g, cap, cur, hv, hg, by rw [ho.block g (lt_of_heap hh) (by omega)]; exact hh, rest⟩⟩

theorem Rd.over {w0 : World} {r q : Nat} {w w' : World} (h : Rd w0 r q w) (hb : Below (r + 1) w w') : Rd w0 r q w' := by
  obtain ⟨a, len, cap, zs, p, hp, h1, h2, h3, h4, h5, h6, h7, h8⟩ := h
  exact ⟨a, len, cap, zs, p, hp, h1, Nat.lt_of_lt_of_le h2 hb.size, (hb.cell (p := ⟨r, 0, none⟩) (by simp)).trans h3, (hb.cell (p := ⟨r, 1, none⟩) (by simp)).trans h4, (hb.frozen (p := ⟨r, 1, none⟩) (by simp)).trans h5, h6, h7,
    h8.trans (hb.mono (by omega))⟩

theorem Rd.lt {w0 : World} {r q : Nat} {w : World} (h : Rd w0 r q w) : w0.heap.size ≤ r ∧ r < w.heap.size := by
  obtain ⟨_, _, _, _, _, _, h1, h2, _⟩ := h; exact ⟨h1, h2⟩

set_option maxHeartbeats 400000 in
theorem odd (w0 : World) (r q : Nat) (n : Int) (w : World) (hR : Rd w0 r q w) (hq : q ≤ 50000) (hn : 1 ≤ n) (hn' : n ≤ 1000000) :
    Calls Try.prog 48 #[.pointer (some ⟨r, 0, none⟩), .int .i64 n] w fun e w' => ∃ b : Bool, e = .returned (.bool b) ∧ Rd w0 r (q + 1) w' ∧ Only r w w' := by
  go_enter Try.func48, Try.ntmps48
  go_wp2_with (go_at_call 40; refine (pick w0 r q n w (by omega) hR).mono ?_; rintro e w1 ⟨x, rfl, x0, x1, hR1, hO⟩)
  go_ret
  exact ⟨_, rfl, hR1, hO⟩

/-- A row and a base. -/
def RowPost (w : World) (e : Ending) (w' : World) : Prop :=
  ∃ (v : Value) (xs : List Int) (y : Int), e = .returned (.tuple #[v, .int .i64 y]) ∧ Row w.heap.size w' v xs ∧ xs.length ≤ 20 ∧ (-20 ≤ y ∧ y ≤ 40) ∧ Below w.heap.size w w'

set_option maxHeartbeats 2000000 in
theorem drawWholeOf (a : Option Addr) (len cap : Nat) (z : List Int) (w : World) (h : IsRow .u8 w a len cap z) :
    Calls Try.prog 24 #[.slice a len cap] w (RowPost w) := by
  obtain ⟨i0, hi0, hz0, hz1, hz2⟩ := info_parts info_int
  go_enter Try.func24, Try.ntmps24
  go_wp2_with (go_at_call 39; refine (l20Open _ _ _ _ _ h).mono ?_; rintro e w1 ⟨r, rfl, hr⟩)
  clear h
  refine (l20Base w r 0 w1 hr (by omega)).mono ?_
  rintro e w2 ⟨y, rfl, y1, y2, hr2, hO2⟩
  have hlt := hr2.lt
  go_wp2_with fail
  have hr3 := hr2.over ((Below.refl (r + 1) w2).alloc (by omega) (.cells #[] 3))
  refine (pick w r _ 9 _ (by omega) hr3).mono ?_
  rintro e w3 ⟨x, rfl, x0, x1, hr4, hO3⟩
  have hrow : Row (r + 1) w3 (.slice (some ⟨w2.heap.size, 0, none⟩) 0 0) [] := by
    refine Row.only ?_ hO3
    exact World.ownsRow_lit w2 #[] 0 (by omega) (by unfold maxLen; omega) (by simp)
  go_wp2_with fail
  have hx9 := x1 (by omega)
  clear hr hr2 hO2 hr3 hO3 x1
  obtain ⟨X, rfl⟩ := Int.eq_ofNat_of_zero_le x0
  have hwr : w.heap.size ≤ r + 1 := by omega
  go_loopw [6, 7] (fun o k wr => ∃ (vv : Value) (xs : List Int) (j : Nat), vv = o ∧ j ≤ 9 ∧ k = .int .i64 j ∧ Row (r + 1) wr vv xs ∧ xs.length + j ≤ 9 ∧ ∃ q, q + 2 * j ≤ 2000 ∧ Rd w r q wr) (fun _ k _ => (intOf k).toNat)
  case atStart => exact ⟨_, [], X, rfl, by omega, rfl, hrow, by simp; omega, _, by omega, hr4⟩
  case round =>
    obtain ⟨vv, xs, j, rfl, hj, rfl, hrw, hxs, q, hq, hR⟩ := hrel
    have hrl := hR.lt
    by_cases hpos : 0 < j
    · by_cases hy : 1 ≤ y
      · skip
        have hr' : wr.ownsRow (r + 1) 3 1 vv xs.length (xs.map (Value.int .i64)) := hrw
        clear hrow
        go_wp2_with fail
        refine (pick w r q y wr (by omega) hR).mono ?_
        rintro e w4 ⟨u, rfl, u0, u1, hR4, hO4⟩
        have huu := u1 (by omega)
        go_wp2_with fail
        refine (pick w r (q + 1) 40 w4 (by omega) hR4).mono ?_
        rintro e w5 ⟨t, rfl, t0, t1, hR5, hO5⟩
        have htt := t1 (by omega)
        have hrl5 := hR5.lt
        have hr5 : w5.ownsRow (r + 1) 3 1 vv xs.length (xs.map (Value.int .i64)) := Row.only (Row.only hrw hO4) hO5
        clear hr' hR hR4 hO4 hO5 u1 t1 hrw hrl
        go_wp2_with (at_builtin; refine wpList_append_own _ rfl _ _ 28 rfl (r + 1) 3 i0 (.int .i64 0) 1 8 Try.underlying28 hi0 hz0 hz1 hz2 rfl (by decide) _ _ _ rfl (hr5.alloc _) ⟨w5.heap.size, 0, none⟩ 1 1 [.int .i64 (u + t / 39 * 3)] rfl rfl (cell_one_new _ _ _) (by simp [Value.oneCell']) (by unfold maxLen; omega) (by omega) (by simp; omega) ?_; intro v6 w6 hown6 hgrow6 _)
        have hb6 : Below (r + 1) w5 w6 := ((Below.refl (r + 1) w5).alloc (by omega) _).grown hgrow6 (by simp; omega) fun k e => (hr5.lt k e).1
        go_roundw
        case rel => exact ⟨_, xs ++ [u + t / 39 * 3], j - 1, rfl, by omega, by rw [show ((j - 1 : Nat) : Int) = (j : Int) - 1 from by omega], row_snoc hown6, by simp; omega, q + 1 + 1, by omega, hR5.over hb6⟩
        case measure => simp [intOf]; omega
      · have hmax : max y 1 = 1 := by omega
        have hr' : wr.ownsRow (r + 1) 3 1 vv xs.length (xs.map (Value.int .i64)) := hrw
        clear hrow
        go_wp2_with fail
        refine (pick w r q 1 wr (by omega) hR).mono ?_
        rintro e w4 ⟨u, rfl, u0, u1, hR4, hO4⟩
        have huu := u1 (by omega)
        go_wp2_with fail
        refine (pick w r (q + 1) 40 w4 (by omega) hR4).mono ?_
        rintro e w5 ⟨t, rfl, t0, t1, hR5, hO5⟩
        have htt := t1 (by omega)
        have hrl5 := hR5.lt
        have hr5 : w5.ownsRow (r + 1) 3 1 vv xs.length (xs.map (Value.int .i64)) := Row.only (Row.only hrw hO4) hO5
        clear hr' hR hR4 hO4 hO5 u1 t1 hrw hrl
        go_wp2_with (at_builtin; refine wpList_append_own _ rfl _ _ 28 rfl (r + 1) 3 i0 (.int .i64 0) 1 8 Try.underlying28 hi0 hz0 hz1 hz2 rfl (by decide) _ _ _ rfl (hr5.alloc _) ⟨w5.heap.size, 0, none⟩ 1 1 [.int .i64 (u + t / 39 * 3)] rfl rfl (cell_one_new _ _ _) (by simp [Value.oneCell']) (by unfold maxLen; omega) (by omega) (by simp; omega) ?_; intro v6 w6 hown6 hgrow6 _)
        have hb6 : Below (r + 1) w5 w6 := ((Below.refl (r + 1) w5).alloc (by omega) _).grown hgrow6 (by simp; omega) fun k e => (hr5.lt k e).1
        go_roundw
        case rel => exact ⟨_, xs ++ [u + t / 39 * 3], j - 1, rfl, by omega, by rw [show ((j - 1 : Nat) : Int) = (j : Int) - 1 from by omega], row_snoc hown6, by simp; omega, q + 1 + 1, by omega, hR5.over hb6⟩
        case measure => simp [intOf]; omega
    · obtain rfl : j = 0 := by omega
      clear hrow
      obtain ⟨a6, cap6, rfl⟩ := hrw.shape
      have HRW := Lib.hid hrw
      clear hrw
      go_wp2_with fail
      refine (odd w r q 20 wr hR (by omega) (by omega) (by omega)).mono ?_
      rintro e w4 ⟨bb, rfl, hR4, hO4⟩
      have hrow4 := Row.only HRW.out hO4
      cases bb with
      | true =>
        go_wp2
        go_ret2
        refine ⟨_, [1, 0, 0, 0, 0, 0, 0, 0, 0, 0, 0], y, rfl, ?_, by simp, ⟨y1, y2⟩, hR4.below.alloc (by have := hR4.lt; omega) _⟩
        exact World.ownsRow_lit w4 #[.int .i64 1, .int .i64 0, .int .i64 0, .int .i64 0, .int .i64 0, .int .i64 0, .int .i64 0, .int .i64 0, .int .i64 0, .int .i64 0, .int .i64 0] 11 (by have := hR4.lt; omega) (by unfold maxLen; omega) (by simp)
      | false =>
        go_wp2
        go_ret2
        exact ⟨_, xs, y, rfl, hrow4.mono hwr, by omega, ⟨y1, y2⟩, hR4.below⟩

end Go.Proofs.Ytalcmadoledfnaa
